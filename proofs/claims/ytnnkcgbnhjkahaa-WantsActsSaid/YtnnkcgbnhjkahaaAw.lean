/- The walk of the statement WantsActs. Conditions: what the words say. -/
import Derived.Test.YtnnkcgbnhjkahaaAu
import Derived.Test.YtnnkcgbnhjkahaaAj
import Derived.Test.YtnnkcgbnhjkahaaAm
import Derived.Test.YtnnkcgbnhjkahaaAo
namespace Go.Proofs.Ytnnkcgbnhjkahaa
open Go.RowKit Go.Lib Go.Sort Go.Deep

theorem Chg.more {F F' : Nat → Prop} {w w' : World} (h : Chg F w w') (hF : ∀ k, F k → F' k) : Chg F' w w' := ⟨h.os, h.tape, h.output, h.size, fun k hk hn => h.block k hk (fun hf => hn (hF k hf))⟩
theorem keepX {F : Nat → Prop} {w w' : World} {X : Nat} {t : TypeId} {cs : Array Value} (K : Blk w X t cs) (hX : ¬ F X) (hc : Chg F w w') : (∀ o, w'.cell? ⟨X, o, none⟩ = w.cell? ⟨X, o, none⟩) ∧ X < w'.heap.size :=
  ⟨fun o => by rw [(K.chg hc hX).cell, K.cell], Nat.lt_of_lt_of_le K.lt hc.size⟩
/-- The program's list and the reference's, of the same heads, on blocks of their own. -/
structure Two15 (w : World) (bw p b g : Nat) (S : List Hd) (F : Nat → Prop) : Prop where
  pw : PwIs w p b S
  rw : ∃ lo, RwIs w lo g S F ∧ bw ≤ lo ∧ p < lo ∧ b < lo
  pb : bw ≤ p ∧ bw ≤ b
  age : ∀ y ∈ S, ageB y = true
theorem Two15.chg {w w' : World} {bw p b g : Nat} {S : List Hd} {F F' : Nat → Prop} (h : Two15 w bw p b g S F) (hc : Chg F' w w') (hp : ¬ F' p) (hb : ¬ F' b) (hF : ∀ q, F q → ¬ F' q) : Two15 w' bw p b g S F := by
  obtain ⟨h1, ⟨lo, h2, h3⟩, h4, h5⟩ := h
  exact ⟨h1.chg hc hp hb, ⟨lo, h2.chg hc hF, h3⟩, h4, h5⟩
theorem Two15.below {w w' : World} {bw p b g : Nat} {S : List Hd} {F : Nat → Prop} (h : Two15 w bw p b g S F) (hb : Below w.heap.size w w') : Two15 w' bw p b g S F := h.chg (F' := fun _ => False) (Chg.of_below hb) (fun h => h) (fun h => h) (fun _ _ h => h)
theorem keepY {F : Nat → Prop} {w w' : World} {X G : Nat} {t : TypeId} {cs : Array Value} (K : Blk w X t cs) (hX : ¬ F X) (hG : G < w.heap.size) (hGF : ¬ F G) (hc : Chg F w w') : ((∀ o, w'.cell? ⟨X, o, none⟩ = w.cell? ⟨X, o, none⟩) ∧ X < w'.heap.size) ∧ (∀ o, w'.cell? ⟨G, o, none⟩ = w.cell? ⟨G, o, none⟩) :=
  ⟨keepX K hX hc, fun o => World.cell?_of_block (a := ⟨G, o, none⟩) (hc.block G hG hGF)⟩
theorem own_ne_act {w : World} {g : Nat} {v : Value} {a b : Value} (h1 : Blk w g 29 #[v]) (h2 : Blk w g 31 #[a, b]) : False := by
  have e1 : w.heap[g]? = some (.cells #[v] 29 (0, 0)) := h1
  have e2 : w.heap[g]? = some (.cells #[a, b] 31 (0, 0)) := h2
  rw [e1] at e2
  injection e2 with e2
  injection e2 with e3 e4
  revert e4
  decide
/-- What stands behind may. -/
def MayCut (n : Nat) (L : List Hd) (v : Value) : Prop := ∃ t : Bool, v = .bool t ∧ (t = false → n ≤ 50 ∧ ∀ x ∈ L, ageB x = true)
/-- Behind a step of both. -/
theorem Two15.step {w w1 w2 : World} {bw p b g lo : Nat} {S S' : List Hd} {F : Nat → Prop} (h : Two15 w bw p b g S F) (hlo : RwIs w lo g S F ∧ bw ≤ lo ∧ p < lo ∧ b < lo) (hp : PwIs w1 p b S') (hc : Chg (fun q => q = b) w w1) (hr : RefQ w1 lo g S' F w2) (ha : ∀ y ∈ S', ageB y = true) (hw : bw ≤ w.heap.size) :
    ∃ F', Two15 w2 bw p b g S' F' ∧ Below bw w w2 ∧ (∀ q, F' q → F q ∨ w.heap.size ≤ q) ∧ Chg (fun q => q = b ∨ F q) w w2 := by
  obtain ⟨F', hr1, hc1, hf1⟩ := hr
  have hFlo : ∀ q, F q → lo ≤ q := fun q hq => (hlo.1.foot hq).1
  have hC : Chg (fun q => q = b ∨ F q) w w2 := (hc.more (fun q hq => .inl hq)).trans (hc1.more (F' := fun q => q = b ∨ F q) (fun q hq => .inr hq)) (fun q hq => .inl hq)
  refine ⟨F', ⟨hp.chg hc1 (fun hq => by have := hFlo p hq; omega) (fun hq => by have := hFlo b hq; omega), ⟨lo, hr1, hlo.2⟩, h.pb, ha⟩, ?_, fun q hq => ?_, hC⟩
  · refine hC.to_below (fun q hq => ?_) hw
    rcases hq with rfl | hq
    · exact h.pb.2
    · exact Nat.le_trans hlo.2.1 (hFlo q hq)
  · rcases hf1 q hq with h | h
    · exact .inl h
    · exact .inr (Nat.le_trans hc.size h)
set_option maxRecDepth 20000 in
set_option maxHeartbeats 64000000 in
theorem acts15_walk {w : World} {A : Option Addr} {n c : Nat} {L : List Ac15} (hL : Acs15 w w.heap.size A n L) (hn : n ≤ maxLen) :
    Calls Try.prog 3 #[.slice A n c] w fun e w' => e = .returned (.bool true) ∧ Below w.heap.size w w' := by
  unfold maxLen at hn
  generalize hQ : (fun (e : Ending) (w' : World) => e = .returned (.bool true) ∧ Below w.heap.size w w') = Q
  have HQ := Lib.hid hQ
  have HT := Lib.hid hL
  have mixed : Try.prog.follows .mixedOrders = true := by kernel_rfl
  clear hQ hL
  go_enter Try.func3, Try.ntmps3
  go_wp2_with fail
  refine (wakes_any _).mono ?_
  rintro e1 w1 ⟨rfl, hb1⟩
  have B1 := Lib.hid hb1
  clear hb1
  by_cases hn60 : 60 < n
  · have hn' : (60 : Int) < n := by omega
    go_wp2
    show Q (.returned (.bool true)) w1
    rw [← HQ.out]
    exact ⟨rfl, B1.out⟩
  have hn' : ¬ (60 : Int) < n := by omega
  go_wp2_with fail
  refine (new_w _).mono ?_
  rintro e2 w2 ⟨p, b, rfl, hb2, hp2, hpl, hbl⟩
  have b0 : ∀ W, (Instr.build 29 #[]).run Try.prog W = .ok (.agg #[.slice none 0 0]) W := fun W => by kernel_rfl
  have hs1 := B1.out.size
  have hs2 := hb2.size
  have B3 := Lib.hid ((B1.out.trans (hb2.mono hs1)).alloc (by omega) (.cells #[.slice none 0 0] 29))
  have HB3 := Lib.hid (show ∃ F, Two15 (w2.alloc (.cells #[.slice none 0 0] 29)) w.heap.size p b w2.heap.size [] F from ⟨fun q => q = w2.heap.size ∨ (Value.slice none 0 0).ownBlock = some q, hp2.below ((Below.refl _ _).alloc (Nat.le_refl _) _), ⟨w2.heap.size, ⟨none, 0, 0, Blk.new _ _ _, Nat.le_refl _, World.ownsRow_nil _ _ _ _, fun q => Iff.rfl⟩, by omega, hp2.ltp, hp2.ltb⟩, ⟨by omega, by omega⟩, fun y hy => by cases hy⟩)
  generalize hq : w2.heap.size = g at HB3
  clear hb2 hp2 hpl hbl hs1 hs2 hn60 hn'
  go_wp2_with fail
  generalize w2.alloc (.cells #[.slice none 0 0] 29) = w3 at *
  clear hq b0
  obtain ⟨F0, hB3⟩ := HB3.out
  have HB3 := Lib.hid hB3
  clear hB3
  go_loopw [23] (fun s23 wr => ∃ (k : Nat) (S : List Hd) (F : Nat → Prop), k ≤ n ∧ s23 = .int .i64 k ∧ Hid (Two15 wr w.heap.size p b g S F) ∧ Hid (S.length ≤ 50 * k) ∧ Hid (Below w.heap.size w wr)) (fun i _ => n - (intOf i).toNat)
  case atStart => exact ⟨0, [], F0, Nat.zero_le _, rfl, HB3, Lib.hid (Nat.le_refl _), B3⟩
  case round =>
    clear HB3 B3 B1
    obtain ⟨k, S, F, hk, rfl, HB, HLEN, BW⟩ := hrel
    by_cases hlt : k < n
    · have hlt' : (k : Int) < n := by omega
      obtain ⟨gb, o, a, rfl, hgl, hx, y0, A1, n1, c1, y1, hL1, hwf1, hnc1, hcm1⟩ := Arr.at (HT.out.below BW.out) hlt
      unfold maxLen at hcm1
      have HWF := Lib.hid hwf1
      have HL1 := Lib.hid hL1
      have hz := BW.out.size
      have K0 := Lib.hid (Blk.new wr 31 #[.int .i64 a.kind, .slice A1 n1 c1])
      have BN := Lib.hid ((Below.refl wr.heap.size wr).alloc (Nat.le_refl _) (.cells #[.int .i64 a.kind, .slice A1 n1 c1] 31))
      have BX := Lib.hid (BW.out.alloc hz (.cells #[.int .i64 a.kind, .slice A1 n1 c1] 31))
      have HBx := Lib.hid (HB.out.below BN.out)
      have HX0 := Lib.hid (show wr.heap.size ≠ b ∧ ¬ F wr.heap.size from ⟨by have := HB.out.pw.ltb; omega, fun h => by obtain ⟨lo, h2, -⟩ := HB.out.rw; have := (h2.foot h).2; omega⟩)
      have HLX := Lib.hid (HL1.out.below (BN.out.mono hz))
      clear hx hL1 hwf1 HB BW BN
      go_upto_region 9 with fail
      clear y0 y1
      generalize hgX : wr.heap.size = X at *
      generalize hw4 : wr.alloc (.cells #[.int .i64 a.kind, .slice A1 n1 c1] 31) = w4 at *
      obtain ⟨k0, k1⟩ : w4.cell? ⟨X, 0, none⟩ = some (.int .i64 a.kind) ∧ w4.cell? ⟨X, 1, none⟩ = some (.slice A1 n1 c1) := ⟨K0.out.cell 0, K0.out.cell 1⟩
      have hX4 := K0.out.lt
      have BX2 := BX.out.size
      clear hgX hw4
      go_cut [6, 30] (fun s6 s30 wx => s6 = .pointer (some ⟨X, 0, none⟩) ∧ MayCut n1 a.L s30 ∧ Hid (Below w4.heap.size w4 wx))
      case first =>
        go_wp2_with fail
        refine (may15_any A1 n1 c1 a.L w.heap.size _ HLX.out BX2 (by unfold maxLen; omega)).mono ?_
        rintro e4 w5 ⟨⟨t, rfl, ht⟩, hb4⟩
        have HMC := Lib.hid (show MayCut n1 a.L (.bool (!t)) from ⟨!t, rfl, fun h => ht (by cases t; cases h; rfl)⟩)
        have HBE := Lib.hid hb4
        clear ht hb4
        go_wp2_with fail
        go_meet
        exact ⟨rfl, HMC.out, HBE⟩
      case rest =>
      obtain ⟨rfl, ⟨t, rfl, ht⟩, HBE⟩ := hcut
      go_step
      cases t
      case true =>
        have BE := Lib.hid (BX.out.trans (HBE.out.mono BX2))
        clear ht
        go_wp2
        show Q (.returned (.bool true)) wc
        rw [← HQ.out]
        exact ⟨rfl, BE.out⟩
      case false =>
      obtain ⟨hn50, hag⟩ := ht rfl
      have HAG := Lib.hid hag
      clear ht hag
      go_step
      go_step
      go_step
      go_step
      go_step
      obtain ⟨w5, hw5⟩ : ∃ w5, w5 = wc := ⟨_, rfl⟩
      subst hw5
      have HB5 := Lib.hid (HBx.out.below HBE.out)
      have K5 := Lib.hid (K0.out.below HBE.out hX4)
      have B5 := Lib.hid (BX.out.trans (HBE.out.mono BX2))
      have HL5 := Lib.hid (HLX.out.below (HBE.out.mono BX2))
      have hX5 := K5.out.lt
      have hz5 : w.heap.size ≤ w5.heap.size := B5.out.size
      have hk5 : S.length ≤ 3000 := by have := HLEN.out; omega
      clear k0 k1 K0 HBx BX HLX HBE hX4 BX2
      go_cut [6] from 31 to 81 (fun s6 wx => ∃ (S' : List Hd) (F' : Nat → Prop), s6 = .pointer (some ⟨X, 0, none⟩) ∧ Hid (Two15 wx w.heap.size p b g S' F') ∧ Hid (S'.length ≤ 50 * (k + 1)) ∧ Hid (Blk wx X 31 #[.int .i64 a.kind, .slice A1 n1 c1]) ∧ Hid (Hds wx w.heap.size A1 n1 a.L) ∧ Hid (Below w.heap.size w wx))
      case first =>
        obtain ⟨lo, hRW, hlo⟩ := HB5.out.rw
        have HLO := Lib.hid (show RwIs w5 lo g S F ∧ w.heap.size ≤ lo ∧ p < lo ∧ b < lo from ⟨hRW, hlo⟩)
        have HFF := Lib.hid (show ∀ q, F q → lo ≤ q ∧ q < w5.heap.size from fun q hq => hRW.foot hq)
        have HRD := Lib.hid (show RwIs w5.drew lo g S F ∧ w.heap.size ≤ lo ∧ p < lo ∧ b < lo from ⟨hRW.below ⟨rfl, rfl, rfl, Nat.le_refl _, fun _ _ => rfl⟩, hlo⟩)
        have HBD := Lib.hid (HB5.out.below (w' := w5.drew) ⟨rfl, rfl, rfl, Nat.le_refl _, fun _ _ => rfl⟩)
        have HLD := Lib.hid (show Hds w5.drew w.heap.size A1 n1 a.L from HL5.out.below ⟨rfl, rfl, rfl, Nat.le_refl _, fun _ _ => rfl⟩)
        have HSORT := Lib.hid HB5.out.pw.2.2
        have C0 : Chg (fun q => q = b ∨ F q) w5 w5.drew := ⟨rfl, rfl, rfl, Nat.le_refl _, fun _ _ _ => rfl⟩
        have NX := Lib.hid (show ¬ (X = b ∨ F X) from fun h => by rcases h with h | h; exact HX0.out.1 h; exact HX0.out.2 h)
        have HLEN1 := Lib.hid HL5.out.1
        obtain ⟨k0, k1⟩ : w5.cell? ⟨X, 0, none⟩ = some (.int .i64 a.kind) ∧ w5.cell? ⟨X, 1, none⟩ = some (.slice A1 n1 c1) := ⟨K5.out.cell 0, K5.out.cell 1⟩
        clear hRW hlo
        by_cases h0 : a.kind = 0
        · have d0 : (a.kind == 0) = true := by simp [h0]
          clear h0
          have HNL := Lib.hid (show (addsH S a.L).length ≤ 50 * (k + 1) by have h1 := len_addsH S a.L; have h2 := HLEN.out; have h3 := HLEN1.out; omega)
          have HAS := Lib.hid (show ∀ y ∈ addsH S a.L, ageB y = true from fun y hy => by
            rcases mem_addsH hy with h | h
            · exact HB5.out.age y h
            · exact HAG.out y h)
          obtain ⟨N, hN⟩ : ∃ N : Nat, (addsH S a.L).length = N := ⟨_, rfl⟩
          have HADD1 := Lib.hid (add_w (c := c1) HBD.out.pw HLD.out hz5 (by omega) (by omega) HWF.out HAG.out HB5.out.age)
          have HADD2 := Lib.hid (fun (W : World) (hW : RwIs W lo g S F) (hWL : Hds W w.heap.size A1 n1 a.L) => adds_r (c := c1) hW HSORT.out (by have := HLEN1.out; omega) hWL HLO.out.2.1 HAG.out HB5.out.age)
          rw [hN] at HADD1 HADD2
          clear hN
          have dN : ((N : Int) != (N : Int)) = false := by simp
          go_upto_region 12 with fail
          go_region_held3 (fun w' => (∀ o, w'.cell? ⟨X, o, none⟩ = w5.cell? ⟨X, o, none⟩) ∧ X < w'.heap.size) ((refine keepX (F := fun q => q = b ∨ F q) K5.out NX.out ?_; first | with_reducible exact C0 | with_reducible exact C6 | with_reducible exact C7))
            (first
              | (go_at_call 11; refine HADD1.out.mono ?_; rintro e6 w6 ⟨rfl, hp6, hc6⟩; have C6 := C0.trans (hc6.more (F' := fun q => q = b ∨ F q) (fun q hq => .inl hq)) (fun q hq => .inl hq); have HR6 := Lib.hid (HRD.out.1.chg hc6 (fun q h1 h2 => by have := HFF.out q h1; have := HRD.out.2; omega)); have HL6 := Lib.hid (HLD.out.below (hc6.to_below (fun q hq => by rw [hq]; exact HB5.out.pb.2) hz5)))
              | (go_at_call 12; refine (HADD2.out _ HR6.out HL6.out).mono ?_; rintro e7 w7 ⟨rfl, hq7⟩; have HQ7 := Lib.hid hq7; obtain ⟨F7, hT7, hB7, hf7, hC7⟩ := HBD.out.step HRD.out hp6 hc6 hq7 HAS.out hz5; have C7 := C0.trans hC7 (fun q hq => .inl hq)))
          have K7 := Lib.hid (K5.out.chg C7 NX.out)
          have L7 := Lib.hid (HL5.out.below (C7.to_below (fun q hq => by rcases hq with hq | hq; rw [hq]; exact HB5.out.pb.2; have := HFF.out q hq; have := HLO.out.2.1; omega) hz5))
          have B7 := Lib.hid (B5.out.trans (C7.to_below (fun q hq => by rcases hq with hq | hq; rw [hq]; exact HB5.out.pb.2; have := HFF.out q hq; have := HLO.out.2.1; omega) hz5))
          have T7 := Lib.hid hT7
          clear hp6 hc6 hT7 hB7 hf7 hC7 C7 C6 hq7 HR6 HL6 HQ7
          go_wp2_with fail
          go_meet
          exact ⟨_, F7, rfl, T7, HNL, K7, L7, B7⟩
        have d0 : (a.kind == 0) = false := by simp [h0]
        clear h0
        by_cases h1 : a.kind = 1 ∧ 0 < n1
        · have d1 : (a.kind == 1) = true := by simp [h1.1]
          have hn1 : 0 < n1 := h1.2
          have dn1 : decide ((0 : Int) < (n1 : Int)) = true := by simp; omega
          clear h1
          obtain ⟨gL, oL, x, rfl, hgL, hx, hr⟩ := hds_item HL5.out hn1
          have HXW := Lib.hid (HWF.out x (List.mem_of_getElem? hx))
          have HXA := Lib.hid (HAG.out x (List.mem_of_getElem? hx))
          rw [Nat.zero_mul, Nat.add_zero] at hr
          obtain ⟨x0, x1, x2, x3, x4, x5, x6⟩ := cells7 hr
          have HNL := Lib.hid (show (takeS S x).length ≤ 50 * (k + 1) by have h1 := len_takeS S x; have h2 := HLEN.out; omega)
          have HAS := Lib.hid (show ∀ y ∈ takeS S x, ageB y = true from fun y hy => HB5.out.age y (mem_takeS hy))
          obtain ⟨N, hN⟩ : ∃ N : Int, takeE S x = N := ⟨_, rfl⟩
          have HT1 := Lib.hid (take_w HBD.out.pw x HXW.out HXA.out HB5.out.age)
          have HT2 := Lib.hid (fun (W : World) (hW : RwIs W lo g S F) => take_r hW HSORT.out (by omega) x HXA.out HB5.out.age)
          rw [hN] at HT1 HT2
          clear hN hx hr
          have dN : (N != N) = false := by simp
          have hgb : gL ≠ b := by have := HB5.out.pb; omega
          have HNG := Lib.hid (show ¬ (gL = b ∨ F gL) from fun h => by rcases h with h | h; exact hgb h; have := HFF.out gL h; have := HLO.out.2.1; omega)
          have hgl5 : gL < w5.heap.size := by omega
          go_upto_region 15 with fail
          go_region_held3 (fun w' => ((∀ o, w'.cell? ⟨X, o, none⟩ = w5.cell? ⟨X, o, none⟩) ∧ X < w'.heap.size) ∧ (∀ o, w'.cell? ⟨gL, o, none⟩ = w5.cell? ⟨gL, o, none⟩)) ((refine keepY (F := fun q => q = b ∨ F q) K5.out NX.out hgl5 HNG.out ?_; first | with_reducible exact C0 | with_reducible exact C6 | with_reducible exact C7))
            (first
              | (go_at_call 13; refine HT1.out.mono ?_; rintro e6 w6 ⟨rfl, hp6, hc6⟩; have C6 := C0.trans (hc6.more (F' := fun q => q = b ∨ F q) (fun q hq => .inl hq)) (fun q hq => .inl hq); have HR6 := Lib.hid (HRD.out.1.chg hc6 (fun q h1 h2 => by have := HFF.out q h1; have := HRD.out.2; omega)))
              | (go_at_call 14; refine (HT2.out _ HR6.out).mono ?_; rintro e7 w7 ⟨rfl, hq7⟩; obtain ⟨F7, hT7, hB7, hf7, hC7⟩ := HBD.out.step HRD.out hp6 hc6 hq7 HAS.out hz5; have C7 := C0.trans hC7 (fun q hq => .inl hq)))
          have K7 := Lib.hid (K5.out.chg C7 NX.out)
          have L7 := Lib.hid (HL5.out.below (C7.to_below (fun q hq => by rcases hq with hq | hq; rw [hq]; exact HB5.out.pb.2; have := HFF.out q hq; have := HLO.out.2.1; omega) hz5))
          have B7 := Lib.hid (B5.out.trans (C7.to_below (fun q hq => by rcases hq with hq | hq; rw [hq]; exact HB5.out.pb.2; have := HFF.out q hq; have := HLO.out.2.1; omega) hz5))
          have T7 := Lib.hid hT7
          clear hp6 hc6 hT7 hB7 hf7 hC7 C7 C6 hq7 HR6 x0 x1 x2 x3 x4 x5 x6
          go_wp2_with fail
          go_meet
          exact ⟨_, F7, rfl, T7, HNL, K7, L7, B7⟩
        by_cases h2 : a.kind = 2
        · have d1 : (a.kind == 1) = false := by simp [h2]
          have d2 : (a.kind == 2) = true := by simp [h2]
          clear h1 h2
          obtain ⟨A0, n0, c0, hB0, hlo0, hO0, hF0⟩ := HLO.out.1
          have HN0 := Lib.hid (own_lenH encHd_len (by omega) hO0)
          have HCL := Lib.hid (clear_w HBD.out.pw)
          rw [HN0.out] at HCL
          have g0 := hB0.cell 0
          simp at g0
          have hgl := hB0.lt
          have HBG := Lib.hid hB0
          have hgX : g ≠ X := fun e => own_ne_act (e ▸ hB0) K5.out
          have hgb : g ≠ b := fun e => by have := hlo0; have := HLO.out.2; omega
          have HNG := Lib.hid (show ¬ g = b from hgb)
          have NXB := Lib.hid HX0.out.1
          have CB0 : Chg (fun q => q = b) w5 w5.drew := ⟨rfl, rfl, rfl, Nat.le_refl _, fun _ _ _ => rfl⟩
          have dN : ((n0 : Int) != (n0 : Int)) = false := by simp
          clear hB0 hlo0 hO0 hF0 hgb
          go_upto_region 18 with fail
          go_region_held3 (fun w' => ((∀ o, w'.cell? ⟨X, o, none⟩ = w5.cell? ⟨X, o, none⟩) ∧ X < w'.heap.size) ∧ (∀ o, w'.cell? ⟨g, o, none⟩ = w5.cell? ⟨g, o, none⟩)) ((refine keepY (F := fun q => q = b) K5.out NXB.out hgl HNG.out ?_; first | with_reducible exact CB0 | with_reducible exact C6))
            (first
              | (go_at_call 15; refine HCL.out.mono ?_; rintro e6 w6 ⟨rfl, hp6, hc6⟩; have C6 := CB0.trans hc6 (fun q hq => .inl hq)))
          have HR6 := Lib.hid (HLO.out.1.chg C6 (fun q h1 h2 => by have := HFF.out q h1; have := HLO.out.2; omega))
          have f0 := (HBG.out.chg C6 HNG.out).frozen 0
          have g6 := (HBG.out.chg C6 HNG.out).cell 0
          simp at g6
          have hq7 := RefQ.laid HR6.out (Below.refl _ _) (Nat.le_refl _) (m := 0) (c' := 0) (S' := []) (A' := none) (World.ownsRow_nil w6 w6.heap.size 38 7)
          obtain ⟨F7, hT7, hB7, hf7, hC7⟩ := HB5.out.step HLO.out hp6 C6 hq7 (fun y hy => by cases hy) hz5
          have K7 := Lib.hid (K5.out.chg hC7 NX.out)
          have L7 := Lib.hid (HL5.out.below hB7)
          have B7 := Lib.hid (B5.out.trans hB7)
          have T7 := Lib.hid hT7
          clear hp6 hc6 hT7 hB7 hf7 hC7 C6 hq7 HR6 hgX
          go_wp2_with fail
          go_meet
          exact ⟨[], F7, rfl, T7, Lib.hid (Nat.zero_le _), K7, L7, B7⟩
        · have d2 : (a.kind == 2) = false := by simp [h2]
          have HNL := Lib.hid (show S.length ≤ 50 * (k + 1) by have := HLEN.out; omega)
          by_cases h3 : a.kind = 1
          · have d1 : (a.kind == 1) = true := by simp [h3]
            have hn1 : n1 = 0 := by
              rcases Nat.eq_zero_or_pos n1 with h | h
              · exact h
              · exact absurd ⟨h3, h⟩ h1
            have dn1 : decide ((0 : Int) < (n1 : Int)) = false := by simp; omega
            have dn2 : ¬ (0 : Int) < (n1 : Int) := by omega
            have dn3 : ¬ 0 < n1 := by omega
            clear h1 h2 h3 hn1 C0
            go_wp2_with fail
            go_meet
            exact ⟨S, F, rfl, HB5, HNL, K5, HL5, B5⟩
          · have d1 : (a.kind == 1) = false := by simp [h3]
            clear h1 h2 h3 C0
            go_wp2_with fail
            go_meet
            exact ⟨S, F, rfl, HB5, HNL, K5, HL5, B5⟩
      case rest =>
      obtain ⟨S', F', rfl, HB6, HLEN6, K6, HL6, B6⟩ := hcut
      go_step
      obtain ⟨w6, hw6⟩ : ∃ w6, w6 = wc := ⟨_, rfl⟩
      subst hw6
      have hk6 : S'.length ≤ 3000 := by have := HLEN6.out; omega
      clear HB5 K5 B5 HL5 HLEN HX0 HL1 hX5 hz5 hk5
      obtain ⟨lo, hRW, hlo⟩ := HB6.out.rw
      have HR6 := Lib.hid hRW
      obtain ⟨A0, n0, c0, hB0, -, hO0, -⟩ := hRW
      have HN0 := Lib.hid (own_lenH encHd_len (by omega) hO0)
      have HO0 := Lib.hid hO0
      have HG0 := Lib.hid hB0
      have hn0 : n0 ≤ 3000 := by have := HN0.out; omega
      have g0 := hB0.cell 0
      simp at g0
      have hgl := hB0.lt
      have hz6 : w.heap.size ≤ w6.heap.size := B6.out.size
      have HWF6 := Lib.hid HB6.out.pw.wf
      have HSO6 := Lib.hid HB6.out.pw.2.2
      have HLEN0 := Lib.hid (show ∀ W, Below w6.heap.size w6 W → Calls Try.prog 16 #[.pointer (some ⟨p, 0, none⟩)] W fun e w' => e = .returned (.int .i64 (n0 : Int)) ∧ W = w' from fun W hW => by
        rw [← HN0.out]
        exact len_w (HB6.out.pw.below hW))
      have HASK1 := Lib.hid (fun (W : World) (hW : Below w6.heap.size w6 W) => ask_w (HB6.out.pw.below hW) (by omega))
      have HASK2 := Lib.hid (fun (W : World) (hW : Below w6.heap.size w6 W) => ask_r (HR6.out.below hW))
      have HALL := Lib.hid (fun (W : World) (hW : Below w6.heap.size w6 W) => all_w (HB6.out.pw.below hW) (by omega))
      have HKW := Lib.hid (fun (W : World) (base nk ck : Nat) (Ak : Option Addr) (ho : W.ownsRow base 47 3 (.slice Ak nk ck) nk (kyCells ((S'.take 3).map keyH))) => (kys_own ho (fun ky hky => by
        obtain ⟨x, hx, rfl⟩ := List.mem_map.1 hky
        exact (HWF6.out x (List.mem_of_mem_take hx)).2.1)).1)
      have HSAME := Lib.hid (fun (W : World) (base nk ck : Nat) (Ak : Option Addr) (hW : Below w6.heap.size w6 W) (ho : W.ownsRow base 38 7 (.slice Ak nk ck) nk (cellsBy encHd S')) => same15_yes (c := ck) (c' := c0) (own_hds ho) (own_hds (own_below2 HO0.out hW)) (Nat.le_refl _) (Nat.le_refl _) (by have := own_lenH encHd_len (by omega) ho; omega) (by omega) rfl)
      have dN : ((n0 : Int) != (n0 : Int)) = false := by simp
      have BR : Below w6.heap.size w6 w6.drew := ⟨rfl, rfl, rfl, Nat.le_refl _, fun _ _ => rfl⟩
      clear hB0 hO0 hlo
      go_upto_region 21 with fail
      go_region_held3 (fun w' => Below w6.heap.size w6 w' ∧ (∀ b o, b < w6.heap.size → w'.cell? ⟨b, o, none⟩ = w6.cell? ⟨b, o, none⟩)) ((refine keepW ?_; first | with_reducible exact BR | with_reducible exact BR7 | with_reducible exact BR8 | with_reducible exact BR9 | with_reducible exact BR10 | with_reducible exact BR11))
        (first
          | (go_at_call 16; refine (HLEN0.out _ BR).mono ?_; rintro ea wa ⟨rfl, rfl⟩)
          | (go_at_call 18; refine (HASK1.out _ BR).mono ?_; rintro e7 w7 ⟨Ak, nk, ck, rfl, hb7, ho7⟩; have BR7 := BR.trans (show Below w6.heap.size w6.drew w7 from hb7); have hnk := ho7.1)
          | (go_at_call 19; refine (HASK2.out _ BR7).mono ?_; rintro e8 w8 ⟨Ar, nr, cr, rfl, hb8, ho8⟩; have BR8 := BR7.trans (hb8.mono BR7.size); have hnr := ho8.1; obtain rfl : nr = nk := (by omega); have HK8 := Lib.hid ((HKW.out _ _ _ _ _ ho7).below hb8); have HK9 := Lib.hid (HKW.out _ _ _ _ _ ho8); have hnk3 : nr ≤ 3 := (by rw [kyCells_length, List.length_map, List.length_take] at hnr; omega))
          | (go_at_call 17; refine (r7keys_yes Ak Ar nr ck cr _ _ _ w8 HK8.out HK9.out (by unfold maxLen; omega)).mono ?_; rintro e9 w9 ⟨rfl, q9, rfl⟩; have BR9 := below_drewN BR8 q9)
          | (go_at_call 21; refine (HALL.out _ BR9).mono ?_; rintro e10 w10 ⟨Aa, na, ca, rfl, hb10, ho10⟩; have BR10 := BR9.trans (hb10.mono BR9.size))
          | (go_at_call 20; refine (HSAME.out _ _ _ _ _ BR10 ho10).mono ?_; rintro e11 w11 ⟨rfl, q11, rfl⟩; have BR11 := below_drewN BR10 q11))
      have BE := Lib.hid BR11
      clear BR11 BR10 BR9 BR8 BR7 BR hb10 ho10 hb8 ho8 hb7 HK8 HK9 HSAME HALL HKW HASK1 HASK2 HLEN0 g0 dN
      generalize w10.drewN q11 = w11 at *
      have k1 := (K6.out.below BE.out K6.out.lt).cell 1
      simp at k1
      have hz11 := BE.out.size
      obtain ⟨wo, hwo⟩ : ∃ wo, wo = wr := ⟨_, rfl⟩
      subst hwo
      go_wp2_with fail
      clear k1
      go_loopw [111] (fun s111 wr => ∃ j : Nat, j ≤ n1 ∧ s111 = .int .i64 j ∧ Hid (Below w6.heap.size w6 wr)) (fun i _ => n1 - (intOf i).toNat)
      case atStart => exact ⟨0, Nat.zero_le _, rfl, BE⟩
      case round =>
        clear BE
        obtain ⟨j, hj, rfl, BI⟩ := hrel
        have hzi := BI.out.size
        by_cases hji : j < n1
        · have hji' : (j : Int) < (n1 : Int) := by omega
          obtain ⟨bq, oq, x, rfl, hbq, hx, hr⟩ := hds_item (HL6.out.below (BI.out.mono hz6)) hji
          have HR := Lib.hid hr
          have HXW := Lib.hid (HWF.out x (List.mem_of_getElem? hx))
          have HGET := Lib.hid (fun (W : World) (hW : Below w6.heap.size w6 W) => get_w (HB6.out.pw.below hW) (keyH x) HXW.out)
          have HFIND := Lib.hid (fun (W : World) (hW : Below w6.heap.size w6 W) => find_r (HR6.out.below hW) (keyH x))
          have B7 := Lib.hid (BI.out.alloc hzi (.cells #[.int .i64 x.age, .int .i64 x.kind, .int .i64 x.id, .int .i64 x.adv, .int .i64 x.seq, .int .i64 x.sum, .int .i64 x.long] 38))
          have RX := Lib.hid (blk_range7 (Blk.new wr 38 #[.int .i64 x.age, .int .i64 x.kind, .int .i64 x.id, .int .i64 x.adv, .int .i64 x.seq, .int .i64 x.sum, .int .i64 x.long]))
          clear hx hr
          go_wp2_with (first | refine wpList_load_row 38 _ _ (by rfl) (.tmp 113) rfl (by rfl) HR.out Try.underlying38 rfl (by kernel_rfl) ?_ | refine wpList_load_row 38 _ _ (by rfl) (.tmp 8) rfl (by rfl) RX.out Try.underlying38 rfl (by kernel_rfl) ?_)
          refine (key13_any x _).mono ?_
          rintro e8 w8 ⟨rfl, hb8⟩
          have B8a := B7.out.trans (hb8.mono B7.out.size)
          have B8 := Lib.hid (B8a.alloc B8a.size (.cells #[.int .i64 x.kind, .int .i64 x.id, .int .i64 x.adv] 47))
          have Y8 := Lib.hid (Blk.new w8 47 #[.int .i64 x.kind, .int .i64 x.id, .int .i64 x.adv])
          obtain ⟨y0, y1, y2⟩ := Y8.out.three
          clear hb8 B8a B7 RX HR
          go_wp2_with fail
          clear y0 y1 y2
          generalize w8.alloc (.cells #[.int .i64 x.kind, .int .i64 x.id, .int .i64 x.adv] 47) = w9 at *
          generalize w8.heap.size = Y at *
          refine (HGET.out _ B8.out).mono ?_
          rintro e9 w10 ⟨⟨r0, hwho, rfl⟩, hb10⟩
          have HWHO := Lib.hid hwho
          have Y10 := Lib.hid ((Y8.out.below hb10 Y8.out.lt).alloc (.cells #[.int .i64 r0.age, .int .i64 r0.kind, .int .i64 r0.id, .int .i64 r0.adv, .int .i64 r0.seq, .int .i64 r0.sum, .int .i64 r0.long] 38))
          have B10a := B8.out.trans (hb10.mono B8.out.size)
          have B10 := Lib.hid (B10a.alloc B10a.size (.cells #[.int .i64 r0.age, .int .i64 r0.kind, .int .i64 r0.id, .int .i64 r0.adv, .int .i64 r0.seq, .int .i64 r0.sum, .int .i64 r0.long] 38))
          have Z10 := Lib.hid (Blk.new w10 38 #[.int .i64 r0.age, .int .i64 r0.kind, .int .i64 r0.id, .int .i64 r0.adv, .int .i64 r0.seq, .int .i64 r0.sum, .int .i64 r0.long])
          obtain ⟨y0, y1, y2⟩ := Y10.out.three
          obtain ⟨fd, hfd⟩ : ∃ fd, (getH S' (keyH x)).isSome = fd := ⟨_, rfl⟩
          rw [hfd]
          have HFD := Lib.hid hfd
          clear hb10 B10a B8 Y8 hwho hfd
          go_wp2_with fail
          clear y0 y1 y2
          generalize w10.alloc (.cells #[.int .i64 r0.age, .int .i64 r0.kind, .int .i64 r0.id, .int .i64 r0.adv, .int .i64 r0.seq, .int .i64 r0.sum, .int .i64 r0.long] 38) = w12 at *
          generalize w10.heap.size = Z at *
          refine (HFIND.out _ B10.out).mono ?_
          rintro e11 w13 ⟨rfl, hb13⟩
          have Z13 := Lib.hid (Z10.out.below hb13 Z10.out.lt)
          have B13 := Lib.hid (B10.out.trans (hb13.mono B10.out.size))
          clear hb13 Y10 Z10 B10 HGET HFIND
          have BQ := Lib.hid (fun q => below_drewN B13.out q)
          obtain ⟨o0, o1, o2, o3, o4, o5, o6⟩ := Z13.out.sevenH
          rcases findI_cases (S := S') (keyH x) with ⟨hf, hg⟩ | ⟨i, y, hf, hi, hg⟩
          · obtain ⟨rfl, rfl⟩ : fd = false ∧ r0 = zeroHd := by
              have h1 := HFD.out
              rw [hg] at h1
              refine ⟨h1.symm, ?_⟩
              rcases HWHO.out with ⟨-, e⟩ | e
              · exact e
              · rw [hg] at e
                cases e
            rw [hf]
            have eH := fun W => equalHd zeroHd zeroHd W
            rw [show sameHd zeroHd zeroHd = true from (sameHd_iff _ _).2 rfl] at eH
            have b38 : ∀ W, (Instr.build 38 #[]).run Try.prog W = .ok (.agg #[.int .i64 0, .int .i64 0, .int .i64 0, .int .i64 0, .int .i64 0, .int .i64 0, .int .i64 0]) W := fun W => by kernel_rfl
            unfold zeroHd at eH o0 o1 o2 o3 o4 o5 o6 ⊢
            dsimp only at eH o0 o1 o2 o3 o4 o5 o6 ⊢
            clear hf hg HWHO HFD
            go_wp2_with fail
            go_quiet (fail)
            have B14 := Lib.hid (BQ.out nq)
            clear BQ o0 o1 o2 o3 o4 o5 o6 eH b38 Z13 B13
            go_wp2
            go_roundw
            case rel => exact ⟨j + 1, by omega, by go_num, B14⟩
            case measure => simp [intOf]; omega
          · obtain ⟨rfl, rfl⟩ : fd = true ∧ y = r0 := by
              have h1 := HFD.out
              rw [hg] at h1
              refine ⟨h1.symm, ?_⟩
              rcases HWHO.out with ⟨e, -⟩ | e
              · rw [hg] at e
                cases e
              · rw [hg] at e
                injection e
            rw [hf]
            have eH := fun W => equalHd y y W
            rw [show sameHd y y = true from (sameHd_iff _ _).2 rfl] at eH
            obtain ⟨q, rfl, -, hql, -, hnc, hcm, hr⟩ := item_range7 (own_below2 HO0.out B13.out) hi
            unfold maxLen at hcm
            have hin : i < n0 := by
              have := (List.getElem?_eq_some_iff.1 hi).1
              have := HN0.out
              omega
            obtain ⟨z0, z1, z2, z3, z4, z5, z6⟩ := cells7 hr
            have g0 := (HG0.out.below B13.out hgl).cell 0
            simp at g0
            have i_p : (0 : Int) ≤ (i : Int) := by omega
            have i_d : decide ((0 : Int) ≤ (i : Int)) = true := by simp
            have i_u : (i : Int) < (n0 : Int) := by omega
            have i_t : ((i : Int)).toNat = i := by omega
            clear hf hg hi hr HWHO HFD
            go_wp2_with fail
            go_quiet (fail)
            have B14 := Lib.hid (BQ.out nq)
            clear BQ o0 o1 o2 o3 o4 o5 o6 eH Z13 B13 z0 z1 z2 z3 z4 z5 z6 g0
            go_wp2
            go_roundw
            case rel => exact ⟨j + 1, by omega, by go_num, B14⟩
            case measure => simp [intOf]; omega
        · have hji' : ¬ (j : Int) < (n1 : Int) := by omega
          have HB7 := Lib.hid (HB6.out.below BI.out)
          have B7 := Lib.hid (B6.out.trans (BI.out.mono hz6))
          clear HR6 HO0 HG0 HB6 K6 HL6 B6
          go_wp2
          go_roundw
          case rel => exact ⟨k + 1, S', F', by omega, by go_num, HB7, HLEN6, B7⟩
          case measure => simp [intOf]; omega
    · go_wp2
      show Q (.returned (.bool true)) wr
      rw [← HQ.out]
      exact ⟨rfl, BW.out⟩
end Go.Proofs.Ytnnkcgbnhjkahaa
