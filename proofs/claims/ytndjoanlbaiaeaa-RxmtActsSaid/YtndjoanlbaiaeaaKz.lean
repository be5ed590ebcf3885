/- The walk of the statement RxmtActs. Conditions: what the words say. -/
import Derived.Test.YtndjoanlbaiaeaaKv
import Derived.Test.YtndjoanlbaiaeaaKm
import Derived.Deep.CutRange
namespace Go.Proofs.Ytndjoanlbaiaeaa
open Go.RowKit Go.Lib Go.Sort Go.Deep

theorem keepX16 {F : Nat → Prop} {w w' : World} {X : Nat} {t : TypeId} {cs : Array Value} (K : Blk w X t cs) (hX : ¬ F X) (hc : Chg F w w') : (∀ o, w'.cell? ⟨X, o, none⟩ = w.cell? ⟨X, o, none⟩) ∧ X < w'.heap.size :=
  ⟨fun o => by rw [(K.chg hc hX).cell, K.cell], Nat.lt_of_lt_of_le K.lt hc.size⟩
theorem keepY16 {F : Nat → Prop} {w w' : World} {X G : Nat} {t u : TypeId} {cs ds : Array Value} (K : Blk w X t cs) (J : Blk w G u ds) (hX : ¬ F X) (hG : ¬ F G) (hc : Chg F w w') : ((∀ o, w'.cell? ⟨X, o, none⟩ = w.cell? ⟨X, o, none⟩) ∧ X < w'.heap.size) ∧ (∀ o, w'.cell? ⟨G, o, none⟩ = w.cell? ⟨G, o, none⟩) ∧ G < w'.heap.size :=
  ⟨keepX16 K hX hc, keepX16 J hG hc⟩
/-- The program's lists and the document's, with the same rows, on blocks of their own. -/
structure Two16 (w : World) (bw p g : Nat) (L : List Rw) (F G : Nat → Prop) : Prop where
  xp : RxIs w p L F
  rr : RrIs w g g L G
  lo : bw ≤ p ∧ p < g
  fb : ∀ q, F q → bw ≤ q
section
variable {w w' w1 w2 : World} {bw p g : Nat} {L L' L'' : List Rw} {F G F' : Nat → Prop}
theorem apart16 (h : RxIs w p L F) (h' : RrIs w g g L' G) {q : Nat} (hF : F q) : ¬ G q := fun hG => by
  obtain ⟨-, A, n, c, hB, -, hO, hf⟩ := h'
  rcases (hf q).1 hG with rfl | e
  · exact h.no_blk hB hF
  · exact h.no_own hO e hF
theorem Two16.chg (h : Two16 w bw p g L F G) (hc : Chg F' w w') (hp : ¬ F' p) (hF : ∀ q, F q → ¬ F' q) (hG : ∀ q, G q → ¬ F' q) : Two16 w' bw p g L F G :=
  ⟨h.xp.chg hc hp hF, h.rr.chg hc hG, h.lo, h.fb⟩
theorem Two16.below (h : Two16 w bw p g L F G) (hb : Below w.heap.size w w') : Two16 w' bw p g L F G :=
  h.chg (F' := fun _ => False) (Chg.of_below hb) (fun h => h) (fun _ _ h => h) (fun _ _ h => h)
theorem Two16.mid (h : Two16 w bw p g L F G) (hq : RxQ w p L' F w1) (hz : bw ≤ w.heap.size) : RrIs w1 g g L G ∧ Chg (fun q => F q ∨ G q) w w1 ∧ Below bw w w1 := by
  obtain ⟨F1, hx, hc, hf⟩ := hq
  exact ⟨h.rr.chg hc (fun q hG hF => apart16 h.xp h.rr hF hG), hc.more (fun q hq => .inl hq), hc.to_below (fun q hq => h.fb q hq) hz⟩
theorem Two16.bounds (h : Two16 w bw p g L F G) (hz : bw ≤ w.heap.size) (hc : Chg (fun q => F q ∨ G q) w w') : Below bw w w' :=
  hc.to_below (fun q hq => by
    rcases hq with hq | hq
    · exact h.fb q hq
    · have := (h.rr.foot hq).1
      have := h.lo
      omega) hz
theorem Two16.step (h : Two16 w bw p g L F G) (hq : RxQ w p L' F w1) (hr : RrQ w1 g g L' G w2) (hz : bw ≤ w.heap.size) : ∃ F' G', Two16 w2 bw p g L' F' G' ∧ Chg (fun q => F q ∨ G q) w w2 := by
  obtain ⟨hR1, hC1, -⟩ := h.mid hq hz
  obtain ⟨F1, hx, hc, hf⟩ := hq
  obtain ⟨G1, hr1, hc1, hg1⟩ := hr
  refine ⟨F1, G1, ⟨hx.chg hc1 (fun hp => ?_) (fun q h1 h2 => apart16 hx hR1 h1 h2), hr1, h.lo, fun q hq => ?_⟩, hC1.trans hc1 (fun q hq => .inl (.inr hq))⟩
  · have := (hR1.foot hp).1
    have := h.lo
    omega
  · rcases hf q hq with h1 | h1
    · exact h.fb q h1
    · omega
theorem Two16.out (h : Two16 w bw p g L F G) {X : Nat} (hX : w.heap.size ≤ X) : ¬ (F X ∨ G X) := fun hh => by
  rcases hh with hh | hh
  · have := h.xp.foot hh
    omega
  · have := (h.rr.foot hh).2
    omega
end
set_option maxRecDepth 20000 in
set_option maxHeartbeats 64000000 in
theorem acts16_walk {w : World} {A : Option Addr} {n c : Nat} {L : List Ac16} (hL : Acs16 w w.heap.size A n L) (hn : n ≤ maxLen) :
    Calls Try.prog 3 #[.slice A n c] w fun e w' => e = .returned (.bool true) ∧ Below w.heap.size w w' := by
  unfold maxLen at hn
  generalize hQ : (fun (e : Ending) (w' : World) => e = .returned (.bool true) ∧ Below w.heap.size w w') = Q
  have HQ := Lib.hid hQ
  have HT := Lib.hid hL
  have mixed : Try.prog.follows .mixedOrders = true := by kernel_rfl
  clear hQ hL
  go_enter Try.func3, Try.ntmps3
  go_wp2_with fail
  refine (wakes_any _).mono ?_
  rintro e1 w1 ⟨rfl, hb1⟩
  have B1 := Lib.hid hb1
  clear hb1
  by_cases hn60 : 60 < n
  · have hn' : (60 : Int) < n := by omega
    go_wp2
    show Q (.returned (.bool true)) w1
    rw [← HQ.out]
    exact ⟨rfl, B1.out⟩
  have hn' : ¬ (60 : Int) < n := by omega
  go_wp2_with fail
  refine (new_x _).mono ?_
  rintro e2 w2 ⟨p, F0, rfl, hb2, hx2, hp2, hf2⟩
  have b0 : ∀ W, (Instr.build 29 #[]).run Try.prog W = .ok (.agg #[.slice none 0 0]) W := fun W => by kernel_rfl
  have hs1 := B1.out.size
  have hs2 := hb2.size
  have B3 := Lib.hid ((B1.out.trans (hb2.mono hs1)).alloc (by omega) (.cells #[.slice none 0 0] 29))
  have HB3 := Lib.hid (show Two16 (w2.alloc (.cells #[.slice none 0 0] 29)) w.heap.size p w2.heap.size [] F0 (fun q => q = w2.heap.size ∨ (Value.slice none 0 0).ownBlock = some q) from ⟨hx2.below ((Below.refl _ _).alloc (Nat.le_refl _) _), ⟨(fun x hx => by cases hx), none, 0, 0, Blk.new _ _ _, Nat.le_refl _, World.ownsRow_nil _ _ _ _, fun q => Iff.rfl⟩, ⟨by omega, hx2.ltp⟩, fun q hq => by have := hf2 q hq; omega⟩)
  generalize hq : w2.heap.size = g at HB3
  generalize (fun q => q = g ∨ (Value.slice none 0 0).ownBlock = some q) = G0 at HB3
  clear hb2 hx2 hp2 hf2 hs1 hs2 hn60 hn'
  go_wp2_with fail
  generalize w2.alloc (.cells #[.slice none 0 0] 29) = w3 at *
  clear hq b0 B1
  go_loopw [21] (fun s21 wr => ∃ (k : Nat) (R : List Rw) (F G : Nat → Prop), k ≤ n ∧ s21 = .int .i64 k ∧ Hid (Two16 wr w.heap.size p g R F G) ∧ Hid (R.length ≤ 30 * k) ∧ Hid (Below w.heap.size w wr)) (fun i _ => n - (intOf i).toNat)
  case atStart => exact ⟨0, [], F0, G0, Nat.zero_le _, rfl, HB3, Lib.hid (Nat.le_refl _), B3⟩
  case round =>
    clear HB3 B3
    obtain ⟨k, R, F, G, hk, rfl, HB, HLEN, BW⟩ := hrel
    by_cases hlt : k < n
    · have hlt' : (k : Int) < n := by omega
      obtain ⟨gb, o, a, rfl, hgl, hx, y0, y1, y2, ⟨A1, n1, c1, y3, hK1, hnc1, hcm1⟩, hwf1, hn1⟩ := Arr.at (HT.out.below BW.out) hlt
      unfold maxLen at hcm1
      have HWF := Lib.hid hwf1
      have HN1 := Lib.hid hn1
      have HKS := Lib.hid hK1
      have hz := BW.out.size
      have K0 := Lib.hid (Blk.new wr 32 #[.int .i64 a.kind, .int .i64 a.n.1, .int .i64 a.n.2, .slice A1 n1 c1])
      have BN := Lib.hid ((Below.refl wr.heap.size wr).alloc (Nat.le_refl _) (.cells #[.int .i64 a.kind, .int .i64 a.n.1, .int .i64 a.n.2, .slice A1 n1 c1] 32))
      have BX := Lib.hid (BW.out.alloc hz (.cells #[.int .i64 a.kind, .int .i64 a.n.1, .int .i64 a.n.2, .slice A1 n1 c1] 32))
      have HX0 := Lib.hid (HB.out.out (Nat.le_refl wr.heap.size))
      have HB4 := Lib.hid (HB.out.below BN.out)
      have HK4 := Lib.hid (HKS.out.below (BN.out.mono hz))
      have hX : w.heap.size ≤ wr.heap.size := hz
      clear hx hK1 hwf1 hn1 HB BW BN HKS
      by_cases h30 : 30 < n1
      · have h30' : (30 : Int) < n1 := by omega
        obtain ⟨k0, k1, k2, k3⟩ := K0.out.four
        go_wp2
        show Q (.returned (.bool true)) _
        rw [← HQ.out]
        exact ⟨rfl, BX.out⟩
      have h30' : ¬ (30 : Int) < n1 := by omega
      obtain ⟨k0, k1, k2, k3⟩ := K0.out.four
      go_upto_region 11 with fail
      go_step
      go_step
      go_step
      go_step
      go_step
      go_step
      go_step
      go_step
      clear y0 y1 y2 y3 k0 k1 k2 k3
      generalize hgX : wr.heap.size = X at *
      generalize hw4 : wr.alloc (.cells #[.int .i64 a.kind, .int .i64 a.n.1, .int .i64 a.n.2, .slice A1 n1 c1] 32) = w4 at *
      have hX4 := K0.out.lt
      have Y0 := Lib.hid (Blk.new w4 34 #[.int .i64 0, .int .i64 0, .int .i64 0])
      have BY := Lib.hid ((Below.refl w4.heap.size w4).alloc (Nat.le_refl _) (.cells #[.int .i64 0, .int .i64 0, .int .i64 0] 34))
      have HY0 := Lib.hid (HB4.out.out (Nat.le_refl w4.heap.size))
      have hY : w.heap.size ≤ w4.heap.size := by have := BX.out.size; omega
      have hXY : X < w4.heap.size := hX4
      have K5 := Lib.hid (K0.out.below BY.out hX4)
      have B5 := Lib.hid (BX.out.trans (BY.out.mono hY))
      have HB5 := Lib.hid (HB4.out.below BY.out)
      have hpY := HB4.out.xp.ltp
      have HK5 := Lib.hid (HK4.out.below (BY.out.mono hY))
      clear HB4 HK4 BX BY K0
      have e4 : X + 1 = w4.heap.size := by rw [← hw4, ← hgX]; simp
      rw [e4]
      generalize hgY : w4.heap.size = Y at *
      generalize hw5 : w4.alloc (.cells #[.int .i64 0, .int .i64 0, .int .i64 0] 34) = w5 at *
      clear hgX hw4 hgY hw5 e4
      have hY5 := Y0.out.lt
      obtain ⟨k0, k1, k2, k3⟩ := K5.out.four
      go_cut [6, 7] from 29 to 36 (fun s6 s7 wx => ∃ kk : Ky, s6 = .pointer (some ⟨X, 0, none⟩) ∧ s7 = .pointer (some ⟨Y, 0, none⟩) ∧ Hid (wfKy kk) ∧ Hid (Blk wx Y 34 #[.int .i64 kk.kind, .int .i64 kk.id, .int .i64 kk.adv]) ∧ Hid (Chg (fun q => q = Y) w5 wx))
      case first =>
        by_cases h1 : 0 < n1
        · have h1' : (0 : Int) < n1 := by omega
          obtain ⟨gL, oL, x, rfl, hgL, hx, x0, x1, x2⟩ := kys_item HK5.out h1
          rw [Nat.zero_mul, Nat.add_zero] at x0 x1 x2
          have HXW := Lib.hid (HWF.out x (List.mem_of_getElem? hx))
          have hgY : gL ≠ Y := by omega
          clear hx
          obtain ⟨z0, z1, z2⟩ := Y0.out.three
          have f0 := Y0.out.frozen 0
          have f1 := Y0.out.frozen 1
          have f2 := Y0.out.frozen 2
          go_wp2_with fail
          go_meet
          refine ⟨x, rfl, rfl, HXW, Lib.hid ?_, Lib.hid ?_⟩
          · simpa using ((Y0.out.put 0 (.int .i64 x.kind)).put 1 (.int .i64 x.id)).put 2 (.int .i64 x.adv)
          · exact chg_setCells Y [.int .i64 x.kind, .int .i64 x.id, .int .i64 x.adv] 0 w5
        · have h1' : ¬ (0 : Int) < n1 := by omega
          go_wp2_with fail
          go_meet
          exact ⟨⟨0, 0, 0⟩, rfl, rfl, Lib.hid (by unfold wfKy; simp only; omega), Y0, Lib.hid (Chg.refl _ _)⟩
      case rest =>
      obtain ⟨kk, rfl, rfl, HKK, Y6, C6⟩ := hcut
      obtain ⟨w6, hw6⟩ : ∃ w6, w6 = wc := ⟨_, rfl⟩
      subst hw6
      have hYn : ∀ q, q = Y → w.heap.size ≤ q := fun q e => by rw [e]; exact hY
      have BC6 := C6.out.to_below hYn B5.out.size
      have HB6 := Lib.hid (HB5.out.chg C6.out (by omega) (fun q hq e => HY0.out (.inl (e ▸ hq))) (fun q hq e => HY0.out (.inr (e ▸ hq))))
      have K6 := Lib.hid (K5.out.chg C6.out (show ¬ X = Y by omega))
      have HK6 := Lib.hid (HK5.out.below BC6)
      have B6 := Lib.hid (B5.out.trans BC6)
      have hz6 := B6.out.size
      have hk6 : R.length ≤ 1800 := by have := HLEN.out; omega
      have hk7 : R.length ≤ 30 * k := HLEN.out
      clear BC6 C6 K5 B5 HB5 HK5 Y0 hY5 k0 k1 k2 k3 HLEN hYn
      go_step
      go_step
      go_cut [6, 7] from 37 to 98 (fun s6 s7 wx => ∃ (R' : List Rw) (F' G' : Nat → Prop), s6 = .pointer (some ⟨X, 0, none⟩) ∧ s7 = .pointer (some ⟨Y, 0, none⟩) ∧ Hid (Two16 wx w.heap.size p g R' F' G') ∧ Hid (R'.length ≤ 30 * (k + 1)) ∧ Hid (Blk wx X 32 #[.int .i64 a.kind, .int .i64 a.n.1, .int .i64 a.n.2, .slice A1 n1 c1]) ∧ Hid (Blk wx Y 34 #[.int .i64 kk.kind, .int .i64 kk.id, .int .i64 kk.adv]) ∧ Hid (Below w.heap.size w wx))
      case first =>
        have HBD := Lib.hid (HB6.out.below (w' := w6.drew) ⟨rfl, rfl, rfl, Nat.le_refl _, fun _ _ => rfl⟩)
        have HKD := Lib.hid (show Kys w6.drew w.heap.size A1 n1 a.L from HK6.out.below ⟨rfl, rfl, rfl, Nat.le_refl _, fun _ _ => rfl⟩)
        have HND := Lib.hid HB6.out.xp.nodup
        have HKN := Lib.hid HK6.out.1
        have C0 : Chg (fun q => F q ∨ G q) w6 w6.drew := ⟨rfl, rfl, rfl, Nat.le_refl _, fun _ _ _ => rfl⟩
        have NX := Lib.hid (show ¬ (F X ∨ G X) from HX0.out)
        have NY := Lib.hid (show ¬ (F Y ∨ G Y) from HY0.out)
        obtain ⟨k0, k1, k2, k3⟩ := K6.out.four
        obtain ⟨z0, z1, z2⟩ := Y6.out.three
        by_cases h0 : a.kind = 0
        · have d0 : (a.kind == 0) = true := by simp [h0]
          clear h0
          have HNL := Lib.hid (show (putsK R a.n a.L).length ≤ 30 * (k + 1) by have h1 := putsK_len a.n a.L R; have h2 := HKN.out; omega)
          have HP1 := Lib.hid (put_x HBD.out.xp a.n HN1.out HKD.out hz6 HWF.out (c := c1) (by omega))
          have HP2 := Lib.hid (fun (W : World) (hW : RrIs W g g R G) (hWK : Kys W w.heap.size A1 n1 a.L) => put_r (ck := c1) hW HND.out a.n HN1.out hWK (by have := HB6.out.lo; omega) HWF.out (by omega))
          obtain ⟨N, hN⟩ : ∃ N : Int, ((onL (putsK R a.n a.L) a.n).length : Int) = N := ⟨_, rfl⟩
          rw [hN] at HP1
          simp only [hN] at HP2
          clear hN
          have dN : (N != N) = false := by simp
          go_upto_region 16 with fail
          go_region_held3 (fun w' => ((∀ o, w'.cell? ⟨X, o, none⟩ = w6.cell? ⟨X, o, none⟩) ∧ X < w'.heap.size) ∧ (∀ o, w'.cell? ⟨Y, o, none⟩ = w6.cell? ⟨Y, o, none⟩) ∧ Y < w'.heap.size) ((refine keepY16 (F := fun q => F q ∨ G q) K6.out Y6.out NX.out NY.out ?_; first | with_reducible exact C0 | with_reducible exact C7 | with_reducible exact C8))
            (first
              | (go_at_call 10; refine HP1.out.mono ?_; rintro e6 w7 ⟨rfl, hq7⟩; have hmid := HBD.out.mid hq7 hz6; have C7 := C0.trans hmid.2.1 (fun q hq => .inl hq); have HR6 := Lib.hid hmid.1; have HK7 := Lib.hid (HKD.out.below hmid.2.2))
              | (go_at_call 11; refine (HP2.out _ HR6.out HK7.out).mono ?_; rintro e7 w8 ⟨rfl, hq8⟩; obtain ⟨F8, G8, hT8, hC8⟩ := HBD.out.step hq7 hq8 hz6; have C8 := C0.trans hC8 (fun q hq => .inl hq)))
          have K8 := Lib.hid (K6.out.chg C8 NX.out)
          have Y8 := Lib.hid (Y6.out.chg C8 NY.out)
          have B8 := Lib.hid (B6.out.trans (HB6.out.bounds hz6 C8))
          have T8 := Lib.hid hT8
          clear hq7 hmid hT8 hC8 C8 C7 hq8 HR6 HK7
          go_wp2_with fail
          go_meet
          exact ⟨_, F8, G8, rfl, rfl, T8, HNL, K8, Y8, B8⟩
        have d0 : (a.kind == 0) = false := by simp [h0]
        clear h0
        by_cases h1 : a.kind = 1
        · have d1 : (a.kind == 1) = true := by simp [h1]
          clear h1
          have HNL := Lib.hid (show (ackK R a.n kk).length ≤ 30 * (k + 1) by have h1 : (ackK R a.n kk).length ≤ R.length := List.length_filter_le _ _; omega)
          have HP1 := Lib.hid (ack_x HBD.out.xp a.n HN1.out kk HKK.out)
          have HP2 := Lib.hid (fun (W : World) (hW : RrIs W g g R G) => ack_r hW HND.out a.n HN1.out kk HKK.out (by omega))
          obtain ⟨N, hN⟩ : ∃ N : Bool, decide (Rw.mk a.n kk ∈ R) = N := ⟨_, rfl⟩
          rw [hN] at HP1
          simp only [hN] at HP2
          clear hN
          have dN : (N != N) = false := by simp
          go_upto_region 19 with fail
          go_region_held3 (fun w' => ((∀ o, w'.cell? ⟨X, o, none⟩ = w6.cell? ⟨X, o, none⟩) ∧ X < w'.heap.size) ∧ (∀ o, w'.cell? ⟨Y, o, none⟩ = w6.cell? ⟨Y, o, none⟩) ∧ Y < w'.heap.size) ((refine keepY16 (F := fun q => F q ∨ G q) K6.out Y6.out NX.out NY.out ?_; first | with_reducible exact C0 | with_reducible exact C7 | with_reducible exact C8))
            (first
              | (go_at_call 12; refine HP1.out.mono ?_; rintro e6 w7 ⟨rfl, hq7⟩; have hmid := HBD.out.mid hq7 hz6; have C7 := C0.trans hmid.2.1 (fun q hq => .inl hq); have HR6 := Lib.hid hmid.1; have HK7 := Lib.hid (HKD.out.below hmid.2.2))
              | (go_at_call 13; refine (HP2.out _ HR6.out).mono ?_; rintro e7 w8 ⟨rfl, hq8⟩; obtain ⟨F8, G8, hT8, hC8⟩ := HBD.out.step hq7 hq8 hz6; have C8 := C0.trans hC8 (fun q hq => .inl hq)))
          have K8 := Lib.hid (K6.out.chg C8 NX.out)
          have Y8 := Lib.hid (Y6.out.chg C8 NY.out)
          have B8 := Lib.hid (B6.out.trans (HB6.out.bounds hz6 C8))
          have T8 := Lib.hid hT8
          clear hq7 hmid hT8 hC8 C8 C7 hq8 HR6 HK7
          go_wp2_with fail
          go_meet
          exact ⟨_, F8, G8, rfl, rfl, T8, HNL, K8, Y8, B8⟩
        have d1 : (a.kind == 1) = false := by simp [h1]
        clear h1
        by_cases h2 : a.kind = 2
        · have d2 : (a.kind == 2) = true := by simp [h2]
          clear h2
          have HNL := Lib.hid (show (forgetK R a.n).length ≤ 30 * (k + 1) by have h1 : (forgetK R a.n).length ≤ R.length := List.length_filter_le _ _; omega)
          have HP1 := Lib.hid (forget_x HBD.out.xp a.n HN1.out)
          have HP2 := Lib.hid (fun (W : World) (hW : RrIs W g g R G) => forget_r hW a.n (by omega))
          obtain ⟨N, hN⟩ : ∃ N : Int, ((onL R a.n).length : Int) = N := ⟨_, rfl⟩
          rw [hN] at HP1
          simp only [hN] at HP2
          clear hN
          have dN : (N != N) = false := by simp
          go_upto_region 22 with fail
          go_region_held3 (fun w' => ((∀ o, w'.cell? ⟨X, o, none⟩ = w6.cell? ⟨X, o, none⟩) ∧ X < w'.heap.size) ∧ (∀ o, w'.cell? ⟨Y, o, none⟩ = w6.cell? ⟨Y, o, none⟩) ∧ Y < w'.heap.size) ((refine keepY16 (F := fun q => F q ∨ G q) K6.out Y6.out NX.out NY.out ?_; first | with_reducible exact C0 | with_reducible exact C7 | with_reducible exact C8))
            (first
              | (go_at_call 14; refine HP1.out.mono ?_; rintro e6 w7 ⟨rfl, hq7⟩; have hmid := HBD.out.mid hq7 hz6; have C7 := C0.trans hmid.2.1 (fun q hq => .inl hq); have HR6 := Lib.hid hmid.1; have HK7 := Lib.hid (HKD.out.below hmid.2.2))
              | (go_at_call 15; refine (HP2.out _ HR6.out).mono ?_; rintro e7 w8 ⟨rfl, hq8⟩; obtain ⟨F8, G8, hT8, hC8⟩ := HBD.out.step hq7 hq8 hz6; have C8 := C0.trans hC8 (fun q hq => .inl hq)))
          have K8 := Lib.hid (K6.out.chg C8 NX.out)
          have Y8 := Lib.hid (Y6.out.chg C8 NY.out)
          have B8 := Lib.hid (B6.out.trans (HB6.out.bounds hz6 C8))
          have T8 := Lib.hid hT8
          clear hq7 hmid hT8 hC8 C8 C7 hq8 HR6 HK7
          go_wp2_with fail
          go_meet
          exact ⟨_, F8, G8, rfl, rfl, T8, HNL, K8, Y8, B8⟩
        have d2 : (a.kind == 2) = false := by simp [h2]
        clear h2
        by_cases h3 : a.kind = 3
        · have d3 : (a.kind == 3) = true := by simp [h3]
          clear h3
          have HNL := Lib.hid (show (dropK R kk).length ≤ 30 * (k + 1) by have h1 : (dropK R kk).length ≤ R.length := List.length_filter_le _ _; omega)
          have HP1 := Lib.hid (drop_x HBD.out.xp kk HKK.out (by omega))
          have HP2 := Lib.hid (fun (W : World) (hW : RrIs W g g R G) => drop_r hW kk (by omega))
          obtain ⟨N, hN⟩ : ∃ N : Int, ((R.length - (dropK R kk).length : Nat) : Int) = N := ⟨_, rfl⟩
          rw [hN] at HP1
          simp only [hN] at HP2
          clear hN
          have dN : (N != N) = false := by simp
          go_upto_region 25 with fail
          go_region_held3 (fun w' => ((∀ o, w'.cell? ⟨X, o, none⟩ = w6.cell? ⟨X, o, none⟩) ∧ X < w'.heap.size) ∧ (∀ o, w'.cell? ⟨Y, o, none⟩ = w6.cell? ⟨Y, o, none⟩) ∧ Y < w'.heap.size) ((refine keepY16 (F := fun q => F q ∨ G q) K6.out Y6.out NX.out NY.out ?_; first | with_reducible exact C0 | with_reducible exact C7 | with_reducible exact C8))
            (first
              | (go_at_call 16; refine HP1.out.mono ?_; rintro e6 w7 ⟨rfl, hq7⟩; have hmid := HBD.out.mid hq7 hz6; have C7 := C0.trans hmid.2.1 (fun q hq => .inl hq); have HR6 := Lib.hid hmid.1; have HK7 := Lib.hid (HKD.out.below hmid.2.2))
              | (go_at_call 17; refine (HP2.out _ HR6.out).mono ?_; rintro e7 w8 ⟨rfl, hq8⟩; obtain ⟨F8, G8, hT8, hC8⟩ := HBD.out.step hq7 hq8 hz6; have C8 := C0.trans hC8 (fun q hq => .inl hq)))
          have K8 := Lib.hid (K6.out.chg C8 NX.out)
          have Y8 := Lib.hid (Y6.out.chg C8 NY.out)
          have B8 := Lib.hid (B6.out.trans (HB6.out.bounds hz6 C8))
          have T8 := Lib.hid hT8
          clear hq7 hmid hT8 hC8 C8 C7 hq8 HR6 HK7
          go_wp2_with fail
          go_meet
          exact ⟨_, F8, G8, rfl, rfl, T8, HNL, K8, Y8, B8⟩
        have d3 : (a.kind == 3) = false := by simp [h3]
        clear h3
        have HNL := Lib.hid (show R.length ≤ 30 * (k + 1) by omega)
        clear C0
        go_wp2_with fail
        go_meet
        exact ⟨R, F, G, rfl, rfl, HB6, HNL, K6, Y6, B6⟩
      case rest =>
      obtain ⟨R', F', G', rfl, rfl, HB7, HLEN7, K7, Y7, B7⟩ := hcut
      obtain ⟨w7, hw7⟩ : ∃ w7, w7 = wc := ⟨_, rfl⟩
      subst hw7
      have hz7 := B7.out.size
      have hk8 : R'.length ≤ 1800 := by have := HLEN7.out; omega
      have HND := Lib.hid HB7.out.xp.nodup
      clear HB6 HK6 K6 Y6 B6 hz6 hk6 hk7 HX0 HY0
      obtain ⟨wo, hwo⟩ : ∃ wo, wo = wr := ⟨_, rfl⟩
      subst hwo
      go_wp2_with fail
      go_loopw [101] (fun s101 wr => ∃ j : Nat, j ≤ n ∧ s101 = .int .i64 j ∧ Hid (Below w7.heap.size w7 wr)) (fun i _ => n - (intOf i).toNat)
      case atStart => exact ⟨0, Nat.zero_le _, rfl, Lib.hid (Below.refl _ _)⟩
      case round =>
        obtain ⟨j, hj, rfl, BI⟩ := hrel
        have hzi := BI.out.size
        by_cases hji : j < n
        · have hji' : (j : Int) < n := by omega
          obtain ⟨gb2, o2, b, e, hgl2, hx, y0, y1, y2, ⟨A2, n2, c2, y3, hK2, hnc2, hcm2⟩, hwf2, hn2⟩ := Arr.at (HT.out.below (B7.out.trans (BI.out.mono hz7))) hji
          injection e with e
          injection e with e1 e2
          subst e1 e2
          have HBN := Lib.hid hn2
          have Z0 := Lib.hid (Blk.new wr 32 #[.int .i64 b.kind, .int .i64 b.n.1, .int .i64 b.n.2, .slice A2 n2 c2])
          have BZ := Lib.hid (BI.out.alloc hzi (.cells #[.int .i64 b.kind, .int .i64 b.n.1, .int .i64 b.n.2, .slice A2 n2 c2] 32))
          obtain ⟨z0, z1, z2, z3⟩ := Z0.out.four
          clear hx hK2 hnc2 hcm2 hwf2 hn2
          go_wp2_with fail
          refine (list_r (HB7.out.rr.below BZ.out) HND.out b.n (by omega)).mono ?_
          rintro e8 w8 ⟨A8, m8, c8, rfl, hb8, ho8⟩
          have HM8 := Lib.hid (show (onL R' b.n).length = m8 by rw [← own_lenK ho8, srt_len (nodup_onL HND.out b.n)])
          have HO8 := Lib.hid ho8
          have Z8 := Lib.hid (Z0.out.below hb8 Z0.out.lt)
          have B8 := Lib.hid (BZ.out.trans (hb8.mono BZ.out.size))
          have Y8 := Lib.hid (Y7.out.below B8.out Y7.out.lt)
          clear hb8 ho8 BZ Z0 z0 z1 z2 z3 y0 y1 y2 y3
          generalize wr.heap.size = Z at *
          obtain ⟨z0, z1, z2, z3⟩ := Z8.out.four
          obtain ⟨k0, k1, k2⟩ := Y8.out.three
          have hZ8 := Z8.out.lt
          have hY8 := Y8.out.lt
          have HXW := Lib.hid (fun (W : World) (hW : Below w8.heap.size w8 W) => show RxIs W p R' F' from HB7.out.xp.below (B8.out.trans (hW.mono B8.out.size)))
          have HRW := Lib.hid (fun (W : World) (hW : Below w8.heap.size w8 W) => show RrIs W g g R' G' from HB7.out.rr.below (B8.out.trans (hW.mono B8.out.size)))
          have HL1 := Lib.hid (show ∀ W, Below w8.heap.size w8 W → Calls Try.prog 19 #[.pointer (some ⟨p, 0, none⟩), .int .i64 b.n.1, .int .i64 b.n.2] W fun e w' => e = .returned (.int .i64 (m8 : Int)) ∧ W = w' from fun W hW => by
            rw [← HM8.out]
            obtain ⟨m0, R0, h0⟩ := HXW.out W hW
            exact len_x h0 b.n HBN.out)
          have HNX := Lib.hid (fun (W : World) (hW : Below w8.heap.size w8 W) => next_x (HXW.out W hW) b.n HBN.out (by omega))
          have HFS := Lib.hid (fun (W : World) (hW : Below w8.heap.size w8 W) => first_r (own_below2 HO8.out hW))
          obtain ⟨dv, hdv⟩ : ∃ dv : Bool, decide (Rw.mk b.n kk ∈ R') = dv := ⟨_, rfl⟩
          obtain ⟨fi, hfi⟩ : ∃ fi : Int, findR R' ⟨b.n, kk⟩ = fi := ⟨_, rfl⟩
          have hfd : decide (fi ≥ 0) = dv := by rw [← hdv, ← hfi]; exact find_is R' ⟨b.n, kk⟩
          have HON := Lib.hid (show ∀ W, Below w8.heap.size w8 W → Calls Try.prog 23 #[.pointer (some ⟨p, 0, none⟩), .int .i64 b.n.1, .int .i64 b.n.2, .agg #[.int .i64 kk.kind, .int .i64 kk.id, .int .i64 kk.adv]] W fun e w' => e = .returned (.bool dv) ∧ Below W.heap.size W w' from fun W hW => by
            obtain ⟨m0, R0, h0⟩ := HXW.out W hW
            rw [← hdv]
            exact on_x h0 b.n HBN.out kk HKK.out)
          have HFD := Lib.hid (show ∀ W, Below w8.heap.size w8 W → Calls Try.prog 24 #[.pointer (some ⟨g, 0, none⟩), .int .i64 b.n.1, .int .i64 b.n.2, .agg #[.int .i64 kk.kind, .int .i64 kk.id, .int .i64 kk.adv]] W fun e w' => e = .returned (.int .i64 fi) ∧ Below W.heap.size W w' from fun W hW => (find_g (HRW.out W hW) b.n HBN.out kk HKK.out).mono fun e w' h => ⟨by rw [← hfi]; exact h.1, below_grown13 h.2⟩)
          have dN : ((m8 : Int) != (m8 : Int)) = false := by simp
          have dD : (dv != dv) = false := by simp
          have BR : Below w8.heap.size w8 w8.drew := ⟨rfl, rfl, rfl, Nat.le_refl _, fun _ _ => rfl⟩
          clear hdv hfi HXW HRW HM8
          go_upto_region 31 with fail
          go_region_held3 (fun w' => Below w8.heap.size w8 w' ∧ (∀ b o, b < w8.heap.size → w'.cell? ⟨b, o, none⟩ = w8.cell? ⟨b, o, none⟩)) ((refine keepW ?_; first | with_reducible exact BR | with_reducible exact BR1 | with_reducible exact BR2 | with_reducible exact BR3 | with_reducible exact BR4 | with_reducible exact BR5))
            (first
              | (go_at_call 19; refine (HL1.out _ BR).mono ?_; rintro ea wa ⟨rfl, rfl⟩)
              | (go_at_call 21; refine (HNX.out _ BR).mono ?_; rintro ea wa ⟨Aa, na, ca, rfl, hba, hoa⟩; have BR1 := BR.trans (show Below w8.heap.size w8.drew wa from hba))
              | (go_at_call 22; refine (HFS.out _ BR1).mono ?_; rintro eb wb ⟨Ab, nb, cb, rfl, hbb, hob⟩; have BR2 := BR1.trans (hbb.mono BR1.size); have hoc := own_below2 hoa hbb)
              | (go_at_call 20; refine (keys13_yes hoc hob).mono ?_; rintro ec wc2 ⟨rfl, qc, rfl⟩; have BR3 := below_drewN BR2 qc)
              | (go_at_call 23; refine (HON.out _ BR3).mono ?_; rintro ed wd ⟨rfl, hbd⟩; have BR4 := BR3.trans (hbd.mono BR3.size))
              | (go_at_call 24; refine (HFD.out _ BR4).mono ?_; rintro ee we ⟨rfl, hbe⟩; have BR5 := BR4.trans (hbe.mono BR4.size)))
          have BE := Lib.hid (B8.out.trans (BR5.mono B8.out.size))
          clear BR5 BR4 BR3 BR2 BR1 BR hba hoa hbb hob hoc hbd hbe HL1 HNX HFS HON HFD HO8 z0 z1 z2 z3 k0 k1 k2 Y8 Z8 B8
          go_wp2_with fail
          go_roundw
          case rel => exact ⟨j + 1, by omega, by go_num, BE⟩
          case measure => simp [intOf]; omega
        · have hji' : ¬ (j : Int) < n := by omega
          have HB8 := Lib.hid (HB7.out.below BI.out)
          have Y8 := Lib.hid (Y7.out.below BI.out Y7.out.lt)
          have B8 := Lib.hid (B7.out.trans (BI.out.mono hz7))
          obtain ⟨hv, hhv⟩ : ∃ hv : Bool, hasK R' kk = hv := ⟨_, rfl⟩
          have HH1 := Lib.hid (show ∀ W, Below wr.heap.size wr W → Calls Try.prog 25 #[.pointer (some ⟨p, 0, none⟩), .agg #[.int .i64 kk.kind, .int .i64 kk.id, .int .i64 kk.adv]] W fun e w' => e = .returned (.bool hv) ∧ Below W.heap.size W w' from fun W hW => by
            rw [← hhv]
            exact hasR_x (HB8.out.xp.below hW) kk HKK.out)
          have HH2 := Lib.hid (show ∀ W, Below wr.heap.size wr W → Calls Try.prog 26 #[.pointer (some ⟨g, 0, none⟩), .agg #[.int .i64 kk.kind, .int .i64 kk.id, .int .i64 kk.adv]] W fun e w' => e = .returned (.bool hv) ∧ Below W.heap.size W w' from fun W hW => (hasR_g (HB8.out.rr.below hW) kk).mono fun e w' h => ⟨by rw [← hhv]; exact h.1, below_grown13 h.2⟩)
          have dD : (hv != hv) = false := by simp
          have BR : Below wr.heap.size wr wr.drew := ⟨rfl, rfl, rfl, Nat.le_refl _, fun _ _ => rfl⟩
          obtain ⟨k0, k1, k2⟩ := Y8.out.three
          have hY8 := Y8.out.lt
          clear hhv HB7 K7 Y7 B7
          go_upto_region 34 with fail
          go_region_held3 (fun w' => Below wr.heap.size wr w' ∧ (∀ b o, b < wr.heap.size → w'.cell? ⟨b, o, none⟩ = wr.cell? ⟨b, o, none⟩)) ((refine keepW ?_; first | with_reducible exact BR | with_reducible exact BR1 | with_reducible exact BR2))
            (first
              | (go_at_call 25; refine (HH1.out _ BR).mono ?_; rintro ea wa ⟨rfl, hba⟩; have BR1 := BR.trans (show Below wr.heap.size wr.drew wa from hba))
              | (go_at_call 26; refine (HH2.out _ BR1).mono ?_; rintro eb wb ⟨rfl, hbb⟩; have BR2 := BR1.trans (hbb.mono BR1.size)))
          have HB9 := Lib.hid (HB8.out.below BR2)
          have B9 := Lib.hid (B8.out.trans (BR2.mono B8.out.size))
          clear BR2 BR1 BR hba hbb HH1 HH2 k0 k1 k2 Y8 HB8 B8
          go_wp2_with fail
          go_roundw
          case rel => exact ⟨k + 1, R', F', G', by omega, by go_num, HB9, HLEN7, B9⟩
          case measure => simp [intOf]; omega
    · have hlt' : ¬ (k : Int) < n := by omega
      go_wp2
      show Q (.returned (.bool true)) wr
      rw [← HQ.out]
      exact ⟨rfl, BW.out⟩
end Go.Proofs.Ytndjoanlbaiaeaa
