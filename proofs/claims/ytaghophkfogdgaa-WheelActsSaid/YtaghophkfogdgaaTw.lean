/- The walk of the statement WheelActs, of any sort that does what a sort must. Conditions: what the words say. -/
import Derived.Test.YtaghophkfogdgaaTr
import Derived.Test.YtaghophkfogdgaaTs
import Derived.Test.YtaghophkfogdgaaTv
namespace Go.Proofs.Ytaghophkfogdgaa
open Go.RowKit

theorem drop_neg {p : Nat} (z : Int) (hz : z < 0) (w : World) : Calls Try.prog 15 #[.pointer (some ⟨p, 0, none⟩), .int .i64 z] w fun e w' => e = .returned (.int .i64 0) ∧ w' = w := by
  go_enter Try.func15, Try.ntmps15
  go_wp2
  go_ret
  exact ⟨rfl, rfl⟩
/-- Both wheels, alike; what is theirs lies from B on. -/
structure Both (w : World) (B p b q : Nat) (R E : List En) : Prop where
  wh : PWh w p b R
  rw : RWh w 0 q E
  rel : Rel R E
  pq : p ≠ q
  bq : b ≠ q
  bB : B ≤ b
  qB : B ≤ q
section
variable {w w' : World} {B p b q : Nat} {R E R' E' : List En}
theorem Both.below (h : Both w B p b q R E) (hb : Below w.heap.size w w') : Both w' B p b q R E := ⟨h.wh.below hb, h.rw.below hb, h.rel, h.pq, h.bq, h.bB, h.qB⟩
theorem RWh.chg {lo : Nat} (h : RWh w lo q E) (hM : MapIs w b R) (hc : Chg (fun k => k = b) w w') (hq : q ≠ b) : RWh w' lo q E := by
  obtain ⟨A, n, c, hB, hO⟩ := h
  exact ⟨A, n, c, hB.chg hc hq, own_chg hO hc (fun k hk e => own_ne_map hM hO (by rw [hk, e]))⟩
end
theorem Chg.more {F F' : Nat → Prop} {w w' : World} (h : Chg F w w') (hF : ∀ k, F k → F' k) : Chg F' w w' := ⟨h.os, h.tape, h.output, h.size, fun k hk hn => h.block k hk (fun q => hn (hF k q))⟩
theorem keepX {F : Nat → Prop} {w w' : World} {X : Nat} {t : TypeId} {cs : Array Value} (K : Blk w X t cs) (hX : ¬ F X) (hc : Chg F w w') : (∀ o, w'.cell? ⟨X, o, none⟩ = w.cell? ⟨X, o, none⟩) ∧ X < w'.heap.size :=
  ⟨fun o => by rw [(K.chg hc hX).cell, K.cell], Nat.lt_of_lt_of_le K.lt hc.size⟩
theorem row_ne_ref {w : World} {base n size lo q : Nat} {E : List En} {v : Value} {xs : List Value} (h : w.ownsRow base 33 size v n xs) (hR : RWh w lo q E) : v.ownBlock ≠ some q := by
  obtain ⟨A, m, c, hB, -⟩ := hR
  exact own_ne_blk h hB (by decide)
theorem Rel.due_wf {R E : List En} (h : Rel R E) (z : Int) : ∀ t ∈ dueE E z, wfTm t := by
  intro t ht
  obtain ⟨e, he, rfl⟩ := List.mem_map.1 ht
  exact h.wfE e (List.mem_filter.1 he).1
theorem same_due {w : World} {lo lo' n n' c c' : Nat} {A A' : Option Addr} {D L : List Tm} (hO : w.ownsRow lo 33 6 (.slice A n c) n (cellsBy encTm D)) (hO' : w.ownsRow lo' 33 6 (.slice A' n' c') n' (cellsBy encTm L)) (hD : D = L) (hw : ∀ t ∈ L, wfTm t) :
    Calls Try.prog 12 #[.slice A n c, .slice A' n' c'] w fun e w' => e = .returned (.bool true) ∧ Below w.heap.size w w' := by
  subst hD
  have h1 := own_len encTm_len (by omega) hO
  have h2 := own_len encTm_len (by omega) hO'
  obtain rfl : n = n' := h1.symm.trans h2
  exact same_ref hO hO' hw
theorem PWh.drewN {w : World} {p b : Nat} {R : List En} (h : PWh w p b R) (n : Nat) : PWh (w.drewN n) p b R := ⟨h.1.drewN n, h.2.heap rfl⟩
theorem Blk.eight {w : World} {g : Nat} {t : TypeId} {a0 a1 a2 a3 a4 a5 a6 a7 : Value} (h : Blk w g t #[a0, a1, a2, a3, a4, a5, a6, a7]) : w.cell? ⟨g, 0, none⟩ = some a0 ∧ w.cell? ⟨g, 1, none⟩ = some a1 ∧ w.cell? ⟨g, 2, none⟩ = some a2 ∧ w.cell? ⟨g, 3, none⟩ = some a3 ∧ w.cell? ⟨g, 4, none⟩ = some a4 ∧ w.cell? ⟨g, 5, none⟩ = some a5 ∧ w.cell? ⟨g, 6, none⟩ = some a6 ∧ w.cell? ⟨g, 7, none⟩ = some a7 :=
  ⟨h.cell 0, h.cell 1, h.cell 2, h.cell 3, h.cell 4, h.cell 5, h.cell 6, h.cell 7⟩
set_option maxRecDepth 20000 in
set_option maxHeartbeats 16000000 in
theorem acts_walk {k : Nat} (hS : SortUpto k) (hk : 200 ≤ k) (hk2 : k ≤ 1000) (A : Option Addr) (n c : Nat) (T : List Ac) (w : World) (hT : Acs w w.heap.size A n T) (hnc : n ≤ maxLen) :
    Calls Try.prog 3 #[.slice A n c] w fun e w' => e = .returned (.bool true) ∧ Below w.heap.size w w' := by
  unfold maxLen at hnc
  have HT := Lib.hid hT
  have HLT := Lib.hid hT.1
  have HS := Lib.hid hS
  clear hT hS
  go_enter Try.func3, Try.ntmps3
  go_wp2_with fail
  refine (wakes_any HS.out (by omega) hk2 w).mono ?_
  rintro e1 w1 ⟨rfl, hb1⟩
  have B1 := Lib.hid hb1
  clear hb1
  by_cases hn : 200 < n
  · have hn' : (200 : Int) < n := by omega
    go_wp2
    go_ret
    exact ⟨rfl, B1.out⟩
  have hn' : ¬ (200 : Int) < n := by omega
  go_wp2_with fail
  refine (new_wh w1).mono ?_
  rintro e2 w2 ⟨p, b, rfl, hb2, hp2, hpl, hbl⟩
  have b0 : ∀ W, (Instr.build 29 #[]).run Try.prog W = .ok (.agg #[.slice none 0 0]) W := fun W => by kernel_rfl
  have hs1 := B1.out.size
  have hs2 := hb2.size
  have B3 := Lib.hid ((B1.out.trans (hb2.mono hs1)).alloc (by omega) (.cells #[.slice none 0 0] 29))
  have HB3 := Lib.hid (show Both (w2.alloc (.cells #[.slice none 0 0] 29)) w.heap.size p b w2.heap.size [] [] from ⟨hp2.below ((Below.refl _ _).alloc (Nat.le_refl _) _), ⟨none, 0, 0, Blk.new _ _ _, World.ownsRow_nil _ _ _ _⟩, Rel.nil, Nat.ne_of_lt hp2.1.lt, Nat.ne_of_lt hp2.2.lt, by omega, by omega⟩)
  generalize hq : w2.heap.size = q at HB3
  clear hb2 hp2 hpl hbl hs1 hs2
  go_wp2_with fail
  generalize w2.alloc (.cells #[.slice none 0 0] 29) = w3 at *
  clear hq b0
  go_loopw [20] (fun s20 wr => ∃ (j : Nat) (R E : List En), j ≤ n ∧ s20 = .int .i64 j ∧ Hid (Both wr w.heap.size p b q R E) ∧ Hid (R.length ≤ j) ∧ Hid (Below w.heap.size w wr)) (fun i _ => n - (intOf i).toNat)
  case atStart => exact ⟨0, [], [], Nat.zero_le _, rfl, HB3, Lib.hid (Nat.le_refl _), B3⟩
  case round =>
    clear HB3 B3 B1
    obtain ⟨j, R, E, hj, rfl, HB, HL, hb⟩ := hrel
    by_cases hlt : j < n
    · have hlt' : (j : Int) < n := by omega
      have HRL := Lib.hid (show R.length ≤ 200 by have := HL.out; omega)
      obtain ⟨g, o, a, rfl, hgl, hx, ⟨hwk, hwt, hwf⟩, -, hrange⟩ := Arr.at (HT.out.below hb.out) hlt
      have HWF := Lib.hid hwf
      have HWT := Lib.hid hwt
      have y0 := hrange 0 _ rfl
      have y1 := hrange 1 _ rfl
      have y2 := hrange 2 _ rfl
      have y3 := hrange 3 _ rfl
      have y4 := hrange 4 _ rfl
      have y5 := hrange 5 _ rfl
      have y6 := hrange 6 _ rfl
      have y7 := hrange 7 _ rfl
      simp only [Nat.add_zero] at y0
      have hgw := Nat.lt_of_lt_of_le hgl hb.out.size
      clear hrange hwf hwk hwt hx
      go_upto_region 9 with fail
      have K := Lib.hid (Blk.new wr 35 #[.int .i64 a.kind, .int .i64 a.tick, .int .i64 a.t.kind, .int .i64 a.t.lan, .int .i64 a.t.id, .int .i64 a.t.kk, .int .i64 a.t.ki, .int .i64 a.t.ka])
      have HBx := Lib.hid (HB.out.below ((Below.refl wr.heap.size wr).alloc (Nat.le_refl _) (.cells #[.int .i64 a.kind, .int .i64 a.tick, .int .i64 a.t.kind, .int .i64 a.t.lan, .int .i64 a.t.id, .int .i64 a.t.kk, .int .i64 a.t.ki, .int .i64 a.t.ka] 35)))
      have BX := Lib.hid (hb.out.alloc hb.out.size (.cells #[.int .i64 a.kind, .int .i64 a.tick, .int .i64 a.t.kind, .int .i64 a.t.lan, .int .i64 a.t.id, .int .i64 a.t.kk, .int .i64 a.t.ki, .int .i64 a.t.ka] 35))
      obtain ⟨X, hX⟩ : ∃ X, wr.heap.size = X := ⟨_, rfl⟩
      rw [hX] at K
      have HX := Lib.hid (show w.heap.size ≤ X ∧ X ≠ b ∧ X ≠ q by have h1 := hb.out.size; have h2 := HB.out.wh.2.lt; have h3 := HB.out.rw.lt; omega)
      clear y0 y1 y2 y3 y4 y5 y6 y7 HB hb
      generalize wr.alloc (.cells #[.int .i64 a.kind, .int .i64 a.tick, .int .i64 a.t.kind, .int .i64 a.t.lan, .int .i64 a.t.id, .int .i64 a.t.kk, .int .i64 a.t.ki, .int .i64 a.t.ka] 35) = w5 at *
      rw [hX]
      clear hX hgw hgl
      obtain ⟨k0, k1, k2, k3, k4, k5, k6, k7⟩ := K.out.eight
      have hlX := K.out.lt
      go_cut [25] (fun s25 wx => s25 = .int .i64 a.kind ∧ w5 = wx)
      case first =>
        go_wp2_with fail
        go_meet
        exact ⟨rfl, rfl⟩
      case rest =>
      obtain ⟨rfl, rfl⟩ := hcut
      go_step
      go_cut [25] (fun s25 wx => ∃ R' E' : List En, s25 = .int .i64 a.kind ∧ Hid (Both wx w.heap.size p b q R' E') ∧ Hid (R'.length ≤ j + 1) ∧ Hid (Blk wx X 35 #[.int .i64 a.kind, .int .i64 a.tick, .int .i64 a.t.kind, .int .i64 a.t.lan, .int .i64 a.t.id, .int .i64 a.t.kk, .int .i64 a.t.ki, .int .i64 a.t.ka]) ∧ Hid (Below w.heap.size w wx))
      case first =>
        have HSX := Lib.hid (show ∀ (F : Nat → Prop) (W : World), Chg F w5 W → ¬ F X → (∀ o, W.cell? ⟨X, o, none⟩ = w5.cell? ⟨X, o, none⟩) ∧ X < W.heap.size from fun F W hc hF => ⟨fun o => by rw [(K.out.chg hc hF).cell, K.out.cell], Nat.lt_of_lt_of_le hlX hc.size⟩)
        have HEL := Lib.hid (show E.length ≤ 1000 by rw [HBx.out.rel.len]; have := HRL.out; omega)
        have HWE := Lib.hid HBx.out.rel.wfE
        by_cases h0 : a.kind = 0
        · have d0 : (a.kind == 0) = true := by simp [h0]
          clear h0
          have BA := Lib.hid ((Below.refl w5.heap.size w5).alloc (Nat.le_refl _) (.cells (cellsBy encTm [a.t]).toArray 33))
          have HPA := Lib.hid (HBx.out.wh.below BA.out)
          have HOA := Lib.hid (own_blk (n := 1) (size := 6) (base := 0) (Blk.new w5 33 (cellsBy encTm [a.t]).toArray) rfl (by decide) (Nat.zero_le _))
          have HWA := Lib.hid (show ∀ t ∈ [a.t], wfTm t from fun t ht => by rw [List.mem_singleton.1 ht]; exact HWF.out)
          go_upto_region 12 with (go_at_call 8; refine (arm_wh a.tick HPA.out HOA.out HWA.out (by omega) (by have := HRL.out; omega)).mono ?_; rintro e6 w6 ⟨rfl, hp6, hc6⟩)
          have HC6 := Lib.hid ((Chg.of_below (F := fun q => q = b) BA.out).trans hc6 (fun q hq => .inl hq))
          have HP6 := Lib.hid hp6
          have HR6 := Lib.hid (HBx.out.rw.chg HBx.out.wh.2 HC6.out HBx.out.bq.symm)
          obtain ⟨hcell, hlX6⟩ := HSX.out _ _ HC6.out HX.out.2.1
          have B6 := Lib.hid (BX.out.trans (Chg.to_below (B := w.heap.size) HC6.out (fun k hk => by rw [hk]; exact HBx.out.bB) BX.out.size))
          have K6 := Lib.hid (K.out.chg HC6.out HX.out.2.1)
          clear hp6 hc6
          go_wp2_with (go_at_call 9; refine (arm_ref a.tick HR6.out HWE.out HWF.out HEL.out (Nat.zero_le _)).mono ?_; rintro e7 w7 ⟨rfl, hr7, hc7⟩)
          go_meet
          refine ⟨armR a.tick R a.t, armE a.tick E a.t, rfl, Lib.hid ⟨HP6.out.chg hc7 HBx.out.pq HBx.out.bq, hr7, HBx.out.rel.arm HWF.out a.tick, HBx.out.pq, HBx.out.bq, HBx.out.bB, HBx.out.qB⟩, Lib.hid ?_, Lib.hid (K6.out.chg hc7 HX.out.2.2), Lib.hid (B6.out.trans (Chg.to_below (B := w.heap.size) hc7 (fun k hk => by rw [hk]; exact HBx.out.qB) B6.out.size))⟩
          have h1 := restR_len R a.t
          have h2 := HL.out
          show (restR R a.t).length + 1 ≤ j + 1
          omega
        have d0 : (a.kind == 0) = false := by simp [h0]
        clear h0
        have CD : Chg (fun k => k = b) w5 w5.drew := ⟨rfl, rfl, rfl, Nat.le_refl _, fun _ _ _ => rfl⟩
        have NX := Lib.hid (show ¬ (X = b ∨ X = q) from fun h => by rcases h with h | h; exact HX.out.2.1 h; exact HX.out.2.2 h)
        have C0 : Chg (fun k => k = b ∨ k = q) w5 w5.drew := ⟨rfl, rfl, rfl, Nat.le_refl _, fun _ _ _ => rfl⟩
        by_cases h1 : a.kind = 1
        · have d1 : (a.kind == 1) = true := by simp [h1]
          clear h1
          have BA := Lib.hid ((Below.refl w5.heap.size w5.drew).alloc (Nat.le_refl _) (.cells (cellsBy encTm [a.t]).toArray 33))
          have HPA := Lib.hid (show PWh (w5.drew.alloc (.cells (cellsBy encTm [a.t]).toArray 33)) p b R from (show PWh w5.drew p b R from ⟨HBx.out.wh.1.drew, HBx.out.wh.2.drew⟩).below ((Below.refl _ _).alloc (Nat.le_refl _) _))
          have HOA := Lib.hid (own_blk (n := 1) (size := 6) (base := 0) (Blk.new w5.drew 33 (cellsBy encTm [a.t]).toArray) rfl (by decide) (Nat.zero_le _))
          have HWA := Lib.hid (show ∀ t ∈ [a.t], wfTm t from fun t ht => by rw [List.mem_singleton.1 ht]; exact HWF.out)
          have CA := Lib.hid (CD.below ((Below.refl w5.drew.heap.size w5.drew).alloc (Nat.le_refl _) (.cells (cellsBy encTm [a.t]).toArray 33)))
          have CA2 := CA.out.more (F' := fun k => k = b ∨ k = q) (fun k hk => .inl hk)
          obtain ⟨cb, hcb⟩ : ∃ cb, decide ((cancelE E a.t).length < E.length) = cb := ⟨_, rfl⟩
          have hcnt := (HBx.out.rel.count a.t).trans hcb
          have hcc : (cb != cb) = false := by cases cb <;> rfl
          have HCR := Lib.hid (show ∀ W, RWh W 0 q E → Calls Try.prog 11 #[.pointer (some ⟨q, 0, none⟩), .agg #[.int .i64 a.t.kind, .int .i64 a.t.lan, .int .i64 a.t.id, .int .i64 a.t.kk, .int .i64 a.t.ki, .int .i64 a.t.ka]] W fun e w' => e = .returned (.bool cb) ∧ RWh w' 0 q (cancelE E a.t) ∧ Chg (fun k => k = q) W w' from fun W hW => by rw [← hcb]; exact cancel_ref hW HWE.out HWF.out HEL.out (Nat.zero_le _))
          clear hcb
          go_wp2_with fail
          go_region_held3 (fun w' => (∀ o, w'.cell? ⟨X, o, none⟩ = w5.cell? ⟨X, o, none⟩) ∧ X < w'.heap.size) ((refine keepX (F := fun k => k = b ∨ k = q) K.out NX.out ?_; first | with_reducible exact C0 | with_reducible exact C6 | with_reducible exact C7 | exact CA2))
            (first
              | (go_at_call 10; refine (cancel_wh HPA.out HOA.out HWA.out (by omega) (by have := HRL.out; omega)).mono ?_; rintro e6 w6 ⟨rfl, hp6, hc6⟩; have HC6 := Lib.hid (CA.out.trans hc6 (fun q hq => .inl hq)); have C6 := (HC6.out).more (F' := fun k => k = b ∨ k = q) (fun k hk => .inl hk); have HR6 := Lib.hid (HBx.out.rw.chg HBx.out.wh.2 HC6.out HBx.out.bq.symm))
              | (go_at_call 11; refine (HCR.out _ HR6.out).mono ?_; rintro e7 w7 ⟨rfl, hr7, hc7⟩; have C7 := C6.trans (hc7.more (F' := fun k => k = b ∨ k = q) (fun k hk => .inr hk)) (fun k hk => .inl hk)))
          have K7 := Lib.hid (K.out.chg C7 NX.out)
          have HB7 := Lib.hid (show Both w7 w.heap.size p b q (canAll R [a.t]) (cancelE E a.t) from ⟨hp6.chg hc7 HBx.out.pq HBx.out.bq, hr7, HBx.out.rel.cancel a.t, HBx.out.pq, HBx.out.bq, HBx.out.bB, HBx.out.qB⟩)
          have B7 := Lib.hid (BX.out.trans (Chg.to_below (B := w.heap.size) C7 (fun k hk => by rcases hk with hk | hk; rw [hk]; exact HBx.out.bB; rw [hk]; exact HBx.out.qB) BX.out.size))
          have HL7 := Lib.hid (show (canAll R [a.t]).length ≤ j + 1 by have h1 := canAll_len [a.t] R; have h2 := HL.out; omega)
          clear hp6 hr7 hc7 C6 C7 HR6 HC6 CA2
          go_wp2_with fail
          go_meet
          exact ⟨canAll R [a.t], cancelE E a.t, rfl, HB7, HL7, K7, B7⟩
        have d1 : (a.kind == 1) = false := by simp [h1]
        clear h1
        have HPD := Lib.hid (show PWh w5.drew p b R from ⟨HBx.out.wh.1.drew, HBx.out.wh.2.drew⟩)
        by_cases h2 : a.kind = 2
        · have d2 : (a.kind == 2) = true := by simp [h2]
          clear h2
          go_wp2_with fail
          go_region_held3 (fun w' => (∀ o, w'.cell? ⟨X, o, none⟩ = w5.cell? ⟨X, o, none⟩) ∧ X < w'.heap.size) ((refine keepX (F := fun k => k = b ∨ k = q) K.out NX.out ?_; first | with_reducible exact C0 | with_reducible exact C6 | with_reducible exact C7 | with_reducible exact C8))
            (first
              | (go_at_call 13; refine (due_wh HS.out a.tick HPD.out (by have := HRL.out; omega) hk2).mono ?_; rintro e6 w6 ⟨⟨A6, n6, c6, D, rfl, ho6, hd6, hs6⟩, hp6, hc6⟩; have HC6 := Lib.hid (CD.trans hc6 (fun q hq => .inl hq)); have C6 := (HC6.out).more (F' := fun k => k = b ∨ k = q) (fun k hk => .inl hk); have HR6 := Lib.hid (HBx.out.rw.chg HBx.out.wh.2 HC6.out HBx.out.bq.symm); have HDD := Lib.hid (HBx.out.rel.due hd6 hs6); have HO6 := Lib.hid ho6; have HNQ := Lib.hid (row_ne_ref HO6.out HR6.out))
              | (go_at_call 14; refine (due_ref a.tick HR6.out HEL.out (Nat.zero_le _)).mono ?_; rintro e7 w7 ⟨⟨A7, n7, c7, rfl, ho7⟩, hr7, hc7⟩; have C7 := C6.trans (hc7.more (F' := fun k => k = b ∨ k = q) (fun k hk => .inr hk)) (fun k hk => .inl hk); have HO7 := Lib.hid (own_chg HO6.out hc7 (fun k hk e => HNQ.out (by rw [hk, e]))); have HSM := Lib.hid (same_due HO7.out ho7 HDD.out (HBx.out.rel.due_wf a.tick)))
              | (go_at_call 12; refine HSM.out.mono ?_; rintro e8 w8 ⟨rfl, hb8⟩; have C8 := C7.below hb8))
          have K7 := Lib.hid (K.out.chg C8 NX.out)
          have HB7 := Lib.hid (show Both w8 w.heap.size p b q (laterR R a.tick) (restE E a.tick) from (show Both w7 w.heap.size p b q (laterR R a.tick) (restE E a.tick) from ⟨hp6.chg hc7 HBx.out.pq HBx.out.bq, hr7, HBx.out.rel.later a.tick, HBx.out.pq, HBx.out.bq, HBx.out.bB, HBx.out.qB⟩).below hb8)
          have B7 := Lib.hid (BX.out.trans (Chg.to_below (B := w.heap.size) C8 (fun k hk => by rcases hk with hk | hk; rw [hk]; exact HBx.out.bB; rw [hk]; exact HBx.out.qB) BX.out.size))
          have HL7 := Lib.hid (show (laterR R a.tick).length ≤ j + 1 by have h1 : (laterR R a.tick).length ≤ R.length := List.length_filter_le _ _; have h2 := HL.out; omega)
          clear hp6 hr7 hc7 C6 C7 C8 HR6 HC6 hb8 ho6 hd6 hs6 ho7
          go_wp2_with fail
          go_meet
          exact ⟨laterR R a.tick, restE E a.tick, rfl, HB7, HL7, K7, B7⟩
        have d2 : (a.kind == 2) = false := by simp [h2]
        clear h2
        by_cases h3 : a.kind = 3
        · have d3 : (a.kind == 3) = true := by simp [h3]
          clear h3
          obtain ⟨v, R', E', hA, hBc, hRel, hRl⟩ : ∃ (v : Int) (R' E' : List En), Calls Try.prog 15 #[.pointer (some ⟨p, 0, none⟩), .int .i64 a.tick] w5.drew (fun e w' => e = .returned (.int .i64 v) ∧ PWh w' p b R' ∧ Chg (fun k => k = b) w5.drew w') ∧
              (∀ W, RWh W 0 q E → Calls Try.prog 16 #[.pointer (some ⟨q, 0, none⟩), .int .i64 a.tick] W fun e w' => e = .returned (.int .i64 v) ∧ RWh w' 0 q E' ∧ Chg (fun k => k = q) W w') ∧ Rel R' E' ∧ R'.length ≤ R.length := by
            by_cases hz : a.tick < 0
            · refine ⟨0, R, E, (drop_neg a.tick hz w5.drew).mono ?_, fun W hW => (drop_ref a.tick hW HEL.out (Nat.zero_le _)).mono ?_, HBx.out.rel, Nat.le_refl _⟩
              · rintro e w' ⟨rfl, rfl⟩
                exact ⟨rfl, HPD.out, Chg.refl _ _⟩
              · rintro e w' ⟨rfl, h1, h2⟩
                rw [dropE_neg hz] at h1 ⊢
                exact ⟨by simp, h1, h2⟩
            · have hz' : 0 ≤ a.tick := by omega
              obtain ⟨h1, h2⟩ := HBx.out.rel.drop hz'
              refine ⟨(R.length : Int) - (dropR R a.tick).length, dropR R a.tick, dropE E a.tick, drop_wh a.tick hz' HPD.out (by have := HRL.out; omega), fun W hW => ?_, h1, dropR_len R a.tick⟩
              rw [h2]
              exact drop_ref a.tick hW HEL.out (Nat.zero_le _)
          have HA := Lib.hid hA
          have HBC := Lib.hid hBc
          have hvv : (v != v) = false := by simp
          clear hA hBc
          go_wp2_with fail
          go_region_held3 (fun w' => (∀ o, w'.cell? ⟨X, o, none⟩ = w5.cell? ⟨X, o, none⟩) ∧ X < w'.heap.size) ((refine keepX (F := fun k => k = b ∨ k = q) K.out NX.out ?_; first | with_reducible exact C0 | with_reducible exact C6 | with_reducible exact C7))
            (first
              | (go_at_call 15; refine HA.out.mono ?_; rintro e6 w6 ⟨rfl, hp6, hc6⟩; have HC6 := Lib.hid (CD.trans hc6 (fun q hq => .inl hq)); have C6 := (HC6.out).more (F' := fun k => k = b ∨ k = q) (fun k hk => .inl hk); have HR6 := Lib.hid (HBx.out.rw.chg HBx.out.wh.2 HC6.out HBx.out.bq.symm))
              | (go_at_call 16; refine (HBC.out _ HR6.out).mono ?_; rintro e7 w7 ⟨rfl, hr7, hc7⟩; have C7 := C6.trans (hc7.more (F' := fun k => k = b ∨ k = q) (fun k hk => .inr hk)) (fun k hk => .inl hk)))
          have K7 := Lib.hid (K.out.chg C7 NX.out)
          have HB7 := Lib.hid (show Both w7 w.heap.size p b q R' E' from ⟨hp6.chg hc7 HBx.out.pq HBx.out.bq, hr7, hRel, HBx.out.pq, HBx.out.bq, HBx.out.bB, HBx.out.qB⟩)
          have B7 := Lib.hid (BX.out.trans (Chg.to_below (B := w.heap.size) C7 (fun k hk => by rcases hk with hk | hk; rw [hk]; exact HBx.out.bB; rw [hk]; exact HBx.out.qB) BX.out.size))
          have HL7 := Lib.hid (show R'.length ≤ j + 1 by have h2 := HL.out; omega)
          clear hp6 hr7 hc7 C6 C7 HR6 HC6 hRel hRl
          go_wp2_with fail
          go_meet
          exact ⟨R', E', rfl, HB7, HL7, K7, B7⟩
        · have d3 : (a.kind == 3) = false := by simp [h3]
          clear h3
          go_wp2_with fail
          go_meet
          exact ⟨R, E, rfl, HBx, Lib.hid (by have := HL.out; omega), K, BX⟩
      case rest =>
      obtain ⟨R', E', rfl, HBs, HLs, Ks, Bs⟩ := hcut
      rename World => ws
      have HRL2 := Lib.hid (show R'.length ≤ 201 by have := HLs.out; omega)
      have HEL2 := Lib.hid (show E'.length ≤ 1000 by rw [HBs.out.rel.len]; have := HRL2.out; omega)
      clear k0 k1 k2 k3 k4 k5 k6 k7 hlX K HBx BX HRL HL
      obtain ⟨k0, k1, k2, k3, k4, k5, k6, k7⟩ := Ks.out.eight
      have hls := Ks.out.lt
      go_wp2_with fail
      refine (at_wh HWF.out HBs.out.wh).mono ?_
      rintro e8 w8 ⟨rfl, hb8⟩
      have HB8 := Lib.hid (HBs.out.below hb8)
      have K8 := Lib.hid (Ks.out.below hb8 hls)
      have B8 := Lib.hid (Bs.out.trans (hb8.mono Bs.out.size))
      clear k0 k1 k2 k3 k4 k5 k6 k7 hls hb8 HBs Ks Bs
      obtain ⟨k0, k1, k2, k3, k4, k5, k6, k7⟩ := K8.out.eight
      have hl8 := K8.out.lt
      go_wp2_with fail
      refine (at_ref HB8.out.rw HB8.out.rel.wfE HWF.out HEL2.out).mono ?_
      rintro e9 w9 ⟨rfl, hb9⟩
      have HB9 := Lib.hid (HB8.out.below hb9)
      have B9 := Lib.hid (B8.out.trans (hb9.mono B8.out.size))
      clear k0 k1 k2 k3 k4 k5 k6 k7 hl8 hb9 HB8 K8 B8
      have HREL := Lib.hid HB9.out.rel
      have HPW := Lib.hid HB9.out.wh
      obtain ⟨A9, n9, c9, hq9, ho9⟩ := HB9.out.rw
      have hn9 := own_len encEn_len (by omega) ho9
      have HN9 := Lib.hid (show R'.length = n9 by rw [← hn9, HREL.out.len])
      have HO9 := Lib.hid ho9
      have c0 := hq9.one
      have hq9l := hq9.lt
      clear hq9 ho9
      have HLEN := Lib.hid (fun W (hW : PWh W p b R') => (show Calls Try.prog 19 #[.pointer (some ⟨p, 0, none⟩)] W fun e w' => e = .returned (.int .i64 (n9 : Int)) ∧ w' = W by have := len_wh hW; rwa [HN9.out] at this))
      have hnn : ((n9 : Int) != (n9 : Int)) = false := by simp
      rcases HREL.out.at a.t with ⟨e1, e2⟩ | ⟨i, e, e1, e2, e3, e4⟩
      · rw [e1, e2]
        clear e1 e2
        go_wp2_with fail
        go_quiet ((go_at_call 19; exact Calls.quiet_of_same (HLEN.out _ (HPW.out.drewN _))))
        have HBn := Lib.hid (show Both (w9.drewN nq) w.heap.size p b q R' E' from HB9.out.below (below_drewN (Below.refl _ _) _))
        have Bn := Lib.hid (below_drewN B9.out nq)
        go_wp2
        go_roundw
        case rel => exact ⟨j + 1, R', E', by omega, by go_num, HBn, HLs, Bn⟩
        case measure => simp [intOf]; omega
      · rw [e1, e2, ← e4]
        obtain ⟨g9, rfl, -, hgl9, hnc9, hcm9, y0, -⟩ := own_en HO9.out e3
        have hi9 : i < n9 := by have := (List.getElem?_eq_some_iff.1 e3).1; omega
        have hi9' : (i : Int) < (n9 : Int) := by omega
        have htt : (e.tick != e.tick) = false := by simp
        have hge : (0 : Int) ≤ (i : Int) := by omega
        unfold maxLen at hcm9
        clear e1 e2 e3 e4
        go_wp2_with fail
        go_quiet ((go_at_call 19; exact Calls.quiet_of_same (HLEN.out _ (HPW.out.drewN _))))
        have HBn := Lib.hid (show Both (w9.drewN nq) w.heap.size p b q R' E' from HB9.out.below (below_drewN (Below.refl _ _) _))
        have Bn := Lib.hid (below_drewN B9.out nq)
        go_wp2
        go_roundw
        case rel => exact ⟨j + 1, R', E', by omega, by go_num, HBn, HLs, Bn⟩
        case measure => simp [intOf]; omega
    · go_wp2
      go_ret
      exact ⟨rfl, hb.out⟩
end Go.Proofs.Ytaghophkfogdgaa
