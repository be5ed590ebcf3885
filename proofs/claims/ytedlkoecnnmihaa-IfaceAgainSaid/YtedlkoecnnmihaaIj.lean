/- The program's Step. Conditions: numbers unlike, from 1 on; at most 1,000,000 others; state and event of 64 bits. -/
import Derived.Test.YtedlkoecnnmihaaIh
namespace Go.Proofs.Ytedlkoecnnmihaa
open Go.RowKit
instance (s e : Int) : Decidable (votes s e) := inferInstanceAs (Decidable (_ ∨ _))
theorem blk_far5 {g q : Nat} {w : World} {t : TypeId} {cs : Array Value} {v0 v1 v2 v3 v4 : Value} (h : Blk w g t cs) (hg : g ≠ q) : Blk (((((w.setCell ⟨q, 0, none⟩ v0).setCell ⟨q, 1, none⟩ v1).setCell ⟨q, 2, none⟩ v2).setCell ⟨q, 3, none⟩ v3).setCell ⟨q, 4, none⟩ v4) g t cs :=
  ((((h.far (p := ⟨q, 0, none⟩) hg v0).far (p := ⟨q, 1, none⟩) hg v1).far (p := ⟨q, 2, none⟩) hg v2).far (p := ⟨q, 3, none⟩) hg v3).far (p := ⟨q, 4, none⟩) hg v4
theorem tblM_at (p q : Nat) (s e : Int) : tblF (tblM p q s) [] (s, e) = if e = 1 then some (downV p) else if s = 0 ∧ e = 0 then some (upV p) else if votes s e then some (elV p q) else none := by
  unfold tblF tblM votes
  simp only [List.find?_cons, List.find?_nil, List.contains_nil, Bool.not_false, Bool.and_true]
  have hx : ∀ a b : Int, (((a, b) : Int × Int) == (s, e)) = (decide (s = a) && decide (e = b)) := fun a b => by
    rw [Bool.eq_iff_iff]
    simp
    omega
  by_cases h1 : e = 1
  · rw [if_pos h1]
    simp only [hx]
    simp [h1]
  · rw [if_neg h1]
    simp only [hx, h1, decide_false, Bool.and_false]
    by_cases g0 : s = 0
    · subst g0
      by_cases h0 : e = 0 <;> simp [h0]
    · by_cases g1 : s = 1
      · subst g1
        by_cases h2 : e = 2
        · subst h2
          simp
        · by_cases h3 : e = 3
          · subst h3
            simp
          · simp [h2, h3]
      · by_cases g2 : s = 2
        · subst g2
          by_cases h4 : e = 4 <;> simp [h4]
        · by_cases g3 : s = 3
          · subst g3
            by_cases h4 : e = 4 <;> simp [h4]
          · by_cases g4 : s = 4
            · subst g4
              by_cases h4 : e = 4 <;> simp [h4]
            · simp [g0, g1, g2, g3, g4]
/-- What the table tells of an event. -/
theorem look_any {w : World} {m p q : Nat} (i : If) (e : Int) (L : List Cd) (h : MapF w m 7 (tblF (tblM p q i.state) [])) (hs : wf64 i.state) (he : wf64 e) :
    ∃ v b, (Instr.lookup 41 (.map (some m)) (.agg #[.int .i64 i.state, .int .i64 e]) true).run Try.prog w = .ok (.tuple #[v, .bool b]) w ∧
      ((b = false ∧ stepI i e L = i) ∨ (b = true ∧ v = downV p ∧ stepI i e L = downI i) ∨ (b = true ∧ v = upV p ∧ stepI i e L = upI i) ∨ (b = true ∧ v = elV p q ∧ stepI i e L = voteI i L)) := by
  have ht := tblM_at p q i.state e
  by_cases h1 : e = 1
  · rw [if_pos h1] at ht
    exact ⟨_, _, h.look_some hs he ht, .inr (.inl ⟨rfl, rfl, step_down h1⟩)⟩
  · rw [if_neg h1] at ht
    by_cases h2 : i.state = 0 ∧ e = 0
    · rw [if_pos h2] at ht
      exact ⟨_, _, h.look_some hs he ht, .inr (.inr (.inl ⟨rfl, rfl, step_up h2⟩))⟩
    · rw [if_neg h2] at ht
      by_cases h3 : votes i.state e
      · rw [if_pos h3] at ht
        exact ⟨_, _, h.look_some hs he ht, .inr (.inr (.inr ⟨rfl, rfl, step_vote h3⟩))⟩
      · rw [if_neg h3] at ht
        obtain ⟨v, hv⟩ := h.look_none hs he ht
        exact ⟨v, _, hv, .inl ⟨rfl, step_still h1 h2 h3⟩⟩

set_option maxRecDepth 8000 in
set_option maxHeartbeats 8000000 in
theorem step_any {w : World} {B n c : Nat} {A : Option Addr} {L : List Cd} (i : If) (e : Int) (hs : Cds w B A n L) (hB : B ≤ w.heap.size) (hn : n ≤ 1000000) (ha : ApartC (ownI i :: L)) (hst : wf64 i.state) (he : wf64 e) :
    Calls Try.prog 9 #[.agg #[.int .i64 i.self, .int .i64 i.prio, .int .i64 i.state, .int .i64 i.dr, .int .i64 i.bdr], .int .i64 e, .slice A n c] w fun r w' => r = .returned (.tuple #[.agg #[.int .i64 (stepI i e L).self, .int .i64 (stepI i e L).prio, .int .i64 (stepI i e L).state, .int .i64 (stepI i e L).dr, .int .i64 (stepI i e L).bdr], .bool (!sameI (stepI i e L) i)]) ∧ Below w.heap.size w w' := by
  generalize hX : stepI i e L = x
  have HP := Lib.hid (hs.more hB)
  have HAP := Lib.hid ha
  have HE := Lib.hid he
  have HS := Lib.hid hst
  clear hs hB ha he hst
  have B0 := Lib.hid (below_new2 w (.cells #[.int .i64 i.self, .int .i64 i.prio, .int .i64 i.state, .int .i64 i.dr, .int .i64 i.bdr] 23) (.cells #[.int .i64 0, .int .i64 0, .int .i64 0, .int .i64 0, .int .i64 0] 23))
  have K0 := Lib.hid (blk_new07 w #[.int .i64 i.self, .int .i64 i.prio, .int .i64 i.state, .int .i64 i.dr, .int .i64 i.bdr] 23 (.cells #[.int .i64 0, .int .i64 0, .int .i64 0, .int .i64 0, .int .i64 0] 23))
  have R0 := Lib.hid (blk_new1 w (.cells #[.int .i64 i.self, .int .i64 i.prio, .int .i64 i.state, .int .i64 i.dr, .int .i64 i.bdr] 23) 23 #[.int .i64 0, .int .i64 0, .int .i64 0, .int .i64 0, .int .i64 0])
  go_enter Try.func9, Try.ntmps9
  go_wp2_with fail
  generalize (w.alloc (.cells #[.int .i64 i.self, .int .i64 i.prio, .int .i64 i.state, .int .i64 i.dr, .int .i64 i.bdr] 23)).alloc (.cells #[.int .i64 0, .int .i64 0, .int .i64 0, .int .i64 0, .int .i64 0] 23) = w0 at *
  generalize hq : w.heap.size + 1 = r at *
  generalize hp : w.heap.size = p at *
  have K1 := Lib.hid K0.out.drew
  have R1 := Lib.hid R0.out.drew
  have B1 := Lib.hid (show Below p w w0.drew from below_drewN B0.out 1)
  obtain ⟨k0, k1, k2, k3, k4⟩ := K1.out.five
  have hS : w0.drew.cell? ⟨p, 0, none⟩ = some (.int .i64 i.self) ∧ w0.drew.cell? ⟨p, 1, none⟩ = some (.int .i64 i.prio) ∧ w0.drew.cell? ⟨p, 2, none⟩ = some (.int .i64 i.state) ∧ w0.drew.cell? ⟨p, 3, none⟩ = some (.int .i64 i.dr) ∧ w0.drew.cell? ⟨p, 4, none⟩ = some (.int .i64 i.bdr) := ⟨k0, k1, k2, k3, k4⟩
  clear k0 k1 k2 k3 k4 K0 R0 B0

  refine wp_region_noPanic ?_
  refine wp_region_held_drew (S := fun w' => w'.cell? ⟨p, 0, none⟩ = some (.int .i64 i.self) ∧ w'.cell? ⟨p, 1, none⟩ = some (.int .i64 i.prio) ∧ w'.cell? ⟨p, 2, none⟩ = some (.int .i64 i.state) ∧ w'.cell? ⟨p, 3, none⟩ = some (.int .i64 i.dr) ∧ w'.cell? ⟨p, 4, none⟩ = some (.int .i64 i.bdr)) (by kernel_rfl) hS (fun hHeld => ?_)

  change wpAnyH _ _ _ _ _ _ _ _ w0.drew
  generalize w0.drew = w1 at *
  clear hS

  refine wpAnyH_take (i := 0) (oi := { dst := Option.some 12, op := Go.Op.load 23 (Go.Operand.tmp 3), type := 23, pos := "iface.go:14", after := #[], guard := Option.none }) (v := ?_) rfl (by kernel_rfl) (by kernel_rfl) (by kernel_rfl) (fun _ _ _ h => h) (Or.inl ⟨by rfl, ?_⟩) hHeld ?_
  rotate_left 1
  · intro ww hSw
    try dsimp only at hSw
    go_simp
    try with_reducible rfl
  try simp only [Act.put, List.setIfInBounds_toArray, List.set_cons_zero, List.set_cons_succ]

  refine wpAnyH_take (i := 1) (oi := { dst := Option.some 13, op := Go.Op.move (Go.Operand.tmp 2), type := 24, pos := "iface.go:14", after := #[], guard := Option.none }) (v := ?_) rfl (by kernel_rfl) (by kernel_rfl) (by kernel_rfl) (fun _ _ _ h => h) (Or.inl ⟨by rfl, ?_⟩) hHeld ?_
  rotate_left 1
  · intro ww hSw
    try dsimp only at hSw
    go_simp
    try with_reducible rfl
  try simp only [Act.put, List.setIfInBounds_toArray, List.set_cons_zero, List.set_cons_succ]

  refine wpAnyH_take (i := 3) (oi := { dst := Option.some 15, op := Go.Op.fieldAddr 23 (Go.Operand.tmp 3) 2, type := 0, pos := "iface.go:14", after := #[], guard := Option.none }) (v := ?_) rfl (by kernel_rfl) (by kernel_rfl) (by kernel_rfl) (fun _ _ _ h => h) (Or.inl ⟨by rfl, ?_⟩) hHeld ?_
  rotate_left 1
  · intro ww hSw
    try dsimp only at hSw
    go_simp
    try with_reducible rfl
  try simp only [Act.put, List.setIfInBounds_toArray, List.set_cons_zero, List.set_cons_succ]

  refine wpAnyH_take (i := 4) (oi := { dst := Option.some 16, op := Go.Op.load 3 (Go.Operand.tmp 15), type := 3, pos := "iface.go:14", after := #[{ on := 3, ground := Go.Ground.data }], guard := Option.none }) (v := ?_) rfl (by kernel_rfl) (by kernel_rfl) (by kernel_rfl) (fun _ _ _ h => h) (Or.inl ⟨by rfl, ?_⟩) hHeld ?_
  rotate_left 1
  · intro ww hSw
    try dsimp only at hSw
    go_simp
    try with_reducible rfl
  try simp only [Act.put, List.setIfInBounds_toArray, List.set_cons_zero, List.set_cons_succ]

  refine wpAnyH_take (i := 5) (oi := { dst := Option.some 17, op := Go.Op.move (Go.Operand.tmp 1), type := 3, pos := "iface.go:14", after := #[], guard := Option.none }) (v := ?_) rfl (by kernel_rfl) (by kernel_rfl) (by kernel_rfl) (fun _ _ _ h => h) (Or.inl ⟨by rfl, ?_⟩) hHeld ?_
  rotate_left 1
  · intro ww hSw
    try dsimp only at hSw
    go_simp
    try with_reducible rfl
  try simp only [Act.put, List.setIfInBounds_toArray, List.set_cons_zero, List.set_cons_succ]

  refine wpAnyH_take (i := 6) (oi := { dst := Option.some 18, op := Go.Op.build 44 #[(0, Go.Operand.tmp 16), (1, Go.Operand.tmp 17)], type := 44, pos := "iface.go:14", after := #[{ on := 4, ground := Go.Ground.data }, { on := 5, ground := Go.Ground.data }], guard := Option.none }) (v := ?_) rfl (by kernel_rfl) (by kernel_rfl) (by kernel_rfl) (fun _ _ _ h => h) (Or.inl ⟨by rfl, ?_⟩) hHeld ?_
  rotate_left 1
  · intro ww hSw
    try dsimp only at hSw
    go_simp
    try with_reducible rfl
  try simp only [Act.put, List.setIfInBounds_toArray, List.set_cons_zero, List.set_cons_succ]

  refine wpAnyH_ready (rs := [2]) (by kernel_rfl) (by simp) ?_
  refine AllReadyH.cons (o := { dst := Option.some 14, op := Go.Op.call { callee := Go.Callee.value (Go.Operand.func 14), args := #[Go.Operand.tmp 12, Go.Operand.tmp 13], argTypes := #[23, 24] }, type := 41, pos := "iface.go:14", after := #[{ on := 0, ground := Go.Ground.data }, { on := 1, ground := Go.Ground.data }], guard := Option.none }) rfl (fun K hK => ?_) AllReadyH.nil
  go_simp
  refine (moves_any (A := A) (n := n) (c := c) i HS.out).mono ?_
  rintro e2 w2 ⟨m, p', q', rfl, KI, KQ, HM, hb2⟩
  have hk1 := K1.out.lt
  have hr1 := R1.out.lt
  have K2 := Lib.hid (K1.out.below hb2.out hk1)
  have R2 := Lib.hid (R1.out.below hb2.out hr1)
  have B2 := Lib.hid (B1.out.trans (hb2.out.mono (by omega)))
  clear hb2 K1 R1 B1
  refine hK.out _ _ K2.out.five (fun hHeld => ?_)
  clear hK K
  try simp only [Act.put, List.setIfInBounds_toArray, List.set_cons_zero, List.set_cons_succ]
  obtain ⟨v, b, hlook, hcase⟩ := look_any i e L HM.out HS.out HE.out
  rw [hX] at hcase
  clear hX
  refine wpAnyH_ready (rs := [7]) (by kernel_rfl) (by simp) ?_
  refine AllReadyH.cons (o := { dst := Option.some 19, op := Go.Op.lookup 41 (Go.Operand.tmp 14) (Go.Operand.tmp 18) true, type := 40, pos := "iface.go:14", after := #[{ on := 2, ground := Go.Ground.data }, { on := 6, ground := Go.Ground.data }], guard := Option.none }) rfl (fun K hK => ?_) AllReadyH.nil
  go_simp
  refine hK.out _ _ K2.out.five (fun hHeld => ?_)
  clear hK K hlook
  try simp only [Act.put, List.setIfInBounds_toArray, List.set_cons_zero, List.set_cons_succ]

  refine wpAnyH_take (i := 8) (oi := { dst := Option.some 11, op := Go.Op.move (Go.Operand.tmp 19), type := 40, pos := "iface.go:14", after := #[{ on := 7, ground := Go.Ground.data }], guard := Option.none }) (v := ?_) rfl (by kernel_rfl) (by kernel_rfl) (by kernel_rfl) (fun _ _ _ h => h) (Or.inl ⟨by rfl, ?_⟩) hHeld ?_
  rotate_left 1
  · intro ww hSw
    try dsimp only at hSw
    go_simp
    try with_reducible rfl
  try simp only [Act.put, List.setIfInBounds_toArray, List.set_cons_zero, List.set_cons_succ]

  refine wpAnyH_take (i := 9) (oi := { dst := Option.some 20, op := Go.Op.extract (Go.Operand.tmp 11) 0, type := 39, pos := "iface.go:14", after := #[{ on := 8, ground := Go.Ground.data }], guard := Option.none }) (v := ?_) rfl (by kernel_rfl) (by kernel_rfl) (by kernel_rfl) (fun _ _ _ h => h) (Or.inl ⟨by rfl, ?_⟩) hHeld ?_
  rotate_left 1
  · intro ww hSw
    try dsimp only at hSw
    go_simp
    try with_reducible rfl
  try simp only [Act.put, List.setIfInBounds_toArray, List.set_cons_zero, List.set_cons_succ]

  refine wpAnyH_take (i := 10) (oi := { dst := Option.some 21, op := Go.Op.extract (Go.Operand.tmp 11) 1, type := 4, pos := "iface.go:14", after := #[{ on := 8, ground := Go.Ground.data }, { on := 11, ground := Go.Ground.gcOnly Go.Departure.lateStores }], guard := Option.none }) (v := ?_) rfl (by kernel_rfl) (by kernel_rfl) (by kernel_rfl) (fun _ _ _ h => h) (Or.inl ⟨by rfl, ?_⟩) hHeld ?_
  rotate_left 1
  · intro ww hSw
    try dsimp only at hSw
    go_simp
    try with_reducible rfl
  try simp only [Act.put, List.setIfInBounds_toArray, List.set_cons_zero, List.set_cons_succ]

  refine wpAnyH_take (i := 11) (oi := { dst := Option.some 8, op := Go.Op.assign (Go.Operand.tmp 20), type := 39, pos := "iface.go:14", after := #[{ on := 9, ground := Go.Ground.data }, { on := 2, ground := Go.Ground.chain }, { on := 0, ground := Go.Ground.phase }, { on := 1, ground := Go.Ground.phase }, { on := 2, ground := Go.Ground.phase }, { on := 3, ground := Go.Ground.phase }, { on := 4, ground := Go.Ground.phase }, { on := 5, ground := Go.Ground.phase }, { on := 6, ground := Go.Ground.phase }, { on := 7, ground := Go.Ground.phase }, { on := 8, ground := Go.Ground.phase }, { on := 9, ground := Go.Ground.phase }, { on := 10, ground := Go.Ground.textOnly Go.Departure.lateStores }], guard := Option.none }) (v := ?_) rfl (by kernel_rfl) (by kernel_rfl) (by kernel_rfl) (fun _ _ _ h => h) (Or.inl ⟨by rfl, ?_⟩) hHeld ?_
  rotate_left 1
  · intro ww hSw
    try dsimp only at hSw
    go_simp
    try with_reducible rfl
  try simp only [Act.put, List.setIfInBounds_toArray, List.set_cons_zero, List.set_cons_succ]

  refine wpAnyH_take (i := 12) (oi := { dst := Option.some 9, op := Go.Op.assign (Go.Operand.tmp 21), type := 4, pos := "iface.go:14", after := #[{ on := 10, ground := Go.Ground.data }, { on := 11, ground := Go.Ground.chain }, { on := 0, ground := Go.Ground.phase }, { on := 1, ground := Go.Ground.phase }, { on := 2, ground := Go.Ground.phase }, { on := 3, ground := Go.Ground.phase }, { on := 4, ground := Go.Ground.phase }, { on := 5, ground := Go.Ground.phase }, { on := 6, ground := Go.Ground.phase }, { on := 7, ground := Go.Ground.phase }, { on := 8, ground := Go.Ground.phase }, { on := 9, ground := Go.Ground.phase }, { on := 10, ground := Go.Ground.phase }, { on := 11, ground := Go.Ground.phase }], guard := Option.none }) (v := ?_) rfl (by kernel_rfl) (by kernel_rfl) (by kernel_rfl) (fun _ _ _ h => h) (Or.inl ⟨by rfl, ?_⟩) hHeld ?_
  rotate_left 1
  · intro ww hSw
    try dsimp only at hSw
    go_simp
    try with_reducible rfl
  try simp only [Act.put, List.setIfInBounds_toArray, List.set_cons_zero, List.set_cons_succ]

  refine wpAnyH_done (by kernel_rfl) ?_ _
  refine NoPanic.normal ?_

  clear hHeld
  have P2 := Lib.hid ((show Cds w p A n L from hp ▸ HP.out).below B2.out)
  rcases hcase with ⟨rfl, hst⟩ | ⟨rfl, rfl, hst⟩ | ⟨rfl, rfl, hst⟩ | ⟨rfl, rfl, hst⟩
  all_goals try dsimp only [downV, upV, elV]

  · subst x
    have HF := Lib.hid (show Ending.returned (.tuple #[.agg #[.int .i64 i.self, .int .i64 i.prio, .int .i64 i.state, .int .i64 i.dr, .int .i64 i.bdr], .bool false]) = .returned (.tuple #[.agg #[.int .i64 i.self, .int .i64 i.prio, .int .i64 i.state, .int .i64 i.dr, .int .i64 i.bdr], .bool (!sameI i i)]) by rw [sameI_self]; rfl)
    obtain ⟨k0, k1, k2, k3, k4⟩ := K2.out.five
    obtain ⟨j0, j1, j2, j3, j4⟩ := R2.out.five
    obtain ⟨z0, z1, z2, z3, z4⟩ := R2.out.thaw
    go_wp2_with fail
    have KF := blk_put5 (v0 := .int .i64 i.self) (v1 := .int .i64 i.prio) (v2 := .int .i64 i.state) (v3 := .int .i64 i.dr) (v4 := .int .i64 i.bdr) R2.out
    have BF := below_put5 (v0 := .int .i64 i.self) (v1 := .int .i64 i.prio) (v2 := .int .i64 i.state) (v3 := .int .i64 i.dr) (v4 := .int .i64 i.bdr) B2.out (show p ≤ r by omega)
    clear k0 k1 k2 k3 k4 j0 j1 j2 j3 j4 z0 z1 z2 z3 z4
    generalize ((((w2.setCell ⟨r, 0, none⟩ (.int .i64 i.self)).setCell ⟨r, 1, none⟩ (.int .i64 i.prio)).setCell ⟨r, 2, none⟩ (.int .i64 i.state)).setCell ⟨r, 3, none⟩ (.int .i64 i.dr)).setCell ⟨r, 4, none⟩ (.int .i64 i.bdr) = wz at *
    obtain ⟨k0, k1, k2, k3, k4⟩ := KF.five
    refine bodyPost_ret (v := .tuple #[.agg #[.int .i64 i.self, .int .i64 i.prio, .int .i64 i.state, .int .i64 i.dr, .int .i64 i.bdr], .bool false]) (by simp [results, Try.results9, go_sem, *]) rfl ?_
    exact ⟨HF.out, hp ▸ BF⟩
  · have hk2 := K2.out.lt
    have hr2 := R2.out.lt
    have hps : p ≤ w2.heap.size := by omega
    have hcon := down_any KI.out
    rw [← hst] at hcon
    clear hst
    go_wp2_with fail
    refine hcon.mono ?_
    clear hcon
    rintro e3 w3 ⟨rfl, hb3⟩
    have K3 := Lib.hid (K2.out.below hb3 hk2)
    have R3 := Lib.hid (R2.out.below hb3 hr2)
    have B3 := Lib.hid (B2.out.trans (hb3.mono hps))
    have hk3 := K3.out.lt
    have hr3 := R3.out.lt
    clear hb3 K2 R2 B2 hk2 hr2 hps KI KQ HM P2
    go_wp2_with fail
    have BN := Lib.hid ((Below.refl w3.heap.size w3).alloc (Nat.le_refl _) (.cells #[.int .i64 x.self, .int .i64 x.prio, .int .i64 x.state, .int .i64 x.dr, .int .i64 x.bdr] 23))
    have N5 := Lib.hid (Blk.new w3 23 #[.int .i64 x.self, .int .i64 x.prio, .int .i64 x.state, .int .i64 x.dr, .int .i64 x.bdr]).drew
    have K5 := Lib.hid (K3.out.below BN.out hk3).drew
    have R5 := Lib.hid (R3.out.below BN.out hr3).drew
    have B5 := Lib.hid (below_drewN (B3.out.trans (BN.out.mono (show p ≤ w3.heap.size by omega))) 1)
    change Hid (Below p w (World.drew _)) at B5
    generalize hz : w3.heap.size = z at *
    generalize w3.alloc (.cells #[.int .i64 x.self, .int .i64 x.prio, .int .i64 x.state, .int .i64 x.dr, .int .i64 x.bdr] 23) = w5 at *
    clear K3 R3 B3 BN
    have hEQ := fun W => equalI x i W
    obtain ⟨k0, k1, k2, k3, k4⟩ := K5.out.five
    obtain ⟨n0, n1, n2, n3, n4⟩ := N5.out.five
    obtain ⟨j0, j1, j2, j3, j4⟩ := R5.out.five
    obtain ⟨z0, z1, z2, z3, z4⟩ := R5.out.thaw
    have hS := And.intro n0 (And.intro n1 (And.intro n2 (And.intro n3 (And.intro n4 (And.intro k0 (And.intro k1 (And.intro k2 (And.intro k3 k4))))))))
    clear k0 k1 k2 k3 k4 n0 n1 n2 n3 n4
    refine wp_region_noPanic ?_
    refine wp_region_held_drew (S := fun w' => w'.cell? ⟨z, 0, none⟩ = some (.int .i64 x.self) ∧ w'.cell? ⟨z, 1, none⟩ = some (.int .i64 x.prio) ∧ w'.cell? ⟨z, 2, none⟩ = some (.int .i64 x.state) ∧ w'.cell? ⟨z, 3, none⟩ = some (.int .i64 x.dr) ∧ w'.cell? ⟨z, 4, none⟩ = some (.int .i64 x.bdr) ∧ w'.cell? ⟨p, 0, none⟩ = some (.int .i64 i.self) ∧ w'.cell? ⟨p, 1, none⟩ = some (.int .i64 i.prio) ∧ w'.cell? ⟨p, 2, none⟩ = some (.int .i64 i.state) ∧ w'.cell? ⟨p, 3, none⟩ = some (.int .i64 i.dr) ∧ w'.cell? ⟨p, 4, none⟩ = some (.int .i64 i.bdr)) (by kernel_rfl) hS (fun hHeld => ?_)

    change wpAnyH _ _ _ _ _ _ _ _ w5.drew
    generalize w5.drew = w6 at *
    clear hS
    refine wpAnyH_take (i := 0) (oi := { dst := Option.some 27, op := Go.Op.load 23 (Go.Operand.tmp 10), type := 23, pos := "iface.go:19", after := #[], guard := Option.none }) (v := ?_) rfl (by kernel_rfl) (by kernel_rfl) (by kernel_rfl) (fun _ _ _ h => h) (Or.inl ⟨by rfl, ?_⟩) hHeld ?_
    rotate_left 1
    · intro ww hSw
      try dsimp only at hSw
      go_simp
      try with_reducible rfl
    try simp only [Act.put, List.setIfInBounds_toArray, List.set_cons_zero, List.set_cons_succ]

    refine wpAnyH_take (i := 1) (oi := { dst := Option.some 28, op := Go.Op.load 23 (Go.Operand.tmp 10), type := 23, pos := "iface.go:19", after := #[{ on := 4, ground := Go.Ground.gcOnly Go.Departure.lateStores }], guard := Option.none }) (v := ?_) rfl (by kernel_rfl) (by kernel_rfl) (by kernel_rfl) (fun _ _ _ h => h) (Or.inl ⟨by rfl, ?_⟩) hHeld ?_
    rotate_left 1
    · intro ww hSw
      try dsimp only at hSw
      go_simp
      try with_reducible rfl
    try simp only [Act.put, List.setIfInBounds_toArray, List.set_cons_zero, List.set_cons_succ]

    refine wpAnyH_take (i := 2) (oi := { dst := Option.some 29, op := Go.Op.load 23 (Go.Operand.tmp 3), type := 23, pos := "iface.go:19", after := #[{ on := 4, ground := Go.Ground.gcOnly Go.Departure.lateStores }], guard := Option.none }) (v := ?_) rfl (by kernel_rfl) (by kernel_rfl) (by kernel_rfl) (fun _ _ _ h => h) (Or.inl ⟨by rfl, ?_⟩) hHeld ?_
    rotate_left 1
    · intro ww hSw
      try dsimp only at hSw
      go_simp
      try with_reducible rfl
    try simp only [Act.put, List.setIfInBounds_toArray, List.set_cons_zero, List.set_cons_succ]

    refine wpAnyH_take (i := 3) (oi := { dst := Option.some 30, op := Go.Op.binOp Go.BinOp.neq 23 (Go.Operand.tmp 28) (Go.Operand.tmp 29) 23, type := 4, pos := "iface.go:19", after := #[{ on := 1, ground := Go.Ground.data }, { on := 2, ground := Go.Ground.data }, { on := 4, ground := Go.Ground.gcOnly Go.Departure.lateStores }], guard := Option.none }) (v := ?_) rfl (by kernel_rfl) (by kernel_rfl) (by kernel_rfl) (fun _ _ _ h => h) (Or.inl ⟨by rfl, ?_⟩) hHeld ?_
    rotate_left 1
    · intro ww hSw
      try dsimp only at hSw
      go_simp
      try with_reducible rfl
    try simp only [Act.put, List.setIfInBounds_toArray, List.set_cons_zero, List.set_cons_succ]

    refine wpAnyH_ready (rs := [4]) (by kernel_rfl) (by simp) ?_
    refine AllReadyH.cons (o := { dst := Option.none, op := Go.Op.store 23 (Go.Operand.tmp 6) (Go.Operand.tmp 27), type := 0, pos := "iface.go:19", after := #[{ on := 0, ground := Go.Ground.data }, { on := 0, ground := Go.Ground.phase }, { on := 1, ground := Go.Ground.textOnly Go.Departure.lateStores }, { on := 2, ground := Go.Ground.textOnly Go.Departure.lateStores }, { on := 3, ground := Go.Ground.textOnly Go.Departure.lateStores }], guard := Option.none }) rfl (fun K hK => ?_) AllReadyH.nil
    go_simp
    have KF := blk_put5 (v0 := .int .i64 x.self) (v1 := .int .i64 x.prio) (v2 := .int .i64 x.state) (v3 := .int .i64 x.dr) (v4 := .int .i64 x.bdr) R5.out
    have BF := below_put5 (v0 := .int .i64 x.self) (v1 := .int .i64 x.prio) (v2 := .int .i64 x.state) (v3 := .int .i64 x.dr) (v4 := .int .i64 x.bdr) B5.out (show p ≤ r by omega)
    have NF := blk_far5 (q := r) (v0 := .int .i64 x.self) (v1 := .int .i64 x.prio) (v2 := .int .i64 x.state) (v3 := .int .i64 x.dr) (v4 := .int .i64 x.bdr) N5.out (show z ≠ r by omega)
    have PF := blk_far5 (q := r) (v0 := .int .i64 x.self) (v1 := .int .i64 x.prio) (v2 := .int .i64 x.state) (v3 := .int .i64 x.dr) (v4 := .int .i64 x.bdr) K5.out (show p ≠ r by omega)
    obtain ⟨k0, k1, k2, k3, k4⟩ := PF.five
    obtain ⟨n0, n1, n2, n3, n4⟩ := NF.five
    refine hK.out _ _ ⟨n0, n1, n2, n3, n4, k0, k1, k2, k3, k4⟩ (fun hHeld => ?_)
    clear hK K j0 j1 j2 j3 j4 z0 z1 z2 z3 z4 k0 k1 k2 k3 k4 n0 n1 n2 n3 n4 NF PF
    generalize ((((w6.setCell ⟨r, 0, none⟩ (.int .i64 x.self)).setCell ⟨r, 1, none⟩ (.int .i64 x.prio)).setCell ⟨r, 2, none⟩ (.int .i64 x.state)).setCell ⟨r, 3, none⟩ (.int .i64 x.dr)).setCell ⟨r, 4, none⟩ (.int .i64 x.bdr) = wz at *
    try simp only [Act.put, List.setIfInBounds_toArray, List.set_cons_zero, List.set_cons_succ]
    refine wpAnyH_take (i := 5) (oi := { dst := Option.some 7, op := Go.Op.assign (Go.Operand.tmp 30), type := 4, pos := "iface.go:19", after := #[{ on := 3, ground := Go.Ground.data }, { on := 4, ground := Go.Ground.chain }, { on := 0, ground := Go.Ground.phase }, { on := 1, ground := Go.Ground.phase }, { on := 2, ground := Go.Ground.phase }, { on := 3, ground := Go.Ground.phase }, { on := 4, ground := Go.Ground.phase }], guard := Option.none }) (v := ?_) rfl (by kernel_rfl) (by kernel_rfl) (by kernel_rfl) (fun _ _ _ h => h) (Or.inl ⟨by rfl, ?_⟩) hHeld ?_
    rotate_left 1
    · intro ww hSw
      try dsimp only at hSw
      go_simp
      try with_reducible rfl
    try simp only [Act.put, List.setIfInBounds_toArray, List.set_cons_zero, List.set_cons_succ]

    refine wpAnyH_done (by kernel_rfl) ?_ _
    refine NoPanic.normal ?_

    clear hHeld
    obtain ⟨k0, k1, k2, k3, k4⟩ := KF.five
    go_wp2_with fail
    refine bodyPost_ret (v := .tuple #[.agg #[.int .i64 x.self, .int .i64 x.prio, .int .i64 x.state, .int .i64 x.dr, .int .i64 x.bdr], .bool (!sameI x i)]) (by simp [results, Try.results9, go_sem, *]) rfl ?_
    exact ⟨rfl, hp ▸ BF⟩
  · have hk2 := K2.out.lt
    have hr2 := R2.out.lt
    have hps : p ≤ w2.heap.size := by omega
    have hcon := up_any KI.out
    rw [← hst] at hcon
    clear hst
    go_wp2_with fail
    refine hcon.mono ?_
    clear hcon
    rintro e3 w3 ⟨rfl, hb3⟩
    have K3 := Lib.hid (K2.out.below hb3 hk2)
    have R3 := Lib.hid (R2.out.below hb3 hr2)
    have B3 := Lib.hid (B2.out.trans (hb3.mono hps))
    have hk3 := K3.out.lt
    have hr3 := R3.out.lt
    clear hb3 K2 R2 B2 hk2 hr2 hps KI KQ HM P2
    go_wp2_with fail
    have BN := Lib.hid ((Below.refl w3.heap.size w3).alloc (Nat.le_refl _) (.cells #[.int .i64 x.self, .int .i64 x.prio, .int .i64 x.state, .int .i64 x.dr, .int .i64 x.bdr] 23))
    have N5 := Lib.hid (Blk.new w3 23 #[.int .i64 x.self, .int .i64 x.prio, .int .i64 x.state, .int .i64 x.dr, .int .i64 x.bdr]).drew
    have K5 := Lib.hid (K3.out.below BN.out hk3).drew
    have R5 := Lib.hid (R3.out.below BN.out hr3).drew
    have B5 := Lib.hid (below_drewN (B3.out.trans (BN.out.mono (show p ≤ w3.heap.size by omega))) 1)
    change Hid (Below p w (World.drew _)) at B5
    generalize hz : w3.heap.size = z at *
    generalize w3.alloc (.cells #[.int .i64 x.self, .int .i64 x.prio, .int .i64 x.state, .int .i64 x.dr, .int .i64 x.bdr] 23) = w5 at *
    clear K3 R3 B3 BN
    have hEQ := fun W => equalI x i W
    obtain ⟨k0, k1, k2, k3, k4⟩ := K5.out.five
    obtain ⟨n0, n1, n2, n3, n4⟩ := N5.out.five
    obtain ⟨j0, j1, j2, j3, j4⟩ := R5.out.five
    obtain ⟨z0, z1, z2, z3, z4⟩ := R5.out.thaw
    have hS := And.intro n0 (And.intro n1 (And.intro n2 (And.intro n3 (And.intro n4 (And.intro k0 (And.intro k1 (And.intro k2 (And.intro k3 k4))))))))
    clear k0 k1 k2 k3 k4 n0 n1 n2 n3 n4
    refine wp_region_noPanic ?_
    refine wp_region_held_drew (S := fun w' => w'.cell? ⟨z, 0, none⟩ = some (.int .i64 x.self) ∧ w'.cell? ⟨z, 1, none⟩ = some (.int .i64 x.prio) ∧ w'.cell? ⟨z, 2, none⟩ = some (.int .i64 x.state) ∧ w'.cell? ⟨z, 3, none⟩ = some (.int .i64 x.dr) ∧ w'.cell? ⟨z, 4, none⟩ = some (.int .i64 x.bdr) ∧ w'.cell? ⟨p, 0, none⟩ = some (.int .i64 i.self) ∧ w'.cell? ⟨p, 1, none⟩ = some (.int .i64 i.prio) ∧ w'.cell? ⟨p, 2, none⟩ = some (.int .i64 i.state) ∧ w'.cell? ⟨p, 3, none⟩ = some (.int .i64 i.dr) ∧ w'.cell? ⟨p, 4, none⟩ = some (.int .i64 i.bdr)) (by kernel_rfl) hS (fun hHeld => ?_)

    change wpAnyH _ _ _ _ _ _ _ _ w5.drew
    generalize w5.drew = w6 at *
    clear hS
    refine wpAnyH_take (i := 0) (oi := { dst := Option.some 27, op := Go.Op.load 23 (Go.Operand.tmp 10), type := 23, pos := "iface.go:19", after := #[], guard := Option.none }) (v := ?_) rfl (by kernel_rfl) (by kernel_rfl) (by kernel_rfl) (fun _ _ _ h => h) (Or.inl ⟨by rfl, ?_⟩) hHeld ?_
    rotate_left 1
    · intro ww hSw
      try dsimp only at hSw
      go_simp
      try with_reducible rfl
    try simp only [Act.put, List.setIfInBounds_toArray, List.set_cons_zero, List.set_cons_succ]

    refine wpAnyH_take (i := 1) (oi := { dst := Option.some 28, op := Go.Op.load 23 (Go.Operand.tmp 10), type := 23, pos := "iface.go:19", after := #[{ on := 4, ground := Go.Ground.gcOnly Go.Departure.lateStores }], guard := Option.none }) (v := ?_) rfl (by kernel_rfl) (by kernel_rfl) (by kernel_rfl) (fun _ _ _ h => h) (Or.inl ⟨by rfl, ?_⟩) hHeld ?_
    rotate_left 1
    · intro ww hSw
      try dsimp only at hSw
      go_simp
      try with_reducible rfl
    try simp only [Act.put, List.setIfInBounds_toArray, List.set_cons_zero, List.set_cons_succ]

    refine wpAnyH_take (i := 2) (oi := { dst := Option.some 29, op := Go.Op.load 23 (Go.Operand.tmp 3), type := 23, pos := "iface.go:19", after := #[{ on := 4, ground := Go.Ground.gcOnly Go.Departure.lateStores }], guard := Option.none }) (v := ?_) rfl (by kernel_rfl) (by kernel_rfl) (by kernel_rfl) (fun _ _ _ h => h) (Or.inl ⟨by rfl, ?_⟩) hHeld ?_
    rotate_left 1
    · intro ww hSw
      try dsimp only at hSw
      go_simp
      try with_reducible rfl
    try simp only [Act.put, List.setIfInBounds_toArray, List.set_cons_zero, List.set_cons_succ]

    refine wpAnyH_take (i := 3) (oi := { dst := Option.some 30, op := Go.Op.binOp Go.BinOp.neq 23 (Go.Operand.tmp 28) (Go.Operand.tmp 29) 23, type := 4, pos := "iface.go:19", after := #[{ on := 1, ground := Go.Ground.data }, { on := 2, ground := Go.Ground.data }, { on := 4, ground := Go.Ground.gcOnly Go.Departure.lateStores }], guard := Option.none }) (v := ?_) rfl (by kernel_rfl) (by kernel_rfl) (by kernel_rfl) (fun _ _ _ h => h) (Or.inl ⟨by rfl, ?_⟩) hHeld ?_
    rotate_left 1
    · intro ww hSw
      try dsimp only at hSw
      go_simp
      try with_reducible rfl
    try simp only [Act.put, List.setIfInBounds_toArray, List.set_cons_zero, List.set_cons_succ]

    refine wpAnyH_ready (rs := [4]) (by kernel_rfl) (by simp) ?_
    refine AllReadyH.cons (o := { dst := Option.none, op := Go.Op.store 23 (Go.Operand.tmp 6) (Go.Operand.tmp 27), type := 0, pos := "iface.go:19", after := #[{ on := 0, ground := Go.Ground.data }, { on := 0, ground := Go.Ground.phase }, { on := 1, ground := Go.Ground.textOnly Go.Departure.lateStores }, { on := 2, ground := Go.Ground.textOnly Go.Departure.lateStores }, { on := 3, ground := Go.Ground.textOnly Go.Departure.lateStores }], guard := Option.none }) rfl (fun K hK => ?_) AllReadyH.nil
    go_simp
    have KF := blk_put5 (v0 := .int .i64 x.self) (v1 := .int .i64 x.prio) (v2 := .int .i64 x.state) (v3 := .int .i64 x.dr) (v4 := .int .i64 x.bdr) R5.out
    have BF := below_put5 (v0 := .int .i64 x.self) (v1 := .int .i64 x.prio) (v2 := .int .i64 x.state) (v3 := .int .i64 x.dr) (v4 := .int .i64 x.bdr) B5.out (show p ≤ r by omega)
    have NF := blk_far5 (q := r) (v0 := .int .i64 x.self) (v1 := .int .i64 x.prio) (v2 := .int .i64 x.state) (v3 := .int .i64 x.dr) (v4 := .int .i64 x.bdr) N5.out (show z ≠ r by omega)
    have PF := blk_far5 (q := r) (v0 := .int .i64 x.self) (v1 := .int .i64 x.prio) (v2 := .int .i64 x.state) (v3 := .int .i64 x.dr) (v4 := .int .i64 x.bdr) K5.out (show p ≠ r by omega)
    obtain ⟨k0, k1, k2, k3, k4⟩ := PF.five
    obtain ⟨n0, n1, n2, n3, n4⟩ := NF.five
    refine hK.out _ _ ⟨n0, n1, n2, n3, n4, k0, k1, k2, k3, k4⟩ (fun hHeld => ?_)
    clear hK K j0 j1 j2 j3 j4 z0 z1 z2 z3 z4 k0 k1 k2 k3 k4 n0 n1 n2 n3 n4 NF PF
    generalize ((((w6.setCell ⟨r, 0, none⟩ (.int .i64 x.self)).setCell ⟨r, 1, none⟩ (.int .i64 x.prio)).setCell ⟨r, 2, none⟩ (.int .i64 x.state)).setCell ⟨r, 3, none⟩ (.int .i64 x.dr)).setCell ⟨r, 4, none⟩ (.int .i64 x.bdr) = wz at *
    try simp only [Act.put, List.setIfInBounds_toArray, List.set_cons_zero, List.set_cons_succ]
    refine wpAnyH_take (i := 5) (oi := { dst := Option.some 7, op := Go.Op.assign (Go.Operand.tmp 30), type := 4, pos := "iface.go:19", after := #[{ on := 3, ground := Go.Ground.data }, { on := 4, ground := Go.Ground.chain }, { on := 0, ground := Go.Ground.phase }, { on := 1, ground := Go.Ground.phase }, { on := 2, ground := Go.Ground.phase }, { on := 3, ground := Go.Ground.phase }, { on := 4, ground := Go.Ground.phase }], guard := Option.none }) (v := ?_) rfl (by kernel_rfl) (by kernel_rfl) (by kernel_rfl) (fun _ _ _ h => h) (Or.inl ⟨by rfl, ?_⟩) hHeld ?_
    rotate_left 1
    · intro ww hSw
      try dsimp only at hSw
      go_simp
      try with_reducible rfl
    try simp only [Act.put, List.setIfInBounds_toArray, List.set_cons_zero, List.set_cons_succ]

    refine wpAnyH_done (by kernel_rfl) ?_ _
    refine NoPanic.normal ?_

    clear hHeld
    obtain ⟨k0, k1, k2, k3, k4⟩ := KF.five
    go_wp2_with fail
    refine bodyPost_ret (v := .tuple #[.agg #[.int .i64 x.self, .int .i64 x.prio, .int .i64 x.state, .int .i64 x.dr, .int .i64 x.bdr], .bool (!sameI x i)]) (by simp [results, Try.results9, go_sem, *]) rfl ?_
    exact ⟨rfl, hp ▸ BF⟩
  · have hk2 := K2.out.lt
    have hr2 := R2.out.lt
    have hps : p ≤ w2.heap.size := by omega
    have hcon := vote_at KI.out KQ.out P2.out hps hn HAP.out
    rw [← hst] at hcon
    clear hst
    go_wp2_with fail
    refine hcon.mono ?_
    clear hcon
    rintro e3 w3 ⟨rfl, hb3⟩
    have K3 := Lib.hid (K2.out.below hb3 hk2)
    have R3 := Lib.hid (R2.out.below hb3 hr2)
    have B3 := Lib.hid (B2.out.trans (hb3.mono hps))
    have hk3 := K3.out.lt
    have hr3 := R3.out.lt
    clear hb3 K2 R2 B2 hk2 hr2 hps KI KQ HM P2
    go_wp2_with fail
    have BN := Lib.hid ((Below.refl w3.heap.size w3).alloc (Nat.le_refl _) (.cells #[.int .i64 x.self, .int .i64 x.prio, .int .i64 x.state, .int .i64 x.dr, .int .i64 x.bdr] 23))
    have N5 := Lib.hid (Blk.new w3 23 #[.int .i64 x.self, .int .i64 x.prio, .int .i64 x.state, .int .i64 x.dr, .int .i64 x.bdr]).drew
    have K5 := Lib.hid (K3.out.below BN.out hk3).drew
    have R5 := Lib.hid (R3.out.below BN.out hr3).drew
    have B5 := Lib.hid (below_drewN (B3.out.trans (BN.out.mono (show p ≤ w3.heap.size by omega))) 1)
    change Hid (Below p w (World.drew _)) at B5
    generalize hz : w3.heap.size = z at *
    generalize w3.alloc (.cells #[.int .i64 x.self, .int .i64 x.prio, .int .i64 x.state, .int .i64 x.dr, .int .i64 x.bdr] 23) = w5 at *
    clear K3 R3 B3 BN
    have hEQ := fun W => equalI x i W
    obtain ⟨k0, k1, k2, k3, k4⟩ := K5.out.five
    obtain ⟨n0, n1, n2, n3, n4⟩ := N5.out.five
    obtain ⟨j0, j1, j2, j3, j4⟩ := R5.out.five
    obtain ⟨z0, z1, z2, z3, z4⟩ := R5.out.thaw
    have hS := And.intro n0 (And.intro n1 (And.intro n2 (And.intro n3 (And.intro n4 (And.intro k0 (And.intro k1 (And.intro k2 (And.intro k3 k4))))))))
    clear k0 k1 k2 k3 k4 n0 n1 n2 n3 n4
    refine wp_region_noPanic ?_
    refine wp_region_held_drew (S := fun w' => w'.cell? ⟨z, 0, none⟩ = some (.int .i64 x.self) ∧ w'.cell? ⟨z, 1, none⟩ = some (.int .i64 x.prio) ∧ w'.cell? ⟨z, 2, none⟩ = some (.int .i64 x.state) ∧ w'.cell? ⟨z, 3, none⟩ = some (.int .i64 x.dr) ∧ w'.cell? ⟨z, 4, none⟩ = some (.int .i64 x.bdr) ∧ w'.cell? ⟨p, 0, none⟩ = some (.int .i64 i.self) ∧ w'.cell? ⟨p, 1, none⟩ = some (.int .i64 i.prio) ∧ w'.cell? ⟨p, 2, none⟩ = some (.int .i64 i.state) ∧ w'.cell? ⟨p, 3, none⟩ = some (.int .i64 i.dr) ∧ w'.cell? ⟨p, 4, none⟩ = some (.int .i64 i.bdr)) (by kernel_rfl) hS (fun hHeld => ?_)

    change wpAnyH _ _ _ _ _ _ _ _ w5.drew
    generalize w5.drew = w6 at *
    clear hS
    refine wpAnyH_take (i := 0) (oi := { dst := Option.some 27, op := Go.Op.load 23 (Go.Operand.tmp 10), type := 23, pos := "iface.go:19", after := #[], guard := Option.none }) (v := ?_) rfl (by kernel_rfl) (by kernel_rfl) (by kernel_rfl) (fun _ _ _ h => h) (Or.inl ⟨by rfl, ?_⟩) hHeld ?_
    rotate_left 1
    · intro ww hSw
      try dsimp only at hSw
      go_simp
      try with_reducible rfl
    try simp only [Act.put, List.setIfInBounds_toArray, List.set_cons_zero, List.set_cons_succ]

    refine wpAnyH_take (i := 1) (oi := { dst := Option.some 28, op := Go.Op.load 23 (Go.Operand.tmp 10), type := 23, pos := "iface.go:19", after := #[{ on := 4, ground := Go.Ground.gcOnly Go.Departure.lateStores }], guard := Option.none }) (v := ?_) rfl (by kernel_rfl) (by kernel_rfl) (by kernel_rfl) (fun _ _ _ h => h) (Or.inl ⟨by rfl, ?_⟩) hHeld ?_
    rotate_left 1
    · intro ww hSw
      try dsimp only at hSw
      go_simp
      try with_reducible rfl
    try simp only [Act.put, List.setIfInBounds_toArray, List.set_cons_zero, List.set_cons_succ]

    refine wpAnyH_take (i := 2) (oi := { dst := Option.some 29, op := Go.Op.load 23 (Go.Operand.tmp 3), type := 23, pos := "iface.go:19", after := #[{ on := 4, ground := Go.Ground.gcOnly Go.Departure.lateStores }], guard := Option.none }) (v := ?_) rfl (by kernel_rfl) (by kernel_rfl) (by kernel_rfl) (fun _ _ _ h => h) (Or.inl ⟨by rfl, ?_⟩) hHeld ?_
    rotate_left 1
    · intro ww hSw
      try dsimp only at hSw
      go_simp
      try with_reducible rfl
    try simp only [Act.put, List.setIfInBounds_toArray, List.set_cons_zero, List.set_cons_succ]

    refine wpAnyH_take (i := 3) (oi := { dst := Option.some 30, op := Go.Op.binOp Go.BinOp.neq 23 (Go.Operand.tmp 28) (Go.Operand.tmp 29) 23, type := 4, pos := "iface.go:19", after := #[{ on := 1, ground := Go.Ground.data }, { on := 2, ground := Go.Ground.data }, { on := 4, ground := Go.Ground.gcOnly Go.Departure.lateStores }], guard := Option.none }) (v := ?_) rfl (by kernel_rfl) (by kernel_rfl) (by kernel_rfl) (fun _ _ _ h => h) (Or.inl ⟨by rfl, ?_⟩) hHeld ?_
    rotate_left 1
    · intro ww hSw
      try dsimp only at hSw
      go_simp
      try with_reducible rfl
    try simp only [Act.put, List.setIfInBounds_toArray, List.set_cons_zero, List.set_cons_succ]

    refine wpAnyH_ready (rs := [4]) (by kernel_rfl) (by simp) ?_
    refine AllReadyH.cons (o := { dst := Option.none, op := Go.Op.store 23 (Go.Operand.tmp 6) (Go.Operand.tmp 27), type := 0, pos := "iface.go:19", after := #[{ on := 0, ground := Go.Ground.data }, { on := 0, ground := Go.Ground.phase }, { on := 1, ground := Go.Ground.textOnly Go.Departure.lateStores }, { on := 2, ground := Go.Ground.textOnly Go.Departure.lateStores }, { on := 3, ground := Go.Ground.textOnly Go.Departure.lateStores }], guard := Option.none }) rfl (fun K hK => ?_) AllReadyH.nil
    go_simp
    have KF := blk_put5 (v0 := .int .i64 x.self) (v1 := .int .i64 x.prio) (v2 := .int .i64 x.state) (v3 := .int .i64 x.dr) (v4 := .int .i64 x.bdr) R5.out
    have BF := below_put5 (v0 := .int .i64 x.self) (v1 := .int .i64 x.prio) (v2 := .int .i64 x.state) (v3 := .int .i64 x.dr) (v4 := .int .i64 x.bdr) B5.out (show p ≤ r by omega)
    have NF := blk_far5 (q := r) (v0 := .int .i64 x.self) (v1 := .int .i64 x.prio) (v2 := .int .i64 x.state) (v3 := .int .i64 x.dr) (v4 := .int .i64 x.bdr) N5.out (show z ≠ r by omega)
    have PF := blk_far5 (q := r) (v0 := .int .i64 x.self) (v1 := .int .i64 x.prio) (v2 := .int .i64 x.state) (v3 := .int .i64 x.dr) (v4 := .int .i64 x.bdr) K5.out (show p ≠ r by omega)
    obtain ⟨k0, k1, k2, k3, k4⟩ := PF.five
    obtain ⟨n0, n1, n2, n3, n4⟩ := NF.five
    refine hK.out _ _ ⟨n0, n1, n2, n3, n4, k0, k1, k2, k3, k4⟩ (fun hHeld => ?_)
    clear hK K j0 j1 j2 j3 j4 z0 z1 z2 z3 z4 k0 k1 k2 k3 k4 n0 n1 n2 n3 n4 NF PF
    generalize ((((w6.setCell ⟨r, 0, none⟩ (.int .i64 x.self)).setCell ⟨r, 1, none⟩ (.int .i64 x.prio)).setCell ⟨r, 2, none⟩ (.int .i64 x.state)).setCell ⟨r, 3, none⟩ (.int .i64 x.dr)).setCell ⟨r, 4, none⟩ (.int .i64 x.bdr) = wz at *
    try simp only [Act.put, List.setIfInBounds_toArray, List.set_cons_zero, List.set_cons_succ]
    refine wpAnyH_take (i := 5) (oi := { dst := Option.some 7, op := Go.Op.assign (Go.Operand.tmp 30), type := 4, pos := "iface.go:19", after := #[{ on := 3, ground := Go.Ground.data }, { on := 4, ground := Go.Ground.chain }, { on := 0, ground := Go.Ground.phase }, { on := 1, ground := Go.Ground.phase }, { on := 2, ground := Go.Ground.phase }, { on := 3, ground := Go.Ground.phase }, { on := 4, ground := Go.Ground.phase }], guard := Option.none }) (v := ?_) rfl (by kernel_rfl) (by kernel_rfl) (by kernel_rfl) (fun _ _ _ h => h) (Or.inl ⟨by rfl, ?_⟩) hHeld ?_
    rotate_left 1
    · intro ww hSw
      try dsimp only at hSw
      go_simp
      try with_reducible rfl
    try simp only [Act.put, List.setIfInBounds_toArray, List.set_cons_zero, List.set_cons_succ]

    refine wpAnyH_done (by kernel_rfl) ?_ _
    refine NoPanic.normal ?_

    clear hHeld
    obtain ⟨k0, k1, k2, k3, k4⟩ := KF.five
    go_wp2_with fail
    refine bodyPost_ret (v := .tuple #[.agg #[.int .i64 x.self, .int .i64 x.prio, .int .i64 x.state, .int .i64 x.dr, .int .i64 x.bdr], .bool (!sameI x i)]) (by simp [results, Try.results9, go_sem, *]) rfl ?_
    exact ⟨rfl, hp ▸ BF⟩

end Go.Proofs.Ytedlkoecnnmihaa