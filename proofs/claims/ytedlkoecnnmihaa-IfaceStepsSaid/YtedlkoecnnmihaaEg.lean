/- Candidates in memory; the small calls of the program's elections. No conditions. -/
import Derived.Test.YtedlkoecnnmihaaWa
import Derived.Test.YtedlkoecnnmihaaEf
import Derived.IntWalk
namespace Go.Proofs.Ytedlkoecnnmihaa
open Go.RowKit

/-- A candidate in memory: four cells. -/
def CdAt (w : World) (_B b o : Nat) (x : Cd) : Prop := w.cell? ⟨b, o, none⟩ = some (.int .i64 x.id) ∧ w.cell? ⟨b, o + 1, none⟩ = some (.int .i64 x.prio) ∧ w.cell? ⟨b, o + 2, none⟩ = some (.int .i64 x.dr) ∧ w.cell? ⟨b, o + 3, none⟩ = some (.int .i64 x.bdr)
def Cds (w : World) (B : Nat) (A : Option Addr) (n : Nat) (L : List Cd) : Prop := Arr 4 CdAt w B A n L
theorem CdAt.move {w w' : World} {B B' b o : Nat} {x : Cd} (h : CdAt w B b o x) (hk : ∀ p : Addr, p.block < B → w'.cell? p = w.cell? p) (hb : b < B) : CdAt w' B' b o x :=
  ⟨(hk ⟨b, o, none⟩ hb).trans h.1, (hk ⟨b, o + 1, none⟩ hb).trans h.2.1, (hk ⟨b, o + 2, none⟩ hb).trans h.2.2.1, (hk ⟨b, o + 3, none⟩ hb).trans h.2.2.2⟩
theorem Cds.below {w w' : World} {B n : Nat} {A : Option Addr} {L : List Cd} (h : Cds w B A n L) (hb : Below B w w') : Cds w' B A n L :=
  Arr.move (fun _ _ _ hbB hx => CdAt.move hx (fun _ hq => hb.cell hq) hbB) (Nat.le_refl _) h
theorem Cds.more {w : World} {B B' n : Nat} {A : Option Addr} {L : List Cd} (h : Cds w B A n L) (hb : B ≤ B') : Cds w B' A n L :=
  Arr.move (B := B) (B' := B') (w := w) (w' := w) (fun _ _ _ _ hx => hx) hb h
def encCd (x : Cd) : List Value := [.int .i64 x.id, .int .i64 x.prio, .int .i64 x.dr, .int .i64 x.bdr]
theorem encCd_len (x : Cd) : (encCd x).length = 4 := rfl
theorem encCd_ones (x : Cd) : ∀ v ∈ encCd x, v.oneCell' = true := by
  intro v hv
  simp only [encCd, List.mem_cons, List.not_mem_nil, or_false] at hv
  rcases hv with rfl | rfl | rfl | rfl <;> rfl
theorem Blk.four {w : World} {g : Nat} {t : TypeId} {a0 a1 a2 a3 : Value} (h : Blk w g t #[a0, a1, a2, a3]) : w.cell? ⟨g, 0, none⟩ = some a0 ∧ w.cell? ⟨g, 1, none⟩ = some a1 ∧ w.cell? ⟨g, 2, none⟩ = some a2 ∧ w.cell? ⟨g, 3, none⟩ = some a3 := ⟨h.cell 0, h.cell 1, h.cell 2, h.cell 3⟩
theorem keepW {w0 w' : World} (hb : Below w0.heap.size w0 w') : Below w0.heap.size w0 w' ∧ (∀ b o, b < w0.heap.size → w'.cell? ⟨b, o, none⟩ = w0.cell? ⟨b, o, none⟩) :=
  ⟨hb, fun b o h => hb.cell (p := ⟨b, o, none⟩) h⟩
theorem Blk.range {w : World} {g : Nat} {t : TypeId} {cs : Array Value} (h : Blk w g t cs) : w.rangeAt g 0 cs.toList := fun j v hj => by
  have e := h.cell j
  rw [← Array.getElem?_toList, hj] at e
  rw [Nat.zero_add]
  exact e
theorem ret_bool {b c : Bool} (h : b = c) : (Ending.returned (.bool b)) = .returned (.bool c) := by rw [h]

set_option maxRecDepth 8000 in
theorem isdr_any (x : Cd) (w : World) : Calls Try.prog 34 #[.agg #[.int .i64 x.id, .int .i64 x.prio, .int .i64 x.dr, .int .i64 x.bdr]] w fun e w' => e = .returned (.bool (x.dr == x.id)) ∧ Below w.heap.size w w' := by
  have B0 := Lib.hid ((Below.refl w.heap.size w).alloc (Nat.le_refl _) (.cells #[.int .i64 x.id, .int .i64 x.prio, .int .i64 x.dr, .int .i64 x.bdr] 31))
  go_enter Try.func34, Try.ntmps34
  go_wp2
  go_ret
  exact ⟨rfl, B0.out⟩

set_option maxRecDepth 8000 in
theorem isbdr_any (x : Cd) (w : World) : Calls Try.prog 35 #[.agg #[.int .i64 x.id, .int .i64 x.prio, .int .i64 x.dr, .int .i64 x.bdr]] w fun e w' => e = .returned (.bool (x.bdr == x.id)) ∧ Below w.heap.size w w' := by
  have B0 := Lib.hid ((Below.refl w.heap.size w).alloc (Nat.le_refl _) (.cells #[.int .i64 x.id, .int .i64 x.prio, .int .i64 x.dr, .int .i64 x.bdr] 31))
  go_enter Try.func35, Try.ntmps35
  go_wp2
  go_ret
  exact ⟨rfl, B0.out⟩

set_option maxRecDepth 8000 in
theorem notdr_any (x : Cd) (w : World) : Calls Try.prog 38 #[.agg #[.int .i64 x.id, .int .i64 x.prio, .int .i64 x.dr, .int .i64 x.bdr]] w fun e w' => e = .returned (.bool (!(x.dr == x.id))) ∧ Below w.heap.size w w' := by
  have B0 := Lib.hid ((Below.refl w.heap.size w).alloc (Nat.le_refl _) (.cells #[.int .i64 x.id, .int .i64 x.prio, .int .i64 x.dr, .int .i64 x.bdr] 31))
  go_enter Try.func38, Try.ntmps38
  go_wp2_with (go_at_call 34; refine (isdr_any x _).mono ?_; rintro e1 w1 ⟨rfl, hb1⟩)
  go_ret
  exact ⟨rfl, B0.out.trans (hb1.mono (by simp))⟩

set_option maxRecDepth 8000 in
theorem isb_any (x : Cd) (w : World) : Calls Try.prog 37 #[.agg #[.int .i64 x.id, .int .i64 x.prio, .int .i64 x.dr, .int .i64 x.bdr]] w fun e w' => e = .returned (.bool (!(x.dr == x.id) && x.bdr == x.id)) ∧ Below w.heap.size w w' := by
  have B0 := Lib.hid ((Below.refl w.heap.size w).alloc (Nat.le_refl _) (.cells #[.int .i64 x.id, .int .i64 x.prio, .int .i64 x.dr, .int .i64 x.bdr] 31))
  have K0 := Lib.hid (Blk.new w 31 #[.int .i64 x.id, .int .i64 x.prio, .int .i64 x.dr, .int .i64 x.bdr])
  generalize hv : (!(x.dr == x.id) && x.bdr == x.id) = v
  have HV := Lib.hid hv
  clear hv
  go_enter Try.func37, Try.ntmps37
  go_wp2_with fail
  generalize w.alloc (.cells #[.int .i64 x.id, .int .i64 x.prio, .int .i64 x.dr, .int .i64 x.bdr] 31) = w0 at *
  have hl0 := K0.out.lt
  refine (isdr_any x _).mono ?_
  rintro e1 w1 ⟨rfl, hb1⟩
  have K1 := Lib.hid (K0.out.below hb1 hl0)
  have B1 := Lib.hid (B0.out.trans (hb1.mono B0.out.size))
  obtain ⟨k0, k1, k2, k3⟩ := K1.out.four
  have hl1 := K1.out.lt
  clear hb1
  cases hd : x.dr == x.id
  · have HC := Lib.hid (show (x.bdr == x.id) = v by rw [← HV.out, hd]; rfl)
    go_wp2_with fail
    refine (isbdr_any x _).mono ?_
    rintro e2 w2 ⟨rfl, hb2⟩
    go_wp2
    go_ret
    exact ⟨ret_bool HC.out, B1.out.trans (hb2.mono B1.out.size)⟩
  · have HC := Lib.hid (show false = v by rw [← HV.out, hd]; rfl)
    go_wp2
    go_ret
    exact ⟨ret_bool HC.out, B1.out⟩

set_option maxRecDepth 8000 in
set_option maxHeartbeats 2000000 in
theorem better_any (x y : Cd) (w : World) : Calls Try.prog 39 #[.agg #[.int .i64 x.id, .int .i64 x.prio, .int .i64 x.dr, .int .i64 x.bdr], .agg #[.int .i64 y.id, .int .i64 y.prio, .int .i64 y.dr, .int .i64 y.bdr]] w fun e w' => e = .returned (.bool (btr x y)) ∧ Below w.heap.size w w' := by
  have B0 := Lib.hid (below_new2 w (.cells #[.int .i64 x.id, .int .i64 x.prio, .int .i64 x.dr, .int .i64 x.bdr] 31) (.cells #[.int .i64 y.id, .int .i64 y.prio, .int .i64 y.dr, .int .i64 y.bdr] 31))
  generalize hv : btr x y = v
  have HV := Lib.hid hv
  clear hv
  go_enter Try.func39, Try.ntmps39
  by_cases h1 : y.prio < x.prio
  · have d1 : decide (y.prio < x.prio) = true := by simpa using h1
    have HC := Lib.hid (show true = v by rw [← HV.out]; simp [btr, h1])
    clear h1
    go_wp2
    go_ret
    exact ⟨ret_bool HC.out, B0.out⟩
  · have d1 : decide (y.prio < x.prio) = false := by simpa using h1
    by_cases h2 : x.prio = y.prio
    · have d2 : (x.prio == y.prio) = true := by simp [h2]
      have HC := Lib.hid (show decide (y.id < x.id) = v by rw [← HV.out]; simp [btr, h2])
      clear h1 h2
      go_wp2
      go_ret
      exact ⟨ret_bool HC.out, B0.out⟩
    · have d2 : (x.prio == y.prio) = false := by simp [h2]
      have HC := Lib.hid (show false = v by rw [← HV.out]; simp [btr, h1, Ne.symm h2])
      clear h1 h2
      go_wp2
      go_ret
      exact ⟨ret_bool HC.out, B0.out⟩

set_option maxRecDepth 8000 in
set_option maxHeartbeats 2000000 in
theorem rbetter_any (x y : Cd) (w : World) : Calls Try.prog 36 #[.agg #[.int .i64 x.id, .int .i64 x.prio, .int .i64 x.dr, .int .i64 x.bdr], .agg #[.int .i64 y.id, .int .i64 y.prio, .int .i64 y.dr, .int .i64 y.bdr]] w fun e w' => e = .returned (.bool (btr x y)) ∧ Below w.heap.size w w' := by
  have B0 := Lib.hid (below_new2 w (.cells #[.int .i64 x.id, .int .i64 x.prio, .int .i64 x.dr, .int .i64 x.bdr] 31) (.cells #[.int .i64 y.id, .int .i64 y.prio, .int .i64 y.dr, .int .i64 y.bdr] 31))
  generalize hv : btr x y = v
  have HV := Lib.hid hv
  clear hv
  go_enter Try.func36, Try.ntmps36
  by_cases h2 : x.prio = y.prio
  · have d2 : (x.prio != y.prio) = false := by simp [h2]
    have HC := Lib.hid (show decide (y.id < x.id) = v by rw [← HV.out]; simp [btr, h2])
    clear h2
    go_wp2
    go_ret
    exact ⟨ret_bool HC.out, B0.out⟩
  · have d2 : (x.prio != y.prio) = true := by simp [h2]
    have HC := Lib.hid (show decide (y.prio < x.prio) = v by rw [← HV.out]; simp [btr, Ne.symm h2])
    clear h2
    go_wp2
    go_ret
    exact ⟨ret_bool HC.out, B0.out⟩

set_option maxRecDepth 8000 in
theorem same_any (x : Cd) (me : Int) (q : Nat) (w : World) (hq : Blk w q 3 #[.int .i64 me]) : Calls Try.prog 28 #[.agg #[.int .i64 x.id, .int .i64 x.prio, .int .i64 x.dr, .int .i64 x.bdr], .pointer (some ⟨q, 0, none⟩)] w fun e w' => e = .returned (.bool (x.id == me)) ∧ Below w.heap.size w w' := by
  have B0 := Lib.hid ((Below.refl w.heap.size w).alloc (Nat.le_refl _) (.cells #[.int .i64 x.id, .int .i64 x.prio, .int .i64 x.dr, .int .i64 x.bdr] 31))
  have K0 := Lib.hid (Blk.new w 31 #[.int .i64 x.id, .int .i64 x.prio, .int .i64 x.dr, .int .i64 x.bdr])
  have Q0 := Lib.hid (hq.alloc (.cells #[.int .i64 x.id, .int .i64 x.prio, .int .i64 x.dr, .int .i64 x.bdr] 31))
  have cq : (w.alloc (.cells #[.int .i64 x.id, .int .i64 x.prio, .int .i64 x.dr, .int .i64 x.bdr] 31)).cell? ⟨q, 0, none⟩ = some (.int .i64 me) := Q0.out.cell 0
  have hqw := hq.lt
  have cw : w.cell? ⟨q, 0, none⟩ = some (.int .i64 me) := hq.cell 0
  go_enter Try.func28, Try.ntmps28
  go_wp2
  go_ret
  exact ⟨rfl, B0.out⟩

set_option maxRecDepth 8000 in
set_option maxHeartbeats 4000000 in
theorem alike_any (x y : Cd) (w : World) : Calls Try.prog 29 #[.agg #[.int .i64 x.id, .int .i64 x.prio, .int .i64 x.dr, .int .i64 x.bdr], .agg #[.int .i64 y.id, .int .i64 y.prio, .int .i64 y.dr, .int .i64 y.bdr]] w fun e w' => e = .returned (.bool (((x.dr == x.id) == (y.dr == y.id)) && ((x.bdr == x.id) == (y.bdr == y.id)))) ∧ Below w.heap.size w w' := by
  have B0 := Lib.hid (below_new2 w (.cells #[.int .i64 x.id, .int .i64 x.prio, .int .i64 x.dr, .int .i64 x.bdr] 31) (.cells #[.int .i64 y.id, .int .i64 y.prio, .int .i64 y.dr, .int .i64 y.bdr] 31))
  have K0 := Lib.hid (blk_new07 w #[.int .i64 x.id, .int .i64 x.prio, .int .i64 x.dr, .int .i64 x.bdr] 31 (.cells #[.int .i64 y.id, .int .i64 y.prio, .int .i64 y.dr, .int .i64 y.bdr] 31))
  have L0 := Lib.hid (blk_new1 w (.cells #[.int .i64 x.id, .int .i64 x.prio, .int .i64 x.dr, .int .i64 x.bdr] 31) 31 #[.int .i64 y.id, .int .i64 y.prio, .int .i64 y.dr, .int .i64 y.bdr])
  obtain ⟨v, hv⟩ : ∃ v, v = (((x.dr == x.id) == (y.dr == y.id)) && ((x.bdr == x.id) == (y.bdr == y.id))) := ⟨_, rfl⟩
  rw [← hv]
  have HV := Lib.hid hv
  clear hv
  go_enter Try.func29, Try.ntmps29
  go_wp2_with fail
  generalize (w.alloc (.cells #[.int .i64 x.id, .int .i64 x.prio, .int .i64 x.dr, .int .i64 x.bdr] 31)).alloc (.cells #[.int .i64 y.id, .int .i64 y.prio, .int .i64 y.dr, .int .i64 y.bdr] 31) = w0 at *
  have hl0 := K0.out.lt
  have hm0 := L0.out.lt
  cases hd : ((x.dr == x.id) == (y.dr == y.id))
  · have HC := Lib.hid (show false = v by rw [HV.out, hd]; rfl)

    have BRd : Below w0.heap.size w0 w0.drew := below_drewN (Below.refl _ _) 1
    refine wp_region_noPanic ?_
    refine wp_region_held_drew (S := fun w' => Below w0.heap.size w0 w') (by kernel_rfl) BRd (fun hHeld => ?_)
    refine wpAnyH_take (i := 0) (oi := { dst := Option.some 5, op := Go.Op.load 31 (Go.Operand.tmp 2), type := 31, pos := "elect.go:84", after := #[], guard := Option.none }) (v := .agg #[.int .i64 x.id, .int .i64 x.prio, .int .i64 x.dr, .int .i64 x.bdr]) rfl (by kernel_rfl) (by kernel_rfl) (by kernel_rfl) (fun _ _ _ h => h) (yieldsIf_load_mid (by rfl) 31 (.tmp 2) rfl w.heap.size 0 rfl [.int .i64 x.id, .int .i64 x.prio, .int .i64 x.dr, .int .i64 x.bdr] _ (fun _ hb => (K0.out.below hb hl0).range) Try.underlying31 rfl (by kernel_rfl)) hHeld ?_
    try simp only [Act.put, List.setIfInBounds_toArray, List.set_cons_zero, List.set_cons_succ]
    refine wpAnyH_take (i := 2) (oi := { dst := Option.some 7, op := Go.Op.load 31 (Go.Operand.tmp 3), type := 31, pos := "elect.go:84", after := #[], guard := Option.none }) (v := .agg #[.int .i64 y.id, .int .i64 y.prio, .int .i64 y.dr, .int .i64 y.bdr]) rfl (by kernel_rfl) (by kernel_rfl) (by kernel_rfl) (fun _ _ _ h => h) (yieldsIf_load_mid (by rfl) 31 (.tmp 3) rfl (w.heap.size + 1) 0 rfl [.int .i64 y.id, .int .i64 y.prio, .int .i64 y.dr, .int .i64 y.bdr] _ (fun _ hb => (L0.out.below hb hm0).range) Try.underlying31 rfl (by kernel_rfl)) hHeld ?_
    try simp only [Act.put, List.setIfInBounds_toArray, List.set_cons_zero, List.set_cons_succ]
    refine wpAnyH_ready (rs := [1]) (by kernel_rfl) (by simp) ?_
    refine AllReadyH.cons (o := { dst := Option.some 6, op := Go.Op.call { callee := Go.Callee.value (Go.Operand.func 34), args := #[Go.Operand.tmp 5], argTypes := #[31] }, type := 4, pos := "elect.go:84", after := #[{ on := 0, ground := Go.Ground.data }], guard := Option.none }) rfl (fun K hK => ?_) AllReadyH.nil
    go_simp
    refine (isdr_any x _).mono ?_
    rintro e1 v1 ⟨rfl, hv1⟩
    have hC1 := BRd.trans (hv1.mono BRd.size)
    clear hv1 hHeld
    refine hK.out _ _ hC1 (fun hHeld => ?_)
    clear hK K
    try simp only [Act.put, List.setIfInBounds_toArray, List.set_cons_zero, List.set_cons_succ]
    refine wpAnyH_ready (rs := [3]) (by kernel_rfl) (by simp) ?_
    refine AllReadyH.cons (o := { dst := Option.some 8, op := Go.Op.call { callee := Go.Callee.value (Go.Operand.func 34), args := #[Go.Operand.tmp 7], argTypes := #[31] }, type := 4, pos := "elect.go:84", after := #[{ on := 2, ground := Go.Ground.data }, { on := 1, ground := Go.Ground.chain }], guard := Option.none }) rfl (fun K hK => ?_) AllReadyH.nil
    go_simp
    refine (isdr_any y _).mono ?_
    rintro e2 v2 ⟨rfl, hv2⟩
    have hC2 := hC1.trans (hv2.mono hC1.size)
    clear hv2 hHeld
    refine hK.out _ _ hC2 (fun hHeld => ?_)
    clear hK K
    try simp only [Act.put, List.setIfInBounds_toArray, List.set_cons_zero, List.set_cons_succ]
    refine wpAnyH_take (i := 4) (oi := { dst := Option.some 9, op := Go.Op.binOp Go.BinOp.eql 4 (Go.Operand.tmp 6) (Go.Operand.tmp 8) 4, type := 4, pos := "elect.go:84", after := #[{ on := 1, ground := Go.Ground.data }, { on := 3, ground := Go.Ground.data }], guard := Option.none }) (v := ?_) rfl (by kernel_rfl) (by kernel_rfl) (by kernel_rfl) (fun _ _ _ h => h) (Or.inl ⟨by rfl, ?_⟩) hHeld ?_
    rotate_left 1
    · intro ww hSw
      try dsimp only at hSw
      go_simp
      try with_reducible rfl
    try simp only [Act.put, List.setIfInBounds_toArray, List.set_cons_zero, List.set_cons_succ]
    refine wpAnyH_take (i := 5) (oi := { dst := Option.some 10, op := Go.Op.move (Go.Operand.tmp 9), type := 4, pos := "elect.go:84", after := #[{ on := 4, ground := Go.Ground.data }, { on := 3, ground := Go.Ground.chain }], guard := Option.none }) (v := ?_) rfl (by kernel_rfl) (by kernel_rfl) (by kernel_rfl) (fun _ _ _ h => h) (Or.inl ⟨by rfl, ?_⟩) hHeld ?_
    rotate_left 1
    · intro ww hSw
      try dsimp only at hSw
      go_simp
      try with_reducible rfl
    try simp only [Act.put, List.setIfInBounds_toArray, List.set_cons_zero, List.set_cons_succ]
    refine wpAnyH_take (i := 6) (oi := { dst := Option.some 11, op := Go.Op.load 31 (Go.Operand.tmp 2), type := 31, pos := "elect.go:84", after := #[{ on := 5, ground := Go.Ground.guard }], guard := Option.some (5, Bool.true) }) (v := undef) rfl (by kernel_rfl) (by kernel_rfl) (by kernel_rfl) (fun _ _ _ h => h) (Or.inr ⟨by rfl, rfl⟩) hHeld ?_
    try simp only [Act.put, List.setIfInBounds_toArray, List.set_cons_zero, List.set_cons_succ]
    refine wpAnyH_take (i := 7) (oi := { dst := Option.some 12, op := Go.Op.call { callee := Go.Callee.value (Go.Operand.func 35), args := #[Go.Operand.tmp 11], argTypes := #[31] }, type := 4, pos := "elect.go:84", after := #[{ on := 6, ground := Go.Ground.data }, { on := 5, ground := Go.Ground.chain }, { on := 5, ground := Go.Ground.guard }], guard := Option.some (5, Bool.true) }) (v := undef) rfl (by kernel_rfl) (by kernel_rfl) (by kernel_rfl) (fun _ _ _ h => h) (Or.inr ⟨by rfl, rfl⟩) hHeld ?_
    try simp only [Act.put, List.setIfInBounds_toArray, List.set_cons_zero, List.set_cons_succ]
    refine wpAnyH_take (i := 8) (oi := { dst := Option.some 13, op := Go.Op.load 31 (Go.Operand.tmp 3), type := 31, pos := "elect.go:84", after := #[{ on := 5, ground := Go.Ground.guard }], guard := Option.some (5, Bool.true) }) (v := undef) rfl (by kernel_rfl) (by kernel_rfl) (by kernel_rfl) (fun _ _ _ h => h) (Or.inr ⟨by rfl, rfl⟩) hHeld ?_
    try simp only [Act.put, List.setIfInBounds_toArray, List.set_cons_zero, List.set_cons_succ]
    refine wpAnyH_take (i := 9) (oi := { dst := Option.some 14, op := Go.Op.call { callee := Go.Callee.value (Go.Operand.func 35), args := #[Go.Operand.tmp 13], argTypes := #[31] }, type := 4, pos := "elect.go:84", after := #[{ on := 8, ground := Go.Ground.data }, { on := 7, ground := Go.Ground.chain }, { on := 5, ground := Go.Ground.guard }], guard := Option.some (5, Bool.true) }) (v := undef) rfl (by kernel_rfl) (by kernel_rfl) (by kernel_rfl) (fun _ _ _ h => h) (Or.inr ⟨by rfl, rfl⟩) hHeld ?_
    try simp only [Act.put, List.setIfInBounds_toArray, List.set_cons_zero, List.set_cons_succ]
    refine wpAnyH_take (i := 10) (oi := { dst := Option.some 15, op := Go.Op.binOp Go.BinOp.eql 4 (Go.Operand.tmp 12) (Go.Operand.tmp 14) 4, type := 4, pos := "elect.go:84", after := #[{ on := 7, ground := Go.Ground.data }, { on := 9, ground := Go.Ground.data }, { on := 5, ground := Go.Ground.guard }], guard := Option.some (5, Bool.true) }) (v := undef) rfl (by kernel_rfl) (by kernel_rfl) (by kernel_rfl) (fun _ _ _ h => h) (Or.inr ⟨by rfl, rfl⟩) hHeld ?_
    try simp only [Act.put, List.setIfInBounds_toArray, List.set_cons_zero, List.set_cons_succ]
    refine wpAnyH_take (i := 11) (oi := { dst := Option.some 16, op := Go.Op.pick (Go.Operand.tmp 10) (Go.Operand.tmp 15) (Go.Operand.const (Go.Value.bool Bool.false)), type := 4, pos := "elect.go:84", after := #[{ on := 5, ground := Go.Ground.data }, { on := 10, ground := Go.Ground.data }], guard := Option.none }) (v := ?_) rfl (by kernel_rfl) (by kernel_rfl) (by kernel_rfl) (fun _ _ _ h => h) (Or.inl ⟨by rfl, ?_⟩) hHeld ?_
    rotate_left 1
    · intro ww hSw
      try dsimp only at hSw
      go_simp
      try with_reducible rfl
    try simp only [Act.put, List.setIfInBounds_toArray, List.set_cons_zero, List.set_cons_succ]
    refine wpAnyH_take (i := 12) (oi := { dst := Option.some 4, op := Go.Op.assign (Go.Operand.tmp 16), type := 4, pos := "elect.go:84", after := #[{ on := 11, ground := Go.Ground.data }, { on := 9, ground := Go.Ground.chain }, { on := 0, ground := Go.Ground.phase }, { on := 1, ground := Go.Ground.phase }, { on := 2, ground := Go.Ground.phase }, { on := 3, ground := Go.Ground.phase }, { on := 4, ground := Go.Ground.phase }, { on := 5, ground := Go.Ground.phase }, { on := 6, ground := Go.Ground.phase }, { on := 7, ground := Go.Ground.phase }, { on := 8, ground := Go.Ground.phase }, { on := 9, ground := Go.Ground.phase }, { on := 10, ground := Go.Ground.phase }, { on := 11, ground := Go.Ground.phase }], guard := Option.none }) (v := ?_) rfl (by kernel_rfl) (by kernel_rfl) (by kernel_rfl) (fun _ _ _ h => h) (Or.inl ⟨by rfl, ?_⟩) hHeld ?_
    rotate_left 1
    · intro ww hSw
      try dsimp only at hSw
      go_simp
      try with_reducible rfl
    try simp only [Act.put, List.setIfInBounds_toArray, List.set_cons_zero, List.set_cons_succ]
    refine wpAnyH_done (by kernel_rfl) ?_ _
    refine NoPanic.normal ?_
    go_wp2
    go_ret
    exact ⟨ret_bool HC.out, B0.out.trans (hC2.mono B0.out.size)⟩
  · have HC := Lib.hid (show ((x.bdr == x.id) == (y.bdr == y.id)) = v by rw [HV.out, hd]; rfl)
    have BRd : Below w0.heap.size w0 w0.drew := below_drewN (Below.refl _ _) 1
    refine wp_region_noPanic ?_
    refine wp_region_held_drew (S := fun w' => Below w0.heap.size w0 w') (by kernel_rfl) BRd (fun hHeld => ?_)
    refine wpAnyH_take (i := 0) (oi := { dst := Option.some 5, op := Go.Op.load 31 (Go.Operand.tmp 2), type := 31, pos := "elect.go:84", after := #[], guard := Option.none }) (v := .agg #[.int .i64 x.id, .int .i64 x.prio, .int .i64 x.dr, .int .i64 x.bdr]) rfl (by kernel_rfl) (by kernel_rfl) (by kernel_rfl) (fun _ _ _ h => h) (yieldsIf_load_mid (by rfl) 31 (.tmp 2) rfl w.heap.size 0 rfl [.int .i64 x.id, .int .i64 x.prio, .int .i64 x.dr, .int .i64 x.bdr] _ (fun _ hb => (K0.out.below hb hl0).range) Try.underlying31 rfl (by kernel_rfl)) hHeld ?_
    try simp only [Act.put, List.setIfInBounds_toArray, List.set_cons_zero, List.set_cons_succ]
    refine wpAnyH_take (i := 2) (oi := { dst := Option.some 7, op := Go.Op.load 31 (Go.Operand.tmp 3), type := 31, pos := "elect.go:84", after := #[], guard := Option.none }) (v := .agg #[.int .i64 y.id, .int .i64 y.prio, .int .i64 y.dr, .int .i64 y.bdr]) rfl (by kernel_rfl) (by kernel_rfl) (by kernel_rfl) (fun _ _ _ h => h) (yieldsIf_load_mid (by rfl) 31 (.tmp 3) rfl (w.heap.size + 1) 0 rfl [.int .i64 y.id, .int .i64 y.prio, .int .i64 y.dr, .int .i64 y.bdr] _ (fun _ hb => (L0.out.below hb hm0).range) Try.underlying31 rfl (by kernel_rfl)) hHeld ?_
    try simp only [Act.put, List.setIfInBounds_toArray, List.set_cons_zero, List.set_cons_succ]
    refine wpAnyH_ready (rs := [1]) (by kernel_rfl) (by simp) ?_
    refine AllReadyH.cons (o := { dst := Option.some 6, op := Go.Op.call { callee := Go.Callee.value (Go.Operand.func 34), args := #[Go.Operand.tmp 5], argTypes := #[31] }, type := 4, pos := "elect.go:84", after := #[{ on := 0, ground := Go.Ground.data }], guard := Option.none }) rfl (fun K hK => ?_) AllReadyH.nil
    go_simp
    refine (isdr_any x _).mono ?_
    rintro e1 v1 ⟨rfl, hv1⟩
    have hC1 := BRd.trans (hv1.mono BRd.size)
    clear hv1 hHeld
    refine hK.out _ _ hC1 (fun hHeld => ?_)
    clear hK K
    try simp only [Act.put, List.setIfInBounds_toArray, List.set_cons_zero, List.set_cons_succ]
    refine wpAnyH_ready (rs := [3]) (by kernel_rfl) (by simp) ?_
    refine AllReadyH.cons (o := { dst := Option.some 8, op := Go.Op.call { callee := Go.Callee.value (Go.Operand.func 34), args := #[Go.Operand.tmp 7], argTypes := #[31] }, type := 4, pos := "elect.go:84", after := #[{ on := 2, ground := Go.Ground.data }, { on := 1, ground := Go.Ground.chain }], guard := Option.none }) rfl (fun K hK => ?_) AllReadyH.nil
    go_simp
    refine (isdr_any y _).mono ?_
    rintro e2 v2 ⟨rfl, hv2⟩
    have hC2 := hC1.trans (hv2.mono hC1.size)
    clear hv2 hHeld
    refine hK.out _ _ hC2 (fun hHeld => ?_)
    clear hK K
    try simp only [Act.put, List.setIfInBounds_toArray, List.set_cons_zero, List.set_cons_succ]
    refine wpAnyH_take (i := 4) (oi := { dst := Option.some 9, op := Go.Op.binOp Go.BinOp.eql 4 (Go.Operand.tmp 6) (Go.Operand.tmp 8) 4, type := 4, pos := "elect.go:84", after := #[{ on := 1, ground := Go.Ground.data }, { on := 3, ground := Go.Ground.data }], guard := Option.none }) (v := ?_) rfl (by kernel_rfl) (by kernel_rfl) (by kernel_rfl) (fun _ _ _ h => h) (Or.inl ⟨by rfl, ?_⟩) hHeld ?_
    rotate_left 1
    · intro ww hSw
      try dsimp only at hSw
      go_simp
      try with_reducible rfl
    try simp only [Act.put, List.setIfInBounds_toArray, List.set_cons_zero, List.set_cons_succ]
    refine wpAnyH_take (i := 5) (oi := { dst := Option.some 10, op := Go.Op.move (Go.Operand.tmp 9), type := 4, pos := "elect.go:84", after := #[{ on := 4, ground := Go.Ground.data }, { on := 3, ground := Go.Ground.chain }], guard := Option.none }) (v := ?_) rfl (by kernel_rfl) (by kernel_rfl) (by kernel_rfl) (fun _ _ _ h => h) (Or.inl ⟨by rfl, ?_⟩) hHeld ?_
    rotate_left 1
    · intro ww hSw
      try dsimp only at hSw
      go_simp
      try with_reducible rfl
    try simp only [Act.put, List.setIfInBounds_toArray, List.set_cons_zero, List.set_cons_succ]
    refine wpAnyH_take (i := 6) (oi := { dst := Option.some 11, op := Go.Op.load 31 (Go.Operand.tmp 2), type := 31, pos := "elect.go:84", after := #[{ on := 5, ground := Go.Ground.guard }], guard := Option.some (5, Bool.true) }) (v := .agg #[.int .i64 x.id, .int .i64 x.prio, .int .i64 x.dr, .int .i64 x.bdr]) rfl (by kernel_rfl) (by kernel_rfl) (by kernel_rfl) (fun _ _ _ h => h) (yieldsIf_load_mid (by rfl) 31 (.tmp 2) rfl w.heap.size 0 rfl [.int .i64 x.id, .int .i64 x.prio, .int .i64 x.dr, .int .i64 x.bdr] _ (fun _ hb => (K0.out.below hb hl0).range) Try.underlying31 rfl (by kernel_rfl)) hHeld ?_
    try simp only [Act.put, List.setIfInBounds_toArray, List.set_cons_zero, List.set_cons_succ]
    refine wpAnyH_take (i := 8) (oi := { dst := Option.some 13, op := Go.Op.load 31 (Go.Operand.tmp 3), type := 31, pos := "elect.go:84", after := #[{ on := 5, ground := Go.Ground.guard }], guard := Option.some (5, Bool.true) }) (v := .agg #[.int .i64 y.id, .int .i64 y.prio, .int .i64 y.dr, .int .i64 y.bdr]) rfl (by kernel_rfl) (by kernel_rfl) (by kernel_rfl) (fun _ _ _ h => h) (yieldsIf_load_mid (by rfl) 31 (.tmp 3) rfl (w.heap.size + 1) 0 rfl [.int .i64 y.id, .int .i64 y.prio, .int .i64 y.dr, .int .i64 y.bdr] _ (fun _ hb => (L0.out.below hb hm0).range) Try.underlying31 rfl (by kernel_rfl)) hHeld ?_
    try simp only [Act.put, List.setIfInBounds_toArray, List.set_cons_zero, List.set_cons_succ]
    refine wpAnyH_ready (rs := [7]) (by kernel_rfl) (by simp) ?_
    refine AllReadyH.cons (o := { dst := Option.some 12, op := Go.Op.call { callee := Go.Callee.value (Go.Operand.func 35), args := #[Go.Operand.tmp 11], argTypes := #[31] }, type := 4, pos := "elect.go:84", after := #[{ on := 6, ground := Go.Ground.data }, { on := 5, ground := Go.Ground.chain }, { on := 5, ground := Go.Ground.guard }], guard := Option.some (5, Bool.true) }) rfl (fun K hK => ?_) AllReadyH.nil
    go_simp
    refine (isbdr_any x _).mono ?_
    rintro e3 v3 ⟨rfl, hv3⟩
    have hC3 := hC2.trans (hv3.mono hC2.size)
    clear hv3 hHeld
    refine hK.out _ _ hC3 (fun hHeld => ?_)
    clear hK K
    try simp only [Act.put, List.setIfInBounds_toArray, List.set_cons_zero, List.set_cons_succ]
    refine wpAnyH_ready (rs := [9]) (by kernel_rfl) (by simp) ?_
    refine AllReadyH.cons (o := { dst := Option.some 14, op := Go.Op.call { callee := Go.Callee.value (Go.Operand.func 35), args := #[Go.Operand.tmp 13], argTypes := #[31] }, type := 4, pos := "elect.go:84", after := #[{ on := 8, ground := Go.Ground.data }, { on := 7, ground := Go.Ground.chain }, { on := 5, ground := Go.Ground.guard }], guard := Option.some (5, Bool.true) }) rfl (fun K hK => ?_) AllReadyH.nil
    go_simp
    refine (isbdr_any y _).mono ?_
    rintro e4 v4 ⟨rfl, hv4⟩
    have hC4 := hC3.trans (hv4.mono hC3.size)
    clear hv4 hHeld
    refine hK.out _ _ hC4 (fun hHeld => ?_)
    clear hK K
    try simp only [Act.put, List.setIfInBounds_toArray, List.set_cons_zero, List.set_cons_succ]
    refine wpAnyH_take (i := 10) (oi := { dst := Option.some 15, op := Go.Op.binOp Go.BinOp.eql 4 (Go.Operand.tmp 12) (Go.Operand.tmp 14) 4, type := 4, pos := "elect.go:84", after := #[{ on := 7, ground := Go.Ground.data }, { on := 9, ground := Go.Ground.data }, { on := 5, ground := Go.Ground.guard }], guard := Option.some (5, Bool.true) }) (v := ?_) rfl (by kernel_rfl) (by kernel_rfl) (by kernel_rfl) (fun _ _ _ h => h) (Or.inl ⟨by rfl, ?_⟩) hHeld ?_
    rotate_left 1
    · intro ww hSw
      try dsimp only at hSw
      go_simp
      try with_reducible rfl
    try simp only [Act.put, List.setIfInBounds_toArray, List.set_cons_zero, List.set_cons_succ]
    refine wpAnyH_take (i := 11) (oi := { dst := Option.some 16, op := Go.Op.pick (Go.Operand.tmp 10) (Go.Operand.tmp 15) (Go.Operand.const (Go.Value.bool Bool.false)), type := 4, pos := "elect.go:84", after := #[{ on := 5, ground := Go.Ground.data }, { on := 10, ground := Go.Ground.data }], guard := Option.none }) (v := ?_) rfl (by kernel_rfl) (by kernel_rfl) (by kernel_rfl) (fun _ _ _ h => h) (Or.inl ⟨by rfl, ?_⟩) hHeld ?_
    rotate_left 1
    · intro ww hSw
      try dsimp only at hSw
      go_simp
      try with_reducible rfl
    try simp only [Act.put, List.setIfInBounds_toArray, List.set_cons_zero, List.set_cons_succ]
    refine wpAnyH_take (i := 12) (oi := { dst := Option.some 4, op := Go.Op.assign (Go.Operand.tmp 16), type := 4, pos := "elect.go:84", after := #[{ on := 11, ground := Go.Ground.data }, { on := 9, ground := Go.Ground.chain }, { on := 0, ground := Go.Ground.phase }, { on := 1, ground := Go.Ground.phase }, { on := 2, ground := Go.Ground.phase }, { on := 3, ground := Go.Ground.phase }, { on := 4, ground := Go.Ground.phase }, { on := 5, ground := Go.Ground.phase }, { on := 6, ground := Go.Ground.phase }, { on := 7, ground := Go.Ground.phase }, { on := 8, ground := Go.Ground.phase }, { on := 9, ground := Go.Ground.phase }, { on := 10, ground := Go.Ground.phase }, { on := 11, ground := Go.Ground.phase }], guard := Option.none }) (v := ?_) rfl (by kernel_rfl) (by kernel_rfl) (by kernel_rfl) (fun _ _ _ h => h) (Or.inl ⟨by rfl, ?_⟩) hHeld ?_
    rotate_left 1
    · intro ww hSw
      try dsimp only at hSw
      go_simp
      try with_reducible rfl
    try simp only [Act.put, List.setIfInBounds_toArray, List.set_cons_zero, List.set_cons_succ]
    refine wpAnyH_done (by kernel_rfl) ?_ _
    refine NoPanic.normal ?_
    go_wp2
    go_ret
    exact ⟨ret_bool HC.out, B0.out.trans (hC4.mono B0.out.size)⟩
end Go.Proofs.Ytedlkoecnnmihaa
