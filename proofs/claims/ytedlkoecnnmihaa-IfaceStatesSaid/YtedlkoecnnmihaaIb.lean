/- A router on a network in memory; the small calls of the program's steps. No conditions. -/
import Derived.Test.YtedlkoecnnmihaaIa
import Derived.Test.YtedlkoecnnmihaaEm
import Derived.Test.YtedlkoecnnmihaaEp
import Derived.Laws.StructEq
import Derived.ChangeKeysEq
import Derived.StillTailTactics
namespace Go.Proofs.Ytedlkoecnnmihaa
open Go.RowKit
theorem Blk.five {w : World} {g : Nat} {t : TypeId} {a0 a1 a2 a3 a4 : Value} (h : Blk w g t #[a0, a1, a2, a3, a4]) : w.cell? ⟨g, 0, none⟩ = some a0 ∧ w.cell? ⟨g, 1, none⟩ = some a1 ∧ w.cell? ⟨g, 2, none⟩ = some a2 ∧ w.cell? ⟨g, 3, none⟩ = some a3 ∧ w.cell? ⟨g, 4, none⟩ = some a4 := ⟨h.cell 0, h.cell 1, h.cell 2, h.cell 3, h.cell 4⟩
theorem under23 : Try.prog.underlying 23 = some (.struct (Try.prog.fieldsOf 23)) := by kernel_rfl
theorem stood23 : Try.prog.stoodInHeld 23 = false := by kernel_rfl
theorem under31 : Try.prog.underlying 31 = some (.struct (Try.prog.fieldsOf 31)) := by kernel_rfl
theorem stood31 : Try.prog.stoodInHeld 31 = false := by kernel_rfl
theorem below_put5 {B q : Nat} {w0 w : World} {v0 v1 v2 v3 v4 : Value} (h : Below B w0 w) (hq : B ≤ q) : Below B w0 (((((w.setCell ⟨q, 0, none⟩ v0).setCell ⟨q, 1, none⟩ v1).setCell ⟨q, 2, none⟩ v2).setCell ⟨q, 3, none⟩ v3).setCell ⟨q, 4, none⟩ v4) :=
  ((((h.setCell (p := ⟨q, 0, none⟩) hq v0).setCell (p := ⟨q, 1, none⟩) hq v1).setCell (p := ⟨q, 2, none⟩) hq v2).setCell (p := ⟨q, 3, none⟩) hq v3).setCell (p := ⟨q, 4, none⟩) hq v4
theorem blk_put5 {q : Nat} {w : World} {t : TypeId} {u0 u1 u2 u3 u4 v0 v1 v2 v3 v4 : Value} (h : Blk w q t #[u0, u1, u2, u3, u4]) : Blk (((((w.setCell ⟨q, 0, none⟩ v0).setCell ⟨q, 1, none⟩ v1).setCell ⟨q, 2, none⟩ v2).setCell ⟨q, 3, none⟩ v3).setCell ⟨q, 4, none⟩ v4) q t #[v0, v1, v2, v3, v4] := by
  have h9 := ((((h.put 0 v0).put 1 v1).put 2 v2).put 3 v3).put 4 v4
  simp only [List.setIfInBounds_toArray, List.set_cons_zero, List.set_cons_succ] at h9
  exact h9
theorem Blk.thaw {q : Nat} {w : World} {t : TypeId} {cs : Array Value} (h : Blk w q t cs) : w.frozen? ⟨q, 0, none⟩ = false ∧ w.frozen? ⟨q, 1, none⟩ = false ∧ w.frozen? ⟨q, 2, none⟩ = false ∧ w.frozen? ⟨q, 3, none⟩ = false ∧ w.frozen? ⟨q, 4, none⟩ = false := ⟨h.frozen 0, h.frozen 1, h.frozen 2, h.frozen 3, h.frozen 4⟩
theorem plain3 : Try.prog.plainKey 3 = true := by kernel_rfl
theorem eqInt (W : World) (a b : Int) : (Op.equalIn (9998 + 1) 3 (.int .i64 a) (.int .i64 b)).run Try.prog W = .ok (a == b) W := run_equalIn_int W 9998 _ .i64 .i64 a b Try.underlying3
theorem equalI (x y : If) (W : World) : (Op.equalIn 10000 23 (.agg #[.int .i64 x.self, .int .i64 x.prio, .int .i64 x.state, .int .i64 x.dr, .int .i64 x.bdr]) (.agg #[.int .i64 y.self, .int .i64 y.prio, .int .i64 y.state, .int .i64 y.dr, .int .i64 y.bdr])).run Try.prog W = .ok (sameI x y) W := by
  have q0 : ∀ z : If, (part 3 #[.int .i64 z.self, .int .i64 z.prio, .int .i64 z.state, .int .i64 z.dr, .int .i64 z.bdr] 0).run Try.prog W = .ok (.int .i64 z.self) W := fun z => run_part_plain W plain3 rfl
  have q1 : ∀ z : If, (part 3 #[.int .i64 z.self, .int .i64 z.prio, .int .i64 z.state, .int .i64 z.dr, .int .i64 z.bdr] 1).run Try.prog W = .ok (.int .i64 z.prio) W := fun z => run_part_plain W plain3 rfl
  have q2 : ∀ z : If, (part 3 #[.int .i64 z.self, .int .i64 z.prio, .int .i64 z.state, .int .i64 z.dr, .int .i64 z.bdr] 2).run Try.prog W = .ok (.int .i64 z.state) W := fun z => run_part_plain W plain3 rfl
  have q3 : ∀ z : If, (part 3 #[.int .i64 z.self, .int .i64 z.prio, .int .i64 z.state, .int .i64 z.dr, .int .i64 z.bdr] 3).run Try.prog W = .ok (.int .i64 z.dr) W := fun z => run_part_plain W plain3 rfl
  have q4 : ∀ z : If, (part 3 #[.int .i64 z.self, .int .i64 z.prio, .int .i64 z.state, .int .i64 z.dr, .int .i64 z.bdr] 4).run Try.prog W = .ok (.int .i64 z.bdr) W := fun z => run_part_plain W plain3 rfl
  rw [show (10000 : Nat) = 9998 + 1 + 1 from rfl, run_equalIn_struct W (9998 + 1) _ _ _ under23 stood23]
  simp [Program.fieldsOf, Try.underlying23, Op.eqFields, q0, q1, q2, q3, q4, eqInt]
  clear q0 q1 q2 q3 q4
  unfold sameI
  by_cases h1 : x.self = y.self
  · by_cases h2 : x.prio = y.prio
    · by_cases h3 : x.state = y.state
      · by_cases h4 : x.dr = y.dr
        · by_cases h5 : x.bdr = y.bdr <;> simp [h1, h2, h3, h4, h5]
        · simp [h1, h2, h3, h4]
      · simp [h1, h2, h3]
    · simp [h1, h2]
  · simp [h1]

set_option maxRecDepth 8000 in
theorem names_any (a b : Int) (w : World) : Calls Try.prog 16 #[.int .i64 a, .int .i64 b] w fun e w' => e = .returned (.bool (a != 0 && a == b)) ∧ Below w.heap.size w w' := by
  generalize hv : (a != 0 && a == b) = v
  have HV := Lib.hid hv
  clear hv
  go_enter Try.func16, Try.ntmps16
  by_cases h0 : a = 0
  · have d0 : (a != 0) = false := by simp [h0]
    have HC := Lib.hid (show false = v by rw [← HV.out, d0]; rfl)
    clear h0
    go_wp2
    go_ret
    exact ⟨ret_bool HC.out, Below.refl _ _⟩
  · have d0 : (a != 0) = true := by simp [h0]
    have HC := Lib.hid (show (a == b) = v by rw [← HV.out, d0]; rfl)
    clear h0
    go_wp2
    go_ret
    exact ⟨ret_bool HC.out, Below.refl _ _⟩

set_option maxRecDepth 8000 in
theorem begins_any (a : Int) (w : World) : Calls Try.prog 19 #[.int .i64 a] w fun e w' => e = .returned (.int .i64 (if 0 < a then 1 else 2)) ∧ w' = w := by
  by_cases h : 0 < a
  · have d0 : decide (0 < a) = true := by simp [h]
    rw [if_pos h]
    go_enter Try.func19, Try.ntmps19
    go_wp2
    go_ret
    exact ⟨rfl, rfl⟩
  · have d0 : decide (0 < a) = false := by simp [h]
    rw [if_neg h]
    go_enter Try.func19, Try.ntmps19
    go_wp2
    go_ret
    exact ⟨rfl, rfl⟩

set_option maxRecDepth 8000 in
set_option maxHeartbeats 2000000 in
theorem moved_any (i : If) (s d b : Int) (w : World) : Calls Try.prog 18 #[.agg #[.int .i64 i.self, .int .i64 i.prio, .int .i64 i.state, .int .i64 i.dr, .int .i64 i.bdr], .int .i64 s, .int .i64 d, .int .i64 b] w fun e w' => e = .returned (.agg #[.int .i64 i.self, .int .i64 i.prio, .int .i64 s, .int .i64 d, .int .i64 b]) ∧ Below w.heap.size w w' := by
  go_enter Try.func18, Try.ntmps18
  go_wp2_with fail
  refine bodyPost_ret (v := .agg #[.int .i64 i.self, .int .i64 i.prio, .int .i64 s, .int .i64 d, .int .i64 b]) (by simp [results, Try.results18, go_sem, *]) rfl ?_
  exact ⟨rfl, below_new2 w _ _⟩

set_option maxRecDepth 8000 in
set_option maxHeartbeats 2000000 in
theorem own_any (i : If) (w : World) : Calls Try.prog 11 #[.agg #[.int .i64 i.self, .int .i64 i.prio, .int .i64 i.state, .int .i64 i.dr, .int .i64 i.bdr]] w fun e w' => e = .returned (.agg #[.int .i64 i.self, .int .i64 i.prio, .int .i64 i.dr, .int .i64 i.bdr]) ∧ Below w.heap.size w w' := by
  go_enter Try.func11, Try.ntmps11
  go_wp2_with fail
  refine bodyPost_ret (v := .agg #[.int .i64 i.self, .int .i64 i.prio, .int .i64 i.dr, .int .i64 i.bdr]) (by simp [results, Try.results11, go_sem, *]) rfl ?_
  exact ⟨rfl, below_new2 w _ _⟩

set_option maxRecDepth 8000 in
set_option maxHeartbeats 2000000 in
theorem up_any {p : Nat} {i : If} {w : World} (hp : Blk w p 23 #[.int .i64 i.self, .int .i64 i.prio, .int .i64 i.state, .int .i64 i.dr, .int .i64 i.bdr]) : Calls Try.prog 17 #[.pointer (some ⟨p, 0, none⟩)] w fun e w' => e = .returned (.agg #[.int .i64 (upI i).self, .int .i64 (upI i).prio, .int .i64 (upI i).state, .int .i64 (upI i).dr, .int .i64 (upI i).bdr]) ∧ Below w.heap.size w w' := by
  obtain ⟨s, hs⟩ : ∃ s : Int, (if 0 < i.prio then 1 else 2) = s := ⟨_, rfl⟩
  have HG := Lib.hid (fun W => show Calls Try.prog 19 #[.int .i64 i.prio] W fun e w' => e = .returned (.int .i64 s) ∧ w' = W by rw [← hs]; exact begins_any i.prio W)
  simp only [upI, hs]
  clear hs
  have HP := Lib.hid hp
  clear hp
  have hlt := HP.out.lt
  have B0 := Lib.hid ((Below.refl w.heap.size w).alloc (Nat.le_refl _) (.cells #[.int .i64 0, .int .i64 0, .int .i64 0, .int .i64 0, .int .i64 0] 23))
  have R0 := Lib.hid (Blk.new w 23 #[.int .i64 0, .int .i64 0, .int .i64 0, .int .i64 0, .int .i64 0])
  have P0 := Lib.hid (HP.out.below B0.out hlt)
  go_enter Try.func17, Try.ntmps17
  go_wp2_with fail
  generalize hq : w.heap.size = q at *
  generalize w.alloc (.cells #[.int .i64 0, .int .i64 0, .int .i64 0, .int .i64 0, .int .i64 0] 23) = w0 at *
  have hp0 := P0.out.lt
  obtain ⟨k0, k1, k2, k3, k4⟩ := P0.out.five
  have hq0 := R0.out.lt
  refine wp_region_still_tail 4 (by kernel_rfl) (by kernel_rfl) ?_
  simp only [List.take_succ_cons, List.take_zero, List.drop_succ_cons, List.drop_zero]
  change wpStill _ _ w0.drew _ _ _
  repeat still_step
  still_call (HG.out _)
  repeat still_step
  refine wpStill_nil ?_
  change wpList _ _ _ _ _ w0.drew
  have R1 := Lib.hid R0.out.drew
  have B1 := Lib.hid (show Below q w w0.drew from below_drewN B0.out 1)
  clear k0 k1 k2 k3 k4 R0 B0 P0 hp0
  generalize w0.drew = w1 at *
  have hq1 := R1.out.lt
  go_wp2_with fail
  refine (moved_any i s 0 0 _).mono ?_
  rintro e2 w2 ⟨rfl, hb2⟩
  have R2 := Lib.hid (R1.out.below hb2 hq1)
  have B2 := Lib.hid (B1.out.trans (hb2.mono (Nat.le_of_lt hq1)))
  obtain ⟨k0, k1, k2, k3, k4⟩ := R2.out.five
  obtain ⟨z0, z1, z2, z3, z4⟩ := R2.out.thaw
  have hq2 := R2.out.lt
  clear hb2 R1 B1 hq1
  go_wp2_with fail
  have KX := blk_put5 (v0 := .int .i64 i.self) (v1 := .int .i64 i.prio) (v2 := .int .i64 s) (v3 := .int .i64 0) (v4 := .int .i64 0) R2.out
  have BX := below_put5 (v0 := .int .i64 i.self) (v1 := .int .i64 i.prio) (v2 := .int .i64 s) (v3 := .int .i64 0) (v4 := .int .i64 0) B2.out (Nat.le_refl _)
  clear k0 k1 k2 k3 k4 z0 z1 z2 z3 z4
  generalize ((((w2.setCell ⟨q, 0, none⟩ (.int .i64 i.self)).setCell ⟨q, 1, none⟩ (.int .i64 i.prio)).setCell ⟨q, 2, none⟩ (.int .i64 s)).setCell ⟨q, 3, none⟩ (.int .i64 0)).setCell ⟨q, 4, none⟩ (.int .i64 0) = w3 at *
  obtain ⟨k0, k1, k2, k3, k4⟩ := KX.five
  refine bodyPost_ret (v := .agg #[.int .i64 i.self, .int .i64 i.prio, .int .i64 s, .int .i64 0, .int .i64 0]) (by simp [results, Try.results17, go_sem, *]) rfl ?_
  exact ⟨rfl, hq ▸ BX⟩

set_option maxRecDepth 8000 in
set_option maxHeartbeats 2000000 in
theorem down_any {p : Nat} {i : If} {w : World} (hp : Blk w p 23 #[.int .i64 i.self, .int .i64 i.prio, .int .i64 i.state, .int .i64 i.dr, .int .i64 i.bdr]) : Calls Try.prog 20 #[.pointer (some ⟨p, 0, none⟩)] w fun e w' => e = .returned (.agg #[.int .i64 (downI i).self, .int .i64 (downI i).prio, .int .i64 (downI i).state, .int .i64 (downI i).dr, .int .i64 (downI i).bdr]) ∧ Below w.heap.size w w' := by
  simp only [downI]
  have HP := Lib.hid hp
  clear hp
  have hlt := HP.out.lt
  have B0 := Lib.hid ((Below.refl w.heap.size w).alloc (Nat.le_refl _) (.cells #[.int .i64 0, .int .i64 0, .int .i64 0, .int .i64 0, .int .i64 0] 23))
  have R0 := Lib.hid (Blk.new w 23 #[.int .i64 0, .int .i64 0, .int .i64 0, .int .i64 0, .int .i64 0])
  have P0 := Lib.hid (HP.out.below B0.out hlt)
  obtain ⟨k0, k1, k2, k3, k4⟩ := P0.out.five
  go_enter Try.func20, Try.ntmps20
  go_wp2_with fail
  generalize hq : w.heap.size = q at *
  generalize w.alloc (.cells #[.int .i64 0, .int .i64 0, .int .i64 0, .int .i64 0, .int .i64 0] 23) = w1 at *
  have hq1 := R0.out.lt
  refine (moved_any i 0 0 0 _).mono ?_
  rintro e2 w2 ⟨rfl, hb2⟩
  clear k0 k1 k2 k3 k4
  have R2 := Lib.hid (R0.out.below hb2 hq1)
  have B2 := Lib.hid (B0.out.trans (hb2.mono (Nat.le_of_lt hq1)))
  obtain ⟨k0, k1, k2, k3, k4⟩ := R2.out.five
  obtain ⟨z0, z1, z2, z3, z4⟩ := R2.out.thaw
  have hq2 := R2.out.lt
  clear hb2 R0 B0 hq1
  go_wp2_with fail
  have KX := blk_put5 (v0 := .int .i64 i.self) (v1 := .int .i64 i.prio) (v2 := .int .i64 0) (v3 := .int .i64 0) (v4 := .int .i64 0) R2.out
  have BX := below_put5 (v0 := .int .i64 i.self) (v1 := .int .i64 i.prio) (v2 := .int .i64 0) (v3 := .int .i64 0) (v4 := .int .i64 0) B2.out (Nat.le_refl _)
  clear k0 k1 k2 k3 k4 z0 z1 z2 z3 z4
  generalize ((((w2.setCell ⟨q, 0, none⟩ (.int .i64 i.self)).setCell ⟨q, 1, none⟩ (.int .i64 i.prio)).setCell ⟨q, 2, none⟩ (.int .i64 0)).setCell ⟨q, 3, none⟩ (.int .i64 0)).setCell ⟨q, 4, none⟩ (.int .i64 0) = w3 at *
  obtain ⟨k0, k1, k2, k3, k4⟩ := KX.five
  refine bodyPost_ret (v := .agg #[.int .i64 i.self, .int .i64 i.prio, .int .i64 0, .int .i64 0, .int .i64 0]) (by simp [results, Try.results20, go_sem, *]) rfl ?_
  exact ⟨rfl, hq ▸ BX⟩
end Go.Proofs.Ytedlkoecnnmihaa
