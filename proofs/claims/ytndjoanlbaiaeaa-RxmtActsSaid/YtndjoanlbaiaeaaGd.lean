/- Keys of the call's own, sorted. No conditions. -/
import Derived.Test.YtndjoanlbaiaeaaGc
import Derived.Test.YtndjoanlbaiaeaaJah
import Derived.StillTailTactics
import Derived.Sort.Grow
namespace Go.Proofs.Ytndjoanlbaiaeaa
open Go.RowKit Go.Shelf Go.Lib Go.Sort

set_option maxRecDepth 20000 in
set_option maxHeartbeats 8000000 in
/-- The program's compare. -/
theorem compare7 (a b : Ky) (w : World) : Calls Try.prog 31 #[.agg #[.int .i64 a.kind, .int .i64 a.id, .int .i64 a.adv], .agg #[.int .i64 b.kind, .int .i64 b.id, .int .i64 b.adv]] w
    fun e w' => e = .returned (.int .i64 (cmpK a b)) ∧ ∃ q os', w' = grow (w.drewN q) os' := by
  obtain ⟨a0, a1, a2⟩ := Blk.three (blk_new07 w #[.int .i64 a.kind, .int .i64 a.id, .int .i64 a.adv] 34 (.cells #[.int .i64 b.kind, .int .i64 b.id, .int .i64 b.adv] 34))
  obtain ⟨b0, b1, b2⟩ := Blk.three (blk_new1 w (.cells #[.int .i64 a.kind, .int .i64 a.id, .int .i64 a.adv] 34) 34 #[.int .i64 b.kind, .int .i64 b.id, .int .i64 b.adv])
  have HG := Lib.hid (show ∃ os, (w.alloc (.cells #[.int .i64 a.kind, .int .i64 a.id, .int .i64 a.adv] 34)).alloc (.cells #[.int .i64 b.kind, .int .i64 b.id, .int .i64 b.adv] 34) = grow w os from ⟨_, by rw [alloc_eq_grow, alloc_eq_grow, grow_grow]⟩)
  have p1 := fun W => cmp7 a.kind b.kind W
  have p2 := fun W => cmp7 a.id b.id W
  have p3 := fun W => cmp7 a.adv b.adv W
  unfold cmpK
  generalize Lib.compareInt a.kind b.kind = x1 at *
  generalize Lib.compareInt a.id b.id = x2 at *
  generalize Lib.compareInt a.adv b.adv = x3 at *
  go_enter Try.func31, Try.ntmps31
  go_wp2_with fail
  generalize (w.alloc (.cells #[.int .i64 a.kind, .int .i64 a.id, .int .i64 a.adv] 34)).alloc (.cells #[.int .i64 b.kind, .int .i64 b.id, .int .i64 b.adv] 34) = w0 at *
  refine wp_region_still_tail 15 (by kernel_rfl) (by kernel_rfl) ?_
  simp only [List.take_succ_cons, List.take_zero, List.drop_succ_cons, List.drop_zero]
  repeat still_step
  still_call (p1 _)
  repeat still_step
  still_call (p2 _)
  repeat still_step
  still_call (p3 _)
  refine wpStill_nil ?_
  change wpList _ _ _ _ _ w0.drew
  obtain ⟨os, hos⟩ := HG.out
  have HW := Lib.hid (show w0.drew = grow (w.drewN 1) os by rw [hos]; rfl)
  clear HG hos a0 a1 a2 b0 b1 b2
  generalize w0.drew = w2 at *
  obtain ⟨c0, c1, c2⟩ := Blk.three (Blk.new w2 3 #[.int .i64 x1, .int .i64 x2, .int .i64 x3])
  go_wp2_with (go_at_call 34; refine (or7 x1 x2 x3 _ _ c0 c1 c2).mono ?_; rintro e w' ⟨rfl, rfl⟩)
  go_ret
  exact ⟨rfl, 1, _, by rw [HW.out, alloc_eq_grow, grow_grow]⟩
end Go.Proofs.Ytndjoanlbaiaeaa
