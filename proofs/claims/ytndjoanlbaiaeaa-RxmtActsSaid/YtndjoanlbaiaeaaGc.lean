/- The order of keys, as the program's compare tells it. No conditions but that a list of three numbers is what Or is handed. -/
import Derived.Test.YtndjoanlbaiaeaaJah
import Derived.Test.YtndjoanlbaiaeaaSh
namespace Go.Proofs.Ytndjoanlbaiaeaa
open Go.RowKit Go.Shelf Go.Lib

theorem cmp7 (x y : Int) (w : World) : Calls Try.prog 35 #[.int .i64 x, .int .i64 y] w fun e w' => e = .returned (.int .i64 (Lib.compareInt x y)) ∧ w' = w :=
  AnyG.cmp_Compare_int cmpInt7 x y w
/-- The first number but 0. -/
def orI (a b : Int) : Int := if a = 0 then b else a
set_option maxHeartbeats 2000000 in
theorem or7 (c1 c2 c3 : Int) (g : Nat) (w : World) (h0 : w.cell? ⟨g, 0, none⟩ = some (.int .i64 c1)) (h1 : w.cell? ⟨g, 1, none⟩ = some (.int .i64 c2)) (h2 : w.cell? ⟨g, 2, none⟩ = some (.int .i64 c3)) :
    Calls Try.prog 34 #[.slice (some ⟨g, 0, none⟩) 3 3] w fun e w' => e = .returned (.int .i64 (orI c1 (orI c2 c3))) ∧ w' = w := by
  go_enter Try.func34, Try.ntmps34
  go_wp2
  refine wp_loop_rounds 4 ?_
  rw [rounds_succ]
  by_cases e1 : c1 = 0
  · subst e1
    go_wp2
    rw [rounds_succ]
    by_cases e2 : c2 = 0
    · subst e2
      go_wp2
      rw [rounds_succ]
      by_cases e3 : c3 = 0
      · subst e3
        go_wp2
        rw [rounds_succ]
        go_wp2
        go_ret
        exact ⟨rfl, rfl⟩
      · have e4 : (c3 == 0) = false := by simpa using e3
        go_wp2
        go_ret
        simp [orI]
    · have e4 : (c2 == 0) = false := by simpa using e2
      go_wp2
      go_ret
      simp [orI, e2]
  · have e4 : (c1 == 0) = false := by simpa using e1
    go_wp2
    go_ret
    simp [orI, e1]
/-- The order of keys. -/
def cmpK (a b : Ky) : Int := orI (Lib.compareInt a.kind b.kind) (orI (Lib.compareInt a.id b.id) (Lib.compareInt a.adv b.adv))
theorem compareInt_cases (x y : Int) : (x < y ∧ Lib.compareInt x y = -1) ∨ (x = y ∧ Lib.compareInt x y = 0) ∨ (y < x ∧ Lib.compareInt x y = 1) := by
  unfold Lib.compareInt
  by_cases h1 : x < y
  · simp [h1]
  · by_cases h2 : y < x
    · simp [h1, h2]
    · have : x = y := by omega
      subst this
      simp
theorem cmpK_less (a b : Ky) : decide (cmpK a b < 0) = lessKy a b := by
  have h := lessKy_iff a b
  have : cmpK a b < 0 ↔ lessKy a b = true := by
    rw [h]
    unfold cmpK orI
    rcases compareInt_cases a.kind b.kind with ⟨k1, k2⟩ | ⟨k1, k2⟩ | ⟨k1, k2⟩ <;> rw [k2] <;>
    rcases compareInt_cases a.id b.id with ⟨i1, i2⟩ | ⟨i1, i2⟩ | ⟨i1, i2⟩ <;> rw [i2] <;>
    rcases compareInt_cases a.adv b.adv with ⟨d1, d2⟩ | ⟨d1, d2⟩ | ⟨d1, d2⟩ <;> rw [d2] <;> simp <;> omega
  cases hl : lessKy a b
  · rw [decide_eq_false_iff_not, this, hl]
    decide
  · rw [decide_eq_true_iff, this, hl]
end Go.Proofs.Ytndjoanlbaiaeaa
