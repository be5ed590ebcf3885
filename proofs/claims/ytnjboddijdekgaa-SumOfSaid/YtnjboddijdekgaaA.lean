/- The small calls of package ipsum: even and folded. Conditions: the argument is one of its kind. -/
import Derived.Test.YtnjboddijdekgaaR
import Derived.Test.YtnjboddijdekgaaS
namespace Go.Proofs.Ytnjboddijdekgaa
open Go.RowKit

theorem even_any (n : Int) (w : World) : Calls Try.prog 14 #[.int .i64 n] w fun e w' => e = .returned (.bool (decide (n % 2 = 0))) ∧ w = w' := by
  have hd : decide (n % 2 = 0) = (Int.tmod n 2 == 0) := by
    have h1 : n.tmod 2 = 0 ↔ n % 2 = 0 := by rw [← Int.dvd_iff_tmod_eq_zero, Int.dvd_iff_emod_eq_zero]
    rw [Bool.eq_iff_iff, decide_eq_true_iff, beq_iff_eq, h1]
  rw [hd]
  go_enter Try.func14, Try.ntmps14
  go_wp2
  go_ret
  exact ⟨rfl, rfl⟩

set_option maxHeartbeats 400000 in
theorem folded_any (t : Int) (h0 : 0 ≤ t) (h1 : t < 18446744073709551616) (w : World) : Calls Try.prog 13 #[.int .u64 t] w fun e w' => e = .returned (.int .u64 (fold t)) ∧ w = w' := by
  go_enter Try.func13, Try.ntmps13
  go_wp2_with fail
  go_loop [0] (fun x => ∃ u : Int, 0 ≤ u ∧ u < 18446744073709551616 ∧ x = .int .u64 u ∧ Hid (fold u = fold t)) (fun x => (intOf x).toNat)
  case atStart => exact ⟨t, h0, h1, rfl, Lib.hid rfl⟩
  case round =>
    obtain ⟨u, hu0, hu1, rfl, hf⟩ := hrel
    by_cases hlt : 65535 < u
    · have e1 := and_mask u hu0 hu1
      have HS := Lib.hid (fold_step u hlt)
      go_wp2
      go_round
      case rel => exact ⟨u / 65536 + u % 65536, by omega, by omega, by go_num, Lib.hid (HS.out.trans hf.out)⟩
      case measure => simp [intOf]; omega
    · have e1 := fold_small u hu0 (by omega)
      have HE := Lib.hid (e1.symm.trans hf.out)
      clear e1
      go_wp2
      go_ret
      exact ⟨congrArg (fun x => Ending.returned (.int .u64 x)) HE.out, rfl⟩
end Go.Proofs.Ytnjboddijdekgaa
