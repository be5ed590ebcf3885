/- The small calls of package fletch: left and held, and what float64 and complex128 do with whole numbers. Conditions: the numbers are below 2^53. -/
import Derived.Test.YtidncajbedgplaaR
import Derived.Test.YtidncajbedgplaaFlF
import Derived.Test.YtidncajbedgplaaFlS
namespace Go.Proofs.Ytidncajbedgplaa
open Go.RowKit

theorem run_int_flo (n : Nat) (h : n < 9007199254740992) (W : World) : (convert 85 3 (.float .f64 (flo n))).run Try.prog W = .ok (.int .i64 n) W :=
  run_convert_float_int W 85 3 .f64 .i64 (flo n) n (by rw [Try.underlying85]; rfl) Try.underlying3 (int_flo n (by omega))
theorem run_add_fst (x y z : Nat) (h : x + y + z < 9007199254740992) (W : World) : (binOp .add 75 (.complex .f64 (flo x) (flo y)) (.complex .f64 (floatOfInt .f64 (z : Int)) 0)).run Try.prog W = .ok (.complex .f64 (flo (x + z)) (flo y)) W := by
  refine run_complex_sum W .add (.inl rfl) 75 .f64 _ _ _ _ _ _ ?_
  have h1 := add_flo x z (by omega)
  have h2 := add_flo y 0 (by omega)
  rw [flo_zero] at h2
  unfold cSumBits
  show Option.bind (floatBits .add .f64 (flo x) (flo z)) _ = _
  rw [h1, h2]
  rfl
theorem run_add_snd (x y z : Nat) (h : x + y + z < 9007199254740992) (W : World) : (binOp .add 75 (.complex .f64 (flo x) (flo y)) (.complex .f64 0 (flo z))).run Try.prog W = .ok (.complex .f64 (flo x) (flo (y + z))) W := by
  refine run_complex_sum W .add (.inl rfl) 75 .f64 _ _ _ _ _ _ ?_
  have h1 := add_flo x 0 (by omega)
  have h2 := add_flo y z (by omega)
  rw [flo_zero] at h1
  unfold cSumBits
  rw [h1, h2]
  rfl

theorem left_eq (n : Int) : (wrap64 (n.tmod 255 + 255)).tmod 255 = n % 255 := by
  have h1 : -255 < n.tmod 255 ∧ n.tmod 255 < 255 := ⟨by have := Int.lt_tmod_of_pos n (b := 255) (by omega); omega, Int.tmod_lt_of_pos n (by omega)⟩
  have h2 : n = 255 * (n.tdiv 255) + n.tmod 255 := (Int.mul_tdiv_add_tmod n 255).symm
  have h3 : wrap64 (n.tmod 255 + 255) = n.tmod 255 + 255 := by unfold wrap64; omega
  rw [h3, Int.tmod_eq_emod_of_nonneg (by omega)]
  omega
theorem fleft_any (n : Int) (w : World) : Calls Try.prog 64 #[.int .i64 n] w fun e w' => e = .returned (.int .i64 (n % 255)) ∧ w = w' := by
  go_enter Try.func64, Try.ntmps64
  go_wp2
  go_ret
  exact ⟨ret_int (left_eq n), rfl⟩

theorem fheld_any (n : Nat) (h : n < 9007199254740992) (w : World) : Calls Try.prog 61 #[.float .f64 (flo n)] w fun e w' => e = .returned (.float .f64 (flo (n % 255))) ∧ w = w' := by
  have hcv := run_int_flo n h
  go_enter Try.func61, Try.ntmps61
  go_wp2_with fail
  refine (fleft_any n _).mono ?_
  rintro e1 w1 ⟨rfl, rfl⟩
  obtain ⟨m, hm⟩ : ∃ m : Nat, m = n % 255 := ⟨_, rfl⟩
  have e : (n : Int) % 255 = (m : Int) := by omega
  have HM := Lib.hid hm
  rw [e]
  clear e hm
  go_wp2
  go_ret
  exact ⟨by rw [← HM.out]; rfl, rfl⟩
end Go.Proofs.Ytidncajbedgplaa
