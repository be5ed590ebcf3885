/- The call Fits, and the example that each statement asks first. Conditions: what is handed in reads as integers of 64 bits, at most 100000 of them. -/
import Derived.Test.YtcapjkaekmjkaaaG
namespace Go.Proofs.Ytcapjkaekmjkaaa
open Go.RowKit

/-- Each is an integer of 64 bits. -/
def I64 (l : List Int) : Prop := ∀ x ∈ l, -9223372036854775808 ≤ x ∧ x ≤ 9223372036854775807
theorem I64.getD {l : List Int} (h : I64 l) (k : Nat) : -9223372036854775808 ≤ l.getD k 0 ∧ l.getD k 0 ≤ 9223372036854775807 := by
  rw [List.getD_eq_getElem?_getD]
  cases hk : l[k]? with
  | none => simp
  | some x => exact h x (List.mem_of_getElem? hk)
theorem ret_bool {a b : Bool} (h : a = b) : Ending.returned (.bool a) = .returned (.bool b) := by rw [h]

set_option maxHeartbeats 400000 in
theorem fits_any (A2 : Option Addr) (k c2 B2 : Nat) (wd : Int) (zs : List Int) (w : World) (hr2 : Row .i64 w B2 A2 k zs) (h64 : I64 zs) (hk : k ≤ 100000) :
    Calls Try.prog 12 #[.int .i64 wd, .slice A2 k c2] w fun x w' => x = .returned (.bool (zs.all (fitB (hold wd).toNat))) ∧ w = w' := by
  have hh1 := hold_lo wd
  have hh4 := hold_hi wd
  obtain ⟨m, hm⟩ := Int.eq_ofNat_of_zero_le (a := hold wd) (by omega)
  have hm1 : 1 ≤ m := by omega
  have hm4 : m ≤ 4 := by omega
  have HM := Lib.hid hm
  rw [hm, Int.toNat_natCast]
  clear hm hh1 hh4
  have HR2 := Lib.hid hr2
  have H64 := Lib.hid h64
  clear hr2 h64
  go_enter Try.func12, Try.ntmps12
  go_wp2_with fail
  refine (held_any _ _).mono ?_
  rintro e1 w1 ⟨rfl, rfl⟩
  rw [HM.out]
  go_wp2_with fail
  go_loop [13] (fun i => ∃ q : Nat, q ≤ k ∧ i = .int .i64 q ∧ Hid ((zs.take q).all (fitB m) = true)) (fun i => k - (intOf i).toNat)
  case atStart => exact ⟨0, Nat.zero_le _, rfl, Lib.hid rfl⟩
  case round =>
    obtain ⟨q, hq, rfl, hall⟩ := hrel
    by_cases hlt : q < k
    · obtain ⟨b, o, rfl, hb, hc⟩ := HR2.out.2 (by omega)
      have hcx := hc q hlt
      clear hc
      have hf := fit_shift m (zs.getD q 0) (IntKind.u64.wrap (zs.getD q 0)) hm1 hm4 (by rw [IntKind.wrap_u64]) (H64.out.getD q).1 (H64.out.getD q).2
      have HX : Hid (zs.getD q 0 = zs.getD q 0) := rfl
      generalize hx : zs.getD q 0 = x at hcx hf
      have HX2 := Lib.hid hx
      clear HX hx
      by_cases hfit : fitB m x = true
      · have h0 := hf.2 hfit
        have HF := Lib.hid hfit
        have h1 : (IntKind.u64.wrap x / 2 ^ (8 * m) != 0) = false := by simp [h0]
        clear hf hfit h0
        go_wp2
        go_round
        case rel => exact ⟨q + 1, by omega, by go_num, Lib.hid (all_take_snoc _ _ _ (by rw [HR2.out.1]; exact hlt) hall.out (by rw [HX2.out]; exact HF.out))⟩
        case measure => simp [intOf]; omega
      · have h0 : ¬ (IntKind.u64.wrap x / 2 ^ (8 * m) = 0) := fun h => hfit (hf.1 h)
        have h1 : (IntKind.u64.wrap x / 2 ^ (8 * m) != 0) = true := by simp [h0]
        have HF := Lib.hid hfit
        clear hf hfit h0
        go_wp2
        go_ret
        exact ⟨ret_bool (all_false _ _ q (by rw [HR2.out.1]; exact hlt) (by rw [HX2.out]; simpa using HF.out)).symm, rfl⟩
    · go_wp2
      go_ret
      have h1 := hall.out
      rw [List.take_of_length_le (by rw [HR2.out.1]; omega)] at h1
      exact ⟨ret_bool h1.symm, rfl⟩

set_option maxHeartbeats 400000 in
theorem wakes_any (w : World) : Calls Try.prog 7 #[] w fun x w' => x = .returned (.bool true) ∧ Below w.heap.size w w' := by
  go_enter Try.func7, Try.ntmps7
  go_wp2_with fail
  refine (put_any none (some ⟨w.heap.size, 0, none⟩) 0 0 1 1 0 (w.heap.size + 1) 2 [] [258] _ Row.nil ?r1 (by simp) (by simp) (by omega) (by omega)).mono ?_
  case r1 =>
    refine ⟨rfl, fun _ => ⟨_, _, rfl, by omega, fun j hj => ?_⟩⟩
    obtain rfl : j = 0 := by omega
    simp
  rintro e1 w1 ⟨A, c, rfl, hc1, hc2, hrow, hbel⟩
  have el : ([] : List Int) ++ encs (hold 2).toNat [258] = [1, 2] := by decide
  rw [el] at hc1 hrow ⊢
  have HR := Lib.hid hrow
  have HB := Lib.hid hbel
  clear hrow hbel el
  simp only [List.length_cons, List.length_nil] at *
  go_wp2_with fail
  refine (same_yes A (some ⟨w1.heap.size, 0, none⟩) 2 c 2 w1.heap.size (w1.heap.size + 1) [1, 2] _ (HR.out.alloc (Nat.le_refl _) _) ?r2 (by unfold maxLen; omega)).mono ?_
  case r2 =>
    refine ⟨rfl, fun _ => ⟨_, _, rfl, by omega, fun j hj => ?_⟩⟩
    match j, hj with
    | 0, _ => simp
    | 1, _ => simp
  rintro e2 w2 ⟨rfl, d, rfl⟩
  go_wp2
  go_ret
  have h1 := ((Below.refl w.heap.size w).alloc (Nat.le_refl _) (.cells #[.int .i64 258] 3)).trans (HB.out.mono (by simp))
  have h2 := h1.alloc h1.size (.cells #[.int .u8 1, .int .u8 2] 5)
  exact ⟨rfl, h2.os, h2.tape, h2.output, h2.size, h2.block⟩
end Go.Proofs.Ytcapjkaekmjkaaa
