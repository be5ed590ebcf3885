/- Fits of one number. Conditions: an integer of 64 bits. -/
import Derived.Test.YtjinleakjkbbgaaJaa
import Derived.Test.YtjinleakjkbbgaaBb
import Derived.Test.YtjinleakjkbbgaaUk
namespace Go.Proofs.Ytjinleakjkbbgaa
open Go.RowKit

theorem hold_lo (n : Int) : 1 ≤ hold n := by unfold hold; split <;> (try split) <;> omega
theorem hold_hi (n : Int) : hold n ≤ 4 := by unfold hold; split <;> (try split) <;> omega

theorem take_snoc (l : List Int) (k : Nat) (h : k < l.length) : l.take (k + 1) = l.take k ++ [l.getD k 0] := by
  rw [List.take_succ_eq_append_getElem h, List.getD_eq_getElem?_getD, List.getElem?_eq_getElem h]; rfl
/-- Is it a number in m bytes? -/
def fitB (m : Nat) (x : Int) : Bool := decide (0 ≤ x ∧ x < 256 ^ m)
theorem fit_shift (m : Nat) (x U : Int) (h1 : 1 ≤ m) (h4 : m ≤ 4) (hU : U = x % 18446744073709551616) (hlo : -9223372036854775808 ≤ x) (hhi : x ≤ 9223372036854775807) : (U / 2 ^ (8 * m) = 0) ↔ fitB m x = true := by
  unfold fitB
  rw [decide_eq_true_iff]
  subst hU
  match m, h1, h4 with
  | 1, _, _ => simp; omega
  | 2, _, _ => simp; omega
  | 3, _, _ => simp; omega
  | 4, _, _ => simp; omega
theorem all_take_snoc (f : Int → Bool) (l : List Int) (k : Nat) (h : k < l.length) (h1 : (l.take k).all f = true) (h2 : f (l.getD k 0) = true) : (l.take (k + 1)).all f = true := by
  rw [take_snoc l k h, List.all_append, h1, List.all_cons, h2]; rfl
theorem all_false (f : Int → Bool) (l : List Int) (k : Nat) (h : k < l.length) (h2 : f (l.getD k 0) = false) : l.all f = false := by
  rw [List.all_eq_false]
  refine ⟨l.getD k 0, ?_, by rw [h2]; decide⟩
  rw [List.getD_eq_getElem?_getD, List.getElem?_eq_getElem h]
  exact List.getElem_mem h
theorem held_any (n : Int) (w : World) : Calls Try.prog 38 #[.int .i64 n] w fun e w' => e = .returned (.int .i64 (hold n)) ∧ w = w' := by
  go_enter Try.func38, Try.ntmps38
  go_wp2
  go_ret
  refine ⟨congrArg (fun x => Ending.returned (.int .i64 x)) (show min (max n 1) 4 = hold n from ?_), rfl⟩
  unfold hold
  split
  · omega
  · split <;> omega

set_option maxRecDepth 4000 in
set_option maxHeartbeats 400000 in
theorem fits_any (A2 : Option Addr) (k c2 B2 : Nat) (wd : Int) (zs : List Int) (w : World) (hr2 : Row .i64 w B2 A2 k zs) (h64 : I64 zs) (hk : k ≤ 100000) :
    Calls Try.prog 26 #[.int .i64 wd, .slice A2 k c2] w fun x w' => x = .returned (.bool (zs.all (fitB (hold wd).toNat))) ∧ w = w' := by
  have hh1 := hold_lo wd
  have hh4 := hold_hi wd
  obtain ⟨m, hm⟩ := Int.eq_ofNat_of_zero_le (a := hold wd) (by omega)
  have hm1 : 1 ≤ m := by omega
  have hm4 : m ≤ 4 := by omega
  have HM := Lib.hid hm
  rw [hm, Int.toNat_natCast]
  clear hm hh1 hh4
  have HR2 := Lib.hid hr2
  have H64 := Lib.hid h64
  clear hr2 h64
  go_enter Try.func26, Try.ntmps26
  go_wp2_with fail
  refine (held_any _ _).mono ?_
  rintro e1 w1 ⟨rfl, rfl⟩
  rw [HM.out]
  go_wp2_with fail
  go_loop [13] (fun i => ∃ q : Nat, q ≤ k ∧ i = .int .i64 q ∧ Hid ((zs.take q).all (fitB m) = true)) (fun i => k - (intOf i).toNat)
  case atStart => exact ⟨0, Nat.zero_le _, rfl, Lib.hid rfl⟩
  case round =>
    obtain ⟨q, hq, rfl, hall⟩ := hrel
    by_cases hlt : q < k
    · obtain ⟨b, o, rfl, hb, hc⟩ := HR2.out.2 (by omega)
      have hcx := hc q hlt
      clear hc
      have hf := fit_shift m (zs.getD q 0) (IntKind.u64.wrap (zs.getD q 0)) hm1 hm4 (by rw [IntKind.wrap_u64]) (H64.out.getD q).1 (H64.out.getD q).2
      have HX : Hid (zs.getD q 0 = zs.getD q 0) := rfl
      generalize hx : zs.getD q 0 = x at hcx hf
      have HX2 := Lib.hid hx
      clear HX hx
      by_cases hfit : fitB m x = true
      · have h0 := hf.2 hfit
        have HF := Lib.hid hfit
        have h1 : (IntKind.u64.wrap x / 2 ^ (8 * m) != 0) = false := by simp [h0]
        clear hf hfit h0
        go_wp2
        go_round
        case rel => exact ⟨q + 1, by omega, by go_num, Lib.hid (all_take_snoc _ _ _ (by rw [HR2.out.1]; exact hlt) hall.out (by rw [HX2.out]; exact HF.out))⟩
        case measure => simp [intOf]; omega
      · have h0 : ¬ (IntKind.u64.wrap x / 2 ^ (8 * m) = 0) := fun h => hfit (hf.1 h)
        have h1 : (IntKind.u64.wrap x / 2 ^ (8 * m) != 0) = true := by simp [h0]
        have HF := Lib.hid hfit
        clear hf hfit h0
        go_wp2
        go_ret
        exact ⟨ret_bool (all_false _ _ q (by rw [HR2.out.1]; exact hlt) (by rw [HX2.out]; simpa using HF.out)).symm, rfl⟩
    · go_wp2
      go_ret
      have h1 := hall.out
      rw [List.take_of_length_le (by rw [HR2.out.1]; omega)] at h1
      exact ⟨ret_bool h1.symm, rfl⟩
theorem fit_okSeq (q : Int) : fitB 4 q = okSeq q := by
  unfold fitB okSeq
  rw [show ((256 : Int) ^ 4) = 4294967296 by decide]
  by_cases h1 : 0 ≤ q <;> by_cases h2 : q < 4294967296 <;> simp [h1, h2]
/-- Fits of one number that was laid out for it. -/
theorem fits_one (x : Int) (W : World) (z : Nat) (hz : W.heap.size = z) (h0 : -9223372036854775808 ≤ x) (h1 : x ≤ 9223372036854775807) :
    Calls Try.prog 26 #[.int .i64 4, .slice (some ⟨z, 0, none⟩) 1 1] (W.alloc (.cells #[.int .i64 x] 3)) fun e w' => e = .returned (.bool (okSeq x)) ∧ w' = W.alloc (.cells #[.int .i64 x] 3) := by
  have hB : Blk (W.alloc (.cells #[.int .i64 x] 3)) z 3 #[.int .i64 x] := hz ▸ Blk.new W _ _
  have hR : Row .i64 (W.alloc (.cells #[.int .i64 x] 3)) (z + 1) (some ⟨z, 0, none⟩) 1 [x] := ⟨rfl, fun _ => ⟨z, 0, rfl, by omega, fun i hi => by
    obtain rfl : i = 0 := by omega
    exact hB.cell 0⟩⟩
  refine (fits_any (some ⟨z, 0, none⟩) 1 1 (z + 1) 4 [x] _ hR (fun y hy => by simp at hy; subst hy; exact ⟨h0, h1⟩) (by omega)).mono ?_
  rintro e w' ⟨rfl, rfl⟩
  refine ⟨?_, rfl⟩
  rw [← fit_okSeq]
  simp [hold]
end Go.Proofs.Ytjinleakjkbbgaa
