/- The reference's First, Second and Whole. Conditions: the slice reads as bytes, at most 2^20 of them. -/
import Derived.Test.YtidncajbedgplaaFlB
namespace Go.Proofs.Ytidncajbedgplaa
open Go.RowKit

set_option maxHeartbeats 1000000 in
theorem refFirst_any (A : Option Addr) (n c B : Nat) (l : List Int) (w : World) (hr : Row .u8 w B A n l) (hby : Byt l) (hn : n ≤ 1048576) :
    Calls Try.prog 55 #[.slice A n c] w fun e w' => e = .returned (.int .i64 (ffst l % 255)) ∧ w = w' := by
  have HR := Lib.hid hr
  have HY := Lib.hid hby
  clear hr hby
  go_enter Try.func55, Try.ntmps55
  go_wp2_with fail
  go_loop [3, 4] (fun v i => ∃ (q : Nat) (f : Int), q ≤ n ∧ i = .int .i64 q ∧ v = .int .i64 f ∧ Hid (f = ffst (l.take q))) (fun _ i => n - (intOf i).toNat)
  case atStart => exact ⟨0, 0, Nat.zero_le _, rfl, rfl, Lib.hid rfl⟩
  case round =>
    obtain ⟨q, f, hq, rfl, rfl, hf⟩ := hrel
    have hlen := HR.out.1
    have hbd := ffst_bd _ (HY.out.take q)
    rw [← hf.out, List.length_take] at hbd
    have hf0 : 0 ≤ f := hbd.1
    have hf1 : f ≤ 255 * 1048576 := by omega
    clear hbd
    by_cases hlt : q < n
    · obtain ⟨b, o, rfl, hb, hc⟩ := HR.out.2 (by omega)
      have hx := hc q hlt
      have hbx := HY.out.getD q
      have hs := take_snoc l q (by omega)
      generalize l.getD q 0 = z at *
      have HS := Lib.hid (show f + z = ffst (l.take (q + 1)) by rw [hs, ffst_snoc, hf.out])
      clear hc hs hlen hf
      go_wp2
      go_round
      case rel => exact ⟨q + 1, f + z, by omega, by go_num, by go_num, HS⟩
      case measure => simp [intOf]; omega
    · have h2 := hf.out
      rw [List.take_of_length_le (by omega)] at h2
      have HF := Lib.hid h2
      clear h2 hlen hf
      go_wp2
      go_ret
      exact ⟨ret_int (by rw [HF.out]), rfl⟩

/-- What the reference has of the second sum behind the first q bytes. -/
def part2 (l : List Int) (q : Nat) : Int := fsnd (l.take q) + ((l.length : Int) - q) * ffst (l.take q)
theorem part2_succ (l : List Int) (q : Nat) (h : q < l.length) : part2 l (q + 1) = part2 l q + ((l.length : Int) - q) * l.getD q 0 := by
  unfold part2
  rw [take_snoc l q h, ffst_snoc, fsnd_snoc]
  push_cast
  grind
theorem part2_end (l : List Int) : part2 l l.length = fsnd l := by
  unfold part2
  rw [List.take_of_length_le (Nat.le_refl _), Int.sub_self, Int.zero_mul, Int.add_zero]

set_option maxHeartbeats 1000000 in
theorem refSecond_any (A : Option Addr) (n c B : Nat) (l : List Int) (w : World) (hr : Row .u8 w B A n l) (hby : Byt l) (hn : n ≤ 1048576) :
    Calls Try.prog 57 #[.slice A n c] w fun e w' => e = .returned (.int .i64 (fsnd l % 255)) ∧ w = w' := by
  have HR := Lib.hid hr
  have HY := Lib.hid hby
  clear hr hby
  go_enter Try.func57, Try.ntmps57
  go_wp2_with fail
  go_loop [3, 4] (fun v i => ∃ (q : Nat) (f : Int), q ≤ n ∧ i = .int .i64 q ∧ v = .int .i64 f ∧ 0 ≤ f ∧ f ≤ 267386880 * q ∧ Hid (f = part2 l q)) (fun _ i => n - (intOf i).toNat)
  case atStart => exact ⟨0, 0, Nat.zero_le _, rfl, rfl, by omega, by omega, Lib.hid (by unfold part2; simp [ffst, fsnd])⟩
  case round =>
    obtain ⟨q, f, hq, rfl, rfl, hf0, hf1, hf⟩ := hrel
    have hlen := HR.out.1
    by_cases hlt : q < n
    · obtain ⟨b, o, rfl, hb, hc⟩ := HR.out.2 (by omega)
      have hx := hc q hlt
      have hbx := HY.out.getD q
      have hs := part2_succ l q (by omega)
      rw [hlen, ← hf.out] at hs
      generalize l.getD q 0 = z at *
      have hp0 : 0 ≤ ((n : Int) - q) * z := Int.mul_nonneg (by omega) (by omega)
      have hp1 : ((n : Int) - q) * z ≤ 1048576 * 255 := Int.mul_le_mul (by omega) (by omega) (by omega) (by omega)
      have HS := Lib.hid hs.symm
      clear hc hs hlen hf
      go_wp2
      go_round
      case rel => exact ⟨q + 1, f + ((n : Int) - q) * z, by omega, by go_num, by go_num, by omega, by omega, HS⟩
      case measure => simp [intOf]; omega
    · obtain rfl : q = n := by omega
      have h2 := hf.out
      rw [← hlen, part2_end] at h2
      have HF := Lib.hid h2
      clear h2 hlen hf
      go_wp2
      go_ret
      exact ⟨ret_int (by rw [HF.out]), rfl⟩

set_option maxHeartbeats 1000000 in
theorem refWhole_any (A : Option Addr) (n c B : Nat) (l : List Int) (w : World) (hr : Row .u8 w B A n l) (hby : Byt l) (hn : n ≤ 1048576) :
    Calls Try.prog 42 #[.slice A n c] w fun e w' => e = .returned (.bool (wholeB l)) ∧ w = w' := by
  have HR := Lib.hid hr
  have HY := Lib.hid hby
  have hlen := hr.1
  clear hr hby
  go_enter Try.func42, Try.ntmps42
  by_cases h0 : 0 < n
  · have HW := Lib.hid (show wholeB l = (decide (ffst l % 255 = 0) && decide (fsnd l % 255 = 0)) by unfold wholeB; rw [hlen]; simp [h0])
    clear hlen
    go_wp2_with fail
    refine (refFirst_any A n c B l _ HR.out HY.out hn).mono ?_
    rintro e1 w1 ⟨rfl, rfl⟩
    generalize ffst l % 255 = x at *
    by_cases hx : x = 0
    · subst hx
      go_wp2_with fail
      refine (refSecond_any A n c B l _ HR.out HY.out hn).mono ?_
      rintro e1 w1 ⟨rfl, rfl⟩
      generalize fsnd l % 255 = y at *
      go_wp2
      go_ret
      exact ⟨by rw [HW.out]; simp; exact Bool.eq_iff_iff.2 (by simp), rfl⟩
    · have hd : (x == 0) = false := by simp; omega
      go_wp2
      go_ret
      exact ⟨by rw [HW.out]; simp [hx], rfl⟩
  · have HW := Lib.hid (show wholeB l = false from decide_eq_false (by omega))
    clear hlen
    go_wp2
    go_ret
    exact ⟨by rw [HW.out]; rfl, rfl⟩
end Go.Proofs.Ytidncajbedgplaa
