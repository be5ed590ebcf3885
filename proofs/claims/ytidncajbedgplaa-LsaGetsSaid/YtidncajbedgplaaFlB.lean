/- The calls both, lacking, Sums and Whole of package fletch. Conditions: the slice reads as bytes. -/
import Derived.Test.YtidncajbedgplaaFlA
namespace Go.Proofs.Ytidncajbedgplaa
open Go.RowKit

set_option maxHeartbeats 1000000 in
theorem both_any (A : Option Addr) (n c B : Nat) (l : List Int) (w : World) (hr : Row .u8 w B A n l) (hby : Byt l) (hn : n ≤ maxLen) (x0 y0 : Nat) (ht : Two l x0 y0) :
    Calls Try.prog 51 #[.slice A n c] w fun e w' => e = .returned (.complex .f64 (flo x0) (flo y0)) ∧ w = w' := by
  unfold maxLen at hn
  have HR := Lib.hid hr
  have HY := Lib.hid hby
  have HT := Lib.hid ht
  clear hr hby ht
  go_enter Try.func51, Try.ntmps51
  go_wp2_with fail
  go_loop [3, 8] (fun s i => ∃ q x y : Nat, q ≤ n ∧ i = .int .i64 q ∧ s = .complex .f64 (flo x) (flo y) ∧ Hid (Two (l.take q) x y)) (fun _ i => n - (intOf i).toNat)
  case atStart => exact ⟨0, 0, 0, Nat.zero_le _, rfl, by rw [flo_zero], Lib.hid Two.nil⟩
  case round =>
    obtain ⟨q, x, y, hq, rfl, rfl, hacc⟩ := hrel
    have hlen := HR.out.1
    by_cases hlt : q < n
    · obtain ⟨b, o, rfl, hb, hc⟩ := HR.out.2 (by omega)
      have hx := hc q hlt
      have hbx := HY.out.getD q
      have hs := take_snoc l q (by omega)
      obtain ⟨z, hz⟩ := Int.eq_ofNat_of_zero_le hbx.1
      rw [hz] at hx hbx hs
      have hlo := hacc.out.lt
      have hnx := hacc.out.snoc z
      rw [← hs] at hnx
      have HN := Lib.hid hnx
      have ha1 := run_add_fst x y z (by omega)
      have ha2 := run_add_snd (x + z) y (x + z) (by omega)
      clear hc hs hnx hz hlen hacc
      go_wp2_with fail
      refine (fheld_any (x + z) (by omega) _).mono ?_
      rintro e1 w1 ⟨rfl, rfl⟩
      go_wp2_with fail
      refine (fheld_any (y + (x + z)) (by omega) _).mono ?_
      rintro e1 w1 ⟨rfl, rfl⟩
      clear ha1 ha2
      generalize (x + z) % 255 = x1 at *
      generalize (y + (x + z)) % 255 = y1 at *
      go_wp2
      go_round
      case rel => exact ⟨q + 1, x1, y1, by omega, by go_num, rfl, HN⟩
      case measure => simp [intOf]; omega
    · obtain rfl : q = n := by omega
      have ha := hacc.out
      rw [List.take_of_length_le (by omega)] at ha
      obtain ⟨rfl, rfl⟩ := ha.unique HT.out
      clear ha hlen
      go_wp2
      go_ret
      exact ⟨rfl, rfl⟩

set_option maxHeartbeats 1000000 in
theorem whole_any (A : Option Addr) (n c B : Nat) (l : List Int) (w : World) (hr : Row .u8 w B A n l) (hby : Byt l) (hn : n ≤ maxLen) :
    Calls Try.prog 36 #[.slice A n c] w fun e w' => e = .returned (.bool (wholeB l)) ∧ w = w' := by
  obtain ⟨x, y, ht⟩ := two_of l
  have HT := Lib.hid ht
  have HR := Lib.hid hr
  have HY := Lib.hid hby
  have HN := Lib.hid hn
  have hlt := ht.lt
  have hlen := hr.1
  unfold maxLen at hn
  clear hr hby ht
  go_enter Try.func36, Try.ntmps36
  by_cases h0 : 0 < n
  · have HW := Lib.hid (HT.out.whole (by omega))
    have ex := eq_flo x (by omega)
    have ey := eq_flo y (by omega)
    go_wp2_with fail
    refine (both_any A n c B l _ HR.out HY.out HN.out x y HT.out).mono ?_
    rintro e1 w1 ⟨rfl, rfl⟩
    go_wp2
    go_ret
    exact ⟨by rw [HW.out]; rfl, rfl⟩
  · have HW := Lib.hid (show wholeB l = false from decide_eq_false (by omega))
    clear hlen
    go_wp2
    go_ret
    exact ⟨by rw [HW.out]; rfl, rfl⟩

set_option maxHeartbeats 1000000 in
theorem lacking_any (x y : Nat) (s X Y : Int) (hx : x < 255) (hy : y < 255) (h0 : 0 ≤ s) (h1 : s ≤ 9223372036854775807) (hX : X = lackX x y s) (hY : Y = lackY x X) (w : World) :
    Calls Try.prog 59 #[.complex .f64 (flo x) (flo y), .int .i64 s] w fun e w' => e = .returned (.tuple #[.int .u8 X, .int .u8 Y]) ∧ w = w' := by
  have cx := run_int_flo x (by omega)
  have cy := run_int_flo y (by omega)
  have hp0 : 0 ≤ s % 255 * (x : Int) := Int.mul_nonneg (by omega) (by omega)
  have hp1 : s % 255 * (x : Int) ≤ 254 * 254 := Int.mul_le_mul (by omega) (by omega) (by omega) (by omega)
  have hbx := lackX_bd x y s
  rw [← hX] at hbx
  have hby := lackY_bd x X
  rw [← hY] at hby
  have HX := Lib.hid (show (s % 255 * x - y) % 255 = X from hX.symm)
  have HY := Lib.hid (show (-(x : Int) - X) % 255 = Y from hY.symm)
  clear hX hY
  go_enter Try.func59, Try.ntmps59
  go_wp2_with fail
  refine (fleft_any _ _).mono ?_
  rintro e1 w1 ⟨rfl, rfl⟩
  rw [HX.out]
  clear cx cy hp0 hp1
  go_wp2_with fail
  refine (fleft_any _ _).mono ?_
  rintro e1 w1 ⟨rfl, rfl⟩
  rw [HY.out]
  go_wp2
  go_ret2
  exact ⟨rfl, rfl⟩
end Go.Proofs.Ytidncajbedgplaa
