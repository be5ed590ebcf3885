/- The example that each statement on order asks first, whether ages may be, and the best of many heads. Conditions: the slice reads as heads. -/
import Derived.Test.YtfeomijblgaocaaOb
namespace Go.Proofs.Ytfeomijblgaocaa
open Go.RowKit

/-- The example's heads. -/
def exA : Hd := ⟨60, 0, 0, 0, 2, 0, 0⟩
def exB : Hd := ⟨0, 0, 0, 0, 1, 0, 0⟩
def exC : Hd := ⟨0, 0, 0, 0, 2, 0, 0⟩
set_option maxRecDepth 8000 in
set_option maxHeartbeats 4000000 in
theorem wakes_any (w : World) : Calls Try.prog 7 #[] w fun x w' => x = .returned (.bool true) ∧ Below w.heap.size w w' := by
  go_enter Try.func7, Try.ntmps7
  go_wp2_with fail
  refine (newer_any exA exB _ rfl rfl).mono ?_
  rintro e1 w1 ⟨rfl, hb1⟩
  rw [show nw exA exB = 1 from rfl]
  have B1 := Lib.hid hb1
  clear hb1
  go_wp2_with fail
  refine (newer_any exB exC _ rfl rfl).mono ?_
  rintro e2 w2 ⟨rfl, hb2⟩
  rw [show nw exB exC = -1 from rfl]
  have B2 := Lib.hid (B1.out.trans (hb2.mono B1.out.size))
  clear hb2 B1
  go_wp2
  go_ret
  exact ⟨rfl, B2.out⟩

set_option maxRecDepth 8000 in
set_option maxHeartbeats 4000000 in
theorem may_any (A : Option Addr) (n c : Nat) (L : List Hd) (B : Nat) (w : World) (h : Hds w B A n L) (hB : B ≤ w.heap.size) (hn : n ≤ maxLen) :
    Calls Try.prog 8 #[.slice A n c] w fun e w' => e = .returned (.bool (L.all ageB)) ∧ Below w.heap.size w w' := by
  generalize hv : L.all ageB = v
  have HV := Lib.hid hv
  have HP := Lib.hid h
  unfold maxLen at hn
  clear h hv
  go_enter Try.func8, Try.ntmps8
  go_wp2_with fail
  go_loopw [7] (fun i wr => ∃ k : Nat, k ≤ n ∧ i = .int .i64 k ∧ (L.take k).all ageB = true ∧ Hid (Below w.heap.size w wr)) (fun i _ => n - (intOf i).toNat)
  case atStart => exact ⟨0, Nat.zero_le _, rfl, rfl, Lib.hid (Below.refl _ _)⟩
  case round =>
    obtain ⟨k, hk, rfl, hall, hb⟩ := hrel
    have hsz := hb.out.size
    have HA := Lib.hid hall
    clear hall
    by_cases hlt : k < n
    · obtain ⟨b, o, x, rfl, hbb, hx, hat⟩ := Arr.at (HP.out.below (hb.out.mono hB)) hlt
      obtain ⟨k0, k1, k2, k3, k4, k5, k6⟩ := hat
      have HX := Lib.hid hx
      clear hx
      have hlt' : (k : Int) < n := by omega
      have BN := Lib.hid (hb.out.alloc hsz (.cells #[.int .i64 x.age, .int .i64 x.kind, .int .i64 x.id, .int .i64 x.adv, .int .i64 x.seq, .int .i64 x.sum, .int .i64 x.long] 23))
      by_cases h1 : x.age < 0
      · obtain rfl : v = false := by
          rw [← HV.out, List.all_eq_false]
          exact ⟨x, List.mem_of_getElem? HX.out, by rw [ageB_iff]; omega⟩
        go_wp2
        go_ret
        exact ⟨rfl, BN.out⟩
      · have d1 : decide (x.age < 0) = false := by simpa using h1
        by_cases h2 : 60 < x.age
        · obtain rfl : v = false := by
            rw [← HV.out, List.all_eq_false]
            exact ⟨x, List.mem_of_getElem? HX.out, by rw [ageB_iff]; omega⟩
          have d2 : decide (60 < x.age) = true := by simpa using h2
          go_wp2
          go_ret
          exact ⟨rfl, BN.out⟩
        · have d2 : decide (60 < x.age) = false := by simpa using h2
          have HN := Lib.hid (show (L.take (k + 1)).all ageB = true by
            have e : L[k]'((List.getElem?_eq_some_iff.1 HX.out).1) = x := (List.getElem?_eq_some_iff.1 HX.out).2
            rw [List.take_succ_eq_append_getElem (List.getElem?_eq_some_iff.1 HX.out).1, List.all_append, HA.out, e]
            have : ageB x = true := by rw [ageB_iff]; omega
            simp [this])
          go_wp2
          go_roundw
          case rel => exact ⟨k + 1, by omega, by go_num, HN.out, BN⟩
          case measure => simp [intOf]; omega
    · obtain rfl : v = true := by
        have := HA.out
        rw [List.take_of_length_le (by rw [HP.out.1]; omega)] at this
        rw [← HV.out, this]
      go_wp2
      go_ret
      exact ⟨rfl, hb.out⟩
end Go.Proofs.Ytfeomijblgaocaa
