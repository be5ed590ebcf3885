/- The small calls of package lsa and of the reference that ask for bounds: within, mayBe, rightLink; in, Head. No conditions. -/
import Derived.Test.YtidncajbedgplaaR
import Derived.Test.YtidncajbedgplaaLsP
namespace Go.Proofs.Ytidncajbedgplaa
open Go.RowKit

theorem within_any (n a b : Int) (w : World) : Calls Try.prog 47 #[.int .i64 n, .int .i64 a, .int .i64 b] w fun e w' => e = .returned (.bool (inB n a b)) ∧ w = w' := by
  by_cases h : a ≤ n
  · have HI := Lib.hid (show inB n a b = decide (n ≤ b) by simp [inB, h])
    go_enter Try.func47, Try.ntmps47
    go_wp2
    go_ret
    exact ⟨ret_bool HI.out.symm, rfl⟩
  · have HI := Lib.hid (show inB n a b = false by simp [inB, h])
    have hd : decide (a ≤ n) = false := by simpa using h
    go_enter Try.func47, Try.ntmps47
    go_wp2
    go_ret
    exact ⟨ret_bool HI.out.symm, rfl⟩

theorem refIn_any (n a b : Int) (w : World) : Calls Try.prog 26 #[.int .i64 n, .int .i64 a, .int .i64 b] w fun e w' => e = .returned (.bool (inB n a b)) ∧ w = w' := by
  by_cases h : a ≤ n
  · have HI := Lib.hid (show inB n a b = decide (n ≤ b) by simp [inB, h])
    go_enter Try.func26, Try.ntmps26
    go_wp2
    go_ret
    exact ⟨ret_bool HI.out.symm, rfl⟩
  · have HI := Lib.hid (show inB n a b = false by simp [inB, h])
    have hd : decide (a ≤ n) = false := by simpa using h
    go_enter Try.func26, Try.ntmps26
    go_wp2
    go_ret
    exact ⟨ret_bool HI.out.symm, rfl⟩

set_option maxHeartbeats 1000000 in
theorem mayBe_any (h : Hd) (w : World) : Calls Try.prog 27 #[.agg #[.int .i64 h.age, .int .i64 h.kind, .int .i64 h.id, .int .i64 h.adv, .int .i64 h.seq, .int .i64 h.sum, .int .i64 h.long]] w
    fun e w' => e = .returned (.bool (headB h)) ∧ Below w.heap.size w w' := by
  go_enter Try.func27, Try.ntmps27
  go_wp2_with fail
  refine (within_any _ _ _ _).mono ?_
  rintro e1 w1 ⟨rfl, rfl⟩
  cases h1 : inB h.age 0 60
  · go_wp2
    go_ret
    exact ⟨ret_bool (by simp [headB, *]), (Below.refl _ _).alloc (Nat.le_refl _) _⟩
  · skip
    go_wp2_with fail
    refine (within_any _ _ _ _).mono ?_
    rintro e1 w1 ⟨rfl, rfl⟩
    cases h2 : inB h.kind 1 2
    · go_wp2
      go_ret
      exact ⟨ret_bool (by simp [headB, *]), (Below.refl _ _).alloc (Nat.le_refl _) _⟩
    · skip
      go_wp2_with fail
      refine (within_any _ _ _ _).mono ?_
      rintro e1 w1 ⟨rfl, rfl⟩
      cases h3 : inB h.adv 1 15
      · go_wp2
        go_ret
        exact ⟨ret_bool (by simp [headB, *]), (Below.refl _ _).alloc (Nat.le_refl _) _⟩
      · skip
        go_wp2_with fail
        refine (within_any _ _ _ _).mono ?_
        rintro e1 w1 ⟨rfl, rfl⟩
        go_wp2
        go_ret
        exact ⟨ret_bool (by simp [headB, *]), (Below.refl _ _).alloc (Nat.le_refl _) _⟩

set_option maxHeartbeats 1000000 in
theorem refHead_any (h : Hd) (w : World) : Calls Try.prog 24 #[.agg #[.int .i64 h.age, .int .i64 h.kind, .int .i64 h.id, .int .i64 h.adv, .int .i64 h.seq, .int .i64 h.sum, .int .i64 h.long]] w
    fun e w' => e = .returned (.bool (headB h)) ∧ Below w.heap.size w w' := by
  go_enter Try.func24, Try.ntmps24
  go_wp2_with fail
  refine (refIn_any _ _ _ _).mono ?_
  rintro e1 w1 ⟨rfl, rfl⟩
  cases h1 : inB h.age 0 60
  · go_wp2
    go_ret
    exact ⟨ret_bool (by simp [headB, *]), (Below.refl _ _).alloc (Nat.le_refl _) _⟩
  · skip
    go_wp2_with fail
    refine (refIn_any _ _ _ _).mono ?_
    rintro e1 w1 ⟨rfl, rfl⟩
    cases h2 : inB h.kind 1 2
    · go_wp2
      go_ret
      exact ⟨ret_bool (by simp [headB, *]), (Below.refl _ _).alloc (Nat.le_refl _) _⟩
    · skip
      go_wp2_with fail
      refine (refIn_any _ _ _ _).mono ?_
      rintro e1 w1 ⟨rfl, rfl⟩
      cases h3 : inB h.adv 1 15
      · go_wp2
        go_ret
        exact ⟨ret_bool (by simp [headB, *]), (Below.refl _ _).alloc (Nat.le_refl _) _⟩
      · skip
        go_wp2_with fail
        refine (refIn_any _ _ _ _).mono ?_
        rintro e1 w1 ⟨rfl, rfl⟩
        go_wp2
        go_ret
        exact ⟨ret_bool (by simp [headB, *]), (Below.refl _ _).alloc (Nat.le_refl _) _⟩

set_option maxHeartbeats 1000000 in
theorem rightLink_any (k : Lk) (w : World) : Calls Try.prog 48 #[.agg #[.int .i64 k.kind, .int .i64 k.id, .int .i64 k.data, .int .i64 k.cost]] w
    fun e w' => e = .returned (.bool (linkB k)) ∧ Below w.heap.size w w' := by
  go_enter Try.func48, Try.ntmps48
  go_wp2_with fail
  refine (within_any _ _ _ _).mono ?_
  rintro e1 w1 ⟨rfl, rfl⟩
  cases h1 : inB k.kind 2 3
  · go_wp2
    go_ret
    exact ⟨ret_bool (by simp [linkB, *]), (Below.refl _ _).alloc (Nat.le_refl _) _⟩
  · skip
    go_wp2_with fail
    refine (within_any _ _ _ _).mono ?_
    rintro e1 w1 ⟨rfl, rfl⟩
    cases h2 : inB k.id 0 63
    · go_wp2
      go_ret
      exact ⟨ret_bool (by simp [linkB, *]), (Below.refl _ _).alloc (Nat.le_refl _) _⟩
    · skip
      go_wp2_with fail
      refine (within_any _ _ _ _).mono ?_
      rintro e1 w1 ⟨rfl, rfl⟩
      cases h3 : inB k.data 0 63
      · go_wp2
        go_ret
        exact ⟨ret_bool (by simp [linkB, *]), (Below.refl _ _).alloc (Nat.le_refl _) _⟩
      · skip
        go_wp2_with fail
        refine (within_any _ _ _ _).mono ?_
        rintro e1 w1 ⟨rfl, rfl⟩
        go_wp2
        go_ret
        exact ⟨ret_bool (by simp [linkB, *]), (Below.refl _ _).alloc (Nat.le_refl _) _⟩

end Go.Proofs.Ytidncajbedgplaa
