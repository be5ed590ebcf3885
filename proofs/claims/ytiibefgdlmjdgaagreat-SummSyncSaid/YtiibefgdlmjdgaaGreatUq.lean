/- Which of two heads is newer: the program's, and the reference's. Conditions: ages from 0 to 60. -/
import Derived.Test.YtiibefgdlmjdgaaGreatUk
import Derived.WalkKit
import Derived.WalkLawsBesides
import Derived.Deep.QuietTactic
import Derived.BigQuiet
import Derived.Lib.Hide
import Derived.OpenShut
import Derived.Deep.MidRow
import Derived.Deep.Slices
import Derived.Deep.Fields
import Derived.IntWalk
namespace Go.Proofs.YtiibefgdlmjdgaaGreat
/-- Is an age from 0 to 60? -/
def ageB (h : Hd) : Bool := decide (0 ≤ h.age) && decide (h.age ≤ 60)
theorem ageB_iff (h : Hd) : ageB h = true ↔ 0 ≤ h.age ∧ h.age ≤ 60 := by simp [ageB]
/-- Which of two numbers is greater: -1, 0, 1. -/
def cmpI (a b : Int) : Int := if a < b then -1 else if b < a then 1 else 0
/-- Which of two ages is of the newer one. -/
def frI (a b : Int) : Int :=
  if a = 60 ∧ b ≠ 60 then 1 else if b = 60 ∧ a ≠ 60 then -1 else if a + 6 < b then 1 else if b + 6 < a then -1 else 0
/-- Which of two heads is newer. -/
def nw (a b : Hd) : Int := if a.seq ≠ b.seq then cmpI a.seq b.seq else if a.sum ≠ b.sum then cmpI a.sum b.sum else frI a.age b.age

theorem cmpI_flip (a b : Int) : cmpI b a = -cmpI a b := by
  unfold cmpI
  repeat' split
  all_goals omega
theorem frI_flip (a b : Int) : frI b a = -frI a b := by
  unfold frI
  repeat' split
  all_goals omega
theorem nw_flip (a b : Hd) : nw b a = -nw a b := by
  unfold nw
  by_cases h : a.seq = b.seq
  · by_cases h2 : a.sum = b.sum
    · rw [if_neg (by simp [h]), if_neg (by simp [h2]), if_neg (by simp [h]), if_neg (by simp [h2]), frI_flip]
    · rw [if_neg (by simp [h]), if_pos (fun e => h2 e.symm), if_neg (by simp [h]), if_pos h2, cmpI_flip]
  · rw [if_pos (fun e => h e.symm), if_pos h, cmpI_flip]
theorem nw_self (a : Hd) : nw a a = 0 := by
  have := nw_flip a a
  omega
theorem cmpI_one (a b : Int) : cmpI a b = 1 ↔ b < a := by
  unfold cmpI
  repeat' split
  all_goals omega
theorem frI_one {a b : Int} (ha : 0 ≤ a) (ha' : a ≤ 60) (hb : 0 ≤ b) (hb' : b ≤ 60) : frI a b = 1 ↔ (a = 60 ∧ b ≠ 60) ∨ (b ≠ 60 ∧ a + 6 < b) := by
  unfold frI
  repeat' split
  all_goals omega
theorem nw_one {a b : Hd} (ha : ageB a = true) (hb : ageB b = true) :
    nw a b = 1 ↔ b.seq < a.seq ∨ (a.seq = b.seq ∧ (b.sum < a.sum ∨ (a.sum = b.sum ∧ ((a.age = 60 ∧ b.age ≠ 60) ∨ (b.age ≠ 60 ∧ a.age + 6 < b.age))))) := by
  rw [ageB_iff] at ha hb
  unfold nw
  by_cases h : a.seq = b.seq
  · by_cases h2 : a.sum = b.sum
    · rw [if_neg (by simp [h]), if_neg (by simp [h2]), frI_one ha.1 ha.2 hb.1 hb.2]
      omega
    · rw [if_neg (by simp [h]), if_pos h2, cmpI_one]
      omega
  · rw [if_pos h, cmpI_one]
    omega
theorem nw_trans {a b c : Hd} (ha : ageB a = true) (hb : ageB b = true) (hc : ageB c = true) (h1 : nw a b = 1) (h2 : nw b c = 1) : nw a c = 1 := by
  rw [nw_one ha hb] at h1
  rw [nw_one hb hc] at h2
  rw [nw_one ha hc]
  rw [ageB_iff] at ha hb hc
  omega
theorem nw_seq {a b : Hd} (h : b.seq < a.seq) : nw a b = 1 := by
  unfold nw
  rw [if_pos (by omega), cmpI_one]
  exact h
theorem nw_three (a b : Hd) : nw a b = 1 ∨ nw a b = 0 ∨ nw a b = -1 := by
  unfold nw cmpI frI
  repeat' split
  all_goals omega

open Go.RowKit

theorem isNaN_no (x : Int) (w : World) : Calls Tryz.prog 66 #[.int .i64 x] w fun e w' => e = .returned (.bool false) ∧ w = w' := by
  have hd : (x != x) = false := by simp
  go_enter Tryz.func66, Tryz.ntmps66
  go_wp2
  go_ret
  exact ⟨rfl, rfl⟩

set_option maxHeartbeats 1000000 in
theorem compare_any (a b : Int) (w : World) : Calls Tryz.prog 46 #[.int .i64 a, .int .i64 b] w fun e w' => e = .returned (.int .i64 (cmpI a b)) ∧ w = w' := by
  generalize hv : cmpI a b = v
  have HV := Lib.hid hv
  clear hv
  go_enter Tryz.func46, Tryz.ntmps46
  go_wp2_with fail
  refine (isNaN_no _ _).mono ?_
  rintro e1 w1 ⟨rfl, rfl⟩
  go_wp2_with fail
  refine (isNaN_no _ _).mono ?_
  rintro e2 w2 ⟨rfl, rfl⟩
  by_cases h : a < b
  · obtain rfl : v = -1 := by rw [← HV.out, cmpI, if_pos h]
    go_wp2
    go_ret
    exact ⟨rfl, rfl⟩
  · by_cases h2 : b < a
    · obtain rfl : v = 1 := by rw [← HV.out, cmpI, if_neg h, if_pos h2]
      go_wp2
      go_ret
      exact ⟨rfl, rfl⟩
    · obtain rfl : v = 0 := by rw [← HV.out, cmpI, if_neg h, if_neg h2]
      go_wp2
      go_ret
      exact ⟨rfl, rfl⟩

theorem far_any (a b : Int) (w : World) (ha : 0 ≤ a) (ha' : a ≤ 60) (hb : 0 ≤ b) (hb' : b ≤ 60) : Calls Tryz.prog 48 #[.int .i64 a, .int .i64 b] w fun e w' => e = .returned (.bool (decide (a + 6 < b))) ∧ w = w' := by
  by_cases h : a < b
  · have HI := Lib.hid (show decide (a + 6 < b) = decide (6 < b - a) by rw [decide_eq_decide]; omega)
    go_enter Tryz.func48, Tryz.ntmps48
    go_wp2
    go_ret
    exact ⟨ret_bool HI.out.symm, rfl⟩
  · have HI := Lib.hid (show decide (a + 6 < b) = false by simp; omega)
    go_enter Tryz.func48, Tryz.ntmps48
    go_wp2
    go_ret
    exact ⟨ret_bool HI.out.symm, rfl⟩

/-- Are ages more than 6 apart? -/
def farB (a b : Int) : Bool := decide (a + 6 < b) || decide (b + 6 < a)
set_option maxHeartbeats 1000000 in
theorem apart_any (a b : Int) (w : World) (ha : 0 ≤ a) (ha' : a ≤ 60) (hb : 0 ≤ b) (hb' : b ≤ 60) : Calls Tryz.prog 67 #[.int .i64 a, .int .i64 b] w fun e w' => e = .returned (.bool (farB a b)) ∧ w = w' := by
  generalize hv : farB a b = v
  have HV := Lib.hid hv
  clear hv
  go_enter Tryz.func67, Tryz.ntmps67
  go_wp2
  all_goals (go_ret; exact ⟨ret_bool (a := decide (6 < max a b - min a b)) (by rw [← HV.out, farB, Bool.eq_iff_iff]; simp; omega), rfl⟩)
theorem farB_no {a b : Int} (h : farB a b = false) : ¬ a + 6 < b ∧ ¬ b + 6 < a := by
  unfold farB at h
  rw [Bool.or_eq_false_iff, decide_eq_false_iff_not, decide_eq_false_iff_not] at h
  exact h
theorem farB_yes {a b : Int} (h : farB a b = true) : a + 6 < b ∨ b + 6 < a := by
  unfold farB at h
  rw [Bool.or_eq_true, decide_eq_true_iff, decide_eq_true_iff] at h
  exact h
theorem frI_far {a b : Int} (h1 : a ≠ 60) (h2 : b ≠ 60) (h : farB a b = true) : cmpI b a = frI a b := by
  have := farB_yes h
  unfold frI cmpI
  repeat' split
  all_goals omega
theorem frI_near {a b : Int} (h1 : a ≠ 60) (h2 : b ≠ 60) (h : farB a b = false) : frI a b = 0 := by
  have := farB_no h
  unfold frI
  repeat' split
  all_goals omega

set_option maxHeartbeats 2000000 in
theorem fresher_any (a b : Int) (w : World) (ha : 0 ≤ a) (ha' : a ≤ 60) (hb : 0 ≤ b) (hb' : b ≤ 60) : Calls Tryz.prog 47 #[.int .i64 a, .int .i64 b] w fun e w' => e = .returned (.int .i64 (frI a b)) ∧ w = w' := by
  generalize hv : frI a b = v
  have HV := Lib.hid hv
  clear hv
  go_enter Tryz.func47, Tryz.ntmps47
  by_cases h1 : a = 60
  · subst h1
    by_cases h2 : b = 60
    · subst h2
      obtain rfl : v = 0 := HV.out.symm
      go_wp2_with fail
      refine (apart_any _ _ _ (by omega) (by omega) (by omega) (by omega)).mono ?_
      rintro e1 w1 ⟨rfl, rfl⟩
      have hf : farB 60 60 = false := rfl
      rw [hf]
      go_wp2
      go_ret
      exact ⟨rfl, rfl⟩
    · obtain rfl : v = 1 := by rw [← HV.out, frI, if_pos ⟨rfl, h2⟩]
      go_wp2
      go_ret
      exact ⟨rfl, rfl⟩
  · by_cases h2 : b = 60
    · subst h2
      obtain rfl : v = -1 := by rw [← HV.out, frI, if_neg (by simp), if_pos ⟨rfl, h1⟩]
      go_wp2
      go_ret
      exact ⟨rfl, rfl⟩
    · go_wp2_with fail
      refine (apart_any _ _ _ ha ha' hb hb').mono ?_
      rintro e1 w1 ⟨rfl, rfl⟩
      cases hf : farB a b
      · obtain rfl : v = 0 := by rw [← HV.out, frI_near h1 h2 hf]
        go_wp2
        go_ret
        exact ⟨rfl, rfl⟩
      · have HC := Lib.hid (show cmpI b a = v by rw [← HV.out, frI_far h1 h2 hf])
        go_wp2_with fail
        refine (compare_any _ _ _).mono ?_
        rintro e2 w2 ⟨rfl, rfl⟩
        rw [HC.out]
        go_wp2
        go_ret
        exact ⟨rfl, rfl⟩

set_option maxRecDepth 8000 in
set_option maxHeartbeats 4000000 in
theorem newer_any (a b : Hd) (w : World) (ha : ageB a = true) (hb : ageB b = true) : Calls Tryz.prog 25 #[.agg #[.int .i64 a.age, .int .i64 a.kind, .int .i64 a.id, .int .i64 a.adv, .int .i64 a.seq, .int .i64 a.sum, .int .i64 a.long], .agg #[.int .i64 b.age, .int .i64 b.kind, .int .i64 b.id, .int .i64 b.adv, .int .i64 b.seq, .int .i64 b.sum, .int .i64 b.long]] w
    fun e w' => e = .returned (.int .i64 (nw a b)) ∧ Below w.heap.size w w' := by
  rw [ageB_iff] at ha hb
  obtain ⟨a1, a2⟩ := ha
  obtain ⟨b1, b2⟩ := hb
  generalize hv : nw a b = v
  have HV := Lib.hid hv
  clear hv
  have B0 := Lib.hid (((Below.refl w.heap.size w).alloc (Nat.le_refl _) (.cells #[.int .i64 a.age, .int .i64 a.kind, .int .i64 a.id, .int .i64 a.adv, .int .i64 a.seq, .int .i64 a.sum, .int .i64 a.long] 40)).alloc (by simp) (.cells #[.int .i64 b.age, .int .i64 b.kind, .int .i64 b.id, .int .i64 b.adv, .int .i64 b.seq, .int .i64 b.sum, .int .i64 b.long] 40))
  go_enter Tryz.func25, Tryz.ntmps25
  by_cases h1 : a.seq = b.seq
  · have d1 : (a.seq != b.seq) = false := by simp [h1]
    by_cases h2 : a.sum = b.sum
    · have d2 : (a.sum != b.sum) = false := by simp [h2]
      have HC := Lib.hid (show frI a.age b.age = v by rw [← HV.out, nw, if_neg (by simp [h1]), if_neg (by simp [h2])])
      clear h1 h2
      go_wp2_with fail
      refine (fresher_any _ _ _ a1 a2 b1 b2).mono ?_
      rintro e2 w2 ⟨rfl, rfl⟩
      rw [HC.out]
      go_wp2
      go_ret
      exact ⟨rfl, B0.out⟩
    · have d2 : (a.sum != b.sum) = true := by simp [h2]
      have HC := Lib.hid (show cmpI a.sum b.sum = v by rw [← HV.out, nw, if_neg (by simp [h1]), if_pos h2])
      clear h1 h2
      go_wp2_with fail
      refine (compare_any _ _ _).mono ?_
      rintro e2 w2 ⟨rfl, rfl⟩
      rw [HC.out]
      go_wp2
      go_ret
      exact ⟨rfl, B0.out⟩
  · have d1 : (a.seq != b.seq) = true := by simp [h1]
    have HC := Lib.hid (show cmpI a.seq b.seq = v by rw [← HV.out, nw, if_pos h1])
    clear h1
    go_wp2_with fail
    refine (compare_any _ _ _).mono ?_
    rintro e2 w2 ⟨rfl, rfl⟩
    rw [HC.out]
    go_wp2
    go_ret
    exact ⟨rfl, B0.out⟩

set_option maxRecDepth 8000 in
set_option maxHeartbeats 4000000 in
theorem refNewer_any (a b : Hd) (w : World) (ha : ageB a = true) (hb : ageB b = true) : Calls Tryz.prog 28 #[.agg #[.int .i64 a.age, .int .i64 a.kind, .int .i64 a.id, .int .i64 a.adv, .int .i64 a.seq, .int .i64 a.sum, .int .i64 a.long], .agg #[.int .i64 b.age, .int .i64 b.kind, .int .i64 b.id, .int .i64 b.adv, .int .i64 b.seq, .int .i64 b.sum, .int .i64 b.long]] w
    fun e w' => e = .returned (.int .i64 (nw a b)) ∧ Below w.heap.size w w' := by
  rw [ageB_iff] at ha hb
  obtain ⟨a1, a2⟩ := ha
  obtain ⟨b1, b2⟩ := hb
  generalize hv : nw a b = v
  have HV := Lib.hid hv
  clear hv
  have B0 := Lib.hid (((Below.refl w.heap.size w).alloc (Nat.le_refl _) (.cells #[.int .i64 a.age, .int .i64 a.kind, .int .i64 a.id, .int .i64 a.adv, .int .i64 a.seq, .int .i64 a.sum, .int .i64 a.long] 40)).alloc (by simp) (.cells #[.int .i64 b.age, .int .i64 b.kind, .int .i64 b.id, .int .i64 b.adv, .int .i64 b.seq, .int .i64 b.sum, .int .i64 b.long] 40))
  go_enter Tryz.func28, Tryz.ntmps28
  by_cases h1 : a.seq = b.seq
  · have d1 : (a.seq != b.seq) = false := by simp [h1]
    by_cases h2 : a.sum = b.sum
    · have d2 : (a.sum != b.sum) = false := by simp [h2]
      have HC := Lib.hid (show frI a.age b.age = v by rw [← HV.out, nw, if_neg (by simp [h1]), if_neg (by simp [h2])])
      clear h1 h2
      by_cases h3 : a.age = 60
      · have d3 : (a.age == 60) = true := by simp [h3]
        have d3' : (a.age != 60) = false := by simp [h3]
        by_cases h4 : b.age = 60
        · have d4 : (b.age == 60) = true := by simp [h4]
          have d4' : (b.age != 60) = false := by simp [h4]
          obtain rfl : v = 0 := by rw [← HC.out, h3, h4]; rfl
          have HF := Lib.hid (show decide (a.age + 6 < b.age) = false by simp; omega)
          have HF2 := Lib.hid (show decide (b.age + 6 < a.age) = false by simp; omega)
          clear h3 h4
          go_wp2_with fail
          refine (far_any _ _ _ a1 a2 b1 b2).mono ?_
          rintro e2 w2 ⟨rfl, rfl⟩
          rw [HF.out]
          go_wp2_with fail
          refine (far_any _ _ _ b1 b2 a1 a2).mono ?_
          rintro e2 w2 ⟨rfl, rfl⟩
          rw [HF2.out]
          go_wp2
          go_ret
          exact ⟨rfl, B0.out⟩
        · have d4 : (b.age == 60) = false := by simp [h4]
          have d4' : (b.age != 60) = true := by simp [h4]
          obtain rfl : v = 1 := by rw [← HC.out, frI, if_pos ⟨h3, h4⟩]
          clear h3 h4
          go_wp2
          go_ret
          exact ⟨rfl, B0.out⟩
      · have d3 : (a.age == 60) = false := by simp [h3]
        have d3' : (a.age != 60) = true := by simp [h3]
        by_cases h4 : b.age = 60
        · have d4 : (b.age == 60) = true := by simp [h4]
          obtain rfl : v = -1 := by rw [← HC.out, frI, if_neg (by omega), if_pos ⟨h4, h3⟩]
          clear h3 h4
          go_wp2
          go_ret
          exact ⟨rfl, B0.out⟩
        · have d4 : (b.age == 60) = false := by simp [h4]
          have H3 := Lib.hid h3
          have H4 := Lib.hid h4
          clear h3 h4
          go_wp2_with fail
          refine (far_any _ _ _ a1 a2 b1 b2).mono ?_
          rintro e2 w2 ⟨rfl, rfl⟩
          by_cases h5 : a.age + 6 < b.age
          · rw [decide_eq_true h5]
            obtain rfl : v = 1 := by rw [← HC.out, frI, if_neg (fun e => H3.out e.1), if_neg (fun e => H4.out e.1), if_pos h5]
            go_wp2
            go_ret
            exact ⟨rfl, B0.out⟩
          · rw [decide_eq_false h5]
            go_wp2_with fail
            refine (far_any _ _ _ b1 b2 a1 a2).mono ?_
            rintro e2 w2 ⟨rfl, rfl⟩
            by_cases h6 : b.age + 6 < a.age
            · rw [decide_eq_true h6]
              obtain rfl : v = -1 := by rw [← HC.out, frI, if_neg (fun e => H3.out e.1), if_neg (fun e => H4.out e.1), if_neg (by omega), if_pos h6]
              go_wp2
              go_ret
              exact ⟨rfl, B0.out⟩
            · rw [decide_eq_false h6]
              obtain rfl : v = 0 := by rw [← HC.out, frI, if_neg (fun e => H3.out e.1), if_neg (fun e => H4.out e.1), if_neg (by omega), if_neg (by omega)]
              go_wp2
              go_ret
              exact ⟨rfl, B0.out⟩
    · have d2 : (a.sum != b.sum) = true := by simp [h2]
      have HC := Lib.hid (show cmpI a.sum b.sum = v by rw [← HV.out, nw, if_neg (by simp [h1]), if_pos h2])
      clear h1
      by_cases h3 : b.sum < a.sum
      · obtain rfl : v = 1 := by rw [← HC.out, cmpI_one]; exact h3
        go_wp2
        go_ret
        exact ⟨rfl, B0.out⟩
      · obtain rfl : v = -1 := by rw [← HC.out, cmpI, if_pos (by omega)]
        go_wp2
        go_ret
        exact ⟨rfl, B0.out⟩
  · have d1 : (a.seq != b.seq) = true := by simp [h1]
    have HC := Lib.hid (show cmpI a.seq b.seq = v by rw [← HV.out, nw, if_pos h1])
    by_cases h3 : b.seq < a.seq
    · obtain rfl : v = 1 := by rw [← HC.out, cmpI_one]; exact h3
      go_wp2
      go_ret
      exact ⟨rfl, B0.out⟩
    · obtain rfl : v = -1 := by rw [← HC.out, cmpI, if_pos (by omega)]
      go_wp2
      go_ret
      exact ⟨rfl, B0.out⟩
end Go.Proofs.YtiibefgdlmjdgaaGreat
