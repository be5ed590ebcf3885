/- A step of a neighbor, the reference's. No conditions. -/
import Derived.Test.YtohfoopagbajnaaDoorNb
namespace Go.Proofs.YtohfoopagbajnaaDoor
open Go.RowKit Go.Deep
set_option maxRecDepth 8000 in
set_option maxHeartbeats 4000000 in
theorem rstep_0 (s : Int) (a : Bool) (w : World) : Calls Tryd.prog 9 #[.int .i64 s, .int .i64 0, .bool a] w fun x w' => x = .returned (.int .i64 (refF s 0 a)) ∧ Below w.heap.size w w' := by
  obtain ⟨v, hv⟩ : ∃ v, v = refF s 0 a := ⟨_, rfl⟩
  rw [← hv]
  have HV := Lib.hid hv
  clear hv
  go_enter Tryd.func9, Tryd.ntmps9
  by_cases h1 : s = 0
  · subst h1
    have HE := Lib.hid (show (1 : Int) = v by rw [HV.out]; simp [refF])
    clear HV
    go_wp2
    go_ret
    exact ⟨by rw [HE.out]; rfl, Below.refl _ _⟩
  · have dh1 : (s == 0) = false := by simp [h1]
    have HE := Lib.hid (show s = v by rw [HV.out]; simp [refF, h1])
    clear HV h1
    go_wp2
    go_ret
    exact ⟨by rw [HE.out]; rfl, Below.refl _ _⟩
set_option maxRecDepth 8000 in
set_option maxHeartbeats 4000000 in
theorem rstep_1 (s : Int) (a : Bool) (w : World) : Calls Tryd.prog 9 #[.int .i64 s, .int .i64 1, .bool a] w fun x w' => x = .returned (.int .i64 (refF s 1 a)) ∧ Below w.heap.size w w' := by
  obtain ⟨v, hv⟩ : ∃ v, v = refF s 1 a := ⟨_, rfl⟩
  rw [← hv]
  have HV := Lib.hid hv
  clear hv
  go_enter Tryd.func9, Tryd.ntmps9
  by_cases h1 : s = 1
  · subst h1
    cases a
    · skip
      have HE := Lib.hid (show (2 : Int) = v by rw [HV.out]; simp [refF])
      clear HV
      go_wp2
      go_ret
      exact ⟨by rw [HE.out]; rfl, Below.refl _ _⟩
    · skip
      have HE := Lib.hid (show (3 : Int) = v by rw [HV.out]; simp [refF])
      clear HV
      go_wp2
      go_ret
      exact ⟨by rw [HE.out]; rfl, Below.refl _ _⟩
  · have dh1 : (s == 1) = false := by simp [h1]
    have HE := Lib.hid (show s = v by rw [HV.out]; simp [refF, h1])
    clear HV h1
    go_wp2
    go_ret
    exact ⟨by rw [HE.out]; rfl, Below.refl _ _⟩
set_option maxRecDepth 8000 in
set_option maxHeartbeats 4000000 in
theorem rstep_2 (s : Int) (a : Bool) (w : World) : Calls Tryd.prog 9 #[.int .i64 s, .int .i64 2, .bool a] w fun x w' => x = .returned (.int .i64 (refF s 2 a)) ∧ Below w.heap.size w w' := by
  obtain ⟨v, hv⟩ : ∃ v, v = refF s 2 a := ⟨_, rfl⟩
  rw [← hv]
  have HV := Lib.hid hv
  clear hv
  go_enter Tryd.func9, Tryd.ntmps9
  by_cases h1 : 2 ≤ s
  · have dh1 : decide (2 ≤ s) = true := by simp [h1]
    by_cases h2 : s ≤ 6
    · have dh2 : decide (s ≤ 6) = true := by simp [h2]
      have HE := Lib.hid (show (1 : Int) = v by rw [HV.out]; simp [refF, h1, h2])
      clear HV h1 h2
      go_wp2
      go_ret
      exact ⟨by rw [HE.out]; rfl, Below.refl _ _⟩
    · have dh2 : decide (s ≤ 6) = false := by simp; omega
      have HE := Lib.hid (show s = v by rw [HV.out]; simp [refF, h1, h2])
      clear HV h1 h2
      go_wp2
      go_ret
      exact ⟨by rw [HE.out]; rfl, Below.refl _ _⟩
  · have dh1 : decide (2 ≤ s) = false := by simp; omega
    have HE := Lib.hid (show s = v by rw [HV.out]; simp [refF, h1])
    clear HV h1
    go_wp2
    go_ret
    exact ⟨by rw [HE.out]; rfl, Below.refl _ _⟩
set_option maxRecDepth 8000 in
set_option maxHeartbeats 4000000 in
theorem rstep_3 (s : Int) (a : Bool) (w : World) : Calls Tryd.prog 9 #[.int .i64 s, .int .i64 3, .bool a] w fun x w' => x = .returned (.int .i64 (refF s 3 a)) ∧ Below w.heap.size w w' := by
  obtain ⟨v, hv⟩ : ∃ v, v = refF s 3 a := ⟨_, rfl⟩
  rw [← hv]
  have HV := Lib.hid hv
  clear hv
  go_enter Tryd.func9, Tryd.ntmps9
  by_cases h1 : s = 2
  · subst h1
    cases a
    · skip
      have HE := Lib.hid (show (2 : Int) = v by rw [HV.out]; simp [refF])
      clear HV
      go_wp2
      go_ret
      exact ⟨by rw [HE.out]; rfl, Below.refl _ _⟩
    · skip
      have HE := Lib.hid (show (3 : Int) = v by rw [HV.out]; simp [refF])
      clear HV
      go_wp2
      go_ret
      exact ⟨by rw [HE.out]; rfl, Below.refl _ _⟩
  · have dh1 : (s == 2) = false := by simp [h1]
    by_cases h2 : 3 ≤ s
    · have dh2 : decide (3 ≤ s) = true := by simp [h2]
      by_cases h3 : s ≤ 6
      · have dh3 : decide (s ≤ 6) = true := by simp [h3]
        cases a
        · skip
          have HE := Lib.hid (show (2 : Int) = v by rw [HV.out]; simp [refF, h1, h2, h3])
          clear HV h1 h2 h3
          go_wp2
          go_ret
          exact ⟨by rw [HE.out]; rfl, Below.refl _ _⟩
        · skip
          have HE := Lib.hid (show s = v by rw [HV.out]; simp [refF, h1, h2, h3])
          clear HV h1 h2 h3
          go_wp2
          go_ret
          exact ⟨by rw [HE.out]; rfl, Below.refl _ _⟩
      · have dh3 : decide (s ≤ 6) = false := by simp; omega
        have HE := Lib.hid (show s = v by rw [HV.out]; simp [refF, h1, h2, h3])
        clear HV h1 h2 h3
        go_wp2
        go_ret
        exact ⟨by rw [HE.out]; rfl, Below.refl _ _⟩
    · have dh2 : decide (3 ≤ s) = false := by simp; omega
      have HE := Lib.hid (show s = v by rw [HV.out]; simp [refF, h1, h2])
      clear HV h1 h2
      go_wp2
      go_ret
      exact ⟨by rw [HE.out]; rfl, Below.refl _ _⟩
set_option maxRecDepth 8000 in
set_option maxHeartbeats 4000000 in
theorem rstep_4 (s : Int) (a : Bool) (w : World) : Calls Tryd.prog 9 #[.int .i64 s, .int .i64 4, .bool a] w fun x w' => x = .returned (.int .i64 (refF s 4 a)) ∧ Below w.heap.size w w' := by
  obtain ⟨v, hv⟩ : ∃ v, v = refF s 4 a := ⟨_, rfl⟩
  rw [← hv]
  have HV := Lib.hid hv
  clear hv
  go_enter Tryd.func9, Tryd.ntmps9
  by_cases h1 : s = 3
  · subst h1
    have HE := Lib.hid (show (4 : Int) = v by rw [HV.out]; simp [refF])
    clear HV
    go_wp2
    go_ret
    exact ⟨by rw [HE.out]; rfl, Below.refl _ _⟩
  · have dh1 : (s == 3) = false := by simp [h1]
    have HE := Lib.hid (show s = v by rw [HV.out]; simp [refF, h1])
    clear HV h1
    go_wp2
    go_ret
    exact ⟨by rw [HE.out]; rfl, Below.refl _ _⟩
set_option maxRecDepth 8000 in
set_option maxHeartbeats 4000000 in
theorem rstep_5 (s : Int) (a : Bool) (w : World) : Calls Tryd.prog 9 #[.int .i64 s, .int .i64 5, .bool a] w fun x w' => x = .returned (.int .i64 (refF s 5 a)) ∧ Below w.heap.size w w' := by
  obtain ⟨v, hv⟩ : ∃ v, v = refF s 5 a := ⟨_, rfl⟩
  rw [← hv]
  have HV := Lib.hid hv
  clear hv
  go_enter Tryd.func9, Tryd.ntmps9
  by_cases h1 : s = 4
  · subst h1
    have HE := Lib.hid (show (5 : Int) = v by rw [HV.out]; simp [refF])
    clear HV
    go_wp2
    go_ret
    exact ⟨by rw [HE.out]; rfl, Below.refl _ _⟩
  · have dh1 : (s == 4) = false := by simp [h1]
    have HE := Lib.hid (show s = v by rw [HV.out]; simp [refF, h1])
    clear HV h1
    go_wp2
    go_ret
    exact ⟨by rw [HE.out]; rfl, Below.refl _ _⟩
set_option maxRecDepth 8000 in
set_option maxHeartbeats 4000000 in
theorem rstep_6 (s : Int) (a : Bool) (w : World) : Calls Tryd.prog 9 #[.int .i64 s, .int .i64 6, .bool a] w fun x w' => x = .returned (.int .i64 (refF s 6 a)) ∧ Below w.heap.size w w' := by
  obtain ⟨v, hv⟩ : ∃ v, v = refF s 6 a := ⟨_, rfl⟩
  rw [← hv]
  have HV := Lib.hid hv
  clear hv
  go_enter Tryd.func9, Tryd.ntmps9
  by_cases h1 : s = 4
  · subst h1
    have HE := Lib.hid (show (6 : Int) = v by rw [HV.out]; simp [refF])
    clear HV
    go_wp2
    go_ret
    exact ⟨by rw [HE.out]; rfl, Below.refl _ _⟩
  · have dh1 : (s == 4) = false := by simp [h1]
    by_cases h2 : s = 5
    · subst h2
      have HE := Lib.hid (show (6 : Int) = v by rw [HV.out]; simp [refF, h1])
      clear HV h1
      go_wp2
      go_ret
      exact ⟨by rw [HE.out]; rfl, Below.refl _ _⟩
    · have dh2 : (s == 5) = false := by simp [h2]
      have HE := Lib.hid (show s = v by rw [HV.out]; simp [refF, h1, h2])
      clear HV h1 h2
      go_wp2
      go_ret
      exact ⟨by rw [HE.out]; rfl, Below.refl _ _⟩
set_option maxRecDepth 8000 in
set_option maxHeartbeats 4000000 in
theorem rstep_7 (s : Int) (a : Bool) (w : World) : Calls Tryd.prog 9 #[.int .i64 s, .int .i64 7, .bool a] w fun x w' => x = .returned (.int .i64 (refF s 7 a)) ∧ Below w.heap.size w w' := by
  obtain ⟨v, hv⟩ : ∃ v, v = refF s 7 a := ⟨_, rfl⟩
  rw [← hv]
  have HV := Lib.hid hv
  clear hv
  go_enter Tryd.func9, Tryd.ntmps9
  by_cases h1 : 4 ≤ s
  · have dh1 : decide (4 ≤ s) = true := by simp [h1]
    by_cases h2 : s ≤ 6
    · have dh2 : decide (s ≤ 6) = true := by simp [h2]
      have HE := Lib.hid (show (3 : Int) = v by rw [HV.out]; simp [refF, h1, h2])
      clear HV h1 h2
      go_wp2
      go_ret
      exact ⟨by rw [HE.out]; rfl, Below.refl _ _⟩
    · have dh2 : decide (s ≤ 6) = false := by simp; omega
      have HE := Lib.hid (show s = v by rw [HV.out]; simp [refF, h1, h2])
      clear HV h1 h2
      go_wp2
      go_ret
      exact ⟨by rw [HE.out]; rfl, Below.refl _ _⟩
  · have dh1 : decide (4 ≤ s) = false := by simp; omega
    have HE := Lib.hid (show s = v by rw [HV.out]; simp [refF, h1])
    clear HV h1
    go_wp2
    go_ret
    exact ⟨by rw [HE.out]; rfl, Below.refl _ _⟩
set_option maxRecDepth 8000 in
set_option maxHeartbeats 4000000 in
theorem rstep_8 (s : Int) (a : Bool) (w : World) : Calls Tryd.prog 9 #[.int .i64 s, .int .i64 8, .bool a] w fun x w' => x = .returned (.int .i64 (refF s 8 a)) ∧ Below w.heap.size w w' := by
  obtain ⟨v, hv⟩ : ∃ v, v = refF s 8 a := ⟨_, rfl⟩
  rw [← hv]
  have HV := Lib.hid hv
  clear hv
  go_enter Tryd.func9, Tryd.ntmps9
  by_cases h1 : 0 ≤ s
  · have dh1 : decide (0 ≤ s) = true := by simp [h1]
    by_cases h2 : s ≤ 6
    · have dh2 : decide (s ≤ 6) = true := by simp [h2]
      have HE := Lib.hid (show (0 : Int) = v by rw [HV.out]; simp [refF, h1, h2])
      clear HV h1 h2
      go_wp2
      go_ret
      exact ⟨by rw [HE.out]; rfl, Below.refl _ _⟩
    · have dh2 : decide (s ≤ 6) = false := by simp; omega
      have HE := Lib.hid (show s = v by rw [HV.out]; simp [refF, h1, h2])
      clear HV h1 h2
      go_wp2
      go_ret
      exact ⟨by rw [HE.out]; rfl, Below.refl _ _⟩
  · have dh1 : decide (0 ≤ s) = false := by simp; omega
    have HE := Lib.hid (show s = v by rw [HV.out]; simp [refF, h1])
    clear HV h1
    go_wp2
    go_ret
    exact ⟨by rw [HE.out]; rfl, Below.refl _ _⟩
set_option maxRecDepth 8000 in
set_option maxHeartbeats 4000000 in
theorem rstep_no (s e : Int) (a : Bool) (w : World) (g0 : ¬ e = 0) (g1 : ¬ e = 1) (g2 : ¬ e = 2) (g3 : ¬ e = 3) (g4 : ¬ e = 4) (g5 : ¬ e = 5) (g6 : ¬ e = 6) (g7 : ¬ e = 7) (g8 : ¬ e = 8) : Calls Tryd.prog 9 #[.int .i64 s, .int .i64 e, .bool a] w fun x w' => x = .returned (.int .i64 (refF s e a)) ∧ Below w.heap.size w w' := by
  obtain ⟨v, hv⟩ : ∃ v, v = refF s e a := ⟨_, rfl⟩
  rw [← hv]
  have HV := Lib.hid hv
  clear hv
  go_enter Tryd.func9, Tryd.ntmps9
  have d0 : (e == 0) = false := by simp [g0]
  have d1 : (e == 1) = false := by simp [g1]
  have d2 : (e == 2) = false := by simp [g2]
  have d3 : (e == 3) = false := by simp [g3]
  have d4 : (e == 4) = false := by simp [g4]
  have d5 : (e == 5) = false := by simp [g5]
  have d6 : (e == 6) = false := by simp [g6]
  have d7 : (e == 7) = false := by simp [g7]
  have d8 : (e == 8) = false := by simp [g8]
  have HE := Lib.hid (show s = v by rw [HV.out]; simp [refF, g0, g1, g2, g3, g4, g5, g6, g7, g8])
  clear HV g0 g1 g2 g3 g4 g5 g6 g7 g8
  go_wp2
  go_ret
  exact ⟨by rw [HE.out]; rfl, Below.refl _ _⟩
theorem rstep_any (s e : Int) (a : Bool) (w : World) : Calls Tryd.prog 9 #[.int .i64 s, .int .i64 e, .bool a] w fun x w' => x = .returned (.int .i64 (stepF s e a)) ∧ Below w.heap.size w w' := by
  rw [step_ref]
  by_cases g0 : e = 0
  · subst g0
    exact rstep_0 s a w
  by_cases g1 : e = 1
  · subst g1
    exact rstep_1 s a w
  by_cases g2 : e = 2
  · subst g2
    exact rstep_2 s a w
  by_cases g3 : e = 3
  · subst g3
    exact rstep_3 s a w
  by_cases g4 : e = 4
  · subst g4
    exact rstep_4 s a w
  by_cases g5 : e = 5
  · subst g5
    exact rstep_5 s a w
  by_cases g6 : e = 6
  · subst g6
    exact rstep_6 s a w
  by_cases g7 : e = 7
  · subst g7
    exact rstep_7 s a w
  by_cases g8 : e = 8
  · subst g8
    exact rstep_8 s a w
  exact rstep_no s e a w g0 g1 g2 g3 g4 g5 g6 g7 g8
end Go.Proofs.YtohfoopagbajnaaDoor
