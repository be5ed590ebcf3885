/- The reference's Step. Conditions: numbers unlike, from 1 on; at most 1,000,000 others. -/
import Derived.Test.YtedlkoecnnmihaaIk
namespace Go.Proofs.Ytedlkoecnnmihaa
open Go.RowKit

set_option maxRecDepth 8000 in
set_option maxHeartbeats 8000000 in
theorem rstep_any {w : World} {B n c : Nat} {A : Option Addr} {L : List Cd} (i : If) (e : Int) (hs : Cds w B A n L) (hB : B ≤ w.heap.size) (hn : n ≤ 1000000) (ha : ApartC (ownI i :: L)) :
    Calls Try.prog 10 #[.agg #[.int .i64 i.self, .int .i64 i.prio, .int .i64 i.state, .int .i64 i.dr, .int .i64 i.bdr], .int .i64 e, .slice A n c] w fun r w' => r = .returned (.agg #[.int .i64 (stepI i e L).self, .int .i64 (stepI i e L).prio, .int .i64 (stepI i e L).state, .int .i64 (stepI i e L).dr, .int .i64 (stepI i e L).bdr]) ∧ Below w.heap.size w w' := by
  obtain ⟨x, hX⟩ : ∃ x, x = stepI i e L := ⟨_, rfl⟩
  rw [← hX]
  have HX := Lib.hid hX
  have HP := Lib.hid (hs.more hB)
  have HAP := Lib.hid ha
  clear hs hB ha hX
  have B0 := Lib.hid (below_new2 w (.cells #[.int .i64 i.self, .int .i64 i.prio, .int .i64 i.state, .int .i64 i.dr, .int .i64 i.bdr] 23) (.cells #[.int .i64 0, .int .i64 0, .int .i64 0, .int .i64 0, .int .i64 0] 23))
  have K0 := Lib.hid (blk_new07 w #[.int .i64 i.self, .int .i64 i.prio, .int .i64 i.state, .int .i64 i.dr, .int .i64 i.bdr] 23 (.cells #[.int .i64 0, .int .i64 0, .int .i64 0, .int .i64 0, .int .i64 0] 23))
  have R0 := Lib.hid (blk_new1 w (.cells #[.int .i64 i.self, .int .i64 i.prio, .int .i64 i.state, .int .i64 i.dr, .int .i64 i.bdr] 23) 23 #[.int .i64 0, .int .i64 0, .int .i64 0, .int .i64 0, .int .i64 0])
  have P0 := Lib.hid (HP.out.below B0.out)
  go_enter Try.func10, Try.ntmps10
  go_upto_region 1 with fail
  generalize (w.alloc (.cells #[.int .i64 i.self, .int .i64 i.prio, .int .i64 i.state, .int .i64 i.dr, .int .i64 i.bdr] 23)).alloc (.cells #[.int .i64 0, .int .i64 0, .int .i64 0, .int .i64 0, .int .i64 0] 23) = w0 at *
  generalize hr : w.heap.size + 1 = r at *
  generalize hp : w.heap.size = p at *
  have hwr : p ≤ r := by omega
  have hrp : r ≠ p := by omega
  have hpr : p ≠ r := by omega
  have hk0 := K0.out.lt
  have hr0 := R0.out.lt
  by_cases h1 : e = 1
  · skip
    have hx := HX.out
    rw [step_down h1] at hx
    have d0 : (e == 1) = true := by
      rw [beq_iff_eq]
      omega
    subst hx
    clear h1
    have kc0 := K0.out.cell 0
    have kz0 := K0.out.frozen 0
    have kc1 := K0.out.cell 1
    have kz1 := K0.out.frozen 1
    have kc2 := K0.out.cell 2
    have kz2 := K0.out.frozen 2
    have kc3 := K0.out.cell 3
    have kz3 := K0.out.frozen 3
    have kc4 := K0.out.cell 4
    have kz4 := K0.out.frozen 4
    simp at kc0 kc1 kc2 kc3 kc4
    have rc0 := R0.out.cell 0
    have rz0 := R0.out.frozen 0
    have rc1 := R0.out.cell 1
    have rz1 := R0.out.frozen 1
    have rc2 := R0.out.cell 2
    have rz2 := R0.out.frozen 2
    have rc3 := R0.out.cell 3
    have rz3 := R0.out.frozen 3
    have rc4 := R0.out.cell 4
    have rz4 := R0.out.frozen 4
    simp at rc0 rc1 rc2 rc3 rc4
    go_upto_region 3 with fail
    clear kc0 kz0 kc1 kz1 kc2 kz2 kc3 kz3 kc4 kz4 rc0 rz0 rc1 rz1 rc2 rz2 rc3 rz3 rc4 rz4
    have K1 := Lib.hid (K0.out.put 2 (.int .i64 0))
    simp only [List.setIfInBounds_toArray, List.set_cons_zero, List.set_cons_succ] at K1
    have R1 := Lib.hid (R0.out.far (p := ⟨p, 2, none⟩) (hrp) (.int .i64 0))
    have B1 := Lib.hid (B0.out.setCell (p := ⟨p, 2, none⟩) (Nat.le_refl p) (.int .i64 0))
    clear K0 R0 B0
    generalize w0.setCell ⟨p, 2, none⟩ (.int .i64 0) = w1 at *
    have kc0 := K1.out.cell 0
    have kz0 := K1.out.frozen 0
    have kc1 := K1.out.cell 1
    have kz1 := K1.out.frozen 1
    have kc2 := K1.out.cell 2
    have kz2 := K1.out.frozen 2
    have kc3 := K1.out.cell 3
    have kz3 := K1.out.frozen 3
    have kc4 := K1.out.cell 4
    have kz4 := K1.out.frozen 4
    simp at kc0 kc1 kc2 kc3 kc4
    have rc0 := R1.out.cell 0
    have rz0 := R1.out.frozen 0
    have rc1 := R1.out.cell 1
    have rz1 := R1.out.frozen 1
    have rc2 := R1.out.cell 2
    have rz2 := R1.out.frozen 2
    have rc3 := R1.out.cell 3
    have rz3 := R1.out.frozen 3
    have rc4 := R1.out.cell 4
    have rz4 := R1.out.frozen 4
    simp at rc0 rc1 rc2 rc3 rc4
    go_upto_region 4 with fail
    clear kc0 kz0 kc1 kz1 kc2 kz2 kc3 kz3 kc4 kz4 rc0 rz0 rc1 rz1 rc2 rz2 rc3 rz3 rc4 rz4
    have K2 := Lib.hid (K1.out.put 3 (.int .i64 0))
    simp only [List.setIfInBounds_toArray, List.set_cons_zero, List.set_cons_succ] at K2
    have R2 := Lib.hid (R1.out.far (p := ⟨p, 3, none⟩) (hrp) (.int .i64 0))
    have B2 := Lib.hid (B1.out.setCell (p := ⟨p, 3, none⟩) (Nat.le_refl p) (.int .i64 0))
    clear K1 R1 B1
    generalize w1.setCell ⟨p, 3, none⟩ (.int .i64 0) = w2 at *
    have kc0 := K2.out.cell 0
    have kz0 := K2.out.frozen 0
    have kc1 := K2.out.cell 1
    have kz1 := K2.out.frozen 1
    have kc2 := K2.out.cell 2
    have kz2 := K2.out.frozen 2
    have kc3 := K2.out.cell 3
    have kz3 := K2.out.frozen 3
    have kc4 := K2.out.cell 4
    have kz4 := K2.out.frozen 4
    simp at kc0 kc1 kc2 kc3 kc4
    have rc0 := R2.out.cell 0
    have rz0 := R2.out.frozen 0
    have rc1 := R2.out.cell 1
    have rz1 := R2.out.frozen 1
    have rc2 := R2.out.cell 2
    have rz2 := R2.out.frozen 2
    have rc3 := R2.out.cell 3
    have rz3 := R2.out.frozen 3
    have rc4 := R2.out.cell 4
    have rz4 := R2.out.frozen 4
    simp at rc0 rc1 rc2 rc3 rc4
    go_upto_region 5 with fail
    clear kc0 kz0 kc1 kz1 kc2 kz2 kc3 kz3 kc4 kz4 rc0 rz0 rc1 rz1 rc2 rz2 rc3 rz3 rc4 rz4
    have K3 := Lib.hid (K2.out.put 4 (.int .i64 0))
    simp only [List.setIfInBounds_toArray, List.set_cons_zero, List.set_cons_succ] at K3
    have R3 := Lib.hid (R2.out.far (p := ⟨p, 4, none⟩) (hrp) (.int .i64 0))
    have B3 := Lib.hid (B2.out.setCell (p := ⟨p, 4, none⟩) (Nat.le_refl p) (.int .i64 0))
    clear K2 R2 B2
    generalize w2.setCell ⟨p, 4, none⟩ (.int .i64 0) = w3 at *
    have kc0 := K3.out.cell 0
    have kz0 := K3.out.frozen 0
    have kc1 := K3.out.cell 1
    have kz1 := K3.out.frozen 1
    have kc2 := K3.out.cell 2
    have kz2 := K3.out.frozen 2
    have kc3 := K3.out.cell 3
    have kz3 := K3.out.frozen 3
    have kc4 := K3.out.cell 4
    have kz4 := K3.out.frozen 4
    simp at kc0 kc1 kc2 kc3 kc4
    have rc0 := R3.out.cell 0
    have rz0 := R3.out.frozen 0
    have rc1 := R3.out.cell 1
    have rz1 := R3.out.frozen 1
    have rc2 := R3.out.cell 2
    have rz2 := R3.out.frozen 2
    have rc3 := R3.out.cell 3
    have rz3 := R3.out.frozen 3
    have rc4 := R3.out.cell 4
    have rz4 := R3.out.frozen 4
    simp at rc0 rc1 rc2 rc3 rc4
    go_wp2_with fail
    have KF := blk_put5 (v0 := .int .i64 i.self) (v1 := .int .i64 i.prio) (v2 := .int .i64 0) (v3 := .int .i64 0) (v4 := .int .i64 0) R3.out
    have BF := below_put5 (v0 := .int .i64 i.self) (v1 := .int .i64 i.prio) (v2 := .int .i64 0) (v3 := .int .i64 0) (v4 := .int .i64 0) B3.out hwr
    clear kc0 kz0 kc1 kz1 kc2 kz2 kc3 kz3 kc4 kz4 rc0 rz0 rc1 rz1 rc2 rz2 rc3 rz3 rc4 rz4
    generalize (((((w3.setCell ⟨r, 0, none⟩ (.int .i64 i.self)).setCell ⟨r, 1, none⟩ (.int .i64 i.prio)).setCell ⟨r, 2, none⟩ (.int .i64 0)).setCell ⟨r, 3, none⟩ (.int .i64 0)).setCell ⟨r, 4, none⟩ (.int .i64 0)) = wz at *
    have f0 := KF.five.1
    have f1 := KF.five.2.1
    have f2 := KF.five.2.2.1
    have f3 := KF.five.2.2.2.1
    have f4 := KF.five.2.2.2.2
    refine bodyPost_ret (v := .agg #[.int .i64 i.self, .int .i64 i.prio, .int .i64 0, .int .i64 0, .int .i64 0]) (by simp [results, Try.results10, go_sem, *]) rfl ?_
    exact ⟨rfl, hp ▸ BF⟩

  by_cases h2 : i.state = 0 ∧ e = 0
  · skip
    have hxp : ∀ s : Int, upI i = upI i := fun _ => rfl
    clear hxp
    by_cases h3 : 0 < i.prio
    · have HF := Lib.hid (show Ending.returned (.agg #[.int .i64 i.self, .int .i64 i.prio, .int .i64 1, .int .i64 0, .int .i64 0]) = .returned (.agg #[.int .i64 (upI i).self, .int .i64 (upI i).prio, .int .i64 (upI i).state, .int .i64 (upI i).dr, .int .i64 (upI i).bdr]) by simp [upI, h3])
      have hx := HX.out
      rw [step_up h2] at hx
      have d0 : (e == 1) = false := by
        rw [beq_eq_false_iff_ne]
        omega
      have d1 : (i.state == 0) = true := by
        rw [beq_iff_eq]
        omega
      have d2 : (e == 0) = true := by
        rw [beq_iff_eq]
        omega
      have d3 : decide (i.prio ≤ 0) = false := by
        rw [decide_eq_false_iff_not]
        omega
      subst hx
      clear h1 h2 h3
      have kc0 := K0.out.cell 0
      have kz0 := K0.out.frozen 0
      have kc1 := K0.out.cell 1
      have kz1 := K0.out.frozen 1
      have kc2 := K0.out.cell 2
      have kz2 := K0.out.frozen 2
      have kc3 := K0.out.cell 3
      have kz3 := K0.out.frozen 3
      have kc4 := K0.out.cell 4
      have kz4 := K0.out.frozen 4
      simp at kc0 kc1 kc2 kc3 kc4
      have rc0 := R0.out.cell 0
      have rz0 := R0.out.frozen 0
      have rc1 := R0.out.cell 1
      have rz1 := R0.out.frozen 1
      have rc2 := R0.out.cell 2
      have rz2 := R0.out.frozen 2
      have rc3 := R0.out.cell 3
      have rz3 := R0.out.frozen 3
      have rc4 := R0.out.cell 4
      have rz4 := R0.out.frozen 4
      simp at rc0 rc1 rc2 rc3 rc4
      go_upto_region 8 with fail
      clear kc0 kz0 kc1 kz1 kc2 kz2 kc3 kz3 kc4 kz4 rc0 rz0 rc1 rz1 rc2 rz2 rc3 rz3 rc4 rz4
      have K1 := Lib.hid (K0.out.put 2 (.int .i64 1))
      simp only [List.setIfInBounds_toArray, List.set_cons_zero, List.set_cons_succ] at K1
      have R1 := Lib.hid (R0.out.far (p := ⟨p, 2, none⟩) (hrp) (.int .i64 1))
      have B1 := Lib.hid (B0.out.setCell (p := ⟨p, 2, none⟩) (Nat.le_refl p) (.int .i64 1))
      clear K0 R0 B0
      generalize w0.setCell ⟨p, 2, none⟩ (.int .i64 1) = w1 at *
      have kc0 := K1.out.cell 0
      have kz0 := K1.out.frozen 0
      have kc1 := K1.out.cell 1
      have kz1 := K1.out.frozen 1
      have kc2 := K1.out.cell 2
      have kz2 := K1.out.frozen 2
      have kc3 := K1.out.cell 3
      have kz3 := K1.out.frozen 3
      have kc4 := K1.out.cell 4
      have kz4 := K1.out.frozen 4
      simp at kc0 kc1 kc2 kc3 kc4
      have rc0 := R1.out.cell 0
      have rz0 := R1.out.frozen 0
      have rc1 := R1.out.cell 1
      have rz1 := R1.out.frozen 1
      have rc2 := R1.out.cell 2
      have rz2 := R1.out.frozen 2
      have rc3 := R1.out.cell 3
      have rz3 := R1.out.frozen 3
      have rc4 := R1.out.cell 4
      have rz4 := R1.out.frozen 4
      simp at rc0 rc1 rc2 rc3 rc4
      go_upto_region 11 with fail
      clear kc0 kz0 kc1 kz1 kc2 kz2 kc3 kz3 kc4 kz4 rc0 rz0 rc1 rz1 rc2 rz2 rc3 rz3 rc4 rz4
      have K2 := Lib.hid (K1.out.put 3 (.int .i64 0))
      simp only [List.setIfInBounds_toArray, List.set_cons_zero, List.set_cons_succ] at K2
      have R2 := Lib.hid (R1.out.far (p := ⟨p, 3, none⟩) (hrp) (.int .i64 0))
      have B2 := Lib.hid (B1.out.setCell (p := ⟨p, 3, none⟩) (Nat.le_refl p) (.int .i64 0))
      clear K1 R1 B1
      generalize w1.setCell ⟨p, 3, none⟩ (.int .i64 0) = w2 at *
      have kc0 := K2.out.cell 0
      have kz0 := K2.out.frozen 0
      have kc1 := K2.out.cell 1
      have kz1 := K2.out.frozen 1
      have kc2 := K2.out.cell 2
      have kz2 := K2.out.frozen 2
      have kc3 := K2.out.cell 3
      have kz3 := K2.out.frozen 3
      have kc4 := K2.out.cell 4
      have kz4 := K2.out.frozen 4
      simp at kc0 kc1 kc2 kc3 kc4
      have rc0 := R2.out.cell 0
      have rz0 := R2.out.frozen 0
      have rc1 := R2.out.cell 1
      have rz1 := R2.out.frozen 1
      have rc2 := R2.out.cell 2
      have rz2 := R2.out.frozen 2
      have rc3 := R2.out.cell 3
      have rz3 := R2.out.frozen 3
      have rc4 := R2.out.cell 4
      have rz4 := R2.out.frozen 4
      simp at rc0 rc1 rc2 rc3 rc4
      go_upto_region 12 with fail
      clear kc0 kz0 kc1 kz1 kc2 kz2 kc3 kz3 kc4 kz4 rc0 rz0 rc1 rz1 rc2 rz2 rc3 rz3 rc4 rz4
      have K3 := Lib.hid (K2.out.put 4 (.int .i64 0))
      simp only [List.setIfInBounds_toArray, List.set_cons_zero, List.set_cons_succ] at K3
      have R3 := Lib.hid (R2.out.far (p := ⟨p, 4, none⟩) (hrp) (.int .i64 0))
      have B3 := Lib.hid (B2.out.setCell (p := ⟨p, 4, none⟩) (Nat.le_refl p) (.int .i64 0))
      clear K2 R2 B2
      generalize w2.setCell ⟨p, 4, none⟩ (.int .i64 0) = w3 at *
      have kc0 := K3.out.cell 0
      have kz0 := K3.out.frozen 0
      have kc1 := K3.out.cell 1
      have kz1 := K3.out.frozen 1
      have kc2 := K3.out.cell 2
      have kz2 := K3.out.frozen 2
      have kc3 := K3.out.cell 3
      have kz3 := K3.out.frozen 3
      have kc4 := K3.out.cell 4
      have kz4 := K3.out.frozen 4
      simp at kc0 kc1 kc2 kc3 kc4
      have rc0 := R3.out.cell 0
      have rz0 := R3.out.frozen 0
      have rc1 := R3.out.cell 1
      have rz1 := R3.out.frozen 1
      have rc2 := R3.out.cell 2
      have rz2 := R3.out.frozen 2
      have rc3 := R3.out.cell 3
      have rz3 := R3.out.frozen 3
      have rc4 := R3.out.cell 4
      have rz4 := R3.out.frozen 4
      simp at rc0 rc1 rc2 rc3 rc4
      go_wp2_with fail
      have KF := blk_put5 (v0 := .int .i64 i.self) (v1 := .int .i64 i.prio) (v2 := .int .i64 1) (v3 := .int .i64 0) (v4 := .int .i64 0) R3.out
      have BF := below_put5 (v0 := .int .i64 i.self) (v1 := .int .i64 i.prio) (v2 := .int .i64 1) (v3 := .int .i64 0) (v4 := .int .i64 0) B3.out hwr
      clear kc0 kz0 kc1 kz1 kc2 kz2 kc3 kz3 kc4 kz4 rc0 rz0 rc1 rz1 rc2 rz2 rc3 rz3 rc4 rz4
      generalize (((((w3.setCell ⟨r, 0, none⟩ (.int .i64 i.self)).setCell ⟨r, 1, none⟩ (.int .i64 i.prio)).setCell ⟨r, 2, none⟩ (.int .i64 1)).setCell ⟨r, 3, none⟩ (.int .i64 0)).setCell ⟨r, 4, none⟩ (.int .i64 0)) = wz at *
      have f0 := KF.five.1
      have f1 := KF.five.2.1
      have f2 := KF.five.2.2.1
      have f3 := KF.five.2.2.2.1
      have f4 := KF.five.2.2.2.2
      refine bodyPost_ret (v := .agg #[.int .i64 i.self, .int .i64 i.prio, .int .i64 1, .int .i64 0, .int .i64 0]) (by simp [results, Try.results10, go_sem, *]) rfl ?_
      exact ⟨HF.out, hp ▸ BF⟩

    · have HF := Lib.hid (show Ending.returned (.agg #[.int .i64 i.self, .int .i64 i.prio, .int .i64 2, .int .i64 0, .int .i64 0]) = .returned (.agg #[.int .i64 (upI i).self, .int .i64 (upI i).prio, .int .i64 (upI i).state, .int .i64 (upI i).dr, .int .i64 (upI i).bdr]) by simp [upI, h3])
      have hx := HX.out
      rw [step_up h2] at hx
      have d0 : (e == 1) = false := by
        rw [beq_eq_false_iff_ne]
        omega
      have d1 : (i.state == 0) = true := by
        rw [beq_iff_eq]
        omega
      have d2 : (e == 0) = true := by
        rw [beq_iff_eq]
        omega
      have d3 : decide (i.prio ≤ 0) = true := by
        rw [decide_eq_true_iff]
        omega
      subst hx
      clear h1 h2 h3
      have kc0 := K0.out.cell 0
      have kz0 := K0.out.frozen 0
      have kc1 := K0.out.cell 1
      have kz1 := K0.out.frozen 1
      have kc2 := K0.out.cell 2
      have kz2 := K0.out.frozen 2
      have kc3 := K0.out.cell 3
      have kz3 := K0.out.frozen 3
      have kc4 := K0.out.cell 4
      have kz4 := K0.out.frozen 4
      simp at kc0 kc1 kc2 kc3 kc4
      have rc0 := R0.out.cell 0
      have rz0 := R0.out.frozen 0
      have rc1 := R0.out.cell 1
      have rz1 := R0.out.frozen 1
      have rc2 := R0.out.cell 2
      have rz2 := R0.out.frozen 2
      have rc3 := R0.out.cell 3
      have rz3 := R0.out.frozen 3
      have rc4 := R0.out.cell 4
      have rz4 := R0.out.frozen 4
      simp at rc0 rc1 rc2 rc3 rc4
      go_upto_region 8 with fail
      clear kc0 kz0 kc1 kz1 kc2 kz2 kc3 kz3 kc4 kz4 rc0 rz0 rc1 rz1 rc2 rz2 rc3 rz3 rc4 rz4
      have K1 := Lib.hid (K0.out.put 2 (.int .i64 1))
      simp only [List.setIfInBounds_toArray, List.set_cons_zero, List.set_cons_succ] at K1
      have R1 := Lib.hid (R0.out.far (p := ⟨p, 2, none⟩) (hrp) (.int .i64 1))
      have B1 := Lib.hid (B0.out.setCell (p := ⟨p, 2, none⟩) (Nat.le_refl p) (.int .i64 1))
      clear K0 R0 B0
      generalize w0.setCell ⟨p, 2, none⟩ (.int .i64 1) = w1 at *
      have kc0 := K1.out.cell 0
      have kz0 := K1.out.frozen 0
      have kc1 := K1.out.cell 1
      have kz1 := K1.out.frozen 1
      have kc2 := K1.out.cell 2
      have kz2 := K1.out.frozen 2
      have kc3 := K1.out.cell 3
      have kz3 := K1.out.frozen 3
      have kc4 := K1.out.cell 4
      have kz4 := K1.out.frozen 4
      simp at kc0 kc1 kc2 kc3 kc4
      have rc0 := R1.out.cell 0
      have rz0 := R1.out.frozen 0
      have rc1 := R1.out.cell 1
      have rz1 := R1.out.frozen 1
      have rc2 := R1.out.cell 2
      have rz2 := R1.out.frozen 2
      have rc3 := R1.out.cell 3
      have rz3 := R1.out.frozen 3
      have rc4 := R1.out.cell 4
      have rz4 := R1.out.frozen 4
      simp at rc0 rc1 rc2 rc3 rc4
      go_upto_region 10 with fail
      clear kc0 kz0 kc1 kz1 kc2 kz2 kc3 kz3 kc4 kz4 rc0 rz0 rc1 rz1 rc2 rz2 rc3 rz3 rc4 rz4
      have K2 := Lib.hid (K1.out.put 2 (.int .i64 2))
      simp only [List.setIfInBounds_toArray, List.set_cons_zero, List.set_cons_succ] at K2
      have R2 := Lib.hid (R1.out.far (p := ⟨p, 2, none⟩) (hrp) (.int .i64 2))
      have B2 := Lib.hid (B1.out.setCell (p := ⟨p, 2, none⟩) (Nat.le_refl p) (.int .i64 2))
      clear K1 R1 B1
      generalize w1.setCell ⟨p, 2, none⟩ (.int .i64 2) = w2 at *
      have kc0 := K2.out.cell 0
      have kz0 := K2.out.frozen 0
      have kc1 := K2.out.cell 1
      have kz1 := K2.out.frozen 1
      have kc2 := K2.out.cell 2
      have kz2 := K2.out.frozen 2
      have kc3 := K2.out.cell 3
      have kz3 := K2.out.frozen 3
      have kc4 := K2.out.cell 4
      have kz4 := K2.out.frozen 4
      simp at kc0 kc1 kc2 kc3 kc4
      have rc0 := R2.out.cell 0
      have rz0 := R2.out.frozen 0
      have rc1 := R2.out.cell 1
      have rz1 := R2.out.frozen 1
      have rc2 := R2.out.cell 2
      have rz2 := R2.out.frozen 2
      have rc3 := R2.out.cell 3
      have rz3 := R2.out.frozen 3
      have rc4 := R2.out.cell 4
      have rz4 := R2.out.frozen 4
      simp at rc0 rc1 rc2 rc3 rc4
      go_upto_region 11 with fail
      clear kc0 kz0 kc1 kz1 kc2 kz2 kc3 kz3 kc4 kz4 rc0 rz0 rc1 rz1 rc2 rz2 rc3 rz3 rc4 rz4
      have K3 := Lib.hid (K2.out.put 3 (.int .i64 0))
      simp only [List.setIfInBounds_toArray, List.set_cons_zero, List.set_cons_succ] at K3
      have R3 := Lib.hid (R2.out.far (p := ⟨p, 3, none⟩) (hrp) (.int .i64 0))
      have B3 := Lib.hid (B2.out.setCell (p := ⟨p, 3, none⟩) (Nat.le_refl p) (.int .i64 0))
      clear K2 R2 B2
      generalize w2.setCell ⟨p, 3, none⟩ (.int .i64 0) = w3 at *
      have kc0 := K3.out.cell 0
      have kz0 := K3.out.frozen 0
      have kc1 := K3.out.cell 1
      have kz1 := K3.out.frozen 1
      have kc2 := K3.out.cell 2
      have kz2 := K3.out.frozen 2
      have kc3 := K3.out.cell 3
      have kz3 := K3.out.frozen 3
      have kc4 := K3.out.cell 4
      have kz4 := K3.out.frozen 4
      simp at kc0 kc1 kc2 kc3 kc4
      have rc0 := R3.out.cell 0
      have rz0 := R3.out.frozen 0
      have rc1 := R3.out.cell 1
      have rz1 := R3.out.frozen 1
      have rc2 := R3.out.cell 2
      have rz2 := R3.out.frozen 2
      have rc3 := R3.out.cell 3
      have rz3 := R3.out.frozen 3
      have rc4 := R3.out.cell 4
      have rz4 := R3.out.frozen 4
      simp at rc0 rc1 rc2 rc3 rc4
      go_upto_region 12 with fail
      clear kc0 kz0 kc1 kz1 kc2 kz2 kc3 kz3 kc4 kz4 rc0 rz0 rc1 rz1 rc2 rz2 rc3 rz3 rc4 rz4
      have K4 := Lib.hid (K3.out.put 4 (.int .i64 0))
      simp only [List.setIfInBounds_toArray, List.set_cons_zero, List.set_cons_succ] at K4
      have R4 := Lib.hid (R3.out.far (p := ⟨p, 4, none⟩) (hrp) (.int .i64 0))
      have B4 := Lib.hid (B3.out.setCell (p := ⟨p, 4, none⟩) (Nat.le_refl p) (.int .i64 0))
      clear K3 R3 B3
      generalize w3.setCell ⟨p, 4, none⟩ (.int .i64 0) = w4 at *
      have kc0 := K4.out.cell 0
      have kz0 := K4.out.frozen 0
      have kc1 := K4.out.cell 1
      have kz1 := K4.out.frozen 1
      have kc2 := K4.out.cell 2
      have kz2 := K4.out.frozen 2
      have kc3 := K4.out.cell 3
      have kz3 := K4.out.frozen 3
      have kc4 := K4.out.cell 4
      have kz4 := K4.out.frozen 4
      simp at kc0 kc1 kc2 kc3 kc4
      have rc0 := R4.out.cell 0
      have rz0 := R4.out.frozen 0
      have rc1 := R4.out.cell 1
      have rz1 := R4.out.frozen 1
      have rc2 := R4.out.cell 2
      have rz2 := R4.out.frozen 2
      have rc3 := R4.out.cell 3
      have rz3 := R4.out.frozen 3
      have rc4 := R4.out.cell 4
      have rz4 := R4.out.frozen 4
      simp at rc0 rc1 rc2 rc3 rc4
      go_wp2_with fail
      have KF := blk_put5 (v0 := .int .i64 i.self) (v1 := .int .i64 i.prio) (v2 := .int .i64 2) (v3 := .int .i64 0) (v4 := .int .i64 0) R4.out
      have BF := below_put5 (v0 := .int .i64 i.self) (v1 := .int .i64 i.prio) (v2 := .int .i64 2) (v3 := .int .i64 0) (v4 := .int .i64 0) B4.out hwr
      clear kc0 kz0 kc1 kz1 kc2 kz2 kc3 kz3 kc4 kz4 rc0 rz0 rc1 rz1 rc2 rz2 rc3 rz3 rc4 rz4
      generalize (((((w4.setCell ⟨r, 0, none⟩ (.int .i64 i.self)).setCell ⟨r, 1, none⟩ (.int .i64 i.prio)).setCell ⟨r, 2, none⟩ (.int .i64 2)).setCell ⟨r, 3, none⟩ (.int .i64 0)).setCell ⟨r, 4, none⟩ (.int .i64 0)) = wz at *
      have f0 := KF.five.1
      have f1 := KF.five.2.1
      have f2 := KF.five.2.2.1
      have f3 := KF.five.2.2.2.1
      have f4 := KF.five.2.2.2.2
      refine bodyPost_ret (v := .agg #[.int .i64 i.self, .int .i64 i.prio, .int .i64 2, .int .i64 0, .int .i64 0]) (by simp [results, Try.results10, go_sem, *]) rfl ?_
      exact ⟨HF.out, hp ▸ BF⟩

  by_cases h4 : votes i.state e
  · have h5 := h4
    unfold votes at h5
    by_cases h6 : i.state = 1
    · by_cases h7 : e = 2
      · skip
        have hx := HX.out
        rw [step_vote h4] at hx
        have d0 : (e == 1) = false := by
          rw [beq_eq_false_iff_ne]
          omega
        have d1 : (i.state == 0) = false := by
          rw [beq_eq_false_iff_ne]
          omega
        have d2 : (i.state == 1) = true := by
          rw [beq_iff_eq]
          omega
        have d3 : (e == 2) = true := by
          rw [beq_iff_eq]
          omega
        have hcon := Lib.hid (rvote_any (c := c) i P0.out (show p ≤ w0.heap.size by omega) hn HAP.out)
        rw [← hx] at hcon
        clear hx
        clear h1 h2 h4 h5 h6 h7
        have kc0 := K0.out.cell 0
        have kz0 := K0.out.frozen 0
        have kc1 := K0.out.cell 1
        have kz1 := K0.out.frozen 1
        have kc2 := K0.out.cell 2
        have kz2 := K0.out.frozen 2
        have kc3 := K0.out.cell 3
        have kz3 := K0.out.frozen 3
        have kc4 := K0.out.cell 4
        have kz4 := K0.out.frozen 4
        simp at kc0 kc1 kc2 kc3 kc4
        have rc0 := R0.out.cell 0
        have rz0 := R0.out.frozen 0
        have rc1 := R0.out.cell 1
        have rz1 := R0.out.frozen 1
        have rc2 := R0.out.cell 2
        have rz2 := R0.out.frozen 2
        have rc3 := R0.out.cell 3
        have rz3 := R0.out.frozen 3
        have rc4 := R0.out.cell 4
        have rz4 := R0.out.frozen 4
        simp at rc0 rc1 rc2 rc3 rc4
        go_wp2_with fail
        refine hcon.out.mono ?_
        rintro e1 w1 ⟨rfl, hb1⟩
        have K1 := Lib.hid (K0.out.below hb1 hk0)
        have R1 := Lib.hid (R0.out.below hb1 hr0)
        have B1 := Lib.hid (B0.out.trans (hb1.mono (show p ≤ w0.heap.size by omega)))
        clear hb1 K0 R0 B0 hk0 hr0 P0
        clear kc0 kz0 kc1 kz1 kc2 kz2 kc3 kz3 kc4 kz4 rc0 rz0 rc1 rz1 rc2 rz2 rc3 rz3 rc4 rz4
        have kc0 := K1.out.cell 0
        have kz0 := K1.out.frozen 0
        have kc1 := K1.out.cell 1
        have kz1 := K1.out.frozen 1
        have kc2 := K1.out.cell 2
        have kz2 := K1.out.frozen 2
        have kc3 := K1.out.cell 3
        have kz3 := K1.out.frozen 3
        have kc4 := K1.out.cell 4
        have kz4 := K1.out.frozen 4
        simp at kc0 kc1 kc2 kc3 kc4
        have rc0 := R1.out.cell 0
        have rz0 := R1.out.frozen 0
        have rc1 := R1.out.cell 1
        have rz1 := R1.out.frozen 1
        have rc2 := R1.out.cell 2
        have rz2 := R1.out.frozen 2
        have rc3 := R1.out.cell 3
        have rz3 := R1.out.frozen 3
        have rc4 := R1.out.cell 4
        have rz4 := R1.out.frozen 4
        simp at rc0 rc1 rc2 rc3 rc4
        go_wp2_with fail
        have KF := blk_put5 (v0 := .int .i64 x.self) (v1 := .int .i64 x.prio) (v2 := .int .i64 x.state) (v3 := .int .i64 x.dr) (v4 := .int .i64 x.bdr) R1.out
        have BF := below_put5 (v0 := .int .i64 x.self) (v1 := .int .i64 x.prio) (v2 := .int .i64 x.state) (v3 := .int .i64 x.dr) (v4 := .int .i64 x.bdr) B1.out hwr
        clear kc0 kz0 kc1 kz1 kc2 kz2 kc3 kz3 kc4 kz4 rc0 rz0 rc1 rz1 rc2 rz2 rc3 rz3 rc4 rz4
        generalize (((((w1.setCell ⟨r, 0, none⟩ (.int .i64 x.self)).setCell ⟨r, 1, none⟩ (.int .i64 x.prio)).setCell ⟨r, 2, none⟩ (.int .i64 x.state)).setCell ⟨r, 3, none⟩ (.int .i64 x.dr)).setCell ⟨r, 4, none⟩ (.int .i64 x.bdr)) = wz at *
        have f0 := KF.five.1
        have f1 := KF.five.2.1
        have f2 := KF.five.2.2.1
        have f3 := KF.five.2.2.2.1
        have f4 := KF.five.2.2.2.2
        refine bodyPost_ret (v := .agg #[.int .i64 x.self, .int .i64 x.prio, .int .i64 x.state, .int .i64 x.dr, .int .i64 x.bdr]) (by simp [results, Try.results10, go_sem, *]) rfl ?_
        exact ⟨rfl, hp ▸ BF⟩

      · skip
        have hx := HX.out
        rw [step_vote h4] at hx
        have d0 : (e == 1) = false := by
          rw [beq_eq_false_iff_ne]
          omega
        have d1 : (i.state == 0) = false := by
          rw [beq_eq_false_iff_ne]
          omega
        have d2 : (i.state == 1) = true := by
          rw [beq_iff_eq]
          omega
        have d3 : (e == 2) = false := by
          rw [beq_eq_false_iff_ne]
          omega
        have d4 : (e == 3) = true := by
          rw [beq_iff_eq]
          omega
        have hcon := Lib.hid (rvote_any (c := c) i P0.out (show p ≤ w0.heap.size by omega) hn HAP.out)
        rw [← hx] at hcon
        clear hx
        clear h1 h2 h4 h5 h6 h7
        have kc0 := K0.out.cell 0
        have kz0 := K0.out.frozen 0
        have kc1 := K0.out.cell 1
        have kz1 := K0.out.frozen 1
        have kc2 := K0.out.cell 2
        have kz2 := K0.out.frozen 2
        have kc3 := K0.out.cell 3
        have kz3 := K0.out.frozen 3
        have kc4 := K0.out.cell 4
        have kz4 := K0.out.frozen 4
        simp at kc0 kc1 kc2 kc3 kc4
        have rc0 := R0.out.cell 0
        have rz0 := R0.out.frozen 0
        have rc1 := R0.out.cell 1
        have rz1 := R0.out.frozen 1
        have rc2 := R0.out.cell 2
        have rz2 := R0.out.frozen 2
        have rc3 := R0.out.cell 3
        have rz3 := R0.out.frozen 3
        have rc4 := R0.out.cell 4
        have rz4 := R0.out.frozen 4
        simp at rc0 rc1 rc2 rc3 rc4
        go_wp2_with fail
        refine hcon.out.mono ?_
        rintro e1 w1 ⟨rfl, hb1⟩
        have K1 := Lib.hid (K0.out.below hb1 hk0)
        have R1 := Lib.hid (R0.out.below hb1 hr0)
        have B1 := Lib.hid (B0.out.trans (hb1.mono (show p ≤ w0.heap.size by omega)))
        clear hb1 K0 R0 B0 hk0 hr0 P0
        clear kc0 kz0 kc1 kz1 kc2 kz2 kc3 kz3 kc4 kz4 rc0 rz0 rc1 rz1 rc2 rz2 rc3 rz3 rc4 rz4
        have kc0 := K1.out.cell 0
        have kz0 := K1.out.frozen 0
        have kc1 := K1.out.cell 1
        have kz1 := K1.out.frozen 1
        have kc2 := K1.out.cell 2
        have kz2 := K1.out.frozen 2
        have kc3 := K1.out.cell 3
        have kz3 := K1.out.frozen 3
        have kc4 := K1.out.cell 4
        have kz4 := K1.out.frozen 4
        simp at kc0 kc1 kc2 kc3 kc4
        have rc0 := R1.out.cell 0
        have rz0 := R1.out.frozen 0
        have rc1 := R1.out.cell 1
        have rz1 := R1.out.frozen 1
        have rc2 := R1.out.cell 2
        have rz2 := R1.out.frozen 2
        have rc3 := R1.out.cell 3
        have rz3 := R1.out.frozen 3
        have rc4 := R1.out.cell 4
        have rz4 := R1.out.frozen 4
        simp at rc0 rc1 rc2 rc3 rc4
        go_wp2_with fail
        have KF := blk_put5 (v0 := .int .i64 x.self) (v1 := .int .i64 x.prio) (v2 := .int .i64 x.state) (v3 := .int .i64 x.dr) (v4 := .int .i64 x.bdr) R1.out
        have BF := below_put5 (v0 := .int .i64 x.self) (v1 := .int .i64 x.prio) (v2 := .int .i64 x.state) (v3 := .int .i64 x.dr) (v4 := .int .i64 x.bdr) B1.out hwr
        clear kc0 kz0 kc1 kz1 kc2 kz2 kc3 kz3 kc4 kz4 rc0 rz0 rc1 rz1 rc2 rz2 rc3 rz3 rc4 rz4
        generalize (((((w1.setCell ⟨r, 0, none⟩ (.int .i64 x.self)).setCell ⟨r, 1, none⟩ (.int .i64 x.prio)).setCell ⟨r, 2, none⟩ (.int .i64 x.state)).setCell ⟨r, 3, none⟩ (.int .i64 x.dr)).setCell ⟨r, 4, none⟩ (.int .i64 x.bdr)) = wz at *
        have f0 := KF.five.1
        have f1 := KF.five.2.1
        have f2 := KF.five.2.2.1
        have f3 := KF.five.2.2.2.1
        have f4 := KF.five.2.2.2.2
        refine bodyPost_ret (v := .agg #[.int .i64 x.self, .int .i64 x.prio, .int .i64 x.state, .int .i64 x.dr, .int .i64 x.bdr]) (by simp [results, Try.results10, go_sem, *]) rfl ?_
        exact ⟨rfl, hp ▸ BF⟩

    · skip
      have hx := HX.out
      rw [step_vote h4] at hx
      have d0 : (e == 1) = false := by
        rw [beq_eq_false_iff_ne]
        omega
      have d1 : (i.state == 0) = false := by
        rw [beq_eq_false_iff_ne]
        omega
      have d2 : (i.state == 1) = false := by
        rw [beq_eq_false_iff_ne]
        omega
      have d3 : decide (2 ≤ i.state) = true := by
        rw [decide_eq_true_iff]
        omega
      have d4 : decide (i.state ≤ 4) = true := by
        rw [decide_eq_true_iff]
        omega
      have d5 : (e == 4) = true := by
        rw [beq_iff_eq]
        omega
      have hcon := Lib.hid (rvote_any (c := c) i P0.out (show p ≤ w0.heap.size by omega) hn HAP.out)
      rw [← hx] at hcon
      clear hx
      clear h1 h2 h4 h5 h6
      have kc0 := K0.out.cell 0
      have kz0 := K0.out.frozen 0
      have kc1 := K0.out.cell 1
      have kz1 := K0.out.frozen 1
      have kc2 := K0.out.cell 2
      have kz2 := K0.out.frozen 2
      have kc3 := K0.out.cell 3
      have kz3 := K0.out.frozen 3
      have kc4 := K0.out.cell 4
      have kz4 := K0.out.frozen 4
      simp at kc0 kc1 kc2 kc3 kc4
      have rc0 := R0.out.cell 0
      have rz0 := R0.out.frozen 0
      have rc1 := R0.out.cell 1
      have rz1 := R0.out.frozen 1
      have rc2 := R0.out.cell 2
      have rz2 := R0.out.frozen 2
      have rc3 := R0.out.cell 3
      have rz3 := R0.out.frozen 3
      have rc4 := R0.out.cell 4
      have rz4 := R0.out.frozen 4
      simp at rc0 rc1 rc2 rc3 rc4
      go_wp2_with fail
      refine hcon.out.mono ?_
      rintro e1 w1 ⟨rfl, hb1⟩
      have K1 := Lib.hid (K0.out.below hb1 hk0)
      have R1 := Lib.hid (R0.out.below hb1 hr0)
      have B1 := Lib.hid (B0.out.trans (hb1.mono (show p ≤ w0.heap.size by omega)))
      clear hb1 K0 R0 B0 hk0 hr0 P0
      clear kc0 kz0 kc1 kz1 kc2 kz2 kc3 kz3 kc4 kz4 rc0 rz0 rc1 rz1 rc2 rz2 rc3 rz3 rc4 rz4
      have kc0 := K1.out.cell 0
      have kz0 := K1.out.frozen 0
      have kc1 := K1.out.cell 1
      have kz1 := K1.out.frozen 1
      have kc2 := K1.out.cell 2
      have kz2 := K1.out.frozen 2
      have kc3 := K1.out.cell 3
      have kz3 := K1.out.frozen 3
      have kc4 := K1.out.cell 4
      have kz4 := K1.out.frozen 4
      simp at kc0 kc1 kc2 kc3 kc4
      have rc0 := R1.out.cell 0
      have rz0 := R1.out.frozen 0
      have rc1 := R1.out.cell 1
      have rz1 := R1.out.frozen 1
      have rc2 := R1.out.cell 2
      have rz2 := R1.out.frozen 2
      have rc3 := R1.out.cell 3
      have rz3 := R1.out.frozen 3
      have rc4 := R1.out.cell 4
      have rz4 := R1.out.frozen 4
      simp at rc0 rc1 rc2 rc3 rc4
      go_wp2_with fail
      have KF := blk_put5 (v0 := .int .i64 x.self) (v1 := .int .i64 x.prio) (v2 := .int .i64 x.state) (v3 := .int .i64 x.dr) (v4 := .int .i64 x.bdr) R1.out
      have BF := below_put5 (v0 := .int .i64 x.self) (v1 := .int .i64 x.prio) (v2 := .int .i64 x.state) (v3 := .int .i64 x.dr) (v4 := .int .i64 x.bdr) B1.out hwr
      clear kc0 kz0 kc1 kz1 kc2 kz2 kc3 kz3 kc4 kz4 rc0 rz0 rc1 rz1 rc2 rz2 rc3 rz3 rc4 rz4
      generalize (((((w1.setCell ⟨r, 0, none⟩ (.int .i64 x.self)).setCell ⟨r, 1, none⟩ (.int .i64 x.prio)).setCell ⟨r, 2, none⟩ (.int .i64 x.state)).setCell ⟨r, 3, none⟩ (.int .i64 x.dr)).setCell ⟨r, 4, none⟩ (.int .i64 x.bdr)) = wz at *
      have f0 := KF.five.1
      have f1 := KF.five.2.1
      have f2 := KF.five.2.2.1
      have f3 := KF.five.2.2.2.1
      have f4 := KF.five.2.2.2.2
      refine bodyPost_ret (v := .agg #[.int .i64 x.self, .int .i64 x.prio, .int .i64 x.state, .int .i64 x.dr, .int .i64 x.bdr]) (by simp [results, Try.results10, go_sem, *]) rfl ?_
      exact ⟨rfl, hp ▸ BF⟩

  · have h5 := h4
    unfold votes at h5
    by_cases h6 : i.state = 0
    · skip
      have hx := HX.out
      rw [step_still h1 h2 h4] at hx
      have d0 : (e == 1) = false := by
        rw [beq_eq_false_iff_ne]
        omega
      have d1 : (i.state == 0) = true := by
        rw [beq_iff_eq]
        omega
      have d2 : (e == 0) = false := by
        rw [beq_eq_false_iff_ne]
        omega
      have d3 : (i.state == 1) = false := by
        rw [beq_eq_false_iff_ne]
        omega
      have d4 : decide (2 ≤ i.state) = false := by
        rw [decide_eq_false_iff_not]
        omega
      clear HX
      subst x
      clear h1 h2 h4 h5 h6
      have kc0 := K0.out.cell 0
      have kz0 := K0.out.frozen 0
      have kc1 := K0.out.cell 1
      have kz1 := K0.out.frozen 1
      have kc2 := K0.out.cell 2
      have kz2 := K0.out.frozen 2
      have kc3 := K0.out.cell 3
      have kz3 := K0.out.frozen 3
      have kc4 := K0.out.cell 4
      have kz4 := K0.out.frozen 4
      simp at kc0 kc1 kc2 kc3 kc4
      have rc0 := R0.out.cell 0
      have rz0 := R0.out.frozen 0
      have rc1 := R0.out.cell 1
      have rz1 := R0.out.frozen 1
      have rc2 := R0.out.cell 2
      have rz2 := R0.out.frozen 2
      have rc3 := R0.out.cell 3
      have rz3 := R0.out.frozen 3
      have rc4 := R0.out.cell 4
      have rz4 := R0.out.frozen 4
      simp at rc0 rc1 rc2 rc3 rc4
      go_wp2_with fail
      have KF := blk_put5 (v0 := .int .i64 i.self) (v1 := .int .i64 i.prio) (v2 := .int .i64 i.state) (v3 := .int .i64 i.dr) (v4 := .int .i64 i.bdr) R0.out
      have BF := below_put5 (v0 := .int .i64 i.self) (v1 := .int .i64 i.prio) (v2 := .int .i64 i.state) (v3 := .int .i64 i.dr) (v4 := .int .i64 i.bdr) B0.out hwr
      clear kc0 kz0 kc1 kz1 kc2 kz2 kc3 kz3 kc4 kz4 rc0 rz0 rc1 rz1 rc2 rz2 rc3 rz3 rc4 rz4
      generalize (((((w0.setCell ⟨r, 0, none⟩ (.int .i64 i.self)).setCell ⟨r, 1, none⟩ (.int .i64 i.prio)).setCell ⟨r, 2, none⟩ (.int .i64 i.state)).setCell ⟨r, 3, none⟩ (.int .i64 i.dr)).setCell ⟨r, 4, none⟩ (.int .i64 i.bdr)) = wz at *
      have f0 := KF.five.1
      have f1 := KF.five.2.1
      have f2 := KF.five.2.2.1
      have f3 := KF.five.2.2.2.1
      have f4 := KF.five.2.2.2.2
      refine bodyPost_ret (v := .agg #[.int .i64 i.self, .int .i64 i.prio, .int .i64 i.state, .int .i64 i.dr, .int .i64 i.bdr]) (by simp [results, Try.results10, go_sem, *]) rfl ?_
      exact ⟨rfl, hp ▸ BF⟩

    by_cases h7 : i.state = 1
    · skip
      have hx := HX.out
      rw [step_still h1 h2 h4] at hx
      have d0 : (e == 1) = false := by
        rw [beq_eq_false_iff_ne]
        omega
      have d1 : (i.state == 0) = false := by
        rw [beq_eq_false_iff_ne]
        omega
      have d2 : (i.state == 1) = true := by
        rw [beq_iff_eq]
        omega
      have d3 : (e == 2) = false := by
        rw [beq_eq_false_iff_ne]
        omega
      have d4 : (e == 3) = false := by
        rw [beq_eq_false_iff_ne]
        omega
      have d5 : decide (2 ≤ i.state) = false := by
        rw [decide_eq_false_iff_not]
        omega
      clear HX
      subst x
      clear h1 h2 h4 h5 h6 h7
      have kc0 := K0.out.cell 0
      have kz0 := K0.out.frozen 0
      have kc1 := K0.out.cell 1
      have kz1 := K0.out.frozen 1
      have kc2 := K0.out.cell 2
      have kz2 := K0.out.frozen 2
      have kc3 := K0.out.cell 3
      have kz3 := K0.out.frozen 3
      have kc4 := K0.out.cell 4
      have kz4 := K0.out.frozen 4
      simp at kc0 kc1 kc2 kc3 kc4
      have rc0 := R0.out.cell 0
      have rz0 := R0.out.frozen 0
      have rc1 := R0.out.cell 1
      have rz1 := R0.out.frozen 1
      have rc2 := R0.out.cell 2
      have rz2 := R0.out.frozen 2
      have rc3 := R0.out.cell 3
      have rz3 := R0.out.frozen 3
      have rc4 := R0.out.cell 4
      have rz4 := R0.out.frozen 4
      simp at rc0 rc1 rc2 rc3 rc4
      go_wp2_with fail
      have KF := blk_put5 (v0 := .int .i64 i.self) (v1 := .int .i64 i.prio) (v2 := .int .i64 i.state) (v3 := .int .i64 i.dr) (v4 := .int .i64 i.bdr) R0.out
      have BF := below_put5 (v0 := .int .i64 i.self) (v1 := .int .i64 i.prio) (v2 := .int .i64 i.state) (v3 := .int .i64 i.dr) (v4 := .int .i64 i.bdr) B0.out hwr
      clear kc0 kz0 kc1 kz1 kc2 kz2 kc3 kz3 kc4 kz4 rc0 rz0 rc1 rz1 rc2 rz2 rc3 rz3 rc4 rz4
      generalize (((((w0.setCell ⟨r, 0, none⟩ (.int .i64 i.self)).setCell ⟨r, 1, none⟩ (.int .i64 i.prio)).setCell ⟨r, 2, none⟩ (.int .i64 i.state)).setCell ⟨r, 3, none⟩ (.int .i64 i.dr)).setCell ⟨r, 4, none⟩ (.int .i64 i.bdr)) = wz at *
      have f0 := KF.five.1
      have f1 := KF.five.2.1
      have f2 := KF.five.2.2.1
      have f3 := KF.five.2.2.2.1
      have f4 := KF.five.2.2.2.2
      refine bodyPost_ret (v := .agg #[.int .i64 i.self, .int .i64 i.prio, .int .i64 i.state, .int .i64 i.dr, .int .i64 i.bdr]) (by simp [results, Try.results10, go_sem, *]) rfl ?_
      exact ⟨rfl, hp ▸ BF⟩

    by_cases h8 : 2 ≤ i.state
    · by_cases h9 : i.state ≤ 4
      · skip
        have hx := HX.out
        rw [step_still h1 h2 h4] at hx
        have d0 : (e == 1) = false := by
          rw [beq_eq_false_iff_ne]
          omega
        have d1 : (i.state == 0) = false := by
          rw [beq_eq_false_iff_ne]
          omega
        have d2 : (i.state == 1) = false := by
          rw [beq_eq_false_iff_ne]
          omega
        have d3 : decide (2 ≤ i.state) = true := by
          rw [decide_eq_true_iff]
          omega
        have d4 : decide (i.state ≤ 4) = true := by
          rw [decide_eq_true_iff]
          omega
        have d5 : (e == 4) = false := by
          rw [beq_eq_false_iff_ne]
          omega
        clear HX
        subst x
        clear h1 h2 h4 h5 h6 h7 h8 h9
        have kc0 := K0.out.cell 0
        have kz0 := K0.out.frozen 0
        have kc1 := K0.out.cell 1
        have kz1 := K0.out.frozen 1
        have kc2 := K0.out.cell 2
        have kz2 := K0.out.frozen 2
        have kc3 := K0.out.cell 3
        have kz3 := K0.out.frozen 3
        have kc4 := K0.out.cell 4
        have kz4 := K0.out.frozen 4
        simp at kc0 kc1 kc2 kc3 kc4
        have rc0 := R0.out.cell 0
        have rz0 := R0.out.frozen 0
        have rc1 := R0.out.cell 1
        have rz1 := R0.out.frozen 1
        have rc2 := R0.out.cell 2
        have rz2 := R0.out.frozen 2
        have rc3 := R0.out.cell 3
        have rz3 := R0.out.frozen 3
        have rc4 := R0.out.cell 4
        have rz4 := R0.out.frozen 4
        simp at rc0 rc1 rc2 rc3 rc4
        go_wp2_with fail
        have KF := blk_put5 (v0 := .int .i64 i.self) (v1 := .int .i64 i.prio) (v2 := .int .i64 i.state) (v3 := .int .i64 i.dr) (v4 := .int .i64 i.bdr) R0.out
        have BF := below_put5 (v0 := .int .i64 i.self) (v1 := .int .i64 i.prio) (v2 := .int .i64 i.state) (v3 := .int .i64 i.dr) (v4 := .int .i64 i.bdr) B0.out hwr
        clear kc0 kz0 kc1 kz1 kc2 kz2 kc3 kz3 kc4 kz4 rc0 rz0 rc1 rz1 rc2 rz2 rc3 rz3 rc4 rz4
        generalize (((((w0.setCell ⟨r, 0, none⟩ (.int .i64 i.self)).setCell ⟨r, 1, none⟩ (.int .i64 i.prio)).setCell ⟨r, 2, none⟩ (.int .i64 i.state)).setCell ⟨r, 3, none⟩ (.int .i64 i.dr)).setCell ⟨r, 4, none⟩ (.int .i64 i.bdr)) = wz at *
        have f0 := KF.five.1
        have f1 := KF.five.2.1
        have f2 := KF.five.2.2.1
        have f3 := KF.five.2.2.2.1
        have f4 := KF.five.2.2.2.2
        refine bodyPost_ret (v := .agg #[.int .i64 i.self, .int .i64 i.prio, .int .i64 i.state, .int .i64 i.dr, .int .i64 i.bdr]) (by simp [results, Try.results10, go_sem, *]) rfl ?_
        exact ⟨rfl, hp ▸ BF⟩

      · skip
        have hx := HX.out
        rw [step_still h1 h2 h4] at hx
        have d0 : (e == 1) = false := by
          rw [beq_eq_false_iff_ne]
          omega
        have d1 : (i.state == 0) = false := by
          rw [beq_eq_false_iff_ne]
          omega
        have d2 : (i.state == 1) = false := by
          rw [beq_eq_false_iff_ne]
          omega
        have d3 : decide (2 ≤ i.state) = true := by
          rw [decide_eq_true_iff]
          omega
        have d4 : decide (i.state ≤ 4) = false := by
          rw [decide_eq_false_iff_not]
          omega
        clear HX
        subst x
        clear h1 h2 h4 h5 h6 h7 h8 h9
        have kc0 := K0.out.cell 0
        have kz0 := K0.out.frozen 0
        have kc1 := K0.out.cell 1
        have kz1 := K0.out.frozen 1
        have kc2 := K0.out.cell 2
        have kz2 := K0.out.frozen 2
        have kc3 := K0.out.cell 3
        have kz3 := K0.out.frozen 3
        have kc4 := K0.out.cell 4
        have kz4 := K0.out.frozen 4
        simp at kc0 kc1 kc2 kc3 kc4
        have rc0 := R0.out.cell 0
        have rz0 := R0.out.frozen 0
        have rc1 := R0.out.cell 1
        have rz1 := R0.out.frozen 1
        have rc2 := R0.out.cell 2
        have rz2 := R0.out.frozen 2
        have rc3 := R0.out.cell 3
        have rz3 := R0.out.frozen 3
        have rc4 := R0.out.cell 4
        have rz4 := R0.out.frozen 4
        simp at rc0 rc1 rc2 rc3 rc4
        go_wp2_with fail
        have KF := blk_put5 (v0 := .int .i64 i.self) (v1 := .int .i64 i.prio) (v2 := .int .i64 i.state) (v3 := .int .i64 i.dr) (v4 := .int .i64 i.bdr) R0.out
        have BF := below_put5 (v0 := .int .i64 i.self) (v1 := .int .i64 i.prio) (v2 := .int .i64 i.state) (v3 := .int .i64 i.dr) (v4 := .int .i64 i.bdr) B0.out hwr
        clear kc0 kz0 kc1 kz1 kc2 kz2 kc3 kz3 kc4 kz4 rc0 rz0 rc1 rz1 rc2 rz2 rc3 rz3 rc4 rz4
        generalize (((((w0.setCell ⟨r, 0, none⟩ (.int .i64 i.self)).setCell ⟨r, 1, none⟩ (.int .i64 i.prio)).setCell ⟨r, 2, none⟩ (.int .i64 i.state)).setCell ⟨r, 3, none⟩ (.int .i64 i.dr)).setCell ⟨r, 4, none⟩ (.int .i64 i.bdr)) = wz at *
        have f0 := KF.five.1
        have f1 := KF.five.2.1
        have f2 := KF.five.2.2.1
        have f3 := KF.five.2.2.2.1
        have f4 := KF.five.2.2.2.2
        refine bodyPost_ret (v := .agg #[.int .i64 i.self, .int .i64 i.prio, .int .i64 i.state, .int .i64 i.dr, .int .i64 i.bdr]) (by simp [results, Try.results10, go_sem, *]) rfl ?_
        exact ⟨rfl, hp ▸ BF⟩

    · skip
      have hx := HX.out
      rw [step_still h1 h2 h4] at hx
      have d0 : (e == 1) = false := by
        rw [beq_eq_false_iff_ne]
        omega
      have d1 : (i.state == 0) = false := by
        rw [beq_eq_false_iff_ne]
        omega
      have d2 : (i.state == 1) = false := by
        rw [beq_eq_false_iff_ne]
        omega
      have d3 : decide (2 ≤ i.state) = false := by
        rw [decide_eq_false_iff_not]
        omega
      clear HX
      subst x
      clear h1 h2 h4 h5 h6 h7 h8
      have kc0 := K0.out.cell 0
      have kz0 := K0.out.frozen 0
      have kc1 := K0.out.cell 1
      have kz1 := K0.out.frozen 1
      have kc2 := K0.out.cell 2
      have kz2 := K0.out.frozen 2
      have kc3 := K0.out.cell 3
      have kz3 := K0.out.frozen 3
      have kc4 := K0.out.cell 4
      have kz4 := K0.out.frozen 4
      simp at kc0 kc1 kc2 kc3 kc4
      have rc0 := R0.out.cell 0
      have rz0 := R0.out.frozen 0
      have rc1 := R0.out.cell 1
      have rz1 := R0.out.frozen 1
      have rc2 := R0.out.cell 2
      have rz2 := R0.out.frozen 2
      have rc3 := R0.out.cell 3
      have rz3 := R0.out.frozen 3
      have rc4 := R0.out.cell 4
      have rz4 := R0.out.frozen 4
      simp at rc0 rc1 rc2 rc3 rc4
      go_wp2_with fail
      have KF := blk_put5 (v0 := .int .i64 i.self) (v1 := .int .i64 i.prio) (v2 := .int .i64 i.state) (v3 := .int .i64 i.dr) (v4 := .int .i64 i.bdr) R0.out
      have BF := below_put5 (v0 := .int .i64 i.self) (v1 := .int .i64 i.prio) (v2 := .int .i64 i.state) (v3 := .int .i64 i.dr) (v4 := .int .i64 i.bdr) B0.out hwr
      clear kc0 kz0 kc1 kz1 kc2 kz2 kc3 kz3 kc4 kz4 rc0 rz0 rc1 rz1 rc2 rz2 rc3 rz3 rc4 rz4
      generalize (((((w0.setCell ⟨r, 0, none⟩ (.int .i64 i.self)).setCell ⟨r, 1, none⟩ (.int .i64 i.prio)).setCell ⟨r, 2, none⟩ (.int .i64 i.state)).setCell ⟨r, 3, none⟩ (.int .i64 i.dr)).setCell ⟨r, 4, none⟩ (.int .i64 i.bdr)) = wz at *
      have f0 := KF.five.1
      have f1 := KF.five.2.1
      have f2 := KF.five.2.2.1
      have f3 := KF.five.2.2.2.1
      have f4 := KF.five.2.2.2.2
      refine bodyPost_ret (v := .agg #[.int .i64 i.self, .int .i64 i.prio, .int .i64 i.state, .int .i64 i.dr, .int .i64 i.bdr]) (by simp [results, Try.results10, go_sem, *]) rfl ?_
      exact ⟨rfl, hp ▸ BF⟩

end Go.Proofs.Ytedlkoecnnmihaa