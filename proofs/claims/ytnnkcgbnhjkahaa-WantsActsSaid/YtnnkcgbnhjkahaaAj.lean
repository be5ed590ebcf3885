/- The example of the statements of stage 15: four are added, three are asked for. No conditions. -/
import Derived.Test.YtnnkcgbnhjkahaaAi
namespace Go.Proofs.Ytnnkcgbnhjkahaa
open Go.RowKit Go.Lib Go.Sort Go.Deep

def ex15 (i : Int) : Hd := ⟨0, 0, i, 0, 0, 0, 0⟩
theorem ex15_adds : addsH [] [ex15 4, ex15 3, ex15 2, ex15 1] = [ex15 1, ex15 2, ex15 3, ex15 4] := by decide
theorem wfKy_ex (i : Int) (h : 0 ≤ i) (h' : i ≤ 4) : wfKy (keyH (ex15 i)) := by
  unfold wfKy keyH ex15
  simp only
  omega
theorem ageB_ex (i : Int) : ageB (ex15 i) = true := by
  rw [ageB_iff]
  show (0 : Int) ≤ 0 ∧ (0 : Int) ≤ 60
  omega
theorem own_row4 (w : World) (cs : List Value) (L : List Hd) (h : cs = cellsBy encHd L) (n : Nat) (hn : L.length = n) : Hds (w.alloc (.cells cs.toArray 38)) (w.heap.size + 1) (some ⟨w.heap.size, 0, none⟩) n L := by
  subst h
  refine ⟨hn, fun _ => ⟨w.heap.size, 0, rfl, Nat.lt_succ_self _, fun j x hx => ?_⟩⟩
  have hB := Blk.new w 38 (cellsBy encHd L).toArray
  have hat : ∀ i, i < 7 → (w.alloc (.cells (cellsBy encHd L).toArray 38)).cell? ⟨w.heap.size, 0 + j * 7 + i, none⟩ = (encHd x)[i]? := fun i hi => by
    rw [hB.cell, Nat.zero_add, List.getElem?_toArray, by_at encHd_len L j x hx i hi]
  exact ⟨hat 0 (by omega), hat 1 (by omega), hat 2 (by omega), hat 3 (by omega), hat 4 (by omega), hat 5 (by omega), hat 6 (by omega)⟩
set_option maxRecDepth 8000 in
set_option maxHeartbeats 4000000 in
theorem wakes_any (w : World) : Calls Try.prog 8 #[] w fun e w' => e = .returned (.bool true) ∧ Below w.heap.size w w' := by
  go_enter Try.func8, Try.ntmps8
  go_wp2_with fail
  refine (new_w _).mono ?_
  rintro e1 w1 ⟨p, b, rfl, hb1, hP1, hp, hbb⟩
  have B1 := Lib.hid hb1
  have P1 := Lib.hid hP1
  have HPB := Lib.hid (show w.heap.size ≤ p ∧ w.heap.size ≤ b from ⟨hp, hbb⟩)
  clear hb1 hP1 hp hbb
  have H4 := own_row4 w1 [.int .i64 0, .int .i64 0, .int .i64 4, .int .i64 0, .int .i64 0, .int .i64 0, .int .i64 0, .int .i64 0, .int .i64 0, .int .i64 3, .int .i64 0, .int .i64 0, .int .i64 0, .int .i64 0, .int .i64 0, .int .i64 0, .int .i64 2, .int .i64 0, .int .i64 0, .int .i64 0, .int .i64 0, .int .i64 0, .int .i64 0, .int .i64 1, .int .i64 0, .int .i64 0, .int .i64 0, .int .i64 0] [ex15 4, ex15 3, ex15 2, ex15 1] rfl 4 rfl
  have H4H := Lib.hid H4
  clear H4
  have B2 := Lib.hid (B1.out.alloc B1.out.size (.cells #[.int .i64 0, .int .i64 0, .int .i64 4, .int .i64 0, .int .i64 0, .int .i64 0, .int .i64 0, .int .i64 0, .int .i64 0, .int .i64 3, .int .i64 0, .int .i64 0, .int .i64 0, .int .i64 0, .int .i64 0, .int .i64 0, .int .i64 2, .int .i64 0, .int .i64 0, .int .i64 0, .int .i64 0, .int .i64 0, .int .i64 0, .int .i64 1, .int .i64 0, .int .i64 0, .int .i64 0, .int .i64 0] 38))
  have P2 := Lib.hid (P1.out.below ((Below.refl w1.heap.size w1).alloc (Nat.le_refl _) (.cells #[.int .i64 0, .int .i64 0, .int .i64 4, .int .i64 0, .int .i64 0, .int .i64 0, .int .i64 0, .int .i64 0, .int .i64 0, .int .i64 3, .int .i64 0, .int .i64 0, .int .i64 0, .int .i64 0, .int .i64 0, .int .i64 0, .int .i64 2, .int .i64 0, .int .i64 0, .int .i64 0, .int .i64 0, .int .i64 0, .int .i64 0, .int .i64 1, .int .i64 0, .int .i64 0, .int .i64 0, .int .i64 0] 38)))
  go_wp2_with fail
  refine (add_w P2.out H4H.out (by simp) (by omega) (by simp) (fun x hx => ?_) (fun x hx => ?_) (fun x hx => by cases hx)).mono ?_
  · simp only [List.mem_cons, List.not_mem_nil, or_false] at hx
    rcases hx with rfl | rfl | rfl | rfl <;> exact wfKy_ex _ (by omega) (by omega)
  · simp only [List.mem_cons, List.not_mem_nil, or_false] at hx
    rcases hx with rfl | rfl | rfl | rfl <;> exact ageB_ex _
  rintro e3 w3 ⟨rfl, hP3, hc3⟩
  rw [ex15_adds] at hP3 ⊢
  have P3 := Lib.hid hP3
  have B3 := Lib.hid (B2.out.trans (hc3.to_below (fun q hq => by rw [hq]; exact HPB.out.2) B2.out.size))
  clear hP3 hc3 P2 B2 H4H P1 B1
  generalize w1.alloc _ = w2 at *
  have e4 : (([ex15 1, ex15 2, ex15 3, ex15 4] : List Hd).length : Int) = 4 := rfl
  rw [e4]
  clear e4
  go_wp2_with fail
  refine (ask_w P3.out (by simp)).mono ?_
  rintro e5 w5 ⟨A, m, c, rfl, hb5, ho5⟩
  have hm : m = 3 := by
    have := ho5.1
    rw [kyCells_length] at this
    simp at this
    omega
  subst hm
  obtain ⟨g, rfl, -, hgl, hnc, hcm, y0, y1, y2⟩ := own_ky (j := 0) ho5 rfl
  have y1' : w5.cell? ⟨g, 1, none⟩ = some (.int .i64 1) := y1
  have B5 := Lib.hid (B3.out.trans (hb5.mono B3.out.size))
  clear hb5 ho5 y0 y1 y2
  go_wp2
  go_ret
  exact ⟨rfl, B5.out⟩
end Go.Proofs.Ytnnkcgbnhjkahaa
