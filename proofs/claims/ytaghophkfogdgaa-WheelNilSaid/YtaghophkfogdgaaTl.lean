/- The document's Due. Conditions: what the words say; at most 1000 entries. -/
import Derived.Test.YtaghophkfogdgaaTk
namespace Go.Proofs.Ytaghophkfogdgaa
open Go.RowKit

def dueE (E : List En) (z : Int) : List Tm := (E.filter fun e => decide (e.tick ≤ z)).map (·.t)
def restE (E : List En) (z : Int) : List En := E.filter fun e => !decide (e.tick ≤ z)
set_option maxRecDepth 8000 in
set_option maxHeartbeats 4000000 in
theorem due_ref {w : World} {lo q : Nat} {E : List En} (z : Int) (h : RWh w lo q E) (hn : E.length ≤ 1000) (hlo : lo ≤ w.heap.size) : Calls Try.prog 14 #[.pointer (some ⟨q, 0, none⟩), .int .i64 z] w
    fun e w' => (∃ (A' : Option Addr) (m c' : Nat), e = .returned (.slice A' m c') ∧ w'.ownsRow w.heap.size 33 6 (.slice A' m c') m (cellsBy encTm (dueE E z))) ∧ RWh w' lo q (restE E z) ∧ Chg (fun k => k = q) w w' := by
  obtain ⟨A, n, c, hB, hO⟩ := h
  have hl := own_len encEn_len (by omega) hO
  generalize hQ : (fun (e : Ending) (w' : World) => (∃ (A' : Option Addr) (m c' : Nat), e = .returned (.slice A' m c') ∧ w'.ownsRow w.heap.size 33 6 (.slice A' m c') m (cellsBy encTm (dueE E z))) ∧ RWh w' lo q (restE E z) ∧ Chg (fun k => k = q) w w') = Q
  have HQ := Lib.hid hQ
  have HO := Lib.hid hO
  have HB := Lib.hid hB
  have HLO := Lib.hid hlo
  have hgl := hB.lt
  clear hQ hO hB hlo
  go_enter Try.func14, Try.ntmps14
  go_wp2_with fail
  go_loopw [5, 6, 7] (fun s5 s6 s7 wr => ∃ (j m c' m2 c2 : Nat) (A' A2 : Option Addr), j ≤ n ∧ s7 = .int .i64 j ∧ s5 = .slice A' m c' ∧ s6 = .slice A2 m2 c2 ∧ Hid (m ≤ j ∧ m2 ≤ j) ∧ Hid (wr.ownsRow w.heap.size 33 6 (.slice A' m c') m (cellsBy encTm (dueE (E.take j) z))) ∧ Hid (wr.ownsRow w.heap.size 48 7 (.slice A2 m2 c2) m2 (cellsBy encEn (restE (E.take j) z))) ∧ Hid (Below w.heap.size w wr)) (fun _ _ i _ => n - (intOf i).toNat)
  case atStart => exact ⟨0, 0, 0, 0, 0, none, none, Nat.zero_le _, rfl, rfl, rfl, Lib.hid ⟨Nat.le_refl _, Nat.le_refl _⟩, Lib.hid (by exact World.ownsRow_nil _ _ _ _), Lib.hid (by exact World.ownsRow_nil _ _ _ _), Lib.hid (Below.refl _ _)⟩
  case round =>
    obtain ⟨j, m, c', m2, c2, A', A2, hj, rfl, rfl, rfl, HMJ, HOW, HOR, hb⟩ := hrel
    have hsz := hb.out.size
    have HBr := Lib.hid (HB.out.below hb.out hgl)
    have c0 := HBr.out.cell 0
    simp at c0
    by_cases hlt : j < n
    · have hlt' : (j : Int) < n := by omega
      obtain ⟨x, hx⟩ : ∃ x, E[j]? = some x := ⟨E[j]'(by omega), List.getElem?_eq_getElem (by omega)⟩
      obtain ⟨g, rfl, -, hgl2, hnc, hcm, y0, y1, y2, y3, y4, y5, y6⟩ := own_en (own_below2 HO.out hb.out) hx
      unfold maxLen at hcm
      have HX := Lib.hid hx
      clear hx
      by_cases hxz : x.tick ≤ z
      · have HF := Lib.hid (show dueE (E.take (j + 1)) z = dueE (E.take j) z ++ [x.t] ∧ restE (E.take (j + 1)) z = restE (E.take j) z by
          unfold dueE restE
          rw [filter_next HX.out, filter_next HX.out]
          simp [hxz])
        go_wp2_with (at_builtin; refine wpList_append_any rfl (.tmp 27) (.tmp 36) 41 33 (.agg #[.int .i64 0, .int .i64 0, .int .i64 0, .int .i64 0, .int .i64 0, .int .i64 0]) 6 48 Try.underlying41 infoTm8 rfl (by decide) (by decide) rfl w.heap.size (.slice A' m c') m (cellsBy encTm (dueE (E.take j) z)) (by rfl) (HOW.out.alloc _) (some ⟨wr.heap.size, 0, none⟩) 1 1 (encTm x.t) (by rfl) (by rfl) (fun h => by cases h) (news_new wr 33 (encTm x.t)) (encTm_ones x.t) (by have := HMJ.out.1; omega) (by have := hb.out.size; simp at *; omega) ?_; intro v3 w3 ho3 hg3)
        obtain ⟨A3, c3, rfl⟩ := own_slice ho3.out
        have HB2 := Lib.hid ((hb.out.alloc hb.out.size (.cells (encTm x.t).toArray 33)).grown hg3.out (by have := hb.out.size; simp at *; omega) (fun i hi => by have := (HOW.out.lt i hi).1; omega))
        have HO2 := Lib.hid (show w3.ownsRow w.heap.size 33 6 (.slice A3 (m + 1) c3) (m + 1) (cellsBy encTm (dueE (E.take (j + 1)) z)) by
          rw [HF.out.1, by_append, by_one]
          exact ho3.out)
        have HR2 := Lib.hid (show w3.ownsRow w.heap.size 48 7 (.slice A2 m2 c2) m2 (cellsBy encEn (restE (E.take (j + 1)) z)) by
          rw [HF.out.2]
          exact (HOR.out.alloc (.cells (encTm x.t).toArray 33)).kept hg3.out (own_apart HOW.out HOR.out (by decide)))
        clear ho3 hg3 c0 y0 y1 y2 y3 y4 y5 y6
        go_wp2
        go_roundw
        case rel => exact ⟨j + 1, m + 1, c3, m2, c2, A3, A2, by omega, by go_num, rfl, rfl, Lib.hid (by have := HMJ.out; omega), HO2, HR2, HB2⟩
        case measure => simp [intOf]; omega
      · have HF := Lib.hid (show dueE (E.take (j + 1)) z = dueE (E.take j) z ∧ restE (E.take (j + 1)) z = restE (E.take j) z ++ [x] by
          unfold dueE restE
          rw [filter_next HX.out, filter_next HX.out]
          simp [hxz])
        go_wp2_with (at_builtin; refine wpList_append_any rfl (.tmp 38) (.tmp 46) 27 48 (.agg #[.int .i64 0, .int .i64 0, .int .i64 0, .int .i64 0, .int .i64 0, .int .i64 0, .int .i64 0]) 7 56 Try.underlying27 infoEn8 rfl (by decide) (by decide) rfl w.heap.size (.slice A2 m2 c2) m2 (cellsBy encEn (restE (E.take j) z)) (by rfl) (HOR.out.alloc _) (some ⟨wr.heap.size, 0, none⟩) 1 1 (encEn x) (by rfl) (by rfl) (fun h => by cases h) (news_new wr 48 (encEn x)) (encEn_ones x) (by have := HMJ.out.2; omega) (by have := hb.out.size; simp at *; omega) ?_; intro v3 w3 ho3 hg3)
        obtain ⟨A3, c3, rfl⟩ := own_slice ho3.out
        have HB2 := Lib.hid ((hb.out.alloc hb.out.size (.cells (encEn x).toArray 48)).grown hg3.out (by have := hb.out.size; simp at *; omega) (fun i hi => by have := (HOR.out.lt i hi).1; omega))
        have HR2 := Lib.hid (show w3.ownsRow w.heap.size 48 7 (.slice A3 (m2 + 1) c3) (m2 + 1) (cellsBy encEn (restE (E.take (j + 1)) z)) by
          rw [HF.out.2, by_append, by_one]
          exact ho3.out)
        have HO2 := Lib.hid (show w3.ownsRow w.heap.size 33 6 (.slice A' m c') m (cellsBy encTm (dueE (E.take (j + 1)) z)) by
          rw [HF.out.1]
          exact (HOW.out.alloc (.cells (encEn x).toArray 48)).kept hg3.out (own_apart HOR.out HOW.out (by decide)))
        clear ho3 hg3 c0 y0 y1 y2 y3 y4 y5 y6
        go_wp2
        go_roundw
        case rel => exact ⟨j + 1, m, c', m2 + 1, c3, A', A3, by omega, by go_num, rfl, rfl, Lib.hid (by have := HMJ.out; omega), HO2, HR2, HB2⟩
        case measure => simp [intOf]; omega
    · have hjn : j = n := by omega
      have hT : E.take j = E := by rw [hjn, ← hl, List.take_length]
      rw [hT] at HOW HOR
      have HW := Lib.hid (own_not HOW.out (.inl hgl))
      have HWR := Lib.hid (own_not HOR.out (.inl hgl))
      have c0f := HBr.out.frozen 0
      have hqr := HBr.out.lt
      clear hjn hT
      go_wp2
      show Q (.returned (.slice A' m c')) (wr.setCell ⟨q, 0, none⟩ (.slice A2 m2 c2))
      rw [← HQ.out]
      refine ⟨⟨A', m, c', rfl, own_ne HOW.out _ _ HW.out⟩, ⟨A2, m2, c2, HBr.out.put 0 _, own_low (own_ne HOR.out _ _ HWR.out) HLO.out⟩, Chg.setCell (F := fun k => k = q) (Chg.of_below hb.out) ⟨q, 0, none⟩ rfl _⟩
end Go.Proofs.Ytaghophkfogdgaa
