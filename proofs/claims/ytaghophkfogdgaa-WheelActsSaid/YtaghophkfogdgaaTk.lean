/- The document's Drop. Conditions: what the words say; at most 1000 entries. -/
import Derived.Test.YtaghophkfogdgaaTj
namespace Go.Proofs.Ytaghophkfogdgaa
open Go.RowKit

def dropE (E : List En) (z : Int) : List En := E.filter fun e => !decide (e.t.lan = z) || decide (z < 0)
theorem dropE_len (E : List En) (z : Int) : (dropE E z).length ≤ E.length := List.length_filter_le _ _
set_option maxRecDepth 8000 in
set_option maxHeartbeats 4000000 in
theorem drop_ref {w : World} {lo q : Nat} {E : List En} (z : Int) (h : RWh w lo q E) (hn : E.length ≤ 1000) (hlo : lo ≤ w.heap.size) : Calls Try.prog 16 #[.pointer (some ⟨q, 0, none⟩), .int .i64 z] w
    fun e w' => e = .returned (.int .i64 ((E.length : Int) - (dropE E z).length)) ∧ RWh w' lo q (dropE E z) ∧ Chg (fun k => k = q) w w' := by
  obtain ⟨A, n, c, hB, hO⟩ := h
  have hl := own_len encEn_len (by omega) hO
  generalize hQ : (fun (e : Ending) (w' : World) => e = .returned (.int .i64 ((E.length : Int) - (dropE E z).length)) ∧ RWh w' lo q (dropE E z) ∧ Chg (fun k => k = q) w w') = Q
  have HQ := Lib.hid hQ
  have HO := Lib.hid hO
  have HB := Lib.hid hB
  have HLO := Lib.hid hlo
  have hgl := hB.lt
  clear hQ hO hB hlo
  go_enter Try.func16, Try.ntmps16
  go_wp2_with fail
  go_loopw [5, 6] (fun s5 s6 wr => ∃ (j m c' : Nat) (A' : Option Addr), j ≤ n ∧ s6 = .int .i64 j ∧ s5 = .slice A' m c' ∧ Hid (m ≤ j) ∧ Hid (wr.ownsRow w.heap.size 48 7 (.slice A' m c') m (cellsBy encEn (dropE (E.take j) z))) ∧ Hid (Below w.heap.size w wr)) (fun _ i _ => n - (intOf i).toNat)
  case atStart => exact ⟨0, 0, 0, none, Nat.zero_le _, rfl, rfl, Lib.hid (Nat.le_refl _), Lib.hid (by exact World.ownsRow_nil _ _ _ _), Lib.hid (Below.refl _ _)⟩
  case round =>
    obtain ⟨j, m, c', A', hj, rfl, rfl, HMJ, HOW, hb⟩ := hrel
    have hsz := hb.out.size
    have HBr := Lib.hid (HB.out.below hb.out hgl)
    have c0 := HBr.out.cell 0
    simp at c0
    by_cases hlt : j < n
    · have hlt' : (j : Int) < n := by omega
      obtain ⟨x, hx⟩ : ∃ x, E[j]? = some x := ⟨E[j]'(by omega), List.getElem?_eq_getElem (by omega)⟩
      obtain ⟨g, rfl, -, hgl2, hnc, hcm, y0, y1, y2, y3, y4, y5, y6⟩ := own_en (own_below2 HO.out hb.out) hx
      unfold maxLen at hcm
      have HX := Lib.hid hx
      clear hx
      have hcase : (dropE (E.take (j + 1)) z = dropE (E.take j) z ∧ (x.t.lan != z) = false ∧ decide (z < 0) = false) ∨ (dropE (E.take (j + 1)) z = dropE (E.take j) z ++ [x] ∧ (x.t.lan != z) = true) ∨ (dropE (E.take (j + 1)) z = dropE (E.take j) z ++ [x] ∧ (x.t.lan != z) = false ∧ decide (z < 0) = true) := by
        unfold dropE
        rw [filter_next HX.out]
        by_cases e1 : x.t.lan = z
        · by_cases e2 : z < 0
          · exact .inr (.inr ⟨by simp [e1, e2], by simp [e1], by simp [e2]⟩)
          · exact .inl ⟨by simp [e1, e2], by simp [e1], by simp [e2]⟩
        · exact .inr (.inl ⟨by simp [e1], by simp [e1]⟩)
      rcases hcase with ⟨hf, d1, d2⟩ | ⟨hf, d1⟩ | ⟨hf, d1, d2⟩
      · have HF := Lib.hid hf
        clear hf
        go_wp2
        go_roundw
        case rel =>
          refine ⟨j + 1, m, c', A', by omega, by go_num, rfl, Lib.hid (by have := HMJ.out; omega), Lib.hid ?_, hb⟩
          rw [HF.out]
          exact HOW.out
        case measure => simp [intOf]; omega
      · have HF := Lib.hid hf
        clear hf
        go_wp2_with (at_builtin; refine wpList_append_any rfl (.tmp 32) (.tmp 40) 27 48 (.agg #[.int .i64 0, .int .i64 0, .int .i64 0, .int .i64 0, .int .i64 0, .int .i64 0, .int .i64 0]) 7 56 Try.underlying27 infoEn8 rfl (by decide) (by decide) rfl w.heap.size (.slice A' m c') m (cellsBy encEn (dropE (E.take j) z)) (by rfl) (HOW.out.alloc _) (some ⟨wr.heap.size, 0, none⟩) 1 1 (encEn x) (by rfl) (by rfl) (fun h => by cases h) (news_new wr 48 (encEn x)) (encEn_ones x) (by have := HMJ.out; omega) (by have := hb.out.size; simp at *; omega) ?_; intro v2 w2 ho2 hg2)
        obtain ⟨A2, c2, rfl⟩ := own_slice ho2.out
        have HB2 := Lib.hid ((hb.out.alloc hb.out.size (.cells (encEn x).toArray 48)).grown hg2.out (by have := hb.out.size; simp at *; omega) (fun i hi => by have := (HOW.out.lt i hi).1; omega))
        have HO2 := Lib.hid (show w2.ownsRow w.heap.size 48 7 (.slice A2 (m + 1) c2) (m + 1) (cellsBy encEn (dropE (E.take (j + 1)) z)) by
          rw [HF.out, by_append, by_one]
          exact ho2.out)
        clear ho2 hg2 c0 y0 y1 y2 y3 y4 y5 y6
        go_wp2
        go_roundw
        case rel => exact ⟨j + 1, m + 1, c2, A2, by omega, by go_num, rfl, Lib.hid (by have := HMJ.out; omega), HO2, HB2⟩
        case measure => simp [intOf]; omega
      · have HF := Lib.hid hf
        clear hf
        go_wp2_with (at_builtin; refine wpList_append_any rfl (.tmp 32) (.tmp 40) 27 48 (.agg #[.int .i64 0, .int .i64 0, .int .i64 0, .int .i64 0, .int .i64 0, .int .i64 0, .int .i64 0]) 7 56 Try.underlying27 infoEn8 rfl (by decide) (by decide) rfl w.heap.size (.slice A' m c') m (cellsBy encEn (dropE (E.take j) z)) (by rfl) (HOW.out.alloc _) (some ⟨wr.heap.size, 0, none⟩) 1 1 (encEn x) (by rfl) (by rfl) (fun h => by cases h) (news_new wr 48 (encEn x)) (encEn_ones x) (by have := HMJ.out; omega) (by have := hb.out.size; simp at *; omega) ?_; intro v2 w2 ho2 hg2)
        obtain ⟨A2, c2, rfl⟩ := own_slice ho2.out
        have HB2 := Lib.hid ((hb.out.alloc hb.out.size (.cells (encEn x).toArray 48)).grown hg2.out (by have := hb.out.size; simp at *; omega) (fun i hi => by have := (HOW.out.lt i hi).1; omega))
        have HO2 := Lib.hid (show w2.ownsRow w.heap.size 48 7 (.slice A2 (m + 1) c2) (m + 1) (cellsBy encEn (dropE (E.take (j + 1)) z)) by
          rw [HF.out, by_append, by_one]
          exact ho2.out)
        clear ho2 hg2 c0 y0 y1 y2 y3 y4 y5 y6
        go_wp2
        go_roundw
        case rel => exact ⟨j + 1, m + 1, c2, A2, by omega, by go_num, rfl, Lib.hid (by have := HMJ.out; omega), HO2, HB2⟩
        case measure => simp [intOf]; omega
    · have hjn : j = n := by omega
      have hT : E.take j = E := by rw [hjn, ← hl, List.take_length]
      rw [hT] at HOW
      have hm := own_len encEn_len (by omega) HOW.out
      have hle := dropE_len E z
      have HRB := Lib.hid (show ((E.length : Int) - (dropE E z).length) = (n : Int) - (m : Int) by rw [hm, hl])
      have HW := Lib.hid (own_not HOW.out (.inl hgl))
      have hmn : m ≤ n := by omega
      have c0f := HBr.out.frozen 0
      have hqr := HBr.out.lt
      clear hjn hT hm hle
      go_wp2
      show Q (.returned (.int .i64 ((n : Int) - (m : Int)))) (wr.setCell ⟨q, 0, none⟩ (.slice A' m c'))
      rw [← HQ.out]
      refine ⟨by rw [HRB.out], ⟨A', m, c', HBr.out.put 0 _, own_low (own_ne HOW.out _ _ HW.out) HLO.out⟩, Chg.setCell (F := fun k => k = q) (Chg.of_below hb.out) ⟨q, 0, none⟩ rfl _⟩
end Go.Proofs.Ytaghophkfogdgaa
