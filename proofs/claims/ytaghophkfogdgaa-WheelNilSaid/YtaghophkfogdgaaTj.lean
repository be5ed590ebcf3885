/- The document's Cancel. Conditions: what the words say; at most 1000 entries. -/
import Derived.Test.YtaghophkfogdgaaTi
namespace Go.Proofs.Ytaghophkfogdgaa
open Go.RowKit

def cancelE (E : List En) (t : Tm) : List En := E.filter fun e => !decide (e.t = t)
theorem filter_next {α : Type} {f : α → Bool} {E : List α} {j : Nat} {x : α} (h : E[j]? = some x) : (E.take (j + 1)).filter f = (E.take j).filter f ++ (if f x then [x] else []) := by
  rw [take_snocA E j x h, List.filter_append]
  cases hf : f x <;> simp [hf]
theorem cancelE_len (E : List En) (t : Tm) : (cancelE E t).length ≤ E.length := List.length_filter_le _ _
set_option maxRecDepth 8000 in
set_option maxHeartbeats 4000000 in
theorem cancel_ref {w : World} {lo q : Nat} {E : List En} {t : Tm} (h : RWh w lo q E) (hE : ∀ e ∈ E, wfTm e.t) (ht : wfTm t) (hn : E.length ≤ 1000) (hlo : lo ≤ w.heap.size) : Calls Try.prog 11 #[.pointer (some ⟨q, 0, none⟩), .agg #[.int .i64 t.kind, .int .i64 t.lan, .int .i64 t.id, .int .i64 t.kk, .int .i64 t.ki, .int .i64 t.ka]] w
    fun e w' => e = .returned (.bool (decide ((cancelE E t).length < E.length))) ∧ RWh w' lo q (cancelE E t) ∧ Chg (fun k => k = q) w w' := by
  obtain ⟨A, n, c, hB, hO⟩ := h
  have hl := own_len encEn_len (by omega) hO
  generalize hQ : (fun (e : Ending) (w' : World) => e = .returned (.bool (decide ((cancelE E t).length < E.length))) ∧ RWh w' lo q (cancelE E t) ∧ Chg (fun k => k = q) w w') = Q
  have HQ := Lib.hid hQ
  have HO := Lib.hid hO
  have HB := Lib.hid hB
  have HE := Lib.hid hE
  have HLO := Lib.hid hlo
  have hgl := hB.lt
  clear hQ hO hB hE hlo
  have B0 := Lib.hid ((Below.refl w.heap.size w).alloc (Nat.le_refl _) (.cells #[.int .i64 t.kind, .int .i64 t.lan, .int .i64 t.id, .int .i64 t.kk, .int .i64 t.ki, .int .i64 t.ka] 33))
  have K0 := Lib.hid (Blk.new w 33 #[.int .i64 t.kind, .int .i64 t.lan, .int .i64 t.id, .int .i64 t.kk, .int .i64 t.ki, .int .i64 t.ka])
  go_enter Try.func11, Try.ntmps11
  go_wp2_with fail
  generalize hw0 : w.alloc (.cells #[.int .i64 t.kind, .int .i64 t.lan, .int .i64 t.id, .int .i64 t.kk, .int .i64 t.ki, .int .i64 t.ka] 33) = w0 at *
  have hs0 := B0.out.size
  have hlk := K0.out.lt
  have hgl0 : q < w0.heap.size := by omega
  clear hw0
  go_loopw [5, 6] (fun s5 s6 wr => ∃ (j m c' : Nat) (A' : Option Addr), j ≤ n ∧ s6 = .int .i64 j ∧ s5 = .slice A' m c' ∧ Hid (m ≤ j) ∧ Hid (wr.ownsRow w0.heap.size 48 7 (.slice A' m c') m (cellsBy encEn (cancelE (E.take j) t))) ∧ Hid (Below w0.heap.size w0 wr)) (fun _ i _ => n - (intOf i).toNat)
  case atStart => exact ⟨0, 0, 0, none, Nat.zero_le _, rfl, rfl, Lib.hid (Nat.le_refl _), Lib.hid (by exact World.ownsRow_nil _ _ _ _), Lib.hid (Below.refl _ _)⟩
  case round =>
    obtain ⟨j, m, c', A', hj, rfl, rfl, HMJ, HOW, hb⟩ := hrel
    have hsz := hb.out.size
    have HBr := Lib.hid (HB.out.below (B0.out.trans (hb.out.mono hs0)) hgl)
    have c0 := HBr.out.cell 0
    simp at c0
    by_cases hlt : j < n
    · have hlt' : (j : Int) < n := by omega
      obtain ⟨x, hx⟩ : ∃ x, E[j]? = some x := ⟨E[j]'(by omega), List.getElem?_eq_getElem (by omega)⟩
      obtain ⟨g, rfl, -, hgl2, hnc, hcm, y0, y1, y2, y3, y4, y5, y6⟩ := own_en (own_below2 HO.out (B0.out.trans (hb.out.mono hs0))) hx
      unfold maxLen at hcm
      obtain ⟨k0, k1, k2, k3, k4, k5⟩ := (K0.out.below hb.out hlk).six
      have heq := fun W => equal_tm (HE.out x (List.mem_of_getElem? hx)) ht W
      have HX := Lib.hid hx
      clear hx
      by_cases hxt : x.t = t
      · have hd : decide (x.t = t) = true := decide_eq_true hxt
        have HF := Lib.hid (show cancelE (E.take (j + 1)) t = cancelE (E.take j) t by unfold cancelE; rw [filter_next HX.out, hd]; simp)
        clear hxt
        rw [hd] at heq
        clear hd
        go_wp2_with fail
        go_quiet (fail)
        go_wp2
        go_roundw
        case rel =>
          refine ⟨j + 1, m, c', A', by omega, by go_num, rfl, Lib.hid (by have := HMJ.out; omega), Lib.hid ?_, Lib.hid (below_drewN hb.out _)⟩
          rw [HF.out]
          exact HOW.out
        case measure => simp [intOf]; omega
      · have hd : decide (x.t = t) = false := decide_eq_false hxt
        have HF := Lib.hid (show cancelE (E.take (j + 1)) t = cancelE (E.take j) t ++ [x] by unfold cancelE; rw [filter_next HX.out, hd]; simp)
        clear hxt
        rw [hd] at heq
        clear hd
        go_wp2_with fail
        go_quiet (fail)
        have hbq := Lib.hid (below_drewN hb.out nq)
        have HOQ := Lib.hid (show (wr.drewN nq).ownsRow w0.heap.size 48 7 (.slice A' m c') m (cellsBy encEn (cancelE (E.take j) t)) from HOW.out)
        clear k0 k1 k2 k3 k4 k5 heq
        go_wp2_with (at_builtin; refine wpList_append_any rfl (.tmp 27) (.tmp 35) 27 48 (.agg #[.int .i64 0, .int .i64 0, .int .i64 0, .int .i64 0, .int .i64 0, .int .i64 0, .int .i64 0]) 7 56 Try.underlying27 infoEn8 rfl (by decide) (by decide) rfl w0.heap.size (.slice A' m c') m (cellsBy encEn (cancelE (E.take j) t)) (by rfl) (HOQ.out.alloc _) (some ⟨(wr.drewN nq).heap.size, 0, none⟩) 1 1 (encEn x) (by rfl) (by rfl) (fun h => by cases h) (news_new (wr.drewN nq) 48 (encEn x)) (encEn_ones x) (by have := HMJ.out; omega) (by have := hbq.out.size; simp at *; omega) ?_; intro v2 w2 ho2 hg2)
        obtain ⟨A2, c2, rfl⟩ := own_slice ho2.out
        have HB2 := Lib.hid ((hbq.out.alloc hbq.out.size (.cells (encEn x).toArray 48)).grown hg2.out (by have := hbq.out.size; simp at *; omega) (fun i hi => by have := (HOQ.out.lt i hi).1; omega))
        have HO2 := Lib.hid (show w2.ownsRow w0.heap.size 48 7 (.slice A2 (m + 1) c2) (m + 1) (cellsBy encEn (cancelE (E.take (j + 1)) t)) by
          rw [HF.out, by_append, by_one]
          exact ho2.out)
        clear ho2 hg2 c0 y0 y1 y2 y3 y4 y5 y6
        go_wp2
        go_roundw
        case rel => exact ⟨j + 1, m + 1, c2, A2, by omega, by go_num, rfl, Lib.hid (by have := HMJ.out; omega), HO2, HB2⟩
        case measure => simp [intOf]; omega
    · have hjn : j = n := by omega
      have hT : E.take j = E := by rw [hjn, ← hl, List.take_length]
      rw [hT] at HOW
      have hm := own_len encEn_len (by omega) HOW.out
      have HRB := Lib.hid (show decide ((cancelE E t).length < E.length) = decide (m < n) by rw [hm, hl])
      have HW := Lib.hid (own_not HOW.out (.inl hgl0))
      have c0f := HBr.out.frozen 0
      have hqr := HBr.out.lt
      clear hjn hT hm
      go_wp2
      show Q (.returned (.bool (decide (m < n)))) (wr.setCell ⟨q, 0, none⟩ (.slice A' m c'))
      rw [← HQ.out]
      refine ⟨by rw [HRB.out], ⟨A', m, c', HBr.out.put 0 _, own_low (own_ne HOW.out _ _ HW.out) (by have := HLO.out; omega)⟩, Chg.setCell (F := fun k => k = q) (Chg.of_below (B0.out.trans (hb.out.mono hs0))) ⟨q, 0, none⟩ rfl _⟩
end Go.Proofs.Ytaghophkfogdgaa
