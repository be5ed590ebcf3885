/- The reference's Get: what is refused early, and its steps. Conditions: the slice reads as bytes, at most 500 of them. -/
import Derived.Test.YtidncajbedgplaaLtD
import Derived.Test.YtidncajbedgplaaLtP
import Derived.Test.YtidncajbedgplaaLtC
import Derived.Test.YtidncajbedgplaaFlC
import Derived.Deep.RegionLaw
import Derived.Deep.DrawnRows
namespace Go.Proofs.Ytidncajbedgplaa
open Go.RowKit
attribute [local go_sem ↓] Go.wp_at_zero Go.wp_at_succ

theorem headOf_take (l : List Int) (k : Nat) (h : 20 ≤ k) : headOf (l.take k) = headOf l := by
  unfold headOf
  rw [wordAt_take _ _ _ _ (by omega), wordAt_take _ _ _ _ (by omega), wordAt_take _ _ _ _ (by omega), wordAt_take _ _ _ _ (by omega), wordAt_take _ _ _ _ (by omega), wordAt_take _ _ _ _ (by omega), wordAt_take _ _ _ _ (by omega)]
theorem okHead_take (l : List Int) (k : Nat) (h : 20 ≤ k) : okHead (l.take k) = okHead l := by
  unfold okHead
  rw [headOf_take l k h]
  have e : (l.take k).getD 2 0 = l.getD 2 0 := by
    simp only [List.getD_eq_getElem?_getD, List.getElem?_take]
    rw [if_pos (by omega)]
  rw [e]
theorem gotR_zero {w w' : World} {e : Int} (hb : Below w.heap.size w w') : GotR w zeroHd [] [] e (.returned (.agg #[.int .i64 0, .int .i64 0, .int .i64 0, .int .i64 0, .int .i64 0, .int .i64 0, .int .i64 0, .slice none 0 0, .slice none 0 0, .int .i64 e])) w' := gotR_head (h := zeroHd) hb

set_option maxRecDepth 100000 in
set_option maxHeartbeats 8000000 in
theorem refGet_early (b0 o0 n c B : Nat) (l : List Int) (w : World) (hr : Row .u8 w B (some ⟨b0, o0, none⟩) n l) (hby : Byt l) (hB : B ≤ w.heap.size) (hn : 20 ≤ n) (hn2 : n ≤ 500) (hnc : n ≤ c) (hc : c ≤ maxLen) (e : Int) (he : (longOf l < 20 ∧ e = 4) ∨ (20 ≤ longOf l ∧ n < longOf l ∧ e = 3) ∨ (20 ≤ longOf l ∧ longOf l ≤ n ∧ wholeB ((getT l).drop 2) = false ∧ e = 5)) :
    Calls Try.prog 19 #[.slice (some ⟨b0, o0, none⟩) n c] w (GotR w zeroHd [] [] e) := by
  generalize hQ : GotR w zeroHd [] [] e = Q
  have HQ := Lib.hid hQ
  have HE := Lib.hid he
  clear hQ he
  have HCm := Lib.hid hc
  have HLEN := Lib.hid hr.1
  have HY := Lib.hid hby
  have hbd := wordAt_bd l hby 18 2 (by rw [hr.1]; omega)
  rw [show (256 : Int) ^ 2 = 65536 by decide] at hbd
  obtain ⟨q, hq⟩ : ∃ q, longOf l = q := ⟨_, rfl⟩
  have hq2 : (headOf l).long = (q : Int) := by rw [← hq]; show wordAt l 18 2 = _; unfold longOf; omega
  have hq3 : q < 65536 := by rw [← hq]; unfold longOf; omega
  have HQQ := Lib.hid hq
  have HR0 := Lib.hid (hr.alloc hB (.cells #[.int .i64 0, .int .i64 0, .int .i64 0, .int .i64 0, .int .i64 0, .int .i64 0, .int .i64 0, .slice none 0 0, .slice none 0 0, .int .i64 0] 42))
  have KA0 := Lib.hid (Blk.new w 42 #[.int .i64 0, .int .i64 0, .int .i64 0, .int .i64 0, .int .i64 0, .int .i64 0, .int .i64 0, .slice none 0 0, .slice none 0 0, .int .i64 0])
  have BW0 := Lib.hid ((Below.refl w.heap.size w).alloc (Nat.le_refl _) (.cells #[.int .i64 0, .int .i64 0, .int .i64 0, .int .i64 0, .int .i64 0, .int .i64 0, .int .i64 0, .slice none 0 0, .slice none 0 0, .int .i64 0] 42))
  unfold maxLen at hc
  clear hr hby hbd hq
  go_enter Try.func19, Try.ntmps19
  go_wp2_with fail
  refine (refHeadOf_any b0 o0 n c B l _ HR0.out HY.out (by simp; omega) hn hnc HCm.out).mono ?_
  rintro e1 w1 ⟨rfl, hb1⟩
  obtain ⟨h, hh⟩ : ∃ h, headOf l = h := ⟨_, rfl⟩
  rw [hh] at hq2 ⊢
  have HQ2 := Lib.hid hq2
  clear hq2
  have HH := Lib.hid hh
  have KA1 := Lib.hid ((KA0.out.below hb1 (by simp)).alloc (.cells #[.int .i64 h.age, .int .i64 h.kind, .int .i64 h.id, .int .i64 h.adv, .int .i64 h.seq, .int .i64 h.sum, .int .i64 h.long] 23))
  have HRB := Lib.hid (show w.heap.size < w1.heap.size by have := hb1.size; simp at this; omega)
  have KH1 := Lib.hid (Blk.new w1 23 #[.int .i64 h.age, .int .i64 h.kind, .int .i64 h.id, .int .i64 h.adv, .int .i64 h.seq, .int .i64 h.sum, .int .i64 h.long])
  have BW1 := Lib.hid ((BW0.out.trans (hb1.mono (by simp))).alloc (by have := hb1.size; simp at this; omega) (.cells #[.int .i64 h.age, .int .i64 h.kind, .int .i64 h.id, .int .i64 h.adv, .int .i64 h.seq, .int .i64 h.sum, .int .i64 h.long] 23))
  have HR1 := Lib.hid ((HR0.out.below (hb1.mono (by simp; omega))).alloc (by have := hb1.size; simp at this; omega) (.cells #[.int .i64 h.age, .int .i64 h.kind, .int .i64 h.id, .int .i64 h.adv, .int .i64 h.seq, .int .i64 h.sum, .int .i64 h.long] 23))
  have hs1 := BW1.out.size
  have hk1 := KA1.out.lt
  clear hb1 KA0 BW0 HR0 hh
  go_upto_region 4 with fail
  have hhb : ∃ hb, w1.heap.size = hb := ⟨_, rfl⟩
  obtain ⟨hb, hhb⟩ := hhb
  have hbw : w.heap.size < hb := by rw [← hhb]; exact HRB.out
  rw [hhb] at KH1 ⊢
  generalize w1.alloc (.cells #[.int .i64 h.age, .int .i64 h.kind, .int .i64 h.id, .int .i64 h.adv, .int .i64 h.seq, .int .i64 h.sum, .int .i64 h.long] 23) = w2 at *
  clear hhb
  obtain ⟨k0, k1, k2, k3, k4, k5, k6⟩ := KH1.out.seven
  rw [HQ2.out] at k6
  obtain ⟨a0, a1, a2, a3, a4, a5, a6, a7, a8, a9⟩ := KA1.out.ten
  obtain ⟨g0, g1, g2, g3, g4, g5, g6, g7, g8, g9⟩ := KA1.out.tenF
  have he := HE.out
  rw [HQQ.out] at he
  rcases he with ⟨h1, rfl⟩ | ⟨h1, h2, rfl⟩ | ⟨h1, h2, hw, rfl⟩
  · skip
    go_wp2
    refine bodyPost_ret (v := .agg #[.int .i64 0, .int .i64 0, .int .i64 0, .int .i64 0, .int .i64 0, .int .i64 0, .int .i64 0, .slice none 0 0, .slice none 0 0, .int .i64 4]) (by simp [results, Try.results19, go_sem, *]) rfl ?_
    rw [← HQ.out]
    exact gotR_zero ((((((((((BW1.out.setCell (by simp) _).setCell (by simp) _).setCell (by simp) _).setCell (by simp) _).setCell (by simp) _).setCell (by simp) _).setCell (by simp) _).setCell (by simp) _).setCell (by simp) _).setCell (by simp) _)
  · skip
    go_wp2
    refine bodyPost_ret (v := .agg #[.int .i64 0, .int .i64 0, .int .i64 0, .int .i64 0, .int .i64 0, .int .i64 0, .int .i64 0, .slice none 0 0, .slice none 0 0, .int .i64 3]) (by simp [results, Try.results19, go_sem, *]) rfl ?_
    rw [← HQ.out]
    exact gotR_zero ((((((((((BW1.out.setCell (by simp) _).setCell (by simp) _).setCell (by simp) _).setCell (by simp) _).setCell (by simp) _).setCell (by simp) _).setCell (by simp) _).setCell (by simp) _).setCell (by simp) _).setCell (by simp) _)
  · have HRw := Lib.hid (show Row .u8 w2 B (some ⟨b0, o0 + 2, none⟩) (q - 2) ((getT l).drop 2) by
      have h3 := cut_some _ _ 2 (q - 2) (by omega) _ _ _ _ HR1.out
      have e : getT l = l.take q := by unfold getT; rw [HQQ.out]
      rw [e, List.drop_take]
      exact h3)
    have HYt := Lib.hid (show Byt (getT l) from HY.out.take _)
    have HWF := Lib.hid hw
    clear hw
    go_wp2_with fail
    refine (refWhole_any (some ⟨b0, o0 + 2, none⟩) (q - 2) (c - 2) B _ _ HRw.out (HYt.out.drop 2) (by omega)).mono ?_
    rintro e3 w3 ⟨rfl, rfl⟩
    rw [HWF.out]
    go_wp2
    refine bodyPost_ret (v := .agg #[.int .i64 0, .int .i64 0, .int .i64 0, .int .i64 0, .int .i64 0, .int .i64 0, .int .i64 0, .slice none 0 0, .slice none 0 0, .int .i64 5]) (by simp [results, Try.results19, go_sem, *]) rfl ?_
    rw [← HQ.out]
    exact gotR_zero ((((((((((BW1.out.setCell (by simp) _).setCell (by simp) _).setCell (by simp) _).setCell (by simp) _).setCell (by simp) _).setCell (by simp) _).setCell (by simp) _).setCell (by simp) _).setCell (by simp) _).setCell (by simp) _)
set_option maxRecDepth 100000 in
set_option maxHeartbeats 8000000 in
theorem refGet_hd (b0 o0 n c B : Nat) (l : List Int) (w : World) (hr : Row .u8 w B (some ⟨b0, o0, none⟩) n l) (hby : Byt l) (hB : B ≤ w.heap.size) (hn : 20 ≤ n) (hn2 : n ≤ 500) (hnc : n ≤ c) (hc : c ≤ maxLen) (h20 : 20 ≤ longOf l) (hln : longOf l ≤ n) (hw : wholeB ((getT l).drop 2) = true) (hok : okHead l = false) :
    Calls Try.prog 19 #[.slice (some ⟨b0, o0, none⟩) n c] w (GotR w zeroHd [] [] 4) := by
  generalize hQ : GotR w zeroHd [] [] 4 = Q
  have HQ := Lib.hid hQ
  have HWT := Lib.hid hw
  have HOK := Lib.hid hok
  have H20 := Lib.hid h20
  have HLN := Lib.hid hln
  clear hQ hw hok h20 hln
  have HCm := Lib.hid hc
  have HLEN := Lib.hid hr.1
  have HY := Lib.hid hby
  have hbd := wordAt_bd l hby 18 2 (by rw [hr.1]; omega)
  rw [show (256 : Int) ^ 2 = 65536 by decide] at hbd
  obtain ⟨q, hq⟩ : ∃ q, longOf l = q := ⟨_, rfl⟩
  have hq2 : (headOf l).long = (q : Int) := by rw [← hq]; show wordAt l 18 2 = _; unfold longOf; omega
  have hq3 : q < 65536 := by rw [← hq]; unfold longOf; omega
  have HQQ := Lib.hid hq
  have HR0 := Lib.hid (hr.alloc hB (.cells #[.int .i64 0, .int .i64 0, .int .i64 0, .int .i64 0, .int .i64 0, .int .i64 0, .int .i64 0, .slice none 0 0, .slice none 0 0, .int .i64 0] 42))
  have KA0 := Lib.hid (Blk.new w 42 #[.int .i64 0, .int .i64 0, .int .i64 0, .int .i64 0, .int .i64 0, .int .i64 0, .int .i64 0, .slice none 0 0, .slice none 0 0, .int .i64 0])
  have BW0 := Lib.hid ((Below.refl w.heap.size w).alloc (Nat.le_refl _) (.cells #[.int .i64 0, .int .i64 0, .int .i64 0, .int .i64 0, .int .i64 0, .int .i64 0, .int .i64 0, .slice none 0 0, .slice none 0 0, .int .i64 0] 42))
  unfold maxLen at hc
  clear hr hby hbd hq
  go_enter Try.func19, Try.ntmps19
  go_wp2_with fail
  refine (refHeadOf_any b0 o0 n c B l _ HR0.out HY.out (by simp; omega) hn hnc HCm.out).mono ?_
  rintro e1 w1 ⟨rfl, hb1⟩
  obtain ⟨h, hh⟩ : ∃ h, headOf l = h := ⟨_, rfl⟩
  rw [hh] at hq2 ⊢
  have HQ2 := Lib.hid hq2
  clear hq2
  have HH := Lib.hid hh
  have KA1 := Lib.hid ((KA0.out.below hb1 (by simp)).alloc (.cells #[.int .i64 h.age, .int .i64 h.kind, .int .i64 h.id, .int .i64 h.adv, .int .i64 h.seq, .int .i64 h.sum, .int .i64 h.long] 23))
  have HRB := Lib.hid (show w.heap.size < w1.heap.size by have := hb1.size; simp at this; omega)
  have KH1 := Lib.hid (Blk.new w1 23 #[.int .i64 h.age, .int .i64 h.kind, .int .i64 h.id, .int .i64 h.adv, .int .i64 h.seq, .int .i64 h.sum, .int .i64 h.long])
  have BW1 := Lib.hid ((BW0.out.trans (hb1.mono (by simp))).alloc (by have := hb1.size; simp at this; omega) (.cells #[.int .i64 h.age, .int .i64 h.kind, .int .i64 h.id, .int .i64 h.adv, .int .i64 h.seq, .int .i64 h.sum, .int .i64 h.long] 23))
  have HR1 := Lib.hid ((HR0.out.below (hb1.mono (by simp; omega))).alloc (by have := hb1.size; simp at this; omega) (.cells #[.int .i64 h.age, .int .i64 h.kind, .int .i64 h.id, .int .i64 h.adv, .int .i64 h.seq, .int .i64 h.sum, .int .i64 h.long] 23))
  have hs1 := BW1.out.size
  have hk1 := KA1.out.lt
  clear hb1 KA0 BW0 HR0 hh
  go_upto_region 4 with fail
  have hhb : ∃ hb, w1.heap.size = hb := ⟨_, rfl⟩
  obtain ⟨hb, hhb⟩ := hhb
  have hbw : w.heap.size < hb := by rw [← hhb]; exact HRB.out
  rw [hhb] at KH1 ⊢
  generalize w1.alloc (.cells #[.int .i64 h.age, .int .i64 h.kind, .int .i64 h.id, .int .i64 h.adv, .int .i64 h.seq, .int .i64 h.sum, .int .i64 h.long] 23) = w2 at *
  clear hhb
  obtain ⟨k0, k1, k2, k3, k4, k5, k6⟩ := KH1.out.seven
  rw [HQ2.out] at k6
  obtain ⟨a0, a1, a2, a3, a4, a5, a6, a7, a8, a9⟩ := KA1.out.ten
  obtain ⟨g0, g1, g2, g3, g4, g5, g6, g7, g8, g9⟩ := KA1.out.tenF
  have h20 := H20.out
  have hln := HLN.out
  rw [HQQ.out] at h20 hln
  have HT := Lib.hid (show getT l = l.take q by unfold getT; rw [HQQ.out])
  have HRw := Lib.hid (show Row .u8 w2 B (some ⟨b0, o0 + 2, none⟩) (q - 2) ((getT l).drop 2) by
    have h3 := cut_some _ _ 2 (q - 2) (by omega) _ _ _ _ HR1.out
    rw [HT.out, List.drop_take]
    exact h3)
  have HYt := Lib.hid (show Byt (getT l) from HY.out.take _)
  have HYb := Lib.hid (show Byt ((getT l).drop 20) from (HY.out.take _).drop _)
  obtain ⟨A2, hA2, hrow2⟩ : ∃ A2, (if c = 20 then some (⟨b0, o0, none⟩ : Addr) else some ⟨b0, o0 + 20, none⟩) = A2 ∧ Row .u8 w2 B A2 (q - 20) ((getT l).drop 20) := by
    refine ⟨_, rfl, ?_⟩
    by_cases e : c = 20
    · have e2 : q - 20 = 0 := by omega
      rw [if_pos e, e2, List.drop_of_length_le (by rw [HT.out, List.length_take]; omega)]
      exact Row.nil
    · rw [if_neg e]
      have h3 := cut_some _ _ 20 (q - 20) (by omega) _ _ _ _ HR1.out
      rw [HT.out, List.drop_take]
      exact h3
  have RB := Lib.hid hrow2
  clear hrow2
  obtain ⟨_, _, e, hb0, hcc⟩ := HR1.out.2 (by omega)
  injection e with e
  injection e with ea eb
  subst ea eb
  have hc2 := hcc 2 (by omega)
  have hb0' : b0 < w2.heap.size := by omega
  have HX0 := Lib.hid (show l.getD 2 0 = l.getD 2 0 from rfl)
  clear hcc
  generalize hx : l.getD 2 0 = x at hc2
  have HX := Lib.hid hx
  clear hx HX0
  have KL2 := Lib.hid (Blk.new w2 27 #[.int .i64 h.age, .int .i64 h.kind, .int .i64 h.id, .int .i64 h.adv, .int .i64 h.seq, .int .i64 h.sum, .int .i64 (q : Int), .slice none 0 0, .slice none 0 0])
  go_wp2_with fail
  refine (refWhole_any (some ⟨b0, o0 + 2, none⟩) (q - 2) (c - 2) B _ _ HRw.out (HYt.out.drop 2) (by omega)).mono ?_
  rintro e3 w3 ⟨rfl, rfl⟩
  rw [HWT.out]
  go_upto_region 11 with fail
  have KA4 := Lib.hid (KA1.out.alloc (.cells #[.int .i64 h.age, .int .i64 h.kind, .int .i64 h.id, .int .i64 h.adv, .int .i64 h.seq, .int .i64 h.sum, .int .i64 (q : Int), .slice none 0 0, .slice none 0 0] 27))
  have KH4 := Lib.hid (KH1.out.alloc (.cells #[.int .i64 h.age, .int .i64 h.kind, .int .i64 h.id, .int .i64 h.adv, .int .i64 h.seq, .int .i64 h.sum, .int .i64 (q : Int), .slice none 0 0, .slice none 0 0] 27))
  have BW4 := Lib.hid (BW1.out.alloc hs1 (.cells #[.int .i64 h.age, .int .i64 h.kind, .int .i64 h.id, .int .i64 h.adv, .int .i64 h.seq, .int .i64 h.sum, .int .i64 (q : Int), .slice none 0 0, .slice none 0 0] 27))
  have RB4 := Lib.hid (RB.out.alloc (by omega) (.cells #[.int .i64 h.age, .int .i64 h.kind, .int .i64 h.id, .int .i64 h.adv, .int .i64 h.seq, .int .i64 h.sum, .int .i64 (q : Int), .slice none 0 0, .slice none 0 0] 27))
  have hc3 := (World.cell?_alloc_lt w2 (.cells #[.int .i64 h.age, .int .i64 h.kind, .int .i64 h.id, .int .i64 h.adv, .int .i64 h.seq, .int .i64 h.sum, .int .i64 (q : Int), .slice none 0 0, .slice none 0 0] 27) ⟨b0, o0 + 2, none⟩ hb0').trans hc2
  have hl4 : (w2.alloc (.cells #[.int .i64 h.age, .int .i64 h.kind, .int .i64 h.id, .int .i64 h.adv, .int .i64 h.seq, .int .i64 h.sum, .int .i64 (q : Int), .slice none 0 0, .slice none 0 0] 27)).heap.size = w2.heap.size + 1 := by simp
  have hhb2 := KH1.out.lt
  obtain ⟨lb, hlb⟩ : ∃ lb, w2.heap.size = lb := ⟨_, rfl⟩
  rw [hlb] at KL2 hl4 hhb2 hb0' hk1 ⊢
  have hs1' : w.heap.size ≤ lb := by omega
  have hBlb : B ≤ lb := by omega
  clear hs1 HRw RB KA1 KH1 BW1 a0 a1 a2 a3 a4 a5 a6 a7 a8 a9 g0 g1 g2 g3 g4 g5 g6 g7 g8 g9 k0 k1 k2 k3 k4 k5 k6 hc2 HR1
  generalize w2.alloc (.cells #[.int .i64 h.age, .int .i64 h.kind, .int .i64 h.id, .int .i64 h.adv, .int .i64 h.seq, .int .i64 h.sum, .int .i64 (q : Int), .slice none 0 0, .slice none 0 0] 27) = w4 at *
  clear hlb
  have HL4 := Lib.hid hl4
  have hl4' : lb < w4.heap.size := by omega
  have hs4 : w.heap.size ≤ w4.heap.size := by omega
  clear hl4
  obtain ⟨a0, a1, a2, a3, a4, a5, a6, a7, a8, a9⟩ := KA4.out.ten
  obtain ⟨g0, g1, g2, g3, g4, g5, g6, g7, g8, g9⟩ := KA4.out.tenF
  obtain ⟨k0, k1, k2, k3, k4, k5, k6⟩ := KH4.out.seven
  rw [HQ2.out] at k6
  by_cases hx0 : x = 0
  · subst hx0
    have HB := Lib.hid (show headB h = false by
      have h1 := HOK.out
      unfold okHead at h1
      rw [HX.out, HH.out] at h1
      simpa using h1)
    go_wp2_with fail
    refine (refHead_any ⟨h.age, h.kind, h.id, h.adv, h.seq, h.sum, (q : Int)⟩ _).mono ?_
    rintro e4 w5 ⟨rfl, hb5⟩
    rw [show headB ⟨h.age, h.kind, h.id, h.adv, h.seq, h.sum, (q : Int)⟩ = false from HB.out]
    have KA5 := Lib.hid (KA4.out.below hb5 KA4.out.lt)
    have BW5 := Lib.hid (BW4.out.trans (hb5.mono hs4))
    clear hb5 a0 a1 a2 a3 a4 a5 a6 a7 a8 a9 g0 g1 g2 g3 g4 g5 g6 g7 g8 g9 k0 k1 k2 k3 k4 k5 k6 hc3
    obtain ⟨a0, a1, a2, a3, a4, a5, a6, a7, a8, a9⟩ := KA5.out.ten
    obtain ⟨g0, g1, g2, g3, g4, g5, g6, g7, g8, g9⟩ := KA5.out.tenF
    go_wp2
    refine bodyPost_ret (v := .agg #[.int .i64 0, .int .i64 0, .int .i64 0, .int .i64 0, .int .i64 0, .int .i64 0, .int .i64 0, .slice none 0 0, .slice none 0 0, .int .i64 4]) (by simp [results, Try.results19, go_sem, *]) rfl ?_
    rw [← HQ.out]
    exact gotR_zero ((((((((((BW5.out.setCell (by simp) _).setCell (by simp) _).setCell (by simp) _).setCell (by simp) _).setCell (by simp) _).setCell (by simp) _).setCell (by simp) _).setCell (by simp) _).setCell (by simp) _).setCell (by simp) _)
  · have hd : (x != 0) = true := by simp [hx0]
    clear hx0
    go_wp2
    refine bodyPost_ret (v := .agg #[.int .i64 0, .int .i64 0, .int .i64 0, .int .i64 0, .int .i64 0, .int .i64 0, .int .i64 0, .slice none 0 0, .slice none 0 0, .int .i64 4]) (by simp [results, Try.results19, go_sem, *]) rfl ?_
    rw [← HQ.out]
    exact gotR_zero ((((((((((BW4.out.setCell (by simp) _).setCell (by simp) _).setCell (by simp) _).setCell (by simp) _).setCell (by simp) _).setCell (by simp) _).setCell (by simp) _).setCell (by simp) _).setCell (by simp) _).setCell (by simp) _)
end Go.Proofs.Ytidncajbedgplaa
