/- The call Get of package lsa. Conditions: the slice reads as bytes, at most 2^20 of them. -/
import Derived.Test.YtekhgkkgmkodmaaGreatJag
namespace Go.Proofs.YtekhgkkgmkodmaaGreat
open Go.RowKit

/-- How many bytes the description has, as bytes tell. -/
def longOf (l : List Int) : Nat := (wordAt l 18 2).toNat
/-- The bytes of the description that bytes begin with. -/
def getT (l : List Int) : List Int := l.take (longOf l)
/-- Get's error. -/
def gErr (l : List Int) : Int :=
  if l.length < 20 then 3 else if l.length < longOf l then 3 else if longOf l < 20 then 4 else if wholeB ((getT l).drop 2) = false then 5 else if okTold (getT l) = true then 0 else 4
/-- Get's head. -/
def gHead (l : List Int) : Hd := if gErr l = 0 then headOf (getT l) else zeroHd
/-- Get's links. -/
def gLinks (l : List Int) : List Lk := if gErr l = 0 then tL (getT l) else []
/-- Get's members. -/
def gMembers (l : List Int) : List Int := if gErr l = 0 then tM (getT l) else []
theorem gErr_no {l : List Int} {e : Int} (h : gErr l = e) (h0 : e ≠ 0) : gHead l = zeroHd ∧ gLinks l = [] ∧ gMembers l = [] := by
  unfold gHead gLinks gMembers
  rw [h, if_neg h0, if_neg h0, if_neg h0]
  exact ⟨rfl, rfl, rfl⟩

set_option maxRecDepth 4000 in
set_option maxHeartbeats 8000000 in
theorem get_any (A : Option Addr) (n c B : Nat) (l : List Int) (w : World) (hr : Row .u8 w B A n l) (hby : Byt l) (hB : B ≤ w.heap.size) (hn2 : n ≤ 1048576) (hnc : n ≤ c) (hc : c ≤ maxLen) :
    Calls Tryz.prog 103 #[.slice A n c] w (GotL w (gHead l) (gLinks l) (gMembers l) (gErr l)) := by
  generalize hQ : GotL w (gHead l) (gLinks l) (gMembers l) (gErr l) = Q
  have HQ := Lib.hid hQ
  have HCm := Lib.hid hc
  have HLEN := Lib.hid hr.1
  unfold maxLen at hc
  have KA0 := Lib.hid (Blk.new w 47 #[.int .i64 0, .int .i64 0, .int .i64 0, .int .i64 0, .int .i64 0, .int .i64 0, .int .i64 0, .slice none 0 0, .slice none 0 0])
  have BW0 := Lib.hid ((Below.refl w.heap.size w).alloc (Nat.le_refl _) (.cells #[.int .i64 0, .int .i64 0, .int .i64 0, .int .i64 0, .int .i64 0, .int .i64 0, .int .i64 0, .slice none 0 0, .slice none 0 0] 47))
  clear hQ
  by_cases hn : n < 20
  · have HE := Lib.hid (show gErr l = 3 by unfold gErr; rw [if_pos (by rw [HLEN.out]; exact hn)])
    clear hr hby
    go_enter Tryz.func103, Tryz.ntmps103
    go_wp2
    refine bodyPost_ret (v := .tuple #[.agg #[.int .i64 0, .int .i64 0, .int .i64 0, .int .i64 0, .int .i64 0, .int .i64 0, .int .i64 0, .slice none 0 0, .slice none 0 0], .int .i64 3]) (by simp [results, Tryz.results103, go_sem, *]) rfl ?_
    obtain ⟨q1, q2, q3⟩ := gErr_no HE.out (by decide)
    rw [← HQ.out, HE.out, q1, q2, q3]
    exact gotL_zero BW0.out
  · have hbd := wordAt_bd l hby 18 2 (by rw [HLEN.out]; omega)
    rw [show (256 : Int) ^ 2 = 65536 by decide] at hbd
    obtain ⟨q, hq⟩ : ∃ q, longOf l = q := ⟨_, rfl⟩
    have hq2 : wordAt l 18 2 = (q : Int) := by rw [← hq]; unfold longOf; omega
    have hq3 : q < 65536 := by omega
    have HW := Lib.hid (show wordAt ((l.drop 18).take 2) 0 2 = (q : Int) by
      rw [← hq2]; unfold wordAt; rw [List.drop_zero, List.take_take]; rfl)
    have HQQ := Lib.hid hq
    have HY := Lib.hid hby
    obtain ⟨b0, o0, rfl, hb0, -⟩ := hr.2 (by omega)
    have HR := Lib.hid hr
    have HRa := Lib.hid (show Row .u8 (w.alloc (.cells #[.int .i64 0, .int .i64 0, .int .i64 0, .int .i64 0, .int .i64 0, .int .i64 0, .int .i64 0, .slice none 0 0, .slice none 0 0] 47)) B (some ⟨b0, o0 + 18, none⟩) 2 ((l.drop 18).take 2) from (cut_some _ _ 18 2 (by omega) _ _ _ _ hr).alloc hB _)
    clear hr hby hbd hq hq2
    go_enter Tryz.func103, Tryz.ntmps103
    go_wp2_with fail
    refine (rd_read (some ⟨b0, o0 + 18, none⟩) 2 (c - 18) B ((l.drop 18).take 2) _ HRa.out ((HY.out.drop 18).take 2) (by simp; omega) (by omega)).mono ?_
    rintro e1 w1 ⟨rfl, hb1, hrd1⟩
    simp only [World.size_alloc] at hrd1 ⊢
    have RD1 := Lib.hid hrd1
    have KA1 := Lib.hid (KA0.out.below hb1 (by simp))
    have BW1 := Lib.hid (BW0.out.trans (hb1.mono (by simp)))
    clear hb1 hrd1 HRa KA0 BW0
    go_wp2_with fail
    refine (rd_num _ _ 0 2 2 ((l.drop 18).take 2) _ RD1.out rfl (by have := HLEN.out; simp; omega)).mono ?_
    rintro e2 w2 ⟨rfl, -, hgr⟩
    rw [HW.out]
    have KA2 := Lib.hid (KA1.out.grown hgr (by omega))
    have BW2 := Lib.hid (below_grown BW1.out hgr (Nat.le_refl _) (by omega))
    clear hgr KA1 BW1 RD1
    have HR2 := Lib.hid (HR.out.below (BW2.out.mono hB))
    have hsz2 := BW2.out.size
    obtain ⟨a0, a1, a2, a3, a4, a5, a6, a7, a8⟩ := KA2.out.nine
    obtain ⟨g0, g1, g2, g3, g4, g5, g6, g7, g8⟩ := KA2.out.nineF
    by_cases h1 : n < q
    · have HE := Lib.hid (show gErr l = 3 by unfold gErr; rw [if_neg (by rw [HLEN.out]; exact hn), if_pos (by rw [HLEN.out, HQQ.out]; exact h1)])
      go_wp2
      refine bodyPost_ret (v := .tuple #[.agg #[.int .i64 0, .int .i64 0, .int .i64 0, .int .i64 0, .int .i64 0, .int .i64 0, .int .i64 0, .slice none 0 0, .slice none 0 0], .int .i64 3]) (by simp [results, Tryz.results103, go_sem, *]) rfl ?_
      obtain ⟨q1, q2, q3⟩ := gErr_no HE.out (by decide)
      rw [← HQ.out, HE.out, q1, q2, q3]
      exact gotL_zero (((((((((BW2.out.setCell (by simp) _).setCell (by simp) _).setCell (by simp) _).setCell (by simp) _).setCell (by simp) _).setCell (by simp) _).setCell (by simp) _).setCell (by simp) _).setCell (by simp) _)
    · by_cases h2 : q < 20
      · have HE := Lib.hid (show gErr l = 4 by unfold gErr; rw [if_neg (by rw [HLEN.out]; exact hn), if_neg (by rw [HLEN.out, HQQ.out]; exact h1), if_pos (by rw [HQQ.out]; exact h2)])
        go_wp2
        refine bodyPost_ret (v := .tuple #[.agg #[.int .i64 0, .int .i64 0, .int .i64 0, .int .i64 0, .int .i64 0, .int .i64 0, .int .i64 0, .slice none 0 0, .slice none 0 0], .int .i64 4]) (by simp [results, Tryz.results103, go_sem, *]) rfl ?_
        obtain ⟨q1, q2, q3⟩ := gErr_no HE.out (by decide)
        rw [← HQ.out, HE.out, q1, q2, q3]
        exact gotL_zero (((((((((BW2.out.setCell (by simp) _).setCell (by simp) _).setCell (by simp) _).setCell (by simp) _).setCell (by simp) _).setCell (by simp) _).setCell (by simp) _).setCell (by simp) _).setCell (by simp) _)
      · have HT := Lib.hid (show getT l = l.take q by unfold getT; rw [HQQ.out])
        have HRw := Lib.hid (show Row .u8 w2 B (some ⟨b0, o0 + 2, none⟩) (q - 2) ((getT l).drop 2) by
          have := cut_some _ _ 2 (q - 2) (by omega) _ _ _ _ HR2.out
          rw [HT.out, List.drop_take]
          exact this)
        have HRt := Lib.hid (show Row .u8 w2 B (some ⟨b0, o0, none⟩) q (getT l) by
          rw [HT.out]
          exact HR2.out.head q (by omega))
        have HYt := Lib.hid (show Byt (getT l) by rw [HT.out]; exact HY.out.take q)
        have HGE := Lib.hid (show gErr l = if wholeB ((getT l).drop 2) = false then 5 else if okTold (getT l) = true then 0 else 4 by
          conv => lhs; unfold gErr
          rw [if_neg (by rw [HLEN.out]; exact hn), if_neg (by rw [HLEN.out, HQQ.out]; exact h1), if_neg (by rw [HQQ.out]; exact h2)])
        have HH := Lib.hid (show gHead l = if gErr l = 0 then headOf (getT l) else zeroHd from rfl)
        have HLs := Lib.hid (show gLinks l = if gErr l = 0 then tL (getT l) else [] from rfl)
        have HMs := Lib.hid (show gMembers l = if gErr l = 0 then tM (getT l) else [] from rfl)
        generalize getT l = t at *
        go_wp2_with fail
        refine (whole_any (some ⟨b0, o0 + 2, none⟩) (q - 2) (c - 2) B _ _ HRw.out (HYt.out.drop 2) (by unfold maxLen; omega)).mono ?_
        rintro e3 w3 ⟨rfl, rfl⟩
        cases hw : wholeB (t.drop 2)
        · have HE := Lib.hid (show gErr l = 5 by rw [HGE.out, hw]; rfl)
          go_wp2
          refine bodyPost_ret (v := .tuple #[.agg #[.int .i64 0, .int .i64 0, .int .i64 0, .int .i64 0, .int .i64 0, .int .i64 0, .int .i64 0, .slice none 0 0, .slice none 0 0], .int .i64 5]) (by simp [results, Tryz.results103, go_sem, *]) rfl ?_
          obtain ⟨q1, q2, q3⟩ := gErr_no HE.out (by decide)
          rw [← HQ.out, HE.out, q1, q2, q3]
          exact gotL_zero (((((((((BW2.out.setCell (by simp) _).setCell (by simp) _).setCell (by simp) _).setCell (by simp) _).setCell (by simp) _).setCell (by simp) _).setCell (by simp) _).setCell (by simp) _).setCell (by simp) _)
        · have HE := Lib.hid (show gErr l = if okTold t = true then 0 else 4 by rw [HGE.out, hw]; rfl)
          clear HGE
          go_wp2_with fail
          refine (told_any (some ⟨b0, o0, none⟩) q c B t _ HRt.out HYt.out (by omega) (by omega) (by omega) (by omega) HCm.out).mono ?_
          rintro e4 w4 ⟨A4, n4, c4, A5, n5, c5, rfl, ho4, hq4, ho5, hq5, hb4⟩
          have KA4 := Lib.hid (KA2.out.below hb4 KA2.out.lt)
          have BW4 := Lib.hid (BW2.out.trans (hb4.mono hsz2))
          have hrb := KA2.out.lt
          have OA := Lib.hid ho4
          have OB := Lib.hid ho5
          have HQ4 := Lib.hid hq4
          have HQ5 := Lib.hid hq5
          have eh : (if okTold t = true then headOf t else zeroHd) = gHead l := by rw [HH.out, HE.out]; cases okTold t <;> rfl
          have eL : (if okTold t = true then tL t else []) = gLinks l := by rw [HLs.out, HE.out]; cases okTold t <;> rfl
          have eM : (if okTold t = true then tM t else []) = gMembers l := by rw [HMs.out, HE.out]; cases okTold t <;> rfl
          have ee : (if okTold t = true then (0 : Int) else 4) = gErr l := HE.out.symm
          rw [eL] at OA HQ4
          rw [eM] at OB HQ5
          rw [eh, ee]
          clear eh eL eM ee HE HH HLs HMs ho4 ho5 hq4 hq5 hb4 KA2 BW2 a0 a1 a2 a3 a4 a5 a6 a7 a8 g0 g1 g2 g3 g4 g5 g6 g7 g8 hw
          generalize gHead l = h at *
          generalize gErr l = e at *
          obtain ⟨a0, a1, a2, a3, a4, a5, a6, a7, a8⟩ := KA4.out.nine
          obtain ⟨g0, g1, g2, g3, g4, g5, g6, g7, g8⟩ := KA4.out.nineF
          go_wp2
          refine bodyPost_ret (v := .tuple #[.agg #[.int .i64 h.age, .int .i64 h.kind, .int .i64 h.id, .int .i64 h.adv, .int .i64 h.seq, .int .i64 h.sum, .int .i64 h.long, .slice A4 n4 c4, .slice A5 n5 c5], .int .i64 e]) (by simp [results, Tryz.results103, go_sem, *]) rfl ?_
          rw [← HQ.out]
          exact ⟨A4, n4, c4, A5, n5, c5, rfl, own_low (own_set (own_set (own_set (own_set (own_set (own_set (own_set (own_set (own_set OA.out _ _ hrb) _ _ hrb) _ _ hrb) _ _ hrb) _ _ hrb) _ _ hrb) _ _ hrb) _ _ hrb) _ _ hrb) (by omega), HQ4.out, own_low (own_set (own_set (own_set (own_set (own_set (own_set (own_set (own_set (own_set OB.out _ _ hrb) _ _ hrb) _ _ hrb) _ _ hrb) _ _ hrb) _ _ hrb) _ _ hrb) _ _ hrb) _ _ hrb) (by omega), HQ5.out, (((((((((BW4.out.setCell (by simp) _).setCell (by simp) _).setCell (by simp) _).setCell (by simp) _).setCell (by simp) _).setCell (by simp) _).setCell (by simp) _).setCell (by simp) _).setCell (by simp) _)⟩
end Go.Proofs.YtekhgkkgmkodmaaGreat
