/- The reference's Get: a router's description. Conditions: the slice reads as bytes, at most 500 of them. -/
import Derived.Test.YtidncajbedgplaaLtH
namespace Go.Proofs.Ytidncajbedgplaa
open Go.RowKit
attribute [local go_sem ↓] Go.wp_at_zero Go.wp_at_succ

theorem refNum_at (b0 o0 n c B a m : Nat) (x y : Int) (hx : x = (a : Int)) (hy : y = (m : Int)) (l : List Int) (w : World) (hr : Row .u8 w B (some ⟨b0, o0, none⟩) n l) (hby : Byt l) (hnc : n ≤ c) (hc : c ≤ maxLen) (ha : a + m ≤ n) (hm1 : 1 ≤ m) (hm4 : m ≤ 4) :
    Calls Try.prog 43 #[.slice (some ⟨b0, o0, none⟩) n c, .int .i64 x, .int .i64 y] w fun e w' => e = .returned (.int .i64 (wordAt l a m)) ∧ w = w' := by
  subst hx hy
  exact refNum_any b0 o0 n c B a m l w hr hby hnc hc ha hm1 hm4

set_option maxRecDepth 100000 in
set_option maxHeartbeats 8000000 in
theorem refGet_rt (b0 o0 n c B : Nat) (l : List Int) (w : World) (hr : Row .u8 w B (some ⟨b0, o0, none⟩) n l) (hby : Byt l) (hB : B ≤ w.heap.size) (hn : 20 ≤ n) (hn2 : n ≤ 500) (hnc : n ≤ c) (hc : c ≤ maxLen) (h20 : 20 ≤ longOf l) (hln : longOf l ≤ n) (hw : wholeB ((getT l).drop 2) = true) (hok : okHead l = true) (hkd : (headOf l).kind = 1) :
    Calls Try.prog 19 #[.slice (some ⟨b0, o0, none⟩) n c] w (GotR w (if okTold (getT l) = true then headOf l else zeroHd) (if okTold (getT l) = true then tL (getT l) else []) [] (if okTold (getT l) = true then 0 else 4)) := by
  generalize hQ : GotR w (if okTold (getT l) = true then headOf l else zeroHd) (if okTold (getT l) = true then tL (getT l) else []) [] (if okTold (getT l) = true then 0 else 4) = Q
  have HQ := Lib.hid hQ
  have HWT := Lib.hid hw
  have HOK := Lib.hid hok
  have H20 := Lib.hid h20
  have HLN := Lib.hid hln
  have HKD := Lib.hid hkd
  clear hQ hw hok h20 hln hkd
  have HCm := Lib.hid hc
  have HLEN := Lib.hid hr.1
  have HY := Lib.hid hby
  have hbd := wordAt_bd l hby 18 2 (by rw [hr.1]; omega)
  rw [show (256 : Int) ^ 2 = 65536 by decide] at hbd
  obtain ⟨q, hq⟩ : ∃ q, longOf l = q := ⟨_, rfl⟩
  have hq2 : (headOf l).long = (q : Int) := by rw [← hq]; show wordAt l 18 2 = _; unfold longOf; omega
  have hq3 : q < 65536 := by rw [← hq]; unfold longOf; omega
  have HQQ := Lib.hid hq
  have HR0 := Lib.hid (hr.alloc hB (.cells #[.int .i64 0, .int .i64 0, .int .i64 0, .int .i64 0, .int .i64 0, .int .i64 0, .int .i64 0, .slice none 0 0, .slice none 0 0, .int .i64 0] 42))
  have KA0 := Lib.hid (Blk.new w 42 #[.int .i64 0, .int .i64 0, .int .i64 0, .int .i64 0, .int .i64 0, .int .i64 0, .int .i64 0, .slice none 0 0, .slice none 0 0, .int .i64 0])
  have BW0 := Lib.hid ((Below.refl w.heap.size w).alloc (Nat.le_refl _) (.cells #[.int .i64 0, .int .i64 0, .int .i64 0, .int .i64 0, .int .i64 0, .int .i64 0, .int .i64 0, .slice none 0 0, .slice none 0 0, .int .i64 0] 42))
  unfold maxLen at hc
  clear hr hby hbd hq
  go_enter Try.func19, Try.ntmps19
  go_wp2_with fail
  refine (refHeadOf_any b0 o0 n c B l _ HR0.out HY.out (by simp; omega) hn hnc HCm.out).mono ?_
  rintro e1 w1 ⟨rfl, hb1⟩
  obtain ⟨h, hh⟩ : ∃ h, headOf l = h := ⟨_, rfl⟩
  rw [hh] at hq2 ⊢
  have HQ2 := Lib.hid hq2
  clear hq2
  have HH := Lib.hid hh
  have KA1 := Lib.hid ((KA0.out.below hb1 (by simp)).alloc (.cells #[.int .i64 h.age, .int .i64 h.kind, .int .i64 h.id, .int .i64 h.adv, .int .i64 h.seq, .int .i64 h.sum, .int .i64 h.long] 23))
  have HRB := Lib.hid (show w.heap.size < w1.heap.size by have := hb1.size; simp at this; omega)
  have KH1 := Lib.hid (Blk.new w1 23 #[.int .i64 h.age, .int .i64 h.kind, .int .i64 h.id, .int .i64 h.adv, .int .i64 h.seq, .int .i64 h.sum, .int .i64 h.long])
  have BW1 := Lib.hid ((BW0.out.trans (hb1.mono (by simp))).alloc (by have := hb1.size; simp at this; omega) (.cells #[.int .i64 h.age, .int .i64 h.kind, .int .i64 h.id, .int .i64 h.adv, .int .i64 h.seq, .int .i64 h.sum, .int .i64 h.long] 23))
  have HR1 := Lib.hid ((HR0.out.below (hb1.mono (by simp; omega))).alloc (by have := hb1.size; simp at this; omega) (.cells #[.int .i64 h.age, .int .i64 h.kind, .int .i64 h.id, .int .i64 h.adv, .int .i64 h.seq, .int .i64 h.sum, .int .i64 h.long] 23))
  have hs1 := BW1.out.size
  have hk1 := KA1.out.lt
  clear hb1 KA0 BW0 HR0 hh
  go_upto_region 4 with fail
  have hhb : ∃ hb, w1.heap.size = hb := ⟨_, rfl⟩
  obtain ⟨hb, hhb⟩ := hhb
  have hbw : w.heap.size < hb := by rw [← hhb]; exact HRB.out
  rw [hhb] at KH1 ⊢
  generalize w1.alloc (.cells #[.int .i64 h.age, .int .i64 h.kind, .int .i64 h.id, .int .i64 h.adv, .int .i64 h.seq, .int .i64 h.sum, .int .i64 h.long] 23) = w2 at *
  clear hhb
  obtain ⟨k0, k1, k2, k3, k4, k5, k6⟩ := KH1.out.seven
  rw [HQ2.out] at k6
  obtain ⟨a0, a1, a2, a3, a4, a5, a6, a7, a8, a9⟩ := KA1.out.ten
  obtain ⟨g0, g1, g2, g3, g4, g5, g6, g7, g8, g9⟩ := KA1.out.tenF
  have h20 := H20.out
  have hln := HLN.out
  rw [HQQ.out] at h20 hln
  have HT := Lib.hid (show getT l = l.take q by unfold getT; rw [HQQ.out])
  have HRw := Lib.hid (show Row .u8 w2 B (some ⟨b0, o0 + 2, none⟩) (q - 2) ((getT l).drop 2) by
    have h3 := cut_some _ _ 2 (q - 2) (by omega) _ _ _ _ HR1.out
    rw [HT.out, List.drop_take]
    exact h3)
  have HYt := Lib.hid (show Byt (getT l) from HY.out.take _)
  have HYb := Lib.hid (show Byt ((getT l).drop 20) from (HY.out.take _).drop _)
  obtain ⟨A2, hA2, hrow2⟩ : ∃ A2, (if c = 20 then some (⟨b0, o0, none⟩ : Addr) else some ⟨b0, o0 + 20, none⟩) = A2 ∧ Row .u8 w2 B A2 (q - 20) ((getT l).drop 20) := by
    refine ⟨_, rfl, ?_⟩
    by_cases e : c = 20
    · have e2 : q - 20 = 0 := by omega
      rw [if_pos e, e2, List.drop_of_length_le (by rw [HT.out, List.length_take]; omega)]
      exact Row.nil
    · rw [if_neg e]
      have h3 := cut_some _ _ 20 (q - 20) (by omega) _ _ _ _ HR1.out
      rw [HT.out, List.drop_take]
      exact h3
  have RB := Lib.hid hrow2
  clear hrow2
  obtain ⟨_, _, e, hb0, hcc⟩ := HR1.out.2 (by omega)
  injection e with e
  injection e with ea eb
  subst ea eb
  have hc2 := hcc 2 (by omega)
  have hb0' : b0 < w2.heap.size := by omega
  have HX0 := Lib.hid (show l.getD 2 0 = l.getD 2 0 from rfl)
  clear hcc
  generalize hx : l.getD 2 0 = x at hc2
  have HX := Lib.hid hx
  clear hx HX0
  have KL2 := Lib.hid (Blk.new w2 27 #[.int .i64 h.age, .int .i64 h.kind, .int .i64 h.id, .int .i64 h.adv, .int .i64 h.seq, .int .i64 h.sum, .int .i64 (q : Int), .slice none 0 0, .slice none 0 0])
  go_wp2_with fail
  refine (refWhole_any (some ⟨b0, o0 + 2, none⟩) (q - 2) (c - 2) B _ _ HRw.out (HYt.out.drop 2) (by omega)).mono ?_
  rintro e3 w3 ⟨rfl, rfl⟩
  rw [HWT.out]
  go_upto_region 11 with fail
  have KA4 := Lib.hid (KA1.out.alloc (.cells #[.int .i64 h.age, .int .i64 h.kind, .int .i64 h.id, .int .i64 h.adv, .int .i64 h.seq, .int .i64 h.sum, .int .i64 (q : Int), .slice none 0 0, .slice none 0 0] 27))
  have KH4 := Lib.hid (KH1.out.alloc (.cells #[.int .i64 h.age, .int .i64 h.kind, .int .i64 h.id, .int .i64 h.adv, .int .i64 h.seq, .int .i64 h.sum, .int .i64 (q : Int), .slice none 0 0, .slice none 0 0] 27))
  have BW4 := Lib.hid (BW1.out.alloc hs1 (.cells #[.int .i64 h.age, .int .i64 h.kind, .int .i64 h.id, .int .i64 h.adv, .int .i64 h.seq, .int .i64 h.sum, .int .i64 (q : Int), .slice none 0 0, .slice none 0 0] 27))
  have RB4 := Lib.hid (RB.out.alloc (by omega) (.cells #[.int .i64 h.age, .int .i64 h.kind, .int .i64 h.id, .int .i64 h.adv, .int .i64 h.seq, .int .i64 h.sum, .int .i64 (q : Int), .slice none 0 0, .slice none 0 0] 27))
  have hc3 := (World.cell?_alloc_lt w2 (.cells #[.int .i64 h.age, .int .i64 h.kind, .int .i64 h.id, .int .i64 h.adv, .int .i64 h.seq, .int .i64 h.sum, .int .i64 (q : Int), .slice none 0 0, .slice none 0 0] 27) ⟨b0, o0 + 2, none⟩ hb0').trans hc2
  have hl4 : (w2.alloc (.cells #[.int .i64 h.age, .int .i64 h.kind, .int .i64 h.id, .int .i64 h.adv, .int .i64 h.seq, .int .i64 h.sum, .int .i64 (q : Int), .slice none 0 0, .slice none 0 0] 27)).heap.size = w2.heap.size + 1 := by simp
  have hhb2 := KH1.out.lt
  obtain ⟨lb, hlb⟩ : ∃ lb, w2.heap.size = lb := ⟨_, rfl⟩
  rw [hlb] at KL2 hl4 hhb2 hb0' hk1 ⊢
  have hs1' : w.heap.size ≤ lb := by omega
  have hBlb : B ≤ lb := by omega
  clear hs1 HRw RB KA1 KH1 BW1 a0 a1 a2 a3 a4 a5 a6 a7 a8 a9 g0 g1 g2 g3 g4 g5 g6 g7 g8 g9 k0 k1 k2 k3 k4 k5 k6 hc2 HR1
  generalize w2.alloc (.cells #[.int .i64 h.age, .int .i64 h.kind, .int .i64 h.id, .int .i64 h.adv, .int .i64 h.seq, .int .i64 h.sum, .int .i64 (q : Int), .slice none 0 0, .slice none 0 0] 27) = w4 at *
  clear hlb
  have HL4 := Lib.hid hl4
  have hl4' : lb < w4.heap.size := by omega
  have hs4 : w.heap.size ≤ w4.heap.size := by omega
  clear hl4
  obtain ⟨a0, a1, a2, a3, a4, a5, a6, a7, a8, a9⟩ := KA4.out.ten
  obtain ⟨g0, g1, g2, g3, g4, g5, g6, g7, g8, g9⟩ := KA4.out.tenF
  obtain ⟨k0, k1, k2, k3, k4, k5, k6⟩ := KH4.out.seven
  rw [HQ2.out] at k6
  have hok := HOK.out
  unfold okHead at hok
  rw [HX.out, HH.out, Bool.and_eq_true, decide_eq_true_iff] at hok
  obtain ⟨hx0, hhb⟩ := hok
  subst hx0
  have HB := Lib.hid hhb
  have hk2 : h.kind = 1 := by
    have h1 := HKD.out
    rwa [HH.out] at h1
  have hd2 : (h.kind == 2) = false := by simp [hk2]
  have hTH : headOf (getT l) = h := by rw [HT.out, headOf_take l q h20, HH.out]
  have hTO : okHead (getT l) = true := by rw [HT.out, okHead_take l q h20, HOK.out]
  obtain ⟨bd, hbd⟩ : ∃ bd, (getT l).drop 20 = bd := ⟨_, rfl⟩
  have hbl : bd.length = q - 20 := by rw [← hbd, HT.out, List.length_drop, List.length_take, HLEN.out]; omega
  have HTM := Lib.hid (show tM (getT l) = [] by unfold tM; rw [hTH, if_pos hk2])
  have HTL := Lib.hid (show tL (getT l) = lks bd (many bd) by unfold tL; rw [hTH, if_pos hk2, hbd])
  have HOT := Lib.hid (show okTold (getT l) = (okLinks bd && rightB h (lks bd (many bd)) []) by
    unfold okTold okBody
    rw [hTO, hTH, if_pos hk2, hbd, HTL.out, HTM.out]
    rfl)
  have HTH := Lib.hid hTH
  rw [hbd] at RB4 HYb
  obtain ⟨r, hr⟩ : ∃ r, q - 20 = r := ⟨_, rfl⟩
  have hbr : bd.length = r := by omega
  have HBR := Lib.hid hbr
  rw [hr] at RB4
  have hr500 : r ≤ 480 := by omega
  have hrc : r ≤ c - 20 := by omega
  have HCC := Lib.hid (show c - 20 ≤ maxLen by unfold maxLen; omega)
  clear hhb hk2 hTH hTO hbd hbl hbr
  go_wp2_with fail
  refine (refHead_any ⟨h.age, h.kind, h.id, h.adv, h.seq, h.sum, (q : Int)⟩ _).mono ?_
  rintro e4 w5 ⟨rfl, hb5⟩
  rw [show headB ⟨h.age, h.kind, h.id, h.adv, h.seq, h.sum, (q : Int)⟩ = true from HB.out]
  have KA5 := Lib.hid (KA4.out.below hb5 KA4.out.lt)
  have KH5 := Lib.hid (KH4.out.below hb5 KH4.out.lt)
  have KL5 := Lib.hid (KL2.out.below hb5 KL2.out.lt)
  have BW5 := Lib.hid (BW4.out.trans (hb5.mono hs4))
  have RB5 := Lib.hid (RB4.out.below (hb5.mono (by omega)))
  have hs5 := hb5.size
  clear hr hb5 a0 a1 a2 a3 a4 a5 a6 a7 a8 a9 g0 g1 g2 g3 g4 g5 g6 g7 g8 g9 k0 k1 k2 k3 k4 k5 k6 hc3 KA4 KH4 KL2 BW4 RB4 hA2
  obtain ⟨a0, a1, a2, a3, a4, a5, a6, a7, a8, a9⟩ := KA5.out.ten
  obtain ⟨g0, g1, g2, g3, g4, g5, g6, g7, g8, g9⟩ := KA5.out.tenF
  obtain ⟨k0, k1, k2, k3, k4, k5, k6⟩ := KH5.out.seven
  rw [HQ2.out] at k6
  by_cases h4 : r < 4
  · have HZ := Lib.hid (show okTold (getT l) = false by rw [HOT.out]; unfold okLinks; rw [HBR.out, decide_eq_false (by omega)]; rfl)
    go_wp2
    refine bodyPost_ret (v := .agg #[.int .i64 0, .int .i64 0, .int .i64 0, .int .i64 0, .int .i64 0, .int .i64 0, .int .i64 0, .slice none 0 0, .slice none 0 0, .int .i64 4]) (by simp [results, Try.results19, go_sem, *]) rfl ?_
    rw [← HQ.out, HZ.out]
    exact gotR_zero ((((((((((BW5.out.setCell (by simp) _).setCell (by simp) _).setCell (by simp) _).setCell (by simp) _).setCell (by simp) _).setCell (by simp) _).setCell (by simp) _).setCell (by simp) _).setCell (by simp) _).setCell (by simp) _)
  · obtain ⟨bb, oo, rfl, hbb, hcb⟩ := RB5.out.2 (by omega)
    have hbd0 := wordAt_bd bd HYb.out 0 4 (by rw [HBR.out]; omega)
    rw [show (256 : Int) ^ 4 = 4294967296 by decide] at hbd0
    have HCB := Lib.hid hcb
    clear hcb
    go_wp2_with fail
    refine (refNum_any bb oo r (c - 20) B 0 4 bd _ RB5.out HYb.out hrc HCC.out (by omega) (by decide) (by decide)).mono ?_
    rintro e6 w6 ⟨rfl, rfl⟩
    have HY0 := Lib.hid (show wordAt bd 0 4 = wordAt bd 0 4 from rfl)
    obtain ⟨y0, hy0⟩ : ∃ y0, wordAt bd 0 4 = y0 := ⟨_, rfl⟩
    rw [hy0] at hbd0 ⊢
    have HY1 := Lib.hid hy0
    have hb1 : 0 ≤ y0 := hbd0.1
    have hb2 : y0 < 4294967296 := hbd0.2
    clear hbd0 hy0 HY0
    by_cases hm : (r : Int) - 4 = 12 * y0
    · have hmd : ((r : Int) - 4 != 12 * y0) = false := by simp; omega
      obtain ⟨m, hmm⟩ : ∃ m, many bd = m := ⟨_, rfl⟩
      have hrm : r = 4 + 12 * m := by
        have := HBR.out
        have h9 := hmm
        unfold many at h9
        omega
      have HMM := Lib.hid hmm
      have HRM := Lib.hid hrm
      have HOTm := Lib.hid (show okTold (getT l) = (zerosB bd m && rightB h (lks bd m) []) by
        rw [HOT.out]
        unfold okLinks
        rw [HY1.out, HBR.out, decide_eq_true (show 4 ≤ r by omega), decide_eq_true (show ((r : Int) = 4 + 12 * y0) by omega), hmm]
        rfl)
      clear hm hmm hrm
      go_wp2_with fail
      clear hmd hb1 hb2
      clear a0 a1 a2 a3 a4 a5 a6 a7 a8 a9 g0 g1 g2 g3 g4 g5 g6 g7 g8 g9 k0 k1 k2 k3 k4 k5 k6
      go_loopw [7] (fun i wr => ∃ (k j : Nat) (v : Value), Hid (j = 4 + 12 * k) ∧ j ≤ r ∧ i = .int .i64 (j : Int) ∧ Hid (Blk wr lb 27 #[.int .i64 h.age, .int .i64 h.kind, .int .i64 h.id, .int .i64 h.adv, .int .i64 h.seq, .int .i64 h.sum, .int .i64 (q : Int), v, .slice none 0 0]) ∧ Hid (wr.ownsRow (lb + 1) 53 4 v k (lkCells (lks bd k))) ∧ Hid (Below lb w5 wr) ∧ Hid (zerosB bd k = true)) (fun i _ => r - (intOf i).toNat)
      case atStart => exact ⟨0, 4, .slice none 0 0, Lib.hid rfl, by omega, rfl, KL5, Lib.hid (World.ownsRow_nil _ _ _ _), Lib.hid (Below.refl _ _), Lib.hid rfl⟩
      case round =>
        obtain ⟨k, j, v, hjk, hj, rfl, hkl, hown, hbel, hzk⟩ := hrel
        obtain ⟨Av, cv, rfl⟩ := own_slice hown.out
        have hwr := hbel.out.size
        have hlbr := hkl.out.lt
        have hRr := Lib.hid (RB5.out.below (hbel.out.mono hBlb))
        by_cases hlt : j < r
        · have HKJ := Lib.hid (show j + 12 ≤ r ∧ k < m ∧ k ≤ 1048576 by have := hjk.out; have := HRM.out; omega)
          obtain ⟨bb', oo', e9, hbb', hcb'⟩ := hRr.out.2 (by omega)
          injection e9 with e9
          injection e9 with e9 e9'
          subst e9 e9'
          have c9 := hcb' (j + 9) (by have := HKJ.out; omega)
          clear hcb'
          obtain ⟨z, hz⟩ : ∃ z, wordAt bd (j + 9) 1 = z := ⟨_, rfl⟩
          have hz1 := hz
          rw [wordAt_one bd (j + 9) (by have := HKJ.out; have := HBR.out; omega)] at hz1
          have hzb := wordAt_bd bd HYb.out (j + 9) 1 (by have := HKJ.out; have := HBR.out; omega)
          rw [hz, show (256 : Int) ^ 1 = 256 by decide] at hzb
          rw [hz1] at c9
          clear hz1
          have HZW := Lib.hid hz
          clear hz
          have hw9 : IntKind.i64.wrap ((j : Int) + 9) = ((j + 9 : Nat) : Int) := by
            have := HKJ.out
            rw [IntWalk.i64_in _ (by omega)]
            rfl
          have hi9 : ((j + 9 : Nat) : Int).toNat = j + 9 := rfl
          have hl9 : j + 9 < r := by have := HKJ.out; omega
          by_cases hz0 : z = 0
          · subst hz0
            obtain ⟨-, -, -, -, -, -, -, l7, -⟩ := hkl.out.nine
            have hw4 : IntKind.i64.wrap ((j : Int) + 4) = ((j + 4 : Nat) : Int) := by
              have := HKJ.out
              rw [IntWalk.i64_in _ (by omega)]
              rfl
            have hw8 : IntKind.i64.wrap ((j : Int) + 8) = ((j + 8 : Nat) : Int) := by
              have := HKJ.out
              rw [IntWalk.i64_in _ (by omega)]
              rfl
            have hw10 : IntKind.i64.wrap ((j : Int) + 10) = ((j + 10 : Nat) : Int) := by
              have := HKJ.out
              rw [IntWalk.i64_in _ (by omega)]
              rfl
            have HX4 := Lib.hid (show ((j : Int) + 4) = ((j + 4 : Nat) : Int) from rfl)
            have HX8 := Lib.hid (show ((j : Int) + 8) = ((j + 8 : Nat) : Int) from rfl)
            have HX10 := Lib.hid (show ((j : Int) + 10) = ((j + 10 : Nat) : Int) from rfl)
            have HK4 := Lib.hid (show j + 4 ≤ r ∧ j + 4 + 4 ≤ r ∧ j + 8 + 1 ≤ r ∧ j + 10 + 2 ≤ r by have := HKJ.out; omega)
            obtain ⟨y1, hy1⟩ : ∃ y, wordAt bd j 4 = y := ⟨_, rfl⟩
            obtain ⟨y2, hy2⟩ : ∃ y, wordAt bd (j + 4) 4 = y := ⟨_, rfl⟩
            obtain ⟨y3, hy3⟩ : ∃ y, wordAt bd (j + 8) 1 = y := ⟨_, rfl⟩
            obtain ⟨y4, hy4⟩ : ∃ y, wordAt bd (j + 10) 2 = y := ⟨_, rfl⟩
            have HY1 := Lib.hid hy1
            have HY2 := Lib.hid hy2
            have HY3 := Lib.hid hy3
            have HY4 := Lib.hid hy4
            clear hy1 hy2 hy3 hy4 hzb
            have HWS := Lib.hid (show lb + 1 ≤ (wr.alloc (.cells #[.int .i64 y3, .int .i64 y1, .int .i64 y2, .int .i64 y4] 53)).drew.heap.size by simp; omega)
            have HWB := Lib.hid (show Below lb w5 (wr.alloc (.cells #[.int .i64 y3, .int .i64 y1, .int .i64 y2, .int .i64 y4] 53)).drew from below_drewN (hbel.out.alloc (Nat.le_of_lt hlbr) _) 1)
            go_upto_region 28 with fail
            clear c9 hl9 hi9 hw9
            go_region_law (first
              | (refine step_append_new (by rfl) (.tmp 96) (.tmp 113) 24 53 (.agg #[.int .i64 0, .int .i64 0, .int .i64 0, .int .i64 0]) 4 32 Try.underlying24 Try.info53 rfl (by decide) (by decide) (by rfl) (lb + 1) (.slice Av k cv) k _ (by rfl) (hown.out.alloc _) wr.heap.size [.int .i64 y3, .int .i64 y1, .int .i64 y2, .int .i64 y4] (by rfl) rfl (Blk.new wr 53 #[.int .i64 y3, .int .i64 y1, .int .i64 y2, .int .i64 y4]) (lkCells_one ⟨y3, y1, y2, y4⟩) HKJ.out.2.2 HWS.out lb 27 _ (hkl.out.alloc _) (Nat.lt_succ_self _) w5 HWB.out ?_; intro v' w' ho' hk' hb'; obtain ⟨Av', cv', rfl⟩ := own_slice ho'.out; obtain ⟨-, -, -, -, -, -, -, c7, -⟩ := hk'.out.nine; have f7 := hk'.out.frozen 7)
              | (go_simp; go_at_call 43; first
                  | (with_reducible refine (refNum_at bb oo r (c - 20) B j 4 ↑j 4 rfl rfl bd _ hRr.out.drew HYb.out hrc HCC.out HK4.out.1 (by decide) (by decide)).mono ?_; rintro e6 w6 ⟨rfl, rfl⟩; rw [HY1.out])
                  | (with_reducible refine (refNum_at bb oo r (c - 20) B (j + 4) 4 (↑j + 4) 4 HX4.out rfl bd _ hRr.out.drew HYb.out hrc HCC.out HK4.out.2.1 (by decide) (by decide)).mono ?_; rintro e6 w6 ⟨rfl, rfl⟩; rw [HY2.out])
                  | (with_reducible refine (refNum_at bb oo r (c - 20) B (j + 8) 1 (↑j + 8) 1 HX8.out rfl bd _ hRr.out.drew HYb.out hrc HCC.out HK4.out.2.2.1 (by decide) (by decide)).mono ?_; rintro e6 w6 ⟨rfl, rfl⟩; rw [HY3.out])
                  | (with_reducible refine (refNum_at bb oo r (c - 20) B (j + 10) 2 (↑j + 10) 2 HX10.out rfl bd _ hRr.out.drew HYb.out hrc HCC.out HK4.out.2.2.2 (by decide) (by decide)).mono ?_; rintro e6 w6 ⟨rfl, rfl⟩; rw [HY4.out])))
            all_goals
              have KN := Lib.hid (show Blk (w'.setCell ⟨lb, 7, none⟩ (.slice Av' (k + 1) cv')) lb 27 #[.int .i64 h.age, .int .i64 h.kind, .int .i64 h.id, .int .i64 h.adv, .int .i64 h.seq, .int .i64 h.sum, .int .i64 (q : Int), .slice Av' (k + 1) cv', .slice none 0 0] from hk'.out.put 7 _)
              have ON := Lib.hid (own_set ho'.out ⟨lb, 7, none⟩ (.slice Av' (k + 1) cv') (Nat.lt_succ_self _))
              have BN := Lib.hid (hb'.out.setCell (p := ⟨lb, 7, none⟩) (Nat.le_refl _) (.slice Av' (k + 1) cv'))
              go_wp2
              go_roundw
              case rel =>
                refine ⟨k + 1, j + 12, _, Lib.hid (by have := hjk.out; omega), HKJ.out.1, by go_num, KN, Lib.hid ?_, BN, Lib.hid ?_⟩
                · have h1 := ON.out
                  have hj4 := hjk.out
                  rw [lks_succ, lkCells_snoc, ← hj4]
                  unfold lkAt
                  rw [HY1.out, HY2.out, HY3.out, HY4.out]
                  exact h1
                · rw [zerosB_succ, hzk.out, ← hjk.out, HZW.out]
                  rfl
              case measure => simp [intOf]; omega
          · have HZF := Lib.hid (show okTold (getT l) = false by
              rw [HOTm.out, zerosB_false bd k m HKJ.out.2.1 (by rw [← hjk.out, HZW.out]; exact hz0)]
              rfl)
            have hzd : (z != 0) = true := by simpa using hz0
            have KAr := Lib.hid (KA5.out.below hbel.out (by omega))
            have BWr := Lib.hid (BW5.out.trans (hbel.out.mono hs1'))
            obtain ⟨a0, a1, a2, a3, a4, a5, a6, a7, a8, a9⟩ := KAr.out.ten
            obtain ⟨g0, g1, g2, g3, g4, g5, g6, g7, g8, g9⟩ := KAr.out.tenF
            go_wp2
            refine bodyPost_ret (v := .agg #[.int .i64 0, .int .i64 0, .int .i64 0, .int .i64 0, .int .i64 0, .int .i64 0, .int .i64 0, .slice none 0 0, .slice none 0 0, .int .i64 4]) (by simp [results, Try.results19, go_sem, *]) rfl ?_
            rw [← HQ.out, HZF.out]
            exact gotR_zero ((((((((((BWr.out.setCell (by simp) _).setCell (by simp) _).setCell (by simp) _).setCell (by simp) _).setCell (by simp) _).setCell (by simp) _).setCell (by simp) _).setCell (by simp) _).setCell (by simp) _).setCell (by simp) _)
        · have hkr : m = k := by have := hjk.out; have := HRM.out; omega
          have HKR := Lib.hid hkr
          have hwlb : w.heap.size < lb + 1 := by omega
          obtain ⟨_, _, e9, hcv, hcm, hrow⟩ := lnk_of_own hown.out (lks_length bd k)
          injection e9 with e9 _ e9'
          subst e9 e9'
          have HROW := Lib.hid hrow
          have KAr := Lib.hid (KA5.out.below hbel.out (by omega))
          have BWr := Lib.hid (BW5.out.trans (hbel.out.mono hs1'))
          have hk50 : k ≤ 125 := by have := hjk.out; omega
          have HOTk := Lib.hid (show okTold (getT l) = rightB h (lks bd k) [] by rw [HOTm.out, hkr, hzk.out]; rfl)
          have HTLk := Lib.hid (show tL (getT l) = lks bd k by rw [HTL.out, HMM.out, hkr])
          obtain ⟨l0, l1, l2, l3, l4, l5, l6, l7, l8⟩ := hkl.out.nine
          clear hrow hkr
          go_wp2_with fail
          refine (refRight_any ⟨h.age, h.kind, h.id, h.adv, h.seq, h.sum, (q : Int)⟩ (lks bd k) [] Av none k cv 0 0 _ _ HROW.out (Row.nil) (Nat.le_refl _) (by unfold maxLen; omega) (by unfold maxLen; omega)).mono ?_
          rintro e7 w7 ⟨rfl, hb7⟩
          rw [show rightB ⟨h.age, h.kind, h.id, h.adv, h.seq, h.sum, (q : Int)⟩ (lks bd k) [] = rightB h (lks bd k) [] from rfl]
          have KA7 := Lib.hid (KAr.out.below hb7 KAr.out.lt)
          have KL7 := Lib.hid (hkl.out.below hb7 hkl.out.lt)
          have OW7 := Lib.hid (own_below2 hown.out hb7)
          have BW7 := Lib.hid (BWr.out.trans (hb7.mono BWr.out.size))
          clear hb7 l0 l1 l2 l3 l4 l5 l6 l7 l8
          obtain ⟨l0, l1, l2, l3, l4, l5, l6, l7, l8⟩ := KL7.out.nine
          obtain ⟨a0, a1, a2, a3, a4, a5, a6, a7, a8, a9⟩ := KA7.out.ten
          obtain ⟨g0, g1, g2, g3, g4, g5, g6, g7, g8, g9⟩ := KA7.out.tenF
          cases hrt : rightB h (lks bd k) []
          · have HZF := Lib.hid (show okTold (getT l) = false by rw [HOTk.out, hrt])
            go_wp2
            refine bodyPost_ret (v := .agg #[.int .i64 0, .int .i64 0, .int .i64 0, .int .i64 0, .int .i64 0, .int .i64 0, .int .i64 0, .slice none 0 0, .slice none 0 0, .int .i64 4]) (by simp [results, Try.results19, go_sem, *]) rfl ?_
            rw [← HQ.out, HZF.out]
            exact gotR_zero ((((((((((BW7.out.setCell (by simp) _).setCell (by simp) _).setCell (by simp) _).setCell (by simp) _).setCell (by simp) _).setCell (by simp) _).setCell (by simp) _).setCell (by simp) _).setCell (by simp) _).setCell (by simp) _)
          · have HZT := Lib.hid (show okTold (getT l) = true by rw [HOTk.out, hrt])
            go_wp2
            refine bodyPost_ret (v := .agg #[.int .i64 h.age, .int .i64 h.kind, .int .i64 h.id, .int .i64 h.adv, .int .i64 h.seq, .int .i64 h.sum, .int .i64 (q : Int), .slice Av k cv, .slice none 0 0, .int .i64 0]) (by simp [results, Try.results19, go_sem, *]) rfl ?_
            rw [← HQ.out, HZT.out, if_pos rfl, if_pos rfl, if_pos rfl, HTLk.out, HH.out]
            refine ⟨Av, k, cv, none, 0, 0, ?_, own_low (own_set (own_set (own_set (own_set (own_set (own_set (own_set (own_set (own_set (own_set OW7.out _ _ hwlb) _ _ hwlb) _ _ hwlb) _ _ hwlb) _ _ hwlb) _ _ hwlb) _ _ hwlb) _ _ hwlb) _ _ hwlb) _ _ hwlb) (by omega), lks_length bd k, World.ownsRow_nil _ _ _ _, rfl, ((((((((((BW7.out.setCell (by simp) _).setCell (by simp) _).setCell (by simp) _).setCell (by simp) _).setCell (by simp) _).setCell (by simp) _).setCell (by simp) _).setCell (by simp) _).setCell (by simp) _).setCell (by simp) _)⟩
            rw [HQ2.out]
    · have HZ := Lib.hid (show okTold (getT l) = false by
        rw [HOT.out]
        unfold okLinks
        rw [HY1.out, HBR.out, decide_eq_true (show 4 ≤ r by omega), decide_eq_false (show ¬ ((r : Int) = 4 + 12 * y0) by omega)]
        rfl)
      have hmd : ((r : Int) - 4 != 12 * y0) = true := by simp; omega
      clear hm
      go_wp2
      refine bodyPost_ret (v := .agg #[.int .i64 0, .int .i64 0, .int .i64 0, .int .i64 0, .int .i64 0, .int .i64 0, .int .i64 0, .slice none 0 0, .slice none 0 0, .int .i64 4]) (by simp [results, Try.results19, go_sem, *]) rfl ?_
      rw [← HQ.out, HZ.out]
      exact gotR_zero ((((((((((BW5.out.setCell (by simp) _).setCell (by simp) _).setCell (by simp) _).setCell (by simp) _).setCell (by simp) _).setCell (by simp) _).setCell (by simp) _).setCell (by simp) _).setCell (by simp) _).setCell (by simp) _)
end Go.Proofs.Ytidncajbedgplaa
