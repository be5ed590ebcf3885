/- The reference's Get: a network's description. Conditions: the slice reads as bytes, at most 500 of them. -/
import Derived.Test.YtidncajbedgplaaLtG
import Derived.Test.YtidncajbedgplaaLtB
namespace Go.Proofs.Ytidncajbedgplaa
open Go.RowKit
attribute [local go_sem ↓] Go.wp_at_zero Go.wp_at_succ

/-- append of one element that was laid out for it, as one step of a region that draws; another block is kept. -/
theorem step_append_new {ops : Array Oper} {o : Oper} {a : Act} {w : World} {K : Act → World → Prop} {Q : Exit → Act → World → Prop} {E : Prop} (hgd : o.guard = none) (s x : Operand) (t e : TypeId) (z : Value) (size bytes : Nat)
    (ht : Try.prog.underlying t = some (.slice e)) (hinfo : (Try.prog.info? e).map (fun i => (i.zero, i.size, i.bytes)) = some (some z, size, bytes)) (hzs : z.cells.size = size) (hsz : 0 < size) (hby : bytes ≤ 1024)
    (ho : o.op = .call { callee := .builtin .append, args := #[s, x], argTypes := #[t, t] }) (base : Nat) (v : Value) (n : Nat) (xs : List Value) (hs : a.eval s = v) (hown : w.ownsRow base e size v n xs)
    (b : Nat) (news : List Value) (hx : a.eval x = .slice (some ⟨b, 0, none⟩) 1 1) (hl : news.length = size) (hb : Blk w b e news.toArray) (h1 : ∀ u ∈ news, u.oneCell' = true) (hn : n ≤ 1048576) (hbase : base ≤ w.heap.size)
    (lb : Nat) (tl : TypeId) (cl : Array Value) (hkl : Blk w lb tl cl) (hlb : lb < base) (w0 : World) (hB : Below lb w0 w)
    (hK : ∀ v' w', Hid (w'.ownsRow base e size v' (n + 1) (xs ++ news)) → Hid (Blk w' lb tl cl) → Hid (Below lb w0 w') → K (a.put o.dst v') w') : if Region.wanted o (yielded ops a.tmps) = true then Oper.wp Try.prog o a w K Q else E := by
  have hw : Region.wanted o (yielded ops a.tmps) = true := by simp [Region.wanted, hgd]
  rw [if_pos hw]
  obtain ⟨i0, hi, hz0, hz1, hz2⟩ := info_parts hinfo
  have hnews : ∀ j u, news[j]? = some u → w.cell? ((⟨b, 0, none⟩ : Addr).add j) = some u := by
    intro j u hu
    rw [addr_add, hb.cell, Nat.zero_add, List.getElem?_toArray]
    exact hu
  have hbb : (n + 1) * bytes ≤ 1048577 * 1024 := Nat.mul_le_mul (by omega) hby
  obtain ⟨v', w', hrun, h2, h3, _⟩ := run_append_own (P := Try.prog) w base t o.type e i0 z size bytes ht hi hz0 hz1 hz2 hzs hsz v n xs hown ⟨b, 0, none⟩ 1 1 news (by omega) hnews h1 (by unfold maxLen; omega) (by omega) hbase
  unfold Oper.wp execOp
  simp only [ho, resolve, invoke, builtin, Sem.run_bind, Sem.run_pure, Result.andThen_ok, List.map_toArray, List.map_cons, List.map_nil, hs, hx, hrun]
  refine hK v' w' h2 ?_ ?_
  · exact (h3.block lb hkl.lt (fun q => by have := (hown.lt lb q.symm).1; omega)).trans hkl
  · exact hB.grown h3 (by have := hkl.lt; omega) (fun k hk => by have := (hown.lt k hk).1; omega)

set_option maxRecDepth 100000 in
set_option maxHeartbeats 8000000 in
theorem refGet_net (b0 o0 n c B : Nat) (l : List Int) (w : World) (hr : Row .u8 w B (some ⟨b0, o0, none⟩) n l) (hby : Byt l) (hB : B ≤ w.heap.size) (hn : 20 ≤ n) (hn2 : n ≤ 500) (hnc : n ≤ c) (hc : c ≤ maxLen) (h20 : 20 ≤ longOf l) (hln : longOf l ≤ n) (hw : wholeB ((getT l).drop 2) = true) (hok : okHead l = true) (hkd : ¬ (headOf l).kind = 1) :
    Calls Try.prog 19 #[.slice (some ⟨b0, o0, none⟩) n c] w (GotR w (if okTold (getT l) = true then headOf l else zeroHd) [] (if okTold (getT l) = true then tM (getT l) else []) (if okTold (getT l) = true then 0 else 4)) := by
  generalize hQ : GotR w (if okTold (getT l) = true then headOf l else zeroHd) [] (if okTold (getT l) = true then tM (getT l) else []) (if okTold (getT l) = true then 0 else 4) = Q
  have HQ := Lib.hid hQ
  have HWT := Lib.hid hw
  have HOK := Lib.hid hok
  have H20 := Lib.hid h20
  have HLN := Lib.hid hln
  have HKD := Lib.hid hkd
  clear hQ hw hok h20 hln hkd
  have HCm := Lib.hid hc
  have HLEN := Lib.hid hr.1
  have HY := Lib.hid hby
  have hbd := wordAt_bd l hby 18 2 (by rw [hr.1]; omega)
  rw [show (256 : Int) ^ 2 = 65536 by decide] at hbd
  obtain ⟨q, hq⟩ : ∃ q, longOf l = q := ⟨_, rfl⟩
  have hq2 : (headOf l).long = (q : Int) := by rw [← hq]; show wordAt l 18 2 = _; unfold longOf; omega
  have hq3 : q < 65536 := by rw [← hq]; unfold longOf; omega
  have HQQ := Lib.hid hq
  have HR0 := Lib.hid (hr.alloc hB (.cells #[.int .i64 0, .int .i64 0, .int .i64 0, .int .i64 0, .int .i64 0, .int .i64 0, .int .i64 0, .slice none 0 0, .slice none 0 0, .int .i64 0] 42))
  have KA0 := Lib.hid (Blk.new w 42 #[.int .i64 0, .int .i64 0, .int .i64 0, .int .i64 0, .int .i64 0, .int .i64 0, .int .i64 0, .slice none 0 0, .slice none 0 0, .int .i64 0])
  have BW0 := Lib.hid ((Below.refl w.heap.size w).alloc (Nat.le_refl _) (.cells #[.int .i64 0, .int .i64 0, .int .i64 0, .int .i64 0, .int .i64 0, .int .i64 0, .int .i64 0, .slice none 0 0, .slice none 0 0, .int .i64 0] 42))
  unfold maxLen at hc
  clear hr hby hbd hq
  go_enter Try.func19, Try.ntmps19
  go_wp2_with fail
  refine (refHeadOf_any b0 o0 n c B l _ HR0.out HY.out (by simp; omega) hn hnc HCm.out).mono ?_
  rintro e1 w1 ⟨rfl, hb1⟩
  obtain ⟨h, hh⟩ : ∃ h, headOf l = h := ⟨_, rfl⟩
  rw [hh] at hq2 ⊢
  have HQ2 := Lib.hid hq2
  clear hq2
  have HH := Lib.hid hh
  have KA1 := Lib.hid ((KA0.out.below hb1 (by simp)).alloc (.cells #[.int .i64 h.age, .int .i64 h.kind, .int .i64 h.id, .int .i64 h.adv, .int .i64 h.seq, .int .i64 h.sum, .int .i64 h.long] 23))
  have HRB := Lib.hid (show w.heap.size < w1.heap.size by have := hb1.size; simp at this; omega)
  have KH1 := Lib.hid (Blk.new w1 23 #[.int .i64 h.age, .int .i64 h.kind, .int .i64 h.id, .int .i64 h.adv, .int .i64 h.seq, .int .i64 h.sum, .int .i64 h.long])
  have BW1 := Lib.hid ((BW0.out.trans (hb1.mono (by simp))).alloc (by have := hb1.size; simp at this; omega) (.cells #[.int .i64 h.age, .int .i64 h.kind, .int .i64 h.id, .int .i64 h.adv, .int .i64 h.seq, .int .i64 h.sum, .int .i64 h.long] 23))
  have HR1 := Lib.hid ((HR0.out.below (hb1.mono (by simp; omega))).alloc (by have := hb1.size; simp at this; omega) (.cells #[.int .i64 h.age, .int .i64 h.kind, .int .i64 h.id, .int .i64 h.adv, .int .i64 h.seq, .int .i64 h.sum, .int .i64 h.long] 23))
  have hs1 := BW1.out.size
  have hk1 := KA1.out.lt
  clear hb1 KA0 BW0 HR0 hh
  go_upto_region 4 with fail
  have hhb : ∃ hb, w1.heap.size = hb := ⟨_, rfl⟩
  obtain ⟨hb, hhb⟩ := hhb
  have hbw : w.heap.size < hb := by rw [← hhb]; exact HRB.out
  rw [hhb] at KH1 ⊢
  generalize w1.alloc (.cells #[.int .i64 h.age, .int .i64 h.kind, .int .i64 h.id, .int .i64 h.adv, .int .i64 h.seq, .int .i64 h.sum, .int .i64 h.long] 23) = w2 at *
  clear hhb
  obtain ⟨k0, k1, k2, k3, k4, k5, k6⟩ := KH1.out.seven
  rw [HQ2.out] at k6
  obtain ⟨a0, a1, a2, a3, a4, a5, a6, a7, a8, a9⟩ := KA1.out.ten
  obtain ⟨g0, g1, g2, g3, g4, g5, g6, g7, g8, g9⟩ := KA1.out.tenF
  have h20 := H20.out
  have hln := HLN.out
  rw [HQQ.out] at h20 hln
  have HT := Lib.hid (show getT l = l.take q by unfold getT; rw [HQQ.out])
  have HRw := Lib.hid (show Row .u8 w2 B (some ⟨b0, o0 + 2, none⟩) (q - 2) ((getT l).drop 2) by
    have h3 := cut_some _ _ 2 (q - 2) (by omega) _ _ _ _ HR1.out
    rw [HT.out, List.drop_take]
    exact h3)
  have HYt := Lib.hid (show Byt (getT l) from HY.out.take _)
  have HYb := Lib.hid (show Byt ((getT l).drop 20) from (HY.out.take _).drop _)
  obtain ⟨A2, hA2, hrow2⟩ : ∃ A2, (if c = 20 then some (⟨b0, o0, none⟩ : Addr) else some ⟨b0, o0 + 20, none⟩) = A2 ∧ Row .u8 w2 B A2 (q - 20) ((getT l).drop 20) := by
    refine ⟨_, rfl, ?_⟩
    by_cases e : c = 20
    · have e2 : q - 20 = 0 := by omega
      rw [if_pos e, e2, List.drop_of_length_le (by rw [HT.out, List.length_take]; omega)]
      exact Row.nil
    · rw [if_neg e]
      have h3 := cut_some _ _ 20 (q - 20) (by omega) _ _ _ _ HR1.out
      rw [HT.out, List.drop_take]
      exact h3
  have RB := Lib.hid hrow2
  clear hrow2
  obtain ⟨_, _, e, hb0, hcc⟩ := HR1.out.2 (by omega)
  injection e with e
  injection e with ea eb
  subst ea eb
  have hc2 := hcc 2 (by omega)
  have hb0' : b0 < w2.heap.size := by omega
  have HX0 := Lib.hid (show l.getD 2 0 = l.getD 2 0 from rfl)
  clear hcc
  generalize hx : l.getD 2 0 = x at hc2
  have HX := Lib.hid hx
  clear hx HX0
  have KL2 := Lib.hid (Blk.new w2 27 #[.int .i64 h.age, .int .i64 h.kind, .int .i64 h.id, .int .i64 h.adv, .int .i64 h.seq, .int .i64 h.sum, .int .i64 (q : Int), .slice none 0 0, .slice none 0 0])
  go_wp2_with fail
  refine (refWhole_any (some ⟨b0, o0 + 2, none⟩) (q - 2) (c - 2) B _ _ HRw.out (HYt.out.drop 2) (by omega)).mono ?_
  rintro e3 w3 ⟨rfl, rfl⟩
  rw [HWT.out]
  go_upto_region 11 with fail
  have KA4 := Lib.hid (KA1.out.alloc (.cells #[.int .i64 h.age, .int .i64 h.kind, .int .i64 h.id, .int .i64 h.adv, .int .i64 h.seq, .int .i64 h.sum, .int .i64 (q : Int), .slice none 0 0, .slice none 0 0] 27))
  have KH4 := Lib.hid (KH1.out.alloc (.cells #[.int .i64 h.age, .int .i64 h.kind, .int .i64 h.id, .int .i64 h.adv, .int .i64 h.seq, .int .i64 h.sum, .int .i64 (q : Int), .slice none 0 0, .slice none 0 0] 27))
  have BW4 := Lib.hid (BW1.out.alloc hs1 (.cells #[.int .i64 h.age, .int .i64 h.kind, .int .i64 h.id, .int .i64 h.adv, .int .i64 h.seq, .int .i64 h.sum, .int .i64 (q : Int), .slice none 0 0, .slice none 0 0] 27))
  have RB4 := Lib.hid (RB.out.alloc (by omega) (.cells #[.int .i64 h.age, .int .i64 h.kind, .int .i64 h.id, .int .i64 h.adv, .int .i64 h.seq, .int .i64 h.sum, .int .i64 (q : Int), .slice none 0 0, .slice none 0 0] 27))
  have hc3 := (World.cell?_alloc_lt w2 (.cells #[.int .i64 h.age, .int .i64 h.kind, .int .i64 h.id, .int .i64 h.adv, .int .i64 h.seq, .int .i64 h.sum, .int .i64 (q : Int), .slice none 0 0, .slice none 0 0] 27) ⟨b0, o0 + 2, none⟩ hb0').trans hc2
  have hl4 : (w2.alloc (.cells #[.int .i64 h.age, .int .i64 h.kind, .int .i64 h.id, .int .i64 h.adv, .int .i64 h.seq, .int .i64 h.sum, .int .i64 (q : Int), .slice none 0 0, .slice none 0 0] 27)).heap.size = w2.heap.size + 1 := by simp
  have hhb2 := KH1.out.lt
  obtain ⟨lb, hlb⟩ : ∃ lb, w2.heap.size = lb := ⟨_, rfl⟩
  rw [hlb] at KL2 hl4 hhb2 hb0' hk1 ⊢
  have hs1' : w.heap.size ≤ lb := by omega
  have hBlb : B ≤ lb := by omega
  clear hs1 HRw RB KA1 KH1 BW1 a0 a1 a2 a3 a4 a5 a6 a7 a8 a9 g0 g1 g2 g3 g4 g5 g6 g7 g8 g9 k0 k1 k2 k3 k4 k5 k6 hc2 HR1
  generalize w2.alloc (.cells #[.int .i64 h.age, .int .i64 h.kind, .int .i64 h.id, .int .i64 h.adv, .int .i64 h.seq, .int .i64 h.sum, .int .i64 (q : Int), .slice none 0 0, .slice none 0 0] 27) = w4 at *
  clear hlb
  have HL4 := Lib.hid hl4
  have hl4' : lb < w4.heap.size := by omega
  have hs4 : w.heap.size ≤ w4.heap.size := by omega
  clear hl4
  obtain ⟨a0, a1, a2, a3, a4, a5, a6, a7, a8, a9⟩ := KA4.out.ten
  obtain ⟨g0, g1, g2, g3, g4, g5, g6, g7, g8, g9⟩ := KA4.out.tenF
  obtain ⟨k0, k1, k2, k3, k4, k5, k6⟩ := KH4.out.seven
  rw [HQ2.out] at k6
  have hok := HOK.out
  unfold okHead at hok
  rw [HX.out, HH.out, Bool.and_eq_true, decide_eq_true_iff] at hok
  obtain ⟨hx0, hhb⟩ := hok
  subst hx0
  have HB := Lib.hid hhb
  have hk2 : h.kind = 2 := by
    have h1 := HKD.out
    rw [HH.out] at h1
    unfold headB at hhb
    simp only [Bool.and_eq_true, inB_iff] at hhb
    omega
  have hd2 : (h.kind == 2) = true := by simp [hk2]
  have hTH : headOf (getT l) = h := by rw [HT.out, headOf_take l q h20, HH.out]
  have hTO : okHead (getT l) = true := by rw [HT.out, okHead_take l q h20, HOK.out]
  obtain ⟨bd, hbd⟩ : ∃ bd, (getT l).drop 20 = bd := ⟨_, rfl⟩
  have hbl : bd.length = q - 20 := by rw [← hbd, HT.out, List.length_drop, List.length_take, HLEN.out]; omega
  have HTM := Lib.hid (show tM (getT l) = words bd (bd.length / 4) by unfold tM; rw [hTH, if_neg (by omega), hbd])
  have HTL := Lib.hid (show tL (getT l) = [] by unfold tL; rw [hTH, if_neg (by omega)])
  have HOT := Lib.hid (show okTold (getT l) = (decide (bd.length % 4 = 0) && rightB h [] (words bd (bd.length / 4))) by
    unfold okTold okBody
    rw [hTO, hTH, if_neg (by omega), hbd, HTL.out, HTM.out]
    rfl)
  have HTH := Lib.hid hTH
  rw [hbd] at RB4 HYb
  obtain ⟨r, hr⟩ : ∃ r, q - 20 = r := ⟨_, rfl⟩
  have hbr : bd.length = r := by omega
  have HBR := Lib.hid hbr
  rw [hr] at RB4
  have hr500 : r ≤ 480 := by omega
  have hrc : r ≤ c - 20 := by omega
  have HCC := Lib.hid (show c - 20 ≤ maxLen by unfold maxLen; omega)
  clear hhb hk2 hTH hTO hbd hbl hbr
  go_wp2_with fail
  refine (refHead_any ⟨h.age, h.kind, h.id, h.adv, h.seq, h.sum, (q : Int)⟩ _).mono ?_
  rintro e4 w5 ⟨rfl, hb5⟩
  rw [show headB ⟨h.age, h.kind, h.id, h.adv, h.seq, h.sum, (q : Int)⟩ = true from HB.out]
  have KA5 := Lib.hid (KA4.out.below hb5 KA4.out.lt)
  have KH5 := Lib.hid (KH4.out.below hb5 KH4.out.lt)
  have KL5 := Lib.hid (KL2.out.below hb5 KL2.out.lt)
  have BW5 := Lib.hid (BW4.out.trans (hb5.mono hs4))
  have RB5 := Lib.hid (RB4.out.below (hb5.mono (by omega)))
  have hs5 := hb5.size
  clear hr hb5 a0 a1 a2 a3 a4 a5 a6 a7 a8 a9 g0 g1 g2 g3 g4 g5 g6 g7 g8 g9 k0 k1 k2 k3 k4 k5 k6 hc3 KA4 KH4 KL2 BW4 RB4 hA2
  obtain ⟨a0, a1, a2, a3, a4, a5, a6, a7, a8, a9⟩ := KA5.out.ten
  obtain ⟨g0, g1, g2, g3, g4, g5, g6, g7, g8, g9⟩ := KA5.out.tenF
  obtain ⟨k0, k1, k2, k3, k4, k5, k6⟩ := KH5.out.seven
  rw [HQ2.out] at k6
  by_cases hz : r % 4 = 0
  · have HZ := Lib.hid hz
    have hzd : ((r : Int) % 4 != 0) = false := by simp; omega
    clear hz
    go_wp2_with fail
    clear hzd
    clear a0 a1 a2 a3 a4 a5 a6 a7 a8 a9 g0 g1 g2 g3 g4 g5 g6 g7 g8 g9 k0 k1 k2 k3 k4 k5 k6
    go_loopw [6] (fun i wr => ∃ (k j : Nat) (v : Value), Hid (j = 4 * k) ∧ j ≤ r ∧ i = .int .i64 (j : Int) ∧ Hid (Blk wr lb 27 #[.int .i64 h.age, .int .i64 h.kind, .int .i64 h.id, .int .i64 h.adv, .int .i64 h.seq, .int .i64 h.sum, .int .i64 (q : Int), .slice none 0 0, v]) ∧ Hid (wr.ownsRow (lb + 1) 3 1 v k ((words bd k).map (Value.int .i64))) ∧ Hid (Below lb w5 wr)) (fun i _ => r - (intOf i).toNat)
    case atStart => exact ⟨0, 0, .slice none 0 0, Lib.hid rfl, Nat.zero_le _, rfl, KL5, Lib.hid (World.ownsRow_nil _ _ _ _), Lib.hid (Below.refl _ _)⟩
    case round =>
      obtain ⟨k, j, v, hjk, hj, rfl, hkl, hown, hbel⟩ := hrel
      obtain ⟨Av, cv, rfl⟩ := own_slice hown.out
      have hwr := hbel.out.size
      have hlbr := hkl.out.lt
      obtain ⟨-, -, -, -, -, -, -, -, k8⟩ := hkl.out.nine
      have hRr := Lib.hid (RB5.out.below (hbel.out.mono hBlb))
      by_cases hlt : j < r
      · obtain ⟨bb, oo, rfl, hbb, -⟩ := hRr.out.2 (by omega)
        have HKJ := Lib.hid (show j + 4 ≤ r ∧ k ≤ 1048576 by have := hjk.out; have := HZ.out; omega)
        obtain ⟨y, hy⟩ : ∃ y, wordAt bd j 4 = y := ⟨_, rfl⟩
        have HYY := Lib.hid hy
        clear hy
        have HWS := Lib.hid (show lb + 1 ≤ (wr.alloc (.cells #[.int .i64 y] 3)).drew.heap.size by simp; omega)
        have HWB := Lib.hid (show Below lb w5 (wr.alloc (.cells #[.int .i64 y] 3)).drew from below_drewN (hbel.out.alloc (Nat.le_of_lt hlbr) _) 1)
        go_upto_region 20 with fail
        go_region_law (first
          | (go_simp; go_at_call 43; refine (refNum_any bb oo r (c - 20) B j 4 bd _ hRr.out.drew HYb.out hrc HCC.out HKJ.out.1 (by decide) (by decide)).mono ?_; rintro e6 w6 ⟨rfl, rfl⟩; rw [HYY.out])
          | (refine step_append_new (by rfl) (.tmp 62) (.tmp 66) 25 3 (.int .i64 0) 1 8 Try.underlying25 Try.info3 rfl (by decide) (by decide) (by rfl) (lb + 1) (.slice Av k cv) k _ (by rfl) (hown.out.alloc _) wr.heap.size [.int .i64 y] (by rfl) rfl (Blk.new wr 3 #[.int .i64 y]) (oneCell_ints .i64 [y]) HKJ.out.2 HWS.out lb 27 _ (hkl.out.alloc _) (Nat.lt_succ_self _) w5 HWB.out ?_; intro v' w' ho' hk' hb'; obtain ⟨Av', cv', rfl⟩ := own_slice ho'.out; obtain ⟨-, -, -, -, -, -, -, -, c8⟩ := hk'.out.nine; have f8 := hk'.out.frozen 8))
        all_goals
          have KN := Lib.hid (show Blk (w'.setCell ⟨lb, 8, none⟩ (.slice Av' (k + 1) cv')) lb 27 #[.int .i64 h.age, .int .i64 h.kind, .int .i64 h.id, .int .i64 h.adv, .int .i64 h.seq, .int .i64 h.sum, .int .i64 (q : Int), .slice none 0 0, .slice Av' (k + 1) cv'] from hk'.out.put 8 _)
          have ON := Lib.hid (own_set ho'.out ⟨lb, 8, none⟩ (.slice Av' (k + 1) cv') (Nat.lt_succ_self _))
          have BN := Lib.hid (hb'.out.setCell (p := ⟨lb, 8, none⟩) (Nat.le_refl _) (.slice Av' (k + 1) cv'))
          go_wp2
          go_roundw
          case rel =>
            refine ⟨k + 1, j + 4, _, Lib.hid (by have := hjk.out; omega), HKJ.out.1, by go_num, KN, Lib.hid ?_, BN⟩
            have h1 := ON.out
            have hj4 := hjk.out
            rw [words_succ, ← hj4, HYY.out, List.map_append]
            exact h1
          case measure => simp [intOf]; omega
      · have hkr : bd.length / 4 = k := by have := hjk.out; have := HBR.out; have := HZ.out; omega
        have HKR := Lib.hid hkr
        have hwlb : w.heap.size < lb + 1 := by omega
        obtain ⟨_, _, e9, hcv, hcm, hrow⟩ := row_of_ints hown.out (words_length bd k)
        injection e9 with e9 _ e9'
        subst e9 e9'
        have HROW := Lib.hid hrow
        have KAr := Lib.hid (KA5.out.below hbel.out (by omega))
        have BWr := Lib.hid (BW5.out.trans (hbel.out.mono hs1'))
        have hk50 : k ≤ 125 := by have := hjk.out; omega
        have HOTk := Lib.hid (show okTold (getT l) = rightB h [] (words bd k) by rw [HOT.out, hkr, HBR.out, decide_eq_true HZ.out]; rfl)
        have HTMk := Lib.hid (show tM (getT l) = words bd k by rw [HTM.out, hkr])
        obtain ⟨l0, l1, l2, l3, l4, l5, l6, l7, l8⟩ := hkl.out.nine
        clear hrow hkr
        go_wp2_with fail
        refine (refRight_any ⟨h.age, h.kind, h.id, h.adv, h.seq, h.sum, (q : Int)⟩ [] (words bd k) none Av 0 0 k cv _ _ Lnk.nil HROW.out (Nat.le_refl _) (by unfold maxLen; omega) (by unfold maxLen; omega)).mono ?_
        rintro e7 w7 ⟨rfl, hb7⟩
        rw [show rightB ⟨h.age, h.kind, h.id, h.adv, h.seq, h.sum, (q : Int)⟩ [] (words bd k) = rightB h [] (words bd k) from rfl]
        have KA7 := Lib.hid (KAr.out.below hb7 KAr.out.lt)
        have KL7 := Lib.hid (hkl.out.below hb7 hkl.out.lt)
        have OW7 := Lib.hid (own_below2 hown.out hb7)
        have BW7 := Lib.hid (BWr.out.trans (hb7.mono BWr.out.size))
        clear hb7 l0 l1 l2 l3 l4 l5 l6 l7 l8 k8
        obtain ⟨l0, l1, l2, l3, l4, l5, l6, l7, l8⟩ := KL7.out.nine
        obtain ⟨a0, a1, a2, a3, a4, a5, a6, a7, a8, a9⟩ := KA7.out.ten
        obtain ⟨g0, g1, g2, g3, g4, g5, g6, g7, g8, g9⟩ := KA7.out.tenF
        cases hrt : rightB h [] (words bd k)
        · have HZF := Lib.hid (show okTold (getT l) = false by rw [HOTk.out, hrt])
          go_wp2
          refine bodyPost_ret (v := .agg #[.int .i64 0, .int .i64 0, .int .i64 0, .int .i64 0, .int .i64 0, .int .i64 0, .int .i64 0, .slice none 0 0, .slice none 0 0, .int .i64 4]) (by simp [results, Try.results19, go_sem, *]) rfl ?_
          rw [← HQ.out, HZF.out]
          exact gotR_zero ((((((((((BW7.out.setCell (by simp) _).setCell (by simp) _).setCell (by simp) _).setCell (by simp) _).setCell (by simp) _).setCell (by simp) _).setCell (by simp) _).setCell (by simp) _).setCell (by simp) _).setCell (by simp) _)
        · have HZT := Lib.hid (show okTold (getT l) = true by rw [HOTk.out, hrt])
          go_wp2
          refine bodyPost_ret (v := .agg #[.int .i64 h.age, .int .i64 h.kind, .int .i64 h.id, .int .i64 h.adv, .int .i64 h.seq, .int .i64 h.sum, .int .i64 (q : Int), .slice none 0 0, .slice Av k cv, .int .i64 0]) (by simp [results, Try.results19, go_sem, *]) rfl ?_
          rw [← HQ.out, HZT.out, if_pos rfl, if_pos rfl, if_pos rfl, HTMk.out, HH.out]
          refine ⟨none, 0, 0, Av, k, cv, ?_, World.ownsRow_nil _ _ _ _, rfl, own_low (own_set (own_set (own_set (own_set (own_set (own_set (own_set (own_set (own_set (own_set OW7.out _ _ hwlb) _ _ hwlb) _ _ hwlb) _ _ hwlb) _ _ hwlb) _ _ hwlb) _ _ hwlb) _ _ hwlb) _ _ hwlb) _ _ hwlb) (by omega), words_length bd k, ((((((((((BW7.out.setCell (by simp) _).setCell (by simp) _).setCell (by simp) _).setCell (by simp) _).setCell (by simp) _).setCell (by simp) _).setCell (by simp) _).setCell (by simp) _).setCell (by simp) _).setCell (by simp) _)⟩
          rw [HQ2.out]
  · have HZ := Lib.hid (show okTold (getT l) = false by rw [HOT.out, HBR.out, decide_eq_false hz]; rfl)
    have hzd : ((r : Int) % 4 != 0) = true := by simp; omega
    clear hz
    go_wp2
    refine bodyPost_ret (v := .agg #[.int .i64 0, .int .i64 0, .int .i64 0, .int .i64 0, .int .i64 0, .int .i64 0, .int .i64 0, .slice none 0 0, .slice none 0 0, .int .i64 4]) (by simp [results, Try.results19, go_sem, *]) rfl ?_
    rw [← HQ.out, HZ.out]
    exact gotR_zero ((((((((((BW5.out.setCell (by simp) _).setCell (by simp) _).setCell (by simp) _).setCell (by simp) _).setCell (by simp) _).setCell (by simp) _).setCell (by simp) _).setCell (by simp) _).setCell (by simp) _).setCell (by simp) _)
end Go.Proofs.Ytidncajbedgplaa
