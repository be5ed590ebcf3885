/- The walk of the statement RxmtDrops. Conditions: what the words say. -/
import Derived.Test.YtndjoanlbaiaeaaKl
import Derived.Test.YtndjoanlbaiaeaaKm
import Derived.Test.YtndjoanlbaiaeaaKn
namespace Go.Proofs.Ytndjoanlbaiaeaa
open Go.RowKit Go.Shelf Go.Lib Go.Sort Go.Deep

theorem on_i {w : World} {p : Nat} {L : List Rw} {F : Nat → Prop} (h : RxIs w p L F) (n : Int × Int) (hn : wfN n) (k : Ky) (hk : wfKy k) : Calls Try.prog 23 #[.pointer (some ⟨p, 0, none⟩), .int .i64 n.1, .int .i64 n.2, .agg #[.int .i64 k.kind, .int .i64 k.id, .int .i64 k.adv]] w fun e w' => e = .returned (.bool (decide (Rw.mk n k ∈ L))) ∧ Below w.heap.size w w' := by
  obtain ⟨m, R, h⟩ := h
  exact on_x h n hn k hk
theorem len_i {w : World} {p : Nat} {L : List Rw} {F : Nat → Prop} (h : RxIs w p L F) (n : Int × Int) (hn : wfN n) : Calls Try.prog 19 #[.pointer (some ⟨p, 0, none⟩), .int .i64 n.1, .int .i64 n.2] w fun e w' => e = .returned (.int .i64 ((onL L n).length : Int)) ∧ w = w' := by
  obtain ⟨m, R, h⟩ := h
  exact len_x h n hn
set_option maxRecDepth 20000 in
set_option maxHeartbeats 32000000 in
theorem drops16_walk {w : World} {A : Option Addr} {nn c : Nat} {T : List (Int × Int)} {k o : Ky} (hT : Prs w w.heap.size A nn T) (hnn : nn ≤ maxLen) (hk : wfKy k) (ho : wfKy o) : Calls Try.prog 6 #[.slice A nn c, .agg #[.int .i64 k.kind, .int .i64 k.id, .int .i64 k.adv], .agg #[.int .i64 o.kind, .int .i64 o.id, .int .i64 o.adv]] w fun e w' => e = .returned (.bool true) ∧ Below w.heap.size w w' := by
  unfold maxLen at hnn
  generalize hQ : (fun (e : Ending) (w' : World) => e = .returned (.bool true) ∧ Below w.heap.size w w') = Q
  have HQ := Lib.hid hQ
  have HT := Lib.hid hT
  have HWK := Lib.hid hk
  have HWO := Lib.hid ho
  have B0 := Lib.hid (below_new2 w (.cells #[.int .i64 k.kind, .int .i64 k.id, .int .i64 k.adv] 34) (.cells #[.int .i64 o.kind, .int .i64 o.id, .int .i64 o.adv] 34))
  have K0 := Lib.hid (blk_new07 w #[.int .i64 k.kind, .int .i64 k.id, .int .i64 k.adv] 34 (.cells #[.int .i64 o.kind, .int .i64 o.id, .int .i64 o.adv] 34))
  have O0 := Lib.hid (blk_new1 w (.cells #[.int .i64 k.kind, .int .i64 k.id, .int .i64 k.adv] 34) 34 #[.int .i64 o.kind, .int .i64 o.id, .int .i64 o.adv])
  clear hQ hT hk ho
  go_enter Try.func6, Try.ntmps6
  go_wp2_with fail
  refine (wakes_any _).mono ?_
  rintro e1 w1 ⟨rfl, hb1⟩
  have B1 := Lib.hid (B0.out.trans (hb1.mono B0.out.size))
  have K1 := Lib.hid (K0.out.below hb1 K0.out.lt)
  have O1 := Lib.hid (O0.out.below hb1 O0.out.lt)
  clear hb1 B0 K0 O0
  by_cases hn : 40 < nn
  · have hn' : (40 : Int) < nn := by omega
    go_wp2
    show Q (.returned (.bool true)) w1
    rw [← HQ.out]
    exact ⟨rfl, B1.out⟩
  have hn' : ¬ (40 : Int) < nn := by omega
  obtain ⟨k0, k1, k2⟩ := K1.out.three
  obtain ⟨o0, o1, o2⟩ := O1.out.three
  have eK := fun W => equalKy k o W
  rw [sameKy_dec] at eK
  by_cases hko : k = o
  · rw [decide_eq_true hko] at eK
    clear hko
    go_wp2
    show Q (.returned (.bool true)) w1
    rw [← HQ.out]
    exact ⟨rfl, B1.out⟩
  rw [decide_eq_false hko] at eK
  have HNE := Lib.hid hko
  clear hko
  go_wp2_with fail
  refine (new_x _).mono ?_
  rintro e2 w2 ⟨p, F0, rfl, hb2, hX2, hp2, hF2⟩
  have X2 := Lib.hid hX2
  have B2 := Lib.hid (B1.out.trans (hb2.mono B1.out.size))
  have K2 := Lib.hid (K1.out.below hb2 K1.out.lt)
  have O2 := Lib.hid (O1.out.below hb2 O1.out.lt)
  have HF2 := Lib.hid (show ∀ q, F0 q → w.heap.size ≤ q from fun q hq => Nat.le_trans B1.out.size (hF2 q hq))
  clear hb2 hX2 hp2 hF2 K1 O1 B1 k0 k1 k2 o0 o1 o2 eK
  go_wp2_with fail
  go_loopw [8, 26] (fun s8 s26 wr => ∃ (j n : Nat) (L : List Rw) (F : Nat → Prop), j ≤ nn ∧ s26 = .int .i64 j ∧ s8 = .int .i64 n ∧ Hid (RxIs wr p L F) ∧ Hid (∀ q, F q → w.heap.size ≤ q) ∧ Hid (DR k o L n) ∧ Hid (∀ y ∈ T.take j, Rw.mk y k ∈ L) ∧ Hid (n ≤ j) ∧ Hid (Below w.heap.size w wr) ∧ Hid (Blk wr w.heap.size 34 #[.int .i64 k.kind, .int .i64 k.id, .int .i64 k.adv]) ∧ Hid (Blk wr (w.heap.size + 1) 34 #[.int .i64 o.kind, .int .i64 o.id, .int .i64 o.adv])) (fun _ i _ => nn - (intOf i).toNat)
  case atStart => exact ⟨0, 0, [], F0, Nat.zero_le _, rfl, rfl, X2, HF2, Lib.hid (DR.start k o), Lib.hid (fun y hy => by cases hy), Lib.hid (Nat.le_refl _), B2, K2, O2⟩
  case round =>
    clear X2 HF2 B2 K2 O2
    obtain ⟨j, n, L, F, hj, rfl, rfl, XX, HF, HD, HM, HNJ, BX, KX, OX⟩ := hrel
    by_cases hlt : j < nn
    · have hlt' : (j : Int) < nn := by omega
      obtain ⟨gb, ob, x, rfl, hgl, hx, y0, y1, hwx⟩ := Arr.at (HT.out.below BX.out) hlt
      have HX := Lib.hid hx
      have HWX := Lib.hid hwx
      have hnb : n ≤ 100 := by have := HNJ.out; omega
      have N4 := Lib.hid (Blk.new wr 47 #[.int .i64 x.1, .int .i64 x.2])
      have X4 := Lib.hid (XX.out.below ((Below.refl wr.heap.size wr).alloc (Nat.le_refl _) (.cells #[.int .i64 x.1, .int .i64 x.2] 47)))
      have B4 := Lib.hid (BX.out.alloc BX.out.size (.cells #[.int .i64 x.1, .int .i64 x.2] 47))
      have K4 := Lib.hid (KX.out.alloc (.cells #[.int .i64 x.1, .int .i64 x.2] 47))
      have O4 := Lib.hid (OX.out.alloc (.cells #[.int .i64 x.1, .int .i64 x.2] 47))
      clear hx hwx XX BX KX OX
      obtain ⟨k0, k1, k2⟩ := K4.out.three
      have n0 := N4.out.cell 0
      have n1 := N4.out.cell 1
      simp at n0 n1
      go_wp2_with fail
      refine (on_i X4.out x HWX.out k HWK.out).mono ?_
      rintro e5 w6 ⟨rfl, hb5⟩
      have X6 := Lib.hid (X4.out.below hb5)
      have B6 := Lib.hid (B4.out.trans (hb5.mono B4.out.size))
      have K6 := Lib.hid (K4.out.below hb5 K4.out.lt)
      have O6 := Lib.hid (O4.out.below hb5 O4.out.lt)
      have N6 := Lib.hid (N4.out.below hb5 N4.out.lt)
      clear hb5 X4 B4 K4 O4 N4 k0 k1 k2 n0 n1
      obtain ⟨k0, k1, k2⟩ := K6.out.three
      obtain ⟨o0, o1, o2⟩ := O6.out.three
      have n0 := N6.out.cell 0
      have n1 := N6.out.cell 1
      simp at n0 n1
      by_cases hm : Rw.mk x k ∈ L
      · rw [decide_eq_true hm]
        have HD8 := Lib.hid (show DR k o (putsK L x [k, o]) n by rw [HD.out.again hm]; exact HD.out)
        have HN8 := Lib.hid (show n ≤ j + 1 by have := HNJ.out; omega)
        clear hm
        have X7 := Lib.hid (X6.out.below ((Below.refl w6.heap.size w6).alloc (Nat.le_refl _) (.cells #[.int .i64 k.kind, .int .i64 k.id, .int .i64 k.adv, .int .i64 o.kind, .int .i64 o.id, .int .i64 o.adv] 34)))
        have B7 := Lib.hid (B6.out.alloc B6.out.size (.cells #[.int .i64 k.kind, .int .i64 k.id, .int .i64 k.adv, .int .i64 o.kind, .int .i64 o.id, .int .i64 o.adv] 34))
        have Y7 := Lib.hid (kys_row w6 [.int .i64 k.kind, .int .i64 k.id, .int .i64 k.adv, .int .i64 o.kind, .int .i64 o.id, .int .i64 o.adv] [k, o] rfl 2 rfl (fun y hy => by
          simp only [List.mem_cons, List.not_mem_nil, or_false] at hy
          rcases hy with rfl | rfl
          · exact HWK.out
          · exact HWO.out))
        have K7 := Lib.hid (K6.out.alloc (.cells #[.int .i64 k.kind, .int .i64 k.id, .int .i64 k.adv, .int .i64 o.kind, .int .i64 o.id, .int .i64 o.adv] 34))
        have O7 := Lib.hid (O6.out.alloc (.cells #[.int .i64 k.kind, .int .i64 k.id, .int .i64 k.adv, .int .i64 o.kind, .int .i64 o.id, .int .i64 o.adv] 34))
        clear X6 B6
        go_wp2_with fail
        refine (put_x X7.out x HWX.out Y7.out (by simp) (fun y hy => by
          simp only [List.mem_cons, List.not_mem_nil, or_false] at hy
          rcases hy with rfl | rfl
          · exact HWK.out
          · exact HWO.out) (by have := HD.out.len; have := HNJ.out; omega)).mono ?_
        rintro e8 w8 ⟨rfl, F8, hX8, hC8, hF8⟩
        have X8 := Lib.hid hX8
        have B8 := Lib.hid (B7.out.trans (hC8.to_below (fun q hq => HF.out q hq) B7.out.size))
        have K8 := Lib.hid (K7.out.chg hC8 (RxIs.no_blk X7.out K7.out))
        have O8 := Lib.hid (O7.out.chg hC8 (RxIs.no_blk X7.out O7.out))
        have HF8 := Lib.hid (show ∀ q, F8 q → w.heap.size ≤ q from fun q hq => by
          rcases hF8 q hq with h | h
          · exact HF.out q h
          · exact Nat.le_trans B7.out.size h)
        have HM8 := Lib.hid (show ∀ y ∈ T.take (j + 1), Rw.mk y k ∈ putsK L x [k, o] from fun y hy => by
          rw [HD.out.mem]
          rw [List.take_add_one, HX.out] at hy
          rcases List.mem_append.1 hy with hy | hy
          · exact .inl (HM.out y hy)
          · refine .inr ⟨?_, .inl rfl⟩
            simpa using hy)
        clear hX8 hC8 hF8 X7 B7 Y7 K7 O7 k0 k1 k2 o0 o1 o2 n0 n1 K6 O6 N6
        go_wp2
        go_roundw
        case rel => exact ⟨j + 1, n, putsK L x [k, o], F8, by omega, by go_num, rfl, X8, HF8, HD8, HM8, HN8, B8, K8, O8⟩
        case measure => simp [intOf]; omega
      · rw [decide_eq_false hm]
        have HD8 := Lib.hid (show DR k o (putsK L x [k, o]) (n + 1) from HD.out.new HNE.out hm)
        have HN8 := Lib.hid (show n + 1 ≤ j + 1 by have := HNJ.out; omega)
        clear hm
        have X7 := Lib.hid (X6.out.below ((Below.refl w6.heap.size w6).alloc (Nat.le_refl _) (.cells #[.int .i64 k.kind, .int .i64 k.id, .int .i64 k.adv, .int .i64 o.kind, .int .i64 o.id, .int .i64 o.adv] 34)))
        have B7 := Lib.hid (B6.out.alloc B6.out.size (.cells #[.int .i64 k.kind, .int .i64 k.id, .int .i64 k.adv, .int .i64 o.kind, .int .i64 o.id, .int .i64 o.adv] 34))
        have Y7 := Lib.hid (kys_row w6 [.int .i64 k.kind, .int .i64 k.id, .int .i64 k.adv, .int .i64 o.kind, .int .i64 o.id, .int .i64 o.adv] [k, o] rfl 2 rfl (fun y hy => by
          simp only [List.mem_cons, List.not_mem_nil, or_false] at hy
          rcases hy with rfl | rfl
          · exact HWK.out
          · exact HWO.out))
        have K7 := Lib.hid (K6.out.alloc (.cells #[.int .i64 k.kind, .int .i64 k.id, .int .i64 k.adv, .int .i64 o.kind, .int .i64 o.id, .int .i64 o.adv] 34))
        have O7 := Lib.hid (O6.out.alloc (.cells #[.int .i64 k.kind, .int .i64 k.id, .int .i64 k.adv, .int .i64 o.kind, .int .i64 o.id, .int .i64 o.adv] 34))
        clear X6 B6
        go_wp2_with fail
        refine (put_x X7.out x HWX.out Y7.out (by simp) (fun y hy => by
          simp only [List.mem_cons, List.not_mem_nil, or_false] at hy
          rcases hy with rfl | rfl
          · exact HWK.out
          · exact HWO.out) (by have := HD.out.len; have := HNJ.out; omega)).mono ?_
        rintro e8 w8 ⟨rfl, F8, hX8, hC8, hF8⟩
        have X8 := Lib.hid hX8
        have B8 := Lib.hid (B7.out.trans (hC8.to_below (fun q hq => HF.out q hq) B7.out.size))
        have K8 := Lib.hid (K7.out.chg hC8 (RxIs.no_blk X7.out K7.out))
        have O8 := Lib.hid (O7.out.chg hC8 (RxIs.no_blk X7.out O7.out))
        have HF8 := Lib.hid (show ∀ q, F8 q → w.heap.size ≤ q from fun q hq => by
          rcases hF8 q hq with h | h
          · exact HF.out q h
          · exact Nat.le_trans B7.out.size h)
        have HM8 := Lib.hid (show ∀ y ∈ T.take (j + 1), Rw.mk y k ∈ putsK L x [k, o] from fun y hy => by
          rw [HD.out.mem]
          rw [List.take_add_one, HX.out] at hy
          rcases List.mem_append.1 hy with hy | hy
          · exact .inl (HM.out y hy)
          · refine .inr ⟨?_, .inl rfl⟩
            simpa using hy)
        clear hX8 hC8 hF8 X7 B7 Y7 K7 O7 k0 k1 k2 o0 o1 o2 n0 n1 K6 O6 N6
        go_wp2
        go_roundw
        case rel => exact ⟨j + 1, n + 1, putsK L x [k, o], F8, by omega, by go_num, by first | rfl | go_num, X8, HF8, HD8, HM8, HN8, B8, K8, O8⟩
        case measure => simp [intOf]; omega
    · have hlt' : ¬ (j : Int) < nn := by omega
      have HTK := Lib.hid (show T.take j = T from List.take_of_length_le (by have := HT.out.1; omega))
      have hnb : n ≤ 100 := by have := HNJ.out; omega
      obtain ⟨k0, k1, k2⟩ := KX.out.three
      obtain ⟨o0, o1, o2⟩ := OX.out.three
      clear hlt hj
      by_cases h0 : 0 < n
      · have h0' : (0 : Int) < n := by omega
        have HDC := Lib.hid (decide_eq_true h0)
        go_wp2_with fail
        refine (hasR_x XX.out k HWK.out).mono ?_
        rintro e9 w9 ⟨rfl, hb9⟩
        rw [HD.out.has, HDC.out]
        have X9 := Lib.hid (XX.out.below hb9)
        have B9 := Lib.hid (BX.out.trans (hb9.mono BX.out.size))
        have K9 := Lib.hid (KX.out.below hb9 KX.out.lt)
        have O9 := Lib.hid (OX.out.below hb9 OX.out.lt)
        clear hb9 k0 k1 k2 o0 o1 o2 XX KX OX BX
        obtain ⟨k0, k1, k2⟩ := K9.out.three
        obtain ⟨o0, o1, o2⟩ := O9.out.three
        go_wp2_with fail
        refine (drop_x X9.out k HWK.out (by have := HD.out.len; have := HNJ.out; omega)).mono ?_
        rintro e10 w10 ⟨rfl, F10, hX10, hC10, hF10⟩
        rw [HD.out.dropN]
        have X10 := Lib.hid hX10
        have HF10 := Lib.hid (show ∀ q, F10 q → w.heap.size ≤ q from fun q hq => by
          rcases hF10 q hq with h | h
          · exact HF.out q h
          · exact Nat.le_trans B9.out.size h)
        have B10 := Lib.hid (B9.out.trans (hC10.to_below (fun q hq => HF.out q hq) B9.out.size))
        have K10 := Lib.hid (K9.out.chg hC10 (RxIs.no_blk X9.out K9.out))
        have O10 := Lib.hid (O9.out.chg hC10 (RxIs.no_blk X9.out O9.out))
        clear hX10 hC10 hF10 k0 k1 k2 o0 o1 o2 X9 K9 O9 B9
        obtain ⟨k0, k1, k2⟩ := K10.out.three
        obtain ⟨o0, o1, o2⟩ := O10.out.three
        go_wp2_with fail
        refine (hasR_x X10.out k HWK.out).mono ?_
        rintro e11 w11 ⟨rfl, hb11⟩
        rw [DR.has0]
        have X11 := Lib.hid (X10.out.below hb11)
        have B11 := Lib.hid (B10.out.trans (hb11.mono B10.out.size))
        have K11 := Lib.hid (K10.out.below hb11 K10.out.lt)
        have O11 := Lib.hid (O10.out.below hb11 O10.out.lt)
        clear hb11 k0 k1 k2 o0 o1 o2 X10 K10 O10 B10
        obtain ⟨k0, k1, k2⟩ := K11.out.three
        obtain ⟨o0, o1, o2⟩ := O11.out.three
        go_wp2_with fail
        refine (hasR_x X11.out o HWO.out).mono ?_
        rintro e12 w12 ⟨rfl, hb12⟩
        rw [HD.out.hasO HNE.out, HDC.out]
        have X12 := Lib.hid (X11.out.below hb12)
        have B12 := Lib.hid (B11.out.trans (hb12.mono B11.out.size))
        have K12 := Lib.hid (K11.out.below hb12 K11.out.lt)
        have O12 := Lib.hid (O11.out.below hb12 O11.out.lt)
        clear hb12 k0 k1 k2 o0 o1 o2 X11 K11 O11 B11
        obtain ⟨k0, k1, k2⟩ := K12.out.three
        obtain ⟨o0, o1, o2⟩ := O12.out.three
        go_wp2_with fail
        refine (drop_x X12.out k HWK.out (by have h1 : (dropK L k).length ≤ L.length := List.length_filter_le _ _; have := HD.out.len; have := HNJ.out; omega)).mono ?_
        rintro e13 w13 ⟨rfl, F13, hX13, hC13, hF13⟩
        rw [DR.drop0, Nat.sub_self]
        rw [DR.drop0] at hX13
        have X13 := Lib.hid hX13
        have HF13 := Lib.hid (show ∀ q, F13 q → w.heap.size ≤ q from fun q hq => by
          rcases hF13 q hq with h | h
          · exact HF10.out q h
          · exact Nat.le_trans B12.out.size h)
        have B13 := Lib.hid (B12.out.trans (hC13.to_below (fun q hq => HF10.out q hq) B12.out.size))
        have K13 := Lib.hid (K12.out.chg hC13 (RxIs.no_blk X12.out K12.out))
        have O13 := Lib.hid (O12.out.chg hC13 (RxIs.no_blk X12.out O12.out))
        clear hX13 hC13 hF13 k0 k1 k2 o0 o1 o2 X12 K12 O12 B12
        have mn : ((n : Int) != (n : Int)) = false := by simp
        go_wp2_with fail
        go_loopw [84] (fun s84 wr => ∃ j : Nat, j ≤ nn ∧ s84 = .int .i64 j ∧ Hid (RxIs wr p (dropK L k) F13) ∧ Hid (Below w.heap.size w wr) ∧ Hid (Blk wr w.heap.size 34 #[.int .i64 k.kind, .int .i64 k.id, .int .i64 k.adv]) ∧ Hid (Blk wr (w.heap.size + 1) 34 #[.int .i64 o.kind, .int .i64 o.id, .int .i64 o.adv])) (fun i _ => nn - (intOf i).toNat)
        case atStart => exact ⟨0, Nat.zero_le _, rfl, X13, B13, K13, O13⟩
        case round =>
          clear X13 B13 K13 O13
          obtain ⟨j, hj, rfl, X, B, K, O⟩ := hrel
          by_cases hlt : j < nn
          · have hlt' : (j : Int) < nn := by omega
            obtain ⟨gb, ob, x, rfl, hgl, hx, y0, y1, hwx⟩ := Arr.at (HT.out.below B.out) hlt
            have HWX := Lib.hid hwx
            have H1 := HD.out.one HNE.out (x := x) (HM.out x (by rw [HTK.out]; exact List.mem_of_getElem? hx))
            have HH1 := Lib.hid H1
            have N6 := Lib.hid (Blk.new wr 47 #[.int .i64 x.1, .int .i64 x.2])
            have X4 := Lib.hid (X.out.below ((Below.refl wr.heap.size wr).alloc (Nat.le_refl _) (.cells #[.int .i64 x.1, .int .i64 x.2] 47)))
            have B4 := Lib.hid (B.out.alloc B.out.size (.cells #[.int .i64 x.1, .int .i64 x.2] 47))
            have K4 := Lib.hid (K.out.alloc (.cells #[.int .i64 x.1, .int .i64 x.2] 47))
            have O4 := Lib.hid (O.out.alloc (.cells #[.int .i64 x.1, .int .i64 x.2] 47))
            clear hx hwx X B K O H1
            obtain ⟨k0, k1, k2⟩ := K4.out.three
            have n0 := N6.out.cell 0
            have n1 := N6.out.cell 1
            simp at n0 n1
            go_wp2_with fail
            refine (on_i X4.out x HWX.out k HWK.out).mono ?_
            rintro e5 w5 ⟨rfl, hb5⟩
            rw [decide_eq_false HH1.out.1]
            have X5 := Lib.hid (X4.out.below hb5)
            have B5 := Lib.hid (B4.out.trans (hb5.mono B4.out.size))
            have K5 := Lib.hid (K4.out.below hb5 K4.out.lt)
            have O5 := Lib.hid (O4.out.below hb5 O4.out.lt)
            have N5 := Lib.hid (N6.out.below hb5 N6.out.lt)
            clear hb5 X4 B4 K4 O4 N6 k0 k1 k2 n0 n1
            obtain ⟨o0, o1, o2⟩ := O5.out.three
            have n0 := N5.out.cell 0
            have n1 := N5.out.cell 1
            simp at n0 n1
            go_wp2_with fail
            refine (on_i X5.out x HWX.out o HWO.out).mono ?_
            rintro e6 w6 ⟨rfl, hb6⟩
            rw [decide_eq_true HH1.out.2.1]
            have X6 := Lib.hid (X5.out.below hb6)
            have B6 := Lib.hid (B5.out.trans (hb6.mono B5.out.size))
            have K6 := Lib.hid (K5.out.below hb6 K5.out.lt)
            have O6 := Lib.hid (O5.out.below hb6 O5.out.lt)
            have N6 := Lib.hid (N5.out.below hb6 N5.out.lt)
            clear hb6 X5 B5 K5 O5 N5 o0 o1 o2 n0 n1
            have n0 := N6.out.cell 0
            have n1 := N6.out.cell 1
            simp at n0 n1
            go_wp2_with fail
            refine (len_i X6.out x HWX.out).mono ?_
            rintro e7 w7 ⟨rfl, rfl⟩
            rw [HH1.out.2.2]
            clear n0 n1
            go_wp2
            go_roundw
            case rel => exact ⟨j + 1, by omega, by go_num, X6, B6, K6, O6⟩
            case measure => simp [intOf]; omega
          · have hlt' : ¬ (j : Int) < nn := by omega
            go_wp2
            show Q (.returned (.bool true)) wr
            rw [← HQ.out]
            exact ⟨rfl, B.out⟩
      · have h0' : ¬ (0 : Int) < n := by omega
        have HDC := Lib.hid (decide_eq_false h0)
        go_wp2_with fail
        refine (hasR_x XX.out k HWK.out).mono ?_
        rintro e9 w9 ⟨rfl, hb9⟩
        rw [HD.out.has, HDC.out]
        have X9 := Lib.hid (XX.out.below hb9)
        have B9 := Lib.hid (BX.out.trans (hb9.mono BX.out.size))
        have K9 := Lib.hid (KX.out.below hb9 KX.out.lt)
        have O9 := Lib.hid (OX.out.below hb9 OX.out.lt)
        clear hb9 k0 k1 k2 o0 o1 o2 XX KX OX BX
        obtain ⟨k0, k1, k2⟩ := K9.out.three
        obtain ⟨o0, o1, o2⟩ := O9.out.three
        go_wp2_with fail
        refine (drop_x X9.out k HWK.out (by have := HD.out.len; have := HNJ.out; omega)).mono ?_
        rintro e10 w10 ⟨rfl, F10, hX10, hC10, hF10⟩
        rw [HD.out.dropN]
        have X10 := Lib.hid hX10
        have HF10 := Lib.hid (show ∀ q, F10 q → w.heap.size ≤ q from fun q hq => by
          rcases hF10 q hq with h | h
          · exact HF.out q h
          · exact Nat.le_trans B9.out.size h)
        have B10 := Lib.hid (B9.out.trans (hC10.to_below (fun q hq => HF.out q hq) B9.out.size))
        have K10 := Lib.hid (K9.out.chg hC10 (RxIs.no_blk X9.out K9.out))
        have O10 := Lib.hid (O9.out.chg hC10 (RxIs.no_blk X9.out O9.out))
        clear hX10 hC10 hF10 k0 k1 k2 o0 o1 o2 X9 K9 O9 B9
        obtain ⟨k0, k1, k2⟩ := K10.out.three
        obtain ⟨o0, o1, o2⟩ := O10.out.three
        go_wp2_with fail
        refine (hasR_x X10.out k HWK.out).mono ?_
        rintro e11 w11 ⟨rfl, hb11⟩
        rw [DR.has0]
        have X11 := Lib.hid (X10.out.below hb11)
        have B11 := Lib.hid (B10.out.trans (hb11.mono B10.out.size))
        have K11 := Lib.hid (K10.out.below hb11 K10.out.lt)
        have O11 := Lib.hid (O10.out.below hb11 O10.out.lt)
        clear hb11 k0 k1 k2 o0 o1 o2 X10 K10 O10 B10
        obtain ⟨k0, k1, k2⟩ := K11.out.three
        obtain ⟨o0, o1, o2⟩ := O11.out.three
        go_wp2_with fail
        refine (hasR_x X11.out o HWO.out).mono ?_
        rintro e12 w12 ⟨rfl, hb12⟩
        rw [HD.out.hasO HNE.out, HDC.out]
        have X12 := Lib.hid (X11.out.below hb12)
        have B12 := Lib.hid (B11.out.trans (hb12.mono B11.out.size))
        have K12 := Lib.hid (K11.out.below hb12 K11.out.lt)
        have O12 := Lib.hid (O11.out.below hb12 O11.out.lt)
        clear hb12 k0 k1 k2 o0 o1 o2 X11 K11 O11 B11
        obtain ⟨k0, k1, k2⟩ := K12.out.three
        obtain ⟨o0, o1, o2⟩ := O12.out.three
        go_wp2_with fail
        refine (drop_x X12.out k HWK.out (by have h1 : (dropK L k).length ≤ L.length := List.length_filter_le _ _; have := HD.out.len; have := HNJ.out; omega)).mono ?_
        rintro e13 w13 ⟨rfl, F13, hX13, hC13, hF13⟩
        rw [DR.drop0, Nat.sub_self]
        rw [DR.drop0] at hX13
        have X13 := Lib.hid hX13
        have HF13 := Lib.hid (show ∀ q, F13 q → w.heap.size ≤ q from fun q hq => by
          rcases hF13 q hq with h | h
          · exact HF10.out q h
          · exact Nat.le_trans B12.out.size h)
        have B13 := Lib.hid (B12.out.trans (hC13.to_below (fun q hq => HF10.out q hq) B12.out.size))
        have K13 := Lib.hid (K12.out.chg hC13 (RxIs.no_blk X12.out K12.out))
        have O13 := Lib.hid (O12.out.chg hC13 (RxIs.no_blk X12.out O12.out))
        clear hX13 hC13 hF13 k0 k1 k2 o0 o1 o2 X12 K12 O12 B12
        have mn : ((n : Int) != (n : Int)) = false := by simp
        go_wp2_with fail
        go_loopw [84] (fun s84 wr => ∃ j : Nat, j ≤ nn ∧ s84 = .int .i64 j ∧ Hid (RxIs wr p (dropK L k) F13) ∧ Hid (Below w.heap.size w wr) ∧ Hid (Blk wr w.heap.size 34 #[.int .i64 k.kind, .int .i64 k.id, .int .i64 k.adv]) ∧ Hid (Blk wr (w.heap.size + 1) 34 #[.int .i64 o.kind, .int .i64 o.id, .int .i64 o.adv])) (fun i _ => nn - (intOf i).toNat)
        case atStart => exact ⟨0, Nat.zero_le _, rfl, X13, B13, K13, O13⟩
        case round =>
          clear X13 B13 K13 O13
          obtain ⟨j, hj, rfl, X, B, K, O⟩ := hrel
          by_cases hlt : j < nn
          · have hlt' : (j : Int) < nn := by omega
            obtain ⟨gb, ob, x, rfl, hgl, hx, y0, y1, hwx⟩ := Arr.at (HT.out.below B.out) hlt
            have HWX := Lib.hid hwx
            have H1 := HD.out.one HNE.out (x := x) (HM.out x (by rw [HTK.out]; exact List.mem_of_getElem? hx))
            have HH1 := Lib.hid H1
            have N6 := Lib.hid (Blk.new wr 47 #[.int .i64 x.1, .int .i64 x.2])
            have X4 := Lib.hid (X.out.below ((Below.refl wr.heap.size wr).alloc (Nat.le_refl _) (.cells #[.int .i64 x.1, .int .i64 x.2] 47)))
            have B4 := Lib.hid (B.out.alloc B.out.size (.cells #[.int .i64 x.1, .int .i64 x.2] 47))
            have K4 := Lib.hid (K.out.alloc (.cells #[.int .i64 x.1, .int .i64 x.2] 47))
            have O4 := Lib.hid (O.out.alloc (.cells #[.int .i64 x.1, .int .i64 x.2] 47))
            clear hx hwx X B K O H1
            obtain ⟨k0, k1, k2⟩ := K4.out.three
            have n0 := N6.out.cell 0
            have n1 := N6.out.cell 1
            simp at n0 n1
            go_wp2_with fail
            refine (on_i X4.out x HWX.out k HWK.out).mono ?_
            rintro e5 w5 ⟨rfl, hb5⟩
            rw [decide_eq_false HH1.out.1]
            have X5 := Lib.hid (X4.out.below hb5)
            have B5 := Lib.hid (B4.out.trans (hb5.mono B4.out.size))
            have K5 := Lib.hid (K4.out.below hb5 K4.out.lt)
            have O5 := Lib.hid (O4.out.below hb5 O4.out.lt)
            have N5 := Lib.hid (N6.out.below hb5 N6.out.lt)
            clear hb5 X4 B4 K4 O4 N6 k0 k1 k2 n0 n1
            obtain ⟨o0, o1, o2⟩ := O5.out.three
            have n0 := N5.out.cell 0
            have n1 := N5.out.cell 1
            simp at n0 n1
            go_wp2_with fail
            refine (on_i X5.out x HWX.out o HWO.out).mono ?_
            rintro e6 w6 ⟨rfl, hb6⟩
            rw [decide_eq_true HH1.out.2.1]
            have X6 := Lib.hid (X5.out.below hb6)
            have B6 := Lib.hid (B5.out.trans (hb6.mono B5.out.size))
            have K6 := Lib.hid (K5.out.below hb6 K5.out.lt)
            have O6 := Lib.hid (O5.out.below hb6 O5.out.lt)
            have N6 := Lib.hid (N5.out.below hb6 N5.out.lt)
            clear hb6 X5 B5 K5 O5 N5 o0 o1 o2 n0 n1
            have n0 := N6.out.cell 0
            have n1 := N6.out.cell 1
            simp at n0 n1
            go_wp2_with fail
            refine (len_i X6.out x HWX.out).mono ?_
            rintro e7 w7 ⟨rfl, rfl⟩
            rw [HH1.out.2.2]
            clear n0 n1
            go_wp2
            go_roundw
            case rel => exact ⟨j + 1, by omega, by go_num, X6, B6, K6, O6⟩
            case measure => simp [intOf]; omega
          · have hlt' : ¬ (j : Int) < nn := by omega
            go_wp2
            show Q (.returned (.bool true)) wr
            rw [← HQ.out]
            exact ⟨rfl, B.out⟩
end Go.Proofs.Ytndjoanlbaiaeaa
