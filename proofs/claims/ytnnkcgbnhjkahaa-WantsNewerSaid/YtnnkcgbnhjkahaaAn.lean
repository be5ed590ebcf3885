/- The walk of the statement WantsNewer. Conditions: the lists read so; the numbers are of 8 bits. -/
import Derived.Test.YtnnkcgbnhjkahaaAj
import Derived.Test.YtnnkcgbnhjkahaaJak
import Derived.Test.YtnnkcgbnhjkahaaJab
namespace Go.Proofs.Ytnnkcgbnhjkahaa
open Go.RowKit Go.Lib Go.Sort Go.Deep

/-- The same head, of another number. -/
def seqH (h : Hd) (s : Int) : Hd := ⟨h.age, h.kind, h.id, h.adv, s, h.sum, h.long⟩
theorem nw_seqH (h : Hd) (s : Int) : (s < h.seq → 0 < nw h (seqH h s)) ∧ (h.seq ≤ s → ¬ 0 < nw h (seqH h s)) := by
  constructor
  · intro hs
    rw [nw_seq (a := h) (b := seqH h s) hs]
    omega
  · intro hs
    rcases Int.lt_or_eq_of_le hs with h1 | h1
    · have := nw_flip (seqH h s) h
      rw [nw_seq (a := seqH h s) (b := h) h1] at this
      omega
    · have : seqH h s = h := by
        unfold seqH
        rw [← h1]
      rw [this, nw_self]
      omega
theorem get_oneH (h g : Hd) (hk : keyH g = keyH h) : getH [h] (keyH g) = some h := by
  unfold getH
  rw [List.find?_cons_of_pos (by rw [hk]; exact (sameKy_iff _ _).2 rfl)]
theorem rest_oneH (h g : Hd) (hk : keyH g = keyH h) : restH [h] (keyH g) = [] := by
  unfold restH
  rw [List.filter_cons_of_neg (by rw [hk, (sameKy_iff _ _).2 rfl]; decide)]
  rfl
theorem adds_one (h : Hd) : addsH [] [h] = [h] := rfl
theorem adds_again (h : Hd) : addsH [h] [h] = [h] := by
  show addH [h] h = [h]
  unfold addH
  rw [get_oneH h h rfl]
  dsimp only
  rw [nw_self, if_neg (by omega)]
theorem take_oneH (h : Hd) (s : Int) : (s < h.seq → takeE [h] (seqH h s) = 8 ∧ takeS [h] (seqH h s) = [h]) ∧ (h.seq ≤ s → takeE [h] (seqH h s) = 0 ∧ takeS [h] (seqH h s) = []) := by
  have hg := get_oneH h (seqH h s) rfl
  unfold takeE takeS
  rw [hg, rest_oneH h (seqH h s) rfl]
  dsimp only
  obtain ⟨h1, h2⟩ := nw_seqH h s
  exact ⟨fun hs => by rw [if_pos (h1 hs), if_pos (h1 hs)]; exact ⟨rfl, rfl⟩, fun hs => by rw [if_neg (h2 hs), if_neg (h2 hs)]; exact ⟨rfl, rfl⟩⟩
theorem take_noneH (h : Hd) : takeE [] h = 6 ∧ takeS [] h = [] := ⟨rfl, rfl⟩
theorem hds_one (w : World) (x : Hd) : Hds (w.alloc (.cells #[.int .i64 x.age, .int .i64 x.kind, .int .i64 x.id, .int .i64 x.adv, .int .i64 x.seq, .int .i64 x.sum, .int .i64 x.long] 38)) (w.heap.size + 1) (some ⟨w.heap.size, 0, none⟩) 1 [x] := own_row4 w (encHd x) [x] (by rw [by_one]) 1 rfl
theorem field_lsa (x : Hd) (A : Option Addr) (n c : Nat) (A' : Option Addr) (n' c' : Nat) (W : World) : (Instr.field 62 (.agg #[.int .i64 x.age, .int .i64 x.kind, .int .i64 x.id, .int .i64 x.adv, .int .i64 x.seq, .int .i64 x.sum, .int .i64 x.long, .slice A n c, .slice A' n' c']) 0).run Try.prog W = .ok (.agg #[.int .i64 x.age, .int .i64 x.kind, .int .i64 x.id, .int .i64 x.adv, .int .i64 x.seq, .int .i64 x.sum, .int .i64 x.long]) W := by kernel_rfl
set_option maxRecDepth 20000 in
set_option maxHeartbeats 16000000 in
theorem newer15_walk (h : Hd) (L : List Lk) (M : List Int) (A A' : Option Addr) (n c n' c' : Nat) (less more : Int) (w : World) (hL : Lnk w w.heap.size A n L) (hM : Row .i64 w w.heap.size A' n' M) (hn : n ≤ maxLen) (hn' : n' ≤ maxLen) (hl : 0 ≤ less ∧ less ≤ 255) (hm : 0 ≤ more ∧ more ≤ 255) :
    Calls Try.prog 6 #[.agg #[.int .i64 h.age, .int .i64 h.kind, .int .i64 h.id, .int .i64 h.adv, .int .i64 h.seq, .int .i64 h.sum, .int .i64 h.long, .slice A n c, .slice A' n' c'], .int .u8 less, .int .u8 more] w fun e w' => e = .returned (.bool true) ∧ Below w.heap.size w w' := by
  generalize hQ : (fun (e : Ending) (w' : World) => e = .returned (.bool true) ∧ Below w.heap.size w w') = Q
  have HQ := Lib.hid hQ
  have HL := Lib.hid hL
  have HM := Lib.hid hM
  have HN := Lib.hid hn
  have HN' := Lib.hid hn'
  obtain ⟨l0, l1⟩ := hl
  obtain ⟨m0, m1⟩ := hm
  have B0 := Lib.hid ((Below.refl w.heap.size w).alloc (Nat.le_refl _) (.cells #[.int .i64 h.age, .int .i64 h.kind, .int .i64 h.id, .int .i64 h.adv, .int .i64 h.seq, .int .i64 h.sum, .int .i64 h.long, .slice A n c, .slice A' n' c'] 62))
  have K0 := Lib.hid (Blk.new w 62 #[.int .i64 h.age, .int .i64 h.kind, .int .i64 h.id, .int .i64 h.adv, .int .i64 h.seq, .int .i64 h.sum, .int .i64 h.long, .slice A n c, .slice A' n' c'])
  clear hQ hL hM hn hn'
  go_enter Try.func6, Try.ntmps6
  go_wp2_with fail
  refine (wakes_any _).mono ?_
  rintro e1 w1 ⟨rfl, hb1⟩
  have B1 := Lib.hid (B0.out.trans (hb1.mono B0.out.size))
  have K1 := Lib.hid (K0.out.below hb1 K0.out.lt)
  clear hb1 K0 B0
  have R1 := Lib.hid (blk_range7 K1.out)
  go_wp2_with (refine wpList_load_row 62 _ _ (by rfl) (.tmp 3) rfl (by rfl) R1.out Try.underlying62 rfl (by kernel_rfl) ?_)
  refine (refRight_any h L M A A' n c n' c' w.heap.size w1 (HL.out.below B1.out) (HM.out.below B1.out) B1.out.size HN.out HN'.out).mono ?_
  rintro e2 w2 ⟨rfl, hb2⟩
  have B2 := Lib.hid (B1.out.trans (hb2.mono B1.out.size))
  have K2 := Lib.hid (K1.out.below hb2 K1.out.lt)
  clear hb2 K1 B1 R1
  cases hr : rightB h L M
  · clear hr
    go_wp2
    show Q (.returned (.bool true)) w2
    rw [← HQ.out]
    exact ⟨rfl, B2.out⟩
  obtain ⟨⟨ha0, ha1⟩, -, -, ⟨s0, s1⟩, -, -, -⟩ := right_facts hr
  have HR := Lib.hid hr
  have HSH := Lib.hid (right_short (x := ⟨h, L, M⟩) hr)
  have HWF := Lib.hid (wfKy_right (x := ⟨h, L, M⟩) hr)
  clear hr
  have x4 := K2.out.cell 4
  simp at x4
  have w_a : IntKind.i64.wrap (h.seq + 2147483647) = h.seq + 2147483647 := by rw [IntKind.wrap_i64]; omega
  have w_b : IntKind.i64.wrap (2147483647 - h.seq) = 2147483647 - h.seq := by rw [IntKind.wrap_i64]; omega
  have w_l : IntKind.i64.wrap less = less := by rw [IntKind.wrap_i64]; omega
  have w_m : IntKind.i64.wrap more = more := by rw [IntKind.wrap_i64]; omega
  by_cases h1 : h.seq + 2147483647 < less
  · have d1 : decide (h.seq + 2147483647 < less) = true := by simpa using h1
    go_wp2
    show Q (.returned (.bool true)) w2
    rw [← HQ.out]
    exact ⟨rfl, B2.out⟩
  have d1 : decide (h.seq + 2147483647 < less) = false := by simpa using h1
  by_cases h2 : 2147483647 - h.seq < more
  · have d2 : decide (2147483647 - h.seq < more) = true := by simpa using h2
    go_wp2
    show Q (.returned (.bool true)) w2
    rw [← HQ.out]
    exact ⟨rfl, B2.out⟩
  have d2 : decide (2147483647 - h.seq < more) = false := by simpa using h2
  go_wp2_with fail
  refine (new_w _).mono ?_
  rintro e3 w3 ⟨p, b, rfl, hb3, hP3, hpp, hpb⟩
  have HPB := Lib.hid (show w.heap.size ≤ p ∧ w.heap.size ≤ b by have := B2.out.size; omega)
  have HPK := Lib.hid (show w.heap.size ≠ b by have := K2.out.lt; omega)
  have B3 := Lib.hid (B2.out.trans (hb3.mono B2.out.size))
  have K3 := Lib.hid (K2.out.below hb3 K2.out.lt)
  have P3 := Lib.hid hP3
  have H1 := Lib.hid h1
  have H2 := Lib.hid h2
  clear hb3 hP3 hpp hpb K2 B2 x4 w_a w_b d1 d2 h1 h2
  have hse := r7sealed_any h L M A A' n c n' c' w.heap.size w3 (HL.out.below B3.out) (HM.out.below B3.out) B3.out.size (by have := HL.out.1; have := HSH.out.1; omega) (by have := HM.out.1; have := HSH.out.2; omega) HR.out
  obtain ⟨x, hx⟩ : ∃ x, sealHd h L M = x := ⟨_, rfl⟩
  rw [hx] at hse
  have HSE := Lib.hid hse
  have HXS := Lib.hid (show x.seq = h.seq ∧ ageB x = true ∧ wfKy (keyH x) by
    rw [← hx]
    exact ⟨rfl, (ageB_iff _).2 ⟨ha0, ha1⟩, HWF.out⟩)
  have sx0 : -2147483647 ≤ x.seq := by have := HXS.out.1; omega
  have sx1 : x.seq ≤ 2147483647 := by have := HXS.out.1; omega
  clear hse hx
  have R3 := Lib.hid (blk_range7 K3.out)
  go_wp2_with (refine wpList_load_row 62 _ _ (by rfl) (.tmp 3) rfl (by rfl) R3.out Try.underlying62 rfl (by kernel_rfl) ?_)
  refine HSE.out.mono ?_
  rintro e4 w4 ⟨Ay, ny, cy, Az, nz, cz, rfl, -, -, -, -, hb4⟩
  have hfld := fun W => field_lsa x Ay ny cy Az nz cz W
  have B4 := Lib.hid (B3.out.trans (hb4.mono B3.out.size))
  have P4 := Lib.hid (P3.out.below hb4)
  clear hb4 B3 P3 K3 R3 HSE
  have K5 := Lib.hid (Blk.new w4 38 #[.int .i64 x.age, .int .i64 x.kind, .int .i64 x.id, .int .i64 x.adv, .int .i64 x.seq, .int .i64 x.sum, .int .i64 x.long])
  have B5 := Lib.hid (B4.out.alloc B4.out.size (.cells #[.int .i64 x.age, .int .i64 x.kind, .int .i64 x.id, .int .i64 x.adv, .int .i64 x.seq, .int .i64 x.sum, .int .i64 x.long] 38))
  have P5 := Lib.hid (P4.out.below ((Below.refl w4.heap.size w4).alloc (Nat.le_refl _) (.cells #[.int .i64 x.age, .int .i64 x.kind, .int .i64 x.id, .int .i64 x.adv, .int .i64 x.seq, .int .i64 x.sum, .int .i64 x.long] 38)))
  have R5 := Lib.hid (blk_range7 K5.out)
  go_wp2_with (refine wpList_load_row 38 _ _ (by rfl) (.tmp 8) rfl (by rfl) R5.out Try.underlying38 rfl (by kernel_rfl) ?_)
  clear hfld
  have HO6 := Lib.hid (hds_one (w4.alloc (.cells #[.int .i64 x.age, .int .i64 x.kind, .int .i64 x.id, .int .i64 x.adv, .int .i64 x.seq, .int .i64 x.sum, .int .i64 x.long] 38)) x)
  have B6 := Lib.hid (B5.out.alloc B5.out.size (.cells #[.int .i64 x.age, .int .i64 x.kind, .int .i64 x.id, .int .i64 x.adv, .int .i64 x.seq, .int .i64 x.sum, .int .i64 x.long] 38))
  have K6 := Lib.hid (K5.out.alloc (.cells #[.int .i64 x.age, .int .i64 x.kind, .int .i64 x.id, .int .i64 x.adv, .int .i64 x.seq, .int .i64 x.sum, .int .i64 x.long] 38))
  have P6 := Lib.hid (P5.out.below ((Below.refl _ (w4.alloc (.cells #[.int .i64 x.age, .int .i64 x.kind, .int .i64 x.id, .int .i64 x.adv, .int .i64 x.seq, .int .i64 x.sum, .int .i64 x.long] 38))).alloc (Nat.le_refl _) (.cells #[.int .i64 x.age, .int .i64 x.kind, .int .i64 x.id, .int .i64 x.adv, .int .i64 x.seq, .int .i64 x.sum, .int .i64 x.long] 38)))
  have HX8 := Lib.hid (show w4.heap.size ≠ b from fun e => by have := P4.out.ltb; omega)
  clear K5 B5 P5 R5 P4 B4
  rw [show w4.heap.size + 1 = (w4.alloc (.cells #[.int .i64 x.age, .int .i64 x.kind, .int .i64 x.id, .int .i64 x.adv, .int .i64 x.seq, .int .i64 x.sum, .int .i64 x.long] 38)).heap.size by simp]
  generalize w4.alloc (.cells #[.int .i64 x.age, .int .i64 x.kind, .int .i64 x.id, .int .i64 x.adv, .int .i64 x.seq, .int .i64 x.sum, .int .i64 x.long] 38) = w5 at *
  refine (add_w P6.out HO6.out (by simp) (by omega) (by simp) (fun y hy => by rw [List.mem_singleton.1 hy]; exact HXS.out.2.2) (fun y hy => by rw [List.mem_singleton.1 hy]; exact HXS.out.2.1) (fun y hy => by cases hy)).mono ?_
  rintro e7 w7 ⟨rfl, hP7, hc7⟩
  rw [adds_one] at hP7 ⊢
  have P7 := Lib.hid hP7
  have K7 := Lib.hid (K6.out.chg hc7 HX8.out)
  have B7 := Lib.hid (B6.out.trans (hc7.to_below (fun q hq => by rw [hq]; exact HPB.out.2) B6.out.size))
  clear hP7 hc7 P6 K6 B6 HO6
  generalize w4.heap.size = X at *
  obtain ⟨x0, x1, x2, x3, x4, x5, x6⟩ := K7.out.sevenH
  have hXl := K7.out.lt
  have BR : Below w7.heap.size w7 w7.drew := ⟨rfl, rfl, rfl, Nat.le_refl _, fun _ _ => rfl⟩
  go_wp2_with fail
  go_cut [9, 10] (fun s9 s10 wx => ∃ p9 p10, s9 = .pointer (some ⟨p9, 0, none⟩) ∧ s10 = .pointer (some ⟨p10, 0, none⟩) ∧ Hid (Below w7.heap.size w7 wx ∧ Blk wx p9 38 #[.int .i64 x.age, .int .i64 x.kind, .int .i64 x.id, .int .i64 x.adv, .int .i64 x.seq, .int .i64 x.sum, .int .i64 x.long] ∧ Blk wx p10 38 #[.int .i64 x.age, .int .i64 x.kind, .int .i64 x.id, .int .i64 x.adv, .int .i64 x.seq, .int .i64 x.sum, .int .i64 x.long] ∧ p9 ≠ p10 ∧ w7.heap.size ≤ p9 ∧ w7.heap.size ≤ p10))
  case first =>
    go_region
    · go_wp2_with fail
      go_meet
      exact ⟨w7.heap.size, w7.heap.size + 1, rfl, rfl, Lib.hid ⟨below_drewN (below_new2 w7 _ _) 1, blk_new07 w7 _ _ _, blk_new1 w7 _ _ _, by omega, Nat.le_refl _, Nat.le_succ _⟩⟩
    · go_wp2_with fail
      go_meet
      exact ⟨w7.heap.size + 1, w7.heap.size, rfl, rfl, Lib.hid ⟨below_drewN (below_new2 w7 _ _) 1, blk_new1 w7 _ _ _, blk_new07 w7 _ _ _, by omega, Nat.le_succ _, Nat.le_refl _⟩⟩
  case rest =>
    obtain ⟨p9, p10, rfl, rfl, hbx⟩ := hcut
    obtain ⟨hb8, h9, h10, hne, hg9, hg10⟩ := hbx.out
    have P8 := Lib.hid (P7.out.below hb8)
    have K8 := Lib.hid (K7.out.below hb8 K7.out.lt)
    have B8 := Lib.hid (B7.out.trans (hb8.mono B7.out.size))
    have HLP := Lib.hid (show p < w7.heap.size ∧ b < w7.heap.size from ⟨P7.out.ltp, P7.out.ltb⟩)
    have HW7 := Lib.hid B7.out.size
    have y4 := h9.cell 4
    have z4 := h10.cell 4
    simp at y4 z4
    have f9 := h9.frozen 4
    have f10 := h10.frozen 4
    obtain ⟨y, hy⟩ : ∃ y, y = seqH x (x.seq - less) := ⟨_, rfl⟩
    obtain ⟨z, hz⟩ : ∃ z, z = seqH x (x.seq + more) := ⟨_, rfl⟩
    have KT := Lib.hid (show Blk ((wc.setCell ⟨p9, 4, none⟩ (.int .i64 (x.seq - less))).setCell ⟨p10, 4, none⟩ (.int .i64 (x.seq + more))) p9 38 #[.int .i64 y.age, .int .i64 y.kind, .int .i64 y.id, .int .i64 y.adv, .int .i64 y.seq, .int .i64 y.sum, .int .i64 y.long] by
      rw [hy]
      have := (h9.put 4 (.int .i64 (x.seq - less))).far (p := ⟨p10, 4, none⟩) hne (.int .i64 (x.seq + more))
      simpa [seqH] using this)
    have KY10 := Lib.hid (show Blk ((wc.setCell ⟨p9, 4, none⟩ (.int .i64 (x.seq - less))).setCell ⟨p10, 4, none⟩ (.int .i64 (x.seq + more))) p10 38 #[.int .i64 z.age, .int .i64 z.kind, .int .i64 z.id, .int .i64 z.adv, .int .i64 z.seq, .int .i64 z.sum, .int .i64 z.long] by
      rw [hz]
      have := (h10.far (p := ⟨p9, 4, none⟩) (Ne.symm hne) (.int .i64 (x.seq - less))).put 4 (.int .i64 (x.seq + more))
      simpa [seqH] using this)
    have CC : Chg (fun q => q = p9 ∨ q = p10) wc ((wc.setCell ⟨p9, 4, none⟩ (.int .i64 (x.seq - less))).setCell ⟨p10, 4, none⟩ (.int .i64 (x.seq + more))) :=
      (Chg.of_grown (grown_setCell wc ⟨p9, 4, none⟩ _) (fun k e => .inl (by injection e with e; exact e.symm))).trans (Chg.of_grown (grown_setCell _ ⟨p10, 4, none⟩ _) (fun k e => .inr (by injection e with e; exact e.symm))) (fun q hq => .inl hq)
    have PZ := Lib.hid (P8.out.chg CC (fun e => by have := HLP.out; omega) (fun e => by have := HLP.out; omega))
    have KZ := Lib.hid (K8.out.chg CC (fun e => by omega))
    have BZ := Lib.hid ((B8.out.setCell (p := ⟨p9, 4, none⟩) (Nat.le_trans HW7.out hg9) (.int .i64 (x.seq - less))).setCell (p := ⟨p10, 4, none⟩) (Nat.le_trans HW7.out hg10) (.int .i64 (x.seq + more)))
    have HNB := Lib.hid (show ¬ p10 = b by have := HLP.out; omega)
    have HNC := Lib.hid (show ¬ p9 = b by have := HLP.out; omega)
    have HXB := Lib.hid HX8.out
    have HYW := Lib.hid (show wfKy (keyH y) ∧ ageB y = true by rw [hy]; exact ⟨HXS.out.2.2, HXS.out.2.1⟩)
    have HZW := Lib.hid (show wfKy (keyH z) ∧ ageB z = true by rw [hz]; exact ⟨HXS.out.2.2, HXS.out.2.1⟩)
    have HTY := Lib.hid (show (0 < less → takeE [x] y = 8 ∧ takeS [x] y = [x]) ∧ (less = 0 → takeE [x] y = 0 ∧ takeS [x] y = []) by
      rw [hy]
      exact ⟨fun h => (take_oneH x _).1 (by omega), fun h => (take_oneH x _).2 (by omega)⟩)
    have HTZ := Lib.hid (show takeE [x] z = 0 ∧ takeS [x] z = [] by rw [hz]; exact (take_oneH x _).2 (by omega))
    have w_y : IntKind.i64.wrap (x.seq - less) = x.seq - less := by rw [IntKind.wrap_i64]; have := H1.out; omega
    have w_z : IntKind.i64.wrap (x.seq + more) = x.seq + more := by rw [IntKind.wrap_i64]; have := H2.out; omega
    have hne' : p10 ≠ p9 := Ne.symm hne
    clear hb8 h9 h10 hg9 hg10 hbx P7 K7 B7 P8 K8 B8 HLP hy hz CC x0 x1 x2 x3 x4 x5 x6
    have RT := Lib.hid (blk_range7 KT.out)
    go_wp2_with (refine wpList_load_row 38 _ _ (by rfl) (.tmp 9) rfl (by rfl) RT.out Try.underlying38 rfl (by kernel_rfl) ?_)
    clear RT y4 z4 f9 f10 w_y w_z hne hne'
    generalize (wc.setCell ⟨p9, 4, none⟩ (.int .i64 (x.seq - less))).setCell ⟨p10, 4, none⟩ (.int .i64 (x.seq + more)) = wv at *
    refine (take_w PZ.out y HYW.out.1 HYW.out.2 (fun v hv => by rw [List.mem_singleton.1 hv]; exact HXS.out.2.1)).mono ?_
    rintro e9 wz ⟨rfl, hPz, hcz⟩
    have KZ := Lib.hid (KZ.out.chg hcz HXB.out)
    have KY10 := Lib.hid (KY10.out.chg hcz HNB.out)
    have BZ := Lib.hid (BZ.out.trans (hcz.to_below (fun q hq => by rw [hq]; exact HPB.out.2) BZ.out.size))
    clear hcz PZ
    by_cases hz0 : 0 < less
    · rw [(HTY.out.1 hz0).1]
      rw [(HTY.out.1 hz0).2] at hPz
      have PZ := Lib.hid hPz
      have HAD := Lib.hid (adds_again x)
      have HSA := Lib.hid (show ∀ v ∈ [x], ageB v = true from fun v hv => by rw [List.mem_singleton.1 hv]; exact HXS.out.2.1)
      have d0 : decide (0 < less) = true := by simpa using hz0
      have d0' : (less == 0) = false := by simp; omega
      clear hPz HTY
      go_wp2_with fail
      refine (len_w PZ.out).mono ?_
      rintro el wl ⟨rfl, rfl⟩
      rw [show (([x] : List Hd).length : Int) = 1 from rfl]
      clear KT
      have RX := Lib.hid (blk_range7 KZ.out)
      go_wp2_with (refine wpList_load_row 38 _ _ (by rfl) (.tmp 8) rfl (by rfl) RX.out Try.underlying38 rfl (by kernel_rfl) ?_)
      have HOa := Lib.hid (hds_one wz x)
      have Ba := Lib.hid (BZ.out.alloc BZ.out.size (.cells #[.int .i64 x.age, .int .i64 x.kind, .int .i64 x.id, .int .i64 x.adv, .int .i64 x.seq, .int .i64 x.sum, .int .i64 x.long] 38))
      have Ka := Lib.hid (KY10.out.alloc (.cells #[.int .i64 x.age, .int .i64 x.kind, .int .i64 x.id, .int .i64 x.adv, .int .i64 x.seq, .int .i64 x.sum, .int .i64 x.long] 38))
      have Pa := Lib.hid (PZ.out.below ((Below.refl _ wz).alloc (Nat.le_refl _) (.cells #[.int .i64 x.age, .int .i64 x.kind, .int .i64 x.id, .int .i64 x.adv, .int .i64 x.seq, .int .i64 x.sum, .int .i64 x.long] 38)))
      clear KZ KY10 BZ PZ RX
      refine (add_w Pa.out HOa.out (by simp) (by omega) (by first | exact Nat.zero_le _ | simp) (fun v hv => by rw [List.mem_singleton.1 hv]; exact HXS.out.2.2) (fun v hv => by rw [List.mem_singleton.1 hv]; exact HXS.out.2.1) HSA.out).mono ?_
      rintro ea wa ⟨rfl, hPa, hca⟩
      rw [HAD.out] at hPa ⊢
      have Pb := Lib.hid hPa
      have Kb := Lib.hid (Ka.out.chg hca HNB.out)
      have Bb := Lib.hid (Ba.out.trans (hca.to_below (fun q hq => by rw [hq]; exact HPB.out.2) Ba.out.size))
      clear hPa hca Pa Ka Ba HOa
      generalize wz.alloc (.cells #[.int .i64 x.age, .int .i64 x.kind, .int .i64 x.id, .int .i64 x.adv, .int .i64 x.seq, .int .i64 x.sum, .int .i64 x.long] 38) = wy at *
      have RY := Lib.hid (blk_range7 Kb.out)
      go_wp2_with (refine wpList_load_row 38 _ _ (by rfl) (.tmp 10) rfl (by rfl) RY.out Try.underlying38 rfl (by kernel_rfl) ?_)
      refine (take_w Pb.out z HZW.out.1 HZW.out.2 (fun v hv => by rw [List.mem_singleton.1 hv]; exact HXS.out.2.1)).mono ?_
      rintro ec wc ⟨rfl, hPc, hcc⟩
      rw [HTZ.out.1]
      rw [HTZ.out.2] at hPc
      have Pc := Lib.hid hPc
      have Kc := Lib.hid (Kb.out.chg hcc HNB.out)
      have Bc := Lib.hid (Bb.out.trans (hcc.to_below (fun q hq => by rw [hq]; exact HPB.out.2) Bb.out.size))
      clear hPc hcc Pb Kb Bb RY
      go_wp2_with fail
      refine (len_w Pc.out).mono ?_
      rintro ed wd ⟨rfl, rfl⟩
      have RZ := Lib.hid (blk_range7 Kc.out)
      rw [show (([] : List Hd).length : Int) = 0 from rfl]
      go_wp2_with (refine wpList_load_row 38 _ _ (by rfl) (.tmp 10) rfl (by rfl) RZ.out Try.underlying38 rfl (by kernel_rfl) ?_)
      refine (take_w Pc.out z HZW.out.1 HZW.out.2 (fun v hv => by cases hv)).mono ?_
      rintro ee we ⟨rfl, -, hce⟩
      rw [(take_noneH z).1]
      have Be := Lib.hid (Bc.out.trans (hce.to_below (fun q hq => by rw [hq]; exact HPB.out.2) Bc.out.size))
      clear hce Pc Kc Bc RZ
      go_wp2
      show Q (.returned (.bool true)) we
      rw [← HQ.out]
      exact ⟨rfl, Be.out⟩
    · have hl0 : less = 0 := by omega
      rw [(HTY.out.2 hl0).1]
      rw [(HTY.out.2 hl0).2] at hPz
      have PZ := Lib.hid hPz
      have HAD := Lib.hid (adds_one x)
      have HSA := Lib.hid (show ∀ v ∈ ([] : List Hd), ageB v = true from fun v hv => by cases hv)
      have d0 : decide (0 < less) = false := by simp; omega
      have d0' : (less == 0) = true := by simp; omega
      clear hPz HTY hl0
      go_wp2_with fail
      refine (len_w PZ.out).mono ?_
      rintro el wl ⟨rfl, rfl⟩
      rw [show (([] : List Hd).length : Int) = 0 from rfl]
      clear KT
      have RX := Lib.hid (blk_range7 KZ.out)
      go_wp2_with (refine wpList_load_row 38 _ _ (by rfl) (.tmp 8) rfl (by rfl) RX.out Try.underlying38 rfl (by kernel_rfl) ?_)
      have HOa := Lib.hid (hds_one wz x)
      have Ba := Lib.hid (BZ.out.alloc BZ.out.size (.cells #[.int .i64 x.age, .int .i64 x.kind, .int .i64 x.id, .int .i64 x.adv, .int .i64 x.seq, .int .i64 x.sum, .int .i64 x.long] 38))
      have Ka := Lib.hid (KY10.out.alloc (.cells #[.int .i64 x.age, .int .i64 x.kind, .int .i64 x.id, .int .i64 x.adv, .int .i64 x.seq, .int .i64 x.sum, .int .i64 x.long] 38))
      have Pa := Lib.hid (PZ.out.below ((Below.refl _ wz).alloc (Nat.le_refl _) (.cells #[.int .i64 x.age, .int .i64 x.kind, .int .i64 x.id, .int .i64 x.adv, .int .i64 x.seq, .int .i64 x.sum, .int .i64 x.long] 38)))
      clear KZ KY10 BZ PZ RX
      refine (add_w Pa.out HOa.out (by simp) (by omega) (by first | exact Nat.zero_le _ | simp) (fun v hv => by rw [List.mem_singleton.1 hv]; exact HXS.out.2.2) (fun v hv => by rw [List.mem_singleton.1 hv]; exact HXS.out.2.1) HSA.out).mono ?_
      rintro ea wa ⟨rfl, hPa, hca⟩
      rw [HAD.out] at hPa ⊢
      have Pb := Lib.hid hPa
      have Kb := Lib.hid (Ka.out.chg hca HNB.out)
      have Bb := Lib.hid (Ba.out.trans (hca.to_below (fun q hq => by rw [hq]; exact HPB.out.2) Ba.out.size))
      clear hPa hca Pa Ka Ba HOa
      generalize wz.alloc (.cells #[.int .i64 x.age, .int .i64 x.kind, .int .i64 x.id, .int .i64 x.adv, .int .i64 x.seq, .int .i64 x.sum, .int .i64 x.long] 38) = wy at *
      have RY := Lib.hid (blk_range7 Kb.out)
      go_wp2_with (refine wpList_load_row 38 _ _ (by rfl) (.tmp 10) rfl (by rfl) RY.out Try.underlying38 rfl (by kernel_rfl) ?_)
      refine (take_w Pb.out z HZW.out.1 HZW.out.2 (fun v hv => by rw [List.mem_singleton.1 hv]; exact HXS.out.2.1)).mono ?_
      rintro ec wc ⟨rfl, hPc, hcc⟩
      rw [HTZ.out.1]
      rw [HTZ.out.2] at hPc
      have Pc := Lib.hid hPc
      have Kc := Lib.hid (Kb.out.chg hcc HNB.out)
      have Bc := Lib.hid (Bb.out.trans (hcc.to_below (fun q hq => by rw [hq]; exact HPB.out.2) Bb.out.size))
      clear hPc hcc Pb Kb Bb RY
      go_wp2_with fail
      refine (len_w Pc.out).mono ?_
      rintro ed wd ⟨rfl, rfl⟩
      have RZ := Lib.hid (blk_range7 Kc.out)
      rw [show (([] : List Hd).length : Int) = 0 from rfl]
      go_wp2_with (refine wpList_load_row 38 _ _ (by rfl) (.tmp 10) rfl (by rfl) RZ.out Try.underlying38 rfl (by kernel_rfl) ?_)
      refine (take_w Pc.out z HZW.out.1 HZW.out.2 (fun v hv => by cases hv)).mono ?_
      rintro ee we ⟨rfl, -, hce⟩
      rw [(take_noneH z).1]
      have Be := Lib.hid (Bc.out.trans (hce.to_below (fun q hq => by rw [hq]; exact HPB.out.2) Bc.out.size))
      clear hce Pc Kc Bc RZ
      go_wp2
      show Q (.returned (.bool true)) we
      rw [← HQ.out]
      exact ⟨rfl, Be.out⟩
end Go.Proofs.Ytnnkcgbnhjkahaa
