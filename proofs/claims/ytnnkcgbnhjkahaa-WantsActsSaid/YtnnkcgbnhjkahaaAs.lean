/- The reference's Take and Ask of what is wanted. Conditions: at most 100000 heads, ages from 0 to 60. -/
import Derived.Test.YtnnkcgbnhjkahaaAr
namespace Go.Proofs.Ytnnkcgbnhjkahaa
open Go.RowKit Go.Lib Go.Sort Go.Deep

theorem erase_step {S : List Hd} {i j : Nat} {x : Hd} (hj : S[j]? = some x) : (S.take (j + 1)).eraseIdx i = if j = i then (S.take j).eraseIdx i else (S.take j).eraseIdx i ++ [x] := by
  have hl := (List.getElem?_eq_some_iff.1 hj).1
  have hlt : (S.take j).length = j := by rw [List.length_take]; omega
  rw [take_snocA S j x hj]
  by_cases h : j = i
  · rw [if_pos h]
    subst h
    rw [List.eraseIdx_append_of_length_le (by omega), List.eraseIdx_of_length_le (l := S.take j) (by omega), hlt, Nat.sub_self]
    simp
  · rw [if_neg h]
    rcases Nat.lt_or_gt_of_ne h with h1 | h1
    · rw [List.eraseIdx_of_length_le (l := S.take j ++ [x]) (by rw [List.length_append, List.length_singleton]; omega), List.eraseIdx_of_length_le (l := S.take j) (by omega)]
    · rw [List.eraseIdx_append_of_lt_length (by omega)]
theorem findI_cases {S : List Hd} (k : Ky) : (findI S k = -1 ∧ getH S k = none) ∨ ∃ (i : Nat) (y : Hd), findI S k = (i : Int) ∧ S[i]? = some y ∧ getH S k = some y := by
  rcases placeH_get (S := S) (k := k) with ⟨h1, h2⟩ | ⟨i, y, h1, h2, h3⟩
  · refine .inl ⟨?_, h2⟩
    unfold findI
    rw [h1]
  · refine .inr ⟨i, y, ?_, h2, h3⟩
    unfold findI
    rw [h1]
/-- What a call makes of the reference's list. -/
def RefQ (w : World) (lo g : Nat) (S' : List Hd) (F : Nat → Prop) (w' : World) : Prop := ∃ F', RwIs w' lo g S' F' ∧ Chg F w w' ∧ ∀ q, F' q → F q ∨ w.heap.size ≤ q
theorem RefQ.same {w w' : World} {lo g : Nat} {S : List Hd} {F : Nat → Prop} (h : RwIs w lo g S F) (hb : Below w.heap.size w w') : RefQ w lo g S F w' := ⟨F, h.below hb, Chg.of_below hb, fun _ hq => .inl hq⟩
/-- A new row is laid in the reference's list. -/
theorem RefQ.laid {w w' : World} {lo g m c' : Nat} {S S' : List Hd} {F : Nat → Prop} {A' : Option Addr} {bm : Nat} (h : RwIs w lo g S F) (hb : Below w.heap.size w w') (hbm : w.heap.size ≤ bm) (ho : w'.ownsRow bm 38 7 (.slice A' m c') m (cellsBy encHd S')) : RefQ w lo g S' F (w'.setCell ⟨g, 0, none⟩ (.slice A' m c')) := by
  obtain ⟨A, n, c, hB, hl, hO, hF⟩ := h
  have hgl := hB.lt
  have hB' := (hB.below hb hB.lt).put 0 (.slice A' m c')
  have hO' := own_set ho ⟨g, 0, none⟩ (.slice A' m c') (show g < bm by omega)
  refine ⟨fun q => q = g ∨ (Value.slice A' m c').ownBlock = some q, ⟨A', m, c', by simpa using hB', hl, own_low hO' (by omega), fun q => Iff.rfl⟩, ?_, fun q hq => ?_⟩
  · refine (Chg.of_below (F := F) hb).trans (Chg.of_grown (F := F) (grown_setCell w' ⟨g, 0, none⟩ (.slice A' m c')) (fun k e => ?_)) (fun q hq => .inl hq)
    injection e with e
    exact (hF k).2 (.inl e.symm)
  · rcases hq with rfl | hq
    · exact .inl ((hF q).2 (.inl rfl))
    · have := (ho.lt q hq).1
      exact .inr (by omega)
set_option maxRecDepth 20000 in
set_option maxHeartbeats 16000000 in
theorem take_r {w : World} {lo g : Nat} {S : List Hd} {F : Nat → Prop} (h : RwIs w lo g S F) (hs : SortH S) (hl : S.length ≤ 100000) (x : Hd) (hx : ageB x = true) (hS : ∀ y ∈ S, ageB y = true) : Calls Try.prog 14 #[.pointer (some ⟨g, 0, none⟩), .agg #[.int .i64 x.age, .int .i64 x.kind, .int .i64 x.id, .int .i64 x.adv, .int .i64 x.seq, .int .i64 x.sum, .int .i64 x.long]] w fun e w' => e = .returned (.int .i64 (takeE S x)) ∧ RefQ w lo g (takeS S x) F w' := by
  generalize hQ : (fun (e : Ending) (w' : World) => e = .returned (.int .i64 (takeE S x)) ∧ RefQ w lo g (takeS S x) F w') = Q
  have HQ := Lib.hid hQ
  have HRW := Lib.hid h
  have HS := Lib.hid hS
  have HX := Lib.hid hx
  have HSO := Lib.hid hs
  have B0 := Lib.hid ((Below.refl w.heap.size w).alloc (Nat.le_refl _) (.cells #[.int .i64 x.age, .int .i64 x.kind, .int .i64 x.id, .int .i64 x.adv, .int .i64 x.seq, .int .i64 x.sum, .int .i64 x.long] 38))
  have K0 := Lib.hid (Blk.new w 38 #[.int .i64 x.age, .int .i64 x.kind, .int .i64 x.id, .int .i64 x.adv, .int .i64 x.seq, .int .i64 x.sum, .int .i64 x.long])
  have R0 := Lib.hid (blk_range7 K0.out)
  have mixed : Try.prog.follows .mixedOrders = true := by kernel_rfl
  clear hQ h hS hx hs
  go_enter Try.func14, Try.ntmps14
  go_wp2_with (refine wpList_load_row 38 _ _ (by rfl) (.tmp 3) rfl (by rfl) R0.out Try.underlying38 rfl (by kernel_rfl) ?_)
  refine (key13_any x _).mono ?_
  rintro e1 w1 ⟨rfl, hb1⟩
  have B1 := Lib.hid (B0.out.trans (hb1.mono B0.out.size))
  have K1 := Lib.hid (K0.out.below hb1 K0.out.lt)
  clear hb1 K0 R0 B0
  go_wp2_with fail
  refine (find_r (HRW.out.below B1.out) (keyH x)).mono ?_
  rintro e2 w2 ⟨rfl, hb2⟩
  have B2 := Lib.hid (B1.out.trans (hb2.mono B1.out.size))
  have K2 := Lib.hid (K1.out.below hb2 K1.out.lt)
  clear hb2 K1 B1
  rcases findI_cases (S := S) (keyH x) with ⟨hf, hg⟩ | ⟨i, y, hf, hi, hg⟩
  · rw [hf]
    have HT := Lib.hid (takeE_none hg)
    clear hf hg
    go_wp2
    show Q (.returned (.int .i64 6)) w2
    rw [← HQ.out]
    exact ⟨by rw [HT.out.1], by rw [HT.out.2]; exact RefQ.same HRW.out B2.out⟩
  · rw [hf]
    have HT := Lib.hid (takeE_some hg)
    have HI := Lib.hid hi
    have HKE := Lib.hid (getH_some hg).2
    have HAY := Lib.hid (HS.out y (List.mem_of_getElem? hi))
    have i_n : ¬ (i : Int) < 0 := by omega
    have i_p : (0 : Int) ≤ (i : Int) := by omega
    have i_t : ((i : Int)).toNat = i := by omega
    clear hf hg
    obtain ⟨A, n, c, hB, hlo, hO, hF⟩ := HRW.out
    have HSN := Lib.hid (own_lenH encHd_len (by omega) hO)
    have hn5 : n ≤ 100000 := by have := HSN.out; omega
    have HO := Lib.hid hO
    have HB := Lib.hid hB
    have hgl := hB.lt
    have c0 := (hB.below B2.out hgl).cell 0
    simp at c0
    have hg2 : g < w2.heap.size := (hB.below B2.out hgl).lt
    obtain ⟨q, rfl, -, hql, -, hnc, hcm, hr⟩ := item_range7 (own_below2 hO B2.out) hi
    unfold maxLen at hcm
    have hin : i < n := by
      have := (List.getElem?_eq_some_iff.1 hi).1
      have := HSN.out
      omega
    have i_u : (i : Int) < (n : Int) := by omega
    obtain ⟨z0, z1, z2, z3, z4, z5, z6⟩ := cells7 hr
    obtain ⟨x0, x1, x2, x3, x4, x5, x6⟩ := K2.out.sevenH
    have hXl := K2.out.lt
    have gc0 := fun n os => cell_grown (n := n) (os := os) hg2 c0
    have gz0 := fun n os => cell_grown (n := n) (os := os) hql z0
    have gz1 := fun n os => cell_grown (n := n) (os := os) hql z1
    have gz2 := fun n os => cell_grown (n := n) (os := os) hql z2
    have gz3 := fun n os => cell_grown (n := n) (os := os) hql z3
    have gz4 := fun n os => cell_grown (n := n) (os := os) hql z4
    have gz5 := fun n os => cell_grown (n := n) (os := os) hql z5
    have gz6 := fun n os => cell_grown (n := n) (os := os) hql z6
    have gx0 := fun n os => cell_grown (n := n) (os := os) hXl x0
    have gx1 := fun n os => cell_grown (n := n) (os := os) hXl x1
    have gx2 := fun n os => cell_grown (n := n) (os := os) hXl x2
    have gx3 := fun n os => cell_grown (n := n) (os := os) hXl x3
    have gx4 := fun n os => cell_grown (n := n) (os := os) hXl x4
    have gx5 := fun n os => cell_grown (n := n) (os := os) hXl x5
    have gx6 := fun n os => cell_grown (n := n) (os := os) hXl x6
    have p1 := fun n os => Calls.grown_of (refNewer_grown y x (grow (w2.drewN n) os) HAY.out HX.out)
    obtain ⟨d, hd⟩ : ∃ d, nw y x = d := ⟨_, rfl⟩
    rw [hd] at p1 HT
    have hgr := Lib.hid (fun n os => below_grown13 (w := w2) (w' := grow (w2.drewN n) os) ⟨n, os, rfl⟩)
    clear z0 z1 z2 z3 z4 z5 z6 x0 x1 x2 x3 x4 x5 x6 hr hd hi hB hO hlo hF c0
    go_wp2_with fail
    go_quiet_grown (first | (go_at_call 41; with_reducible exact p1 _ _))
    have W4 := Lib.hid (hgr.out nq osq)
    clear hgr p1 gc0 gz0 gz1 gz2 gz3 gz4 gz5 gz6 gx0 gx1 gx2 gx3 gx4 gx5 gx6
    generalize grow (w2.drewN nq) osq = w4 at *
    have B4 := Lib.hid (B2.out.trans (W4.out.mono B2.out.size))
    clear W4 B2 K2
    by_cases hd : 0 < d
    · have HT2 := Lib.hid (HT.out.1 (by omega))
      go_wp2
      show Q (.returned (.int .i64 8)) w4
      rw [← HQ.out]
      exact ⟨by rw [HT2.out.1], by rw [HT2.out.2]; exact RefQ.same HRW.out B4.out⟩
    · have HT2 := Lib.hid (HT.out.2 (by omega))
      have O5 := Lib.hid (World.ownsRow_nil w4 w4.heap.size 38 7)
      have Z5 := Lib.hid (Below.refl w4.heap.size w4)
      have hz4 := B4.out.size
      clear HT
      go_wp2_with fail
      go_loopw [6, 7] (fun s6 s7 wr => ∃ (j m c' : Nat) (A' : Option Addr), s7 = .int .i64 j ∧ s6 = .slice A' m c' ∧ j ≤ n ∧ m ≤ j ∧ Hid (wr.ownsRow w4.heap.size 38 7 (.slice A' m c') m (cellsBy encHd ((S.take j).eraseIdx i))) ∧ Hid (Below w4.heap.size w4 wr)) (fun _ s7 _ => n - (intOf s7).toNat)
      case atStart => exact ⟨0, 0, 0, none, rfl, rfl, Nat.zero_le _, Nat.le_refl _, Lib.hid (by simpa [cellsBy] using O5.out), Z5⟩
      case round =>
        clear O5 Z5
        obtain ⟨j, m, c', A', rfl, rfl, hj, hmj, OW, BW⟩ := hrel
        have hzr := BW.out.size
        have HWW := Lib.hid (B4.out.trans (BW.out.mono hz4))
        have c0 := (HB.out.below HWW.out hgl).cell 0
        simp at c0
        by_cases hlt : j < n
        · have hlt' : (j : Int) < (n : Int) := by omega
          obtain ⟨u, hu⟩ : ∃ u, S[j]? = some u := ⟨_, List.getElem?_eq_getElem (by have := HSN.out; omega)⟩
          have HES := Lib.hid (erase_step (i := i) hu)
          obtain ⟨q2, e2, -, -, -, -, -, hr⟩ := item_range7 (own_below2 HO.out HWW.out) hu
          injection e2 with e2
          injection e2 with e2
          subst e2
          have HR := Lib.hid hr
          have j_p : (0 : Int) ≤ (j : Int) := by omega
          have j_t : ((j : Int)).toNat = j := by omega
          clear hu hr
          by_cases hji : j = i
          · have dne : ((j : Int) != (i : Int)) = false := by simp [hji]
            have O6 := Lib.hid (show wr.ownsRow w4.heap.size 38 7 (.slice A' m c') m (cellsBy encHd ((S.take (j + 1)).eraseIdx i)) by rw [HES.out, if_pos hji]; exact OW.out)
            have HJI := Lib.hid hji
            clear OW HES hji HR
            go_wp2
            go_roundw
            case rel => exact ⟨j + 1, m, c', A', by go_num, by first | rfl | go_num, by omega, by omega, O6, BW⟩
            case measure => simp [intOf]; omega
          · have dne : ((j : Int) != (i : Int)) = true := by simp; omega
            go_wp2_with (first | refine wpList_load_row 38 _ _ (by rfl) (.tmp 42) rfl (by rfl) HR.out Try.underlying38 rfl (by kernel_rfl) ?_ | (at_builtin; refine wpList_app_hd3 rfl (.tmp 36) (.tmp 44) rfl u (g := wr.heap.size) rfl (by rfl) (by rfl) OW.out (by omega) hzr ?_; intro A5 c5 w5 HO5 HC5))
            have O6 := Lib.hid (show w5.ownsRow w4.heap.size 38 7 (.slice A5 (m + 1) c5) (m + 1) (cellsBy encHd ((S.take (j + 1)).eraseIdx i)) by rw [HES.out, if_neg hji]; exact HO5.out)
            have B6 := Lib.hid (BW.out.trans (HC5.out.to_below (fun q hq => (OW.out.lt q hq).1) hzr))
            clear HO5 HC5 OW BW HES HR c0 dne
            go_wp2
            go_roundw
            case rel => exact ⟨j + 1, m + 1, c5, A5, by go_num, by first | rfl | go_num, by omega, by omega, O6, B6⟩
            case measure => simp [intOf]; omega
        · have hlt' : ¬ (j : Int) < (n : Int) := by omega
          have f0 := (HB.out.below HWW.out hgl).frozen 0
          have HE := Lib.hid (show (S.take j).eraseIdx i = takeS S x by
            rw [HT2.out.2, List.take_of_length_le (by have := HSN.out; omega), erase_restH HSO.out HI.out, HKE.out])
          rw [HE.out] at OW
          have HL := Lib.hid (RefQ.laid HRW.out HWW.out hz4 OW.out)
          go_wp2
          show Q (.returned (.int .i64 0)) _
          rw [← HQ.out]
          exact ⟨by rw [HT2.out.1], HL.out⟩
set_option maxRecDepth 20000 in
set_option maxHeartbeats 8000000 in
theorem ask_r {w : World} {lo g : Nat} {S : List Hd} {F : Nat → Prop} (h : RwIs w lo g S F) : Calls Try.prog 19 #[.pointer (some ⟨g, 0, none⟩)] w (AskW S w) := by
  generalize hQ : AskW S w = Q
  have HQ := Lib.hid hQ
  obtain ⟨A, n, c, hB, -, hO, -⟩ := h
  have HSN := Lib.hid (own_lenH encHd_len (by omega) hO)
  have HO := Lib.hid hO
  have HB := Lib.hid hB
  have hgl := hB.lt
  have O0 := Lib.hid (World.ownsRow_nil w w.heap.size 47 3)
  have B0 := Lib.hid (Below.refl w.heap.size w)
  clear hQ hO hB
  go_enter Try.func19, Try.ntmps19
  go_wp2_with fail
  go_loopw [3, 4] (fun s3 s4 wr => ∃ (j c' : Nat) (A' : Option Addr), s4 = .int .i64 j ∧ s3 = .slice A' j c' ∧ j ≤ n ∧ j ≤ 3 ∧ Hid (wr.ownsRow w.heap.size 47 3 (.slice A' j c') j (kyCells ((S.take j).map keyH))) ∧ Hid (Below w.heap.size w wr)) (fun _ s4 _ => 3 - (intOf s4).toNat)
  case atStart => exact ⟨0, 0, none, rfl, rfl, Nat.zero_le _, Nat.zero_le _, Lib.hid (by simpa [kyCells] using O0.out), B0⟩
  case round =>
    clear O0 B0
    obtain ⟨j, c', A', rfl, rfl, hj, hj3, OW, BW⟩ := hrel
    have hzr := BW.out.size
    have c0 := (HB.out.below BW.out hgl).cell 0
    simp at c0
    by_cases hlt : j < n ∧ j < 3
    · have hlt1 : (j : Int) < (n : Int) := by omega
      have hlt3 : (j : Int) < 3 := by omega
      obtain ⟨x, hx⟩ : ∃ x, S[j]? = some x := ⟨_, List.getElem?_eq_getElem (by have := HSN.out; omega)⟩
      obtain ⟨q, rfl, -, hql, -, -, -, hr⟩ := item_range7 (own_below2 HO.out BW.out) hx
      have HR := Lib.hid hr
      have j_p : (0 : Int) ≤ (j : Int) := by omega
      have j_t : ((j : Int)).toNat = j := by omega
      have HTK := Lib.hid (show (S.take (j + 1)).map keyH = (S.take j).map keyH ++ [keyH x] by rw [take_snocA S j x hx, List.map_append]; rfl)
      clear hx hr
      go_wp2_with (refine wpList_load_row 38 _ _ (by rfl) (.tmp 24) rfl (by rfl) HR.out Try.underlying38 rfl (by kernel_rfl) ?_)
      refine (key13_any x _).mono ?_
      rintro e3 w3 ⟨rfl, hb3⟩
      have K3 := Lib.hid (own_chg OW.out (Chg.of_below (F := fun _ => False) hb3) (fun _ _ hf => hf))
      have hz3 : w.heap.size ≤ w3.heap.size := Nat.le_trans hzr hb3.size
      have BW3 := Lib.hid (BW.out.trans (hb3.mono hzr))
      clear hb3 HR OW BW c0
      go_wp2_with (at_builtin; refine wpList_app_kyW rfl (.tmp 18) (.tmp 27) rfl (keyH x) (by rfl) (by rfl) K3.out (by omega) hz3 ?_; intro A5 c5 w5 HO5 HB5)
      have K5 := Lib.hid (show w5.ownsRow w.heap.size 47 3 (.slice A5 (j + 1) c5) (j + 1) (kyCells ((S.take (j + 1)).map keyH)) by rw [HTK.out]; exact HO5.out)
      have B5 := Lib.hid (BW3.out.trans HB5.out)
      clear HO5 HB5 K3 BW3
      go_wp2
      go_roundw
      case rel => exact ⟨j + 1, c5, A5, by go_num, by first | rfl | go_num, by omega, by omega, K5, B5⟩
      case measure => simp [intOf]; omega
    · have e : S.take 3 = S.take j := by
        rcases Nat.lt_or_ge j 3 with h3 | h3
        · rw [List.take_of_length_le (by have := HSN.out; omega), List.take_of_length_le (by have := HSN.out; omega)]
        · rw [show j = 3 by omega]
      have HE := Lib.hid e
      clear e
      by_cases h1 : j < n
      · have h1' : (j : Int) < (n : Int) := by omega
        have h3' : ¬ (j : Int) < 3 := by omega
        go_wp2
        show Q (.returned (.slice A' j c')) wr
        rw [← HQ.out]
        exact ⟨A', j, c', rfl, BW.out, by rw [HE.out]; exact OW.out⟩
      · have h1' : ¬ (j : Int) < (n : Int) := by omega
        go_wp2
        show Q (.returned (.slice A' j c')) wr
        rw [← HQ.out]
        exact ⟨A', j, c', rfl, BW.out, by rw [HE.out]; exact OW.out⟩
end Go.Proofs.Ytnnkcgbnhjkahaa
