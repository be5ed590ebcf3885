/- The reference's add to what is wanted. Conditions: at most 100000 heads, ages from 0 to 60. -/
import Derived.Test.YtnnkcgbnhjkahaaAs
namespace Go.Proofs.Ytnnkcgbnhjkahaa
open Go.RowKit Go.Lib Go.Sort Go.Deep

def outD (x : Hd) (L : List Hd) : List Hd := (insD x L).1
def doneD (x : Hd) (L : List Hd) : Bool := (insD x L).2
theorem outD_snoc (x : Hd) (L : List Hd) (y : Hd) : (doneD x L = true → outD x (L ++ [y]) = outD x L ++ [y] ∧ doneD x (L ++ [y]) = true) ∧ (doneD x L = false → (lessKy (keyH x) (keyH y) = true → outD x (L ++ [y]) = outD x L ++ [x] ++ [y] ∧ doneD x (L ++ [y]) = true) ∧ (lessKy (keyH x) (keyH y) = false → outD x (L ++ [y]) = outD x L ++ [y] ∧ doneD x (L ++ [y]) = false)) := by
  have h := insD_snoc x L y
  unfold doneD outD
  rw [h]
  refine ⟨fun hd => ?_, fun hd => ⟨fun hl => ?_, fun hl => ?_⟩⟩
  · rw [if_neg (by rw [hd]; exact fun e => by cases e.1)]
    exact ⟨rfl, hd⟩
  · rw [if_pos ⟨hd, hl⟩]
    exact ⟨rfl, rfl⟩
  · rw [if_neg (by rw [hl]; exact fun e => by cases e.2)]
    exact ⟨rfl, hd⟩
theorem outD_end (x : Hd) (L : List Hd) : (doneD x L = true → outD x L = insH x L) ∧ (doneD x L = false → outD x L ++ [x] = insH x L) := by
  have h := insD_end x L
  unfold doneD outD
  exact ⟨fun hd => by rwa [if_pos hd] at h, fun hd => by rwa [if_neg (by rw [hd]; decide)] at h⟩
theorem outD_len (x : Hd) (L : List Hd) : (outD x L).length ≤ L.length + 1 := by
  have h := insD_is x L
  unfold outD
  rw [h]
  split
  · rw [(insH_perm x L).length_eq, List.length_cons]
    exact Nat.le_refl _
  · exact Nat.le_succ _
theorem RefQ.trans {w w1 w2 : World} {lo g : Nat} {S1 S2 : List Hd} {F : Nat → Prop} (h : RefQ w lo g S1 F w1) (h2 : ∀ F1, RwIs w1 lo g S1 F1 → RefQ w1 lo g S2 F1 w2) : RefQ w lo g S2 F w2 := by
  obtain ⟨F1, hr, hc, hf⟩ := h
  obtain ⟨F2, hr2, hc2, hf2⟩ := h2 F1 hr
  refine ⟨F2, hr2, hc.trans hc2 hf, fun q hq => ?_⟩
  rcases hf2 q hq with h | h
  · exact hf q h
  · exact .inr (Nat.le_trans hc.size h)
set_option maxRecDepth 20000 in
set_option maxHeartbeats 32000000 in
theorem add1_r {w : World} {lo g : Nat} {S : List Hd} {F : Nat → Prop} (h : RwIs w lo g S F) (hs : SortH S) (hl : S.length ≤ 90000) (x : Hd) (hx : ageB x = true) (hS : ∀ y ∈ S, ageB y = true) : Calls Try.prog 40 #[.pointer (some ⟨g, 0, none⟩), .agg #[.int .i64 x.age, .int .i64 x.kind, .int .i64 x.id, .int .i64 x.adv, .int .i64 x.seq, .int .i64 x.sum, .int .i64 x.long]] w fun e w' => e = .returned (.tuple #[]) ∧ RefQ w lo g (addH S x) F w' := by
  generalize hQ : (fun (e : Ending) (w' : World) => e = .returned (.tuple #[]) ∧ RefQ w lo g (addH S x) F w') = Q
  have HQ := Lib.hid hQ
  have HRW := Lib.hid h
  have HS := Lib.hid hS
  have HX := Lib.hid hx
  have HSO := Lib.hid hs
  have B0 := Lib.hid ((Below.refl w.heap.size w).alloc (Nat.le_refl _) (.cells #[.int .i64 x.age, .int .i64 x.kind, .int .i64 x.id, .int .i64 x.adv, .int .i64 x.seq, .int .i64 x.sum, .int .i64 x.long] 38))
  have K0 := Lib.hid (Blk.new w 38 #[.int .i64 x.age, .int .i64 x.kind, .int .i64 x.id, .int .i64 x.adv, .int .i64 x.seq, .int .i64 x.sum, .int .i64 x.long])
  have R0 := Lib.hid (blk_range7 K0.out)
  have mixed : Try.prog.follows .mixedOrders = true := by kernel_rfl
  clear hQ h hS hx hs
  go_enter Try.func40, Try.ntmps40
  go_wp2_with (refine wpList_load_row 38 _ _ (by rfl) (.tmp 3) rfl (by rfl) R0.out Try.underlying38 rfl (by kernel_rfl) ?_)
  refine (key13_any x _).mono ?_
  rintro e1 w1 ⟨rfl, hb1⟩
  have B1 := Lib.hid ((B0.out.trans (hb1.mono B0.out.size)).alloc (B0.out.trans (hb1.mono B0.out.size)).size (.cells #[.int .i64 x.kind, .int .i64 x.id, .int .i64 x.adv] 47))
  have K1 := Lib.hid ((K0.out.below hb1 K0.out.lt).alloc (.cells #[.int .i64 x.kind, .int .i64 x.id, .int .i64 x.adv] 47))
  have Y1 := Lib.hid (Blk.new w1 47 #[.int .i64 x.kind, .int .i64 x.id, .int .i64 x.adv])
  obtain ⟨y0, y1, y2⟩ := Y1.out.three
  clear hb1 K0 R0 B0
  go_wp2_with fail
  clear y0 y1 y2
  generalize w1.alloc (.cells #[.int .i64 x.kind, .int .i64 x.id, .int .i64 x.adv] 47) = w2 at *
  refine (find_r (HRW.out.below B1.out) (keyH x)).mono ?_
  rintro e2 w3 ⟨rfl, hb3⟩
  have B3 := Lib.hid (B1.out.trans (hb3.mono B1.out.size))
  have K3 := Lib.hid (K1.out.below hb3 K1.out.lt)
  have Y3 := Lib.hid (Y1.out.below hb3 Y1.out.lt)
  clear hb3 K1 B1 Y1
  generalize w1.heap.size = Y at *
  obtain ⟨A, n, c, hB, hlo, hO, hF⟩ := HRW.out
  have HSN := Lib.hid (own_lenH encHd_len (by omega) hO)
  have hn5 : n ≤ 90000 := by have := HSN.out; omega
  have HO := Lib.hid hO
  have HB := Lib.hid hB
  have HF := Lib.hid hF
  have HLO := Lib.hid hlo
  have hgl := hB.lt
  have hXl := K3.out.lt
  have hYl := Y3.out.lt
  clear hB hO hlo hF
  rcases findI_cases (S := S) (keyH x) with ⟨hf, hg⟩ | ⟨i, y, hf, hi, hg⟩
  · rw [hf]
    have HT := Lib.hid (show addH S x = insH x S by unfold addH; rw [hg])
    have O4 := Lib.hid (World.ownsRow_nil w3 w3.heap.size 38 7)
    have Z4 := Lib.hid (Below.refl w3.heap.size w3)
    have hz3 := B3.out.size
    have HCA := Lib.hid (own_capA HO.out)
    clear hf hg
    go_wp2_with fail
    go_loopw [6, 7, 8] (fun s6 s7 s8 wr => ∃ (j m c' : Nat) (A' : Option Addr), s8 = .int .i64 j ∧ s7 = .bool (doneD x (S.take j)) ∧ s6 = .slice A' m c' ∧ j ≤ n ∧ m ≤ j + 1 ∧ Hid (wr.ownsRow w3.heap.size 38 7 (.slice A' m c') m (cellsBy encHd (outD x (S.take j)))) ∧ Hid (Below w3.heap.size w3 wr)) (fun _ _ s8 _ => n - (intOf s8).toNat)
    case atStart => exact ⟨0, 0, 0, none, rfl, rfl, rfl, Nat.zero_le _, Nat.zero_le _, Lib.hid (by simpa [outD, insD, cellsBy] using O4.out), Z4⟩
    case round =>
      clear O4 Z4
      obtain ⟨j, m, c', A', rfl, rfl, rfl, hj, hmj, OW, BW⟩ := hrel
      have hzr := BW.out.size
      have HWW := Lib.hid (B3.out.trans (BW.out.mono hz3))
      have KW := Lib.hid (K3.out.below BW.out hXl)
      have YW := Lib.hid (Y3.out.below BW.out hYl)
      have c0 := (HB.out.below HWW.out hgl).cell 0
      simp at c0
      have hgr0 : g < wr.heap.size := by have := HWW.out.size; omega
      obtain ⟨dn, hdn⟩ : ∃ dn, doneD x (S.take j) = dn := ⟨_, rfl⟩
      rw [hdn]
      have HD := Lib.hid hdn
      clear hdn
      by_cases hlt : j < n
      · have hlt' : (j : Int) < (n : Int) := by omega
        obtain ⟨z, hz⟩ : ∃ z, S[j]? = some z := ⟨_, List.getElem?_eq_getElem (by have := HSN.out; omega)⟩
        have HSTEP := Lib.hid (outD_snoc x (S.take j) z)
        rw [← take_snocA S j z hz, HD.out] at HSTEP
        have HZ := Lib.hid hz
        obtain ⟨q, rfl, -, hql, -, hnc, hcm, hr⟩ := item_range7 (own_below2 HO.out HWW.out) hz
        unfold maxLen at hcm
        have j_p : (0 : Int) ≤ (j : Int) := by omega
        have j_t : ((j : Int)).toNat = j := by omega
        clear hz
        cases dn
        case true =>
          obtain ⟨hE1, hE2⟩ := HSTEP.out.1 (by first | rfl | trivial)
          have BQ := Lib.hid (fun q => BW.out.trans (⟨rfl, rfl, rfl, Nat.le_refl _, fun _ _ => rfl⟩ : Below w3.heap.size wr (wr.drewN q)))
          have OQ := Lib.hid (fun q => own_chg OW.out (Chg.of_below (F := fun _ => False) (⟨rfl, rfl, rfl, Nat.le_refl _, fun _ _ => rfl⟩ : Below wr.heap.size wr (wr.drewN q))) (fun _ _ hf => hf))
          have HE1 := Lib.hid hE1
          have HE2 := Lib.hid hE2
          clear hE1 hE2 hr
          go_wp2_with fail
          go_quiet (fail)
          clear c0
          have B5 := Lib.hid (BQ.out nq)
          have O5 := Lib.hid (OQ.out nq)
          clear BQ OQ OW BW
          generalize wr.drewN nq = w5 at *
          have HW5 := Lib.hid (B3.out.trans (B5.out.mono hz3))
          have hz5 := B5.out.size
          have c0 := (HB.out.below HW5.out hgl).cell 0
          simp at c0
          obtain ⟨q2, e2, -, -, -, -, -, hr2⟩ := item_range7 (own_below2 HO.out HW5.out) HZ.out
          injection e2 with e2
          injection e2 with e2
          subst e2
          have RZ := Lib.hid hr2
          clear hr2 HSTEP
          go_wp2_with (first | refine wpList_load_row 38 _ _ (by rfl) (.tmp 66) rfl (by rfl) RZ.out Try.underlying38 rfl (by kernel_rfl) ?_ | (at_builtin; refine wpList_app_hd3 rfl (.tmp 60) (.tmp 68) rfl z (g := w5.heap.size) rfl (by rfl) (by rfl) O5.out (by omega) hz5 ?_; intro A6 c6 w6 HO6 HC6))
          have O6 := Lib.hid (show w6.ownsRow w3.heap.size 38 7 (.slice A6 (m + 1) c6) (m + 1) (cellsBy encHd (outD x (S.take (j + 1)))) by rw [HE1.out]; exact HO6.out)
          have B6 := Lib.hid (B5.out.trans (HC6.out.to_below (fun q hq => (O5.out.lt q hq).1) hz5))
          clear HO6 HC6 O5 B5 RZ c0
          go_wp2
          go_roundw
          case rel => exact ⟨j + 1, m + 1, c6, A6, by go_num, by rw [HE2.out], by first | rfl | go_num, by omega, by omega, O6, B6⟩
          case measure => simp [intOf]; omega
        case false =>
          obtain ⟨z0, z1, z2, z3, z4, z5, z6⟩ := cells7 hr
          obtain ⟨y0, y1, y2⟩ := YW.out.three
          have hYw := YW.out.lt
          have gc0 := fun n os => cell_grown (n := n) (os := os) hgr0 c0
          have gz0 := fun n os => cell_grown (n := n) (os := os) hql z0
          have gz1 := fun n os => cell_grown (n := n) (os := os) hql z1
          have gz2 := fun n os => cell_grown (n := n) (os := os) hql z2
          have gz3 := fun n os => cell_grown (n := n) (os := os) hql z3
          have gz4 := fun n os => cell_grown (n := n) (os := os) hql z4
          have gz5 := fun n os => cell_grown (n := n) (os := os) hql z5
          have gz6 := fun n os => cell_grown (n := n) (os := os) hql z6
          have gy0 := fun n os => cell_grown (n := n) (os := os) hYw y0
          have gy1 := fun n os => cell_grown (n := n) (os := os) hYw y1
          have gy2 := fun n os => cell_grown (n := n) (os := os) hYw y2
          have p1 := fun n os => Calls.grown_of (key13_grown z (grow (wr.drewN n) os))
          have p3 := fun n os => Calls.grown_of (less_grown (keyH x) (keyH z) (grow (wr.drewN n) os))
          obtain ⟨v2, hv2⟩ : ∃ v, lessKy (keyH x) (keyH z) = v := ⟨_, rfl⟩
          rw [hv2] at p3 HSTEP
          unfold keyH at p3
          dsimp only at p3
          have hgr := Lib.hid (fun n os => below_grown13 (w := wr) (w' := grow (wr.drewN n) os) ⟨n, os, rfl⟩)
          clear z0 z1 z2 z3 z4 z5 z6 y0 y1 y2 hr hv2
          go_wp2_with fail
          clear c0
          go_quiet_grown (first | (go_at_call 22; with_reducible exact p1 _ _) | (go_at_call 48; with_reducible exact p3 _ _))
          have W5 := Lib.hid (hgr.out nq osq)
          clear hgr p1 p3 gc0 gz0 gz1 gz2 gz3 gz4 gz5 gz6 gy0 gy1 gy2
          generalize grow (wr.drewN nq) osq = w5 at *
          have B5 := Lib.hid (BW.out.trans (W5.out.mono hzr))
          have O5 := Lib.hid (own_chg OW.out (Chg.of_below (F := fun _ => False) W5.out) (fun _ _ hf => hf))
          clear W5 OW BW KW YW HWW
          have HW5 := Lib.hid (B3.out.trans (B5.out.mono hz3))
          have hz5 := B5.out.size
          cases v2
          case false =>
            obtain ⟨hE1, hE2⟩ := (HSTEP.out.2 (by first | rfl | trivial)).2 (by first | rfl | trivial)
            have HE1 := Lib.hid hE1
            have HE2 := Lib.hid hE2
            clear hE1 hE2 HSTEP
            have c0 := (HB.out.below HW5.out hgl).cell 0
            simp at c0
            obtain ⟨q2, e2, -, -, -, -, -, hr2⟩ := item_range7 (own_below2 HO.out HW5.out) HZ.out
            injection e2 with e2
            injection e2 with e2
            subst e2
            have RZ := Lib.hid hr2
            clear hr2
            go_wp2_with (first | refine wpList_load_row 38 _ _ (by rfl) (.tmp 66) rfl (by rfl) RZ.out Try.underlying38 rfl (by kernel_rfl) ?_ | (at_builtin; refine wpList_app_hd3 rfl (.tmp 60) (.tmp 68) rfl z (g := w5.heap.size) rfl (by rfl) (by rfl) O5.out (by omega) hz5 ?_; intro A6 c6 w6 HO6 HC6))
            have O6 := Lib.hid (show w6.ownsRow w3.heap.size 38 7 (.slice A6 (m + 1) c6) (m + 1) (cellsBy encHd (outD x (S.take (j + 1)))) by rw [HE1.out]; exact HO6.out)
            have B6 := Lib.hid (B5.out.trans (HC6.out.to_below (fun q hq => (O5.out.lt q hq).1) hz5))
            clear HO6 HC6 O5 B5 RZ c0
            go_wp2
            go_roundw
            case rel => exact ⟨j + 1, m + 1, c6, A6, by go_num, by rw [HE2.out], by first | rfl | go_num, by omega, by omega, O6, B6⟩
            case measure => simp [intOf]; omega
          case true =>
            obtain ⟨hE1, hE2⟩ := (HSTEP.out.2 (by first | rfl | trivial)).1 (by first | rfl | trivial)
            have HE1 := Lib.hid hE1
            have HE2 := Lib.hid hE2
            clear hE1 hE2 HSTEP
            have RX := Lib.hid (blk_range7 (K3.out.below B5.out hXl))
            have HML := Lib.hid (show m ≤ j by
              have h1 := own_lenH encHd_len (by omega) O5.out
              have h2 := insD_is x (S.take j)
              have h3 : doneD x (S.take j) = false := HD.out
              unfold doneD at h3
              have h4 : outD x (S.take j) = S.take j := by
                unfold outD
                rw [h2] at h3 ⊢
                split
                · rename_i h5
                  rw [if_pos h5] at h3
                  cases h3
                · rfl
              rw [h4, List.length_take] at h1
              omega)
            go_wp2_with (first
              | refine wpList_load_row 38 _ _ (by rfl) (.tmp 3) rfl (by rfl) RX.out Try.underlying38 rfl (by kernel_rfl) ?_
              | (at_builtin; refine wpList_app_hd3 rfl (.tmp 56) (.tmp 58) rfl x (g := w5.heap.size) rfl (by rfl) (by rfl) O5.out (by omega) hz5 ?_; intro A6 c6 w6 HO6 HC6; have B6 := Lib.hid (B5.out.trans (HC6.out.to_below (fun q hq => (O5.out.lt q hq).1) hz5)); have hz6 := B6.out.size; have HW6 := Lib.hid (B3.out.trans (B6.out.mono hz3)); have c0 := (HB.out.below HW6.out hgl).cell 0; simp at c0; obtain ⟨q2, e2, -, -, -, -, -, hr2⟩ := item_range7 (own_below2 HO.out HW6.out) HZ.out; injection e2 with e2; injection e2 with e2; subst e2; have RZ := Lib.hid hr2; clear hr2 HC6)
              | refine wpList_load_row 38 _ _ (by rfl) (.tmp 66) rfl (by rfl) RZ.out Try.underlying38 rfl (by kernel_rfl) ?_
              | (at_builtin; refine wpList_app_hd3 rfl (.tmp 60) (.tmp 68) rfl z (g := w6.heap.size) rfl (by rfl) (by rfl) HO6.out (by omega) hz6 ?_; intro A7 c7 w7 HO7 HC7))
            have O7 := Lib.hid (show w7.ownsRow w3.heap.size 38 7 (.slice A7 (m + 1 + 1) c7) (m + 1 + 1) (cellsBy encHd (outD x (S.take (j + 1)))) by rw [HE1.out]; exact HO7.out)
            have B7 := Lib.hid (B6.out.trans (HC7.out.to_below (fun q hq => (HO6.out.lt q hq).1) hz6))
            have hml := HML.out
            clear HO7 HC7 HO6 O5 B5 B6 RZ c0 RX HML
            go_wp2
            go_roundw
            case rel => exact ⟨j + 1, m + 1 + 1, c7, A7, by go_num, by rw [HE2.out], by first | rfl | go_num, by omega, by omega, O7, B7⟩
            case measure => simp [intOf]; omega
      · have hlt' : ¬ (j : Int) < (n : Int) := by omega
        have HTE := Lib.hid (show S.take j = S from List.take_of_length_le (by have := HSN.out; omega))
        rw [HTE.out] at OW HD
        obtain ⟨hO1, hO2⟩ := outD_end x S
        have f0 := (HB.out.below HWW.out hgl).frozen 0
        cases dn
        case true =>
          rw [hO1 HD.out, ← HT.out] at OW
          have HL := Lib.hid (RefQ.laid HRW.out HWW.out hz3 OW.out)
          clear hO1 hO2
          go_wp2
          refine bodyPost_end (results_none rfl _ _ _) rfl ?_
          rw [← HQ.out]
          exact ⟨rfl, HL.out⟩
        case false =>
          have HI2 := Lib.hid (hO2 HD.out)
          have RX := Lib.hid (blk_range7 KW.out)
          clear hO1 hO2 f0
          go_wp2_with (first
              | refine wpList_load_row 38 _ _ (by rfl) (.tmp 3) rfl (by rfl) RX.out Try.underlying38 rfl (by kernel_rfl) ?_
              | (at_builtin; refine wpList_app_hd3 rfl (.tmp 72) (.tmp 74) rfl x (g := wr.heap.size) rfl (by rfl) (by rfl) OW.out (by omega) hzr ?_; intro A6 c6 w6 HO6 HC6; have HW6 := Lib.hid (HWW.out.trans (HC6.out.to_below (fun q hq => Nat.le_trans hz3 (OW.out.lt q hq).1) (Nat.le_trans hz3 hzr))); have f0 := (HB.out.below HW6.out hgl).frozen 0; have c6' := (HB.out.below HW6.out hgl).cell 0; simp at c6'))
          have O6 := Lib.hid (show w6.ownsRow w3.heap.size 38 7 (.slice A6 (m + 1) c6) (m + 1) (cellsBy encHd (addH S x)) by rw [HT.out, ← HI2.out]; exact HO6.out)
          have HL := Lib.hid (RefQ.laid HRW.out HW6.out hz3 O6.out)
          refine bodyPost_end (results_none rfl _ _ _) rfl ?_
          rw [← HQ.out]
          exact ⟨rfl, HL.out⟩
  · rw [hf]
    have HI := Lib.hid hi
    have HG := Lib.hid hg
    have HKE := Lib.hid (getH_some hg).2
    have HAY := Lib.hid (HS.out y (List.mem_of_getElem? hi))
    have HAD := Lib.hid (addH_yes hg)
    have i_n : ¬ (i : Int) < 0 := by omega
    have i_p : (0 : Int) ≤ (i : Int) := by omega
    have i_t : ((i : Int)).toNat = i := by omega
    have c0 := (HB.out.below B3.out hgl).cell 0
    simp at c0
    have hg3 : g < w3.heap.size := (HB.out.below B3.out hgl).lt
    obtain ⟨q, rfl, -, hql, -, hnc, hcm, hr⟩ := item_range7 (own_below2 HO.out B3.out) hi
    unfold maxLen at hcm
    have hin : i < n := by
      have := (List.getElem?_eq_some_iff.1 hi).1
      have := HSN.out
      omega
    have i_u : (i : Int) < (n : Int) := by omega
    obtain ⟨z0, z1, z2, z3, z4, z5, z6⟩ := cells7 hr
    obtain ⟨x0, x1, x2, x3, x4, x5, x6⟩ := K3.out.sevenH
    have gc0 := fun n os => cell_grown (n := n) (os := os) hg3 c0
    have gz0 := fun n os => cell_grown (n := n) (os := os) hql z0
    have gz1 := fun n os => cell_grown (n := n) (os := os) hql z1
    have gz2 := fun n os => cell_grown (n := n) (os := os) hql z2
    have gz3 := fun n os => cell_grown (n := n) (os := os) hql z3
    have gz4 := fun n os => cell_grown (n := n) (os := os) hql z4
    have gz5 := fun n os => cell_grown (n := n) (os := os) hql z5
    have gz6 := fun n os => cell_grown (n := n) (os := os) hql z6
    have gx0 := fun n os => cell_grown (n := n) (os := os) hXl x0
    have gx1 := fun n os => cell_grown (n := n) (os := os) hXl x1
    have gx2 := fun n os => cell_grown (n := n) (os := os) hXl x2
    have gx3 := fun n os => cell_grown (n := n) (os := os) hXl x3
    have gx4 := fun n os => cell_grown (n := n) (os := os) hXl x4
    have gx5 := fun n os => cell_grown (n := n) (os := os) hXl x5
    have gx6 := fun n os => cell_grown (n := n) (os := os) hXl x6
    have p1 := fun n os => Calls.grown_of (refNewer_grown x y (grow (w3.drewN n) os) HX.out HAY.out)
    obtain ⟨d, hd⟩ : ∃ d, nw x y = d := ⟨_, rfl⟩
    rw [hd] at p1 HAD
    have hgr := Lib.hid (fun n os => below_grown13 (w := w3) (w' := grow (w3.drewN n) os) ⟨n, os, rfl⟩)
    clear z0 z1 z2 z3 z4 z5 z6 x0 x1 x2 x3 x4 x5 x6 hr hd hi hf hg c0 Y3
    go_wp2_with fail
    go_quiet_grown (first | (go_at_call 41; with_reducible exact p1 _ _))
    have W4 := Lib.hid (hgr.out nq osq)
    clear hgr p1 gc0 gz0 gz1 gz2 gz3 gz4 gz5 gz6 gx0 gx1 gx2 gx3 gx4 gx5 gx6
    generalize grow (w3.drewN nq) osq = w4 at *
    have B4 := Lib.hid (B3.out.trans (W4.out.mono B3.out.size))
    have K4 := Lib.hid (K3.out.below W4.out hXl)
    clear W4 B3 K3
    by_cases hd : 0 < d
    · have HT2 := Lib.hid (HAD.out.1 (by omega))
      have HST := Lib.hid (set_addH HSO.out HI.out HKE.out)
      have c0 := (HB.out.below B4.out hgl).cell 0
      simp at c0
      obtain ⟨x0, x1, x2, x3, x4, x5, x6⟩ := K4.out.sevenH
      have OD := Lib.hid (show w4.drew.ownsRow lo 38 7 (.slice (some ⟨q, 0, none⟩) n c) n (cellsBy encHd S) from own_drew7 (own_below2 HO.out B4.out))
      have BD := Lib.hid (B4.out.trans (⟨rfl, rfl, rfl, Nat.le_refl _, fun _ _ => rfl⟩ : Below w.heap.size w4 w4.drew))
      go_wp2_with fail
      go_still_tail 7, (by kernel_rfl)
      change wpList _ _ _ _ _ w4.drew
      go_wp2_with (refine wpList_over_hd x rfl (.tmp 32) (.tmp 31) rfl (by rfl) (by rfl) OD.out hin ?_; intro w6 HO6 HC6)
      refine bodyPost_ret (results_none rfl _ _ _) rfl ?_
      rw [← HQ.out]
      have hcq : Chg F w w6 := (Chg.of_below (F := F) BD.out).trans HC6.out (fun t ht => .inl ((HF.out t).2 (.inr (by rw [ht]; rfl))))
      have hng : ¬ g = q := fun e => own_ne_blk HO.out HB.out (by decide) (by rw [e]; rfl)
      refine ⟨rfl, F, ⟨some ⟨q, 0, none⟩, n, c, (HB.out.below BD.out hgl).chg HC6.out hng, HLO.out, ?_, HF.out⟩, hcq, fun t ht => .inl ht⟩
      rw [HT2.out, ← HST.out]
      exact HO6.out
    · have HT2 := Lib.hid (HAD.out.2 (by omega))
      go_wp2
      refine bodyPost_ret (results_none rfl _ _ _) rfl ?_
      rw [← HQ.out]
      exact ⟨rfl, by rw [HT2.out]; exact RefQ.same HRW.out B4.out⟩
end Go.Proofs.Ytnnkcgbnhjkahaa
