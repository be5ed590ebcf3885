/- The walk of the statement ElectStable. Conditions: what the words say. -/
import Derived.Test.YtjklbimneamcjaaEr
import Derived.Test.YtjklbimneamcjaaEx
import Derived.BigRegion
namespace Go.Proofs.Ytjklbimneamcjaa
open Go.RowKit
/-- A list of which the first ones are turned. -/
def mapTo {α : Type} (f : α → α) (L : List α) (j : Nat) : List α := (L.take j).map f ++ L.drop j
theorem mapTo_zero {α : Type} (f : α → α) (L : List α) : mapTo f L 0 = L := by simp [mapTo]
theorem mapTo_all {α : Type} (f : α → α) (L : List α) (j : Nat) (h : L.length ≤ j) : mapTo f L j = L.map f := by
  unfold mapTo
  rw [List.take_of_length_le h, List.drop_of_length_le h, List.append_nil]
theorem mapTo_at {α : Type} (f : α → α) (L : List α) (j : Nat) : (mapTo f L j)[j]? = L[j]? := by
  unfold mapTo
  by_cases hj : j ≤ L.length
  · rw [List.getElem?_append_right (by simp; omega)]
    simp
    congr 1
    omega
  · rw [List.getElem?_eq_none (by simp; omega), List.getElem?_eq_none (by omega)]
theorem mapTo_next {α : Type} (f : α → α) (L : List α) (j : Nat) (r : α) (hr : L[j]? = some r) : mapTo f L (j + 1) = (mapTo f L j).set j (f r) := by
  have hj := (List.getElem?_eq_some_iff.1 hr).1
  have er := (List.getElem?_eq_some_iff.1 hr).2
  unfold mapTo
  have hl : ((L.take j).map f).length = j := by simp; omega
  rw [List.take_succ_eq_append_getElem hj, er, List.map_append, List.append_assoc, List.set_append_right _ _ (by omega), hl, Nat.sub_self, show L.drop j = r :: L.drop (j + 1) by rw [List.drop_eq_getElem_cons hj, er]]
  simp
/-- It takes these two. -/
def claimC (d b : Int) (c : Cd) : Cd := ⟨c.id, c.prio, d, b⟩
theorem claim_keys (d b : Int) (L : List Cd) : (L.map (claimC d b)).map keyC = L.map keyC := by
  rw [List.map_map]
  rfl
theorem claim_stands {L : List Cd} (ha : ApartC L) {x y : Cd} (hx : x ∈ L) (hy : y ∈ L) (hpx : 0 < x.prio) (hpy : 0 < y.prio) (hne : x.id ≠ y.id) {me : Int} (hme : memC L me) : elecC (L.map (claimC x.id y.id)) me = (x.id, y.id) := by
  rw [elecC_of ha (claim_keys x.id y.id L) (d := fun _ => x.id) (b := fun _ => y.id) (fun c hc => by
    obtain ⟨c', _, rfl⟩ := List.mem_map.1 hc
    exact ⟨rfl, rfl⟩) hme]
  exact el_stands ha.best x.id y.id ⟨x, hx, rfl, hpx⟩ (Or.inr ⟨⟨y, hy, rfl, hpy⟩, hne.symm⟩) (fun _ _ => ⟨rfl, rfl⟩) me ⟨rfl, rfl⟩

set_option maxRecDepth 8000 in
set_option maxHeartbeats 8000000 in
theorem stable_walk (A : Option Addr) (n c : Nat) (L : List Cd) (an bn : Nat) (w : World) (hs : Cds w w.heap.size A n L) (hn : n ≤ maxLen) (hza : an ≤ 255) (hzb : bn ≤ 255) :
    Calls Try.prog 5 #[.slice A n c, .agg #[.int .u8 (an : Int), .int .u8 (bn : Int)]] w fun e w' => e = .returned (.bool true) ∧ Below w.heap.size w w' := by
  have HP := Lib.hid hs
  have HLEN := Lib.hid hs.1
  have HN := Lib.hid hn
  have T0 := Lib.hid (Blk.new w 37 #[.int .u8 (an : Int), .int .u8 (bn : Int)])
  have B0 := Lib.hid ((Below.refl w.heap.size w).alloc (Nat.le_refl _) (.cells #[.int .u8 (an : Int), .int .u8 (bn : Int)] 37))
  clear hs hn
  go_enter Try.func5, Try.ntmps5
  go_wp2_with fail
  generalize w.alloc (.cells #[.int .u8 (an : Int), .int .u8 (bn : Int)] 37) = w0 at *
  have ht0 := T0.out.lt
  refine (wakes_any w0).mono ?_
  rintro e1 w1 ⟨rfl, hb1⟩
  have B1 := Lib.hid (B0.out.trans (hb1.mono (Nat.le_of_lt ht0)))
  have T1 := Lib.hid (T0.out.below hb1 ht0)
  have P1 := Lib.hid ((HP.out.below B1.out).more B1.out.size)
  have ht1 := T1.out.lt
  clear hb1 B0 T0 ht0
  by_cases hn : 30 < n
  · have d1 : decide ((30 : Int) < (n : Int)) = true := by simp; omega
    go_wp2
    go_ret
    exact ⟨rfl, B1.out⟩
  have d1 : decide ((30 : Int) < (n : Int)) = false := by simp; omega
  by_cases hn2 : n < 2
  · have d2 : decide ((n : Int) < 2) = true := by simp; omega
    go_wp2
    go_ret
    exact ⟨rfl, B1.out⟩
  have d2 : decide ((n : Int) < 2) = false := by simp; omega
  go_wp2_with fail
  refine (apart_any P1.out (Nat.le_refl _) HN.out).mono ?_
  rintro e2 w2 ⟨⟨r, rfl, hr⟩, hb2⟩
  have B2 := Lib.hid (B1.out.trans (hb2.mono B1.out.size))
  have T2 := Lib.hid (T1.out.below hb2 ht1)
  have P2 := Lib.hid ((P1.out.below hb2).more hb2.size)
  have ht2 := T2.out.lt
  clear hb2 P1 B1 T1 ht1
  cases r
  · clear hr
    go_wp2
    go_ret
    exact ⟨rfl, B2.out⟩
  have HAP := Lib.hid (hr.1 rfl)
  clear hr
  have hn4 : n ≤ 1048576 := by omega
  have hnp : (0 : Int) < (n : Int) := by omega
  obtain ⟨ka, hka⟩ : ∃ k : Nat, (an : Int) % (n : Int) = (k : Int) := ⟨((an : Int) % (n : Int)).toNat, by have := Int.emod_nonneg (an : Int) (show (n : Int) ≠ 0 by omega); omega⟩
  obtain ⟨kb, hkb⟩ : ∃ k : Nat, (bn : Int) % (n : Int) = (k : Int) := ⟨((bn : Int) % (n : Int)).toNat, by have := Int.emod_nonneg (bn : Int) (show (n : Int) ≠ 0 by omega); omega⟩
  have hkan : (ka : Int) < (n : Int) := by rw [← hka]; exact Int.emod_lt_of_pos _ hnp
  have hkbn : (kb : Int) < (n : Int) := by rw [← hkb]; exact Int.emod_lt_of_pos _ hnp
  have hka' : ka < n := by omega
  have hkb' : kb < n := by omega
  obtain ⟨b, o, x, rfl, hbb, hx, hat⟩ := Arr.at P2.out hka'
  obtain ⟨b', o', y, e1, _, hy, hat2⟩ := Arr.at P2.out hkb'
  injection e1 with e1
  injection e1 with e1 e2
  subst e1 e2
  have HX := Lib.hid hx
  have HY := Lib.hid hy
  obtain ⟨x0, x1, x2, x3⟩ := hat
  obtain ⟨y0, y1, y2, y3⟩ := hat2
  obtain ⟨t0, t1⟩ := T2.out.two
  clear hx hy
  go_upto_region 5 with fail
  go_cut [5, 6] (fun s5 s6 wx => s5 = .int .i64 (ka : Int) ∧ s6 = .int .i64 (kb : Int) ∧ ∃ m, wx = w2.drewN m)
  case first =>
    go_quiet (fail)
    go_wp2_with fail
    go_meet
    exact ⟨by rw [hka], by rw [hkb], _, rfl⟩
  case rest =>
    obtain ⟨rfl, rfl, mm, rfl⟩ := hcut
    generalize hw3 : w2.drewN mm = w3 at *
    have B3 := Lib.hid (show Below w.heap.size w w3 by rw [← hw3]; exact below_drewN B2.out mm)
    have P3 := Lib.hid (show Cds w3 w3.heap.size (some ⟨b, o, none⟩) n L by rw [← hw3]; exact P2.out)
    have x1' : w3.cell? ⟨b, o + ka * 4 + 1, none⟩ = some (.int .i64 x.prio) := by rw [← hw3]; exact x1
    have y1' : w3.cell? ⟨b, o + kb * 4 + 1, none⟩ = some (.int .i64 y.prio) := by rw [← hw3]; exact y1
    clear x0 x1 x2 x3 y0 y1 y2 y3 t0 t1 T2 ht2 P2 B2 hka hkb hw3 hza hzb
    by_cases hab : ka = kb
    · have dab : ((ka : Int) == (kb : Int)) = true := by simp [hab]
      go_wp2
      go_ret
      exact ⟨rfl, B3.out⟩
    have dab : ((ka : Int) == (kb : Int)) = false := by simp; omega
    by_cases hpx : 0 < x.prio
    · have dpx : decide (x.prio ≤ 0) = false := by simp; omega
      by_cases hpy : 0 < y.prio
      · have dpy : decide (y.prio ≤ 0) = false := by simp; omega
        have HPX := Lib.hid hpx
        have HPY := Lib.hid hpy
        have HXY := Lib.hid (show x.id ≠ y.id from fun e => hab (HAP.out.at_inj HX.out HY.out e))
        have HXM := Lib.hid (List.mem_of_getElem? HX.out)
        have HYM := Lib.hid (List.mem_of_getElem? HY.out)
        clear hpx hpy hab
        have BE := Lib.hid ((Below.refl w3.heap.size w3).alloc (Nat.le_refl _) (.cells #[] 33))
        have OE := Lib.hid (own_empty w3)
        have PE := Lib.hid (P3.out.below BE.out)
        have hse : w3.heap.size ≤ (w3.alloc (.cells #[] 33)).heap.size := by simp
        go_upto_region 9 with (at_builtin; refine wpList_append_any rfl (.tmp 59) (.tmp 60) 22 33 (.agg #[.int .i64 0, .int .i64 0, .int .i64 0, .int .i64 0]) 4 32 Try.underlying22 Try.infoCand rfl (by decide) (by decide) rfl w3.heap.size (.slice (some ⟨w3.heap.size, 0, none⟩) 0 0) 0 [] (by rfl) OE.out (some ⟨b, o, none⟩) n c (cellsBy encCd L) (by rfl) (by rw [by_length encCd_len, P3.out.1]) PE.out.cells.1 PE.out.cells.2 (by_ones encCd_ones L) (by omega) hse ?_; intro v4 w4 ho4 hg4; obtain ⟨A4, c4, rfl⟩ := own_slice ho4.out)
        rw [Nat.zero_add, List.nil_append] at ho4
        have B4 := Lib.hid (BE.out.trans (own_keeps7 OE.out hg4.out hse))
        have hw3 := B3.out.size
        have O4 := Lib.hid ho4.out
        clear hg4 OE PE BE hse ho4 x1' y1'
        go_wp2_with fail
        go_loopw [64] (fun i wr => ∃ j : Nat, j ≤ n ∧ i = .int .i64 j ∧ Hid (wr.ownsRow w3.heap.size 33 4 (.slice A4 n c4) n (cellsBy encCd (mapTo (claimC x.id y.id) L j))) ∧ Hid (Below w3.heap.size w3 wr)) (fun i _ => n - (intOf i).toNat)
        case atStart => exact ⟨0, Nat.zero_le _, rfl, Lib.hid (by rw [mapTo_zero]; exact O4.out), B4⟩
        case round =>
          clear O4 B4
          obtain ⟨j, hj, rfl, HO, HB⟩ := hrel
          by_cases hlt : j < n
          · have hlt' : (j : Int) < n := by omega
            obtain ⟨z, hz⟩ : ∃ z, L[j]? = some z := ⟨L[j]'(by have := HLEN.out; omega), List.getElem?_eq_getElem (by have := HLEN.out; omega)⟩
            have HZ := Lib.hid hz
            have hzz : (mapTo (claimC x.id y.id) L j)[j]? = some z := by rw [mapTo_at]; exact hz
            obtain ⟨g, rfl, hg3, hgl, hnc, hcm, z0, z1, z2, z3⟩ := own_cd HO.out hzz
            unfold maxLen at hcm
            have hcn : (n : Int) ≤ c4 := by omega
            obtain ⟨b', o', x', e1, hbb3, hx', hat⟩ := Arr.at (P3.out.below HB.out) hka'
            obtain ⟨b'', o'', y', e2, _, hy', hat2⟩ := Arr.at (P3.out.below HB.out) hkb'
            injection e1 with e1
            injection e1 with e1 e1'
            subst e1 e1'
            injection e2 with e2
            injection e2 with e2 e2'
            subst e2 e2'
            obtain rfl : x = x' := by rw [HX.out] at hx'; injection hx'
            obtain rfl : y = y' := by rw [HY.out] at hy'; injection hy'
            obtain ⟨x0, -, -, -⟩ := hat
            obtain ⟨y0, -, -, -⟩ := hat2
            have f2 := own_frozen HO.out (j * 4 + 2)
            have f3 := own_frozen HO.out (j * 4 + 3)
            have O5 := own_put1 (own_put1 HO.out hzz ⟨z.id, z.prio, x.id, z.bdr⟩ 2 (.int .i64 x.id) (by omega) rfl) (x := ⟨z.id, z.prio, x.id, z.bdr⟩) (by rw [List.getElem?_set, if_pos rfl, if_pos (List.getElem?_eq_some_iff.1 hzz).1]) ⟨z.id, z.prio, x.id, y.id⟩ 3 (.int .i64 y.id) (by omega) rfl
            rw [List.set_set, show ((mapTo (claimC x.id y.id) L j).set j ⟨z.id, z.prio, x.id, y.id⟩) = mapTo (claimC x.id y.id) L (j + 1) from (mapTo_next _ _ _ _ hz).symm] at O5
            have O5h := Lib.hid O5
            have B5 := Lib.hid ((HB.out.setCell (p := ⟨g, j * 4 + 2, none⟩) hg3 (.int .i64 x.id)).setCell (p := ⟨g, j * 4 + 3, none⟩) hg3 (.int .i64 y.id))
            have hbg : b ≠ g := by omega
            clear hx' hy' hz hzz O5
            go_upto_region 12 with fail
            go_region
            go_wp2_with fail
            go_roundw
            case rel => exact ⟨j + 1, by omega, by go_num, Lib.hid O5h.out, Lib.hid (below_drewN B5.out 1)⟩
            case measure => simp [intOf]; omega
          · have hjn : j = n := by omega
            have HO1 := Lib.hid (show wr.ownsRow w3.heap.size 33 4 (.slice A4 n c4) n (cellsBy encCd (L.map (claimC x.id y.id))) by
              have := HO.out
              rwa [mapTo_all _ _ _ (by have := HLEN.out; omega)] at this)
            clear HO hjn
            have HAC := Lib.hid (HAP.out.keys (claim_keys x.id y.id L))
            have HST := Lib.hid (fun me (h : memC L me) => claim_stands HAP.out HXM.out HYM.out HPX.out HPY.out HXY.out h)
            generalize hM : L.map (claimC x.id y.id) = M at *
            have HME := Lib.hid hM
            clear hM
            have hml : M.length = n := own_len encCd_len (by omega) HO1.out
            have HML := Lib.hid hml
            clear hml
            go_wp2_with fail
            clear hlt
            go_loopw [88] (fun i wx => ∃ m : Nat, m ≤ n ∧ i = .int .i64 m ∧ Hid (wx.ownsRow w3.heap.size 33 4 (.slice A4 n c4) n (cellsBy encCd M)) ∧ Hid (Below w3.heap.size w3 wx)) (fun i _ => n - (intOf i).toNat)
            case atStart => exact ⟨0, Nat.zero_le _, rfl, HO1, HB⟩
            case round =>
              clear HO1 HB
              obtain ⟨m, hm, rfl, HO, HB⟩ := hrel
              by_cases hlt : m < n
              · have hlt' : (m : Int) < n := by omega
                have hsr := HB.out.size
                obtain ⟨z, hz⟩ : ∃ z, M[m]? = some z := ⟨M[m]'(by have := HML.out; omega), List.getElem?_eq_getElem (by have := HML.out; omega)⟩
                obtain ⟨g, rfl, hg3, hgl, hnc, hcm, z0, z1, z2, z3⟩ := own_cd HO.out hz
                unfold maxLen at hcm
                have HMEM := Lib.hid (show memC L z.id by
                  have hzm := List.mem_of_getElem? hz
                  rw [← HME.out] at hzm
                  obtain ⟨z', h1, h2⟩ := List.mem_map.1 hzm
                  exact ⟨z', h1, by rw [← h2]; rfl⟩)
                clear hz
                have KN := Lib.hid (Blk.new wr 33 #[.int .i64 z.id, .int .i64 z.prio, .int .i64 z.dr, .int .i64 z.bdr])
                have BN := Lib.hid (HB.out.alloc hsr (.cells #[.int .i64 z.id, .int .i64 z.prio, .int .i64 z.dr, .int .i64 z.bdr] 33))
                have ON := Lib.hid (HO.out.alloc (.cells #[.int .i64 z.id, .int .i64 z.prio, .int .i64 z.dr, .int .i64 z.bdr] 33))
                go_upto_region 17 with fail
                generalize wr.alloc (.cells #[.int .i64 z.id, .int .i64 z.prio, .int .i64 z.dr, .int .i64 z.bdr] 33) = wn at *
                have hnl := KN.out.lt
                clear z0 z1 z2 z3 hgl
                obtain ⟨k0, k1, k2, k3⟩ := KN.out.four
                go_wp2_with fail
                refine (elect_any z.id (own_cds ON.out) (Nat.le_refl _) HAC.out hn4).mono ?_
                rintro e6 w6 ⟨rfl, hb6⟩
                rw [HST.out z.id HMEM.out]
                dsimp only
                have O6 := Lib.hid (own_below2 ON.out hb6)
                have B6 := Lib.hid (BN.out.trans (hb6.mono BN.out.size))
                clear hb6 k0 k1 k2 k3
                obtain ⟨b', o', x', e1, hbb3, hx', hat⟩ := Arr.at (P3.out.below B6.out) hka'
                obtain ⟨b'', o'', y', e2, _, hy', hat2⟩ := Arr.at (P3.out.below B6.out) hkb'
                injection e1 with e1
                injection e1 with e1 e1'
                subst e1 e1'
                injection e2 with e2
                injection e2 with e2 e2'
                subst e2 e2'
                obtain rfl : x = x' := by rw [HX.out] at hx'; injection hx'
                obtain rfl : y = y' := by rw [HY.out] at hy'; injection hy'
                obtain ⟨x0, -, -, -⟩ := hat
                obtain ⟨y0, -, -, -⟩ := hat2
                have q1 : (x.id != x.id) = false := by simp
                have q2 : (y.id != y.id) = false := by simp
                clear hx' hy'
                go_wp2_with fail
                go_roundw
                case rel => exact ⟨m + 1, by omega, by go_num, O6, B6⟩
                case measure => simp [intOf]; omega
              · have hn0 : 0 < n := by omega
                obtain ⟨z, hz⟩ : ∃ z, M[0]? = some z := ⟨M[0]'(by have := HML.out; omega), List.getElem?_eq_getElem (by have := HML.out; omega)⟩
                obtain ⟨z1, hz1⟩ : ∃ z, M[1]? = some z := ⟨M[1]'(by have := HML.out; omega), List.getElem?_eq_getElem (by have := HML.out; omega)⟩
                have HZ := Lib.hid hz
                obtain ⟨g, rfl, hg3, hgl, hnc, hcm, y0, y1, y2, y3⟩ := own_cd HO.out hz
                unfold maxLen at hcm
                have f2 := own_frozen HO.out 2
                have O5 := own_put1 HO.out hz ⟨z.id, z.prio, 0, z.bdr⟩ 2 (.int .i64 0) (by omega) rfl
                rw [Nat.zero_mul, Nat.zero_add] at O5
                have O5h := Lib.hid O5
                have B5 := Lib.hid (HB.out.setCell (p := ⟨g, 2, none⟩) hg3 (.int .i64 0))
                have HAS := Lib.hid (HAC.out.keys (set_keys (c' := ⟨z.id, z.prio, 0, z.bdr⟩) hz rfl))
                have HNO := Lib.hid (show ¬ SameTwo (M.set 0 ⟨z.id, z.prio, 0, z.bdr⟩) from fun h => by
                  have h1 : (M.set 0 ⟨z.id, z.prio, 0, z.bdr⟩)[1]? = some z1 := by rw [List.getElem?_set, if_neg (by omega)]; exact hz1
                  have h0 : (M.set 0 ⟨z.id, z.prio, 0, z.bdr⟩)[0]? = some ⟨z.id, z.prio, 0, z.bdr⟩ := by rw [List.getElem?_set, if_pos rfl, if_pos (by have := HML.out; omega)]
                  have h2 := (h z1 (List.mem_of_getElem? h1) _ h0).1
                  have h3 := List.mem_of_getElem? hz1
                  rw [← HME.out] at h3
                  obtain ⟨z', _, rfl⟩ := List.mem_map.1 h3
                  have h4 : x.id = 0 := h2
                  have h5 := HAP.out.2 x HXM.out
                  omega)
                simp only [Nat.zero_mul, Nat.zero_add] at y0 y1 y2 y3
                clear hz hz1 O5
                go_upto_region 22 with fail
                generalize wr.setCell ⟨g, 2, none⟩ (.int .i64 0) = w5 at *
                clear y0 y1 y2 y3 f2
                go_wp2_with fail
                refine (stable_any (own_cds O5h.out) (Nat.le_refl _) HAS.out hn4).mono ?_
                rintro e6 w6 ⟨⟨r, rfl, hr⟩, hb6⟩
                have B6 := Lib.hid (B3.out.trans ((B5.out.trans (hb6.mono B5.out.size)).mono hw3))
                clear hb6
                cases r
                · clear hr
                  go_wp2
                  go_ret
                  exact ⟨rfl, B6.out⟩
                · exact absurd (hr.1 rfl).1 HNO.out
      · have dpy : decide (y.prio ≤ 0) = true := by simp; omega
        clear hpx hpy hab
        go_wp2
        go_ret
        exact ⟨rfl, B3.out⟩
    · have dpx : decide (x.prio ≤ 0) = true := by simp; omega
      clear hpx hab
      go_wp2
      go_ret
      exact ⟨rfl, B3.out⟩

end Go.Proofs.Ytjklbimneamcjaa
