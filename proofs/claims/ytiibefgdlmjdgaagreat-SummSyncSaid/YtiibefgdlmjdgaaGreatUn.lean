/- The library's Compact of a row of keys. Conditions: at most 1000 keys. -/
import Derived.Test.YtiibefgdlmjdgaaGreatUm
namespace Go.Proofs.YtiibefgdlmjdgaaGreat
open Go.RowKit Go.Lib Go.Sort Go.Deep

instance : Inhabited Ky := ⟨⟨0, 0, 0⟩⟩
/-- A row of keys without those that stand behind the same. -/
def dedupK (L : List Ky) : List Ky := compactUpTo L.toArray L.length
theorem toList_get (dk : Array Ky) (j : Nat) (h : j < dk.size) : dk.toList[j]? = some dk[j]! := by
  rw [Array.getElem?_toList, getElem!_pos dk j h]
  simp [h]
theorem dedup_short {L : List Ky} (h : ∀ j, j < L.length → keeps L.toArray j = true) : dedupK L = L := by
  unfold dedupK
  rw [compactUpTo_all _ _ h]
  have := range_map_get L.toArray
  simpa using this
theorem take_of_inv {d dk : Array Ky} {m k : Nat} (h : CompInv d m k dk) (hm : k ≤ dk.size) : dk.toList.take k = compactUpTo d m := by
  refine List.ext_getElem? fun j => ?_
  by_cases hj : j < k
  · rw [List.getElem?_take_of_lt hj, toList_get dk j (by omega), h.low j hj]
  · rw [List.getElem?_eq_none (by rw [List.length_take]; omega), List.getElem?_eq_none (by rw [h.len]; omega)]
theorem kyCells_take (M : List Ky) (m : Nat) : (kyCells M).take (m * 3) = kyCells (M.take m) := by
  induction M generalizing m with
  | nil => simp [kyCells]
  | cons x M ih =>
    cases m with
    | zero => simp [kyCells]
    | succ m =>
      rw [kyCells_cons, List.take_succ_cons, kyCells_cons, ← ih m, show (m + 1) * 3 = m * 3 + 1 + 1 + 1 by omega]
      simp [List.take_succ_cons]
theorem own_frozenH {w : World} {base n c size g : Nat} {t : TypeId} {xs : List Value} (h : w.ownsRow base t size (.slice (some ⟨g, 0, none⟩) n c) n xs) (i : Nat) : w.frozen? ⟨g, i, none⟩ = false := by
  rcases h.2 with ⟨hv, _⟩ | ⟨g', cap, cur, hv, hb, hg, h1, h2, h3, h4⟩
  · cases hv
  · cases hv
    have hB : Blk w g t cur := hg
    exact hB.frozen i
set_option maxRecDepth 8000 in
set_option maxHeartbeats 8000000 in
theorem compact_any {w : World} {base n c : Nat} {A : Option Addr} {L : List Ky} (ho : w.ownsRow base 48 3 (.slice A n c) n (kyCells L)) (hn : n ≤ 1000) :
    Calls Tryz.prog 40 #[.slice A n c] w fun e w' => ∃ m, e = .returned (.slice A m c) ∧ w'.ownsRow base 48 3 (.slice A m c) m (kyCells (dedupK L)) ∧ Chg (fun q => (Value.slice A n c).ownBlock = some q) w w' := by
  have hl := ho.1
  rw [kyCells_length] at hl
  have hlL : L.length = n := by omega
  generalize hQ : (fun (e : Ending) (w' : World) => ∃ m, e = .returned (.slice A m c) ∧ w'.ownsRow base 48 3 (.slice A m c) m (kyCells (dedupK L)) ∧ Chg (fun q => (Value.slice A n c).ownBlock = some q) w w') = Q
  have HQ := Lib.hid hQ
  have HO := Lib.hid ho
  have HL := Lib.hid hlL
  clear hQ hl hlL
  by_cases h2 : n < 2
  · have h2' : (n : Int) < 2 := by omega
    clear ho
    go_enter Tryz.func40, Tryz.ntmps40
    go_wp2
    show Q (.returned (.slice A n c)) w
    rw [← HQ.out]
    refine ⟨n, rfl, ?_, Chg.refl _ _⟩
    rw [dedup_short (fun j hj => keeps_lt_one _ j (by have := HL.out; omega))]
    exact HO.out
  · have h2' : ¬ (n : Int) < 2 := by omega
    obtain ⟨g, hA, hbg, hgl, hnc, hcm, -⟩ := own_kyH ho (j := 0) (k := L[0]'(by have := HL.out; omega)) (List.getElem?_eq_getElem _)
    subst hA
    clear ho
    unfold maxLen at hcm
    obtain ⟨d, hd⟩ : ∃ d, d = L.toArray := ⟨_, rfl⟩
    have HD := Lib.hid hd
    have hdz : d.size = n := by rw [hd, List.size_toArray, HL.out]
    clear hd
    have HDZ := Lib.hid hdz
    clear hdz
    go_enter Tryz.func40, Tryz.ntmps40
    go_wp2_with fail
    go_loopw [3] (fun s3 wr => ∃ (k q : Nat), s3 = .int .i64 k ∧ 1 ≤ k ∧ k ≤ n ∧ Hid (∀ j, j < k → keeps d j = true) ∧ wr = w.drewN q) (fun s3 _ => n - (intOf s3).toNat)
    case atStart => exact ⟨1, 0, rfl, Nat.le_refl _, by omega, Lib.hid (keeps_lt_one d), rfl⟩
    case round =>
      obtain ⟨k, q, rfl, hk1, hkn, HK, rfl⟩ := hrel
      by_cases hlt : k < n
      · have hlt' : (k : Int) < (n : Int) := by omega
        obtain ⟨kp, hkp⟩ : ∃ kp, kp = k - 1 := ⟨_, rfl⟩
        have e1 : (k : Int) - 1 = (kp : Int) := by omega
        have w_kp : IntKind.i64.wrap (kp : Int) = (kp : Int) := by rw [IntKind.wrap_i64]; omega
        have hk2 : kp + 1 = k := by omega
        obtain ⟨x, hx⟩ : ∃ x, d[k]! = x := ⟨_, rfl⟩
        obtain ⟨y, hy⟩ : ∃ y, d[k - 1]! = y := ⟨_, rfl⟩
        have HO2 := Lib.hid (show (w.drewN q).ownsRow base 48 3 (.slice (some ⟨g, 0, none⟩) n c) n (kyCells L) from HO.out)
        have hg2 : g < (w.drewN q).heap.size := hgl
        have hLx : L[k]? = some x := by rw [← hx, HD.out]; have := toList_get L.toArray k (by rw [List.size_toArray, HL.out]; exact hlt); simpa using this
        have hLy : L[kp]? = some y := by rw [← hy, HD.out, ← hkp]; have := toList_get L.toArray kp (by rw [List.size_toArray, HL.out]; omega); simpa using this
        obtain ⟨_, e, -, -, -, -, x0, x1, x2⟩ := own_kyH HO2.out hLx
        injection e with e
        injection e with e
        subst e
        obtain ⟨_, e, -, -, -, -, y0, y1, y2⟩ := own_kyH HO2.out hLy
        injection e with e
        injection e with e
        subst e
        have HXY := Lib.hid (show d[k]! = x ∧ d[k - 1]! = y from ⟨hx, hy⟩)
        have C1 := Lib.hid (⟨rfl, rfl, rfl, Nat.le_refl _, fun _ _ _ => rfl⟩ : Chg (fun q => q = g) w (w.drewN q))
        have hkz : (0 : Int) ≤ (k : Int) := by omega
        clear hx hy hLx hLy hkp hk2
        have eK := fun W => equalKy x y W
        have HWQ := Lib.hid (show ∃ q1, w.drewN q = w.drewN q1 from ⟨q, rfl⟩)
        generalize hwq : w.drewN q = wq at *
        clear hwq
        by_cases hxy : x = y
        · have hs : sameKy x y = true := (sameKy_iff _ _).2 hxy
          rw [hs] at eK
          go_wp2_with fail
          go_quiet (fail)
          have OQ := Lib.hid (show (wq.drewN nq).ownsRow base 48 3 (.slice (some ⟨g, 0, none⟩) n c) n (kyCells d.toList) by rw [HD.out]; exact HO2.out)
          have CQ := Lib.hid (show Chg (fun q => q = g) w (wq.drewN nq) from C1.out.trans (⟨rfl, rfl, rfl, Nat.le_refl _, fun _ _ _ => rfl⟩ : Chg (fun q => q = g) wq (wq.drewN nq)) (fun _ h => .inl h))
          have IQ := Lib.hid (CompInv.start HK.out (keeps_neg (by omega) (by rw [HXY.out.1, HXY.out.2, hxy])))
          clear hxy hs eK x0 x1 x2 y0 y1 y2 HXY HO2 C1 HK
          generalize wq.drewN nq = wb at *
          clear nq
          have hck : ¬ c = k := by omega
          obtain ⟨u, hu⟩ : ∃ u, n - k = u := ⟨_, rfl⟩
          have hu1 : k + u ≤ n := by omega
          have hu2 : n ≤ k + u := by omega
          go_wp2_with fail
          go_loopw [3, 5] (fun s3 s5 wi => ∃ (kk k2 : Nat) (dk : Array Ky), s3 = .int .i64 kk ∧ s5 = .int .i64 k2 ∧ 1 ≤ k2 ∧ k + k2 ≤ n ∧ Hid (CompInv d (k + k2) kk dk) ∧ Hid (wi.ownsRow base 48 3 (.slice (some ⟨g, 0, none⟩) n c) n (kyCells dk.toList)) ∧ Hid (Chg (fun q => q = g) w wi)) (fun _ s5 _ => n - (intOf s5).toNat)
          case atStart => exact ⟨k, 1, d, rfl, rfl, Nat.le_refl _, by omega, IQ, OQ, CQ⟩
          case round =>
            clear IQ OQ CQ
            obtain ⟨kk, k2, dk, rfl, rfl, h1, hle, IJ, OJ, CJ⟩ := hrel
            have hkk := IJ.out.lt
            have hds : dk.size = n := by rw [IJ.out.size, HDZ.out]
            by_cases hlt2 : k2 < u
            · have hlt2' : (k2 : Int) < (u : Int) := by omega
              obtain ⟨p, hp⟩ : ∃ p, p = k2 - 1 := ⟨_, rfl⟩
              have e2 : (k2 : Int) - 1 = (p : Int) := by omega
              have w_p : IntKind.i64.wrap (p : Int) = (p : Int) := by rw [IntKind.wrap_i64]; omega
              have hp1 : p + 1 = k2 := by omega
              clear hp
              obtain ⟨x, hx⟩ : ∃ x, d[k + k2]! = x := ⟨_, rfl⟩
              obtain ⟨y, hy⟩ : ∃ y, d[k + k2 - 1]! = y := ⟨_, rfl⟩
              have hX : dk.toList[k + k2]? = some x := by rw [toList_get dk _ (by omega), IJ.out.high _ (by omega), hx]
              have hY : dk.toList[k + p]? = some y := by rw [toList_get dk _ (by omega), IJ.out.high _ (by omega), ← hy, show k + p = k + k2 - 1 by omega]
              obtain ⟨_, e, -, -, -, -, x0, x1, x2⟩ := own_kyH OJ.out hX
              injection e with e
              injection e with e
              subst e
              obtain ⟨_, e, -, hgw, -, -, y0, y1, y2⟩ := own_kyH OJ.out hY
              injection e with e
              injection e with e
              subst e
              rw [Nat.add_mul] at x0 x1 x2 y0 y1 y2
              have HXY := Lib.hid (show d[k + k2]! = x ∧ d[k + k2 - 1]! = y from ⟨hx, hy⟩)
              have eK := fun W => equalKy x y W
              have hkz2 : (0 : Int) ≤ (k2 : Int) := by omega
              have hkkz : (0 : Int) ≤ (kk : Int) := by omega
              have hkkn : (kk : Int) < (n : Int) := by omega
              clear hx hy hX hY hp1
              by_cases hxy : x = y
              · have hs : sameKy x y = true := (sameKy_iff _ _).2 hxy
                rw [hs] at eK
                have IZ := Lib.hid (IJ.out.skip (keeps_neg (by omega) (by rw [HXY.out.1, HXY.out.2, hxy])))
                clear hxy hs IJ
                go_wp2_with fail
                go_quiet (fail)
                have OZ := Lib.hid (show (wr.drewN nq).ownsRow base 48 3 (.slice (some ⟨g, 0, none⟩) n c) n (kyCells dk.toList) from OJ.out)
                have CZ := Lib.hid (show Chg (fun q => q = g) w (wr.drewN nq) from CJ.out.trans (⟨rfl, rfl, rfl, Nat.le_refl _, fun _ _ _ => rfl⟩ : Chg (fun q => q = g) wr (wr.drewN nq)) (fun _ h => .inl h))
                clear eK x0 x1 x2 y0 y1 y2 OJ CJ hgw
                generalize wr.drewN nq = wz at *
                clear nq
                go_wp2
                go_roundw
                case rel => exact ⟨kk, k2 + 1, dk, rfl, by go_num, by omega, by omega, IZ, OZ, CZ⟩
                case measure => simp [intOf]; omega
              · have hs : sameKy x y = false := by
                  cases h : sameKy x y
                  · rfl
                  · exact absurd ((sameKy_iff _ _).1 h) hxy
                rw [hs] at eK
                have IZ := Lib.hid (IJ.out.keep (by rw [HDZ.out]; omega) (keeps_pos (by rw [HXY.out.1, HXY.out.2]; exact hxy)))
                rw [HXY.out.1] at IZ
                clear hxy hs IJ
                go_wp2_with fail
                go_quiet (fail)
                have OQ := Lib.hid (show (wr.drewN nq).ownsRow base 48 3 (.slice (some ⟨g, 0, none⟩) n c) n (kyCells dk.toList) from OJ.out)
                have CQ := Lib.hid (show Chg (fun q => q = g) w (wr.drewN nq) from CJ.out.trans (⟨rfl, rfl, rfl, Nat.le_refl _, fun _ _ _ => rfl⟩ : Chg (fun q => q = g) wr (wr.drewN nq)) (fun _ h => .inl h))
                have x0' : (wr.drewN nq).cell? ⟨g, k * 3 + k2 * 3, none⟩ = some (.int .i64 x.kind) := x0
                have x1' : (wr.drewN nq).cell? ⟨g, k * 3 + k2 * 3 + 1, none⟩ = some (.int .i64 x.id) := x1
                have x2' : (wr.drewN nq).cell? ⟨g, k * 3 + k2 * 3 + 2, none⟩ = some (.int .i64 x.adv) := x2
                have hgz : g < (wr.drewN nq).heap.size := hgw
                clear eK x0 x1 x2 y0 y1 y2 OJ CJ hgw
                generalize wr.drewN nq = wz at *
                clear nq
                obtain ⟨old, hold⟩ : ∃ o, dk.toList[kk]? = some o := ⟨_, toList_get dk kk (by omega)⟩
                obtain ⟨_, e, -, -, -, -, z0, z1, z2⟩ := own_kyH OQ.out hold
                injection e with e
                injection e with e
                subst e
                have f0 := own_frozenH OQ.out (kk * 3)
                have f1 := own_frozenH OQ.out (kk * 3 + 1)
                have f2 := own_frozenH OQ.out (kk * 3 + 2)
                clear hold
                have OZ := Lib.hid (show (((wz.setCell ⟨g, kk * 3, none⟩ (.int .i64 x.kind)).setCell ⟨g, kk * 3 + 1, none⟩ (.int .i64 x.id)).setCell ⟨g, kk * 3 + 2, none⟩ (.int .i64 x.adv)).ownsRow base 48 3 (.slice (some ⟨g, 0, none⟩) n c) n (kyCells (dk.setIfInBounds kk x).toList) by
                  rw [Array.toList_setIfInBounds, ky_set _ _ _ (by rw [Array.length_toList]; omega)]
                  exact own_setH (own_setH (own_setH OQ.out _ _) _ _) _ _)
                have CZ := Lib.hid (CQ.out.trans (chg_setCells g [.int .i64 x.kind, .int .i64 x.id, .int .i64 x.adv] (kk * 3) wz) (fun _ h => .inl h))
                clear OQ CQ
                go_wp2
                go_roundw
                case rel => exact ⟨kk + 1, k2 + 1, dk.setIfInBounds kk x, by go_num, by go_num, by omega, by omega, IZ, OZ, CZ⟩
                case measure => simp [intOf]; omega
            · have hge : ¬ (k2 : Int) < (u : Int) := by omega
              have hend : k + k2 = n := by omega
              have hkn2 : kk < n := by omega
              have IE := Lib.hid (show CompInv d n kk dk by rw [← hend]; exact IJ.out)
              have hcl := fun ty => run_clear_ky OJ.out kk (c - kk) ty hkn2
              have hck2 : ¬ c = kk := by omega
              have OZ := Lib.hid (own_cutK (own_setCells (List.replicate ((n - kk) * 3) (Value.int .i64 0)) (kk * 3) _ _ OJ.out) (m := kk) (by omega))
              have CZ := Lib.hid (CJ.out.trans (chg_setCells g (List.replicate ((n - kk) * 3) (Value.int .i64 0)) (kk * 3) wr) (fun _ h => .inl h))
              have hkkz : (0 : Int) ≤ (kk : Int) := by omega
              have hkkn : (kk : Int) ≤ (n : Int) := by omega
              clear OJ CJ IJ hend
              generalize wr.setCells g (kk * 3) (List.replicate ((n - kk) * 3) (Value.int .i64 0)) = wz at *
              go_wp2
              show Q (.returned (.slice (some ⟨g, 0, none⟩) kk c)) wz
              rw [← HQ.out]
              refine ⟨kk, rfl, ?_, ⟨CZ.out.os, CZ.out.tape, CZ.out.output, CZ.out.size, fun q hq hne => CZ.out.block q hq (fun e => hne (by rw [e]; rfl))⟩⟩
              have h1 := OZ.out
              rw [setAll_take _ _ _ _ (Nat.le_refl _), kyCells_take, take_of_inv IE.out (by omega), HD.out] at h1
              unfold dedupK
              rw [HL.out]
              exact h1
        · have hs : sameKy x y = false := by
            cases h : sameKy x y
            · rfl
            · exact absurd ((sameKy_iff _ _).1 h) hxy
          rw [hs] at eK
          have HZ := Lib.hid (show ∀ j, j < k + 1 → keeps d j = true from fun j hj => by
            by_cases e : j = k
            · rw [e]
              exact keeps_pos (by rw [HXY.out.1, HXY.out.2]; exact hxy)
            · exact HK.out j (by omega))
          obtain ⟨q1, hq1⟩ := HWQ.out
          have HWZ := Lib.hid (show ∀ m, ∃ q2, wq.drewN m = w.drewN q2 from fun m => ⟨q1 + m, by rw [hq1]; exact World.drewN_drewN _ _ _⟩)
          clear hxy hs HK hq1 HWQ
          go_wp2_with fail
          go_quiet (fail)
          obtain ⟨q2, hq2⟩ := HWZ.out nq
          have HQ2 := Lib.hid hq2
          clear eK x0 x1 x2 y0 y1 y2 hq2 HWZ
          go_wp2
          go_roundw
          case rel => exact ⟨k + 1, q2, by go_num, by omega, by omega, HZ, HQ2.out⟩
          case measure => simp [intOf]; omega
      · have hge : ¬ (k : Int) < (n : Int) := by omega
        have hkn2 : k = n := by omega
        go_wp2
        show Q (.returned (.slice (some ⟨g, 0, none⟩) n c)) (w.drewN q)
        rw [← HQ.out]
        refine ⟨n, rfl, ?_, ⟨rfl, rfl, rfl, Nat.le_refl _, fun _ _ _ => rfl⟩⟩
        rw [dedup_short (fun j hj => by rw [← HD.out]; exact HK.out j (by have := HL.out; omega))]
        exact HO.out
end Go.Proofs.YtiibefgdlmjdgaaGreat
