/- The library's Compact of a row of keys. Conditions: at most 1000 keys. · Gone. Conditions: what the words say; at most 100 descriptions. · The statements' example of a summary. No conditions. · The walk of the statement SummTells. Conditions: what the words say. · The walk of the statement SummLacks. Conditions: what the words say. · Plain facts on the keys of what is gone: in order, each once. No program, no conditions. -/
import Derived.Test.YtfdfdmbnggpnbaaGreatJau
import Derived.Test.YtfdfdmbnggpnbaaGreatJav
import Derived.Test.YtfdfdmbnggpnbaaGreatJan
namespace Go.Proofs.YtfdfdmbnggpnbaaGreat
open Go.RowKit Go.Lib Go.Sort Go.Deep

instance : Inhabited Ky := ⟨⟨0, 0, 0⟩⟩
/-- A row of keys without those that stand behind the same. -/
def dedupK (L : List Ky) : List Ky := compactUpTo L.toArray L.length
theorem toList_get (dk : Array Ky) (j : Nat) (h : j < dk.size) : dk.toList[j]? = some dk[j]! := by
  rw [Array.getElem?_toList, getElem!_pos dk j h]
  simp [h]
theorem dedup_short {L : List Ky} (h : ∀ j, j < L.length → keeps L.toArray j = true) : dedupK L = L := by
  unfold dedupK
  rw [compactUpTo_all _ _ h]
  have := range_map_get L.toArray
  simpa using this
theorem take_of_inv {d dk : Array Ky} {m k : Nat} (h : CompInv d m k dk) (hm : k ≤ dk.size) : dk.toList.take k = compactUpTo d m := by
  refine List.ext_getElem? fun j => ?_
  by_cases hj : j < k
  · rw [List.getElem?_take_of_lt hj, toList_get dk j (by omega), h.low j hj]
  · rw [List.getElem?_eq_none (by rw [List.length_take]; omega), List.getElem?_eq_none (by rw [h.len]; omega)]
theorem kyCells_take (M : List Ky) (m : Nat) : (kyCells M).take (m * 3) = kyCells (M.take m) := by
  induction M generalizing m with
  | nil => simp [kyCells]
  | cons x M ih =>
    cases m with
    | zero => simp [kyCells]
    | succ m =>
      rw [kyCells_cons, List.take_succ_cons, kyCells_cons, ← ih m, show (m + 1) * 3 = m * 3 + 1 + 1 + 1 by omega]
      simp [List.take_succ_cons]
theorem own_frozenH {w : World} {base n c size g : Nat} {t : TypeId} {xs : List Value} (h : w.ownsRow base t size (.slice (some ⟨g, 0, none⟩) n c) n xs) (i : Nat) : w.frozen? ⟨g, i, none⟩ = false := by
  rcases h.2 with ⟨hv, _⟩ | ⟨g', cap, cur, hv, hb, hg, h1, h2, h3, h4⟩
  · cases hv
  · cases hv
    have hB : Blk w g t cur := hg
    exact hB.frozen i
set_option maxRecDepth 8000 in
set_option maxHeartbeats 8000000 in
theorem compact_any {w : World} {base n c : Nat} {A : Option Addr} {L : List Ky} (ho : w.ownsRow base 48 3 (.slice A n c) n (kyCells L)) (hn : n ≤ 1000) :
    Calls Tryz.prog 40 #[.slice A n c] w fun e w' => ∃ m, e = .returned (.slice A m c) ∧ w'.ownsRow base 48 3 (.slice A m c) m (kyCells (dedupK L)) ∧ Chg (fun q => (Value.slice A n c).ownBlock = some q) w w' := by
  have hl := ho.1
  rw [kyCells_length] at hl
  have hlL : L.length = n := by omega
  generalize hQ : (fun (e : Ending) (w' : World) => ∃ m, e = .returned (.slice A m c) ∧ w'.ownsRow base 48 3 (.slice A m c) m (kyCells (dedupK L)) ∧ Chg (fun q => (Value.slice A n c).ownBlock = some q) w w') = Q
  have HQ := Lib.hid hQ
  have HO := Lib.hid ho
  have HL := Lib.hid hlL
  clear hQ hl hlL
  by_cases h2 : n < 2
  · have h2' : (n : Int) < 2 := by omega
    clear ho
    go_enter Tryz.func40, Tryz.ntmps40
    go_wp2
    show Q (.returned (.slice A n c)) w
    rw [← HQ.out]
    refine ⟨n, rfl, ?_, Chg.refl _ _⟩
    rw [dedup_short (fun j hj => keeps_lt_one _ j (by have := HL.out; omega))]
    exact HO.out
  · have h2' : ¬ (n : Int) < 2 := by omega
    obtain ⟨g, hA, hbg, hgl, hnc, hcm, -⟩ := own_kyH ho (j := 0) (k := L[0]'(by have := HL.out; omega)) (List.getElem?_eq_getElem _)
    subst hA
    clear ho
    unfold maxLen at hcm
    obtain ⟨d, hd⟩ : ∃ d, d = L.toArray := ⟨_, rfl⟩
    have HD := Lib.hid hd
    have hdz : d.size = n := by rw [hd, List.size_toArray, HL.out]
    clear hd
    have HDZ := Lib.hid hdz
    clear hdz
    go_enter Tryz.func40, Tryz.ntmps40
    go_wp2_with fail
    go_loopw [3] (fun s3 wr => ∃ (k q : Nat), s3 = .int .i64 k ∧ 1 ≤ k ∧ k ≤ n ∧ Hid (∀ j, j < k → keeps d j = true) ∧ wr = w.drewN q) (fun s3 _ => n - (intOf s3).toNat)
    case atStart => exact ⟨1, 0, rfl, Nat.le_refl _, by omega, Lib.hid (keeps_lt_one d), rfl⟩
    case round =>
      obtain ⟨k, q, rfl, hk1, hkn, HK, rfl⟩ := hrel
      by_cases hlt : k < n
      · have hlt' : (k : Int) < (n : Int) := by omega
        obtain ⟨kp, hkp⟩ : ∃ kp, kp = k - 1 := ⟨_, rfl⟩
        have e1 : (k : Int) - 1 = (kp : Int) := by omega
        have w_kp : IntKind.i64.wrap (kp : Int) = (kp : Int) := by rw [IntKind.wrap_i64]; omega
        have hk2 : kp + 1 = k := by omega
        obtain ⟨x, hx⟩ : ∃ x, d[k]! = x := ⟨_, rfl⟩
        obtain ⟨y, hy⟩ : ∃ y, d[k - 1]! = y := ⟨_, rfl⟩
        have HO2 := Lib.hid (show (w.drewN q).ownsRow base 48 3 (.slice (some ⟨g, 0, none⟩) n c) n (kyCells L) from HO.out)
        have hg2 : g < (w.drewN q).heap.size := hgl
        have hLx : L[k]? = some x := by rw [← hx, HD.out]; have := toList_get L.toArray k (by rw [List.size_toArray, HL.out]; exact hlt); simpa using this
        have hLy : L[kp]? = some y := by rw [← hy, HD.out, ← hkp]; have := toList_get L.toArray kp (by rw [List.size_toArray, HL.out]; omega); simpa using this
        obtain ⟨_, e, -, -, -, -, x0, x1, x2⟩ := own_kyH HO2.out hLx
        injection e with e
        injection e with e
        subst e
        obtain ⟨_, e, -, -, -, -, y0, y1, y2⟩ := own_kyH HO2.out hLy
        injection e with e
        injection e with e
        subst e
        have HXY := Lib.hid (show d[k]! = x ∧ d[k - 1]! = y from ⟨hx, hy⟩)
        have C1 := Lib.hid (⟨rfl, rfl, rfl, Nat.le_refl _, fun _ _ _ => rfl⟩ : Chg (fun q => q = g) w (w.drewN q))
        have hkz : (0 : Int) ≤ (k : Int) := by omega
        clear hx hy hLx hLy hkp hk2
        have eK := fun W => equalKy x y W
        have HWQ := Lib.hid (show ∃ q1, w.drewN q = w.drewN q1 from ⟨q, rfl⟩)
        generalize hwq : w.drewN q = wq at *
        clear hwq
        by_cases hxy : x = y
        · have hs : sameKy x y = true := (sameKy_iff _ _).2 hxy
          rw [hs] at eK
          go_wp2_with fail
          go_quiet (fail)
          have OQ := Lib.hid (show (wq.drewN nq).ownsRow base 48 3 (.slice (some ⟨g, 0, none⟩) n c) n (kyCells d.toList) by rw [HD.out]; exact HO2.out)
          have CQ := Lib.hid (show Chg (fun q => q = g) w (wq.drewN nq) from C1.out.trans (⟨rfl, rfl, rfl, Nat.le_refl _, fun _ _ _ => rfl⟩ : Chg (fun q => q = g) wq (wq.drewN nq)) (fun _ h => .inl h))
          have IQ := Lib.hid (CompInv.start HK.out (keeps_neg (by omega) (by rw [HXY.out.1, HXY.out.2, hxy])))
          clear hxy hs eK x0 x1 x2 y0 y1 y2 HXY HO2 C1 HK
          generalize wq.drewN nq = wb at *
          clear nq
          have hck : ¬ c = k := by omega
          obtain ⟨u, hu⟩ : ∃ u, n - k = u := ⟨_, rfl⟩
          have hu1 : k + u ≤ n := by omega
          have hu2 : n ≤ k + u := by omega
          go_wp2_with fail
          go_loopw [3, 5] (fun s3 s5 wi => ∃ (kk k2 : Nat) (dk : Array Ky), s3 = .int .i64 kk ∧ s5 = .int .i64 k2 ∧ 1 ≤ k2 ∧ k + k2 ≤ n ∧ Hid (CompInv d (k + k2) kk dk) ∧ Hid (wi.ownsRow base 48 3 (.slice (some ⟨g, 0, none⟩) n c) n (kyCells dk.toList)) ∧ Hid (Chg (fun q => q = g) w wi)) (fun _ s5 _ => n - (intOf s5).toNat)
          case atStart => exact ⟨k, 1, d, rfl, rfl, Nat.le_refl _, by omega, IQ, OQ, CQ⟩
          case round =>
            clear IQ OQ CQ
            obtain ⟨kk, k2, dk, rfl, rfl, h1, hle, IJ, OJ, CJ⟩ := hrel
            have hkk := IJ.out.lt
            have hds : dk.size = n := by rw [IJ.out.size, HDZ.out]
            by_cases hlt2 : k2 < u
            · have hlt2' : (k2 : Int) < (u : Int) := by omega
              obtain ⟨p, hp⟩ : ∃ p, p = k2 - 1 := ⟨_, rfl⟩
              have e2 : (k2 : Int) - 1 = (p : Int) := by omega
              have w_p : IntKind.i64.wrap (p : Int) = (p : Int) := by rw [IntKind.wrap_i64]; omega
              have hp1 : p + 1 = k2 := by omega
              clear hp
              obtain ⟨x, hx⟩ : ∃ x, d[k + k2]! = x := ⟨_, rfl⟩
              obtain ⟨y, hy⟩ : ∃ y, d[k + k2 - 1]! = y := ⟨_, rfl⟩
              have hX : dk.toList[k + k2]? = some x := by rw [toList_get dk _ (by omega), IJ.out.high _ (by omega), hx]
              have hY : dk.toList[k + p]? = some y := by rw [toList_get dk _ (by omega), IJ.out.high _ (by omega), ← hy, show k + p = k + k2 - 1 by omega]
              obtain ⟨_, e, -, -, -, -, x0, x1, x2⟩ := own_kyH OJ.out hX
              injection e with e
              injection e with e
              subst e
              obtain ⟨_, e, -, hgw, -, -, y0, y1, y2⟩ := own_kyH OJ.out hY
              injection e with e
              injection e with e
              subst e
              rw [Nat.add_mul] at x0 x1 x2 y0 y1 y2
              have HXY := Lib.hid (show d[k + k2]! = x ∧ d[k + k2 - 1]! = y from ⟨hx, hy⟩)
              have eK := fun W => equalKy x y W
              have hkz2 : (0 : Int) ≤ (k2 : Int) := by omega
              have hkkz : (0 : Int) ≤ (kk : Int) := by omega
              have hkkn : (kk : Int) < (n : Int) := by omega
              clear hx hy hX hY hp1
              by_cases hxy : x = y
              · have hs : sameKy x y = true := (sameKy_iff _ _).2 hxy
                rw [hs] at eK
                have IZ := Lib.hid (IJ.out.skip (keeps_neg (by omega) (by rw [HXY.out.1, HXY.out.2, hxy])))
                clear hxy hs IJ
                go_wp2_with fail
                go_quiet (fail)
                have OZ := Lib.hid (show (wr.drewN nq).ownsRow base 48 3 (.slice (some ⟨g, 0, none⟩) n c) n (kyCells dk.toList) from OJ.out)
                have CZ := Lib.hid (show Chg (fun q => q = g) w (wr.drewN nq) from CJ.out.trans (⟨rfl, rfl, rfl, Nat.le_refl _, fun _ _ _ => rfl⟩ : Chg (fun q => q = g) wr (wr.drewN nq)) (fun _ h => .inl h))
                clear eK x0 x1 x2 y0 y1 y2 OJ CJ hgw
                generalize wr.drewN nq = wz at *
                clear nq
                go_wp2
                go_roundw
                case rel => exact ⟨kk, k2 + 1, dk, rfl, by go_num, by omega, by omega, IZ, OZ, CZ⟩
                case measure => simp [intOf]; omega
              · have hs : sameKy x y = false := by
                  cases h : sameKy x y
                  · rfl
                  · exact absurd ((sameKy_iff _ _).1 h) hxy
                rw [hs] at eK
                have IZ := Lib.hid (IJ.out.keep (by rw [HDZ.out]; omega) (keeps_pos (by rw [HXY.out.1, HXY.out.2]; exact hxy)))
                rw [HXY.out.1] at IZ
                clear hxy hs IJ
                go_wp2_with fail
                go_quiet (fail)
                have OQ := Lib.hid (show (wr.drewN nq).ownsRow base 48 3 (.slice (some ⟨g, 0, none⟩) n c) n (kyCells dk.toList) from OJ.out)
                have CQ := Lib.hid (show Chg (fun q => q = g) w (wr.drewN nq) from CJ.out.trans (⟨rfl, rfl, rfl, Nat.le_refl _, fun _ _ _ => rfl⟩ : Chg (fun q => q = g) wr (wr.drewN nq)) (fun _ h => .inl h))
                have x0' : (wr.drewN nq).cell? ⟨g, k * 3 + k2 * 3, none⟩ = some (.int .i64 x.kind) := x0
                have x1' : (wr.drewN nq).cell? ⟨g, k * 3 + k2 * 3 + 1, none⟩ = some (.int .i64 x.id) := x1
                have x2' : (wr.drewN nq).cell? ⟨g, k * 3 + k2 * 3 + 2, none⟩ = some (.int .i64 x.adv) := x2
                have hgz : g < (wr.drewN nq).heap.size := hgw
                clear eK x0 x1 x2 y0 y1 y2 OJ CJ hgw
                generalize wr.drewN nq = wz at *
                clear nq
                obtain ⟨old, hold⟩ : ∃ o, dk.toList[kk]? = some o := ⟨_, toList_get dk kk (by omega)⟩
                obtain ⟨_, e, -, -, -, -, z0, z1, z2⟩ := own_kyH OQ.out hold
                injection e with e
                injection e with e
                subst e
                have f0 := own_frozenH OQ.out (kk * 3)
                have f1 := own_frozenH OQ.out (kk * 3 + 1)
                have f2 := own_frozenH OQ.out (kk * 3 + 2)
                clear hold
                have OZ := Lib.hid (show (((wz.setCell ⟨g, kk * 3, none⟩ (.int .i64 x.kind)).setCell ⟨g, kk * 3 + 1, none⟩ (.int .i64 x.id)).setCell ⟨g, kk * 3 + 2, none⟩ (.int .i64 x.adv)).ownsRow base 48 3 (.slice (some ⟨g, 0, none⟩) n c) n (kyCells (dk.setIfInBounds kk x).toList) by
                  rw [Array.toList_setIfInBounds, ky_set _ _ _ (by rw [Array.length_toList]; omega)]
                  exact own_setH (own_setH (own_setH OQ.out _ _) _ _) _ _)
                have CZ := Lib.hid (CQ.out.trans (chg_setCells g [.int .i64 x.kind, .int .i64 x.id, .int .i64 x.adv] (kk * 3) wz) (fun _ h => .inl h))
                clear OQ CQ
                go_wp2
                go_roundw
                case rel => exact ⟨kk + 1, k2 + 1, dk.setIfInBounds kk x, by go_num, by go_num, by omega, by omega, IZ, OZ, CZ⟩
                case measure => simp [intOf]; omega
            · have hge : ¬ (k2 : Int) < (u : Int) := by omega
              have hend : k + k2 = n := by omega
              have hkn2 : kk < n := by omega
              have IE := Lib.hid (show CompInv d n kk dk by rw [← hend]; exact IJ.out)
              have hcl := fun ty => run_clear_ky OJ.out kk (c - kk) ty hkn2
              have hck2 : ¬ c = kk := by omega
              have OZ := Lib.hid (own_cutK (own_setCells (List.replicate ((n - kk) * 3) (Value.int .i64 0)) (kk * 3) _ _ OJ.out) (m := kk) (by omega))
              have CZ := Lib.hid (CJ.out.trans (chg_setCells g (List.replicate ((n - kk) * 3) (Value.int .i64 0)) (kk * 3) wr) (fun _ h => .inl h))
              have hkkz : (0 : Int) ≤ (kk : Int) := by omega
              have hkkn : (kk : Int) ≤ (n : Int) := by omega
              clear OJ CJ IJ hend
              generalize wr.setCells g (kk * 3) (List.replicate ((n - kk) * 3) (Value.int .i64 0)) = wz at *
              go_wp2
              show Q (.returned (.slice (some ⟨g, 0, none⟩) kk c)) wz
              rw [← HQ.out]
              refine ⟨kk, rfl, ?_, ⟨CZ.out.os, CZ.out.tape, CZ.out.output, CZ.out.size, fun q hq hne => CZ.out.block q hq (fun e => hne (by rw [e]; rfl))⟩⟩
              have h1 := OZ.out
              rw [setAll_take _ _ _ _ (Nat.le_refl _), kyCells_take, take_of_inv IE.out (by omega), HD.out] at h1
              unfold dedupK
              rw [HL.out]
              exact h1
        · have hs : sameKy x y = false := by
            cases h : sameKy x y
            · rfl
            · exact absurd ((sameKy_iff _ _).1 h) hxy
          rw [hs] at eK
          have HZ := Lib.hid (show ∀ j, j < k + 1 → keeps d j = true from fun j hj => by
            by_cases e : j = k
            · rw [e]
              exact keeps_pos (by rw [HXY.out.1, HXY.out.2]; exact hxy)
            · exact HK.out j (by omega))
          obtain ⟨q1, hq1⟩ := HWQ.out
          have HWZ := Lib.hid (show ∀ m, ∃ q2, wq.drewN m = w.drewN q2 from fun m => ⟨q1 + m, by rw [hq1]; exact World.drewN_drewN _ _ _⟩)
          clear hxy hs HK hq1 HWQ
          go_wp2_with fail
          go_quiet (fail)
          obtain ⟨q2, hq2⟩ := HWZ.out nq
          have HQ2 := Lib.hid hq2
          clear eK x0 x1 x2 y0 y1 y2 hq2 HWZ
          go_wp2
          go_roundw
          case rel => exact ⟨k + 1, q2, by go_num, by omega, by omega, HZ, HQ2.out⟩
          case measure => simp [intOf]; omega
      · have hge : ¬ (k : Int) < (n : Int) := by omega
        have hkn2 : k = n := by omega
        go_wp2
        show Q (.returned (.slice (some ⟨g, 0, none⟩) n c)) (w.drewN q)
        rw [← HQ.out]
        refine ⟨n, rfl, ?_, ⟨rfl, rfl, rfl, Nat.le_refl _, fun _ _ _ => rfl⟩⟩
        rw [dedup_short (fun j hj => by rw [← HD.out]; exact HK.out j (by have := HL.out; omega))]
        exact HO.out
end Go.Proofs.YtfdfdmbnggpnbaaGreat
namespace Go.Proofs.YtfdfdmbnggpnbaaGreat
open Go.RowKit Go.Lib Go.Sort Go.Deep

/-- The keys of what is gone, in order, each once. -/
def goneL (S : List La) : List Ky := dedupK ((goneK S).mergeSort leKy)
def GoneQ (S : List La) (w : World) (e : Ending) (w' : World) : Prop :=
  ∃ (A : Option Addr) (m c : Nat), e = .returned (.slice A m c) ∧ Below w.heap.size w w' ∧ w'.ownsRow w.heap.size 48 3 (.slice A m c) m (kyCells (goneL S))
set_option maxRecDepth 8000 in
set_option maxHeartbeats 4000000 in
theorem goneS_any {w : World} {A : Option Addr} {n c : Nat} {S : List La} {B : Nat} (hS : Las w B A n S) (hB : B ≤ w.heap.size) (hn : n ≤ 100) : Calls Tryz.prog 20 #[.slice A n c] w (GoneQ S w) := by
  generalize hQ : GoneQ S w = Q
  have HQ := Lib.hid hQ
  have HS := Lib.hid hS
  have O0 := Lib.hid (World.ownsRow_nil w w.heap.size 48 3)
  have B0 := Lib.hid (Below.refl w.heap.size w)
  clear hQ hS
  go_enter Tryz.func20, Tryz.ntmps20
  go_wp2_with fail
  go_loopw [3, 8] (fun s3 s8 wr => ∃ (k m c' : Nat) (A' : Option Addr), s8 = .int .i64 k ∧ s3 = .slice A' m c' ∧ k ≤ n ∧ m ≤ k ∧ Hid (wr.ownsRow w.heap.size 48 3 (.slice A' m c') m (kyCells (goneK (S.take k)))) ∧ Hid (Below w.heap.size w wr)) (fun _ s8 _ => n - (intOf s8).toNat)
  case atStart => exact ⟨0, 0, 0, none, rfl, rfl, Nat.zero_le _, Nat.le_refl _, Lib.hid (by simpa [goneK, kyCells] using O0.out), B0⟩
  case round =>
    clear O0 B0
    obtain ⟨k, m, c', A', rfl, rfl, hk, hmk, OW, BW⟩ := hrel
    by_cases hlt : k < n
    · have hlt' : (k : Int) < (n : Int) := by omega
      obtain ⟨b, o, x, A1, n1, c1, A2, n2, c2, rfl, hb, hx, hr, -, -, -, -⟩ := las_item (HS.out.below (BW.out.mono hB)) hlt
      have HR := Lib.hid hr
      have HX := Lib.hid hx
      have hz := BW.out.size
      have BX := Lib.hid (BW.out.alloc hz (.cells #[.int .i64 x.h.age, .int .i64 x.h.kind, .int .i64 x.h.id, .int .i64 x.h.adv, .int .i64 x.h.seq, .int .i64 x.h.sum, .int .i64 x.h.long, .slice A1 n1 c1, .slice A2 n2 c2] 44))
      have KX := Lib.hid (Blk.new wr 44 #[.int .i64 x.h.age, .int .i64 x.h.kind, .int .i64 x.h.id, .int .i64 x.h.adv, .int .i64 x.h.seq, .int .i64 x.h.sum, .int .i64 x.h.long, .slice A1 n1 c1, .slice A2 n2 c2])
      have OX := Lib.hid (OW.out.alloc (.cells #[.int .i64 x.h.age, .int .i64 x.h.kind, .int .i64 x.h.id, .int .i64 x.h.adv, .int .i64 x.h.seq, .int .i64 x.h.sum, .int .i64 x.h.long, .slice A1 n1 c1, .slice A2 n2 c2] 44))
      have RX := Lib.hid (blk_range7 KX.out)
      clear hr hx OW BW
      go_wp2_with (first | refine wpList_load_row 44 _ _ (by rfl) (.tmp 10) rfl (by rfl) HR.out Tryz.underlying44 rfl (by kernel_rfl) ?_ | (refine wpList_load_row 44 _ _ (by rfl) (.tmp 5) rfl (by rfl) RX.out Tryz.underlying44 rfl (by kernel_rfl) ?_))
      refine (gone_any x A1 A2 n1 c1 n2 c2 _).mono ?_
      rintro e1 w1 ⟨rfl, hb1⟩
      generalize wr.alloc (.cells #[.int .i64 x.h.age, .int .i64 x.h.kind, .int .i64 x.h.id, .int .i64 x.h.adv, .int .i64 x.h.seq, .int .i64 x.h.sum, .int .i64 x.h.long, .slice A1 n1 c1, .slice A2 n2 c2] 44) = wx at *
      generalize wr.heap.size = X at *
      have hzx := BX.out.size
      have B1 := Lib.hid (BX.out.trans (hb1.mono hzx))
      have K1 := Lib.hid (KX.out.below hb1 KX.out.lt)
      have O1 := Lib.hid (own_chg OX.out (Chg.of_below (F := fun _ => False) hb1) (fun _ _ hf => hf))
      have hz1 := B1.out.size
      have R1 := Lib.hid (show w1.rangeAt X 0 [.int .i64 x.h.age, .int .i64 x.h.kind, .int .i64 x.h.id, .int .i64 x.h.adv, .int .i64 x.h.seq, .int .i64 x.h.sum, .int .i64 x.h.long] from head_range K1.out)
      have HT := Lib.hid (goneK_snoc (S.take k) x)
      rw [← take_snocA S k x HX.out] at HT
      clear hb1 BX KX OX RX hzx K1 HR HX
      cases hg : goneB x
      · have HT2 := Lib.hid (show goneK (S.take (k + 1)) = goneK (S.take k) by
          have := HT.out
          rwa [hg, if_neg (by decide)] at this)
        clear HT hg
        have O3 := Lib.hid (show w1.ownsRow w.heap.size 48 3 (.slice A' m c') m (kyCells (goneK (S.take (k + 1)))) by rw [HT2.out]; exact O1.out)
        clear R1 O1 HT2
        go_wp2
        go_roundw
        case rel => exact ⟨k + 1, m, c', A', by go_num, rfl, by omega, by omega, O3, B1⟩
        case measure => simp [intOf]; omega
      · have HT2 := Lib.hid (show goneK (S.take (k + 1)) = goneK (S.take k) ++ [kyL x] by
          have := HT.out
          rwa [hg, if_pos rfl] at this)
        clear HT hg
        go_wp2_with (first | refine wpList_load_row 40 _ _ (by rfl) (.tmp 15) rfl (by rfl) R1.out Tryz.underlying40 rfl (by kernel_rfl) ?_)
        refine (keyOf_any x.h _).mono ?_
        rintro e2 w2 ⟨rfl, hb2⟩
        have B2 := Lib.hid (B1.out.trans (hb2.mono hz1))
        have O2 := Lib.hid (own_chg O1.out (Chg.of_below (F := fun _ => False) hb2) (fun _ _ hf => hf))
        have hz2 := B2.out.size
        clear hb2 B1 O1 R1 hz1
        go_wp2_with (at_builtin; refine wpList_app_ky rfl (.tmp 14) (.tmp 18) rfl (kyL x) (by rfl) (by rfl) O2.out (by omega) hz2 ?_; intro A3 c3 w3 HO3 HB3)
        have O3 := Lib.hid (show w3.ownsRow w.heap.size 48 3 (.slice A3 (m + 1) c3) (m + 1) (kyCells (goneK (S.take (k + 1)))) by rw [HT2.out]; exact HO3.out)
        have B3 := Lib.hid (B2.out.trans HB3.out)
        clear HO3 HB3 O2 B2 HT2
        go_roundw
        case rel => exact ⟨k + 1, m + 1, c3, A3, by go_num, by first | rfl | go_num, by omega, by omega, O3, B3⟩
        case measure => simp [intOf]; omega
    · have hlt' : ¬ (k : Int) < (n : Int) := by omega
      have HT := Lib.hid (show goneK (S.take k) = goneK S by
        rw [List.take_of_length_le (by have := HS.out.1; omega)])
      rw [HT.out] at OW
      clear HT
      go_wp2_with (first | (go_at_call 38; refine (sort_keys7 OW.out (by omega)).mono ?_; rintro e1 w1 ⟨rfl, hk3, hgr⟩; have hz := BW.out.size; have B1 := Lib.hid (BW.out.trans (own_keeps7 OW.out hgr hz)); have O1 := Lib.hid hk3; clear hk3 hgr OW BW) | (go_at_call 40; refine (compact_any O1.out (by omega)).mono ?_; rintro e2 w2 ⟨m2, rfl, ho2, hc2⟩))
      show Q (.returned (.slice A' m2 c')) w2
      rw [← HQ.out]
      exact ⟨A', m2, c', rfl, B1.out.trans (hc2.to_below (fun q hq => (O1.out.lt q hq).1) B1.out.size), ho2⟩
end Go.Proofs.YtfdfdmbnggpnbaaGreat
namespace Go.Proofs.YtfdfdmbnggpnbaaGreat
open Go.RowKit Go.Lib Go.Sort Go.Deep

/-- A description that is but a head. -/
def la0 (h : Hd) : La := ⟨h, [], []⟩
def exA : Hd := ⟨0, 1, 1, 1, 0, 0, 0⟩
def exB : Hd := ⟨60, 1, 2, 2, 0, 0, 0⟩
theorem las_two {w : World} {X : Nat} (h1 h2 : Hd) (hB : Blk w X 44 #[.int .i64 h1.age, .int .i64 h1.kind, .int .i64 h1.id, .int .i64 h1.adv, .int .i64 h1.seq, .int .i64 h1.sum, .int .i64 h1.long, .slice none 0 0, .slice none 0 0, .int .i64 h2.age, .int .i64 h2.kind, .int .i64 h2.id, .int .i64 h2.adv, .int .i64 h2.seq, .int .i64 h2.sum, .int .i64 h2.long, .slice none 0 0, .slice none 0 0]) : Las w (X + 1) (some ⟨X, 0, none⟩) 2 [la0 h1, la0 h2] := by
  refine ⟨rfl, fun _ => ⟨X, 0, rfl, Nat.lt_succ_self X, fun j x hx => ?_⟩⟩
  match j, hx with
  | 0, hx =>
    injection hx with hx
    subst hx
    exact ⟨⟨hB.cell 0, hB.cell 1, hB.cell 2, hB.cell 3, hB.cell 4, hB.cell 5, hB.cell 6⟩, none, 0, 0, none, 0, 0, hB.cell 7, hB.cell 8, Lnk.nil, Row.nil, Nat.zero_le _, Nat.zero_le _⟩
  | 1, hx =>
    injection hx with hx
    subst hx
    exact ⟨⟨hB.cell 9, hB.cell 10, hB.cell 11, hB.cell 12, hB.cell 13, hB.cell 14, hB.cell 15⟩, none, 0, 0, none, 0, 0, hB.cell 16, hB.cell 17, Lnk.nil, Row.nil, Nat.zero_le _, Nat.zero_le _⟩
theorem ex_told : toldL [la0 exB, la0 exA] = [exA] := by
  unfold toldL
  rw [List.filter_cons_of_neg (by show ¬ (!((60 : Int) == 60)) = true; decide), List.filter_cons_of_pos (by show (!((0 : Int) == 60)) = true; decide)]
  rfl
theorem ex_gone : (goneL [la0 exA, la0 exB]).length = 1 := by
  have h : goneK [la0 exA, la0 exB] = [kyL (la0 exB)] := by
    unfold goneK
    rw [List.filter_cons_of_neg (by show ¬ ((0 : Int) == 60) = true; decide), List.filter_cons_of_pos (by show ((60 : Int) == 60) = true; decide)]
    rfl
  unfold goneL
  rw [h, List.mergeSort_singleton, dedup_short (fun j hj => keeps_lt_one _ j (by simpa using hj))]
  rfl
theorem keepS {w0 w' : World} (hb : Below w0.heap.size w0 w') : Below w0.heap.size w0 w' ∧ (∀ b o, b < w0.heap.size → w'.cell? ⟨b, o, none⟩ = w0.cell? ⟨b, o, none⟩) :=
  ⟨hb, fun b o h => hb.cell (p := ⟨b, o, none⟩) h⟩
theorem ord_one (x : Hd) : Ord lessH [x] := by simp [Ord]
set_option maxRecDepth 20000 in
set_option maxHeartbeats 8000000 in
theorem wakes_any (w : World) : Calls Tryz.prog 5 #[] w fun e w' => e = .returned (.bool true) ∧ Below w.heap.size w w' := by
  go_enter Tryz.func5, Tryz.ntmps5
  have B0 := Lib.hid ((((Below.refl w.heap.size w).alloc (Nat.le_refl _) (.cells #[.int .i64 0, .int .i64 1, .int .i64 1, .int .i64 1, .int .i64 0, .int .i64 0, .int .i64 0, .slice none 0 0, .slice none 0 0] 44)).alloc (by simp) (.cells #[.int .i64 60, .int .i64 1, .int .i64 2, .int .i64 2, .int .i64 0, .int .i64 0, .int .i64 0, .slice none 0 0, .slice none 0 0] 44)).alloc (by simp; omega) (.cells #[.int .i64 60, .int .i64 1, .int .i64 2, .int .i64 2, .int .i64 0, .int .i64 0, .int .i64 0, .slice none 0 0, .slice none 0 0, .int .i64 0, .int .i64 1, .int .i64 1, .int .i64 1, .int .i64 0, .int .i64 0, .int .i64 0, .slice none 0 0, .slice none 0 0] 44))
  have KA := Lib.hid (((Blk.new w 44 #[.int .i64 0, .int .i64 1, .int .i64 1, .int .i64 1, .int .i64 0, .int .i64 0, .int .i64 0, .slice none 0 0, .slice none 0 0]).alloc (.cells #[.int .i64 60, .int .i64 1, .int .i64 2, .int .i64 2, .int .i64 0, .int .i64 0, .int .i64 0, .slice none 0 0, .slice none 0 0] 44)).alloc (.cells #[.int .i64 60, .int .i64 1, .int .i64 2, .int .i64 2, .int .i64 0, .int .i64 0, .int .i64 0, .slice none 0 0, .slice none 0 0, .int .i64 0, .int .i64 1, .int .i64 1, .int .i64 1, .int .i64 0, .int .i64 0, .int .i64 0, .slice none 0 0, .slice none 0 0] 44))
  have KB := Lib.hid ((Blk.new (w.alloc (.cells #[.int .i64 0, .int .i64 1, .int .i64 1, .int .i64 1, .int .i64 0, .int .i64 0, .int .i64 0, .slice none 0 0, .slice none 0 0] 44)) 44 #[.int .i64 60, .int .i64 1, .int .i64 2, .int .i64 2, .int .i64 0, .int .i64 0, .int .i64 0, .slice none 0 0, .slice none 0 0]).alloc (.cells #[.int .i64 60, .int .i64 1, .int .i64 2, .int .i64 2, .int .i64 0, .int .i64 0, .int .i64 0, .slice none 0 0, .slice none 0 0, .int .i64 0, .int .i64 1, .int .i64 1, .int .i64 1, .int .i64 0, .int .i64 0, .int .i64 0, .slice none 0 0, .slice none 0 0] 44))
  have KC := Lib.hid (Blk.new ((w.alloc (.cells #[.int .i64 0, .int .i64 1, .int .i64 1, .int .i64 1, .int .i64 0, .int .i64 0, .int .i64 0, .slice none 0 0, .slice none 0 0] 44)).alloc (.cells #[.int .i64 60, .int .i64 1, .int .i64 2, .int .i64 2, .int .i64 0, .int .i64 0, .int .i64 0, .slice none 0 0, .slice none 0 0] 44)) 44 #[.int .i64 60, .int .i64 1, .int .i64 2, .int .i64 2, .int .i64 0, .int .i64 0, .int .i64 0, .slice none 0 0, .slice none 0 0, .int .i64 0, .int .i64 1, .int .i64 1, .int .i64 1, .int .i64 0, .int .i64 0, .int .i64 0, .slice none 0 0, .slice none 0 0])
  rw [show (w.alloc (.cells #[.int .i64 0, .int .i64 1, .int .i64 1, .int .i64 1, .int .i64 0, .int .i64 0, .int .i64 0, .slice none 0 0, .slice none 0 0] 44)).heap.size = w.heap.size + 1 by simp] at KB
  rw [show ((w.alloc (.cells #[.int .i64 0, .int .i64 1, .int .i64 1, .int .i64 1, .int .i64 0, .int .i64 0, .int .i64 0, .slice none 0 0, .slice none 0 0] 44)).alloc (.cells #[.int .i64 60, .int .i64 1, .int .i64 2, .int .i64 2, .int .i64 0, .int .i64 0, .int .i64 0, .slice none 0 0, .slice none 0 0] 44)).heap.size = w.heap.size + 1 + 1 by simp] at KC
  go_wp2_with fail
  generalize ((w.alloc (.cells #[.int .i64 0, .int .i64 1, .int .i64 1, .int .i64 1, .int .i64 0, .int .i64 0, .int .i64 0, .slice none 0 0, .slice none 0 0] 44)).alloc (.cells #[.int .i64 60, .int .i64 1, .int .i64 2, .int .i64 2, .int .i64 0, .int .i64 0, .int .i64 0, .slice none 0 0, .slice none 0 0] 44)).alloc (.cells #[.int .i64 60, .int .i64 1, .int .i64 2, .int .i64 2, .int .i64 0, .int .i64 0, .int .i64 0, .slice none 0 0, .slice none 0 0, .int .i64 0, .int .i64 1, .int .i64 1, .int .i64 1, .int .i64 0, .int .i64 0, .int .i64 0, .slice none 0 0, .slice none 0 0] 44) = w0 at *
  have hz0 := B0.out.size
  refine (new_any (las_two exB exA KC.out) (by have := KC.out.lt; omega) (by omega)).mono ?_
  rintro e1 w1 ⟨p, A, n, c, K, rfl, hb1, hp1, hbl, hrow, hord, hst⟩
  rw [ex_told] at hst
  have hK := stab_unique swo_less (ord_one exA) hord hst
  subst hK
  have SM := Lib.hid (sum_new hp1 hbl hrow)
  have hn1 : n = 1 := by have := SM.out.len; simpa using this.symm
  subst hn1
  have KA1 := Lib.hid (KA.out.below hb1 KA.out.lt)
  have KB1 := Lib.hid (KB.out.below hb1 KB.out.lt)
  have B1 := Lib.hid (B0.out.trans (hb1.mono hz0))
  clear hb1 hp1 hbl hrow hord hst KA KB KC B0 hz0
  go_wp2_with fail
  refine (pieceP_any SM.out (by omega)).mono ?_
  rintro e2 w2 ⟨A3, m3, c3, rfl, hb2, hrow⟩
  have hm3 : m3 = 1 := by have := own_lenH encHd_len (by omega) hrow; simpa using this.symm
  subst hm3
  obtain ⟨g3, rfl, -, hg3, hc1, hc2, hat⟩ := own_item encHd_len (by omega) hrow (j := 0) (x := exA) rfl
  have KA2 := Lib.hid (KA1.out.below hb2 KA1.out.lt)
  have KB2 := Lib.hid (KB1.out.below hb2 KB1.out.lt)
  have B2 := Lib.hid (B1.out.trans (hb2.mono B1.out.size))
  unfold maxLen at hc2
  clear hb2 hrow KA1 KB1 B1 SM
  go_wp2_with fail
  have x0 : w2.cell? ⟨g3, 0, none⟩ = some (.int .i64 0) := hat 0 (by omega)
  have x1 : w2.cell? ⟨g3, 1, none⟩ = some (.int .i64 1) := hat 1 (by omega)
  have x2 : w2.cell? ⟨g3, 2, none⟩ = some (.int .i64 1) := hat 2 (by omega)
  have x3 : w2.cell? ⟨g3, 3, none⟩ = some (.int .i64 1) := hat 3 (by omega)
  have x4 : w2.cell? ⟨g3, 4, none⟩ = some (.int .i64 0) := hat 4 (by omega)
  have x5 : w2.cell? ⟨g3, 5, none⟩ = some (.int .i64 0) := hat 5 (by omega)
  have x6 : w2.cell? ⟨g3, 6, none⟩ = some (.int .i64 0) := hat 6 (by omega)
  obtain ⟨a0, a1, a2, a3, a4, a5, a6, a7, a8⟩ := KA2.out.nine
  obtain ⟨b0, b1, b2, b3, b4, b5, b6, b7, b8⟩ := KB2.out.nine
  have hla := KA2.out.lt
  have hlb := KB2.out.lt
  have hz2 := B2.out.size
  have eH : ∀ W, (Op.equalIn 10000 40 (.agg #[.int .i64 0, .int .i64 1, .int .i64 1, .int .i64 1, .int .i64 0, .int .i64 0, .int .i64 0]) (.agg #[.int .i64 0, .int .i64 1, .int .i64 1, .int .i64 1, .int .i64 0, .int .i64 0, .int .i64 0])).run Tryz.prog W = .ok true W := fun W => by
    have := equalHd exA exA W
    rwa [show sameHd exA exA = true from (sameHd_iff _ _).2 rfl] at this
  have BR : Below w2.heap.size w2 w2.drew := ⟨rfl, rfl, rfl, Nat.le_refl _, fun _ _ => rfl⟩
  have BR2 := BR.alloc (Nat.le_refl _) (.cells #[.int .i64 0, .int .i64 1, .int .i64 1, .int .i64 1, .int .i64 0, .int .i64 0, .int .i64 0, .slice none 0 0, .slice none 0 0, .int .i64 60, .int .i64 1, .int .i64 2, .int .i64 2, .int .i64 0, .int .i64 0, .int .i64 0, .slice none 0 0, .slice none 0 0] 44)
  have L2 := Lib.hid (las_two exA exB (Blk.new w2.drew 44 #[.int .i64 0, .int .i64 1, .int .i64 1, .int .i64 1, .int .i64 0, .int .i64 0, .int .i64 0, .slice none 0 0, .slice none 0 0, .int .i64 60, .int .i64 1, .int .i64 2, .int .i64 2, .int .i64 0, .int .i64 0, .int .i64 0, .slice none 0 0, .slice none 0 0]))
  have HZL := Lib.hid (Nat.succ_le_of_lt (Blk.new w2.drew 44 #[.int .i64 0, .int .i64 1, .int .i64 1, .int .i64 1, .int .i64 0, .int .i64 0, .int .i64 0, .slice none 0 0, .slice none 0 0, .int .i64 60, .int .i64 1, .int .i64 2, .int .i64 2, .int .i64 0, .int .i64 0, .int .i64 0, .slice none 0 0, .slice none 0 0]).lt)
  have BR2d : Below w2.heap.size w2 (w2.alloc (.cells #[.int .i64 0, .int .i64 1, .int .i64 1, .int .i64 1, .int .i64 0, .int .i64 0, .int .i64 0, .slice none 0 0, .slice none 0 0, .int .i64 60, .int .i64 1, .int .i64 2, .int .i64 2, .int .i64 0, .int .i64 0, .int .i64 0, .slice none 0 0, .slice none 0 0] 44)).drew := BR2
  clear hat
  go_region_held3 (fun w' => Below w2.heap.size w2 w' ∧ (∀ b o, b < w2.heap.size → w'.cell? ⟨b, o, none⟩ = w2.cell? ⟨b, o, none⟩)) ((refine keepS ?_; first | with_reducible exact BR | with_reducible exact BR2 | with_reducible exact BR2d | with_reducible exact BR3)) (first | (go_at_call 20; refine (goneS_any L2.out HZL.out (by omega)).mono ?_; rintro e3 w3 ⟨A4, m4, c4, rfl, hb3, hrow4⟩; have BR3 := BR2.trans (hb3.mono BR2.size); obtain rfl : m4 = 1 := by (have := hrow4.1; rw [kyCells_length, ex_gone] at this; omega)))
  all_goals (go_wp2; go_ret; exact ⟨rfl, B2.out.trans (BR3.mono hz2)⟩)
end Go.Proofs.YtfdfdmbnggpnbaaGreat
namespace Go.Proofs.YtfdfdmbnggpnbaaGreat
open Go.RowKit Go.Lib Go.Sort Go.Deep

theorem own_hds {w : World} {base n c : Nat} {A : Option Addr} {L : List Hd} (h : w.ownsRow base 40 7 (.slice A n c) n (cellsBy encHd L)) : Hds w w.heap.size A n L := by
  have hl := own_lenH encHd_len (by omega) h
  refine ⟨hl, fun hn => ?_⟩
  obtain ⟨x, hx⟩ : ∃ x, L[0]? = some x := ⟨_, List.getElem?_eq_getElem (by omega)⟩
  obtain ⟨g, rfl, -, hgl, -⟩ := own_item encHd_len (by omega) h hx
  refine ⟨g, 0, rfl, hgl, fun j y hy => ?_⟩
  have hr := item_range h hy
  rw [Nat.zero_add]
  exact HdAt.of_range hr
theorem Hds.part {w : World} {B n c k e : Nat} {A : Option Addr} {L : List Hd} (h : Hds w B A n L) (hk : k ≤ e) (he : e ≤ n) (hc : n ≤ c) : Hds w B (if c = k then A else Option.map (fun x => x.add (k * 7)) A) (e - k) ((L.drop k).take (e - k)) := by
  have hl := h.1
  refine ⟨by rw [List.length_take, List.length_drop]; omega, fun h0 => ?_⟩
  obtain ⟨b, o, rfl, hb, hat⟩ := h.2 (by omega)
  rw [if_neg (by omega)]
  refine ⟨b, o + k * 7, by rw [Option.map_some, addr_add], hb, fun j x hx => ?_⟩
  have hj := (List.getElem?_eq_some_iff.1 hx).1
  rw [List.length_take] at hj
  rw [List.getElem?_take_of_lt (by omega), List.getElem?_drop] at hx
  have := hat _ x hx
  rwa [show o + (k + j) * 7 = o + k * 7 + j * 7 by omega] at this
theorem same13_yes {w : World} {A A' : Option Addr} {n c n' c' B B' : Nat} {L L' : List Hd} (hL : Hds w B A n L) (hL' : Hds w B' A' n' L') (hB : B ≤ w.heap.size) (hB' : B' ≤ w.heap.size) (hn : n ≤ 1000) (hn' : n' ≤ 1000) (e : L = L') :
    Calls Tryz.prog 9 #[.slice A n c, .slice A' n' c'] w fun e w' => e = .returned (.bool true) ∧ ∃ q, w' = w.drewN q := by
  have := same13_any hL hL' hB hB' hn hn' (c := c) (c' := c')
  rwa [decide_eq_true e] at this
theorem own_base_le {w : World} {base n size q : Nat} {t : TypeId} {v : Value} {xs : List Value} (h : w.ownsRow base t size v n xs) (hq : v.ownBlock = some q) : base ≤ q := by
  rcases h.2 with ⟨hv, _⟩ | ⟨g, cap, cur, hv, hb, hg, -⟩
  · subst hv
    cases hq
  · subst hv
    have h2 : some g = some q := hq
    injection h2 with h2
    omega
end Go.Proofs.YtfdfdmbnggpnbaaGreat
namespace Go.Proofs.YtfdfdmbnggpnbaaGreat
open Go.RowKit Go.Lib Go.Sort Go.Deep

theorem lackStep_len {S : List La} {K : List Hd} {x : Hd} : (lackStep S K x).length ≤ K.length + 1 := by
  unfold lackStep
  split
  · split
    · simp
    · split
      · split
        · simp
        · omega
      · omega
  · omega
theorem lacksF_len {S : List La} : ∀ (L K : List Hd), (L.foldl (lackStep S) K).length ≤ K.length + L.length
  | [], _ => Nat.le_refl _
  | a :: L, K => by
    have h1 := lacksF_len (S := S) L (lackStep S K a)
    have h2 := lackStep_len (S := S) (K := K) (x := a)
    rw [List.foldl_cons, List.length_cons]
    omega
theorem lacksL_len (S : List La) (L : List Hd) : (lacksL S L).length ≤ L.length := by
  have := lacksF_len (S := S) L []
  rw [List.length_nil, Nat.zero_add] at this
  exact this
theorem own_lit0 (w : World) : (w.alloc (.cells #[] 40)).ownsRow w.heap.size 40 7 (.slice (some ⟨w.heap.size, 0, none⟩) 0 0) 0 [] :=
  ⟨rfl, .inr ⟨w.heap.size, 0, #[], rfl, Nat.le_refl _, Blk.new w 40 #[], Nat.le_refl _, by unfold maxLen; omega, rfl, rfl⟩⟩
theorem pdb_age {w : World} {lo p : Nat} {room : Int} {S : List La} {F : Nat → Prop} (h : PDb w lo p room S F) {k : Ky} {y : La} (hy : getL S k = some y) : ageB y.h = true := by
  obtain ⟨_, _, _, -, -, -, -, -, -, -, -, h5, -⟩ := h
  rw [ageB_iff]
  exact right_age (h5 y (getL_some hy).1)
set_option maxRecDepth 20000 in
set_option maxHeartbeats 16000000 in
theorem lacks_walk {w : World} {A A2 : Option Addr} {n c n2 c2 : Nat} {T : List La} {L : List Hd} (hT : Las w w.heap.size A n T) (hn : n ≤ maxLen) (hL : Hds w w.heap.size A2 n2 L) (hn2 : n2 ≤ maxLen) (hk : ∀ h ∈ L, wfKy (keyH h)) :
    Calls Tryz.prog 3 #[.slice A n c, .slice A2 n2 c2] w fun e w' => e = .returned (.bool true) ∧ Below w.heap.size w w' := by
  have HT := Lib.hid hT
  have HN := Lib.hid hn
  have HL := Lib.hid hL
  have HN2 := Lib.hid hn2
  have HK := Lib.hid hk
  clear hT hn hL hn2 hk
  go_enter Tryz.func3, Tryz.ntmps3
  go_wp2_with fail
  refine (wakes_any _).mono ?_
  rintro e1 w1 ⟨rfl, hb1⟩
  have B1 := Lib.hid hb1
  clear hb1
  go_wp2_with fail
  refine (many_any A n c T w.heap.size w1 (HT.out.below B1.out) B1.out.size HN.out).mono ?_
  rintro e2 w2 ⟨⟨t, rfl, ht⟩, hb2⟩
  have B2 := Lib.hid (B1.out.trans (hb2.mono B1.out.size))
  clear hb2 B1
  cases t
  case true =>
    go_wp2
    go_ret
    exact ⟨rfl, B2.out⟩
  obtain ⟨hn60, h20⟩ := ht rfl
  have H20 := Lib.hid h20
  clear ht HN h20
  go_wp2_with fail
  refine (may_any A2 n2 c2 L w.heap.size w2 (HL.out.below B2.out) B2.out.size HN2.out).mono ?_
  rintro e2 w3 ⟨⟨t, rfl, ht⟩, hb3⟩
  have B3 := Lib.hid (B2.out.trans (hb3.mono B2.out.size))
  clear hb3 B2
  cases t
  case false =>
    go_wp2
    go_ret
    exact ⟨rfl, B3.out⟩
  obtain ⟨hn100, hag⟩ := ht rfl
  have HAG := Lib.hid hag
  clear ht HN2 hag
  go_wp2_with fail
  refine (both13_any (HT.out.below B3.out) B3.out.size (by omega) H20.out).mono ?_
  rintro e4 w4 ⟨lo2, p, g, S, F, F', rfl, hb4, hlo2, hD⟩
  have B4 := Lib.hid (B3.out.trans (hb4.mono B3.out.size))
  have HS := Lib.hid hD.sort
  have PD := Lib.hid hD.1
  have RD := Lib.hid hD.2.1
  have hzw := B4.out.size
  clear hb4 hD B3 H20 hlo2
  generalize w3.heap.size = lo at *
  have hln := HL.out.1
  have O5 := Lib.hid (own_lit0 w4)
  have B5 := Lib.hid (B4.out.alloc hzw (.cells #[] 40))
  have BA := Lib.hid ((Below.refl w4.heap.size w4).alloc (Nat.le_refl _) (.cells #[] 40))
  have HL5 := Lib.hid (HL.out.below B5.out).cells
  go_wp2_with (at_builtin; refine wpList_append_any rfl (.tmp 22) (.tmp 23) 23 40 (.agg #[.int .i64 0, .int .i64 0, .int .i64 0, .int .i64 0, .int .i64 0, .int .i64 0, .int .i64 0]) 7 56 Tryz.underlying23 infoHd rfl (by decide) (by decide) rfl w4.heap.size (.slice (some ⟨w4.heap.size, 0, none⟩) 0 0) 0 [] (by rfl) O5.out A2 n2 c2 (cellsBy encHd L) (by rfl) (by rw [by_length encHd_len, hln]) HL5.out.1 HL5.out.2 (by_ones encHd_ones L) (by omega) (by simp) ?_; intro v6 w6 ho6 hg6)
  obtain ⟨A6, c6, rfl⟩ := own_slice ho6.out
  have ho7 := ho6.out
  rw [Nat.zero_add] at ho7 ⊢
  rw [List.nil_append] at ho7
  have hb6 : Below w4.heap.size w4 w6 := BA.out.trans (own_keeps7 O5.out hg6.out (by simp))
  have B6 := Lib.hid (B4.out.trans (hb6.mono hzw))
  have P6 := Lib.hid (PD.out.chg (F' := fun _ => False) (Chg.of_below hb6) (fun _ _ hf => hf))
  have R6 := Lib.hid (RD.out.chg (F' := fun _ => False) (Chg.of_below hb6) (fun _ _ hf => hf))
  have O6 := Lib.hid ho7
  have hz6 := B6.out.size
  clear ho6 hg6 ho7 hb6 HL5 BA O5 B5 B4 PD RD hzw
  generalize w4.heap.size = b6 at *
  go_wp2_with fail
  refine (lacksS_any (F := F) (B := w6.heap.size) (.inr ⟨lo, p, 40, rfl, P6.out, HS.out⟩) (own_hds O6.out) (Nat.le_refl _) hn100 HK.out (fun h hh y hy => ⟨HAG.out h hh, pdb_age P6.out hy⟩) (fun i j a b _ ha hb => ⟨HAG.out a (List.mem_of_getElem? ha), HAG.out b (List.mem_of_getElem? hb)⟩)).mono ?_
  rintro e7 w7 ⟨A7, m7, c7, rfl, hb7, hO7⟩
  have B7 := Lib.hid (B6.out.trans (hb7.mono hz6))
  have R7 := Lib.hid (R6.out.chg (F' := fun _ => False) (Chg.of_below hb7) (fun _ _ hf => hf))
  have Q7 := Lib.hid (own_chg O6.out (Chg.of_below (F := fun _ => False) hb7) (fun _ _ hf => hf))
  have O7 := Lib.hid hO7
  have hz7 := B7.out.size
  clear hb7 hO7 P6 R6 O6 B6
  go_wp2_with fail
  refine (rlacks_any R7.out (HL.out.below B7.out) hz7 hn100 HAG.out).mono ?_
  rintro e8 w8 ⟨A8, m8, c8, rfl, hb8, hO8⟩
  have B8 := Lib.hid (B7.out.trans (hb8.mono hz7))
  have Q8 := Lib.hid (own_chg Q7.out (Chg.of_below (F := fun _ => False) hb8) (fun _ _ hf => hf))
  have O78 := Lib.hid (own_chg O7.out (Chg.of_below (F := fun _ => False) hb8) (fun _ _ hf => hf))
  have O8 := Lib.hid hO8
  have hz8 := B8.out.size
  have hlk := lacksL_len S L
  have hm7 := own_lenH encHd_len (by omega) O78.out
  have hm8 := own_lenH encHd_len (by omega) hO8
  clear hb8 hO8 R7 Q7 O7 B7
  go_wp2_with fail
  refine (same13_yes (own_hds O78.out) (own_hds O8.out) (Nat.le_refl _) (Nat.le_refl _) (by omega) (by omega) rfl).mono ?_
  rintro e9 w9 ⟨rfl, q9, rfl⟩
  have W9 : Below w8.heap.size w8 (w8.drewN q9) := ⟨rfl, rfl, rfl, Nat.le_refl _, fun _ _ => rfl⟩
  have B9 := Lib.hid (B8.out.trans (W9.mono hz8))
  have Q9 := Lib.hid (own_chg Q8.out (Chg.of_below (F := fun _ => False) W9) (fun _ _ hf => hf))
  have hz9 : w.heap.size ≤ (w8.drewN q9).heap.size := hz8
  clear W9 Q8 O78 O8 B8 hlk hm7 hm8
  generalize w8.drewN q9 = w10 at *
  go_wp2_with fail
  refine (same13_yes (own_hds Q9.out) (HL.out.below B9.out) (Nat.le_refl _) hz9 (by omega) (by omega) rfl).mono ?_
  rintro e11 w11 ⟨rfl, q11, rfl⟩
  have W11 : Below w10.heap.size w10 (w10.drewN q11) := ⟨rfl, rfl, rfl, Nat.le_refl _, fun _ _ => rfl⟩
  have B11 := Lib.hid (B9.out.trans (W11.mono hz9))
  clear W11 Q9 B9
  go_wp2
  go_ret
  exact ⟨rfl, B11.out⟩
end Go.Proofs.YtfdfdmbnggpnbaaGreat
namespace Go.Proofs.YtfdfdmbnggpnbaaGreat
open Go.Lib Go.Sort

/-- In order, each once. -/
def Strict (K : List Ky) : Prop := K.Pairwise fun a b => lessKy a b = true
theorem le_lt {a b c : Ky} (h : lessKy b a = false) (h' : lessKy b c = true) : lessKy a c = true := by
  have n : ¬ lessKy b a = true := by rw [h]; decide
  rw [lessKy_iff] at n h' ⊢
  omega
theorem le_trans' {a b c : Ky} (h : lessKy b a = false) (h' : lessKy c b = false) : lessKy c a = false := by
  cases e : lessKy c a
  · rfl
  · have n1 : ¬ lessKy b a = true := by rw [h]; decide
    have n2 : ¬ lessKy c b = true := by rw [h']; decide
    rw [lessKy_iff] at n1 n2 e
    omega
theorem compact_strict {d : Array Ky} (hs : ∀ i j, i < j → j < d.size → lessKy d[j]! d[i]! = false) : ∀ m, m ≤ d.size →
    Strict (compactUpTo d m) ∧ (∀ x ∈ compactUpTo d m, ∃ j, j < m ∧ x = d[j]!) ∧ ∀ j, j < m → d[j]! ∈ compactUpTo d m
  | 0, _ => by
    have : compactUpTo d 0 = [] := rfl
    rw [this]
    exact ⟨List.Pairwise.nil, fun x hx => (by cases hx), fun j hj => absurd hj (by omega)⟩
  | m + 1, h => by
    obtain ⟨i1, i2, i3⟩ := compact_strict hs m (by omega)
    rw [compactUpTo_succ]
    cases hk : keeps d m
    · rw [if_neg (by decide), List.append_nil]
      unfold keeps at hk
      rw [decide_eq_false_iff_not] at hk
      have hm : m ≠ 0 := fun e => hk (.inl e)
      have he : d[m]! = d[m - 1]! := by
        rcases Classical.em (d[m]! = d[m - 1]!) with h | h
        · exact h
        · exact absurd (.inr h) hk
      refine ⟨i1, fun x hx => ?_, fun j hj => ?_⟩
      · obtain ⟨j, hj, e⟩ := i2 x hx
        exact ⟨j, by omega, e⟩
      · by_cases e : j = m
        · rw [e, he]
          exact i3 (m - 1) (by omega)
        · exact i3 j (by omega)
    · rw [if_pos rfl]
      unfold keeps at hk
      rw [decide_eq_true_iff] at hk
      refine ⟨List.pairwise_append.2 ⟨i1, by simp, fun a ha b hb => ?_⟩, fun x hx => ?_, fun j hj => ?_⟩
      · rw [List.mem_singleton] at hb
        subst hb
        obtain ⟨j, hj, rfl⟩ := i2 a ha
        have hne : d[m - 1]! ≠ d[m]! := fun e => by
          rcases hk with h0 | h0
          · omega
          · exact h0 e.symm
        have h1 := lessKy_total (hs (m - 1) m (by omega) (by omega)) hne.symm
        by_cases e : j = m - 1
        · rw [e]
          exact h1
        · exact le_lt (hs j (m - 1) (by omega) (by omega)) h1
      · rcases List.mem_append.1 hx with hx | hx
        · obtain ⟨j, hj, e⟩ := i2 x hx
          exact ⟨j, by omega, e⟩
        · exact ⟨m, by omega, List.mem_singleton.1 hx⟩
      · by_cases e : j = m
        · rw [e]
          exact List.mem_append.2 (.inr (List.mem_singleton.2 rfl))
        · exact List.mem_append.2 (.inl (i3 j (by omega)))
theorem dedup_strict {L : List Ky} (hs : L.Pairwise fun a b => leKy a b = true) : Strict (dedupK L) ∧ ∀ x, x ∈ dedupK L ↔ x ∈ L := by
  have h := compact_strict (d := L.toArray) (fun i j hij hj => by
    have hj' : j < L.length := by simpa using hj
    have := List.pairwise_iff_getElem.1 hs i j (by omega) hj' hij
    rw [getElem!_pos L.toArray i (by simp; omega), getElem!_pos L.toArray j hj]
    unfold leKy at this
    simpa using this) L.length (by simp)
  refine ⟨h.1, fun x => ⟨fun hx => ?_, fun hx => ?_⟩⟩
  · obtain ⟨j, hj, rfl⟩ := h.2.1 x hx
    rw [getElem!_pos L.toArray j (by simpa using hj)]
    simp
  · obtain ⟨j, hj⟩ := List.getElem?_of_mem hx
    have hl := (List.getElem?_eq_some_iff.1 hj).1
    have := h.2.2 j hl
    rw [getElem!_pos L.toArray j (by simpa using hl)] at this
    rw [← (List.getElem?_eq_some_iff.1 hj).2]
    unfold dedupK
    simpa using this
theorem gone_strict (S : List La) : Strict (goneL S) ∧ ∀ x, x ∈ goneL S ↔ x ∈ goneK S := by
  have h := dedup_strict (L := (goneK S).mergeSort leKy) (List.pairwise_mergeSort (le := leKy) (fun a b c h1 h2 => by
    unfold leKy at *
    rw [Bool.not_eq_true'] at *
    exact le_trans' h1 h2) (fun a b => by
    unfold leKy
    cases h1 : lessKy b a
    · rfl
    · cases h2 : lessKy a b
      · rfl
      · have := lessKy_trans h1 h2
        rw [lessKy_irrefl] at this
        cases this) _)
  exact ⟨h.1, fun x => (h.2 x).trans (List.mergeSort_perm _ _).mem_iff⟩
theorem gone_sort {S : List La} (hs : SortL S) : goneL S = goneK S := by
  obtain ⟨h3, h4⟩ := gone_strict S
  refine ky_ext h3 ?_ h4
  unfold goneK
  rw [List.pairwise_map]
  exact List.Pairwise.filter _ hs
/-- Of a database all is told or gone. -/
theorem gone_told {S : List La} (hs : SortL S) : (goneL S).length + (toldL S).length = S.length := by
  rw [gone_sort hs]
  unfold goneK toldL
  rw [List.length_map, List.length_map]
  induction S with
  | nil => rfl
  | cons x S ih =>
    have := ih hs.tail
    cases h : goneB x
    · rw [List.filter_cons_of_neg (by rw [h]; decide), List.filter_cons_of_pos (by rw [h]; rfl), List.length_cons, List.length_cons]
      omega
    · rw [List.filter_cons_of_pos h, List.filter_cons_of_neg (by rw [h]; decide), List.length_cons, List.length_cons]
      omega
end Go.Proofs.YtfdfdmbnggpnbaaGreat
