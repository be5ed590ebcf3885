/- The reference's Late, Cands, Drop, Set. Conditions: what the words say. -/
import Derived.Test.YtfapphndfgoknaaHl
namespace Go.Proofs.Ytfapphndfgoknaa
open Go.RowKit Go.Deep

set_option maxRecDepth 8000 in
set_option maxHeartbeats 4000000 in
theorem late_ref {w : World} {q : Nat} {G : Nat → Prop} {sf lan : Int} {X : List Pe} {A : Option Addr} {n c : Nat} (now : Int) (hnow : 0 ≤ now ∧ now ≤ 1048600) (h : RDb w q G sf lan X A n c) (hs : Srt X) :
    Calls Try.prog 12 #[.pointer (some ⟨q, 0, none⟩), .int .i64 now] w fun e w' => (∃ A' n' c', e = .returned (.slice A' n' c') ∧ w'.ownsRow w.heap.size 3 1 (.slice A' n' c') n' (cellsBy encI (lateL X now))) ∧ Below w.heap.size w w' := by
  generalize hQ : (fun (e : Ending) (w' : World) => (∃ A' n' c', e = .returned (.slice A' n' c') ∧ w'.ownsRow w.heap.size 3 1 (.slice A' n' c') n' (cellsBy encI (lateL X now))) ∧ Below w.heap.size w w') = Q
  have HQ := Lib.hid hQ
  have HLEN := Lib.hid h.len
  have HL15 := Lib.hid hs.len
  have HTK := Lib.hid hs.ticks
  have HD := Lib.hid h
  have HNOW := Lib.hid hnow
  clear hQ h hs hnow
  go_enter Try.func12, Try.ntmps12
  go_wp2_with fail
  go_loopw [5, 6] (fun s5 s6 wr => ∃ (j m c' : Nat) (A' : Option Addr), j ≤ n ∧ s6 = .int .i64 j ∧ s5 = .slice A' m c' ∧ Hid (wr.ownsRow w.heap.size 3 1 (.slice A' m c') m (cellsBy encI (lateL (X.take j) now))) ∧ Hid (Below w.heap.size w wr)) (fun _ i _ => n - (intOf i).toNat)
  case atStart => exact ⟨0, 0, 0, none, Nat.zero_le _, rfl, rfl, Lib.hid (World.ownsRow_nil _ _ _ _), Lib.hid (Below.refl _ _)⟩
  case round =>
    obtain ⟨j, m, c', A', hj, rfl, rfl, HR, HB⟩ := hrel
    have DR := Lib.hid (HD.out.below HB.out)
    obtain ⟨c0, c1, c2⟩ := DR.out.cells
    have hql := DR.out.obj.lt
    by_cases hlt : j < n
    · have hlt' : (j : Int) < n := by omega
      have hm := own_len encI_len (by omega) HR.out
      have HM := Lib.hid (show m ≤ 1000 by
        rw [← hm]
        have h1 : (lateL (X.take j) now).length ≤ (X.take j).length := by unfold lateL; rw [List.length_map]; exact List.length_filter_le _ _
        have h2 : (X.take j).length ≤ X.length := by simp; omega
        have := HL15.out
        omega)
      clear hm
      obtain ⟨x, hx⟩ : ∃ x, X[j]? = some x := ⟨X[j]'(by have := HLEN.out; omega), List.getElem?_eq_getElem (by have := HLEN.out; omega)⟩
      have HTX := Lib.hid (HTK.out x (List.mem_of_getElem? hx))
      obtain ⟨g, rfl, -, hgl, hnc, hcm, -, y0, y6⟩ := own_pe DR.out.row hx
      have HNX := Lib.hid (show lateL (X.take (j + 1)) now = lateL (X.take j) now ++ (if lateB now x = true then [x.id] else []) by
        unfold lateL
        rw [take_snocA X j x hx, List.filter_append, List.map_append]
        cases hlx : lateB now x <;> simp [hlx])
      unfold maxLen at hcm
      have ew : wrap64 (now - x.tick) = now - x.tick := by
        have h1 := HTX.out
        have h2 := HNOW.out
        unfold wrap64
        omega
      clear hx
      have hs1 := HB.out.size
      by_cases hlate : 8 ≤ now - x.tick
      · have d0 : decide (8 ≤ now - x.tick) = true := by simpa using hlate
        have HNY := Lib.hid (show lateL (X.take j) now ++ [x.id] = lateL (X.take (j + 1)) now by rw [HNX.out]; unfold lateB; rw [d0]; rfl)
        clear hlate
        go_wp2_with (at_builtin; refine wpList_app_int rfl _ _ rfl x.id (by rfl) (by rfl) HR.out HM.out hs1 ?_; intro A3 c3 w3 ho3 hb3)
        rw [HNY.out] at ho3
        have B3 := Lib.hid (HB.out.trans hb3.out)
        go_roundw
        case rel => exact ⟨j + 1, m + 1, c3, A3, by omega, by go_num, rfl, ho3, B3⟩
        case measure => simp [intOf]; omega
      · have d0 : decide (8 ≤ now - x.tick) = false := by simpa using hlate
        have HR2 := Lib.hid (show wr.ownsRow w.heap.size 3 1 (.slice A' m c') m (cellsBy encI (lateL (X.take (j + 1)) now)) by
          rw [HNX.out]
          unfold lateB
          rw [d0]
          simpa using HR.out)
        clear hlate
        go_wp2_with fail
        go_roundw
        case rel => exact ⟨j + 1, m, c', A', by omega, by go_num, rfl, HR2, HB⟩
        case measure => simp [intOf]; omega
    · have hjn : j = n := by omega
      have HR2 := Lib.hid (show wr.ownsRow w.heap.size 3 1 (.slice A' m c') m (cellsBy encI (lateL X now)) by
        have h1 : X.take j = X := by rw [hjn, ← HLEN.out, List.take_length]
        have := HR.out
        rwa [h1] at this)
      clear hjn HR
      go_wp2
      show Q (.returned (.slice A' m c')) wr
      rw [← HQ.out]
      exact ⟨⟨A', m, c', rfl, HR2.out⟩, HB.out⟩
set_option maxRecDepth 8000 in
set_option maxHeartbeats 4000000 in
theorem cands_ref {w : World} {q : Nat} {G : Nat → Prop} {sf lan : Int} {X : List Pe} {A : Option Addr} {n c : Nat} (h : RDb w q G sf lan X A n c) (hs : Srt X) :
    Calls Try.prog 34 #[.pointer (some ⟨q, 0, none⟩)] w fun e w' => (∃ A' n' c', e = .returned (.slice A' n' c') ∧ w'.ownsRow w.heap.size 69 4 (.slice A' n' c') n' (cellsBy encCd (cdsL X))) ∧ Below w.heap.size w w' := by
  generalize hQ : (fun (e : Ending) (w' : World) => (∃ A' n' c', e = .returned (.slice A' n' c') ∧ w'.ownsRow w.heap.size 69 4 (.slice A' n' c') n' (cellsBy encCd (cdsL X))) ∧ Below w.heap.size w w') = Q
  have HQ := Lib.hid hQ
  have HLEN := Lib.hid h.len
  have HL15 := Lib.hid hs.len
  have HD := Lib.hid h
  clear hQ h hs
  go_enter Try.func34, Try.ntmps34
  go_wp2_with fail
  go_loopw [3, 4] (fun s5 s6 wr => ∃ (j m c' : Nat) (A' : Option Addr), j ≤ n ∧ s6 = .int .i64 j ∧ s5 = .slice A' m c' ∧ Hid (wr.ownsRow w.heap.size 69 4 (.slice A' m c') m (cellsBy encCd (cdsL (X.take j)))) ∧ Hid (Below w.heap.size w wr)) (fun _ i _ => n - (intOf i).toNat)
  case atStart => exact ⟨0, 0, 0, none, Nat.zero_le _, rfl, rfl, Lib.hid (World.ownsRow_nil _ _ _ _), Lib.hid (Below.refl _ _)⟩
  case round =>
    obtain ⟨j, m, c', A', hj, rfl, rfl, HR, HB⟩ := hrel
    have DR := Lib.hid (HD.out.below HB.out)
    obtain ⟨c0, c1, c2⟩ := DR.out.cells
    have hql := DR.out.obj.lt
    by_cases hlt : j < n
    · have hlt' : (j : Int) < n := by omega
      have hm := own_len encCd_len (by omega) HR.out
      have HM := Lib.hid (show m ≤ 1000 by
        rw [← hm]
        have h1 : (cdsL (X.take j)).length ≤ (X.take j).length := by unfold cdsL; rw [List.length_map]; exact List.length_filter_le _ _
        have h2 : (X.take j).length ≤ X.length := by simp; omega
        have := HL15.out
        omega)
      clear hm
      obtain ⟨x, hx⟩ : ∃ x, X[j]? = some x := ⟨X[j]'(by have := HLEN.out; omega), List.getElem?_eq_getElem (by have := HLEN.out; omega)⟩
      obtain ⟨g, rfl, -, hgl, hnc, hcm, hrg, -, -⟩ := own_pe DR.out.row hx
      have RG := Lib.hid hrg
      have HNX := Lib.hid (show cdsL (X.take (j + 1)) = cdsL (X.take j) ++ (if x.two = true then [⟨x.id, x.prio, x.dr, x.bdr⟩] else []) by
        unfold cdsL
        rw [take_snocA X j x hx, List.filter_append, List.map_append]
        cases hxt : x.two <;> simp [hxt, cdP])
      unfold maxLen at hcm
      clear hx hrg
      go_upto_region 6 with (refine wpList_load_pe (y := x) (by rfl) _ rfl (by rfl) RG.out ?_)
      have K2 := Lib.hid (Blk.new wr 47 #[.int .i64 x.id, .int .i64 x.prio, .int .i64 x.dr, .int .i64 x.bdr, .int .i64 x.st, .bool x.two, .int .i64 x.tick])
      have B2 := Lib.hid (HB.out.alloc HB.out.size (.cells #[.int .i64 x.id, .int .i64 x.prio, .int .i64 x.dr, .int .i64 x.bdr, .int .i64 x.st, .bool x.two, .int .i64 x.tick] 47))
      have R2 := Lib.hid (HR.out.alloc (.cells #[.int .i64 x.id, .int .i64 x.prio, .int .i64 x.dr, .int .i64 x.bdr, .int .i64 x.st, .bool x.two, .int .i64 x.tick] 47))
      clear c0 c1 c2 hql hgl
      generalize wr.alloc (.cells #[.int .i64 x.id, .int .i64 x.prio, .int .i64 x.dr, .int .i64 x.bdr, .int .i64 x.st, .bool x.two, .int .i64 x.tick] 47) = w2 at *
      obtain ⟨k0, k1, k2, k3, k4, k5, k6⟩ := K2.out.seven
      have hl2 := K2.out.lt
      have hs2 := B2.out.size
      cases htw : x.two
      · have HR2 := Lib.hid (show w2.ownsRow w.heap.size 69 4 (.slice A' m c') m (cellsBy encCd (cdsL (X.take (j + 1)))) by
          rw [HNX.out, htw]
          simpa using R2.out)
        rw [htw] at k5
        go_wp2_with fail
        go_roundw
        case rel => exact ⟨j + 1, m, c', A', by omega, by go_num, rfl, HR2, B2⟩
        case measure => simp [intOf]; omega
      · have HNY := Lib.hid (show cdsL (X.take j) ++ [⟨x.id, x.prio, x.dr, x.bdr⟩] = cdsL (X.take (j + 1)) by rw [HNX.out, htw]; rfl)
        rw [htw] at k5
        go_wp2_with (at_builtin; refine wpList_app_cd rfl _ _ rfl ⟨x.id, x.prio, x.dr, x.bdr⟩ (by rfl) (by rfl) R2.out HM.out hs2 ?_; intro A3 c3 w3 ho3 hb3)
        rw [HNY.out] at ho3
        have B3 := Lib.hid (B2.out.trans hb3.out)
        go_roundw
        case rel => exact ⟨j + 1, m + 1, c3, A3, by omega, by go_num, rfl, ho3, B3⟩
        case measure => simp [intOf]; omega
    · have hjn : j = n := by omega
      have HR2 := Lib.hid (show wr.ownsRow w.heap.size 69 4 (.slice A' m c') m (cellsBy encCd (cdsL X)) by
        have h1 : X.take j = X := by rw [hjn, ← HLEN.out, List.take_length]
        have := HR.out
        rwa [h1] at this)
      clear hjn HR
      go_wp2
      show Q (.returned (.slice A' m c')) wr
      rw [← HQ.out]
      exact ⟨⟨A', m, c', rfl, HR2.out⟩, HB.out⟩
/-- A place that is left out; past the list: none is. -/
theorem erase_drop {i : Int} : ∀ {X : List Pe} {k : Nat} {x : Pe}, X.Pairwise (fun a b => a.id < b.id) → X[k]? = some x → x.id = i → X.eraseIdx k = dropX X i
  | [], k, x, _, h, _ => by simp at h
  | y :: l, 0, x, hr, h, hx => by
    simp at h
    subst h
    have hp := List.pairwise_cons.1 hr
    have e1 : (y.id != i) = false := by simp [hx]
    unfold dropX
    rw [List.filter_cons, e1]
    simp only [List.eraseIdx_cons_zero, Bool.false_eq_true, if_false]
    refine (List.filter_eq_self.2 (fun z hz => ?_)).symm
    have := hp.1 z hz
    simp
    omega
  | y :: l, k + 1, x, hr, h, hx => by
    have hp := List.pairwise_cons.1 hr
    have hl : l[k]? = some x := by simpa using h
    have h1 := hp.1 x (List.mem_of_getElem? hl)
    have e1 : (y.id != i) = true := by simp; omega
    have ih := erase_drop hp.2 hl hx
    unfold dropX at ih ⊢
    rw [List.filter_cons, e1, List.eraseIdx_cons_succ, ih]
    rfl
theorem erase_next {X : List Pe} {k j : Nat} {x : Pe} (hx : X[j]? = some x) : (X.take (j + 1)).eraseIdx k = if j = k then (X.take j).eraseIdx k else (X.take j).eraseIdx k ++ [x] := by
  have hj := (List.getElem?_eq_some_iff.1 hx).1
  have hl : (X.take j).length = j := by simp; omega
  rw [take_snocA X j x hx]
  by_cases h : j = k
  · subst h
    rw [if_pos rfl, List.eraseIdx_append_of_length_le (by omega), hl, Nat.sub_self, List.eraseIdx_of_length_le (l := X.take j) (by omega)]
    simp
  · rw [if_neg h]
    rcases Nat.lt_or_ge k j with h2 | h2
    · rw [List.eraseIdx_append_of_lt_length (by omega)]
    · rw [List.eraseIdx_append_of_length_le (by omega), List.eraseIdx_of_length_le (l := X.take j) (by omega), List.eraseIdx_of_length_le (by simp; omega)]
/-- The row of the reference's list is another one now. -/
theorem RDb.newrow {w : World} {q : Nat} {G : Nat → Prop} {sf lan : Int} {X Y : List Pe} {A A' : Option Addr} {n n' c c' base : Nat} (h : RDb w q G sf lan X A n c) (hb : base ≤ w.heap.size) (hg : ∀ k, G k → k < base) (hO : w.ownsRow base 47 7 (.slice A' n' c') n' (cellsBy encPe Y)) :
    RDb (w.setCell ⟨q, 2, none⟩ (.slice A' n' c')) q (fun k => G k ∨ (base ≤ k ∧ k < w.heap.size)) sf lan Y A' n' c' := by
  have hq := hg q h.gq
  refine ⟨h.obj.put 2 (.slice A' n' c'), own_ne (own_low hO (Nat.zero_le _)) _ _ (own_not hO (.inl hq)), .inl h.gq, fun k hk => .inr (hO.lt k hk), fun k hk => ?_⟩
  have : (w.setCell ⟨q, 2, none⟩ (.slice A' n' c')).heap.size = w.heap.size := by simp [World.setCell]
  rw [this]
  rcases hk with hk | hk
  · have := hg k hk; omega
  · exact hk.2
set_option maxRecDepth 8000 in
set_option maxHeartbeats 4000000 in
theorem drop_ref {w : World} {q : Nat} {G : Nat → Prop} {sf lan : Int} {X : List Pe} {A : Option Addr} {n c : Nat} (i : Int) (h : RDb w q G sf lan X A n c) (hs : Srt X) :
    Calls Try.prog 14 #[.pointer (some ⟨q, 0, none⟩), .int .i64 i] w fun e w' => e = .returned (.bool (findP X i).isSome) ∧ (∃ G' A' n' c', RDb w' q G' sf lan (dropX X i) A' n' c' ∧ ∀ k, G' k → G k ∨ w.heap.size ≤ k) ∧ Chg G w w' := by
  generalize hQ : (fun (e : Ending) (w' : World) => e = .returned (.bool (findP X i).isSome) ∧ (∃ G' A' n' c', RDb w' q G' sf lan (dropX X i) A' n' c' ∧ ∀ k, G' k → G k ∨ w.heap.size ≤ k) ∧ Chg G w w') = Q
  have HQ := Lib.hid hQ
  have HLEN := Lib.hid h.len
  have HL15 := Lib.hid hs.len
  have HD := Lib.hid h
  have HN := Lib.hid (show n ≤ 1000 by have := h.len; have := hs.len; omega)
  obtain ⟨kk, hk1, hk2, hk3⟩ : ∃ kk : Nat, (∀ j : Nat, j < n → ((j : Int) != posI i X) = (decide (j ≠ kk))) ∧ X.eraseIdx kk = dropX X i ∧ decide ((0 : Int) ≤ posI i X) = (findP X i).isSome := by
    rcases posI_cases i X with ⟨e1, e2⟩ | ⟨k, x, e1, e2, e3⟩
    · refine ⟨n, fun j hj => ?_, ?_, ?_⟩
      · rw [e1]
        have h1 : j ≠ n := by omega
        simp [h1] <;> omega
      · rw [List.eraseIdx_of_length_le (by have := h.len; omega), drop_no e2]
      · rw [e1, e2]
        rfl
    · refine ⟨k, fun j hj => ?_, erase_drop hs.rise e2 (findP_is e3).2, ?_⟩
      · rw [e1]
        by_cases hjk : j = k
        · simp [hjk]
        · simp [hjk] <;> omega
      · rw [e1, e3]
        simp
  have HK1 := Lib.hid hk1
  have HK2 := Lib.hid hk2
  have HK3 := Lib.hid hk3
  clear hQ h hs hk1 hk2 hk3
  go_enter Try.func14, Try.ntmps14
  go_wp2_with fail
  refine (find_ref i HD.out HN.out).mono ?_
  rintro e1 w1 ⟨rfl, hq⟩
  rw [hq]
  clear hq w1
  generalize posI i X = at_ at *
  go_wp2_with fail
  go_loopw [6, 7] (fun s5 s6 wr => ∃ (j m c' : Nat) (A' : Option Addr), j ≤ n ∧ s6 = .int .i64 j ∧ s5 = .slice A' m c' ∧ Hid (wr.ownsRow w.heap.size 47 7 (.slice A' m c') m (cellsBy encPe ((X.take j).eraseIdx kk))) ∧ Hid (Below w.heap.size w wr)) (fun _ i _ => n - (intOf i).toNat)
  case atStart => exact ⟨0, 0, 0, none, Nat.zero_le _, rfl, rfl, Lib.hid (by simpa [cellsBy] using World.ownsRow_nil _ _ _ _), Lib.hid (Below.refl _ _)⟩
  case round =>
    obtain ⟨j, m, c', A', hj, rfl, rfl, HR, HB⟩ := hrel
    have DR := Lib.hid (HD.out.below HB.out)
    obtain ⟨c0, c1, c2⟩ := DR.out.cells
    have hql := DR.out.obj.lt
    by_cases hlt : j < n
    · have hlt' : (j : Int) < n := by omega
      have hm := own_len encPe_len (by omega) HR.out
      have HM := Lib.hid (show m ≤ 1000 by
        rw [← hm]
        have h1 : ((X.take j).eraseIdx kk).length ≤ (X.take j).length := List.length_eraseIdx_le _ _
        have h2 : (X.take j).length ≤ X.length := by simp; omega
        have := HL15.out
        omega)
      clear hm
      obtain ⟨x, hx⟩ : ∃ x, X[j]? = some x := ⟨X[j]'(by have := HLEN.out; omega), List.getElem?_eq_getElem (by have := HLEN.out; omega)⟩
      obtain ⟨g, rfl, -, hgl, hnc, hcm, hrg, -, -⟩ := own_pe DR.out.row hx
      have RG := Lib.hid hrg
      have HNX := Lib.hid (erase_next (k := kk) hx)
      unfold maxLen at hcm
      have hs1 := HB.out.size
      clear hx hrg
      have hd := HK1.out j hlt
      by_cases hjk : j = kk
      · have d0 : ((j : Int) != at_) = false := by rw [hd]; simp [hjk]
        have HR2 := Lib.hid (show wr.ownsRow w.heap.size 47 7 (.slice A' m c') m (cellsBy encPe ((X.take (j + 1)).eraseIdx kk)) by
          rw [HNX.out, if_pos hjk]
          exact HR.out)
        clear hd hjk
        go_wp2_with fail
        go_roundw
        case rel => exact ⟨j + 1, m, c', A', by omega, by go_num, rfl, HR2, HB⟩
        case measure => simp [intOf]; omega
      · have d0 : ((j : Int) != at_) = true := by rw [hd]; simp [hjk]
        have HNY := Lib.hid (show (X.take j).eraseIdx kk ++ [x] = (X.take (j + 1)).eraseIdx kk by rw [HNX.out, if_neg hjk])
        clear hd hjk
        go_wp2_with (first
          | (refine wpList_load_pe (y := x) (by rfl) _ rfl (by rfl) RG.out ?_)
          | (at_builtin; refine wpList_app_pe rfl _ _ rfl x (by rfl) (by rfl) HR.out HM.out hs1 ?_; intro A3 c3 w3 ho3 hb3))
        rw [HNY.out] at ho3
        have B3 := Lib.hid (HB.out.trans hb3.out)
        go_roundw
        case rel => exact ⟨j + 1, m + 1, c3, A3, by omega, by go_num, rfl, ho3, B3⟩
        case measure => simp [intOf]; omega
    · have hjn : j = n := by omega
      have HR2 := Lib.hid (show wr.ownsRow w.heap.size 47 7 (.slice A' m c') m (cellsBy encPe (dropX X i)) by
        have h1 : X.take j = X := by rw [hjn, ← HLEN.out, List.take_length]
        have := HR.out
        rwa [h1, HK2.out] at this)
      have HN2 := Lib.hid (DR.out.newrow HB.out.size HD.out.gl HR2.out)
      have HC := Lib.hid ((Chg.of_below (F := G) HB.out).setCell ⟨q, 2, none⟩ HD.out.gq (.slice A' m c'))
      have z2 := DR.out.obj.frozen 2
      clear hjn HR
      go_wp2
      show Q (.returned (.bool (decide ((0 : Int) ≤ at_)))) (wr.setCell ⟨q, 2, none⟩ (.slice A' m c'))
      rw [← HQ.out]
      exact ⟨by rw [HK3.out], ⟨_, A', m, c', HN2.out, fun k hk => by rcases hk with hk | hk; exact .inl hk; exact .inr hk.1⟩, HC.out⟩
end Go.Proofs.Ytfapphndfgoknaa
