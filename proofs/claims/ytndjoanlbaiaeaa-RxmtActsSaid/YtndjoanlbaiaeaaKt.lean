/- The document's First, Ack, Forget and Drop. Conditions: at most 100000 rows, numbers of 64 bits. -/
import Derived.Test.YtndjoanlbaiaeaaKs
namespace Go.Proofs.Ytndjoanlbaiaeaa
open Go.RowKit Go.Lib Go.Sort Go.Deep

theorem wpList_app_rw {wb : World} {ops : Array Oper} {rest : List Oper} {o : Oper} {a : Act} {Q : Exit → Act → World → Prop} (hgd : o.guard = none) (s x : Operand) (ho : o.op = .call { callee := .builtin .append, args := #[s, x], argTypes := #[27, 27] })
    {base n c : Nat} {A : Option Addr} {L : List Rw} (y : Rw) {g : Nat} (hgz : wb.heap.size = g) (hs : a.eval s = .slice A n c) (hx : a.eval x = .slice (some ⟨g, 0, none⟩) 1 1) (hown : wb.ownsRow base 61 5 (.slice A n c) n (cellsBy encRw L)) (hn : n ≤ 100000) (hbase : base ≤ wb.heap.size)
    (h : ∀ A' c' w', Hid (w'.ownsRow base 61 5 (.slice A' (n + 1) c') (n + 1) (cellsBy encRw (L ++ [y]))) → Hid (Chg (fun q => (Value.slice A n c).ownBlock = some q) wb w') → wpList Try.prog ops Q rest (a.put o.dst (.slice A' (n + 1) c')) w') : wpList Try.prog ops Q (o :: rest) a (wb.alloc (.cells #[.int .i64 y.n.1, .int .i64 y.n.2, .int .i64 y.k.kind, .int .i64 y.k.id, .int .i64 y.k.adv] 61)) := by
  subst hgz
  refine wpList_append_any hgd s x 27 61 (.agg #[.int .i64 0, .int .i64 0, .int .i64 0, .int .i64 0, .int .i64 0]) 5 40 Try.underlying27 infoRw rfl (by decide) (by decide) ho base (.slice A n c) n (cellsBy encRw L) hs (hown.alloc _) (some ⟨wb.heap.size, 0, none⟩) 1 1 (encRw y) hx rfl (fun h => by cases h) (news_new wb 61 (encRw y)) (encRw_ones y) (by omega) (by simp; omega) ?_
  intro v2 w2 ho2 hg2
  obtain ⟨A2, c2, rfl⟩ := own_slice ho2.out
  refine h A2 c2 w2 (Lib.hid (by rw [by_append, by_one]; exact ho2.out)) (Lib.hid ?_)
  exact (Chg.of_below (F := fun q => (Value.slice A n c).ownBlock = some q) ((Below.refl wb.heap.size wb).alloc (Nat.le_refl _) (.cells #[.int .i64 y.n.1, .int .i64 y.n.2, .int .i64 y.k.kind, .int .i64 y.k.id, .int .i64 y.k.adv] 61))).trans (Chg.of_grown hg2.out (fun q hq => hq)) (fun q hq => .inl hq)
theorem rw_range {w : World} {base n c j g : Nat} {L : List Rw} {x : Rw} (h : w.ownsRow base 61 5 (.slice (some ⟨g, 0, none⟩) n c) n (cellsBy encRw L)) (hj : L[j]? = some x) : w.rangeAt g (j * 5) [.int .i64 x.n.1, .int .i64 x.n.2, .int .i64 x.k.kind, .int .i64 x.k.id, .int .i64 x.k.adv] := fun i v hv => by
  have hi := (List.getElem?_eq_some_iff.1 hv).1
  obtain ⟨g', e, -, -, -, -, hc⟩ := own_item encRw_len (by omega) h hj
  injection e with e
  injection e with e
  subst e
  rw [hc i (by simpa using hi)]
  exact hv
theorem filt_snoc {α : Type} (f : α → Bool) (L : List α) (x : α) : (L ++ [x]).filter f = if f x = true then L.filter f ++ [x] else L.filter f := by
  rw [List.filter_append]
  by_cases h : f x = true
  · rw [if_pos h, List.filter_cons_of_pos h]
    rfl
  · rw [if_neg h, List.filter_cons_of_neg h, List.filter_nil, List.append_nil]
set_option maxRecDepth 20000 in
set_option maxHeartbeats 8000000 in
theorem first_r {w : World} {base n c : Nat} {A : Option Addr} {K : List Ky} (ho : w.ownsRow base 34 3 (.slice A n c) n (kyCells K)) : Calls Try.prog 22 #[.slice A n c] w fun e w' => ∃ (A' : Option Addr) (m c' : Nat), e = .returned (.slice A' m c') ∧ Below w.heap.size w w' ∧ w'.ownsRow w.heap.size 34 3 (.slice A' m c') m (kyCells (K.take 3)) := by
  generalize hQ : (fun (e : Ending) (w' : World) => ∃ (A' : Option Addr) (m c' : Nat), e = .returned (.slice A' m c') ∧ Below w.heap.size w w' ∧ w'.ownsRow w.heap.size 34 3 (.slice A' m c') m (kyCells (K.take 3))) = Q
  have HQ := Lib.hid hQ
  have HO := Lib.hid ho
  have HKN := Lib.hid (own_lenK ho)
  have O0 := Lib.hid (World.ownsRow_nil w w.heap.size 34 3)
  have B0 := Lib.hid (Below.refl w.heap.size w)
  clear hQ ho
  go_enter Try.func22, Try.ntmps22
  go_wp2_with fail
  go_loopw [3, 4] (fun s3 s4 wr => ∃ (k c' : Nat) (A' : Option Addr), s4 = .int .i64 k ∧ s3 = .slice A' k c' ∧ k ≤ 3 ∧ k ≤ n ∧ Hid (wr.ownsRow w.heap.size 34 3 (.slice A' k c') k (kyCells (K.take k))) ∧ Hid (Below w.heap.size w wr)) (fun _ s4 _ => 3 - (intOf s4).toNat)
  case atStart => exact ⟨0, 0, none, rfl, rfl, by omega, by omega, Lib.hid (by simpa [kyCells] using O0.out), B0⟩
  case round =>
    clear O0 B0
    obtain ⟨k, c', A', rfl, rfl, hk3, hkn, OW, BW⟩ := hrel
    have hz := BW.out.size
    by_cases h1 : k < n
    · have h1' : (k : Int) < (n : Int) := by omega
      by_cases h3 : k < 3
      · have h3' : (k : Int) < 3 := by omega
        obtain ⟨x, hx⟩ : ∃ x, K[k]? = some x := ⟨_, List.getElem?_eq_getElem (by have := HKN.out; omega)⟩
        obtain ⟨q, rfl, -, hql, hnc, hcm, y0, y1, y2⟩ := own_kyH (own_below2 HO.out BW.out) hx
        unfold maxLen at hcm
        have HT := Lib.hid (show K.take (k + 1) = K.take k ++ [x] by rw [List.take_add_one, hx]; rfl)
        clear hx
        go_wp2_with (at_builtin; refine wpList_app_ky3 rfl (.tmp 15) (.tmp 20) rfl x (g := wr.heap.size) rfl (by rfl) (by rfl) OW.out (by omega) hz ?_; intro A3 c3 w3 HO3 HC3)
        have O3 := Lib.hid (show w3.ownsRow w.heap.size 34 3 (.slice A3 (k + 1) c3) (k + 1) (kyCells (K.take (k + 1))) by rw [HT.out]; exact HO3.out)
        have B3 := Lib.hid (BW.out.trans (HC3.out.to_below (fun q hq => (OW.out.lt q hq).1) hz))
        clear HO3 HC3 OW BW y0 y1 y2 HT
        go_wp2
        go_roundw
        case rel => exact ⟨k + 1, c3, A3, by go_num, by first | rfl | go_num, by omega, by omega, O3, B3⟩
        case measure => simp [intOf]; omega
      · have h3' : ¬ (k : Int) < 3 := by omega
        obtain rfl : k = 3 := by omega
        go_wp2
        show Q (.returned (.slice A' 3 c')) wr
        rw [← HQ.out]
        exact ⟨A', 3, c', rfl, BW.out, OW.out⟩
    · have h1' : ¬ (k : Int) < (n : Int) := by omega
      have HT := Lib.hid (show K.take 3 = K.take k by rw [List.take_of_length_le (by have := HKN.out; omega), List.take_of_length_le (by have := HKN.out; omega)])
      go_wp2
      show Q (.returned (.slice A' k c')) wr
      rw [← HQ.out]
      exact ⟨A', k, c', rfl, BW.out, by rw [HT.out]; exact OW.out⟩
/-- Found just where it stands. -/
theorem find_here {L : List Rw} (hn : L.Nodup) {j : Nat} {y x : Rw} (hj : L[j]? = some y) : ((j : Int) != findR L x) = !decide (y = x) := by
  rcases findR_cases L x with ⟨e, hx⟩ | ⟨i, e, hi⟩
  · rw [e]
    have h1 : y ≠ x := fun e2 => hx (by rw [← e2]; exact List.mem_of_getElem? hj)
    rw [decide_eq_false h1]
    simp
  · rw [e]
    by_cases h : j = i
    · subst h
      rw [hj] at hi
      injection hi with hi
      rw [decide_eq_true hi]
      simp
    · have h1 : y ≠ x := fun e2 => h (by
        subst e2
        have h2 := (List.getElem?_eq_some_iff.1 hj).1
        exact (List.getElem?_inj h2 hn).1 (hj.trans hi.symm))
      rw [decide_eq_false h1]
      have : (j : Int) ≠ (i : Int) := by omega
      simpa using this
theorem find_is (L : List Rw) (x : Rw) : decide (findR L x ≥ 0) = decide (x ∈ L) := by
  rcases findR_cases L x with ⟨e, hx⟩ | ⟨i, e, hi⟩
  · rw [e, decide_eq_false hx]
    decide
  · rw [e, decide_eq_true (List.mem_of_getElem? hi)]
    simp
set_option maxRecDepth 20000 in
set_option maxHeartbeats 16000000 in
theorem ack_r {w : World} {lo g : Nat} {L : List Rw} {F : Nat → Prop} (h : RrIs w lo g L F) (hnd : L.Nodup) (n : Int × Int) (hn : wfN n) (k0 : Ky) (hk : wfKy k0) (hl : L.length ≤ 100000) : Calls Try.prog 13 #[.pointer (some ⟨g, 0, none⟩), .int .i64 n.1, .int .i64 n.2, .agg #[.int .i64 k0.kind, .int .i64 k0.id, .int .i64 k0.adv]] w fun e w' => e = .returned (.bool (decide (Rw.mk n k0 ∈ L))) ∧ RrQ w lo g (ackK L n k0) F w' := by
  obtain ⟨hw, A, nn, c, hB, hlo, hO, hF⟩ := h
  have HLN := Lib.hid (own_lenH encRw_len (by omega) hO)
  have HO := Lib.hid hO
  have HB := Lib.hid hB
  have HOK := Lib.hid hw
  have H := Lib.hid (show RrIs w lo g L F from ⟨hw, A, nn, c, hB, hlo, hO, hF⟩)
  have hgl := hB.lt
  have hnn : nn ≤ 100000 := by have := HLN.out; omega
  generalize hQ : (fun (e : Ending) (w' : World) => e = .returned (.bool (decide (Rw.mk n k0 ∈ L))) ∧ RrQ w lo g (ackK L n k0) F w') = Q
  have HQ := Lib.hid hQ
  have HND := Lib.hid hnd
  have HN := Lib.hid hn
  have HK := Lib.hid hk
  have B0 := Lib.hid ((Below.refl w.heap.size w).alloc (Nat.le_refl _) (.cells #[.int .i64 k0.kind, .int .i64 k0.id, .int .i64 k0.adv] 34))
  have H0 := Lib.hid (H.out.below B0.out)
  obtain ⟨z0, z1, z2⟩ := (Blk.new w 34 #[.int .i64 k0.kind, .int .i64 k0.id, .int .i64 k0.adv]).three
  clear hQ hw hB hlo hO hF hnd hn hk hl
  go_enter Try.func13, Try.ntmps13
  go_wp2_with fail
  refine (find_g H0.out n HN.out k0 HK.out).mono ?_
  rintro e1 wx ⟨rfl, hg1⟩
  have BX := Lib.hid (B0.out.trans ((below_grown13 hg1).mono B0.out.size))
  obtain ⟨at0, hat⟩ : ∃ at0, findR L ⟨n, k0⟩ = at0 := ⟨_, rfl⟩
  rw [hat]
  have HAT := Lib.hid hat
  clear hat hg1 z0 z1 z2 B0 H0
  go_wp2_with fail
  go_loopw [10, 11] (fun s1 s2 wr => ∃ (k m c' : Nat) (A' : Option Addr), s2 = .int .i64 k ∧ s1 = .slice A' m c' ∧ k ≤ nn ∧ m ≤ k ∧ Hid (wr.ownsRow wx.heap.size 61 5 (.slice A' m c') m (cellsBy encRw ((L.take k).filter (fun r => !decide (r = ⟨n, k0⟩))))) ∧ Hid (Below wx.heap.size wx wr)) (fun _ s2 _ => nn - (intOf s2).toNat)
  case atStart => exact ⟨0, 0, 0, none, rfl, rfl, by omega, by omega, Lib.hid (by simpa [cellsBy] using World.ownsRow_nil wx wx.heap.size 61 5), Lib.hid (Below.refl _ _)⟩
  case round =>
    obtain ⟨k, m, c', A', rfl, rfl, hkn, hmk, OW, BW⟩ := hrel
    have hz := BW.out.size
    have HWW := Lib.hid (BX.out.trans (BW.out.mono BX.out.size))
    have c0 := (HB.out.below HWW.out hgl).cell 0
    simp at c0
    by_cases hlt : k < nn
    · have hlt' : (k : Int) < (nn : Int) := by omega
      obtain ⟨y, hy⟩ : ∃ y, L[k]? = some y := ⟨_, List.getElem?_eq_getElem (by have := HLN.out; omega)⟩
      obtain ⟨q, rfl, -, hql, hnc, hcm, y0, y1, y2, y3, y4⟩ := own_rw (own_below2 HO.out HWW.out) hy
      unfold maxLen at hcm
      have RX := Lib.hid (rw_range (own_below2 HO.out HWW.out) hy)
      have HS := Lib.hid (filt_snoc (fun r => !decide (r = ⟨n, k0⟩)) (L.take k) y)
      rw [← take_snocR hy] at HS
      have HY := Lib.hid hy
      clear hy
      have HFH := Lib.hid (find_here (x := ⟨n, k0⟩) HND.out HY.out)
      by_cases he : y = ⟨n, k0⟩
      · have d1 : ((k : Int) != at0) = false := by rw [← HAT.out, HFH.out, decide_eq_true he]; rfl
        have HS2 := Lib.hid (show (L.take (k + 1)).filter (fun r => !decide (r = ⟨n, k0⟩)) = (L.take k).filter (fun r => !decide (r = ⟨n, k0⟩)) by rw [HS.out, if_neg (by simp [he])])
        clear he
        have O3 := Lib.hid (show wr.ownsRow wx.heap.size 61 5 (.slice A' m c') m (cellsBy encRw ((L.take (k + 1)).filter (fun r => !decide (r = ⟨n, k0⟩)))) by rw [HS2.out]; exact OW.out)
        clear OW HS HS2 RX
        go_wp2
        go_roundw
        case rel => exact ⟨k + 1, m, c', A', by go_num, rfl, by omega, by omega, O3, BW⟩
        case measure => simp [intOf]; omega
      · have d1 : ((k : Int) != at0) = true := by rw [← HAT.out, HFH.out, decide_eq_false he]; rfl
        have HS2 := Lib.hid (show (L.take (k + 1)).filter (fun r => !decide (r = ⟨n, k0⟩)) = (L.take k).filter (fun r => !decide (r = ⟨n, k0⟩)) ++ [y] by rw [HS.out, if_pos (by simp [he])])
        clear he y0 y1 y2 y3 y4
        go_wp2_with (first | refine wpList_load_row 61 _ _ (by rfl) (.tmp 35) rfl (by rfl) RX.out Try.underlying61 rfl (by kernel_rfl) ?_ | (at_builtin; refine wpList_app_rw rfl (.tmp 29) (.tmp 37) rfl y (g := wr.heap.size) rfl (by rfl) (by rfl) OW.out (by omega) hz ?_; intro A3 c3 w3 HO3 HC3))
        have O3 := Lib.hid (show w3.ownsRow wx.heap.size 61 5 (.slice A3 (m + 1) c3) (m + 1) (cellsBy encRw ((L.take (k + 1)).filter (fun r => !decide (r = ⟨n, k0⟩)))) by rw [HS2.out]; exact HO3.out)
        have B3 := Lib.hid (BW.out.trans (HC3.out.to_below (fun q hq => (OW.out.lt q hq).1) hz))
        clear HO3 HC3 OW BW HS HS2 RX
        go_wp2
        go_roundw
        case rel => exact ⟨k + 1, m + 1, c3, A3, by go_num, by first | rfl | go_num, by omega, by omega, O3, B3⟩
        case measure => simp [intOf]; omega
    · have hlt' : ¬ (k : Int) < (nn : Int) := by omega
      have HT := Lib.hid (show L.take k = L from List.take_of_length_le (by have := HLN.out; omega))
      rw [HT.out] at OW
      have f0 := (HB.out.below HWW.out hgl).frozen 0
      have HM := Lib.hid (own_lenH encRw_len (by omega) OW.out)
      have X := Lib.hid (RrQ.laid H.out HWW.out BX.out.size (fun x hx => HOK.out x (List.mem_filter.1 hx).1) OW.out)
      clear HM
      go_wp2
      show Q (.returned (.bool _)) _
      rw [← HQ.out]
      refine ⟨?_, X.out⟩
      rw [← find_is, HAT.out]
set_option maxRecDepth 20000 in
set_option maxHeartbeats 16000000 in
theorem forget_r {w : World} {lo g : Nat} {L : List Rw} {F : Nat → Prop} (h : RrIs w lo g L F) (n : Int × Int) (hl : L.length ≤ 100000) : Calls Try.prog 15 #[.pointer (some ⟨g, 0, none⟩), .int .i64 n.1, .int .i64 n.2] w fun e w' => e = .returned (.int .i64 ((onL L n).length : Int)) ∧ RrQ w lo g (forgetK L n) F w' := by
  obtain ⟨hw, A, nn, c, hB, hlo, hO, hF⟩ := h
  have HLN := Lib.hid (own_lenH encRw_len (by omega) hO)
  have HO := Lib.hid hO
  have HB := Lib.hid hB
  have HOK := Lib.hid hw
  have H := Lib.hid (show RrIs w lo g L F from ⟨hw, A, nn, c, hB, hlo, hO, hF⟩)
  have hgl := hB.lt
  have hnn : nn ≤ 100000 := by have := HLN.out; omega
  generalize hQ : (fun (e : Ending) (w' : World) => e = .returned (.int .i64 ((onL L n).length : Int)) ∧ RrQ w lo g (forgetK L n) F w') = Q
  have HQ := Lib.hid hQ
  obtain ⟨wx, hwx⟩ : ∃ wx, wx = w := ⟨_, rfl⟩
  have BX := Lib.hid (show Below w.heap.size w wx by rw [hwx]; exact Below.refl _ _)
  have HWX := Lib.hid hwx
  clear hQ hw hB hlo hO hF hl
  rw [← hwx]
  clear hwx
  go_enter Try.func15, Try.ntmps15
  go_wp2_with fail
  go_loopw [7, 8] (fun s1 s2 wr => ∃ (k m c' : Nat) (A' : Option Addr), s2 = .int .i64 k ∧ s1 = .slice A' m c' ∧ k ≤ nn ∧ m ≤ k ∧ Hid (wr.ownsRow wx.heap.size 61 5 (.slice A' m c') m (cellsBy encRw ((L.take k).filter (fun r => !decide (r.n = n))))) ∧ Hid (Below wx.heap.size wx wr)) (fun _ s2 _ => nn - (intOf s2).toNat)
  case atStart => exact ⟨0, 0, 0, none, rfl, rfl, by omega, by omega, Lib.hid (by simpa [cellsBy] using World.ownsRow_nil wx wx.heap.size 61 5), Lib.hid (Below.refl _ _)⟩
  case round =>
    obtain ⟨k, m, c', A', rfl, rfl, hkn, hmk, OW, BW⟩ := hrel
    have hz := BW.out.size
    have HWW := Lib.hid (BX.out.trans (BW.out.mono BX.out.size))
    have c0 := (HB.out.below HWW.out hgl).cell 0
    simp at c0
    by_cases hlt : k < nn
    · have hlt' : (k : Int) < (nn : Int) := by omega
      obtain ⟨y, hy⟩ : ∃ y, L[k]? = some y := ⟨_, List.getElem?_eq_getElem (by have := HLN.out; omega)⟩
      obtain ⟨q, rfl, -, hql, hnc, hcm, y0, y1, y2, y3, y4⟩ := own_rw (own_below2 HO.out HWW.out) hy
      unfold maxLen at hcm
      have RX := Lib.hid (rw_range (own_below2 HO.out HWW.out) hy)
      have HS := Lib.hid (filt_snoc (fun r => !decide (r.n = n)) (L.take k) y)
      rw [← take_snocR hy] at HS
      have HY := Lib.hid hy
      clear hy
      by_cases he : y.n = n
      · have d1 : (y.n.1 != n.1) = false := by rw [he]; simp
        have d2 : (y.n.2 != n.2) = false := by rw [he]; simp
        have HS2 := Lib.hid (show (L.take (k + 1)).filter (fun r => !decide (r.n = n)) = (L.take k).filter (fun r => !decide (r.n = n)) by rw [HS.out, if_neg (by simp [he])])
        clear he
        have O3 := Lib.hid (show wr.ownsRow wx.heap.size 61 5 (.slice A' m c') m (cellsBy encRw ((L.take (k + 1)).filter (fun r => !decide (r.n = n)))) by rw [HS2.out]; exact OW.out)
        clear OW HS HS2 RX
        go_wp2
        go_roundw
        case rel => exact ⟨k + 1, m, c', A', by go_num, rfl, by omega, by omega, O3, BW⟩
        case measure => simp [intOf]; omega
      · have HS2 := Lib.hid (show (L.take (k + 1)).filter (fun r => !decide (r.n = n)) = (L.take k).filter (fun r => !decide (r.n = n)) ++ [y] by rw [HS.out, if_pos (by simp [he])])
        by_cases h1 : y.n.1 = n.1
        · have h2 : ¬ y.n.2 = n.2 := fun e => he (Prod.ext h1 e)
          have d1 : (y.n.1 != n.1) = false := by simp [h1]
          have d2 : (y.n.2 != n.2) = true := by simp [h2]
          clear h1 h2 he
          go_wp2_with (first | refine wpList_load_row 61 _ _ (by rfl) (.tmp 47) rfl (by rfl) RX.out Try.underlying61 rfl (by kernel_rfl) ?_ | (at_builtin; refine wpList_app_rw rfl (.tmp 41) (.tmp 49) rfl y (g := wr.heap.size) rfl (by rfl) (by rfl) OW.out (by omega) hz ?_; intro A3 c3 w3 HO3 HC3))
          have O3 := Lib.hid (show w3.ownsRow wx.heap.size 61 5 (.slice A3 (m + 1) c3) (m + 1) (cellsBy encRw ((L.take (k + 1)).filter (fun r => !decide (r.n = n)))) by rw [HS2.out]; exact HO3.out)
          have B3 := Lib.hid (BW.out.trans (HC3.out.to_below (fun q hq => (OW.out.lt q hq).1) hz))
          clear HO3 HC3 OW BW HS HS2 RX
          go_wp2
          go_roundw
          case rel => exact ⟨k + 1, m + 1, c3, A3, by go_num, by first | rfl | go_num, by omega, by omega, O3, B3⟩
          case measure => simp [intOf]; omega
        · have d1 : (y.n.1 != n.1) = true := by simp [h1]
          clear h1 he
          go_wp2_with (first | refine wpList_load_row 61 _ _ (by rfl) (.tmp 47) rfl (by rfl) RX.out Try.underlying61 rfl (by kernel_rfl) ?_ | (at_builtin; refine wpList_app_rw rfl (.tmp 41) (.tmp 49) rfl y (g := wr.heap.size) rfl (by rfl) (by rfl) OW.out (by omega) hz ?_; intro A3 c3 w3 HO3 HC3))
          have O3 := Lib.hid (show w3.ownsRow wx.heap.size 61 5 (.slice A3 (m + 1) c3) (m + 1) (cellsBy encRw ((L.take (k + 1)).filter (fun r => !decide (r.n = n)))) by rw [HS2.out]; exact HO3.out)
          have B3 := Lib.hid (BW.out.trans (HC3.out.to_below (fun q hq => (OW.out.lt q hq).1) hz))
          clear HO3 HC3 OW BW HS HS2 RX
          go_wp2
          go_roundw
          case rel => exact ⟨k + 1, m + 1, c3, A3, by go_num, by first | rfl | go_num, by omega, by omega, O3, B3⟩
          case measure => simp [intOf]; omega
    · have hlt' : ¬ (k : Int) < (nn : Int) := by omega
      have HT := Lib.hid (show L.take k = L from List.take_of_length_le (by have := HLN.out; omega))
      rw [HT.out] at OW
      have f0 := (HB.out.below HWW.out hgl).frozen 0
      have HM := Lib.hid (own_lenH encRw_len (by omega) OW.out)
      have X := Lib.hid (RrQ.laid H.out HWW.out BX.out.size (fun x hx => HOK.out x (List.mem_filter.1 hx).1) OW.out)
      have hsub : (nn : Int) - (m : Int) = ((onL L n).length : Int) := by
        have h1 := forget_len L n
        have h2 := HLN.out
        have h3 : (forgetK L n).length = m := HM.out
        omega
      clear HM
      go_wp2
      show Q (.returned (.int .i64 ((onL L n).length : Int))) _
      rw [← HQ.out]
      exact ⟨rfl, X.out⟩
set_option maxRecDepth 20000 in
set_option maxHeartbeats 16000000 in
theorem drop_r {w : World} {lo g : Nat} {L : List Rw} {F : Nat → Prop} (h : RrIs w lo g L F) (k0 : Ky) (hl : L.length ≤ 100000) : Calls Try.prog 17 #[.pointer (some ⟨g, 0, none⟩), .agg #[.int .i64 k0.kind, .int .i64 k0.id, .int .i64 k0.adv]] w fun e w' => e = .returned (.int .i64 ((L.length - (dropK L k0).length : Nat) : Int)) ∧ RrQ w lo g (dropK L k0) F w' := by
  obtain ⟨hw, A, nn, c, hB, hlo, hO, hF⟩ := h
  have HLN := Lib.hid (own_lenH encRw_len (by omega) hO)
  have HO := Lib.hid hO
  have HB := Lib.hid hB
  have HOK := Lib.hid hw
  have H := Lib.hid (show RrIs w lo g L F from ⟨hw, A, nn, c, hB, hlo, hO, hF⟩)
  have hgl := hB.lt
  have hnn : nn ≤ 100000 := by have := HLN.out; omega
  generalize hQ : (fun (e : Ending) (w' : World) => e = .returned (.int .i64 ((L.length - (dropK L k0).length : Nat) : Int)) ∧ RrQ w lo g (dropK L k0) F w') = Q
  have HQ := Lib.hid hQ
  have BX := Lib.hid ((Below.refl w.heap.size w).alloc (Nat.le_refl _) (.cells #[.int .i64 k0.kind, .int .i64 k0.id, .int .i64 k0.adv] 34))
  have K0 := Lib.hid (Blk.new w 34 #[.int .i64 k0.kind, .int .i64 k0.id, .int .i64 k0.adv])
  clear hQ hw hB hlo hO hF hl
  go_enter Try.func17, Try.ntmps17
  go_wp2_with fail
  generalize w.alloc (.cells #[.int .i64 k0.kind, .int .i64 k0.id, .int .i64 k0.adv] 34) = wx at *
  go_loopw [5, 6] (fun s1 s2 wr => ∃ (k m c' : Nat) (A' : Option Addr), s2 = .int .i64 k ∧ s1 = .slice A' m c' ∧ k ≤ nn ∧ m ≤ k ∧ Hid (wr.ownsRow wx.heap.size 61 5 (.slice A' m c') m (cellsBy encRw ((L.take k).filter (fun r => !decide (r.k = k0))))) ∧ Hid (Below wx.heap.size wx wr)) (fun _ s2 _ => nn - (intOf s2).toNat)
  case atStart => exact ⟨0, 0, 0, none, rfl, rfl, by omega, by omega, Lib.hid (by simpa [cellsBy] using World.ownsRow_nil wx wx.heap.size 61 5), Lib.hid (Below.refl _ _)⟩
  case round =>
    obtain ⟨k, m, c', A', rfl, rfl, hkn, hmk, OW, BW⟩ := hrel
    have hz := BW.out.size
    have HWW := Lib.hid (BX.out.trans (BW.out.mono BX.out.size))
    have c0 := (HB.out.below HWW.out hgl).cell 0
    simp at c0
    by_cases hlt : k < nn
    · have hlt' : (k : Int) < (nn : Int) := by omega
      obtain ⟨y, hy⟩ : ∃ y, L[k]? = some y := ⟨_, List.getElem?_eq_getElem (by have := HLN.out; omega)⟩
      obtain ⟨q, rfl, -, hql, hnc, hcm, y0, y1, y2, y3, y4⟩ := own_rw (own_below2 HO.out HWW.out) hy
      unfold maxLen at hcm
      have RX := Lib.hid (rw_range (own_below2 HO.out HWW.out) hy)
      have HS := Lib.hid (filt_snoc (fun r => !decide (r.k = k0)) (L.take k) y)
      rw [← take_snocR hy] at HS
      have HY := Lib.hid hy
      clear hy
      have eR := fun W => equalKy y.k k0 W
      rw [sameKy_dec] at eR
      obtain ⟨z0, z1, z2⟩ := (K0.out.below BW.out K0.out.lt).three
      by_cases he : y.k = k0
      · rw [decide_eq_true he] at eR
        have HS2 := Lib.hid (show (L.take (k + 1)).filter (fun r => !decide (r.k = k0)) = (L.take k).filter (fun r => !decide (r.k = k0)) by rw [HS.out, if_neg (by simp [he])])
        clear he
        go_wp2_with fail
        go_quiet (fail)
        clear eR y0 y1 y2 y3 y4 z0 z1 z2
        have O3 := Lib.hid (show (wr.drewN nq).ownsRow wx.heap.size 61 5 (.slice A' m c') m (cellsBy encRw ((L.take (k + 1)).filter (fun r => !decide (r.k = k0)))) by rw [HS2.out]; exact own_chg OW.out (Chg.of_below (F := fun _ => False) (⟨rfl, rfl, rfl, Nat.le_refl _, fun _ _ => rfl⟩ : Below wr.heap.size wr (wr.drewN nq))) (fun _ _ hf => hf))
        have B3 := Lib.hid (below_drewN BW.out nq)
        clear OW HS HS2 RX
        go_wp2
        go_roundw
        case rel => exact ⟨k + 1, m, c', A', by go_num, rfl, by omega, by omega, O3, B3⟩
        case measure => simp [intOf]; omega
      · rw [decide_eq_false he] at eR
        have HS2 := Lib.hid (show (L.take (k + 1)).filter (fun r => !decide (r.k = k0)) = (L.take k).filter (fun r => !decide (r.k = k0)) ++ [y] by rw [HS.out, if_pos (by simp [he])])
        clear he
        go_wp2_with fail
        go_quiet (fail)
        have OW2 := Lib.hid (show (wr.drewN nq).ownsRow wx.heap.size 61 5 (.slice A' m c') m (cellsBy encRw ((L.take k).filter (fun r => !decide (r.k = k0)))) from own_chg OW.out (Chg.of_below (F := fun _ => False) (⟨rfl, rfl, rfl, Nat.le_refl _, fun _ _ => rfl⟩ : Below wr.heap.size wr (wr.drewN nq))) (fun _ _ hf => hf))
        have BW2 := Lib.hid (below_drewN BW.out nq)
        have RX2 := Lib.hid (show (wr.drewN nq).rangeAt q (k * 5) [.int .i64 y.n.1, .int .i64 y.n.2, .int .i64 y.k.kind, .int .i64 y.k.id, .int .i64 y.k.adv] from RX.out)
        have hz2 : wx.heap.size ≤ (wr.drewN nq).heap.size := hz
        have c02 : (wr.drewN nq).cell? ⟨g, 0, none⟩ = wr.cell? ⟨g, 0, none⟩ := rfl
        rw [c0] at c02
        clear eR y0 y1 y2 y3 y4 z0 z1 z2 OW BW RX hz c0
        have hql2 : q < (wr.drewN nq).heap.size := hql
        generalize wr.drewN nq = wr2 at *
        go_wp2_with (first | refine wpList_load_row 61 _ _ (by rfl) (.tmp 33) rfl (by rfl) RX2.out Try.underlying61 rfl (by kernel_rfl) ?_ | (at_builtin; refine wpList_app_rw rfl (.tmp 27) (.tmp 35) rfl y (g := wr2.heap.size) rfl (by rfl) (by rfl) OW2.out (by omega) hz2 ?_; intro A3 c3 w3 HO3 HC3))
        have O3 := Lib.hid (show w3.ownsRow wx.heap.size 61 5 (.slice A3 (m + 1) c3) (m + 1) (cellsBy encRw ((L.take (k + 1)).filter (fun r => !decide (r.k = k0)))) by rw [HS2.out]; exact HO3.out)
        have B3 := Lib.hid (BW2.out.trans (HC3.out.to_below (fun q hq => (OW2.out.lt q hq).1) hz2))
        clear HO3 HC3 OW2 BW2 HS HS2 RX2
        go_wp2
        go_roundw
        case rel => exact ⟨k + 1, m + 1, c3, A3, by go_num, by first | rfl | go_num, by omega, by omega, O3, B3⟩
        case measure => simp [intOf]; omega
    · have hlt' : ¬ (k : Int) < (nn : Int) := by omega
      have HT := Lib.hid (show L.take k = L from List.take_of_length_le (by have := HLN.out; omega))
      rw [HT.out] at OW
      have f0 := (HB.out.below HWW.out hgl).frozen 0
      have HM := Lib.hid (own_lenH encRw_len (by omega) OW.out)
      have X := Lib.hid (RrQ.laid H.out HWW.out BX.out.size (fun x hx => HOK.out x (List.mem_filter.1 hx).1) OW.out)
      have hsub : (nn : Int) - (m : Int) = ((L.length - (dropK L k0).length : Nat) : Int) := by
        have h2 := HLN.out
        have h3 : (dropK L k0).length = m := HM.out
        omega
      clear HM
      go_wp2
      show Q (.returned (.int .i64 ((L.length - (dropK L k0).length : Nat) : Int))) _
      rw [← HQ.out]
      exact ⟨rfl, X.out⟩
end Go.Proofs.Ytndjoanlbaiaeaa
