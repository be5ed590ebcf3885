/- The walk of the statement SummTells. Conditions: what the words say. -/
import Derived.Test.YtiibefgdlmjdgaaUx
import Derived.Test.YtiibefgdlmjdgaaUp
namespace Go.Proofs.Ytiibefgdlmjdgaa
open Go.RowKit Go.Lib Go.Sort Go.Deep

theorem own_hds {w : World} {base n c : Nat} {A : Option Addr} {L : List Hd} (h : w.ownsRow base 30 7 (.slice A n c) n (cellsBy encHd L)) : Hds w w.heap.size A n L := by
  have hl := own_lenH encHd_len (by omega) h
  refine ⟨hl, fun hn => ?_⟩
  obtain ⟨x, hx⟩ : ∃ x, L[0]? = some x := ⟨_, List.getElem?_eq_getElem (by omega)⟩
  obtain ⟨g, rfl, -, hgl, -⟩ := own_item encHd_len (by omega) h hx
  refine ⟨g, 0, rfl, hgl, fun j y hy => ?_⟩
  have hr := item_range h hy
  rw [Nat.zero_add]
  exact HdAt.of_range hr
theorem Hds.part {w : World} {B n c k e : Nat} {A : Option Addr} {L : List Hd} (h : Hds w B A n L) (hk : k ≤ e) (he : e ≤ n) (hc : n ≤ c) : Hds w B (if c = k then A else Option.map (fun x => x.add (k * 7)) A) (e - k) ((L.drop k).take (e - k)) := by
  have hl := h.1
  refine ⟨by rw [List.length_take, List.length_drop]; omega, fun h0 => ?_⟩
  obtain ⟨b, o, rfl, hb, hat⟩ := h.2 (by omega)
  rw [if_neg (by omega)]
  refine ⟨b, o + k * 7, by rw [Option.map_some, addr_add], hb, fun j x hx => ?_⟩
  have hj := (List.getElem?_eq_some_iff.1 hx).1
  rw [List.length_take] at hj
  rw [List.getElem?_take_of_lt (by omega), List.getElem?_drop] at hx
  have := hat _ x hx
  rwa [show o + (k + j) * 7 = o + k * 7 + j * 7 by omega] at this
theorem same13_yes {w : World} {A A' : Option Addr} {n c n' c' B B' : Nat} {L L' : List Hd} (hL : Hds w B A n L) (hL' : Hds w B' A' n' L') (hB : B ≤ w.heap.size) (hB' : B' ≤ w.heap.size) (hn : n ≤ 1000) (hn' : n' ≤ 1000) (e : L = L') :
    Calls Try.prog 33 #[.slice A n c, .slice A' n' c'] w fun e w' => e = .returned (.bool true) ∧ ∃ q, w' = w.drewN q := by
  have := same13_any hL hL' hB hB' hn hn' (c := c) (c' := c')
  rwa [decide_eq_true e] at this
theorem own_base_le {w : World} {base n size q : Nat} {t : TypeId} {v : Value} {xs : List Value} (h : w.ownsRow base t size v n xs) (hq : v.ownBlock = some q) : base ≤ q := by
  rcases h.2 with ⟨hv, _⟩ | ⟨g, cap, cur, hv, hb, hg, -⟩
  · subst hv
    cases hq
  · subst hv
    have h2 : some g = some q := hq
    injection h2 with h2
    omega
set_option maxRecDepth 20000 in
set_option maxHeartbeats 16000000 in
theorem tells_walk {w : World} {A : Option Addr} {n c : Nat} {T : List La} (hT : Las w w.heap.size A n T) (hn : n ≤ maxLen) : Calls Try.prog 6 #[.slice A n c] w fun e w' => e = .returned (.bool true) ∧ Below w.heap.size w w' := by
  have HT := Lib.hid hT
  have HN := Lib.hid hn
  clear hT hn
  go_enter Try.func6, Try.ntmps6
  go_wp2_with fail
  refine (wakes_any _).mono ?_
  rintro e1 w1 ⟨rfl, hb1⟩
  have B1 := Lib.hid hb1
  clear hb1
  go_wp2_with fail
  refine (many_any A n c T w.heap.size w1 (HT.out.below B1.out) B1.out.size HN.out).mono ?_
  rintro e2 w2 ⟨⟨t, rfl, ht⟩, hb2⟩
  have B2 := Lib.hid (B1.out.trans (hb2.mono B1.out.size))
  clear hb2 B1
  cases t
  case true =>
    go_wp2
    go_ret
    exact ⟨rfl, B2.out⟩
  obtain ⟨hn60, -⟩ := ht rfl
  clear ht HN
  go_wp2_with fail
  refine (new_any (HT.out.below B2.out) B2.out.size (by omega)).mono ?_
  rintro e3 w3 ⟨p, A1, N1, c1, K, rfl, hb3, hp3, hB3, hO3, hOrd, hStab⟩
  have B3 := Lib.hid (B2.out.trans (hb3.mono B2.out.size))
  have S3 := Lib.hid (sum_new hp3 hB3 hO3)
  have hlen : N1 ≤ n := by
    have h1 := own_lenH encHd_len (by omega) hO3
    have h2 := hStab.1
    have h3 := HT.out.1
    have h4 : (toldL T).length ≤ T.length := by
      unfold toldL
      rw [List.length_map]
      exact List.length_filter_le _ _
    omega
  have hp3b := hB3.lt
  clear hb3 hB3 hO3
  go_wp2_with fail
  refine (heads_any (HT.out.below B3.out) B3.out.size (by omega)).mono ?_
  rintro e4 w4 ⟨A2, N, c2, K2, rfl, hb4, hO4, hOrd2, hStab2⟩
  have hKK : K2 = K := (stab_unique swo_less hOrd hOrd2 (hStab.symm.trans hStab2)).symm
  subst hKK
  have hNN : N = N1 := by
    have h1 := own_lenH encHd_len (by omega) hO4
    have h2 := S3.out.len
    omega
  subst hNN
  have B4 := Lib.hid (B3.out.trans (hb4.mono B3.out.size))
  have S4 := Lib.hid (S3.out.below hb4)
  have O4 := Lib.hid hO4
  have HKL := Lib.hid (own_lenH encHd_len (by omega) hO4)
  have hc2 : N ≤ c2 ∧ c2 ≤ maxLen := by
    rcases hO4.2 with ⟨hv, hz⟩ | ⟨g, cap, cur, hv, hb, hg, h1, h2, h3, h4⟩
    · cases hv
      unfold maxLen
      omega
    · cases hv
      exact ⟨h1, h2⟩
  obtain ⟨hcN, hcM⟩ := hc2
  unfold maxLen at hcM
  clear hb4 hO4 S3 B3 hOrd hStab hOrd2 hStab2
  generalize hF : (fun q => w2.heap.size ≤ q ∧ q < w3.heap.size) = F at S4
  have HF := Lib.hid (show ∀ q, F q → w.heap.size ≤ q ∧ q < w3.heap.size from fun q hq => by
    rw [← hF] at hq
    have := B2.out.size
    exact ⟨by omega, hq.2⟩)
  clear hF
  obtain ⟨b3, hb3⟩ : ∃ b3, b3 = w3.heap.size := ⟨_, rfl⟩
  rw [← hb3] at O4 HF hp3b
  clear hb3 B2
  go_wp2_with fail
  go_loopw [5] (fun s5 wr => ∃ (k N' c' : Nat) (A' : Option Addr), s5 = .int .i64 k ∧ k ≤ N + 3 ∧ Hid (SumAt wr F p A' N' c' (K2.drop k)) ∧ Hid (wr.ownsRow b3 30 7 (.slice A2 N c2) N (cellsBy encHd K2)) ∧ Hid (Below w.heap.size w wr)) (fun s5 _ => N + 4 - (intOf s5).toNat)
  case atStart => exact ⟨0, N, c1, A1, rfl, Nat.zero_le _, S4, O4, B4⟩
  case round =>
    clear S4 O4 B4
    obtain ⟨k, N', c', A', rfl, hk, SW, OW, BW⟩ := hrel
    by_cases hend : k ≠ 0 ∧ N ≤ k
    · have hk0 : k ≠ 0 := hend.1
      have d8 : ((k : Int) == 0) = false := by simp; omega
      have d9 : decide (k < N) = false := by simp; omega
      have hK0 : K2.drop k = [] := List.drop_of_length_le (by have := HKL.out; omega)
      rw [hK0] at SW
      have hN0 : N' = 0 := by
        have := SW.out.len
        simpa using this.symm
      subst hN0
      clear hK0 hend
      have hpF := HF.out p SW.out.fp
      have hpw := BW.out.size
      have HB := Lib.hid BW.out
      go_wp2_with (first
          | (go_at_call 34; refine (pieceP_any SW.out (by omega)).mono ?_; rintro e5 w5 ⟨A5, m5, c5, rfl, hb5, hO5⟩; have S5 := SW.out.below hb5; obtain rfl : m5 = 0 := (by have := own_lenH encHd_len (by omega) hO5; simpa using this.symm))
          | (go_at_call 35; refine (more_any S5 (by omega)).mono ?_; rintro e7 w7 ⟨rfl, q7, rfl⟩)
          | (go_at_call 36; refine (step_any (S5.drewN q7) (by omega)).mono ?_; rintro e8 w8 ⟨rfl, A8, n8, c8, S8, hc8⟩)
          | (go_at_call 34; refine (pieceP_any S8 (by have := S8.len; simp at this; omega)).mono ?_; rintro e9 w9 ⟨A9, m9, c9, rfl, hb9, hO9⟩; obtain rfl : m9 = 0 := (by have := own_lenH encHd_len (by omega) hO9; simpa using this.symm)))
      go_ret
      refine ⟨rfl, ?_⟩
      have h1 : Below w.heap.size w w5 := BW.out.trans (hb5.mono hpw)
      have h2 : Below w.heap.size w (w5.drewN q7) := h1.trans ⟨rfl, rfl, rfl, Nat.le_refl _, fun _ _ => rfl⟩
      have h3 := h2.trans (hc8.to_below (fun q hq => by rw [hq]; exact hpF.1) h2.size)
      exact h3.trans (hb9.mono h3.size)
    · have hkN : k ≤ N := by omega
      have hN' : N' = N - k := by
        have := SW.out.len
        rw [List.length_drop, HKL.out] at this
        omega
      obtain ⟨E, hE⟩ : ∃ E, E = min (k + 3) N := ⟨_, rfl⟩
      have hmin : min ((k : Int) + 3) (N : Int) = (E : Int) := by omega
      obtain ⟨v, hv⟩ : ∃ v, decide (3 < N') = v := ⟨_, rfl⟩
      have dE : decide (E < N) = v := by
        rw [← hv]
        by_cases h3 : 3 < N'
        · simp only [h3, decide_true, decide_eq_true_iff]
          omega
        · simp only [h3, decide_false, decide_eq_false_iff_not]
          omega
      have w_k : IntKind.i64.wrap ((k : Int) + 3) = (k : Int) + 3 := by rw [IntKind.wrap_i64]; omega
      have hkE : k ≤ E := by omega
      have hEN : E ≤ N := by omega
      have hEc : E ≤ c2 := by omega
      have i_1 : (k : Int) ≤ (E : Int) := by omega
      have i_2 : (E : Int) ≤ (c2 : Int) := by omega
      have HEQ := Lib.hid (show (K2.drop k).take 3 = (K2.drop k).take (E - k) by
        rw [List.take_eq_take_iff, List.length_drop, HKL.out]
        omega)
      have HV := Lib.hid hv
      have hpt := fun (W : World) (hO : W.ownsRow b3 30 7 (.slice A2 N c2) N (cellsBy encHd K2)) => (own_hds hO).part hkE hEN hcN
      obtain ⟨A3, hA3⟩ : ∃ A3, (if c2 = k then A2 else Option.map (fun x => x.add (k * 7)) A2) = A3 := ⟨_, rfl⟩
      rw [hA3] at hpt
      have HPT := Lib.hid hpt
      clear hE hv hpt
      rcases Nat.eq_zero_or_pos k with h0 | h0
      · have d8 : ((k : Int) == 0) = true := by simp [h0]
        clear h0 hend
        go_wp2_with fail
        have SD : SumAt wr.drew F p A' N' c' (K2.drop k) := SW.out.move (fun _ _ _ => rfl) (Nat.le_refl _)
        have BD : Below wr.heap.size wr wr.drew := ⟨rfl, rfl, rfl, Nat.le_refl _, fun _ _ => rfl⟩
        go_region_held3 (fun _ => True) (exact trivial) (first
          | (go_at_call 34; refine (pieceP_any SD (by omega)).mono ?_; rintro e5 w5 ⟨A5, m5, c5, rfl, hb5, hO5⟩; have BD5 := BD.trans (show Below wr.heap.size wr.drew w5 from hb5); have S5 := SD.below hb5; have hm5 : m5 ≤ 3 := (by have := own_lenH encHd_len (by omega) hO5; rw [List.length_take] at this; omega); have OW5 := own_chg OW.out (Chg.of_below (F := fun _ => False) BD5) (fun _ _ hf => hf))
          | (go_at_call 33; refine (same13_yes (own_hds hO5) (HPT.out _ OW5) (Nat.le_refl _) (Nat.le_refl _) (by omega) (by omega) HEQ.out).mono ?_; rintro e6 w6 ⟨rfl, q6, rfl⟩)
          | (go_at_call 35; have hm := more_any (S5.drewN q6) (by omega); rw [HV.out] at hm; refine hm.mono ?_; rintro e7 w7 ⟨rfl, q7, rfl⟩)
          | (go_at_call 36; have hs := step_any (S5.drewN (q6 + q7)) (by omega); rw [HV.out] at hs; refine hs.mono ?_; rintro e8 w8 ⟨rfl, A8, n8, c8, S8, hc8⟩))
        have BD6 : Below wr.heap.size wr (w5.drewN (q6 + q7)) := BD5.trans (⟨rfl, rfl, rfl, Nat.le_refl _, fun _ _ => rfl⟩ : Below wr.heap.size w5 (w5.drewN (q6 + q7)))
        have hpF := HF.out p SW.out.fp
        have hpw := BW.out.size
        have S9 := Lib.hid (show SumAt w8 F p A8 n8 c8 (K2.drop (k + 3)) by rw [← List.drop_drop]; exact S8)
        have C9 := (Chg.of_below (F := fun q => q = p) BD6).trans hc8 (fun q hq => .inl hq)
        have O9 := Lib.hid (own_chg OW.out C9 (fun q hq e => by
          have := own_base_le OW.out hq
          omega))
        have B9 := Lib.hid (BW.out.trans (C9.to_below (fun q hq => by rw [hq]; exact hpF.1) hpw))
        clear SD BD BD5 S5 hm5 OW5 hb5 hO5 BD6 S8 hc8 C9 hpF hpw SW OW BW
        go_wp2
        go_roundw
        case rel => exact ⟨k + 3, n8, c8, A8, by go_num, by omega, S9, O9, B9⟩
        case measure => simp [intOf]; omega
      · have d8 : ((k : Int) == 0) = false := by simp; omega
        have hkN : k < N := by omega
        have d9 : decide (k < N) = true := by simp; omega
        clear h0 hend
        go_wp2_with fail
        have SD : SumAt wr.drew F p A' N' c' (K2.drop k) := SW.out.move (fun _ _ _ => rfl) (Nat.le_refl _)
        have BD : Below wr.heap.size wr wr.drew := ⟨rfl, rfl, rfl, Nat.le_refl _, fun _ _ => rfl⟩
        go_region_held3 (fun _ => True) (exact trivial) (first
          | (go_at_call 34; refine (pieceP_any SD (by omega)).mono ?_; rintro e5 w5 ⟨A5, m5, c5, rfl, hb5, hO5⟩; have BD5 := BD.trans (show Below wr.heap.size wr.drew w5 from hb5); have S5 := SD.below hb5; have hm5 : m5 ≤ 3 := (by have := own_lenH encHd_len (by omega) hO5; rw [List.length_take] at this; omega); have OW5 := own_chg OW.out (Chg.of_below (F := fun _ => False) BD5) (fun _ _ hf => hf))
          | (go_at_call 33; refine (same13_yes (own_hds hO5) (HPT.out _ OW5) (Nat.le_refl _) (Nat.le_refl _) (by omega) (by omega) HEQ.out).mono ?_; rintro e6 w6 ⟨rfl, q6, rfl⟩)
          | (go_at_call 35; have hm := more_any (S5.drewN q6) (by omega); rw [HV.out] at hm; refine hm.mono ?_; rintro e7 w7 ⟨rfl, q7, rfl⟩)
          | (go_at_call 36; have hs := step_any (S5.drewN (q6 + q7)) (by omega); rw [HV.out] at hs; refine hs.mono ?_; rintro e8 w8 ⟨rfl, A8, n8, c8, S8, hc8⟩))
        have BD6 : Below wr.heap.size wr (w5.drewN (q6 + q7)) := BD5.trans (⟨rfl, rfl, rfl, Nat.le_refl _, fun _ _ => rfl⟩ : Below wr.heap.size w5 (w5.drewN (q6 + q7)))
        have hpF := HF.out p SW.out.fp
        have hpw := BW.out.size
        have S9 := Lib.hid (show SumAt w8 F p A8 n8 c8 (K2.drop (k + 3)) by rw [← List.drop_drop]; exact S8)
        have C9 := (Chg.of_below (F := fun q => q = p) BD6).trans hc8 (fun q hq => .inl hq)
        have O9 := Lib.hid (own_chg OW.out C9 (fun q hq e => by
          have := own_base_le OW.out hq
          omega))
        have B9 := Lib.hid (BW.out.trans (C9.to_below (fun q hq => by rw [hq]; exact hpF.1) hpw))
        clear SD BD BD5 S5 hm5 OW5 hb5 hO5 BD6 S8 hc8 C9 hpF hpw SW OW BW
        go_wp2
        go_roundw
        case rel => exact ⟨k + 3, n8, c8, A8, by go_num, by omega, S9, O9, B9⟩
        case measure => simp [intOf]; omega
end Go.Proofs.Ytiibefgdlmjdgaa
