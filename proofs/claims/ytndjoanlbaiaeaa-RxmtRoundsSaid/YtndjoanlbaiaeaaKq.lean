/- The walk of the statement RxmtRounds. Conditions: what the words say. -/
import Derived.Test.YtndjoanlbaiaeaaKp
namespace Go.Proofs.Ytndjoanlbaiaeaa
open Go.RowKit Go.Shelf Go.Lib Go.Sort Go.Deep

/-- One neighbor's list, of which the first k are acknowledged. -/
structure RD (n : Int × Int) (S : List Ky) (L : List Rw) (k : Nat) : Prop where
  mem : ∀ x, x ∈ L ↔ x.n = n ∧ x.k ∈ S.drop k
section
variable {n : Int × Int} {S K : List Ky} {L : List Rw} {k : Nat} {x : Ky}
theorem RD.start (n : Int × Int) (K : List Ky) : RD n (srtK K) (putsK [] n K) 0 := ⟨fun x => by
  rw [(puts_all (n := n) (K := K) (L := []) List.nodup_nil).2, List.drop_zero, (srt_all K).2]
  simp⟩
theorem RD.next (h : RD n S L k) (hs : Strict S) : srtK (onL L n) = S.drop k := by
  refine ky_ext (srt_all _).1 (hs.sublist (List.drop_sublist k S)) fun y => ?_
  rw [(srt_all _).2, mem_onL, h.mem]
  simp
theorem drop_head {i : Nat} (hs : Strict S) (hx : S[i]? = some x) : S.drop i = x :: S.drop (i + 1) ∧ x ∉ S.drop (i + 1) := by
  have e := drop_at hx
  refine ⟨e, fun hm => ?_⟩
  have h1 : Strict (S.drop i) := hs.sublist (List.drop_sublist i S)
  rw [e] at h1
  have h2 := (List.pairwise_cons.1 h1).1 x hm
  rw [lessKy_irrefl] at h2
  cases h2
theorem RD.ack (h : RD n S L k) (hs : Strict S) (hx : S[k]? = some x) : Rw.mk n x ∈ L ∧ RD n S (ackK L n x) (k + 1) ∧ hasK (ackK L n x) x = false := by
  obtain ⟨e, hn⟩ := drop_head hs hx
  have hm : RD n S (ackK L n x) (k + 1) := ⟨fun y => by
    rw [mem_ackK, h.mem, e, List.mem_cons]
    obtain ⟨yn, yk⟩ := y
    simp only
    constructor
    · rintro ⟨⟨h1, h2⟩, h3⟩
      refine ⟨h1, h2.resolve_left fun e2 => h3 (by rw [h1, e2])⟩
    · rintro ⟨h1, h2⟩
      refine ⟨⟨h1, .inr h2⟩, fun e2 => hn ?_⟩
      injection e2 with _ e2
      rw [← e2]
      exact h2⟩
  refine ⟨(h.mem _).2 ⟨rfl, by rw [e]; exact List.mem_cons_self⟩, hm, ?_⟩
  cases hh : hasK (ackK L n x) x with
  | false => rfl
  | true =>
    obtain ⟨y, hy⟩ := hasK_iff.1 hh
    exact absurd ((hm.mem _).1 hy).2 hn
theorem RD.skip (h : RD n S L k) (hk : S.length ≤ k) {j : Nat} (hj : k ≤ j) : RD n S L j := ⟨fun x => by
  rw [h.mem, List.drop_eq_nil_of_le hk, List.drop_eq_nil_of_le (by omega)]⟩
theorem RD.none (h : RD n S L k) (hk : S.length ≤ k) : L = [] := by
  rw [List.eq_nil_iff_forall_not_mem]
  intro x hx
  have h1 := ((h.mem x).1 hx).2
  rw [List.drop_eq_nil_of_le hk] at h1
  cases h1
theorem take3_at {i m : Nat} (hm : m ≤ 3) (hi : i < m) (hx : S[k + i]? = some x) : ((S.drop k).take 3)[i]? = some x := by
  rw [List.getElem?_take_of_lt (by omega), List.getElem?_drop]
  exact hx
end
theorem min3b (y : Nat) : ∃ m : Nat, min (3 : Int) (y : Int) = (m : Int) ∧ m ≤ 3 ∧ m ≤ y ∧ (m = 3 ∨ m = y) := by
  rcases Nat.lt_or_ge y 3 with h3 | h3
  · exact ⟨y, by omega, by omega, by omega, .inr rfl⟩
  · exact ⟨3, by omega, by omega, by omega, .inl rfl⟩
set_option maxRecDepth 20000 in
set_option maxHeartbeats 32000000 in
theorem rounds16_walk {w : World} {A : Option Addr} {nn c : Nat} {K : List Ky} {l i : Int} (hl : in64 l) (hi : in64 i) (hK : Kys w w.heap.size A nn K) (hwf : ∀ k ∈ K, wfKy k) (hnn : nn ≤ maxLen) : Calls Try.prog 4 #[.int .i64 l, .int .i64 i, .slice A nn c] w fun e w' => e = .returned (.bool true) ∧ Below w.heap.size w w' := by
  unfold maxLen at hnn
  generalize hQ : (fun (e : Ending) (w' : World) => e = .returned (.bool true) ∧ Below w.heap.size w w') = Q
  have HQ := Lib.hid hQ
  have HK := Lib.hid hK
  have HWF := Lib.hid hwf
  obtain ⟨n, hn1, hn2⟩ : ∃ n : Int × Int, n.1 = l ∧ n.2 = i := ⟨(l, i), rfl, rfl⟩
  subst hn1 hn2
  have HA := Lib.hid (show wfN n from ⟨hl, hi⟩)
  clear hQ hK hwf hl hi
  go_enter Try.func4, Try.ntmps4
  go_wp2_with fail
  refine (wakes_any _).mono ?_
  rintro e1 w1 ⟨rfl, hb1⟩
  have B1 := Lib.hid hb1
  clear hb1
  by_cases hn : 60 < nn
  · have hn' : (60 : Int) < nn := by omega
    go_wp2
    show Q (.returned (.bool true)) w1
    rw [← HQ.out]
    exact ⟨rfl, B1.out⟩
  have hn' : ¬ (60 : Int) < nn := by omega
  go_wp2_with fail
  refine (new_x _).mono ?_
  rintro e2 w2 ⟨p, F2, rfl, hb2, hX2, hp2, hF2⟩
  have X2 := Lib.hid hX2
  have B2 := Lib.hid (B1.out.trans (hb2.mono B1.out.size))
  have HF2 := Lib.hid (show ∀ q, F2 q → w.heap.size ≤ q from fun q hq => Nat.le_trans B1.out.size (hF2 q hq))
  clear hb2 hX2 hp2 hF2 B1
  go_wp2_with fail
  refine (put_x X2.out n HA.out (HK.out.below B2.out) B2.out.size HWF.out (by simp; omega)).mono ?_
  rintro e3 w3 ⟨rfl, F3, hX3, hC3, hF3⟩
  have X3 := Lib.hid hX3
  have B3 := Lib.hid (B2.out.trans (hC3.to_below (fun q hq => HF2.out q hq) B2.out.size))
  have HF3 := Lib.hid (show ∀ q, F3 q → w.heap.size ≤ q from fun q hq => by
    rcases hF3 q hq with h | h
    · exact HF2.out q h
    · exact Nat.le_trans B2.out.size h)
  clear hX3 hC3 hF3 X2 B2 HF2
  have HD3 := Lib.hid (RD.start n K)
  have hlen := len_mem (n := n) (K := K) X3.out.nodup (fun y => by rw [(puts_all (n := n) (K := K) (L := []) List.nodup_nil).2]; simp)
  rw [hlen]
  have HS := Lib.hid (srt_all K).1
  have HLL := Lib.hid (show (putsK [] n K).length ≤ 60 by have := putsK_len n K []; have := HK.out.1; simp at *; omega)
  have HSM := Lib.hid (show ∀ y ∈ srtK K, wfKy y from fun y hy => HWF.out y (((srt_all K).2 y).1 hy))
  have hsl : (srtK K).length ≤ nn := by
    have h1 := forget_len (putsK [] n K) n
    have h2 := putsK_len n K []
    have h3 := HK.out.1
    simp at h2
    omega
  have hs0 : 0 < nn → 1 ≤ (srtK K).length := fun h0 => by
    obtain ⟨y, hy⟩ : ∃ y, y ∈ K := List.exists_mem_of_ne_nil _ (fun e => by have := HK.out.1; rw [e] at this; simp at this; omega)
    exact List.length_pos_of_mem (((srt_all K).2 y).2 hy)
  generalize srtK K = S at *
  generalize putsK [] n K = L3 at *
  clear hlen
  obtain ⟨d, hd⟩ : ∃ d, S.length = d := ⟨_, rfl⟩
  rw [hd] at hsl hs0 ⊢
  have HDL := Lib.hid hd
  clear hd
  have c1 : ¬ (nn : Int) < (d : Int) := by omega
  by_cases hz : 0 < nn
  · have hz' : (0 : Int) < nn := by omega
    have hd1 := hs0 hz
    have c2 : ¬ (d : Int) < 1 := by omega
    clear hs0 hz
    go_wp2_with fail
    clear c1
    go_loopw [9] (fun s9 wr => ∃ (k : Nat) (L : List Rw) (F : Nat → Prop), k ≤ d + 3 ∧ s9 = .int .i64 k ∧ Hid (RxIs wr p L F) ∧ Hid (∀ q, F q → w.heap.size ≤ q) ∧ Hid (RD n S L k) ∧ Hid (L.length ≤ 60) ∧ Hid (Below w.heap.size w wr)) (fun i _ => d + 3 - (intOf i).toNat)
    case atStart => exact ⟨0, L3, F3, by omega, rfl, X3, HF3, HD3, HLL, B3⟩
    case round =>
      clear X3 HF3 HD3 HLL B3
      obtain ⟨k, L, F, hk, rfl, X4, HF4, HD4, HL4, B4⟩ := hrel
      generalize wr = w4 at *
      by_cases hlt : k < d
      · have hlt' : (k : Int) < d := by omega
        go_wp2_with fail
        refine (next_x X4.out n HA.out (by have := HL4.out; omega)).mono ?_
        rintro e5 w5 ⟨A5, m, c5, rfl, hb5, ho5⟩
        rw [HD4.out.next HS.out] at ho5
        have X5 := Lib.hid (X4.out.below hb5)
        have B5 := Lib.hid (B4.out.trans (hb5.mono B4.out.size))
        have hm5 := ho5.1
        rw [kyCells_length, List.length_take, List.length_drop, HDL.out] at hm5
        obtain ⟨m2, hmin, h23, h2y, h2d⟩ := min3b (d - k)
        obtain rfl : m = m2 := by omega
        have hsub : (d : Int) - (k : Int) = ((d - k : Nat) : Int) := by omega
        rw [← hsub] at hmin
        have HO5 := Lib.hid ho5
        have H2D := Lib.hid h2d
        have mm : ((m : Int) != (m : Int)) = false := by simp
        clear hb5 ho5 hm5 h2d X4 B4 hsub
        go_wp2_with fail
        clear hmin mm
        go_loopw [55] (fun s55 wr => ∃ (j : Nat) (L' : List Rw) (F' : Nat → Prop), j ≤ m ∧ s55 = .int .i64 j ∧ Hid (RxIs wr p L' F') ∧ Hid (∀ q, F' q → w.heap.size ≤ q) ∧ Hid (RD n S L' (k + j)) ∧ Hid (L'.length ≤ 60) ∧ Hid (Below w.heap.size w wr) ∧ Hid (wr.ownsRow w4.heap.size 34 3 (.slice A5 m c5) m (kyCells ((S.drop k).take 3)))) (fun i _ => m - (intOf i).toNat)
        case atStart => exact ⟨0, L, F, Nat.zero_le _, rfl, X5, HF4, HD4, HL4, B5, HO5⟩
        case round =>
          clear X5 HF4 HD4 HL4 B5 HO5
          obtain ⟨j, L6, F6, hj, rfl, X6, HF6, HD6, HL6, B6, HO6⟩ := hrel
          by_cases hjm : j < m
          · have hjm' : (j : Int) < m := by omega
            obtain ⟨x, hx⟩ : ∃ x, S[k + j]? = some x := ⟨_, List.getElem?_eq_getElem (by have := HDL.out; omega)⟩
            have HWX := Lib.hid (HSM.out x (List.mem_of_getElem? hx))
            obtain ⟨g, rfl, -, hgl, hnc, hcm, y0, y1, y2⟩ := own_kyH HO6.out (take3_at h23 hjm hx)
            unfold maxLen at hcm
            obtain ⟨a1, a2, a3⟩ := HD6.out.ack HS.out hx
            have A1 := Lib.hid a1
            have A2 := Lib.hid a2
            have A3 := Lib.hid a3
            have Y7 := Lib.hid (Blk.new wr 34 #[.int .i64 x.kind, .int .i64 x.id, .int .i64 x.adv])
            have X7 := Lib.hid (X6.out.below ((Below.refl wr.heap.size wr).alloc (Nat.le_refl _) (.cells #[.int .i64 x.kind, .int .i64 x.id, .int .i64 x.adv] 34)))
            have B7 := Lib.hid (B6.out.alloc B6.out.size (.cells #[.int .i64 x.kind, .int .i64 x.id, .int .i64 x.adv] 34))
            have O7 := Lib.hid (HO6.out.alloc (.cells #[.int .i64 x.kind, .int .i64 x.id, .int .i64 x.adv] 34))
            clear a1 a2 a3 hx X6 B6 HO6 HD6
            obtain ⟨k0, k1, k2⟩ := Y7.out.three
            go_wp2_with fail
            refine (ack_x X7.out n HA.out x HWX.out).mono ?_
            rintro e8 w8 ⟨rfl, F8, hX8, hC8, hF8⟩
            rw [decide_eq_true A1.out]
            have X8 := Lib.hid hX8
            have B8 := Lib.hid (B7.out.trans (hC8.to_below (fun q hq => HF6.out q hq) B7.out.size))
            have Y8 := Lib.hid (Y7.out.chg hC8 (RxIs.no_blk X7.out Y7.out))
            have O8 := Lib.hid (own_chg O7.out hC8 (fun q hq => RxIs.no_own X7.out O7.out hq))
            have HF8 := Lib.hid (show ∀ q, F8 q → w.heap.size ≤ q from fun q hq => by
              rcases hF8 q hq with h | h
              · exact HF6.out q h
              · exact Nat.le_trans B7.out.size h)
            clear hX8 hC8 hF8 X7 B7 Y7 O7 k0 k1 k2 HF6
            obtain ⟨k0, k1, k2⟩ := Y8.out.three
            go_wp2_with fail
            refine (hasR_x X8.out x HWX.out).mono ?_
            rintro e9 w9 ⟨rfl, hb9⟩
            rw [A3.out]
            have X9 := Lib.hid (X8.out.below hb9)
            have B9 := Lib.hid (B8.out.trans (hb9.mono B8.out.size))
            have O9 := Lib.hid (own_below2 O8.out hb9)
            have HL9 := Lib.hid (show (ackK L6 n x).length ≤ 60 from Nat.le_trans (List.length_filter_le _ _) HL6.out)
            clear hb9 X8 B8 Y8 O8 k0 k1 k2
            go_wp2
            go_roundw
            case rel => exact ⟨j + 1, ackK L6 n x, F8, by omega, by go_num, X9, HF8, A2, HL9, B9, O9⟩
            case measure => simp [intOf]; omega
          · have hjm' : ¬ (j : Int) < m := by omega
            have HD9 := Lib.hid (show RD n S L6 (k + 3) from by
              have hjm2 : j = m := by omega
              subst hjm2
              rcases H2D.out with e | e
              · rw [← e]
                exact HD6.out
              · exact HD6.out.skip (by have := HDL.out; omega) (by omega))
            clear HD6 HO6
            go_wp2
            go_roundw
            case rel => exact ⟨k + 3, by omega, by go_num, L6, F6, X6, HF6, HD9, HL6⟩
            case measure => simp [intOf]; omega
      · have hlt' : ¬ (k : Int) < d := by omega
        have HE := Lib.hid (HD4.out.none (by have := HDL.out; omega))
        go_wp2_with fail
        refine (len_i X4.out n HA.out).mono ?_
        rintro e5 w5 ⟨rfl, rfl⟩
        rw [show (onL L n).length = 0 by rw [HE.out]; rfl]
        go_wp2_with fail
        refine (next_x X4.out n HA.out (by have := HL4.out; omega)).mono ?_
        rintro e5 w5 ⟨A5, m, c5, rfl, hb5, ho5⟩
        have hm0 : m = 0 := by
          have h1 := ho5.1
          rw [HE.out, kyCells_length] at h1
          simp [onL, srtK] at h1
          omega
        subst hm0
        have B5 := Lib.hid (B4.out.trans (hb5.mono B4.out.size))
        clear hb5 ho5
        go_wp2
        show Q (.returned (.bool true)) w5
        rw [← HQ.out]
        exact ⟨rfl, B5.out⟩
  · have hz' : ¬ (0 : Int) < nn := by omega
    have hd0 : d ≤ 0 := by omega
    clear hs0 hz
    go_wp2_with fail
    clear c1
    go_loopw [9] (fun s9 wr => ∃ (k : Nat) (L : List Rw) (F : Nat → Prop), k ≤ d + 3 ∧ s9 = .int .i64 k ∧ Hid (RxIs wr p L F) ∧ Hid (∀ q, F q → w.heap.size ≤ q) ∧ Hid (RD n S L k) ∧ Hid (L.length ≤ 60) ∧ Hid (Below w.heap.size w wr)) (fun i _ => d + 3 - (intOf i).toNat)
    case atStart => exact ⟨0, L3, F3, by omega, rfl, X3, HF3, HD3, HLL, B3⟩
    case round =>
      clear X3 HF3 HD3 HLL B3
      obtain ⟨k, L, F, hk, rfl, X4, HF4, HD4, HL4, B4⟩ := hrel
      generalize wr = w4 at *
      by_cases hlt : k < d
      · exact absurd hlt (by omega)
      · have hlt' : ¬ (k : Int) < d := by omega
        have HE := Lib.hid (HD4.out.none (by have := HDL.out; omega))
        go_wp2_with fail
        refine (len_i X4.out n HA.out).mono ?_
        rintro e5 w5 ⟨rfl, rfl⟩
        rw [show (onL L n).length = 0 by rw [HE.out]; rfl]
        go_wp2_with fail
        refine (next_x X4.out n HA.out (by have := HL4.out; omega)).mono ?_
        rintro e5 w5 ⟨A5, m, c5, rfl, hb5, ho5⟩
        have hm0 : m = 0 := by
          have h1 := ho5.1
          rw [HE.out, kyCells_length] at h1
          simp [onL, srtK] at h1
          omega
        subst hm0
        have B5 := Lib.hid (B4.out.trans (hb5.mono B4.out.size))
        clear hb5 ho5
        go_wp2
        show Q (.returned (.bool true)) w5
        rw [← HQ.out]
        exact ⟨rfl, B5.out⟩
end Go.Proofs.Ytndjoanlbaiaeaa
