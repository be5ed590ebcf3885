/- The reference's Add to what is wanted; lists of heads compared. Conditions: at most 90000 heads, ages from 0 to 60. -/
import Derived.Test.YtnnkcgbnhjkahaaAt
import Derived.Test.YtnnkcgbnhjkahaaJaj
namespace Go.Proofs.Ytnnkcgbnhjkahaa
open Go.RowKit Go.Lib Go.Sort Go.Deep

set_option maxRecDepth 20000 in
set_option maxHeartbeats 8000000 in
theorem adds_r {w : World} {lo g : Nat} {S : List Hd} {F : Nat → Prop} {A : Option Addr} {n c B : Nat} {L : List Hd} (h : RwIs w lo g S F) (hs : SortH S) (hl : S.length + L.length ≤ 90000) (hL : Hds w B A n L) (hB : B ≤ lo) (ha : ∀ x ∈ L, ageB x = true) (hS : ∀ y ∈ S, ageB y = true) : Calls Try.prog 12 #[.pointer (some ⟨g, 0, none⟩), .slice A n c] w fun e w' => e = .returned (.int .i64 ((addsH S L).length : Int)) ∧ RefQ w lo g (addsH S L) F w' := by
  generalize hQ : (fun (e : Ending) (w' : World) => e = .returned (.int .i64 ((addsH S L).length : Int)) ∧ RefQ w lo g (addsH S L) F w') = Q
  have HQ := Lib.hid hQ
  have HS := Lib.hid hS
  have HA := Lib.hid ha
  have HSO := Lib.hid hs
  have HL := Lib.hid hL
  have HLN := Lib.hid hL.1
  have HLL := Lib.hid hl
  have Q0 := Lib.hid (RefQ.same h (Below.refl _ _))
  have hn9 : n ≤ 90000 := by have := HLL.out; have := HLN.out; omega
  clear hQ h hS ha hs hL hl
  go_enter Try.func12, Try.ntmps12
  go_wp2_with fail
  go_loopw [5] (fun s5 wr => ∃ (k : Nat) (T : List Hd), s5 = .int .i64 k ∧ k ≤ n ∧ Hid (T = addsH S (L.take k)) ∧ Hid (RefQ w lo g T F wr) ∧ Hid (Hds wr B A n L)) (fun s5 _ => n - (intOf s5).toNat)
  case atStart => exact ⟨0, S, rfl, Nat.zero_le _, Lib.hid (by simp [addsH]), Q0, HL⟩
  case round =>
    clear Q0 HL
    obtain ⟨k, T, rfl, hk, TW, QW, LW⟩ := hrel
    by_cases hlt : k < n
    · have hlt' : (k : Int) < (n : Int) := by omega
      obtain ⟨b, o, x, rfl, hgb, hx, hr⟩ := hds_item LW.out hlt
      have HR := Lib.hid hr
      have HAX := Lib.hid (HA.out x (List.mem_of_getElem? hx))
      have HTS := Lib.hid (show addH T x = addsH S (L.take (k + 1)) by rw [TW.out, ← addsH_snoc, ← take_snocA L k x hx])
      have HTA := Lib.hid (show ∀ y ∈ T, ageB y = true from fun y hy => by
        rw [TW.out] at hy
        rcases mem_addsH hy with h1 | h1
        · exact HS.out y h1
        · exact HA.out y (List.mem_of_mem_take h1))
      have HTL := Lib.hid (show T.length ≤ 90000 by
        have h1 := len_addsH S (L.take k)
        rw [← TW.out, List.length_take] at h1
        have := HLL.out
        omega)
      have HTO := Lib.hid (show SortH T by rw [TW.out]; exact sort_addsH HSO.out _)
      obtain ⟨F1, hr1, hc1, hf1⟩ := QW.out
      have HR1 := Lib.hid hr1
      have HC1 := Lib.hid (show Chg F w wr ∧ ∀ q, F1 q → F q ∨ w.heap.size ≤ q from ⟨hc1, hf1⟩)
      have hzB : B ≤ wr.heap.size := by
        obtain ⟨_, _, _, hB1, hlo, -⟩ := hr1
        have := hB1.lt
        omega
      clear hx hr hr1 hc1 hf1
      go_wp2_with (refine wpList_load_row 38 _ _ (by rfl) (.tmp 15) rfl (by rfl) HR.out Try.underlying38 rfl (by kernel_rfl) ?_)
      refine (add1_r HR1.out HTO.out HTL.out x HAX.out HTA.out).mono ?_
      rintro e3 w3 ⟨rfl, hq3⟩
      have L3 := Lib.hid (LW.out.below (by
        obtain ⟨F3, hr3, hc3, hf3⟩ := hq3
        exact hc3.to_below (fun q hq => Nat.le_trans hB (HR1.out.foot hq).1) hzB))
      have Q3 := Lib.hid (show RefQ w lo g (addH T x) F w3 by
        obtain ⟨F3, hr3, hc3, hf3⟩ := hq3
        refine ⟨F3, hr3, HC1.out.1.trans hc3 HC1.out.2, fun q hq => ?_⟩
        rcases hf3 q hq with h | h
        · exact HC1.out.2 q h
        · exact .inr (Nat.le_trans HC1.out.1.size h))
      clear hq3 LW QW HR1 HR
      go_wp2
      go_roundw
      case rel => exact ⟨k + 1, addH T x, by go_num, by omega, HTS, Q3, L3⟩
      case measure => simp [intOf]; omega
    · have hlt' : ¬ (k : Int) < (n : Int) := by omega
      have HT := Lib.hid (show T = addsH S L by rw [TW.out, List.take_of_length_le (by have := HLN.out; omega)])
      obtain ⟨F1, hr1, hc1, hf1⟩ := QW.out
      obtain ⟨A1, n1, c1, hB1, hlo1, hO1, hF1⟩ := hr1
      have c0 := hB1.cell 0
      simp at c0
      have HN := Lib.hid (own_lenH encHd_len (by omega) hO1)
      clear hB1 hlo1 hO1 hF1 hc1 hf1
      go_wp2
      show Q (.returned (.int .i64 (n1 : Int))) wr
      rw [← HQ.out]
      exact ⟨by rw [← HT.out, HN.out], by rw [← HT.out]; exact QW.out⟩
set_option maxRecDepth 8000 in
set_option maxHeartbeats 4000000 in
theorem same15_any {w : World} {A A' : Option Addr} {n c n' c' B B' : Nat} {L L' : List Hd} (hL : Hds w B A n L) (hL' : Hds w B' A' n' L') (hB : B ≤ w.heap.size) (hB' : B' ≤ w.heap.size) (hn : n ≤ 100000) (hn' : n' ≤ 100000) :
    Calls Try.prog 20 #[.slice A n c, .slice A' n' c'] w fun e w' => e = .returned (.bool (decide (L = L'))) ∧ ∃ q, w' = w.drewN q := by
  have H1 := Lib.hid hL
  have H2 := Lib.hid hL'
  have hl1 := hL.1
  have hl2 := hL'.1
  clear hL hL'
  go_enter Try.func20, Try.ntmps20
  by_cases hnn : n = n'
  · subst hnn
    have d1 : ((n : Int) != (n : Int)) = false := by simp
    go_wp2_with fail
    go_loopw [5] (fun i wr => ∃ k q : Nat, k ≤ n ∧ i = .int .i64 k ∧ Hid (L.take k = L'.take k) ∧ Hid (wr = w.drewN q)) (fun i _ => n - (intOf i).toNat)
    case atStart => exact ⟨0, 0, Nat.zero_le _, rfl, Lib.hid rfl, Lib.hid rfl⟩
    case round =>
      obtain ⟨k, q, hk, rfl, HT, HW⟩ := hrel
      by_cases hlt : k < n
      · have hlt' : (k : Int) < (n : Int) := by omega
        obtain ⟨b, o, x, rfl, hb, hx, hr⟩ := hds_item H1.out hlt
        obtain ⟨b', o', y, rfl, hb', hy, hr'⟩ := hds_item H2.out hlt
        have X1 := Lib.hid (take_snocA L k x hx)
        have Y1 := Lib.hid (take_snocA L' k y hy)
        have HX := Lib.hid hx
        have HY := Lib.hid hy
        have R1 := Lib.hid (show wr.rangeAt b (o + k * 7) [.int .i64 x.age, .int .i64 x.kind, .int .i64 x.id, .int .i64 x.adv, .int .i64 x.seq, .int .i64 x.sum, .int .i64 x.long] by rw [HW.out]; exact hr)
        have R2 := Lib.hid (show wr.rangeAt b' (o' + k * 7) [.int .i64 y.age, .int .i64 y.kind, .int .i64 y.id, .int .i64 y.adv, .int .i64 y.seq, .int .i64 y.sum, .int .i64 y.long] by rw [HW.out]; exact hr')
        have hbl : b < wr.heap.size := by rw [HW.out]; exact Nat.lt_of_lt_of_le hb hB
        have hbl' : b' < wr.heap.size := by rw [HW.out]; exact Nat.lt_of_lt_of_le hb' hB'
        clear hx hy hr hr' hb hb'
        have g0 : wr.cell? ⟨b, o + k * 7, none⟩ = some (.int .i64 x.age) := R1.out 0 _ rfl
        have g1 : wr.cell? ⟨b, o + k * 7 + 1, none⟩ = some (.int .i64 x.kind) := R1.out 1 _ rfl
        have g2 : wr.cell? ⟨b, o + k * 7 + 2, none⟩ = some (.int .i64 x.id) := R1.out 2 _ rfl
        have g3 : wr.cell? ⟨b, o + k * 7 + 3, none⟩ = some (.int .i64 x.adv) := R1.out 3 _ rfl
        have g4 : wr.cell? ⟨b, o + k * 7 + 4, none⟩ = some (.int .i64 x.seq) := R1.out 4 _ rfl
        have g5 : wr.cell? ⟨b, o + k * 7 + 5, none⟩ = some (.int .i64 x.sum) := R1.out 5 _ rfl
        have g6 : wr.cell? ⟨b, o + k * 7 + 6, none⟩ = some (.int .i64 x.long) := R1.out 6 _ rfl
        have f0 : wr.cell? ⟨b', o' + k * 7, none⟩ = some (.int .i64 y.age) := R2.out 0 _ rfl
        have f1 : wr.cell? ⟨b', o' + k * 7 + 1, none⟩ = some (.int .i64 y.kind) := R2.out 1 _ rfl
        have f2 : wr.cell? ⟨b', o' + k * 7 + 2, none⟩ = some (.int .i64 y.id) := R2.out 2 _ rfl
        have f3 : wr.cell? ⟨b', o' + k * 7 + 3, none⟩ = some (.int .i64 y.adv) := R2.out 3 _ rfl
        have f4 : wr.cell? ⟨b', o' + k * 7 + 4, none⟩ = some (.int .i64 y.seq) := R2.out 4 _ rfl
        have f5 : wr.cell? ⟨b', o' + k * 7 + 5, none⟩ = some (.int .i64 y.sum) := R2.out 5 _ rfl
        have f6 : wr.cell? ⟨b', o' + k * 7 + 6, none⟩ = some (.int .i64 y.long) := R2.out 6 _ rfl
        clear R1 R2
        have eH := fun W => equalHd x y W
        by_cases hxy : x = y
        · subst hxy
          rw [show sameHd x x = true from (sameHd_iff _ _).2 rfl] at eH
          have HN := Lib.hid (show L.take (k + 1) = L'.take (k + 1) by rw [X1.out, Y1.out, HT.out])
          clear X1 Y1 HX HY
          go_wp2_with fail
          go_quiet (fail)
          have HW2 := Lib.hid (show wr.drewN nq = w.drewN (q + nq) by rw [HW.out, World.drewN_drewN])
          clear g0 g1 g2 g3 g4 g5 g6 f0 f1 f2 f3 f4 f5 f6 eH hbl hbl' HW
          go_wp2
          go_roundw
          case rel => exact ⟨k + 1, q + nq, by omega, by go_num, HN, HW2⟩
          case measure => simp [intOf]; omega
        · rw [show sameHd x y = false from by rw [Bool.eq_false_iff]; exact fun h => hxy ((sameHd_iff _ _).1 h)] at eH
          have HN := Lib.hid (show ¬ L = L' from fun h => by
            have h1 := HX.out
            rw [h, HY.out] at h1
            injection h1 with h1
            exact hxy h1.symm)
          clear X1 Y1 HX HY
          go_wp2_with fail
          go_quiet (fail)
          have HW2 := Lib.hid (show wr.drewN nq = w.drewN (q + nq) by rw [HW.out, World.drewN_drewN])
          clear g0 g1 g2 g3 g4 g5 g6 f0 f1 f2 f3 f4 f5 f6 eH hbl hbl' HW
          go_wp2
          go_ret
          refine ⟨?_, q + nq, HW2.out⟩
          rw [decide_eq_false HN.out]
          rfl
      · have hlt' : ¬ (k : Int) < (n : Int) := by omega
        have HN := Lib.hid (show L = L' by
          have := HT.out
          rwa [List.take_of_length_le (by omega), List.take_of_length_le (by omega)] at this)
        go_wp2
        go_ret
        exact ⟨by rw [decide_eq_true HN.out]; rfl, q, HW.out⟩
  · have d1 : ((n : Int) != (n' : Int)) = true := by simp; omega
    have HN := Lib.hid (show ¬ L = L' from fun h => hnn (by rw [← hl1, ← hl2, h]))
    go_wp2
    go_ret
    exact ⟨by rw [decide_eq_false HN.out]; rfl, 0, rfl⟩
theorem same15_yes {w : World} {A A' : Option Addr} {n c n' c' B B' : Nat} {L L' : List Hd} (hL : Hds w B A n L) (hL' : Hds w B' A' n' L') (hB : B ≤ w.heap.size) (hB' : B' ≤ w.heap.size) (hn : n ≤ 100000) (hn' : n' ≤ 100000) (e : L = L') :
    Calls Try.prog 20 #[.slice A n c, .slice A' n' c'] w fun e w' => e = .returned (.bool true) ∧ ∃ q, w' = w.drewN q := by
  have := same15_any hL hL' hB hB' hn hn' (c := c) (c' := c')
  rwa [decide_eq_true e] at this
end Go.Proofs.Ytnnkcgbnhjkahaa
