/- What is lacked, as the reference reckons it: plain facts; whether ages may be; which of two heads is newer, as the reference tells it, by new memory alone. Conditions: ages from 0 to 60 where they are compared. -/
import Derived.Test.YtiibefgdlmjdgaaGreatUx
namespace Go.Proofs.YtiibefgdlmjdgaaGreat
open Go.RowKit Go.Lib Go.Sort Go.Deep

/-- A head put over one of its key that is older. -/
def ovr (x g : Hd) : Hd := if sameKy (keyH g) (keyH x) = true then (if 0 < nw x g then x else g) else g
/-- The first j of a list gone through. -/
def inn (K : List Hd) (x : Hd) (j : Nat) : List Hd := (K.take j).map (ovr x) ++ K.drop j
/-- Is there one of its key among the first j? -/
def doneB (K : List Hd) (x : Hd) (j : Nat) : Bool := (K.take j).any fun g => sameKy (keyH g) (keyH x)
theorem keyH_ovr (x g : Hd) : keyH (ovr x g) = keyH g := by
  unfold ovr
  split
  · rename_i h
    split
    · exact ((sameKy_iff _ _).1 h).symm
    · rfl
  · rfl
theorem inn_len (K : List Hd) (x : Hd) (j : Nat) : (inn K x j).length = K.length := by
  unfold inn
  rw [List.length_append, List.length_map, List.length_take, List.length_drop]
  omega
theorem inn_zero (K : List Hd) (x : Hd) : inn K x 0 = K := by simp [inn]
theorem inn_all (K : List Hd) (x : Hd) : inn K x K.length = K.map (ovr x) := by simp [inn]
theorem inn_at {K : List Hd} {x g : Hd} {j : Nat} (h : K[j]? = some g) : (inn K x j)[j]? = some g := by
  have hj := (List.getElem?_eq_some_iff.1 h).1
  unfold inn
  rw [List.getElem?_append_right (by rw [List.length_map, List.length_take]; omega), List.length_map, List.length_take, Nat.min_eq_left (by omega), Nat.sub_self, List.getElem?_drop, Nat.add_zero]
  exact h
theorem drop_cons {K : List Hd} {g : Hd} {j : Nat} (h : K[j]? = some g) : K.drop j = g :: K.drop (j + 1) := by
  obtain ⟨hj, e⟩ := List.getElem?_eq_some_iff.1 h
  rw [List.drop_eq_getElem_cons hj, e]
theorem inn_next {K : List Hd} {x g : Hd} {j : Nat} (h : K[j]? = some g) : inn K x (j + 1) = (K.take j).map (ovr x) ++ ovr x g :: K.drop (j + 1) := by
  unfold inn
  rw [take_snocA K j g h, List.map_append, List.append_assoc]
  rfl
theorem inn_step {K : List Hd} {x g : Hd} {j : Nat} (h : K[j]? = some g) : inn K x (j + 1) = (inn K x j).set j (ovr x g) := by
  have hj := (List.getElem?_eq_some_iff.1 h).1
  rw [inn_next h]
  unfold inn
  rw [drop_cons h, List.set_append_right _ _ (by rw [List.length_map, List.length_take]; omega), List.length_map, List.length_take, Nat.min_eq_left (by omega), Nat.sub_self, List.set_cons_zero]
theorem inn_stay {K : List Hd} {x g : Hd} {j : Nat} (h : K[j]? = some g) (ho : ovr x g = g) : inn K x (j + 1) = inn K x j := by
  rw [inn_next h, ho]
  unfold inn
  rw [drop_cons h]
theorem done_step {K : List Hd} {x g : Hd} {j : Nat} (h : K[j]? = some g) : doneB K x (j + 1) = (doneB K x j || sameKy (keyH g) (keyH x)) := by
  unfold doneB
  rw [take_snocA K j g h, List.any_append]
  simp
theorem done_no {K : List Hd} {x : Hd} (h : doneB K x K.length = false) : ∀ g ∈ K, sameKy (keyH g) (keyH x) = false := by
  intro g hg
  unfold doneB at h
  rw [List.take_length] at h
  rw [List.any_eq_false] at h
  simpa using h g hg
theorem inn_none {K : List Hd} {x : Hd} (h : doneB K x K.length = false) : inn K x K.length = K := by
  rw [inn_all]
  conv => rhs; rw [← List.map_id K]
  apply List.map_congr_left
  intro g hg
  unfold ovr
  rw [done_no h g hg]
  rfl
/-- One head more, as the reference reckons it. -/
theorem lackStep_ref {S : List La} {K : List Hd} {x : Hd} (hp : (K.map keyH).Nodup) : lackStep S K x = if lackB S x = true then (if doneB K x K.length = true then inn K x K.length else K ++ [x]) else K := by
  unfold lackStep
  cases hl : lackB S x
  · rfl
  rw [if_pos rfl, if_pos rfl]
  cases hpl : placeK K (keyH x) with
  | none =>
    have hd : doneB K x K.length = false := by
      unfold doneB
      rw [List.take_length, List.any_eq_false]
      unfold placeK at hpl
      rw [List.findIdx?_eq_none_iff] at hpl
      intro g hg
      rw [hpl g hg]
      decide
    rw [hd, if_neg (by decide)]
  | some i =>
    unfold placeK at hpl
    rw [List.findIdx?_eq_some_iff_getElem] at hpl
    obtain ⟨hi, hs, -⟩ := hpl
    have hd : doneB K x K.length = true := by
      unfold doneB
      rw [List.take_length, List.any_eq_true]
      exact ⟨K[i], List.getElem_mem hi, hs⟩
    rw [hd, if_pos rfl, inn_all]
    dsimp only
    rw [List.getElem?_eq_getElem hi]
    dsimp only
    have hot : ∀ (n : Nat) (hn : n < K.length), n ≠ i → ovr x K[n] = K[n] := fun n hn hne => by
      unfold ovr
      rw [if_neg]
      intro h
      have e : keyH K[n] = keyH K[i] := ((sameKy_iff _ _).1 h).trans ((sameKy_iff _ _).1 hs).symm
      have hq := List.pairwise_iff_getElem.1 hp
      rcases Nat.lt_or_gt_of_ne hne with h1 | h1
      · exact hq n i (by simpa using hn) (by simpa using hi) h1 (by simpa using e)
      · exact hq i n (by simpa using hi) (by simpa using hn) h1 (by simpa using e.symm)
    have hov : ovr x K[i] = if 0 < nw x K[i] then x else K[i] := by
      unfold ovr
      rw [if_pos hs]
    split
    · rename_i h0
      rw [if_pos h0] at hov
      apply List.ext_getElem (by simp)
      intro n h1 h2
      rw [List.getElem_map, List.getElem_set]
      split
      · rename_i e
        subst e
        exact hov.symm
      · rename_i e
        exact (hot n (by simpa using h2) (fun h => e h.symm)).symm
    · rename_i h0
      rw [if_neg h0] at hov
      apply List.ext_getElem (by simp)
      intro n h1 h2
      rw [List.getElem_map]
      by_cases e : n = i
      · subst e
        exact hov.symm
      · exact (hot n h1 e).symm
theorem lackStep_nodup {S : List La} {K : List Hd} {x : Hd} (hp : (K.map keyH).Nodup) : ((lackStep S K x).map keyH).Nodup := by
  rw [lackStep_ref hp]
  split
  · split
    · rw [inn_all, List.map_map]
      have : keyH ∘ ovr x = keyH := funext fun g => keyH_ovr x g
      rw [this]
      exact hp
    · rename_i h
      rw [List.map_append, List.nodup_append]
      refine ⟨hp, by simp, ?_⟩
      intro a ha b hb e
      obtain ⟨g, hg, rfl⟩ := List.mem_map.1 ha
      rw [List.map_singleton, List.mem_singleton] at hb
      have := done_no (Bool.eq_false_iff.2 h) g hg
      rw [(sameKy_iff _ _).2 (e.trans hb)] at this
      cases this
  · exact hp
theorem lacksF_nodup {S : List La} : ∀ (L K : List Hd), (K.map keyH).Nodup → ((L.foldl (lackStep S) K).map keyH).Nodup
  | [], _, h => h
  | _ :: L, _, h => lacksF_nodup L _ (lackStep_nodup h)
theorem lacksL_nodup (S : List La) (L : List Hd) : ((lacksL S L).map keyH).Nodup := lacksF_nodup L [] List.nodup_nil
theorem lackB_none {S : List La} {x : Hd} (h : getL S (keyH x) = none) : lackB S x = true := by
  unfold lackB
  rw [h]
theorem lackB_some {S : List La} {x : Hd} {y : La} (h : getL S (keyH x) = some y) : lackB S x = decide (0 < nw x y.h) := by
  unfold lackB
  rw [h]

/-- What may answers. -/
def MayQ (n : Nat) (L : List Hd) (e : Ending) : Prop := ∃ t : Bool, e = .returned (.bool t) ∧ (t = true → n ≤ 100 ∧ ∀ x ∈ L, ageB x = true)
set_option maxRecDepth 8000 in
set_option maxHeartbeats 4000000 in
theorem may_any (A : Option Addr) (n c : Nat) (L : List Hd) (B : Nat) (w : World) (h : Hds w B A n L) (hB : B ≤ w.heap.size) (hn : n ≤ maxLen) :
    Calls Tryz.prog 7 #[.slice A n c] w fun e w' => MayQ n L e ∧ Below w.heap.size w w' := by
  unfold maxLen at hn
  have HP := Lib.hid h
  clear h
  go_enter Tryz.func7, Tryz.ntmps7
  go_wp2_with fail
  go_loopw [7] (fun i wr => ∃ k : Nat, k ≤ n ∧ i = .int .i64 k ∧ Hid (∀ (m : Nat) (a : Hd), m < k → L[m]? = some a → ageB a = true) ∧ Hid (Below w.heap.size w wr)) (fun i _ => n - (intOf i).toNat)
  case atStart => exact ⟨0, Nat.zero_le _, rfl, Lib.hid (fun m a hm => absurd hm (by omega)), Lib.hid (Below.refl _ _)⟩
  case round =>
    obtain ⟨k, hk, rfl, HA, hb⟩ := hrel
    have hsz := hb.out.size
    by_cases hlt : k < n
    · obtain ⟨b, o, a, rfl, hbb, hx, hr⟩ := hds_item (HP.out.below (hb.out.mono hB)) hlt
      have HX := Lib.hid hx
      have HR := Lib.hid hr
      clear hx hr
      have hlt' : (k : Int) < n := by omega
      have BN := Lib.hid (hb.out.alloc hsz (.cells #[.int .i64 a.age, .int .i64 a.kind, .int .i64 a.id, .int .i64 a.adv, .int .i64 a.seq, .int .i64 a.sum, .int .i64 a.long] 40))
      by_cases h1 : a.age < 0
      · have d1 : decide (a.age < 0) = true := by simp; omega
        go_wp2_with (refine wpList_load_row 40 _ _ (by rfl) (.tmp 9) rfl (by rfl) HR.out Tryz.underlying40 rfl (by kernel_rfl) ?_)
        go_ret
        exact ⟨⟨false, rfl, fun h => by cases h⟩, BN.out⟩
      · have d1 : decide (a.age < 0) = false := by simp; omega
        by_cases h2 : 60 < a.age
        · have d2 : decide (60 < a.age) = true := by simp; omega
          go_wp2_with (refine wpList_load_row 40 _ _ (by rfl) (.tmp 9) rfl (by rfl) HR.out Tryz.underlying40 rfl (by kernel_rfl) ?_)
          go_ret
          exact ⟨⟨false, rfl, fun h => by cases h⟩, BN.out⟩
        · have d2 : decide (60 < a.age) = false := by simp; omega
          have HN := Lib.hid (show ∀ (m : Nat) (a : Hd), m < k + 1 → L[m]? = some a → ageB a = true from fun m a' hm ha => by
            by_cases hmk : m = k
            · subst hmk
              rw [HX.out] at ha
              injection ha with ha
              subst ha
              rw [ageB_iff]
              omega
            · exact HA.out m a' (by omega) ha)
          go_wp2_with (refine wpList_load_row 40 _ _ (by rfl) (.tmp 9) rfl (by rfl) HR.out Tryz.underlying40 rfl (by kernel_rfl) ?_)
          go_roundw
          case rel => exact ⟨k + 1, by omega, by go_num, HN, BN⟩
          case measure => simp [intOf]; omega
    · have HT := Lib.hid (show ∀ a ∈ L, ageB a = true from fun a ha => by
        obtain ⟨m, hm⟩ := List.getElem?_of_mem ha
        exact HA.out m a (by have := (List.getElem?_eq_some_iff.1 hm).1; have := HP.out.1; omega) hm)
      by_cases h3 : n ≤ 100
      · have d3 : decide ((n : Int) ≤ 100) = true := by simp; omega
        go_wp2
        go_ret
        exact ⟨⟨true, rfl, fun _ => ⟨h3, HT.out⟩⟩, hb.out⟩
      · have d3 : decide ((n : Int) ≤ 100) = false := by simp; omega
        go_wp2
        go_ret
        exact ⟨⟨false, rfl, fun h => by cases h⟩, hb.out⟩

set_option maxRecDepth 8000 in
set_option maxHeartbeats 4000000 in
theorem refNewer_grown (a b : Hd) (w : World) (ha : ageB a = true) (hb : ageB b = true) : Calls Tryz.prog 28 #[.agg #[.int .i64 a.age, .int .i64 a.kind, .int .i64 a.id, .int .i64 a.adv, .int .i64 a.seq, .int .i64 a.sum, .int .i64 a.long], .agg #[.int .i64 b.age, .int .i64 b.kind, .int .i64 b.id, .int .i64 b.adv, .int .i64 b.seq, .int .i64 b.sum, .int .i64 b.long]] w
    fun e w' => e = .returned (.int .i64 (nw a b)) ∧ ∃ q os', w' = grow (w.drewN q) os' := by
  rw [ageB_iff] at ha hb
  obtain ⟨a1, a2⟩ := ha
  obtain ⟨b1, b2⟩ := hb
  generalize hv : nw a b = v
  have HV := Lib.hid hv
  clear hv
  have B0 := Lib.hid (show ∃ q os', (w.alloc (.cells #[.int .i64 a.age, .int .i64 a.kind, .int .i64 a.id, .int .i64 a.adv, .int .i64 a.seq, .int .i64 a.sum, .int .i64 a.long] 40)).alloc (.cells #[.int .i64 b.age, .int .i64 b.kind, .int .i64 b.id, .int .i64 b.adv, .int .i64 b.seq, .int .i64 b.sum, .int .i64 b.long] 40) = grow (w.drewN q) os' from ⟨0, _, by rw [alloc_eq_grow, alloc_eq_grow, grow_grow]; rfl⟩)
  go_enter Tryz.func28, Tryz.ntmps28
  by_cases h1 : a.seq = b.seq
  · have d1 : (a.seq != b.seq) = false := by simp [h1]
    by_cases h2 : a.sum = b.sum
    · have d2 : (a.sum != b.sum) = false := by simp [h2]
      have HC := Lib.hid (show frI a.age b.age = v by rw [← HV.out, nw, if_neg (by simp [h1]), if_neg (by simp [h2])])
      clear h1 h2
      by_cases h3 : a.age = 60
      · have d3 : (a.age == 60) = true := by simp [h3]
        have d3' : (a.age != 60) = false := by simp [h3]
        by_cases h4 : b.age = 60
        · have d4 : (b.age == 60) = true := by simp [h4]
          have d4' : (b.age != 60) = false := by simp [h4]
          obtain rfl : v = 0 := by rw [← HC.out, h3, h4]; rfl
          have HF := Lib.hid (show decide (a.age + 6 < b.age) = false by simp; omega)
          have HF2 := Lib.hid (show decide (b.age + 6 < a.age) = false by simp; omega)
          clear h3 h4
          go_wp2_with fail
          refine (far_any _ _ _ a1 a2 b1 b2).mono ?_
          rintro e2 w2 ⟨rfl, rfl⟩
          rw [HF.out]
          go_wp2_with fail
          refine (far_any _ _ _ b1 b2 a1 a2).mono ?_
          rintro e2 w2 ⟨rfl, rfl⟩
          rw [HF2.out]
          go_wp2
          go_ret
          exact ⟨rfl, B0.out⟩
        · have d4 : (b.age == 60) = false := by simp [h4]
          have d4' : (b.age != 60) = true := by simp [h4]
          obtain rfl : v = 1 := by rw [← HC.out, frI, if_pos ⟨h3, h4⟩]
          clear h3 h4
          go_wp2
          go_ret
          exact ⟨rfl, B0.out⟩
      · have d3 : (a.age == 60) = false := by simp [h3]
        have d3' : (a.age != 60) = true := by simp [h3]
        by_cases h4 : b.age = 60
        · have d4 : (b.age == 60) = true := by simp [h4]
          obtain rfl : v = -1 := by rw [← HC.out, frI, if_neg (by omega), if_pos ⟨h4, h3⟩]
          clear h3 h4
          go_wp2
          go_ret
          exact ⟨rfl, B0.out⟩
        · have d4 : (b.age == 60) = false := by simp [h4]
          have H3 := Lib.hid h3
          have H4 := Lib.hid h4
          clear h3 h4
          go_wp2_with fail
          refine (far_any _ _ _ a1 a2 b1 b2).mono ?_
          rintro e2 w2 ⟨rfl, rfl⟩
          by_cases h5 : a.age + 6 < b.age
          · rw [decide_eq_true h5]
            obtain rfl : v = 1 := by rw [← HC.out, frI, if_neg (fun e => H3.out e.1), if_neg (fun e => H4.out e.1), if_pos h5]
            go_wp2
            go_ret
            exact ⟨rfl, B0.out⟩
          · rw [decide_eq_false h5]
            go_wp2_with fail
            refine (far_any _ _ _ b1 b2 a1 a2).mono ?_
            rintro e2 w2 ⟨rfl, rfl⟩
            by_cases h6 : b.age + 6 < a.age
            · rw [decide_eq_true h6]
              obtain rfl : v = -1 := by rw [← HC.out, frI, if_neg (fun e => H3.out e.1), if_neg (fun e => H4.out e.1), if_neg (by omega), if_pos h6]
              go_wp2
              go_ret
              exact ⟨rfl, B0.out⟩
            · rw [decide_eq_false h6]
              obtain rfl : v = 0 := by rw [← HC.out, frI, if_neg (fun e => H3.out e.1), if_neg (fun e => H4.out e.1), if_neg (by omega), if_neg (by omega)]
              go_wp2
              go_ret
              exact ⟨rfl, B0.out⟩
    · have d2 : (a.sum != b.sum) = true := by simp [h2]
      have HC := Lib.hid (show cmpI a.sum b.sum = v by rw [← HV.out, nw, if_neg (by simp [h1]), if_pos h2])
      clear h1
      by_cases h3 : b.sum < a.sum
      · obtain rfl : v = 1 := by rw [← HC.out, cmpI_one]; exact h3
        go_wp2
        go_ret
        exact ⟨rfl, B0.out⟩
      · obtain rfl : v = -1 := by rw [← HC.out, cmpI, if_pos (by omega)]
        go_wp2
        go_ret
        exact ⟨rfl, B0.out⟩
  · have d1 : (a.seq != b.seq) = true := by simp [h1]
    have HC := Lib.hid (show cmpI a.seq b.seq = v by rw [← HV.out, nw, if_pos h1])
    by_cases h3 : b.seq < a.seq
    · obtain rfl : v = 1 := by rw [← HC.out, cmpI_one]; exact h3
      go_wp2
      go_ret
      exact ⟨rfl, B0.out⟩
    · obtain rfl : v = -1 := by rw [← HC.out, cmpI, if_pos (by omega)]
      go_wp2
      go_ret
      exact ⟨rfl, B0.out⟩
end Go.Proofs.YtiibefgdlmjdgaaGreat
