/- What is lacked, as the reference reckons it: plain facts; whether ages may be; which of two heads is newer, as the reference tells it, by new memory alone. Conditions: ages from 0 to 60 where they are compared. · The reference's heads that a database lacks. Conditions: at most 100 heads, ages from 0 to 60. · The program's database and the reference's, of the same descriptions. Conditions: at most 100 descriptions, of at most 20 links and members. -/
import Derived.Test.YtfdfdmbnggpnbaaGreatJau
import Derived.Test.YtfdfdmbnggpnbaaGreatJao
namespace Go.Proofs.YtfdfdmbnggpnbaaGreat
open Go.RowKit Go.Lib Go.Sort Go.Deep

/-- A head put over one of its key that is older. -/
def ovr (x g : Hd) : Hd := if sameKy (keyH g) (keyH x) = true then (if 0 < nw x g then x else g) else g
/-- The first j of a list gone through. -/
def inn (K : List Hd) (x : Hd) (j : Nat) : List Hd := (K.take j).map (ovr x) ++ K.drop j
/-- Is there one of its key among the first j? -/
def doneB (K : List Hd) (x : Hd) (j : Nat) : Bool := (K.take j).any fun g => sameKy (keyH g) (keyH x)
theorem keyH_ovr (x g : Hd) : keyH (ovr x g) = keyH g := by
  unfold ovr
  split
  · rename_i h
    split
    · exact ((sameKy_iff _ _).1 h).symm
    · rfl
  · rfl
theorem inn_zero (K : List Hd) (x : Hd) : inn K x 0 = K := by simp [inn]
theorem inn_all (K : List Hd) (x : Hd) : inn K x K.length = K.map (ovr x) := by simp [inn]
theorem inn_at {K : List Hd} {x g : Hd} {j : Nat} (h : K[j]? = some g) : (inn K x j)[j]? = some g := by
  have hj := (List.getElem?_eq_some_iff.1 h).1
  unfold inn
  rw [List.getElem?_append_right (by rw [List.length_map, List.length_take]; omega), List.length_map, List.length_take, Nat.min_eq_left (by omega), Nat.sub_self, List.getElem?_drop, Nat.add_zero]
  exact h
theorem drop_cons {K : List Hd} {g : Hd} {j : Nat} (h : K[j]? = some g) : K.drop j = g :: K.drop (j + 1) := by
  obtain ⟨hj, e⟩ := List.getElem?_eq_some_iff.1 h
  rw [List.drop_eq_getElem_cons hj, e]
theorem inn_next {K : List Hd} {x g : Hd} {j : Nat} (h : K[j]? = some g) : inn K x (j + 1) = (K.take j).map (ovr x) ++ ovr x g :: K.drop (j + 1) := by
  unfold inn
  rw [take_snocA K j g h, List.map_append, List.append_assoc]
  rfl
theorem inn_step {K : List Hd} {x g : Hd} {j : Nat} (h : K[j]? = some g) : inn K x (j + 1) = (inn K x j).set j (ovr x g) := by
  have hj := (List.getElem?_eq_some_iff.1 h).1
  rw [inn_next h]
  unfold inn
  rw [drop_cons h, List.set_append_right _ _ (by rw [List.length_map, List.length_take]; omega), List.length_map, List.length_take, Nat.min_eq_left (by omega), Nat.sub_self, List.set_cons_zero]
theorem inn_stay {K : List Hd} {x g : Hd} {j : Nat} (h : K[j]? = some g) (ho : ovr x g = g) : inn K x (j + 1) = inn K x j := by
  rw [inn_next h, ho]
  unfold inn
  rw [drop_cons h]
theorem done_step {K : List Hd} {x g : Hd} {j : Nat} (h : K[j]? = some g) : doneB K x (j + 1) = (doneB K x j || sameKy (keyH g) (keyH x)) := by
  unfold doneB
  rw [take_snocA K j g h, List.any_append]
  simp
theorem done_no {K : List Hd} {x : Hd} (h : doneB K x K.length = false) : ∀ g ∈ K, sameKy (keyH g) (keyH x) = false := by
  intro g hg
  unfold doneB at h
  rw [List.take_length] at h
  rw [List.any_eq_false] at h
  simpa using h g hg
theorem inn_none {K : List Hd} {x : Hd} (h : doneB K x K.length = false) : inn K x K.length = K := by
  rw [inn_all]
  conv => rhs; rw [← List.map_id K]
  apply List.map_congr_left
  intro g hg
  unfold ovr
  rw [done_no h g hg]
  rfl
/-- One head more, as the reference reckons it. -/
theorem lackStep_ref {S : List La} {K : List Hd} {x : Hd} (hp : (K.map keyH).Nodup) : lackStep S K x = if lackB S x = true then (if doneB K x K.length = true then inn K x K.length else K ++ [x]) else K := by
  unfold lackStep
  cases hl : lackB S x
  · rfl
  rw [if_pos rfl, if_pos rfl]
  cases hpl : placeK K (keyH x) with
  | none =>
    have hd : doneB K x K.length = false := by
      unfold doneB
      rw [List.take_length, List.any_eq_false]
      unfold placeK at hpl
      rw [List.findIdx?_eq_none_iff] at hpl
      intro g hg
      rw [hpl g hg]
      decide
    rw [hd, if_neg (by decide)]
  | some i =>
    unfold placeK at hpl
    rw [List.findIdx?_eq_some_iff_getElem] at hpl
    obtain ⟨hi, hs, -⟩ := hpl
    have hd : doneB K x K.length = true := by
      unfold doneB
      rw [List.take_length, List.any_eq_true]
      exact ⟨K[i], List.getElem_mem hi, hs⟩
    rw [hd, if_pos rfl, inn_all]
    dsimp only
    rw [List.getElem?_eq_getElem hi]
    dsimp only
    have hot : ∀ (n : Nat) (hn : n < K.length), n ≠ i → ovr x K[n] = K[n] := fun n hn hne => by
      unfold ovr
      rw [if_neg]
      intro h
      have e : keyH K[n] = keyH K[i] := ((sameKy_iff _ _).1 h).trans ((sameKy_iff _ _).1 hs).symm
      have hq := List.pairwise_iff_getElem.1 hp
      rcases Nat.lt_or_gt_of_ne hne with h1 | h1
      · exact hq n i (by simpa using hn) (by simpa using hi) h1 (by simpa using e)
      · exact hq i n (by simpa using hi) (by simpa using hn) h1 (by simpa using e.symm)
    have hov : ovr x K[i] = if 0 < nw x K[i] then x else K[i] := by
      unfold ovr
      rw [if_pos hs]
    split
    · rename_i h0
      rw [if_pos h0] at hov
      apply List.ext_getElem (by simp)
      intro n h1 h2
      rw [List.getElem_map, List.getElem_set]
      split
      · rename_i e
        subst e
        exact hov.symm
      · rename_i e
        exact (hot n (by simpa using h2) (fun h => e h.symm)).symm
    · rename_i h0
      rw [if_neg h0] at hov
      apply List.ext_getElem (by simp)
      intro n h1 h2
      rw [List.getElem_map]
      by_cases e : n = i
      · subst e
        exact hov.symm
      · exact (hot n h1 e).symm
theorem lackStep_nodup {S : List La} {K : List Hd} {x : Hd} (hp : (K.map keyH).Nodup) : ((lackStep S K x).map keyH).Nodup := by
  rw [lackStep_ref hp]
  split
  · split
    · rw [inn_all, List.map_map]
      have : keyH ∘ ovr x = keyH := funext fun g => keyH_ovr x g
      rw [this]
      exact hp
    · rename_i h
      rw [List.map_append, List.nodup_append]
      refine ⟨hp, by simp, ?_⟩
      intro a ha b hb e
      obtain ⟨g, hg, rfl⟩ := List.mem_map.1 ha
      rw [List.map_singleton, List.mem_singleton] at hb
      have := done_no (Bool.eq_false_iff.2 h) g hg
      rw [(sameKy_iff _ _).2 (e.trans hb)] at this
      cases this
  · exact hp
theorem lacksF_nodup {S : List La} : ∀ (L K : List Hd), (K.map keyH).Nodup → ((L.foldl (lackStep S) K).map keyH).Nodup
  | [], _, h => h
  | _ :: L, _, h => lacksF_nodup L _ (lackStep_nodup h)
theorem lacksL_nodup (S : List La) (L : List Hd) : ((lacksL S L).map keyH).Nodup := lacksF_nodup L [] List.nodup_nil
theorem lackB_none {S : List La} {x : Hd} (h : getL S (keyH x) = none) : lackB S x = true := by
  unfold lackB
  rw [h]
theorem lackB_some {S : List La} {x : Hd} {y : La} (h : getL S (keyH x) = some y) : lackB S x = decide (0 < nw x y.h) := by
  unfold lackB
  rw [h]

/-- What may answers. -/
def MayQ (n : Nat) (L : List Hd) (e : Ending) : Prop := ∃ t : Bool, e = .returned (.bool t) ∧ (t = true → n ≤ 100 ∧ ∀ x ∈ L, ageB x = true)
set_option maxRecDepth 8000 in
set_option maxHeartbeats 4000000 in
theorem may_any (A : Option Addr) (n c : Nat) (L : List Hd) (B : Nat) (w : World) (h : Hds w B A n L) (hB : B ≤ w.heap.size) (hn : n ≤ maxLen) :
    Calls Tryz.prog 7 #[.slice A n c] w fun e w' => MayQ n L e ∧ Below w.heap.size w w' := by
  unfold maxLen at hn
  have HP := Lib.hid h
  clear h
  go_enter Tryz.func7, Tryz.ntmps7
  go_wp2_with fail
  go_loopw [7] (fun i wr => ∃ k : Nat, k ≤ n ∧ i = .int .i64 k ∧ Hid (∀ (m : Nat) (a : Hd), m < k → L[m]? = some a → ageB a = true) ∧ Hid (Below w.heap.size w wr)) (fun i _ => n - (intOf i).toNat)
  case atStart => exact ⟨0, Nat.zero_le _, rfl, Lib.hid (fun m a hm => absurd hm (by omega)), Lib.hid (Below.refl _ _)⟩
  case round =>
    obtain ⟨k, hk, rfl, HA, hb⟩ := hrel
    have hsz := hb.out.size
    by_cases hlt : k < n
    · obtain ⟨b, o, a, rfl, hbb, hx, hr⟩ := hds_item (HP.out.below (hb.out.mono hB)) hlt
      have HX := Lib.hid hx
      have HR := Lib.hid hr
      clear hx hr
      have hlt' : (k : Int) < n := by omega
      have BN := Lib.hid (hb.out.alloc hsz (.cells #[.int .i64 a.age, .int .i64 a.kind, .int .i64 a.id, .int .i64 a.adv, .int .i64 a.seq, .int .i64 a.sum, .int .i64 a.long] 40))
      by_cases h1 : a.age < 0
      · have d1 : decide (a.age < 0) = true := by simp; omega
        go_wp2_with (refine wpList_load_row 40 _ _ (by rfl) (.tmp 9) rfl (by rfl) HR.out Tryz.underlying40 rfl (by kernel_rfl) ?_)
        go_ret
        exact ⟨⟨false, rfl, fun h => by cases h⟩, BN.out⟩
      · have d1 : decide (a.age < 0) = false := by simp; omega
        by_cases h2 : 60 < a.age
        · have d2 : decide (60 < a.age) = true := by simp; omega
          go_wp2_with (refine wpList_load_row 40 _ _ (by rfl) (.tmp 9) rfl (by rfl) HR.out Tryz.underlying40 rfl (by kernel_rfl) ?_)
          go_ret
          exact ⟨⟨false, rfl, fun h => by cases h⟩, BN.out⟩
        · have d2 : decide (60 < a.age) = false := by simp; omega
          have HN := Lib.hid (show ∀ (m : Nat) (a : Hd), m < k + 1 → L[m]? = some a → ageB a = true from fun m a' hm ha => by
            by_cases hmk : m = k
            · subst hmk
              rw [HX.out] at ha
              injection ha with ha
              subst ha
              rw [ageB_iff]
              omega
            · exact HA.out m a' (by omega) ha)
          go_wp2_with (refine wpList_load_row 40 _ _ (by rfl) (.tmp 9) rfl (by rfl) HR.out Tryz.underlying40 rfl (by kernel_rfl) ?_)
          go_roundw
          case rel => exact ⟨k + 1, by omega, by go_num, HN, BN⟩
          case measure => simp [intOf]; omega
    · have HT := Lib.hid (show ∀ a ∈ L, ageB a = true from fun a ha => by
        obtain ⟨m, hm⟩ := List.getElem?_of_mem ha
        exact HA.out m a (by have := (List.getElem?_eq_some_iff.1 hm).1; have := HP.out.1; omega) hm)
      by_cases h3 : n ≤ 100
      · have d3 : decide ((n : Int) ≤ 100) = true := by simp; omega
        go_wp2
        go_ret
        exact ⟨⟨true, rfl, fun _ => ⟨h3, HT.out⟩⟩, hb.out⟩
      · have d3 : decide ((n : Int) ≤ 100) = false := by simp; omega
        go_wp2
        go_ret
        exact ⟨⟨false, rfl, fun h => by cases h⟩, hb.out⟩

set_option maxRecDepth 8000 in
set_option maxHeartbeats 4000000 in
theorem refNewer_grown (a b : Hd) (w : World) (ha : ageB a = true) (hb : ageB b = true) : Calls Tryz.prog 28 #[.agg #[.int .i64 a.age, .int .i64 a.kind, .int .i64 a.id, .int .i64 a.adv, .int .i64 a.seq, .int .i64 a.sum, .int .i64 a.long], .agg #[.int .i64 b.age, .int .i64 b.kind, .int .i64 b.id, .int .i64 b.adv, .int .i64 b.seq, .int .i64 b.sum, .int .i64 b.long]] w
    fun e w' => e = .returned (.int .i64 (nw a b)) ∧ ∃ q os', w' = grow (w.drewN q) os' := by
  rw [ageB_iff] at ha hb
  obtain ⟨a1, a2⟩ := ha
  obtain ⟨b1, b2⟩ := hb
  generalize hv : nw a b = v
  have HV := Lib.hid hv
  clear hv
  have B0 := Lib.hid (show ∃ q os', (w.alloc (.cells #[.int .i64 a.age, .int .i64 a.kind, .int .i64 a.id, .int .i64 a.adv, .int .i64 a.seq, .int .i64 a.sum, .int .i64 a.long] 40)).alloc (.cells #[.int .i64 b.age, .int .i64 b.kind, .int .i64 b.id, .int .i64 b.adv, .int .i64 b.seq, .int .i64 b.sum, .int .i64 b.long] 40) = grow (w.drewN q) os' from ⟨0, _, by rw [alloc_eq_grow, alloc_eq_grow, grow_grow]; rfl⟩)
  go_enter Tryz.func28, Tryz.ntmps28
  by_cases h1 : a.seq = b.seq
  · have d1 : (a.seq != b.seq) = false := by simp [h1]
    by_cases h2 : a.sum = b.sum
    · have d2 : (a.sum != b.sum) = false := by simp [h2]
      have HC := Lib.hid (show frI a.age b.age = v by rw [← HV.out, nw, if_neg (by simp [h1]), if_neg (by simp [h2])])
      clear h1 h2
      by_cases h3 : a.age = 60
      · have d3 : (a.age == 60) = true := by simp [h3]
        have d3' : (a.age != 60) = false := by simp [h3]
        by_cases h4 : b.age = 60
        · have d4 : (b.age == 60) = true := by simp [h4]
          have d4' : (b.age != 60) = false := by simp [h4]
          obtain rfl : v = 0 := by rw [← HC.out, h3, h4]; rfl
          have HF := Lib.hid (show decide (a.age + 6 < b.age) = false by simp; omega)
          have HF2 := Lib.hid (show decide (b.age + 6 < a.age) = false by simp; omega)
          clear h3 h4
          go_wp2_with fail
          refine (far_any _ _ _ a1 a2 b1 b2).mono ?_
          rintro e2 w2 ⟨rfl, rfl⟩
          rw [HF.out]
          go_wp2_with fail
          refine (far_any _ _ _ b1 b2 a1 a2).mono ?_
          rintro e2 w2 ⟨rfl, rfl⟩
          rw [HF2.out]
          go_wp2
          go_ret
          exact ⟨rfl, B0.out⟩
        · have d4 : (b.age == 60) = false := by simp [h4]
          have d4' : (b.age != 60) = true := by simp [h4]
          obtain rfl : v = 1 := by rw [← HC.out, frI, if_pos ⟨h3, h4⟩]
          clear h3 h4
          go_wp2
          go_ret
          exact ⟨rfl, B0.out⟩
      · have d3 : (a.age == 60) = false := by simp [h3]
        have d3' : (a.age != 60) = true := by simp [h3]
        by_cases h4 : b.age = 60
        · have d4 : (b.age == 60) = true := by simp [h4]
          obtain rfl : v = -1 := by rw [← HC.out, frI, if_neg (by omega), if_pos ⟨h4, h3⟩]
          clear h3 h4
          go_wp2
          go_ret
          exact ⟨rfl, B0.out⟩
        · have d4 : (b.age == 60) = false := by simp [h4]
          have H3 := Lib.hid h3
          have H4 := Lib.hid h4
          clear h3 h4
          go_wp2_with fail
          refine (far_any _ _ _ a1 a2 b1 b2).mono ?_
          rintro e2 w2 ⟨rfl, rfl⟩
          by_cases h5 : a.age + 6 < b.age
          · rw [decide_eq_true h5]
            obtain rfl : v = 1 := by rw [← HC.out, frI, if_neg (fun e => H3.out e.1), if_neg (fun e => H4.out e.1), if_pos h5]
            go_wp2
            go_ret
            exact ⟨rfl, B0.out⟩
          · rw [decide_eq_false h5]
            go_wp2_with fail
            refine (far_any _ _ _ b1 b2 a1 a2).mono ?_
            rintro e2 w2 ⟨rfl, rfl⟩
            by_cases h6 : b.age + 6 < a.age
            · rw [decide_eq_true h6]
              obtain rfl : v = -1 := by rw [← HC.out, frI, if_neg (fun e => H3.out e.1), if_neg (fun e => H4.out e.1), if_neg (by omega), if_pos h6]
              go_wp2
              go_ret
              exact ⟨rfl, B0.out⟩
            · rw [decide_eq_false h6]
              obtain rfl : v = 0 := by rw [← HC.out, frI, if_neg (fun e => H3.out e.1), if_neg (fun e => H4.out e.1), if_neg (by omega), if_neg (by omega)]
              go_wp2
              go_ret
              exact ⟨rfl, B0.out⟩
    · have d2 : (a.sum != b.sum) = true := by simp [h2]
      have HC := Lib.hid (show cmpI a.sum b.sum = v by rw [← HV.out, nw, if_neg (by simp [h1]), if_pos h2])
      clear h1
      by_cases h3 : b.sum < a.sum
      · obtain rfl : v = 1 := by rw [← HC.out, cmpI_one]; exact h3
        go_wp2
        go_ret
        exact ⟨rfl, B0.out⟩
      · obtain rfl : v = -1 := by rw [← HC.out, cmpI, if_pos (by omega)]
        go_wp2
        go_ret
        exact ⟨rfl, B0.out⟩
  · have d1 : (a.seq != b.seq) = true := by simp [h1]
    have HC := Lib.hid (show cmpI a.seq b.seq = v by rw [← HV.out, nw, if_pos h1])
    by_cases h3 : b.seq < a.seq
    · obtain rfl : v = 1 := by rw [← HC.out, cmpI_one]; exact h3
      go_wp2
      go_ret
      exact ⟨rfl, B0.out⟩
    · obtain rfl : v = -1 := by rw [← HC.out, cmpI, if_pos (by omega)]
      go_wp2
      go_ret
      exact ⟨rfl, B0.out⟩
end Go.Proofs.YtfdfdmbnggpnbaaGreat
namespace Go.Proofs.YtfdfdmbnggpnbaaGreat
open Go.RowKit Go.Lib Go.Sort Go.Deep

theorem cells7 {w : World} {b p : Nat} {x : Hd} (h : w.rangeAt b p [.int .i64 x.age, .int .i64 x.kind, .int .i64 x.id, .int .i64 x.adv, .int .i64 x.seq, .int .i64 x.sum, .int .i64 x.long]) : w.cell? ⟨b, p, none⟩ = some (.int .i64 x.age) ∧ w.cell? ⟨b, p + 1, none⟩ = some (.int .i64 x.kind) ∧ w.cell? ⟨b, p + 2, none⟩ = some (.int .i64 x.id) ∧ w.cell? ⟨b, p + 3, none⟩ = some (.int .i64 x.adv) ∧ w.cell? ⟨b, p + 4, none⟩ = some (.int .i64 x.seq) ∧ w.cell? ⟨b, p + 5, none⟩ = some (.int .i64 x.sum) ∧ w.cell? ⟨b, p + 6, none⟩ = some (.int .i64 x.long) :=
  ⟨h 0 _ rfl, h 1 _ rfl, h 2 _ rfl, h 3 _ rfl, h 4 _ rfl, h 5 _ rfl, h 6 _ rfl⟩
theorem item_range7 {w : World} {base n c j : Nat} {A : Option Addr} {L : List Hd} {x : Hd} (h : w.ownsRow base 40 7 (.slice A n c) n (cellsBy encHd L)) (hj : L[j]? = some x) : ∃ q, A = some ⟨q, 0, none⟩ ∧ base ≤ q ∧ q < w.heap.size ∧ j < n ∧ n ≤ c ∧ c ≤ maxLen ∧ w.rangeAt q (j * 7) [.int .i64 x.age, .int .i64 x.kind, .int .i64 x.id, .int .i64 x.adv, .int .i64 x.seq, .int .i64 x.sum, .int .i64 x.long] := by
  obtain ⟨q, rfl, hqb, hq, hnc, hcm, hat⟩ := own_item encHd_len (by omega) h hj
  have hl := own_lenH encHd_len (by omega) h
  have := (List.getElem?_eq_some_iff.1 hj).1
  refine ⟨q, rfl, hqb, hq, by omega, hnc, hcm, fun i v hv => ?_⟩
  have hi := (List.getElem?_eq_some_iff.1 hv).1
  rw [hat i (by simpa using hi)]
  exact hv
theorem ref_items {w : World} {lo g : Nat} {room : Int} {S : List La} {F : Nat → Prop} (h : RefDb w lo g room S F) {j : Nat} {y : La} (hj : S[j]? = some y) :
    ∃ (q o n c : Nat), w.cell? ⟨g, 0, none⟩ = some (.slice (some ⟨q, o, none⟩) n c) ∧ g < w.heap.size ∧ q < w.heap.size ∧ j < n ∧ n ≤ 40 ∧ ageB y.h = true ∧ w.rangeAt q (o + j * 9) [.int .i64 y.h.age, .int .i64 y.h.kind, .int .i64 y.h.id, .int .i64 y.h.adv, .int .i64 y.h.seq, .int .i64 y.h.sum, .int .i64 y.h.long] := by
  obtain ⟨A, n, c, hB, hL, hn⟩ := h.list
  have hjl := (List.getElem?_eq_some_iff.1 hj).1
  have hl := hL.1
  obtain ⟨q, o, z, A1, n1, c1, A2, n2, c2, rfl, hq, hz, hr, -, -, -, -⟩ := las_item hL (show j < n by omega)
  rw [hj] at hz
  injection hz with hz
  subst hz
  obtain ⟨_, _, _, _, -, -, -, -, -, -, -, h4, -⟩ := h
  refine ⟨q, o, n, c, hB.cell 0, hB.lt, hq, by omega, hn, ?_, las_head hr⟩
  rw [ageB_iff]
  exact right_age (h4 y (List.mem_of_getElem? hj))
set_option maxRecDepth 20000 in
set_option maxHeartbeats 32000000 in
theorem rlacks_any {w : World} {lo g : Nat} {room : Int} {S : List La} {F : Nat → Prop} {A : Option Addr} {n c B : Nat} {L : List Hd} (hD : RefDb w lo g room S F) (hL : Hds w B A n L) (hB : B ≤ w.heap.size) (hn : n ≤ 100) (ha : ∀ h ∈ L, ageB h = true) :
    Calls Tryz.prog 11 #[.pointer (some ⟨g, 0, none⟩), .slice A n c] w (LacksQ S L w) := by
  generalize hQ : LacksQ S L w = Q
  have HQ := Lib.hid hQ
  have HL := Lib.hid hL
  have HD := Lib.hid hD
  have HA := Lib.hid ha
  have O0 := Lib.hid (World.ownsRow_nil w w.heap.size 40 7)
  have B0 := Lib.hid (Below.refl w.heap.size w)
  generalize hbm : w.heap.size = bm at *
  have HBM := Lib.hid hbm
  clear hQ hL hD ha hbm
  have mixed : Tryz.prog.follows .mixedOrders = true := by kernel_rfl
  go_enter Tryz.func11, Tryz.ntmps11
  go_wp2_with fail
  go_loopw [5, 6] (fun s5 s6 wr => ∃ (k m c' : Nat) (A' : Option Addr), s6 = .int .i64 k ∧ s5 = .slice A' m c' ∧ k ≤ n ∧ m ≤ k ∧ Hid (wr.ownsRow bm 40 7 (.slice A' m c') m (cellsBy encHd (lacksL S (L.take k)))) ∧ Hid (Below bm w wr)) (fun _ s6 _ => n - (intOf s6).toNat)
  case atStart => exact ⟨0, 0, 0, none, rfl, rfl, Nat.zero_le _, Nat.le_refl _, Lib.hid (by simpa [lacksL, cellsBy] using O0.out), B0⟩
  case round =>
    clear O0 B0
    obtain ⟨k, m, c', A', rfl, rfl, hk, hmk, OW, BW⟩ := hrel
    by_cases hlt : k < n
    · have hlt' : (k : Int) < (n : Int) := by omega
      obtain ⟨b, o, x, rfl, hbb, hx, hr⟩ := hds_item (HL.out.below (BW.out.mono hB)) hlt
      have HR := Lib.hid hr
      have HX := Lib.hid hx
      have hxm : x ∈ L := List.mem_of_getElem? hx
      have HAX := Lib.hid (HA.out x hxm)
      have hz : bm ≤ wr.heap.size := by have := BW.out.size; have := HBM.out; omega
      have NA := Lib.hid (fun (q : Nat) (hq : (Value.slice A' m c').ownBlock = some q) => Nat.ne_of_lt (OW.out.lt q hq).2)
      have BX := Lib.hid (BW.out.alloc hz (.cells #[.int .i64 x.age, .int .i64 x.kind, .int .i64 x.id, .int .i64 x.adv, .int .i64 x.seq, .int .i64 x.sum, .int .i64 x.long] 40))
      have KX := Lib.hid (Blk.new wr 40 #[.int .i64 x.age, .int .i64 x.kind, .int .i64 x.id, .int .i64 x.adv, .int .i64 x.seq, .int .i64 x.sum, .int .i64 x.long])
      have OX := Lib.hid (OW.out.alloc (.cells #[.int .i64 x.age, .int .i64 x.kind, .int .i64 x.id, .int .i64 x.adv, .int .i64 x.seq, .int .i64 x.sum, .int .i64 x.long] 40))
      have RX := Lib.hid (blk_range7 KX.out)
      have HS := Lib.hid (lacksL_snoc S (L.take k) x)
      rw [← take_snocA L k x HX.out] at HS
      have HN := Lib.hid (lacksL_nodup S (L.take k))
      have HAK := Lib.hid (fun (g : Hd) (hg : g ∈ lacksL S (L.take k)) => HA.out g (List.mem_of_mem_take (lacksL_mem hg)))
      obtain ⟨K, hK⟩ : ∃ K, K = lacksL S (L.take k) := ⟨_, rfl⟩
      rw [← hK] at HS HN HAK OX
      have HS2 := Lib.hid (HS.out.trans (lackStep_ref HN.out))
      clear hr hx hxm OW BW HS HN hK
      go_wp2_with (first | refine wpList_load_row 40 _ _ (by rfl) (.tmp 19) rfl (by rfl) HR.out Tryz.underlying40 rfl (by kernel_rfl) ?_ | refine wpList_load_row 40 _ _ (by rfl) (.tmp 7) rfl (by rfl) RX.out Tryz.underlying40 rfl (by kernel_rfl) ?_)
      refine (key13_any x _).mono ?_
      rintro e1 w1 ⟨rfl, hb1⟩
      generalize wr.alloc (.cells #[.int .i64 x.age, .int .i64 x.kind, .int .i64 x.id, .int .i64 x.adv, .int .i64 x.seq, .int .i64 x.sum, .int .i64 x.long] 40) = wx at *
      generalize wr.heap.size = X at *
      have hzx : bm ≤ wx.heap.size := by have := BX.out.size; have := HBM.out; omega
      have B1 := Lib.hid (BX.out.trans (hb1.mono hzx))
      have K1 := Lib.hid (KX.out.below hb1 KX.out.lt)
      have O1 := Lib.hid (own_chg OX.out (Chg.of_below (F := fun _ => False) hb1) (fun _ _ hf => hf))
      have D1 := Lib.hid (HD.out.chg (F' := fun _ => False) (Chg.of_below (by rw [HBM.out]; exact B1.out)) (fun _ _ hf => hf))
      have hz1 : bm ≤ w1.heap.size := Nat.le_trans hzx hb1.size
      clear hb1 BX KX OX RX HR hz hzx
      go_wp2_with fail
      refine (r7Find_db D1.out (keyH x)).mono ?_
      rintro e2 w2 ⟨v, rfl, hb2, hf⟩
      have B2 := Lib.hid (B1.out.trans (hb2.mono hz1))
      have K2 := Lib.hid (K1.out.below hb2 K1.out.lt)
      have O2 := Lib.hid (own_chg O1.out (Chg.of_below (F := fun _ => False) hb2) (fun _ _ hf => hf))
      have D2 := Lib.hid (HD.out.chg (F' := fun _ => False) (Chg.of_below (by rw [HBM.out]; exact B2.out)) (fun _ _ hf => hf))
      have hz2 : bm ≤ w2.heap.size := Nat.le_trans hz1 hb2.size
      clear hb2 K1 O1 D1 B1 hz1
      have hXl := K2.out.lt
      rcases hf with ⟨hg, hv⟩ | ⟨i, y, hg, rfl, hy⟩
      · have HT := Lib.hid (show lacksL S (L.take (k + 1)) = if doneB K x K.length = true then inn K x K.length else K ++ [x] by rw [HS2.out, if_pos (lackB_none hg)])
        have d0 : decide (0 ≤ v) = false := by simp; omega
        have hgr := Lib.hid (fun q => (⟨rfl, rfl, rfl, Nat.le_refl _, fun _ _ => rfl⟩ : Below w2.heap.size w2 (w2.drewN q)))
        clear hg hv HS2
        go_wp2_with fail
        go_quiet (fail)
        have W3 := Lib.hid (hgr.out nq)
        clear hgr
        generalize w2.drewN nq = w3 at *
        clear d0
        have B3 := Lib.hid (B2.out.trans (W3.out.mono hz2))
        have K3 := Lib.hid (K2.out.below W3.out hXl)
        have O3 := Lib.hid (own_chg O2.out (Chg.of_below (F := fun _ => False) W3.out) (fun _ _ hf => hf))
        have hz3 : bm ≤ w3.heap.size := Nat.le_trans hz2 W3.out.size
        have HKM := Lib.hid (own_lenH encHd_len (by omega) O3.out)
        clear W3 O2 B2 K2 D2 hz2 hXl
        go_wp2_with fail
        have O4 := Lib.hid (show w3.ownsRow bm 40 7 (.slice A' m c') m (cellsBy encHd (inn K x 0)) by rw [inn_zero]; exact O3.out)
        go_loopw [9, 10] (fun s9 s10 wi => ∃ j : Nat, s10 = .int .i64 j ∧ s9 = .bool (doneB K x j) ∧ j ≤ m ∧ Hid (wi.ownsRow bm 40 7 (.slice A' m c') m (cellsBy encHd (inn K x j))) ∧ Hid (Blk wi X 40 #[.int .i64 x.age, .int .i64 x.kind, .int .i64 x.id, .int .i64 x.adv, .int .i64 x.seq, .int .i64 x.sum, .int .i64 x.long]) ∧ Hid (Below bm w wi)) (fun _ s10 _ => m - (intOf s10).toNat)
        case atStart => exact ⟨0, rfl, by simp [doneB], Nat.zero_le _, O4, K3, B3⟩
        case round =>
          clear O4 O3 K3 B3 hz3
          obtain ⟨j, rfl, rfl, hj, OI, KI, BI⟩ := hrel
          have hzi : bm ≤ wr.heap.size := by have := BI.out.size; have := HBM.out; omega
          have hXl := KI.out.lt
          by_cases hjm : j < m
          · have hjm' : (j : Int) < (m : Int) := by omega
            obtain ⟨z, hzj⟩ : ∃ z, K[j]? = some z := ⟨_, List.getElem?_eq_getElem (by have := HKM.out; omega)⟩
            have hzi2 := inn_at (x := x) hzj
            obtain ⟨q, rfl, hqb, hql, -, hnc, hcm, hrz⟩ := item_range7 OI.out hzi2
            have hjc : j < m := hjm
            unfold maxLen at hcm
            obtain ⟨z0, z1, z2, z3, z4, z5, z6⟩ := cells7 hrz
            obtain ⟨x0, x1, x2, x3, x4, x5, x6⟩ := KI.out.sevenH
            have HZ := Lib.hid hzj
            have HZI := Lib.hid hzi2
            have HAZ := Lib.hid (HAK.out z (List.mem_of_getElem? hzj))
            have gz0 := fun n os => cell_grown (n := n) (os := os) hql z0
            have gz1 := fun n os => cell_grown (n := n) (os := os) hql z1
            have gz2 := fun n os => cell_grown (n := n) (os := os) hql z2
            have gz3 := fun n os => cell_grown (n := n) (os := os) hql z3
            have gz4 := fun n os => cell_grown (n := n) (os := os) hql z4
            have gz5 := fun n os => cell_grown (n := n) (os := os) hql z5
            have gz6 := fun n os => cell_grown (n := n) (os := os) hql z6
            have gx0 := fun n os => cell_grown (n := n) (os := os) hXl x0
            have gx1 := fun n os => cell_grown (n := n) (os := os) hXl x1
            have gx2 := fun n os => cell_grown (n := n) (os := os) hXl x2
            have gx3 := fun n os => cell_grown (n := n) (os := os) hXl x3
            have gx4 := fun n os => cell_grown (n := n) (os := os) hXl x4
            have gx5 := fun n os => cell_grown (n := n) (os := os) hXl x5
            have gx6 := fun n os => cell_grown (n := n) (os := os) hXl x6
            have p1 := fun n os => Calls.grown_of (key13_grown z (grow (wr.drewN n) os))
            have p2 := fun n os => Calls.grown_of (key13_grown x (grow (wr.drewN n) os))
            have eK := fun W => equalKy (keyH z) (keyH x) W
            obtain ⟨v2, hv2⟩ : ∃ v, sameKy (keyH z) (keyH x) = v := ⟨_, rfl⟩
            rw [hv2] at eK
            unfold keyH at eK
            dsimp only at eK
            have HV := Lib.hid hv2
            have HDN := Lib.hid (done_step (x := x) hzj)
            rw [hv2] at HDN
            have hgr := Lib.hid (fun n os => below_grown13 (w := wr) (w' := grow (wr.drewN n) os) ⟨n, os, rfl⟩)
            clear z0 z1 z2 z3 z4 z5 z6 x0 x1 x2 x3 x4 x5 x6 hrz hzj hzi2 hv2
            go_wp2_with fail
            go_quiet_grown (first | (go_at_call 27; first | with_reducible exact p1 _ _ | with_reducible exact p2 _ _))
            have W4 := Lib.hid (hgr.out nq osq)
            clear hgr p1 p2 eK gz0 gz1 gz2 gz3 gz4 gz5 gz6 gx0 gx1 gx2 gx3 gx4 gx5 gx6
            generalize grow (wr.drewN nq) osq = w4 at *
            have hz4 : bm ≤ w4.heap.size := Nat.le_trans hzi W4.out.size
            have B4 := Lib.hid (BI.out.trans (W4.out.mono hzi))
            have K4 := Lib.hid (KI.out.below W4.out hXl)
            have O4 := Lib.hid (own_chg OI.out (Chg.of_below (F := fun _ => False) W4.out) (fun _ _ hf => hf))
            clear W4 BI KI OI hzi hXl nq osq
            cases v2
            · have HDN2 := Lib.hid (show doneB K x (j + 1) = doneB K x j by rw [HDN.out, Bool.or_false])
              have O5 := Lib.hid (show w4.ownsRow bm 40 7 (.slice (some ⟨q, 0, none⟩) m c') m (cellsBy encHd (inn K x (j + 1))) by
                rw [inn_stay HZ.out (by unfold ovr; rw [HV.out]; rfl)]
                exact O4.out)
              clear HDN HV HZ HZI HAZ O4
              go_wp2
              go_roundw
              case rel => exact ⟨j + 1, by go_num, by rw [HDN2.out], by omega, O5, K4, B4⟩
              case measure => simp [intOf]; omega
            · have HDN2 := Lib.hid (show doneB K x (j + 1) = true by rw [HDN.out, Bool.or_true])
              have hXl := K4.out.lt
              obtain ⟨q', e', -, hql4, -, -, -, hrz⟩ := item_range7 O4.out HZI.out
              injection e' with e'
              injection e' with e'
              subst e'
              obtain ⟨z0, z1, z2, z3, z4, z5, z6⟩ := cells7 hrz
              obtain ⟨x0, x1, x2, x3, x4, x5, x6⟩ := K4.out.sevenH
              have HAX3 := HAX.out
              have HAZ2 := HAZ.out
              have gz0 := fun n os => cell_grown (n := n) (os := os) hql4 z0
              have gz1 := fun n os => cell_grown (n := n) (os := os) hql4 z1
              have gz2 := fun n os => cell_grown (n := n) (os := os) hql4 z2
              have gz3 := fun n os => cell_grown (n := n) (os := os) hql4 z3
              have gz4 := fun n os => cell_grown (n := n) (os := os) hql4 z4
              have gz5 := fun n os => cell_grown (n := n) (os := os) hql4 z5
              have gz6 := fun n os => cell_grown (n := n) (os := os) hql4 z6
              have gx0 := fun n os => cell_grown (n := n) (os := os) hXl x0
              have gx1 := fun n os => cell_grown (n := n) (os := os) hXl x1
              have gx2 := fun n os => cell_grown (n := n) (os := os) hXl x2
              have gx3 := fun n os => cell_grown (n := n) (os := os) hXl x3
              have gx4 := fun n os => cell_grown (n := n) (os := os) hXl x4
              have gx5 := fun n os => cell_grown (n := n) (os := os) hXl x5
              have gx6 := fun n os => cell_grown (n := n) (os := os) hXl x6
              have p1 := fun n os => Calls.grown_of (refNewer_grown x z (grow (w4.drewN n) os) HAX3 HAZ2)
              obtain ⟨d2, hd2⟩ : ∃ d, nw x z = d := ⟨_, rfl⟩
              rw [hd2] at p1
              have HOV := Lib.hid (show ovr x z = if 0 < d2 then x else z by unfold ovr; rw [HV.out, if_pos rfl, hd2])
              have hgr := Lib.hid (fun n os => below_grown13 (w := w4) (w' := grow (w4.drewN n) os) ⟨n, os, rfl⟩)
              clear z0 z1 z2 z3 z4 z5 z6 x0 x1 x2 x3 x4 x5 x6 hrz hd2 HAX3 HAZ2 HDN HV HAZ
              go_wp2_with fail
              go_quiet_grown (first | (go_at_call 28; with_reducible exact p1 _ _))
              have W5 := Lib.hid (hgr.out nq osq)
              clear hgr p1 gz0 gz1 gz2 gz3 gz4 gz5 gz6 gx0 gx1 gx2 gx3 gx4 gx5 gx6
              generalize grow (w4.drewN nq) osq = w5 at *
              have hz5 : bm ≤ w5.heap.size := Nat.le_trans hz4 W5.out.size
              have B5 := Lib.hid (B4.out.trans (W5.out.mono hz4))
              have K5 := Lib.hid (K4.out.below W5.out hXl)
              have R5 := Lib.hid (show w5.rangeAt X 0 [.int .i64 x.age, .int .i64 x.kind, .int .i64 x.id, .int .i64 x.adv, .int .i64 x.seq, .int .i64 x.sum, .int .i64 x.long] from blk_range7 K5.out)
              have O5 := Lib.hid (own_chg O4.out (Chg.of_below (F := fun _ => False) W5.out) (fun _ _ hf => hf))
              clear W5 B4 K4 O4 hz4 hXl nq osq
              by_cases hd2 : 0 < d2
              · have d2t : decide (0 < d2) = true := by simp; omega
                have NX := Lib.hid (show X ≠ q from fun e => NA.out q rfl e.symm)
                go_wp2_with (first | refine wpList_load_row 40 _ _ (by rfl) (.tmp 7) rfl (by rfl) R5.out Tryz.underlying40 rfl (by kernel_rfl) ?_ | (refine wpList_over_hd x rfl (.tmp 64) (.tmp 63) rfl (by rfl) (by rfl) O5.out hjc ?_; intro w6 HO6 HC6))
                have O6 := Lib.hid (show w6.ownsRow bm 40 7 (.slice (some ⟨q, 0, none⟩) m c') m (cellsBy encHd (inn K x (j + 1))) by rw [inn_step HZ.out, HOV.out, if_pos hd2]; exact HO6.out)
                have K6 := Lib.hid (K5.out.chg HC6.out NX.out)
                have B6 := Lib.hid (B5.out.trans (HC6.out.to_below (fun t ht => by rw [ht]; exact hqb) hz5))
                clear HO6 HC6 O5 K5 B5 R5 HZ HZI HOV hd2 d2t NX
                go_roundw
                case rel => exact ⟨j + 1, by go_num, by rw [HDN2.out], by omega, O6, K6, B6⟩
                case measure => simp [intOf]; omega
              · have d2t : decide (0 < d2) = false := by simp; omega
                have O6 := Lib.hid (show w5.ownsRow bm 40 7 (.slice (some ⟨q, 0, none⟩) m c') m (cellsBy encHd (inn K x (j + 1))) by
                  rw [inn_stay HZ.out (by rw [HOV.out, if_neg hd2])]
                  exact O5.out)
                clear O5 R5 HZ HZI HOV
                go_wp2
                go_roundw
                case rel => exact ⟨j + 1, by go_num, by rw [HDN2.out], by omega, O6, K5, B5⟩
                case measure => simp [intOf]; omega
          · have hjm' : ¬ (j : Int) < (m : Int) := by omega
            have hjK : j = K.length := by have := HKM.out; omega
            have HJ := Lib.hid hjK
            obtain ⟨bd, hbd⟩ : ∃ bd, doneB K x j = bd := ⟨_, rfl⟩
            have HBD := Lib.hid hbd
            rw [hbd]
            clear hbd hjK
            cases bd
            · have RX := Lib.hid (show wr.rangeAt X 0 [.int .i64 x.age, .int .i64 x.kind, .int .i64 x.id, .int .i64 x.adv, .int .i64 x.seq, .int .i64 x.sum, .int .i64 x.long] from blk_range7 KI.out)
              have OI2 := Lib.hid (show wr.ownsRow bm 40 7 (.slice A' m c') m (cellsBy encHd K) by
                have h1 := HBD.out
                have h2 := OI.out
                rw [HJ.out] at h1 h2
                rw [inn_none h1] at h2
                exact h2)
              have HT2 := Lib.hid (show lacksL S (L.take (k + 1)) = K ++ [x] by
                rw [HT.out, if_neg]
                rw [← HJ.out, HBD.out]
                decide)
              clear OI HT HBD HJ
              go_wp2_with (first | refine wpList_load_row 40 _ _ (by rfl) (.tmp 7) rfl (by rfl) RX.out Tryz.underlying40 rfl (by kernel_rfl) ?_ | (at_builtin; refine wpList_app_hd rfl (.tmp 67) (.tmp 69) rfl x (by rfl) (by rfl) OI2.out (by omega) hzi ?_; intro A3 c3 w3 HO3 HB3))
              have O7 := Lib.hid (show w3.ownsRow bm 40 7 (.slice A3 (m + 1) c3) (m + 1) (cellsBy encHd (lacksL S (L.take (k + 1)))) by rw [HT2.out]; exact HO3.out)
              have B7 := Lib.hid (BI.out.trans HB3.out)
              clear HO3 HB3 BI OI2 RX HT2 KI
              go_wp2
              go_roundw
              case rel => exact ⟨k + 1, m + 1, c3, A3, by go_num, by first | rfl | go_num, by omega, by omega, O7, B7⟩
              case measure => simp [intOf]; omega
            · have O7 := Lib.hid (show wr.ownsRow bm 40 7 (.slice A' m c') m (cellsBy encHd (lacksL S (L.take (k + 1)))) by
                have h1 := HBD.out
                have h2 := OI.out
                rw [HJ.out] at h1 h2
                rw [HT.out, if_pos h1]
                exact h2)
              clear OI HT HBD HJ KI
              go_wp2
              go_roundw
              case rel => exact ⟨k + 1, m, c', A', by go_num, by first | rfl | go_num, by omega, by omega, O7, BI⟩
              case measure => simp [intOf]; omega
      · obtain ⟨qy, oy, ny, cy, u0, hgl, hql, hiy, hny, hay, hry⟩ := ref_items D2.out hy
        obtain ⟨y0, y1, y2, y3, y4, y5, y6⟩ := cells7 hry
        obtain ⟨x0, x1, x2, x3, x4, x5, x6⟩ := K2.out.sevenH
        have HLB := Lib.hid (lackB_some hg)
        have HAX2 := HAX.out
        have gu0 := fun n os => cell_grown (n := n) (os := os) hgl u0
        have gy0 := fun n os => cell_grown (n := n) (os := os) hql y0
        have gy1 := fun n os => cell_grown (n := n) (os := os) hql y1
        have gy2 := fun n os => cell_grown (n := n) (os := os) hql y2
        have gy3 := fun n os => cell_grown (n := n) (os := os) hql y3
        have gy4 := fun n os => cell_grown (n := n) (os := os) hql y4
        have gy5 := fun n os => cell_grown (n := n) (os := os) hql y5
        have gy6 := fun n os => cell_grown (n := n) (os := os) hql y6
        have gx0 := fun n os => cell_grown (n := n) (os := os) hXl x0
        have gx1 := fun n os => cell_grown (n := n) (os := os) hXl x1
        have gx2 := fun n os => cell_grown (n := n) (os := os) hXl x2
        have gx3 := fun n os => cell_grown (n := n) (os := os) hXl x3
        have gx4 := fun n os => cell_grown (n := n) (os := os) hXl x4
        have gx5 := fun n os => cell_grown (n := n) (os := os) hXl x5
        have gx6 := fun n os => cell_grown (n := n) (os := os) hXl x6
        have p1 := fun n os => Calls.grown_of (refNewer_grown x y.h (grow (w2.drewN n) os) HAX2 hay)
        obtain ⟨d, hd⟩ : ∃ d, nw x y.h = d := ⟨_, rfl⟩
        rw [hd] at p1 HLB
        have i_u : (i : Int) < (ny : Int) := by omega
        have d0 : decide (0 ≤ (i : Int)) = true := by simp
        have hgr := Lib.hid (fun n os => below_grown13 (w := w2) (w' := grow (w2.drewN n) os) ⟨n, os, rfl⟩)
        clear u0 y0 y1 y2 y3 y4 y5 y6 x0 x1 x2 x3 x4 x5 x6 hry hg hy hd hay HAX2
        by_cases hd : 0 < d
        · have d1 : decide (d ≤ 0) = false := by simp; omega
          have HT := Lib.hid (show lacksL S (L.take (k + 1)) = if doneB K x K.length = true then inn K x K.length else K ++ [x] by rw [HS2.out, if_pos (by rw [HLB.out, decide_eq_true hd])])
          clear hd HS2 HLB
          go_wp2_with fail
          go_quiet_grown (first | (go_at_call 28; with_reducible exact p1 _ _))
          have W3 := Lib.hid (hgr.out nq osq)
          clear hgr p1 gu0 gy0 gy1 gy2 gy3 gy4 gy5 gy6 gx0 gx1 gx2 gx3 gx4 gx5 gx6
          generalize grow (w2.drewN nq) osq = w3 at *
          clear d0 d1 i_u
          have B3 := Lib.hid (B2.out.trans (W3.out.mono hz2))
          have K3 := Lib.hid (K2.out.below W3.out hXl)
          have O3 := Lib.hid (own_chg O2.out (Chg.of_below (F := fun _ => False) W3.out) (fun _ _ hf => hf))
          have hz3 : bm ≤ w3.heap.size := Nat.le_trans hz2 W3.out.size
          have HKM := Lib.hid (own_lenH encHd_len (by omega) O3.out)
          clear W3 O2 B2 K2 D2 hz2 hXl
          go_wp2_with fail
          have O4 := Lib.hid (show w3.ownsRow bm 40 7 (.slice A' m c') m (cellsBy encHd (inn K x 0)) by rw [inn_zero]; exact O3.out)
          go_loopw [9, 10] (fun s9 s10 wi => ∃ j : Nat, s10 = .int .i64 j ∧ s9 = .bool (doneB K x j) ∧ j ≤ m ∧ Hid (wi.ownsRow bm 40 7 (.slice A' m c') m (cellsBy encHd (inn K x j))) ∧ Hid (Blk wi X 40 #[.int .i64 x.age, .int .i64 x.kind, .int .i64 x.id, .int .i64 x.adv, .int .i64 x.seq, .int .i64 x.sum, .int .i64 x.long]) ∧ Hid (Below bm w wi)) (fun _ s10 _ => m - (intOf s10).toNat)
          case atStart => exact ⟨0, rfl, by simp [doneB], Nat.zero_le _, O4, K3, B3⟩
          case round =>
            clear O4 O3 K3 B3 hz3
            obtain ⟨j, rfl, rfl, hj, OI, KI, BI⟩ := hrel
            have hzi : bm ≤ wr.heap.size := by have := BI.out.size; have := HBM.out; omega
            have hXl := KI.out.lt
            by_cases hjm : j < m
            · have hjm' : (j : Int) < (m : Int) := by omega
              obtain ⟨z, hzj⟩ : ∃ z, K[j]? = some z := ⟨_, List.getElem?_eq_getElem (by have := HKM.out; omega)⟩
              have hzi2 := inn_at (x := x) hzj
              obtain ⟨q, rfl, hqb, hql, -, hnc, hcm, hrz⟩ := item_range7 OI.out hzi2
              have hjc : j < m := hjm
              unfold maxLen at hcm
              obtain ⟨z0, z1, z2, z3, z4, z5, z6⟩ := cells7 hrz
              obtain ⟨x0, x1, x2, x3, x4, x5, x6⟩ := KI.out.sevenH
              have HZ := Lib.hid hzj
              have HZI := Lib.hid hzi2
              have HAZ := Lib.hid (HAK.out z (List.mem_of_getElem? hzj))
              have gz0 := fun n os => cell_grown (n := n) (os := os) hql z0
              have gz1 := fun n os => cell_grown (n := n) (os := os) hql z1
              have gz2 := fun n os => cell_grown (n := n) (os := os) hql z2
              have gz3 := fun n os => cell_grown (n := n) (os := os) hql z3
              have gz4 := fun n os => cell_grown (n := n) (os := os) hql z4
              have gz5 := fun n os => cell_grown (n := n) (os := os) hql z5
              have gz6 := fun n os => cell_grown (n := n) (os := os) hql z6
              have gx0 := fun n os => cell_grown (n := n) (os := os) hXl x0
              have gx1 := fun n os => cell_grown (n := n) (os := os) hXl x1
              have gx2 := fun n os => cell_grown (n := n) (os := os) hXl x2
              have gx3 := fun n os => cell_grown (n := n) (os := os) hXl x3
              have gx4 := fun n os => cell_grown (n := n) (os := os) hXl x4
              have gx5 := fun n os => cell_grown (n := n) (os := os) hXl x5
              have gx6 := fun n os => cell_grown (n := n) (os := os) hXl x6
              have p1 := fun n os => Calls.grown_of (key13_grown z (grow (wr.drewN n) os))
              have p2 := fun n os => Calls.grown_of (key13_grown x (grow (wr.drewN n) os))
              have eK := fun W => equalKy (keyH z) (keyH x) W
              obtain ⟨v2, hv2⟩ : ∃ v, sameKy (keyH z) (keyH x) = v := ⟨_, rfl⟩
              rw [hv2] at eK
              unfold keyH at eK
              dsimp only at eK
              have HV := Lib.hid hv2
              have HDN := Lib.hid (done_step (x := x) hzj)
              rw [hv2] at HDN
              have hgr := Lib.hid (fun n os => below_grown13 (w := wr) (w' := grow (wr.drewN n) os) ⟨n, os, rfl⟩)
              clear z0 z1 z2 z3 z4 z5 z6 x0 x1 x2 x3 x4 x5 x6 hrz hzj hzi2 hv2
              go_wp2_with fail
              go_quiet_grown (first | (go_at_call 27; first | with_reducible exact p1 _ _ | with_reducible exact p2 _ _))
              have W4 := Lib.hid (hgr.out nq osq)
              clear hgr p1 p2 eK gz0 gz1 gz2 gz3 gz4 gz5 gz6 gx0 gx1 gx2 gx3 gx4 gx5 gx6
              generalize grow (wr.drewN nq) osq = w4 at *
              have hz4 : bm ≤ w4.heap.size := Nat.le_trans hzi W4.out.size
              have B4 := Lib.hid (BI.out.trans (W4.out.mono hzi))
              have K4 := Lib.hid (KI.out.below W4.out hXl)
              have O4 := Lib.hid (own_chg OI.out (Chg.of_below (F := fun _ => False) W4.out) (fun _ _ hf => hf))
              clear W4 BI KI OI hzi hXl nq osq
              cases v2
              · have HDN2 := Lib.hid (show doneB K x (j + 1) = doneB K x j by rw [HDN.out, Bool.or_false])
                have O5 := Lib.hid (show w4.ownsRow bm 40 7 (.slice (some ⟨q, 0, none⟩) m c') m (cellsBy encHd (inn K x (j + 1))) by
                  rw [inn_stay HZ.out (by unfold ovr; rw [HV.out]; rfl)]
                  exact O4.out)
                clear HDN HV HZ HZI HAZ O4
                go_wp2
                go_roundw
                case rel => exact ⟨j + 1, by go_num, by rw [HDN2.out], by omega, O5, K4, B4⟩
                case measure => simp [intOf]; omega
              · have HDN2 := Lib.hid (show doneB K x (j + 1) = true by rw [HDN.out, Bool.or_true])
                have hXl := K4.out.lt
                obtain ⟨q', e', -, hql4, -, -, -, hrz⟩ := item_range7 O4.out HZI.out
                injection e' with e'
                injection e' with e'
                subst e'
                obtain ⟨z0, z1, z2, z3, z4, z5, z6⟩ := cells7 hrz
                obtain ⟨x0, x1, x2, x3, x4, x5, x6⟩ := K4.out.sevenH
                have HAX3 := HAX.out
                have HAZ2 := HAZ.out
                have gz0 := fun n os => cell_grown (n := n) (os := os) hql4 z0
                have gz1 := fun n os => cell_grown (n := n) (os := os) hql4 z1
                have gz2 := fun n os => cell_grown (n := n) (os := os) hql4 z2
                have gz3 := fun n os => cell_grown (n := n) (os := os) hql4 z3
                have gz4 := fun n os => cell_grown (n := n) (os := os) hql4 z4
                have gz5 := fun n os => cell_grown (n := n) (os := os) hql4 z5
                have gz6 := fun n os => cell_grown (n := n) (os := os) hql4 z6
                have gx0 := fun n os => cell_grown (n := n) (os := os) hXl x0
                have gx1 := fun n os => cell_grown (n := n) (os := os) hXl x1
                have gx2 := fun n os => cell_grown (n := n) (os := os) hXl x2
                have gx3 := fun n os => cell_grown (n := n) (os := os) hXl x3
                have gx4 := fun n os => cell_grown (n := n) (os := os) hXl x4
                have gx5 := fun n os => cell_grown (n := n) (os := os) hXl x5
                have gx6 := fun n os => cell_grown (n := n) (os := os) hXl x6
                have p1 := fun n os => Calls.grown_of (refNewer_grown x z (grow (w4.drewN n) os) HAX3 HAZ2)
                obtain ⟨d2, hd2⟩ : ∃ d, nw x z = d := ⟨_, rfl⟩
                rw [hd2] at p1
                have HOV := Lib.hid (show ovr x z = if 0 < d2 then x else z by unfold ovr; rw [HV.out, if_pos rfl, hd2])
                have hgr := Lib.hid (fun n os => below_grown13 (w := w4) (w' := grow (w4.drewN n) os) ⟨n, os, rfl⟩)
                clear z0 z1 z2 z3 z4 z5 z6 x0 x1 x2 x3 x4 x5 x6 hrz hd2 HAX3 HAZ2 HDN HV HAZ
                go_wp2_with fail
                go_quiet_grown (first | (go_at_call 28; with_reducible exact p1 _ _))
                have W5 := Lib.hid (hgr.out nq osq)
                clear hgr p1 gz0 gz1 gz2 gz3 gz4 gz5 gz6 gx0 gx1 gx2 gx3 gx4 gx5 gx6
                generalize grow (w4.drewN nq) osq = w5 at *
                have hz5 : bm ≤ w5.heap.size := Nat.le_trans hz4 W5.out.size
                have B5 := Lib.hid (B4.out.trans (W5.out.mono hz4))
                have K5 := Lib.hid (K4.out.below W5.out hXl)
                have R5 := Lib.hid (show w5.rangeAt X 0 [.int .i64 x.age, .int .i64 x.kind, .int .i64 x.id, .int .i64 x.adv, .int .i64 x.seq, .int .i64 x.sum, .int .i64 x.long] from blk_range7 K5.out)
                have O5 := Lib.hid (own_chg O4.out (Chg.of_below (F := fun _ => False) W5.out) (fun _ _ hf => hf))
                clear W5 B4 K4 O4 hz4 hXl nq osq
                by_cases hd2 : 0 < d2
                · have d2t : decide (0 < d2) = true := by simp; omega
                  have NX := Lib.hid (show X ≠ q from fun e => NA.out q rfl e.symm)
                  go_wp2_with (first | refine wpList_load_row 40 _ _ (by rfl) (.tmp 7) rfl (by rfl) R5.out Tryz.underlying40 rfl (by kernel_rfl) ?_ | (refine wpList_over_hd x rfl (.tmp 64) (.tmp 63) rfl (by rfl) (by rfl) O5.out hjc ?_; intro w6 HO6 HC6))
                  have O6 := Lib.hid (show w6.ownsRow bm 40 7 (.slice (some ⟨q, 0, none⟩) m c') m (cellsBy encHd (inn K x (j + 1))) by rw [inn_step HZ.out, HOV.out, if_pos hd2]; exact HO6.out)
                  have K6 := Lib.hid (K5.out.chg HC6.out NX.out)
                  have B6 := Lib.hid (B5.out.trans (HC6.out.to_below (fun t ht => by rw [ht]; exact hqb) hz5))
                  clear HO6 HC6 O5 K5 B5 R5 HZ HZI HOV hd2 d2t NX
                  go_roundw
                  case rel => exact ⟨j + 1, by go_num, by rw [HDN2.out], by omega, O6, K6, B6⟩
                  case measure => simp [intOf]; omega
                · have d2t : decide (0 < d2) = false := by simp; omega
                  have O6 := Lib.hid (show w5.ownsRow bm 40 7 (.slice (some ⟨q, 0, none⟩) m c') m (cellsBy encHd (inn K x (j + 1))) by
                    rw [inn_stay HZ.out (by rw [HOV.out, if_neg hd2])]
                    exact O5.out)
                  clear O5 R5 HZ HZI HOV
                  go_wp2
                  go_roundw
                  case rel => exact ⟨j + 1, by go_num, by rw [HDN2.out], by omega, O6, K5, B5⟩
                  case measure => simp [intOf]; omega
            · have hjm' : ¬ (j : Int) < (m : Int) := by omega
              have hjK : j = K.length := by have := HKM.out; omega
              have HJ := Lib.hid hjK
              obtain ⟨bd, hbd⟩ : ∃ bd, doneB K x j = bd := ⟨_, rfl⟩
              have HBD := Lib.hid hbd
              rw [hbd]
              clear hbd hjK
              cases bd
              · have RX := Lib.hid (show wr.rangeAt X 0 [.int .i64 x.age, .int .i64 x.kind, .int .i64 x.id, .int .i64 x.adv, .int .i64 x.seq, .int .i64 x.sum, .int .i64 x.long] from blk_range7 KI.out)
                have OI2 := Lib.hid (show wr.ownsRow bm 40 7 (.slice A' m c') m (cellsBy encHd K) by
                  have h1 := HBD.out
                  have h2 := OI.out
                  rw [HJ.out] at h1 h2
                  rw [inn_none h1] at h2
                  exact h2)
                have HT2 := Lib.hid (show lacksL S (L.take (k + 1)) = K ++ [x] by
                  rw [HT.out, if_neg]
                  rw [← HJ.out, HBD.out]
                  decide)
                clear OI HT HBD HJ
                go_wp2_with (first | refine wpList_load_row 40 _ _ (by rfl) (.tmp 7) rfl (by rfl) RX.out Tryz.underlying40 rfl (by kernel_rfl) ?_ | (at_builtin; refine wpList_app_hd rfl (.tmp 67) (.tmp 69) rfl x (by rfl) (by rfl) OI2.out (by omega) hzi ?_; intro A3 c3 w3 HO3 HB3))
                have O7 := Lib.hid (show w3.ownsRow bm 40 7 (.slice A3 (m + 1) c3) (m + 1) (cellsBy encHd (lacksL S (L.take (k + 1)))) by rw [HT2.out]; exact HO3.out)
                have B7 := Lib.hid (BI.out.trans HB3.out)
                clear HO3 HB3 BI OI2 RX HT2 KI
                go_wp2
                go_roundw
                case rel => exact ⟨k + 1, m + 1, c3, A3, by go_num, by first | rfl | go_num, by omega, by omega, O7, B7⟩
                case measure => simp [intOf]; omega
              · have O7 := Lib.hid (show wr.ownsRow bm 40 7 (.slice A' m c') m (cellsBy encHd (lacksL S (L.take (k + 1)))) by
                  have h1 := HBD.out
                  have h2 := OI.out
                  rw [HJ.out] at h1 h2
                  rw [HT.out, if_pos h1]
                  exact h2)
                clear OI HT HBD HJ KI
                go_wp2
                go_roundw
                case rel => exact ⟨k + 1, m, c', A', by go_num, by first | rfl | go_num, by omega, by omega, O7, BI⟩
                case measure => simp [intOf]; omega
        · have d1 : decide (d ≤ 0) = true := by simp; omega
          have HT := Lib.hid (show lacksL S (L.take (k + 1)) = K by rw [HS2.out, if_neg (by rw [HLB.out, decide_eq_false hd]; decide)])
          clear hd HS2 HLB
          go_wp2_with fail
          go_quiet_grown (first | (go_at_call 28; with_reducible exact p1 _ _))
          have W3 := Lib.hid (hgr.out nq osq)
          clear hgr p1 gu0 gy0 gy1 gy2 gy3 gy4 gy5 gy6 gx0 gx1 gx2 gx3 gx4 gx5 gx6
          generalize grow (w2.drewN nq) osq = w3 at *
          have B3 := Lib.hid (B2.out.trans (W3.out.mono hz2))
          have O3 := Lib.hid (show w3.ownsRow bm 40 7 (.slice A' m c') m (cellsBy encHd (lacksL S (L.take (k + 1)))) by rw [HT.out]; exact own_chg O2.out (Chg.of_below (F := fun _ => False) W3.out) (fun _ _ hf => hf))
          clear W3 O2 B2 K2 D2 HT d0 d1 i_u
          go_wp2
          go_roundw
          case rel => exact ⟨k + 1, m, c', A', by go_num, rfl, by omega, by omega, O3, B3⟩
          case measure => simp [intOf]; omega
    · have hlt' : ¬ (k : Int) < (n : Int) := by omega
      have HT := Lib.hid (show lacksL S (L.take k) = lacksL S L by
        rw [List.take_of_length_le (by have := HL.out.1; omega)])
      rw [HT.out] at OW
      go_wp2
      show Q (.returned (.slice A' m c')) wr
      rw [← HQ.out]
      exact ⟨A', m, c', rfl, by rw [HBM.out]; exact BW.out, by rw [HBM.out]; exact OW.out⟩
end Go.Proofs.YtfdfdmbnggpnbaaGreat
namespace Go.Proofs.YtfdfdmbnggpnbaaGreat
open Go.RowKit Go.Lib Go.Sort Go.Deep

/-- Pair databases that hold S, each on blocks of its own. -/
def Pair (w : World) (lo lo2 p g : Nat) (S : List La) (F F' : Nat → Prop) : Prop :=
  PDb w lo p 40 S F ∧ RefDb w lo2 g 40 S F' ∧ ∀ q, F q → ¬ F' q
theorem Pair.sort {w : World} {lo lo2 p g : Nat} {S : List La} {F F' : Nat → Prop} (h : Pair w lo lo2 p g S F F') : SortL S := by
  obtain ⟨-, ⟨_, _, _, _, -, -, -, -, h1, -⟩, -⟩ := h
  exact h1
theorem Pair.chg {w w' : World} {lo lo2 p g : Nat} {S : List La} {F F' F2 : Nat → Prop} (h : Pair w lo lo2 p g S F F') (hc : Chg F2 w w') (h1 : ∀ q, F q → ¬ F2 q) (h2 : ∀ q, F' q → ¬ F2 q) : Pair w' lo lo2 p g S F F' :=
  ⟨h.1.chg hc h1, h.2.1.chg hc h2, h.2.2⟩
theorem Pair.below {w w' : World} {lo lo2 p g : Nat} {S : List La} {F F' : Nat → Prop} (h : Pair w lo lo2 p g S F F') (hb : Below w.heap.size w w') : Pair w' lo lo2 p g S F F' :=
  h.chg (F2 := fun _ => False) (Chg.of_below hb) (fun _ _ hf => hf) (fun _ _ hf => hf)
def BothQ13 (w : World) (e : Ending) (w' : World) : Prop :=
  ∃ (lo2 p g : Nat) (S : List La) (F F' : Nat → Prop), e = .returned (.tuple #[.pointer (some ⟨p, 0, none⟩), .pointer (some ⟨g, 0, none⟩)]) ∧ Below w.heap.size w w' ∧ w.heap.size ≤ lo2 ∧ Pair w' w.heap.size lo2 p g S F F'
set_option maxRecDepth 8000 in
set_option maxHeartbeats 8000000 in
theorem both13_any {w : World} {A : Option Addr} {n c B : Nat} {T : List La} (hT : Las w B A n T) (hB : B ≤ w.heap.size) (hn : n ≤ 100) (h20 : ∀ a ∈ T, a.L.length ≤ 20 ∧ a.M.length ≤ 20) : Calls Tryz.prog 8 #[.slice A n c] w (BothQ13 w) := by
  generalize hQ : BothQ13 w = Q
  have HQ := Lib.hid hQ
  have HT := Lib.hid hT
  have H20 := Lib.hid h20
  clear hQ hT h20
  go_enter Tryz.func8, Tryz.ntmps8
  go_wp2_with (first | (go_at_call 21; refine (new_db 40 _).mono ?_; rintro e1 w1 ⟨p, F1, rfl, hb1, hd1⟩) | (go_at_call 22; refine (r7New_db 40 _).mono ?_; rintro e2 w2 ⟨rfl, hb2, F2, hd2⟩))
  rw [show roomOf 40 = 40 by decide] at hd1 hd2
  have B2 := Lib.hid (hb1.trans (hb2.mono hb1.size))
  have hlo2 := hb1.size
  have D2 := Lib.hid (show Pair w2 w.heap.size w1.heap.size p w1.heap.size [] F1 F2 from ⟨hd1.chg (F' := fun _ => False) (Chg.of_below hb2) (fun _ _ hf => hf), hd2, fun q h1 h2 => by
    have := (hd1.foot h1).2
    have := (hd2.foot h2).1
    omega⟩)
  clear hb1 hb2 hd1 hd2
  generalize w1.heap.size = lo2 at *
  go_wp2_with fail
  go_loopw [12] (fun s12 wr => ∃ (k : Nat) (S : List La) (F F' : Nat → Prop), s12 = .int .i64 k ∧ k ≤ n ∧ Hid (Pair wr w.heap.size lo2 p lo2 S F F') ∧ Hid (Below w.heap.size w wr)) (fun s12 _ => n - (intOf s12).toNat)
  case atStart => exact ⟨0, [], F1, F2, rfl, Nat.zero_le _, D2, B2⟩
  case round =>
    clear D2 B2
    obtain ⟨k, S, F, F', rfl, hk, DW, BW⟩ := hrel
    by_cases hlt : k < n
    · have hlt' : (k : Int) < (n : Int) := by omega
      obtain ⟨b, o, x, A1, n1, c1, A2, n2, c2, rfl, hb, hx, hr, hL, hM, hm1, hm2⟩ := las_item (HT.out.below (BW.out.mono hB)) hlt
      have HR := Lib.hid hr
      have HL := Lib.hid hL
      have HM := Lib.hid hM
      obtain ⟨l1, l2⟩ := H20.out x (List.mem_of_getElem? hx)
      have l3 : n1 ≤ 20 := by have := hL.1; omega
      have l4 : n2 ≤ 20 := by have := hM.1; omega
      have hz := BW.out.size
      have BX := Lib.hid (BW.out.alloc hz (.cells #[.int .i64 x.h.age, .int .i64 x.h.kind, .int .i64 x.h.id, .int .i64 x.h.adv, .int .i64 x.h.seq, .int .i64 x.h.sum, .int .i64 x.h.long, .slice A1 n1 c1, .slice A2 n2 c2] 44))
      have KX := Lib.hid (Blk.new wr 44 #[.int .i64 x.h.age, .int .i64 x.h.kind, .int .i64 x.h.id, .int .i64 x.h.adv, .int .i64 x.h.seq, .int .i64 x.h.sum, .int .i64 x.h.long, .slice A1 n1 c1, .slice A2 n2 c2])
      have DX := Lib.hid (DW.out.below ((Below.refl wr.heap.size wr).alloc (Nat.le_refl _) (.cells #[.int .i64 x.h.age, .int .i64 x.h.kind, .int .i64 x.h.id, .int .i64 x.h.adv, .int .i64 x.h.seq, .int .i64 x.h.sum, .int .i64 x.h.long, .slice A1 n1 c1, .slice A2 n2 c2] 44)))
      have LX := Lib.hid (hL.alloc (by omega) (.cells #[.int .i64 x.h.age, .int .i64 x.h.kind, .int .i64 x.h.id, .int .i64 x.h.adv, .int .i64 x.h.seq, .int .i64 x.h.sum, .int .i64 x.h.long, .slice A1 n1 c1, .slice A2 n2 c2] 44))
      have MX := Lib.hid (hM.alloc (by omega) (.cells #[.int .i64 x.h.age, .int .i64 x.h.kind, .int .i64 x.h.id, .int .i64 x.h.adv, .int .i64 x.h.seq, .int .i64 x.h.sum, .int .i64 x.h.long, .slice A1 n1 c1, .slice A2 n2 c2] 44))
      have RX := Lib.hid (blk_range7 KX.out)
      have NX := Lib.hid (show (∀ q, F q → q ≠ wr.heap.size) ∧ (∀ q, F' q → q ≠ wr.heap.size) from ⟨fun q hq => by have := (DW.out.1.foot hq).2; omega, fun q hq => by have := (DW.out.2.1.foot hq).2; omega⟩)
      clear hr hx hL hM DW BW l1 l2
      go_wp2_with (first | refine wpList_load_row 44 _ _ (by rfl) (.tmp 14) rfl (by rfl) HR.out Tryz.underlying44 rfl (by kernel_rfl) ?_ | (refine wpList_load_row 44 _ _ (by rfl) (.tmp 7) rfl (by rfl) RX.out Tryz.underlying44 rfl (by kernel_rfl) ?_))
      generalize wr.alloc (.cells #[.int .i64 x.h.age, .int .i64 x.h.kind, .int .i64 x.h.id, .int .i64 x.h.adv, .int .i64 x.h.seq, .int .i64 x.h.sum, .int .i64 x.h.long, .slice A1 n1 c1, .slice A2 n2 c2] 44) = wx at *
      generalize wr.heap.size = X at *
      have hzx := BX.out.size
      refine (put_db DX.out.1 DX.out.sort hzx x.h x.L x.M A1 A2 n1 c1 n2 c2 B LX.out MX.out (by omega) (by omega) (by omega)).mono ?_
      rintro e3 w3 ⟨rfl, F3, hd3, hc3, hf3⟩
      have hB3 : Below w.heap.size wx w3 := hc3.to_below (fun q hq => (DX.out.1.foot hq).1) hzx
      have B3 := Lib.hid (BX.out.trans hB3)
      have hz3 := B3.out.size
      have R3 := Lib.hid (show RefDb w3 lo2 lo2 40 S F' from DX.out.2.1.chg hc3 (fun q h1 h2 => DX.out.2.2 q h2 h1))
      have P3 := Lib.hid hd3
      have J3 := Lib.hid (show ∀ q, F3 q → ¬ F' q from fun q h1 h2 => by
        rcases hf3 q h1 with h | h
        · exact DX.out.2.2 q h h2
        · have := (DX.out.2.1.foot h2).2
          omega)
      have K3 := Lib.hid (KX.out.chg hc3 (fun h => NX.out.1 X h rfl))
      have RX3 := Lib.hid (blk_range7 K3.out)
      have L3 := Lib.hid (LX.out.below (hB3.mono hB))
      have M3 := Lib.hid (MX.out.below (hB3.mono hB))
      clear hd3 hc3 hf3 hB3 DX KX LX MX RX BX NX HR
      go_wp2_with (refine wpList_load_row 44 _ _ (by rfl) (.tmp 7) rfl (by rfl) RX3.out Tryz.underlying44 rfl (by kernel_rfl) ?_)
      refine (r7Put_db R3.out (by have := (R3.out.foot (q := lo2) (by obtain ⟨_, _, _, _, -, -, -, -, -, -, -, -, hF⟩ := R3.out; exact (hF lo2).2 (.inl rfl))).2; omega) x.h x.L x.M A1 A2 n1 c1 n2 c2 B L3.out M3.out (by omega) (by omega) (by omega)).mono ?_
      rintro e4 w4 ⟨rfl, F4, hd4, hc4, hf4⟩
      have hB4 : Below w.heap.size w3 w4 := hc4.to_below (fun q hq => Nat.le_trans hlo2 (R3.out.foot hq).1) hz3
      have B4 := Lib.hid (B3.out.trans hB4)
      have D4 := Lib.hid (show Pair w4 w.heap.size lo2 p lo2 (putS 40 S ⟨x.h, x.L, x.M⟩) F3 F4 from ⟨P3.out.chg hc4 (fun q h1 h2 => J3.out q h1 h2), hd4, fun q h1 h2 => by
        rcases hf4 q h2 with h | h
        · exact J3.out q h1 h
        · have := (P3.out.foot h1).2
          omega⟩)
      clear hd4 hc4 hf4 hB4 R3 P3 J3 K3 RX3 L3 M3 B3 HL HM
      go_wp2
      go_roundw
      case rel => exact ⟨k + 1, _, F3, F4, by go_num, by omega, D4, B4⟩
      case measure => simp [intOf]; omega
    · have hlt' : ¬ (k : Int) < (n : Int) := by omega
      go_wp2
      show Q (.returned (.tuple #[.pointer (some ⟨p, 0, none⟩), .pointer (some ⟨lo2, 0, none⟩)])) wr
      rw [← HQ.out]
      exact ⟨lo2, p, lo2, S, F, F', rfl, BW.out, hlo2, DW.out⟩
end Go.Proofs.YtfdfdmbnggpnbaaGreat
