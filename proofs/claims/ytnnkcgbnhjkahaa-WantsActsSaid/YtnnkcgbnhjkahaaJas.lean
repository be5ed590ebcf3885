/- The reference's small calls: a head's key, which key is ahead, whether lists of heads are alike; whether there is more than a statement takes. Conditions: at most 1000 heads. · The reference's heads: those that are told, each put behind those of keys that aren't above its own. Conditions: at most 100 descriptions. · The walk of the statement SummTells. Conditions: what the words say. · The program's database and the reference's, of the same descriptions. Conditions: at most 100 descriptions, of at most 20 links and members. · What is lacked, as the reference reckons it: plain facts; whether ages may be; which of two heads is newer, as the reference tells it, by new memory alone. Conditions: ages from 0 to 60 where they are compared. · The reference's heads that a database lacks. Conditions: at most 100 heads, ages from 0 to 60. -/
import Derived.Test.YtnnkcgbnhjkahaaJar
import Derived.Test.YtnnkcgbnhjkahaaJaq
import Derived.Test.YtnnkcgbnhjkahaaJao
import Derived.Test.YtnnkcgbnhjkahaaJap
import Derived.Test.YtnnkcgbnhjkahaaJan
namespace Go.Proofs.Ytnnkcgbnhjkahaa
open Go.RowKit Go.Lib Go.Sort Go.Deep

set_option maxRecDepth 8000 in
set_option maxHeartbeats 2000000 in
theorem key13_grown (h : Hd) (w : World) : Calls Try.prog 22 #[.agg #[.int .i64 h.age, .int .i64 h.kind, .int .i64 h.id, .int .i64 h.adv, .int .i64 h.seq, .int .i64 h.sum, .int .i64 h.long]] w
    fun e w' => e = .returned (.agg #[.int .i64 h.kind, .int .i64 h.id, .int .i64 h.adv]) ∧ ∃ q os', w' = grow (w.drewN q) os' := by
  have HG := Lib.hid (show ∃ q os', (w.alloc (.cells #[.int .i64 h.age, .int .i64 h.kind, .int .i64 h.id, .int .i64 h.adv, .int .i64 h.seq, .int .i64 h.sum, .int .i64 h.long] 38)).alloc (.cells #[.int .i64 h.kind, .int .i64 h.id, .int .i64 h.adv] 47) = grow (w.drewN q) os' from ⟨0, _, by rw [alloc_eq_grow, alloc_eq_grow, grow_grow]; rfl⟩)
  go_enter Try.func22, Try.ntmps22
  go_wp2
  refine bodyPost_ret (v := .agg #[.int .i64 h.kind, .int .i64 h.id, .int .i64 h.adv]) (by simp [results, Try.results22, go_sem, *]) rfl ?_
  exact ⟨rfl, HG.out⟩
theorem below_grown13 {w w' : World} (h : ∃ q os', w' = grow (w.drewN q) os') : Below w.heap.size w w' := by
  obtain ⟨q, os, rfl⟩ := h
  exact ⟨rfl, rfl, rfl, by rw [Go.Sort.size_grow]; exact Nat.le_add_right _ _, fun b hb => heap_grow_old _ _ (by exact hb)⟩
theorem key13_any (h : Hd) (w : World) : Calls Try.prog 22 #[.agg #[.int .i64 h.age, .int .i64 h.kind, .int .i64 h.id, .int .i64 h.adv, .int .i64 h.seq, .int .i64 h.sum, .int .i64 h.long]] w
    fun e w' => e = .returned (.agg #[.int .i64 h.kind, .int .i64 h.id, .int .i64 h.adv]) ∧ Below w.heap.size w w' := (key13_grown h w).mono fun _ _ ⟨he, hg⟩ => ⟨he, below_grown13 hg⟩
set_option maxRecDepth 8000 in
set_option maxHeartbeats 2000000 in
theorem less_grown (a b : Ky) (w : World) : Calls Try.prog 48 #[.agg #[.int .i64 a.kind, .int .i64 a.id, .int .i64 a.adv], .agg #[.int .i64 b.kind, .int .i64 b.id, .int .i64 b.adv]] w
    fun e w' => e = .returned (.bool (lessKy a b)) ∧ ∃ q os', w' = grow (w.drewN q) os' := by
  generalize hv : lessKy a b = v
  have HV := Lib.hid hv
  clear hv
  have HG := Lib.hid (show ∃ q os', (w.alloc (.cells #[.int .i64 a.kind, .int .i64 a.id, .int .i64 a.adv] 47)).alloc (.cells #[.int .i64 b.kind, .int .i64 b.id, .int .i64 b.adv] 47) = grow (w.drewN q) os' from ⟨0, _, by rw [alloc_eq_grow, alloc_eq_grow, grow_grow]; rfl⟩)
  go_enter Try.func48, Try.ntmps48
  by_cases h1 : a.kind = b.kind
  · have d1 : (a.kind != b.kind) = false := by simp [h1]
    by_cases h2 : a.id = b.id
    · have d2 : (a.id != b.id) = false := by simp [h2]
      have HC := Lib.hid (show decide (a.adv < b.adv) = v by rw [← HV.out, lessKy, if_neg (by simp [h1]), if_neg (by simp [h2])])
      clear h1 h2
      go_wp2
      go_ret
      exact ⟨ret_bool HC.out, HG.out⟩
    · have d2 : (a.id != b.id) = true := by simp [h2]
      have HC := Lib.hid (show decide (a.id < b.id) = v by rw [← HV.out, lessKy, if_neg (by simp [h1]), if_pos h2])
      clear h1 h2
      go_wp2
      go_ret
      exact ⟨ret_bool HC.out, HG.out⟩
  · have d1 : (a.kind != b.kind) = true := by simp [h1]
    have HC := Lib.hid (show decide (a.kind < b.kind) = v by rw [← HV.out, lessKy, if_pos h1])
    clear h1
    go_wp2
    go_ret
    exact ⟨ret_bool HC.out, HG.out⟩
theorem HdAt.of_range {w : World} {B b p : Nat} {h : Hd} (hh : w.rangeAt b p [.int .i64 h.age, .int .i64 h.kind, .int .i64 h.id, .int .i64 h.adv, .int .i64 h.seq, .int .i64 h.sum, .int .i64 h.long]) : HdAt w B b p h :=
  ⟨hh 0 _ rfl, hh 1 _ rfl, hh 2 _ rfl, hh 3 _ rfl, hh 4 _ rfl, hh 5 _ rfl, hh 6 _ rfl⟩
set_option maxRecDepth 8000 in
set_option maxHeartbeats 4000000 in
theorem same13_any {w : World} {A A' : Option Addr} {n c n' c' B B' : Nat} {L L' : List Hd} (hL : Hds w B A n L) (hL' : Hds w B' A' n' L') (hB : B ≤ w.heap.size) (hB' : B' ≤ w.heap.size) (hn : n ≤ 1000) (hn' : n' ≤ 1000) :
    Calls Try.prog 20 #[.slice A n c, .slice A' n' c'] w fun e w' => e = .returned (.bool (decide (L = L'))) ∧ ∃ q, w' = w.drewN q := by
  have H1 := Lib.hid hL
  have H2 := Lib.hid hL'
  have hl1 := hL.1
  have hl2 := hL'.1
  clear hL hL'
  go_enter Try.func20, Try.ntmps20
  by_cases hnn : n = n'
  · subst hnn
    have d1 : ((n : Int) != (n : Int)) = false := by simp
    go_wp2_with fail
    go_loopw [5] (fun i wr => ∃ k q : Nat, k ≤ n ∧ i = .int .i64 k ∧ Hid (L.take k = L'.take k) ∧ Hid (wr = w.drewN q)) (fun i _ => n - (intOf i).toNat)
    case atStart => exact ⟨0, 0, Nat.zero_le _, rfl, Lib.hid rfl, Lib.hid rfl⟩
    case round =>
      obtain ⟨k, q, hk, rfl, HT, HW⟩ := hrel
      by_cases hlt : k < n
      · have hlt' : (k : Int) < (n : Int) := by omega
        obtain ⟨b, o, x, rfl, hb, hx, hr⟩ := hds_item H1.out hlt
        obtain ⟨b', o', y, rfl, hb', hy, hr'⟩ := hds_item H2.out hlt
        have X1 := Lib.hid (take_snocA L k x hx)
        have Y1 := Lib.hid (take_snocA L' k y hy)
        have HX := Lib.hid hx
        have HY := Lib.hid hy
        have R1 := Lib.hid (show wr.rangeAt b (o + k * 7) [.int .i64 x.age, .int .i64 x.kind, .int .i64 x.id, .int .i64 x.adv, .int .i64 x.seq, .int .i64 x.sum, .int .i64 x.long] by rw [HW.out]; exact hr)
        have R2 := Lib.hid (show wr.rangeAt b' (o' + k * 7) [.int .i64 y.age, .int .i64 y.kind, .int .i64 y.id, .int .i64 y.adv, .int .i64 y.seq, .int .i64 y.sum, .int .i64 y.long] by rw [HW.out]; exact hr')
        have hbl : b < wr.heap.size := by rw [HW.out]; exact Nat.lt_of_lt_of_le hb hB
        have hbl' : b' < wr.heap.size := by rw [HW.out]; exact Nat.lt_of_lt_of_le hb' hB'
        clear hx hy hr hr' hb hb'
        have g0 : wr.cell? ⟨b, o + k * 7, none⟩ = some (.int .i64 x.age) := R1.out 0 _ rfl
        have g1 : wr.cell? ⟨b, o + k * 7 + 1, none⟩ = some (.int .i64 x.kind) := R1.out 1 _ rfl
        have g2 : wr.cell? ⟨b, o + k * 7 + 2, none⟩ = some (.int .i64 x.id) := R1.out 2 _ rfl
        have g3 : wr.cell? ⟨b, o + k * 7 + 3, none⟩ = some (.int .i64 x.adv) := R1.out 3 _ rfl
        have g4 : wr.cell? ⟨b, o + k * 7 + 4, none⟩ = some (.int .i64 x.seq) := R1.out 4 _ rfl
        have g5 : wr.cell? ⟨b, o + k * 7 + 5, none⟩ = some (.int .i64 x.sum) := R1.out 5 _ rfl
        have g6 : wr.cell? ⟨b, o + k * 7 + 6, none⟩ = some (.int .i64 x.long) := R1.out 6 _ rfl
        have f0 : wr.cell? ⟨b', o' + k * 7, none⟩ = some (.int .i64 y.age) := R2.out 0 _ rfl
        have f1 : wr.cell? ⟨b', o' + k * 7 + 1, none⟩ = some (.int .i64 y.kind) := R2.out 1 _ rfl
        have f2 : wr.cell? ⟨b', o' + k * 7 + 2, none⟩ = some (.int .i64 y.id) := R2.out 2 _ rfl
        have f3 : wr.cell? ⟨b', o' + k * 7 + 3, none⟩ = some (.int .i64 y.adv) := R2.out 3 _ rfl
        have f4 : wr.cell? ⟨b', o' + k * 7 + 4, none⟩ = some (.int .i64 y.seq) := R2.out 4 _ rfl
        have f5 : wr.cell? ⟨b', o' + k * 7 + 5, none⟩ = some (.int .i64 y.sum) := R2.out 5 _ rfl
        have f6 : wr.cell? ⟨b', o' + k * 7 + 6, none⟩ = some (.int .i64 y.long) := R2.out 6 _ rfl
        clear R1 R2
        have eH := fun W => equalHd x y W
        by_cases hxy : x = y
        · subst hxy
          rw [show sameHd x x = true from (sameHd_iff _ _).2 rfl] at eH
          have HN := Lib.hid (show L.take (k + 1) = L'.take (k + 1) by rw [X1.out, Y1.out, HT.out])
          clear X1 Y1 HX HY
          go_wp2_with fail
          go_quiet (fail)
          have HW2 := Lib.hid (show wr.drewN nq = w.drewN (q + nq) by rw [HW.out, World.drewN_drewN])
          clear g0 g1 g2 g3 g4 g5 g6 f0 f1 f2 f3 f4 f5 f6 eH hbl hbl' HW
          go_wp2
          go_roundw
          case rel => exact ⟨k + 1, q + nq, by omega, by go_num, HN, HW2⟩
          case measure => simp [intOf]; omega
        · rw [show sameHd x y = false from by rw [Bool.eq_false_iff]; exact fun h => hxy ((sameHd_iff _ _).1 h)] at eH
          have HN := Lib.hid (show ¬ L = L' from fun h => by
            have h1 := HX.out
            rw [h, HY.out] at h1
            injection h1 with h1
            exact hxy h1.symm)
          clear X1 Y1 HX HY
          go_wp2_with fail
          go_quiet (fail)
          have HW2 := Lib.hid (show wr.drewN nq = w.drewN (q + nq) by rw [HW.out, World.drewN_drewN])
          clear g0 g1 g2 g3 g4 g5 g6 f0 f1 f2 f3 f4 f5 f6 eH hbl hbl' HW
          go_wp2
          go_ret
          refine ⟨?_, q + nq, HW2.out⟩
          rw [decide_eq_false HN.out]
          rfl
      · have hlt' : ¬ (k : Int) < (n : Int) := by omega
        have HN := Lib.hid (show L = L' by
          have := HT.out
          rwa [List.take_of_length_le (by omega), List.take_of_length_le (by omega)] at this)
        go_wp2
        go_ret
        exact ⟨by rw [decide_eq_true HN.out]; rfl, q, HW.out⟩
  · have d1 : ((n : Int) != (n' : Int)) = true := by simp; omega
    have HN := Lib.hid (show ¬ L = L' from fun h => hnn (by rw [← hl1, ← hl2, h]))
    go_wp2
    go_ret
    exact ⟨by rw [decide_eq_false HN.out]; rfl, 0, rfl⟩
end Go.Proofs.Ytnnkcgbnhjkahaa
namespace Go.Proofs.Ytnnkcgbnhjkahaa
open Go.RowKit Go.Lib Go.Sort Go.Deep

/-- A row with an item put at place k. -/
def insAt (K : List Hd) (k : Nat) (x : Hd) : List Hd := K.take k ++ x :: K.drop k
theorem insAt_len (K : List Hd) (k : Nat) (x : Hd) : (insAt K k x).length = K.length + 1 := by
  unfold insAt
  rw [List.length_append, List.length_cons, List.length_take, List.length_drop]
  omega
theorem insAt_end (K : List Hd) (x : Hd) : insAt K K.length x = K ++ [x] := by
  unfold insAt
  rw [List.take_length, List.drop_length]
theorem insAt_at (K : List Hd) (k : Nat) (x : Hd) (hk : k ≤ K.length) : (insAt K k x)[k]? = some x := by
  unfold insAt
  rw [List.getElem?_append_right (by rw [List.length_take]; omega), List.length_take, show k - min k K.length = 0 by omega]
  rfl
theorem insAt_before (K : List Hd) (k j : Nat) (x y : Hd) (hj : j < k) (hy : K[j]? = some y) : (insAt K k x)[j]? = some y := by
  have := (List.getElem?_eq_some_iff.1 hy).1
  unfold insAt
  rw [List.getElem?_append_left (by rw [List.length_take]; omega), List.getElem?_take_of_lt hj, hy]
theorem insAt_swap (K : List Hd) (j : Nat) (x y : Hd) (hy : K[j]? = some y) : ((insAt K (j + 1) x).set (j + 1) y).set j x = insAt K j x := by
  have hl := (List.getElem?_eq_some_iff.1 hy).1
  unfold insAt
  rw [take_snocA K j y hy, show K.drop j = y :: K.drop (j + 1) from by
    rw [List.drop_eq_getElem_cons hl, (List.getElem?_eq_some_iff.1 hy).2]]
  have h1 : (K.take j).length = j := by rw [List.length_take]; omega
  generalize K.drop (j + 1) = D
  generalize hP : K.take j = P at *
  subst h1
  simp
/-- All behind place k are behind x. -/
def Above (K : List Hd) (k : Nat) (x : Hd) : Prop := ∀ t ∈ K.drop k, lessH x t = true
theorem Above.end_ (K : List Hd) (x : Hd) : Above K K.length x := fun t ht => by
  rw [List.drop_length] at ht
  cases ht
theorem Above.step {K : List Hd} {j : Nat} {x y : Hd} (h : Above K (j + 1) x) (hy : K[j]? = some y) (hl : lessH x y = true) : Above K j x := fun t ht => by
  have hlt := (List.getElem?_eq_some_iff.1 hy).1
  rw [List.drop_eq_getElem_cons hlt, (List.getElem?_eq_some_iff.1 hy).2] at ht
  rcases List.mem_cons.1 ht with rfl | ht
  · exact hl
  · exact h t ht
theorem Above.stab {K : List Hd} {k : Nat} {x : Hd} (h : Above K k x) : Stab lessH (K ++ [x]) (insAt K k x) := by
  unfold insAt
  have e : K ++ [x] = K.take k ++ (K.drop k ++ [x]) := by rw [← List.append_assoc, List.take_append_drop]
  rw [e]
  refine (Stab.refl _).app ?_
  exact stab_swap swo_less (U := K.drop k) (V := [x]) fun u hu v hv => by
    rw [List.mem_singleton] at hv
    rw [hv]
    exact h u hu
theorem Above.ord {K : List Hd} {k : Nat} {x : Hd} (h : Above K k x) (hO : Ord lessH K) (hs : k = 0 ∨ ∃ y, K[k - 1]? = some y ∧ lessH x y = false) : Ord lessH (insAt K k x) := by
  have e : K = K.take k ++ K.drop k := (List.take_append_drop k K).symm
  unfold Ord at hO ⊢
  rw [e] at hO
  obtain ⟨o1, o2, o3⟩ := List.pairwise_append.1 hO
  unfold insAt
  refine List.pairwise_append.2 ⟨o1, List.pairwise_cons.2 ⟨fun t ht => swo_asymm swo_less (h t ht), o2⟩, fun a ha b hb => ?_⟩
  rcases List.mem_cons.1 hb with rfl | hb
  · rcases hs with rfl | ⟨y, hy, hl⟩
    · simp at ha
    · obtain ⟨i, hi⟩ := List.getElem?_of_mem ha
      have hil := (List.getElem?_eq_some_iff.1 hi).1
      rw [List.length_take] at hil
      rw [List.getElem?_take_of_lt (by omega)] at hi
      have hyl := (List.getElem?_eq_some_iff.1 hy).1
      by_cases hik : i = k - 1
      · subst hik
        rw [hi] at hy
        injection hy with hy
        rw [hy]
        exact hl
      · have h3 : lessH y a = false := by
          have hO2 : Ord lessH K := by
            unfold Ord
            rw [e]
            exact hO
          have := List.pairwise_iff_getElem.1 hO2 i (k - 1) (by omega) hyl (by omega)
          rwa [(List.getElem?_eq_some_iff.1 hi).2, (List.getElem?_eq_some_iff.1 hy).2] at this
        exact swo_less.ntrans _ y _ hl h3
  · exact o3 a ha b hb
/-- What the reference's Heads answers. -/
def HeadsQ (S : List La) (w : World) (e : Ending) (w' : World) : Prop :=
  ∃ (A : Option Addr) (m c : Nat) (K : List Hd), e = .returned (.slice A m c) ∧ Below w.heap.size w w' ∧ w'.ownsRow w.heap.size 38 7 (.slice A m c) m (cellsBy encHd K) ∧ Ord lessH K ∧ Stab lessH (toldL S) K
theorem las_head {w : World} {b p : Nat} {x : La} {A A' : Option Addr} {n c n' c' : Nat} (h : w.rangeAt b p [.int .i64 x.h.age, .int .i64 x.h.kind, .int .i64 x.h.id, .int .i64 x.h.adv, .int .i64 x.h.seq, .int .i64 x.h.sum, .int .i64 x.h.long, .slice A n c, .slice A' n' c']) : w.rangeAt b p [.int .i64 x.h.age, .int .i64 x.h.kind, .int .i64 x.h.id, .int .i64 x.h.adv, .int .i64 x.h.seq, .int .i64 x.h.sum, .int .i64 x.h.long] := fun j v hj => by
  have hl := (List.getElem?_eq_some_iff.1 hj).1
  refine h j v ?_
  rw [← hj, ← List.getElem?_append_left (l₂ := [.slice A n c, .slice A' n' c']) hl]
  rfl
theorem item_range {w : World} {base n c j : Nat} {g : Nat} {L : List Hd} {x : Hd} (h : w.ownsRow base 38 7 (.slice (some ⟨g, 0, none⟩) n c) n (cellsBy encHd L)) (hj : L[j]? = some x) : w.rangeAt g (j * 7) [.int .i64 x.age, .int .i64 x.kind, .int .i64 x.id, .int .i64 x.adv, .int .i64 x.seq, .int .i64 x.sum, .int .i64 x.long] := fun i v hv => by
  have hi := (List.getElem?_eq_some_iff.1 hv).1
  obtain ⟨g', e, -, -, -, -, hc⟩ := own_item encHd_len (by omega) h hj
  injection e with e
  injection e with e
  subst e
  rw [hc i (by simpa using hi)]
  exact hv
end Go.Proofs.Ytnnkcgbnhjkahaa
namespace Go.Proofs.Ytnnkcgbnhjkahaa
open Go.RowKit Go.Lib Go.Sort Go.Deep

theorem own_hds {w : World} {base n c : Nat} {A : Option Addr} {L : List Hd} (h : w.ownsRow base 38 7 (.slice A n c) n (cellsBy encHd L)) : Hds w w.heap.size A n L := by
  have hl := own_lenH encHd_len (by omega) h
  refine ⟨hl, fun hn => ?_⟩
  obtain ⟨x, hx⟩ : ∃ x, L[0]? = some x := ⟨_, List.getElem?_eq_getElem (by omega)⟩
  obtain ⟨g, rfl, -, hgl, -⟩ := own_item encHd_len (by omega) h hx
  refine ⟨g, 0, rfl, hgl, fun j y hy => ?_⟩
  have hr := item_range h hy
  rw [Nat.zero_add]
  exact HdAt.of_range hr
theorem Hds.part {w : World} {B n c k e : Nat} {A : Option Addr} {L : List Hd} (h : Hds w B A n L) (hk : k ≤ e) (he : e ≤ n) (hc : n ≤ c) : Hds w B (if c = k then A else Option.map (fun x => x.add (k * 7)) A) (e - k) ((L.drop k).take (e - k)) := by
  have hl := h.1
  refine ⟨by rw [List.length_take, List.length_drop]; omega, fun h0 => ?_⟩
  obtain ⟨b, o, rfl, hb, hat⟩ := h.2 (by omega)
  rw [if_neg (by omega)]
  refine ⟨b, o + k * 7, by rw [Option.map_some, addr_add], hb, fun j x hx => ?_⟩
  have hj := (List.getElem?_eq_some_iff.1 hx).1
  rw [List.length_take] at hj
  rw [List.getElem?_take_of_lt (by omega), List.getElem?_drop] at hx
  have := hat _ x hx
  rwa [show o + (k + j) * 7 = o + k * 7 + j * 7 by omega] at this
theorem same13_yes {w : World} {A A' : Option Addr} {n c n' c' B B' : Nat} {L L' : List Hd} (hL : Hds w B A n L) (hL' : Hds w B' A' n' L') (hB : B ≤ w.heap.size) (hB' : B' ≤ w.heap.size) (hn : n ≤ 1000) (hn' : n' ≤ 1000) (e : L = L') :
    Calls Try.prog 20 #[.slice A n c, .slice A' n' c'] w fun e w' => e = .returned (.bool true) ∧ ∃ q, w' = w.drewN q := by
  have := same13_any hL hL' hB hB' hn hn' (c := c) (c' := c')
  rwa [decide_eq_true e] at this
theorem own_base_le {w : World} {base n size q : Nat} {t : TypeId} {v : Value} {xs : List Value} (h : w.ownsRow base t size v n xs) (hq : v.ownBlock = some q) : base ≤ q := by
  rcases h.2 with ⟨hv, _⟩ | ⟨g, cap, cur, hv, hb, hg, -⟩
  · subst hv
    cases hq
  · subst hv
    have h2 : some g = some q := hq
    injection h2 with h2
    omega
end Go.Proofs.Ytnnkcgbnhjkahaa
namespace Go.Proofs.Ytnnkcgbnhjkahaa
open Go.RowKit Go.Lib Go.Sort Go.Deep

/-- Pair databases that hold S, each on blocks of its own. -/
def Pair (w : World) (lo lo2 p g : Nat) (S : List La) (F F' : Nat → Prop) : Prop :=
  PDb w lo p 40 S F ∧ RefDb w lo2 g 40 S F' ∧ ∀ q, F q → ¬ F' q
theorem Pair.sort {w : World} {lo lo2 p g : Nat} {S : List La} {F F' : Nat → Prop} (h : Pair w lo lo2 p g S F F') : SortL S := by
  obtain ⟨-, ⟨_, _, _, _, -, -, -, -, h1, -⟩, -⟩ := h
  exact h1
theorem Pair.chg {w w' : World} {lo lo2 p g : Nat} {S : List La} {F F' F2 : Nat → Prop} (h : Pair w lo lo2 p g S F F') (hc : Chg F2 w w') (h1 : ∀ q, F q → ¬ F2 q) (h2 : ∀ q, F' q → ¬ F2 q) : Pair w' lo lo2 p g S F F' :=
  ⟨h.1.chg hc h1, h.2.1.chg hc h2, h.2.2⟩
theorem Pair.below {w w' : World} {lo lo2 p g : Nat} {S : List La} {F F' : Nat → Prop} (h : Pair w lo lo2 p g S F F') (hb : Below w.heap.size w w') : Pair w' lo lo2 p g S F F' :=
  h.chg (F2 := fun _ => False) (Chg.of_below hb) (fun _ _ hf => hf) (fun _ _ hf => hf)
def BothQ13 (w : World) (e : Ending) (w' : World) : Prop :=
  ∃ (lo2 p g : Nat) (S : List La) (F F' : Nat → Prop), e = .returned (.tuple #[.pointer (some ⟨p, 0, none⟩), .pointer (some ⟨g, 0, none⟩)]) ∧ Below w.heap.size w w' ∧ w.heap.size ≤ lo2 ∧ Pair w' w.heap.size lo2 p g S F F'
end Go.Proofs.Ytnnkcgbnhjkahaa
namespace Go.Proofs.Ytnnkcgbnhjkahaa
open Go.RowKit Go.Lib Go.Sort Go.Deep

/-- A head put over one of its key that is older. -/
def ovr (x g : Hd) : Hd := if sameKy (keyH g) (keyH x) = true then (if 0 < nw x g then x else g) else g
/-- The first j of a list gone through. -/
def inn (K : List Hd) (x : Hd) (j : Nat) : List Hd := (K.take j).map (ovr x) ++ K.drop j
/-- Is there one of its key among the first j? -/
def doneB (K : List Hd) (x : Hd) (j : Nat) : Bool := (K.take j).any fun g => sameKy (keyH g) (keyH x)
theorem keyH_ovr (x g : Hd) : keyH (ovr x g) = keyH g := by
  unfold ovr
  split
  · rename_i h
    split
    · exact ((sameKy_iff _ _).1 h).symm
    · rfl
  · rfl
theorem inn_len (K : List Hd) (x : Hd) (j : Nat) : (inn K x j).length = K.length := by
  unfold inn
  rw [List.length_append, List.length_map, List.length_take, List.length_drop]
  omega
theorem inn_zero (K : List Hd) (x : Hd) : inn K x 0 = K := by simp [inn]
theorem inn_all (K : List Hd) (x : Hd) : inn K x K.length = K.map (ovr x) := by simp [inn]
theorem inn_at {K : List Hd} {x g : Hd} {j : Nat} (h : K[j]? = some g) : (inn K x j)[j]? = some g := by
  have hj := (List.getElem?_eq_some_iff.1 h).1
  unfold inn
  rw [List.getElem?_append_right (by rw [List.length_map, List.length_take]; omega), List.length_map, List.length_take, Nat.min_eq_left (by omega), Nat.sub_self, List.getElem?_drop, Nat.add_zero]
  exact h
theorem drop_cons {K : List Hd} {g : Hd} {j : Nat} (h : K[j]? = some g) : K.drop j = g :: K.drop (j + 1) := by
  obtain ⟨hj, e⟩ := List.getElem?_eq_some_iff.1 h
  rw [List.drop_eq_getElem_cons hj, e]
theorem inn_next {K : List Hd} {x g : Hd} {j : Nat} (h : K[j]? = some g) : inn K x (j + 1) = (K.take j).map (ovr x) ++ ovr x g :: K.drop (j + 1) := by
  unfold inn
  rw [take_snocA K j g h, List.map_append, List.append_assoc]
  rfl
theorem inn_step {K : List Hd} {x g : Hd} {j : Nat} (h : K[j]? = some g) : inn K x (j + 1) = (inn K x j).set j (ovr x g) := by
  have hj := (List.getElem?_eq_some_iff.1 h).1
  rw [inn_next h]
  unfold inn
  rw [drop_cons h, List.set_append_right _ _ (by rw [List.length_map, List.length_take]; omega), List.length_map, List.length_take, Nat.min_eq_left (by omega), Nat.sub_self, List.set_cons_zero]
theorem inn_stay {K : List Hd} {x g : Hd} {j : Nat} (h : K[j]? = some g) (ho : ovr x g = g) : inn K x (j + 1) = inn K x j := by
  rw [inn_next h, ho]
  unfold inn
  rw [drop_cons h]
theorem done_step {K : List Hd} {x g : Hd} {j : Nat} (h : K[j]? = some g) : doneB K x (j + 1) = (doneB K x j || sameKy (keyH g) (keyH x)) := by
  unfold doneB
  rw [take_snocA K j g h, List.any_append]
  simp
theorem done_no {K : List Hd} {x : Hd} (h : doneB K x K.length = false) : ∀ g ∈ K, sameKy (keyH g) (keyH x) = false := by
  intro g hg
  unfold doneB at h
  rw [List.take_length] at h
  rw [List.any_eq_false] at h
  simpa using h g hg
theorem inn_none {K : List Hd} {x : Hd} (h : doneB K x K.length = false) : inn K x K.length = K := by
  rw [inn_all]
  conv => rhs; rw [← List.map_id K]
  apply List.map_congr_left
  intro g hg
  unfold ovr
  rw [done_no h g hg]
  rfl
/-- One head more, as the reference reckons it. -/
theorem lackStep_ref {S : List La} {K : List Hd} {x : Hd} (hp : (K.map keyH).Nodup) : lackStep S K x = if lackB S x = true then (if doneB K x K.length = true then inn K x K.length else K ++ [x]) else K := by
  unfold lackStep
  cases hl : lackB S x
  · rfl
  rw [if_pos rfl, if_pos rfl]
  cases hpl : placeK K (keyH x) with
  | none =>
    have hd : doneB K x K.length = false := by
      unfold doneB
      rw [List.take_length, List.any_eq_false]
      unfold placeK at hpl
      rw [List.findIdx?_eq_none_iff] at hpl
      intro g hg
      rw [hpl g hg]
      decide
    rw [hd, if_neg (by decide)]
  | some i =>
    unfold placeK at hpl
    rw [List.findIdx?_eq_some_iff_getElem] at hpl
    obtain ⟨hi, hs, -⟩ := hpl
    have hd : doneB K x K.length = true := by
      unfold doneB
      rw [List.take_length, List.any_eq_true]
      exact ⟨K[i], List.getElem_mem hi, hs⟩
    rw [hd, if_pos rfl, inn_all]
    dsimp only
    rw [List.getElem?_eq_getElem hi]
    dsimp only
    have hot : ∀ (n : Nat) (hn : n < K.length), n ≠ i → ovr x K[n] = K[n] := fun n hn hne => by
      unfold ovr
      rw [if_neg]
      intro h
      have e : keyH K[n] = keyH K[i] := ((sameKy_iff _ _).1 h).trans ((sameKy_iff _ _).1 hs).symm
      have hq := List.pairwise_iff_getElem.1 hp
      rcases Nat.lt_or_gt_of_ne hne with h1 | h1
      · exact hq n i (by simpa using hn) (by simpa using hi) h1 (by simpa using e)
      · exact hq i n (by simpa using hi) (by simpa using hn) h1 (by simpa using e.symm)
    have hov : ovr x K[i] = if 0 < nw x K[i] then x else K[i] := by
      unfold ovr
      rw [if_pos hs]
    split
    · rename_i h0
      rw [if_pos h0] at hov
      apply List.ext_getElem (by simp)
      intro n h1 h2
      rw [List.getElem_map, List.getElem_set]
      split
      · rename_i e
        subst e
        exact hov.symm
      · rename_i e
        exact (hot n (by simpa using h2) (fun h => e h.symm)).symm
    · rename_i h0
      rw [if_neg h0] at hov
      apply List.ext_getElem (by simp)
      intro n h1 h2
      rw [List.getElem_map]
      by_cases e : n = i
      · subst e
        exact hov.symm
      · exact (hot n h1 e).symm
theorem lackStep_nodup {S : List La} {K : List Hd} {x : Hd} (hp : (K.map keyH).Nodup) : ((lackStep S K x).map keyH).Nodup := by
  rw [lackStep_ref hp]
  split
  · split
    · rw [inn_all, List.map_map]
      have : keyH ∘ ovr x = keyH := funext fun g => keyH_ovr x g
      rw [this]
      exact hp
    · rename_i h
      rw [List.map_append, List.nodup_append]
      refine ⟨hp, by simp, ?_⟩
      intro a ha b hb e
      obtain ⟨g, hg, rfl⟩ := List.mem_map.1 ha
      rw [List.map_singleton, List.mem_singleton] at hb
      have := done_no (Bool.eq_false_iff.2 h) g hg
      rw [(sameKy_iff _ _).2 (e.trans hb)] at this
      cases this
  · exact hp
theorem lacksF_nodup {S : List La} : ∀ (L K : List Hd), (K.map keyH).Nodup → ((L.foldl (lackStep S) K).map keyH).Nodup
  | [], _, h => h
  | _ :: L, _, h => lacksF_nodup L _ (lackStep_nodup h)
theorem lacksL_nodup (S : List La) (L : List Hd) : ((lacksL S L).map keyH).Nodup := lacksF_nodup L [] List.nodup_nil
theorem lackB_none {S : List La} {x : Hd} (h : getL S (keyH x) = none) : lackB S x = true := by
  unfold lackB
  rw [h]
theorem lackB_some {S : List La} {x : Hd} {y : La} (h : getL S (keyH x) = some y) : lackB S x = decide (0 < nw x y.h) := by
  unfold lackB
  rw [h]

/-- What may answers. -/
def MayQ (n : Nat) (L : List Hd) (e : Ending) : Prop := ∃ t : Bool, e = .returned (.bool t) ∧ (t = true → n ≤ 100 ∧ ∀ x ∈ L, ageB x = true)
set_option maxRecDepth 8000 in
set_option maxHeartbeats 4000000 in
theorem refNewer_grown (a b : Hd) (w : World) (ha : ageB a = true) (hb : ageB b = true) : Calls Try.prog 41 #[.agg #[.int .i64 a.age, .int .i64 a.kind, .int .i64 a.id, .int .i64 a.adv, .int .i64 a.seq, .int .i64 a.sum, .int .i64 a.long], .agg #[.int .i64 b.age, .int .i64 b.kind, .int .i64 b.id, .int .i64 b.adv, .int .i64 b.seq, .int .i64 b.sum, .int .i64 b.long]] w
    fun e w' => e = .returned (.int .i64 (nw a b)) ∧ ∃ q os', w' = grow (w.drewN q) os' := by
  rw [ageB_iff] at ha hb
  obtain ⟨a1, a2⟩ := ha
  obtain ⟨b1, b2⟩ := hb
  generalize hv : nw a b = v
  have HV := Lib.hid hv
  clear hv
  have B0 := Lib.hid (show ∃ q os', (w.alloc (.cells #[.int .i64 a.age, .int .i64 a.kind, .int .i64 a.id, .int .i64 a.adv, .int .i64 a.seq, .int .i64 a.sum, .int .i64 a.long] 38)).alloc (.cells #[.int .i64 b.age, .int .i64 b.kind, .int .i64 b.id, .int .i64 b.adv, .int .i64 b.seq, .int .i64 b.sum, .int .i64 b.long] 38) = grow (w.drewN q) os' from ⟨0, _, by rw [alloc_eq_grow, alloc_eq_grow, grow_grow]; rfl⟩)
  go_enter Try.func41, Try.ntmps41
  by_cases h1 : a.seq = b.seq
  · have d1 : (a.seq != b.seq) = false := by simp [h1]
    by_cases h2 : a.sum = b.sum
    · have d2 : (a.sum != b.sum) = false := by simp [h2]
      have HC := Lib.hid (show frI a.age b.age = v by rw [← HV.out, nw, if_neg (by simp [h1]), if_neg (by simp [h2])])
      clear h1 h2
      by_cases h3 : a.age = 60
      · have d3 : (a.age == 60) = true := by simp [h3]
        have d3' : (a.age != 60) = false := by simp [h3]
        by_cases h4 : b.age = 60
        · have d4 : (b.age == 60) = true := by simp [h4]
          have d4' : (b.age != 60) = false := by simp [h4]
          obtain rfl : v = 0 := by rw [← HC.out, h3, h4]; rfl
          have HF := Lib.hid (show decide (a.age + 6 < b.age) = false by simp; omega)
          have HF2 := Lib.hid (show decide (b.age + 6 < a.age) = false by simp; omega)
          clear h3 h4
          go_wp2_with fail
          refine (far_any _ _ _ a1 a2 b1 b2).mono ?_
          rintro e2 w2 ⟨rfl, rfl⟩
          rw [HF.out]
          go_wp2_with fail
          refine (far_any _ _ _ b1 b2 a1 a2).mono ?_
          rintro e2 w2 ⟨rfl, rfl⟩
          rw [HF2.out]
          go_wp2
          go_ret
          exact ⟨rfl, B0.out⟩
        · have d4 : (b.age == 60) = false := by simp [h4]
          have d4' : (b.age != 60) = true := by simp [h4]
          obtain rfl : v = 1 := by rw [← HC.out, frI, if_pos ⟨h3, h4⟩]
          clear h3 h4
          go_wp2
          go_ret
          exact ⟨rfl, B0.out⟩
      · have d3 : (a.age == 60) = false := by simp [h3]
        have d3' : (a.age != 60) = true := by simp [h3]
        by_cases h4 : b.age = 60
        · have d4 : (b.age == 60) = true := by simp [h4]
          obtain rfl : v = -1 := by rw [← HC.out, frI, if_neg (by omega), if_pos ⟨h4, h3⟩]
          clear h3 h4
          go_wp2
          go_ret
          exact ⟨rfl, B0.out⟩
        · have d4 : (b.age == 60) = false := by simp [h4]
          have H3 := Lib.hid h3
          have H4 := Lib.hid h4
          clear h3 h4
          go_wp2_with fail
          refine (far_any _ _ _ a1 a2 b1 b2).mono ?_
          rintro e2 w2 ⟨rfl, rfl⟩
          by_cases h5 : a.age + 6 < b.age
          · rw [decide_eq_true h5]
            obtain rfl : v = 1 := by rw [← HC.out, frI, if_neg (fun e => H3.out e.1), if_neg (fun e => H4.out e.1), if_pos h5]
            go_wp2
            go_ret
            exact ⟨rfl, B0.out⟩
          · rw [decide_eq_false h5]
            go_wp2_with fail
            refine (far_any _ _ _ b1 b2 a1 a2).mono ?_
            rintro e2 w2 ⟨rfl, rfl⟩
            by_cases h6 : b.age + 6 < a.age
            · rw [decide_eq_true h6]
              obtain rfl : v = -1 := by rw [← HC.out, frI, if_neg (fun e => H3.out e.1), if_neg (fun e => H4.out e.1), if_neg (by omega), if_pos h6]
              go_wp2
              go_ret
              exact ⟨rfl, B0.out⟩
            · rw [decide_eq_false h6]
              obtain rfl : v = 0 := by rw [← HC.out, frI, if_neg (fun e => H3.out e.1), if_neg (fun e => H4.out e.1), if_neg (by omega), if_neg (by omega)]
              go_wp2
              go_ret
              exact ⟨rfl, B0.out⟩
    · have d2 : (a.sum != b.sum) = true := by simp [h2]
      have HC := Lib.hid (show cmpI a.sum b.sum = v by rw [← HV.out, nw, if_neg (by simp [h1]), if_pos h2])
      clear h1
      by_cases h3 : b.sum < a.sum
      · obtain rfl : v = 1 := by rw [← HC.out, cmpI_one]; exact h3
        go_wp2
        go_ret
        exact ⟨rfl, B0.out⟩
      · obtain rfl : v = -1 := by rw [← HC.out, cmpI, if_pos (by omega)]
        go_wp2
        go_ret
        exact ⟨rfl, B0.out⟩
  · have d1 : (a.seq != b.seq) = true := by simp [h1]
    have HC := Lib.hid (show cmpI a.seq b.seq = v by rw [← HV.out, nw, if_pos h1])
    by_cases h3 : b.seq < a.seq
    · obtain rfl : v = 1 := by rw [← HC.out, cmpI_one]; exact h3
      go_wp2
      go_ret
      exact ⟨rfl, B0.out⟩
    · obtain rfl : v = -1 := by rw [← HC.out, cmpI, if_pos (by omega)]
      go_wp2
      go_ret
      exact ⟨rfl, B0.out⟩
end Go.Proofs.Ytnnkcgbnhjkahaa
namespace Go.Proofs.Ytnnkcgbnhjkahaa
open Go.RowKit Go.Lib Go.Sort Go.Deep

theorem cells7 {w : World} {b p : Nat} {x : Hd} (h : w.rangeAt b p [.int .i64 x.age, .int .i64 x.kind, .int .i64 x.id, .int .i64 x.adv, .int .i64 x.seq, .int .i64 x.sum, .int .i64 x.long]) : w.cell? ⟨b, p, none⟩ = some (.int .i64 x.age) ∧ w.cell? ⟨b, p + 1, none⟩ = some (.int .i64 x.kind) ∧ w.cell? ⟨b, p + 2, none⟩ = some (.int .i64 x.id) ∧ w.cell? ⟨b, p + 3, none⟩ = some (.int .i64 x.adv) ∧ w.cell? ⟨b, p + 4, none⟩ = some (.int .i64 x.seq) ∧ w.cell? ⟨b, p + 5, none⟩ = some (.int .i64 x.sum) ∧ w.cell? ⟨b, p + 6, none⟩ = some (.int .i64 x.long) :=
  ⟨h 0 _ rfl, h 1 _ rfl, h 2 _ rfl, h 3 _ rfl, h 4 _ rfl, h 5 _ rfl, h 6 _ rfl⟩
theorem item_range7 {w : World} {base n c j : Nat} {A : Option Addr} {L : List Hd} {x : Hd} (h : w.ownsRow base 38 7 (.slice A n c) n (cellsBy encHd L)) (hj : L[j]? = some x) : ∃ q, A = some ⟨q, 0, none⟩ ∧ base ≤ q ∧ q < w.heap.size ∧ j < n ∧ n ≤ c ∧ c ≤ maxLen ∧ w.rangeAt q (j * 7) [.int .i64 x.age, .int .i64 x.kind, .int .i64 x.id, .int .i64 x.adv, .int .i64 x.seq, .int .i64 x.sum, .int .i64 x.long] := by
  obtain ⟨q, rfl, hqb, hq, hnc, hcm, hat⟩ := own_item encHd_len (by omega) h hj
  have hl := own_lenH encHd_len (by omega) h
  have := (List.getElem?_eq_some_iff.1 hj).1
  refine ⟨q, rfl, hqb, hq, by omega, hnc, hcm, fun i v hv => ?_⟩
  have hi := (List.getElem?_eq_some_iff.1 hv).1
  rw [hat i (by simpa using hi)]
  exact hv
theorem ref_items {w : World} {lo g : Nat} {room : Int} {S : List La} {F : Nat → Prop} (h : RefDb w lo g room S F) {j : Nat} {y : La} (hj : S[j]? = some y) :
    ∃ (q o n c : Nat), w.cell? ⟨g, 0, none⟩ = some (.slice (some ⟨q, o, none⟩) n c) ∧ g < w.heap.size ∧ q < w.heap.size ∧ j < n ∧ n ≤ 40 ∧ ageB y.h = true ∧ w.rangeAt q (o + j * 9) [.int .i64 y.h.age, .int .i64 y.h.kind, .int .i64 y.h.id, .int .i64 y.h.adv, .int .i64 y.h.seq, .int .i64 y.h.sum, .int .i64 y.h.long] := by
  obtain ⟨A, n, c, hB, hL, hn⟩ := h.list
  have hjl := (List.getElem?_eq_some_iff.1 hj).1
  have hl := hL.1
  obtain ⟨q, o, z, A1, n1, c1, A2, n2, c2, rfl, hq, hz, hr, -, -, -, -⟩ := las_item hL (show j < n by omega)
  rw [hj] at hz
  injection hz with hz
  subst hz
  obtain ⟨_, _, _, _, -, -, -, -, -, -, -, h4, -⟩ := h
  refine ⟨q, o, n, c, hB.cell 0, hB.lt, hq, by omega, hn, ?_, las_head hr⟩
  rw [ageB_iff]
  exact right_age (h4 y (List.mem_of_getElem? hj))
end Go.Proofs.Ytnnkcgbnhjkahaa
