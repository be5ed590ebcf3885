/- The reference's heads: those that are told, each put behind those of keys that aren't above its own. Conditions: at most 100 descriptions. -/
import Derived.Test.YtiibefgdlmjdgaaGreatUw
namespace Go.Proofs.YtiibefgdlmjdgaaGreat
open Go.RowKit Go.Lib Go.Sort Go.Deep

/-- A row with an item put at place k. -/
def insAt (K : List Hd) (k : Nat) (x : Hd) : List Hd := K.take k ++ x :: K.drop k
theorem insAt_len (K : List Hd) (k : Nat) (x : Hd) : (insAt K k x).length = K.length + 1 := by
  unfold insAt
  rw [List.length_append, List.length_cons, List.length_take, List.length_drop]
  omega
theorem insAt_end (K : List Hd) (x : Hd) : insAt K K.length x = K ++ [x] := by
  unfold insAt
  rw [List.take_length, List.drop_length]
theorem insAt_at (K : List Hd) (k : Nat) (x : Hd) (hk : k ≤ K.length) : (insAt K k x)[k]? = some x := by
  unfold insAt
  rw [List.getElem?_append_right (by rw [List.length_take]; omega), List.length_take, show k - min k K.length = 0 by omega]
  rfl
theorem insAt_before (K : List Hd) (k j : Nat) (x y : Hd) (hj : j < k) (hy : K[j]? = some y) : (insAt K k x)[j]? = some y := by
  have := (List.getElem?_eq_some_iff.1 hy).1
  unfold insAt
  rw [List.getElem?_append_left (by rw [List.length_take]; omega), List.getElem?_take_of_lt hj, hy]
theorem insAt_swap (K : List Hd) (j : Nat) (x y : Hd) (hy : K[j]? = some y) : ((insAt K (j + 1) x).set (j + 1) y).set j x = insAt K j x := by
  have hl := (List.getElem?_eq_some_iff.1 hy).1
  unfold insAt
  rw [take_snocA K j y hy, show K.drop j = y :: K.drop (j + 1) from by
    rw [List.drop_eq_getElem_cons hl, (List.getElem?_eq_some_iff.1 hy).2]]
  have h1 : (K.take j).length = j := by rw [List.length_take]; omega
  generalize K.drop (j + 1) = D
  generalize hP : K.take j = P at *
  subst h1
  simp
/-- All behind place k are behind x. -/
def Above (K : List Hd) (k : Nat) (x : Hd) : Prop := ∀ t ∈ K.drop k, lessH x t = true
theorem Above.end_ (K : List Hd) (x : Hd) : Above K K.length x := fun t ht => by
  rw [List.drop_length] at ht
  cases ht
theorem Above.step {K : List Hd} {j : Nat} {x y : Hd} (h : Above K (j + 1) x) (hy : K[j]? = some y) (hl : lessH x y = true) : Above K j x := fun t ht => by
  have hlt := (List.getElem?_eq_some_iff.1 hy).1
  rw [List.drop_eq_getElem_cons hlt, (List.getElem?_eq_some_iff.1 hy).2] at ht
  rcases List.mem_cons.1 ht with rfl | ht
  · exact hl
  · exact h t ht
theorem Above.stab {K : List Hd} {k : Nat} {x : Hd} (h : Above K k x) : Stab lessH (K ++ [x]) (insAt K k x) := by
  unfold insAt
  have e : K ++ [x] = K.take k ++ (K.drop k ++ [x]) := by rw [← List.append_assoc, List.take_append_drop]
  rw [e]
  refine (Stab.refl _).app ?_
  exact stab_swap swo_less (U := K.drop k) (V := [x]) fun u hu v hv => by
    rw [List.mem_singleton] at hv
    rw [hv]
    exact h u hu
theorem Above.ord {K : List Hd} {k : Nat} {x : Hd} (h : Above K k x) (hO : Ord lessH K) (hs : k = 0 ∨ ∃ y, K[k - 1]? = some y ∧ lessH x y = false) : Ord lessH (insAt K k x) := by
  have e : K = K.take k ++ K.drop k := (List.take_append_drop k K).symm
  unfold Ord at hO ⊢
  rw [e] at hO
  obtain ⟨o1, o2, o3⟩ := List.pairwise_append.1 hO
  unfold insAt
  refine List.pairwise_append.2 ⟨o1, List.pairwise_cons.2 ⟨fun t ht => swo_asymm swo_less (h t ht), o2⟩, fun a ha b hb => ?_⟩
  rcases List.mem_cons.1 hb with rfl | hb
  · rcases hs with rfl | ⟨y, hy, hl⟩
    · simp at ha
    · obtain ⟨i, hi⟩ := List.getElem?_of_mem ha
      have hil := (List.getElem?_eq_some_iff.1 hi).1
      rw [List.length_take] at hil
      rw [List.getElem?_take_of_lt (by omega)] at hi
      have hyl := (List.getElem?_eq_some_iff.1 hy).1
      by_cases hik : i = k - 1
      · subst hik
        rw [hi] at hy
        injection hy with hy
        rw [hy]
        exact hl
      · have h3 : lessH y a = false := by
          have hO2 : Ord lessH K := by
            unfold Ord
            rw [e]
            exact hO
          have := List.pairwise_iff_getElem.1 hO2 i (k - 1) (by omega) hyl (by omega)
          rwa [(List.getElem?_eq_some_iff.1 hi).2, (List.getElem?_eq_some_iff.1 hy).2] at this
        exact swo_less.ntrans _ y _ hl h3
  · exact o3 a ha b hb
/-- What the reference's Heads answers. -/
def HeadsQ (S : List La) (w : World) (e : Ending) (w' : World) : Prop :=
  ∃ (A : Option Addr) (m c : Nat) (K : List Hd), e = .returned (.slice A m c) ∧ Below w.heap.size w w' ∧ w'.ownsRow w.heap.size 40 7 (.slice A m c) m (cellsBy encHd K) ∧ Ord lessH K ∧ Stab lessH (toldL S) K
theorem las_head {w : World} {b p : Nat} {x : La} {A A' : Option Addr} {n c n' c' : Nat} (h : w.rangeAt b p [.int .i64 x.h.age, .int .i64 x.h.kind, .int .i64 x.h.id, .int .i64 x.h.adv, .int .i64 x.h.seq, .int .i64 x.h.sum, .int .i64 x.h.long, .slice A n c, .slice A' n' c']) : w.rangeAt b p [.int .i64 x.h.age, .int .i64 x.h.kind, .int .i64 x.h.id, .int .i64 x.h.adv, .int .i64 x.h.seq, .int .i64 x.h.sum, .int .i64 x.h.long] := fun j v hj => by
  have hl := (List.getElem?_eq_some_iff.1 hj).1
  refine h j v ?_
  rw [← hj, ← List.getElem?_append_left (l₂ := [.slice A n c, .slice A' n' c']) hl]
  rfl
theorem item_range {w : World} {base n c j : Nat} {g : Nat} {L : List Hd} {x : Hd} (h : w.ownsRow base 40 7 (.slice (some ⟨g, 0, none⟩) n c) n (cellsBy encHd L)) (hj : L[j]? = some x) : w.rangeAt g (j * 7) [.int .i64 x.age, .int .i64 x.kind, .int .i64 x.id, .int .i64 x.adv, .int .i64 x.seq, .int .i64 x.sum, .int .i64 x.long] := fun i v hv => by
  have hi := (List.getElem?_eq_some_iff.1 hv).1
  obtain ⟨g', e, -, -, -, -, hc⟩ := own_item encHd_len (by omega) h hj
  injection e with e
  injection e with e
  subst e
  rw [hc i (by simpa using hi)]
  exact hv
end Go.Proofs.YtiibefgdlmjdgaaGreat
