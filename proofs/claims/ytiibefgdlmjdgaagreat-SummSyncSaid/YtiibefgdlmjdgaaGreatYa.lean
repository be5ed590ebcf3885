/- Plain facts on the keys of what is gone: in order, each once. No program, no conditions. -/
import Derived.Test.YtiibefgdlmjdgaaGreatUo
import Derived.Test.YtiibefgdlmjdgaaGreatJap
namespace Go.Proofs.YtiibefgdlmjdgaaGreat
open Go.Lib Go.Sort

/-- In order, each once. -/
def Strict (K : List Ky) : Prop := K.Pairwise fun a b => lessKy a b = true
theorem le_lt {a b c : Ky} (h : lessKy b a = false) (h' : lessKy b c = true) : lessKy a c = true := by
  have n : ¬ lessKy b a = true := by rw [h]; decide
  rw [lessKy_iff] at n h' ⊢
  omega
theorem le_trans' {a b c : Ky} (h : lessKy b a = false) (h' : lessKy c b = false) : lessKy c a = false := by
  cases e : lessKy c a
  · rfl
  · have n1 : ¬ lessKy b a = true := by rw [h]; decide
    have n2 : ¬ lessKy c b = true := by rw [h']; decide
    rw [lessKy_iff] at n1 n2 e
    omega
theorem compact_strict {d : Array Ky} (hs : ∀ i j, i < j → j < d.size → lessKy d[j]! d[i]! = false) : ∀ m, m ≤ d.size →
    Strict (compactUpTo d m) ∧ (∀ x ∈ compactUpTo d m, ∃ j, j < m ∧ x = d[j]!) ∧ ∀ j, j < m → d[j]! ∈ compactUpTo d m
  | 0, _ => by
    have : compactUpTo d 0 = [] := rfl
    rw [this]
    exact ⟨List.Pairwise.nil, fun x hx => (by cases hx), fun j hj => absurd hj (by omega)⟩
  | m + 1, h => by
    obtain ⟨i1, i2, i3⟩ := compact_strict hs m (by omega)
    rw [compactUpTo_succ]
    cases hk : keeps d m
    · rw [if_neg (by decide), List.append_nil]
      unfold keeps at hk
      rw [decide_eq_false_iff_not] at hk
      have hm : m ≠ 0 := fun e => hk (.inl e)
      have he : d[m]! = d[m - 1]! := by
        rcases Classical.em (d[m]! = d[m - 1]!) with h | h
        · exact h
        · exact absurd (.inr h) hk
      refine ⟨i1, fun x hx => ?_, fun j hj => ?_⟩
      · obtain ⟨j, hj, e⟩ := i2 x hx
        exact ⟨j, by omega, e⟩
      · by_cases e : j = m
        · rw [e, he]
          exact i3 (m - 1) (by omega)
        · exact i3 j (by omega)
    · rw [if_pos rfl]
      unfold keeps at hk
      rw [decide_eq_true_iff] at hk
      refine ⟨List.pairwise_append.2 ⟨i1, by simp, fun a ha b hb => ?_⟩, fun x hx => ?_, fun j hj => ?_⟩
      · rw [List.mem_singleton] at hb
        subst hb
        obtain ⟨j, hj, rfl⟩ := i2 a ha
        have hne : d[m - 1]! ≠ d[m]! := fun e => by
          rcases hk with h0 | h0
          · omega
          · exact h0 e.symm
        have h1 := lessKy_total (hs (m - 1) m (by omega) (by omega)) hne.symm
        by_cases e : j = m - 1
        · rw [e]
          exact h1
        · exact le_lt (hs j (m - 1) (by omega) (by omega)) h1
      · rcases List.mem_append.1 hx with hx | hx
        · obtain ⟨j, hj, e⟩ := i2 x hx
          exact ⟨j, by omega, e⟩
        · exact ⟨m, by omega, List.mem_singleton.1 hx⟩
      · by_cases e : j = m
        · rw [e]
          exact List.mem_append.2 (.inr (List.mem_singleton.2 rfl))
        · exact List.mem_append.2 (.inl (i3 j (by omega)))
theorem dedup_strict {L : List Ky} (hs : L.Pairwise fun a b => leKy a b = true) : Strict (dedupK L) ∧ ∀ x, x ∈ dedupK L ↔ x ∈ L := by
  have h := compact_strict (d := L.toArray) (fun i j hij hj => by
    have hj' : j < L.length := by simpa using hj
    have := List.pairwise_iff_getElem.1 hs i j (by omega) hj' hij
    rw [getElem!_pos L.toArray i (by simp; omega), getElem!_pos L.toArray j hj]
    unfold leKy at this
    simpa using this) L.length (by simp)
  refine ⟨h.1, fun x => ⟨fun hx => ?_, fun hx => ?_⟩⟩
  · obtain ⟨j, hj, rfl⟩ := h.2.1 x hx
    rw [getElem!_pos L.toArray j (by simpa using hj)]
    simp
  · obtain ⟨j, hj⟩ := List.getElem?_of_mem hx
    have hl := (List.getElem?_eq_some_iff.1 hj).1
    have := h.2.2 j hl
    rw [getElem!_pos L.toArray j (by simpa using hl)] at this
    rw [← (List.getElem?_eq_some_iff.1 hj).2]
    unfold dedupK
    simpa using this
theorem gone_strict (S : List La) : Strict (goneL S) ∧ ∀ x, x ∈ goneL S ↔ x ∈ goneK S := by
  have h := dedup_strict (L := (goneK S).mergeSort leKy) (List.pairwise_mergeSort (le := leKy) (fun a b c h1 h2 => by
    unfold leKy at *
    rw [Bool.not_eq_true'] at *
    exact le_trans' h1 h2) (fun a b => by
    unfold leKy
    cases h1 : lessKy b a
    · rfl
    · cases h2 : lessKy a b
      · rfl
      · have := lessKy_trans h1 h2
        rw [lessKy_irrefl] at this
        cases this) _)
  exact ⟨h.1, fun x => (h.2 x).trans (List.mergeSort_perm _ _).mem_iff⟩
/-- A key put into a row of keys, unless it is there. -/
def insK (k : Ky) : List Ky → List Ky
  | [] => [k]
  | o :: r => if o = k then o :: r else if lessKy k o = true then k :: o :: r else o :: insK k r
theorem insK_mem {k x : Ky} : ∀ {L : List Ky}, x ∈ insK k L ↔ x = k ∨ x ∈ L
  | [] => by simp [insK]
  | o :: r => by
    unfold insK
    split
    · rename_i h
      constructor
      · exact .inr
      · rintro (rfl | h2)
        · rw [h]
          exact List.mem_cons_self
        · exact h2
    · split
      · simp
      · rw [List.mem_cons, insK_mem, List.mem_cons]
        constructor
        · rintro (h | h | h)
          · exact .inr (.inl h)
          · exact .inl h
          · exact .inr (.inr h)
        · rintro (h | h | h)
          · exact .inr (.inl h)
          · exact .inl h
          · exact .inr (.inr h)
theorem insK_strict {k : Ky} : ∀ {L : List Ky}, Strict L → Strict (insK k L)
  | [], _ => by
    unfold insK Strict
    simp
  | o :: r, h => by
    obtain ⟨h1, h2⟩ := List.pairwise_cons.1 h
    unfold insK
    split
    · exact h
    · rename_i hne
      split
      · rename_i hl
        refine List.pairwise_cons.2 ⟨fun x hx => ?_, h⟩
        rcases List.mem_cons.1 hx with rfl | hx
        · exact hl
        · exact lessKy_trans hl (h1 x hx)
      · rename_i hl
        refine List.pairwise_cons.2 ⟨fun x hx => ?_, insK_strict h2⟩
        rcases insK_mem.1 hx with rfl | hx
        · exact lessKy_total (by simpa using hl) (fun e => hne e.symm)
        · exact h1 x hx
/-- The keys of what is gone, as the reference finds them. -/
def rgoneL (S : List La) : List Ky := (goneK S).foldl (fun o k => insK k o) []
theorem foldK {K : List Ky} : ∀ {L : List Ky}, Strict L → Strict (K.foldl (fun o k => insK k o) L) ∧ ∀ x, x ∈ K.foldl (fun o k => insK k o) L ↔ x ∈ L ∨ x ∈ K := by
  induction K with
  | nil => exact fun h => ⟨h, fun x => by simp⟩
  | cons k K ih =>
    intro L h
    obtain ⟨h1, h2⟩ := ih (insK_strict (k := k) h)
    refine ⟨h1, fun x => (h2 x).trans ?_⟩
    rw [insK_mem, List.mem_cons]
    constructor
    · rintro ((h | h) | h)
      · exact .inr (.inl h)
      · exact .inl h
      · exact .inr (.inr h)
    · rintro (h | h | h)
      · exact .inl (.inr h)
      · exact .inl (.inl h)
      · exact .inr h
theorem rgone_is (S : List La) : rgoneL S = goneL S := by
  obtain ⟨h1, h2⟩ := foldK (K := goneK S) (L := []) List.Pairwise.nil
  obtain ⟨h3, h4⟩ := gone_strict S
  exact ky_ext h1 h3 (fun x => by
    rw [h4]
    have := h2 x
    unfold rgoneL
    simpa using this)
theorem rgoneL_snoc (S : List La) (x : La) : rgoneL (S ++ [x]) = if goneB x = true then insK (kyL x) (rgoneL S) else rgoneL S := by
  unfold rgoneL
  rw [goneK_snoc]
  cases h : goneB x
  · rw [if_neg (by decide), if_neg (by decide)]
  · rw [if_pos rfl, if_pos rfl, List.foldl_append]
    rfl
theorem gone_sort {S : List La} (hs : SortL S) : goneL S = goneK S := by
  obtain ⟨h3, h4⟩ := gone_strict S
  refine ky_ext h3 ?_ h4
  unfold goneK
  rw [List.pairwise_map]
  exact List.Pairwise.filter _ hs
/-- Of a database all is told or gone. -/
theorem gone_told {S : List La} (hs : SortL S) : (goneL S).length + (toldL S).length = S.length := by
  rw [gone_sort hs]
  unfold goneK toldL
  rw [List.length_map, List.length_map]
  induction S with
  | nil => rfl
  | cons x S ih =>
    have := ih hs.tail
    cases h : goneB x
    · rw [List.filter_cons_of_neg (by rw [h]; decide), List.filter_cons_of_pos (by rw [h]; rfl), List.length_cons, List.length_cons]
      omega
    · rw [List.filter_cons_of_pos h, List.filter_cons_of_neg (by rw [h]; decide), List.length_cons, List.length_cons]
      omega
theorem gone_len (S : List La) : (goneL S).length ≤ S.length := by
  have h1 : (goneK S).length ≤ S.length := by
    unfold goneK
    rw [List.length_map]
    exact List.length_filter_le _ _
  have h2 : (goneL S).length ≤ (goneK S).length := by
    unfold goneL dedupK compactUpTo
    rw [List.length_map]
    refine Nat.le_trans (List.length_filter_le _ _) ?_
    rw [List.length_range, List.length_mergeSort]
    exact Nat.le_refl _
  omega
end Go.Proofs.YtiibefgdlmjdgaaGreat
