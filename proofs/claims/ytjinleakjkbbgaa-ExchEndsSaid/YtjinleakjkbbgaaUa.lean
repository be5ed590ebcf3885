/- Plain facts on stable orders: lists and arrays of anything, under a strict weak order. No program, no conditions but that order. -/
import Derived.Sort.Lot0
import Derived.Sort.LotA
namespace Go.Proofs.Ytjinleakjkbbgaa
open Go.Sort

section
variable {α : Type} (lt : α → α → Bool)
/-- Neither is ahead of the other. -/
def eqv (x y : α) : Bool := !lt x y && !lt y x
/-- The same things, those of each class in the same order. -/
def Stab (L L' : List α) : Prop := L'.length = L.length ∧ ∀ x, L'.filter (eqv lt x) = L.filter (eqv lt x)
/-- In order: none is less than one ahead of it. -/
def Ord (L : List α) : Prop := L.Pairwise fun x y => lt y x = false
end

section
variable {α : Type} {lt : α → α → Bool}
theorem eqv_iff {x y : α} : eqv lt x y = true ↔ lt x y = false ∧ lt y x = false := by
  unfold eqv
  cases lt x y <;> cases lt y x <;> simp
theorem Stab.refl (L : List α) : Stab lt L L := ⟨rfl, fun _ => rfl⟩
theorem Stab.trans {A B C : List α} (h : Stab lt A B) (h' : Stab lt B C) : Stab lt A C := ⟨h'.1.trans h.1, fun x => (h'.2 x).trans (h.2 x)⟩
theorem Stab.symm {A B : List α} (h : Stab lt A B) : Stab lt B A := ⟨h.1.symm, fun x => (h.2 x).symm⟩
theorem Stab.app {A A' B B' : List α} (h : Stab lt A A') (h' : Stab lt B B') : Stab lt (A ++ B) (A' ++ B') :=
  ⟨by rw [List.length_append, List.length_append, h.1, h'.1], fun x => by rw [List.filter_append, List.filter_append, h.2, h'.2]⟩
/-- Two rows change places, of which one is all ahead of the other. -/
theorem stab_swap (hS : SWO lt) {U V : List α} (h : ∀ x ∈ U, ∀ y ∈ V, lt y x = true) : Stab lt (U ++ V) (V ++ U) := by
  refine ⟨by rw [List.length_append, List.length_append, Nat.add_comm], fun z => ?_⟩
  rw [List.filter_append, List.filter_append]
  by_cases hu : ∃ x ∈ U, eqv lt z x = true
  · obtain ⟨x, hx, hz⟩ := hu
    have : V.filter (eqv lt z) = [] := by
      rw [List.filter_eq_nil_iff]
      intro y hy hzy
      have h1 := h x hx y hy
      have e1 := eqv_iff.1 hz
      have e2 := eqv_iff.1 hzy
      have := hS.ntrans y z x e2.2 e1.1
      rw [h1] at this
      cases this
    rw [this, List.nil_append, List.append_nil]
  · have : U.filter (eqv lt z) = [] := by
      rw [List.filter_eq_nil_iff]
      intro y hy hzy
      exact hu ⟨y, hy, hzy⟩
    rw [this, List.nil_append, List.append_nil]
theorem swo_asymm (hS : SWO lt) {x y : α} (h : lt x y = true) : lt y x = false := by
  cases e : lt y x
  · rfl
  · have := hS.trans x y x h e
    rw [hS.irrefl] at this
    cases this
/-- x before y, y not behind z. -/
theorem swo_lt_le (hS : SWO lt) {x y z : α} (h : lt x y = true) (h' : lt z y = false) : lt x z = true := by
  cases e : lt x z
  · have := hS.ntrans x z y e h'
    rw [h] at this
    cases this
  · rfl
theorem swo_le_lt (hS : SWO lt) {x y z : α} (h : lt y x = false) (h' : lt y z = true) : lt x z = true := by
  cases e : lt x z
  · have := hS.ntrans y x z h e
    rw [h'] at this
    cases this
  · rfl
end

section
variable {α : Type} [Inhabited α] {lt : α → α → Bool}
/-- Places i to j of an array. -/
def seg (d : Array α) (i j : Nat) : List α := (d.toList.drop i).take (j - i)
theorem get_toList (d : Array α) (t : Nat) (h : t < d.size) : d.toList[t]? = some d[t]! := by
  rw [Array.getElem?_toList, getElem!_pos d t h]
  simp [h]
omit [Inhabited α] in
theorem seg_length (d : Array α) (i j : Nat) (h : j ≤ d.size) : (seg d i j).length = j - i := by
  unfold seg
  rw [List.length_take, List.length_drop, Array.length_toList]
  omega
theorem seg_get (d : Array α) (i j t : Nat) (h : j ≤ d.size) (ht : t < j - i) : (seg d i j)[t]? = some d[i + t]! := by
  unfold seg
  rw [List.getElem?_take_of_lt ht, List.getElem?_drop]
  exact get_toList d _ (by omega)
theorem seg_mem (d : Array α) (i j : Nat) (h : j ≤ d.size) {x : α} (hx : x ∈ seg d i j) : ∃ t, i ≤ t ∧ t < j ∧ x = d[t]! := by
  obtain ⟨t, ht⟩ := List.getElem?_of_mem hx
  have hl := (List.getElem?_eq_some_iff.1 ht).1
  rw [seg_length d i j h] at hl
  rw [seg_get d i j t h hl] at ht
  injection ht with ht
  exact ⟨i + t, by omega, by omega, ht.symm⟩
omit [Inhabited α] in
theorem seg_four (d : Array α) (s m e : Nat) (h1 : s ≤ m) (h2 : m ≤ e) : d.toList = d.toList.take s ++ (seg d s m ++ (seg d m e ++ d.toList.drop e)) := by
  unfold seg
  conv => lhs; rw [← List.take_append_drop s d.toList]
  congr 1
  conv => lhs; rw [← List.take_append_drop (m - s) (d.toList.drop s)]
  congr 1
  rw [List.drop_drop, show s + (m - s) = m by omega]
  conv => lhs; rw [← List.take_append_drop (e - m) (d.toList.drop m)]
  congr 1
  rw [List.drop_drop, show m + (e - m) = e by omega]
/-- Places s to m and m to e have changed places. -/
def RotOk (d : Array α) (s m e : Nat) (d' : Array α) : Prop :=
  d'.size = d.size ∧ (∀ t, t < s ∨ e ≤ t → d'[t]! = d[t]!) ∧ (∀ t, t < e - m → d'[s + t]! = d[m + t]!) ∧ (∀ t, t < m - s → d'[s + (e - m) + t]! = d[s + t]!)
theorem rot_list {d d' : Array α} {s m e : Nat} (h : RotOk d s m e d') (h1 : s ≤ m) (h2 : m ≤ e) (h3 : e ≤ d.size) :
    d'.toList = d.toList.take s ++ (seg d m e ++ (seg d s m ++ d.toList.drop e)) := by
  obtain ⟨hs, ho, ha, hb⟩ := h
  refine List.ext_getElem? fun t => ?_
  by_cases ht : t < d.size
  · rw [get_toList d' t (by omega)]
    by_cases c1 : t < s
    · rw [List.getElem?_append_left (by rw [List.length_take, Array.length_toList]; omega), List.getElem?_take_of_lt c1, get_toList d t ht, ho t (.inl c1)]
    · rw [List.getElem?_append_right (by rw [List.length_take, Array.length_toList]; omega), List.length_take, Array.length_toList, show min s d.size = s by omega]
      by_cases c2 : t - s < e - m
      · rw [List.getElem?_append_left (by rw [seg_length d m e h3]; exact c2), seg_get d m e _ h3 c2, ← ha _ c2, show s + (t - s) = t by omega]
      · rw [List.getElem?_append_right (by rw [seg_length d m e h3]; omega), seg_length d m e h3]
        by_cases c3 : t - s - (e - m) < m - s
        · rw [List.getElem?_append_left (by rw [seg_length d s m (by omega)]; exact c3), seg_get d s m _ (by omega) c3, ← hb _ c3, show s + (e - m) + (t - s - (e - m)) = t by omega]
        · rw [List.getElem?_append_right (by rw [seg_length d s m (by omega)]; omega), seg_length d s m (by omega), List.getElem?_drop, get_toList d _ (by omega), ho t (.inr (by omega)), show e + (t - s - (e - m) - (m - s)) = t by omega]
  · rw [List.getElem?_eq_none (by rw [Array.length_toList]; omega), List.getElem?_eq_none]
    simp only [List.length_append, List.length_take, List.length_drop, Array.length_toList]
    rw [seg_length d m e h3, seg_length d s m (by omega)]
    omega
theorem rot_stab (hS : SWO lt) {d d' : Array α} {s m e : Nat} (h : RotOk d s m e d') (h1 : s ≤ m) (h2 : m ≤ e) (h3 : e ≤ d.size) (hl : ∀ i j, s ≤ i → i < m → m ≤ j → j < e → lt d[j]! d[i]! = true) : Stab lt d.toList d'.toList := by
  rw [rot_list h h1 h2 h3]
  conv => lhs; rw [seg_four d s m e h1 h2]
  refine (Stab.refl _).app ?_
  rw [← List.append_assoc, ← List.append_assoc]
  refine Stab.app (stab_swap hS fun x hx y hy => ?_) (Stab.refl _)
  obtain ⟨i, i1, i2, rfl⟩ := seg_mem d s m (by omega) hx
  obtain ⟨j, j1, j2, rfl⟩ := seg_mem d m e h3 hy
  exact hl i j i1 i2 j1 j2
/-- Two neighbors change places. -/
theorem swp_rot (d : Array α) (i j : Nat) (hj : j + 1 < d.size) (hi : i = j + 1) : RotOk d j (j + 1) (j + 2) (swp d i j) ∧ RotOk d j (j + 1) (j + 2) (swp d j i) := by
  subst hi
  have e1 : (swp d (j + 1) j)[j]! = d[j + 1]! := swp_right d (j + 1) j (by omega)
  have e2 : (swp d (j + 1) j)[j + 1]! = d[j]! := swp_left d (j + 1) j (by omega) (by omega)
  have e3 : (swp d j (j + 1))[j]! = d[j + 1]! := swp_left d j (j + 1) (by omega) (by omega)
  have e4 : (swp d j (j + 1))[j + 1]! = d[j]! := swp_right d j (j + 1) (by omega)
  have o1 : ∀ t, t ≠ j → t ≠ j + 1 → (swp d (j + 1) j)[t]! = d[t]! := fun t h1 h2 => swp_other d (j + 1) j t h2 h1
  have o2 : ∀ t, t ≠ j → t ≠ j + 1 → (swp d j (j + 1))[t]! = d[t]! := fun t h1 h2 => swp_other d j (j + 1) t h1 h2
  have z1 := size_swp d (j + 1) j
  have z2 := size_swp d j (j + 1)
  generalize swp d (j + 1) j = x at *
  generalize swp d j (j + 1) = y at *
  refine ⟨⟨z1, fun t ht => o1 t (by omega) (by omega), fun t ht => ?_, fun t ht => ?_⟩, z2, fun t ht => o2 t (by omega) (by omega), fun t ht => ?_, fun t ht => ?_⟩
  · rw [show j + t = j by omega, show j + 1 + t = j + 1 by omega, e1]
  · rw [show j + (j + 2 - (j + 1)) + t = j + 1 by omega, show j + t = j by omega, e2]
  · rw [show j + t = j by omega, show j + 1 + t = j + 1 by omega, e3]
  · rw [show j + (j + 2 - (j + 1)) + t = j + 1 by omega, show j + t = j by omega, e4]
/-- Two rows of n places have changed places. -/
def SwpOk (d : Array α) (a b n : Nat) (d' : Array α) : Prop :=
  d'.size = d.size ∧ (∀ t, t < n → d'[a + t]! = d[b + t]! ∧ d'[b + t]! = d[a + t]!) ∧ (∀ t, (t < a ∨ a + n ≤ t) → (t < b ∨ b + n ≤ t) → d'[t]! = d[t]!)
theorem SwpOk.zero (d : Array α) (a b : Nat) : SwpOk d a b 0 d := ⟨rfl, fun t h => absurd h (by omega), fun _ _ _ => rfl⟩
theorem SwpOk.step {d dk : Array α} {a b i : Nat} (h : SwpOk d a b i dk) (n : Nat) (hi : i < n) (hab : a + n ≤ b) (hb : b + n ≤ d.size) : SwpOk d a b (i + 1) (swp dk (a + i) (b + i)) := by
  obtain ⟨hs, h1, h2⟩ := h
  refine ⟨by rw [size_swp, hs], fun t ht => ?_, fun t ha hb' => ?_⟩
  · by_cases e : t = i
    · subst e
      rw [swp_left _ _ _ (by omega) (by omega), swp_right _ _ _ (by omega), h2 (b + t) (by omega) (by omega), h2 (a + t) (by omega) (by omega)]
      exact ⟨rfl, rfl⟩
    · rw [swp_other _ _ _ _ (by omega) (by omega), swp_other _ _ _ _ (by omega) (by omega)]
      exact h1 t (by omega)
  · rw [swp_other _ _ _ _ (by omega) (by omega)]
    exact h2 t (by omega) (by omega)
/-- Behind an exchange of the front with the row behind m. -/
theorem rot_front {d d2 d' : Array α} {s m e i j : Nat} (hi : s + i = m) (he : m + j = e) (hj : j < i) (h : SwpOk d s m j d2) (h' : RotOk d2 (s + j) m e d') : RotOk d s m e d' := by
  obtain ⟨a1, a2, a3⟩ := h
  obtain ⟨b1, b2, b3, b4⟩ := h'
  refine ⟨b1.trans a1, fun t ht => ?_, fun t ht => ?_, fun t ht => ?_⟩
  · rw [b2 t (by omega)]
    exact a3 t (by omega) (by omega)
  · rw [b2 (s + t) (by omega)]
    exact (a2 t (by omega)).1
  · by_cases c : t < j
    · have h3 := b3 t (by omega)
      rw [show s + (e - m) + t = s + j + t by omega, h3]
      exact (a2 t c).2
    · have h4 := b4 (t - j) (by omega)
      rw [show s + (e - m) + t = s + j + (e - m) + (t - j) by omega, h4, show s + j + (t - j) = s + t by omega]
      exact a3 _ (by omega) (by omega)
theorem rot_back {d d2 d' : Array α} {s m e i j : Nat} (hi : s + i = m) (he : m + j = e) (hj : i < j) (h : SwpOk d s (m + j - i) i d2) (h' : RotOk d2 s m (e - i) d') : RotOk d s m e d' := by
  obtain ⟨a1, a2, a3⟩ := h
  obtain ⟨b1, b2, b3, b4⟩ := h'
  refine ⟨b1.trans a1, fun t ht => ?_, fun t ht => ?_, fun t ht => ?_⟩
  · rw [b2 t (by omega)]
    exact a3 t (by omega) (by omega)
  · by_cases c : t < e - i - m
    · rw [b3 t (by omega)]
      exact a3 _ (by omega) (by omega)
    · have h4 := b4 (t - (e - i - m)) (by omega)
      rw [show s + t = s + (e - i - m) + (t - (e - i - m)) by omega, h4]
      rw [(a2 _ (by omega)).1]
      congr 1
      omega
  · rw [b2 _ (by omega), show s + (e - m) + t = m + j - i + t by omega]
    exact (a2 t (by omega)).2
theorem rot_same {d d' : Array α} {s m e i : Nat} (hi : s + i = m) (he : m + i = e) (h : SwpOk d s m i d') : RotOk d s m e d' := by
  obtain ⟨a1, a2, a3⟩ := h
  refine ⟨a1, fun t ht => a3 t (by omega) (by omega), fun t ht => (a2 t (by omega)).1, fun t ht => ?_⟩
  rw [show s + (e - m) + t = m + t by omega]
  exact (a2 t (by omega)).2
/-- Places a to b are permuted among themselves, those of each class let in their order. -/
def Mix (lt : α → α → Bool) (a b : Nat) (d d' : Array α) : Prop := PermIn a b d d' ∧ Stab lt d.toList d'.toList
theorem Mix.refl (a b : Nat) (d : Array α) : Mix lt a b d d := ⟨permIn_refl d a b, Stab.refl _⟩
theorem Mix.trans {a b : Nat} {d d' d'' : Array α} (h : Mix lt a b d d') (h' : Mix lt a b d' d'') : Mix lt a b d d'' := ⟨permIn_trans _ _ _ _ _ h.1 h'.1, h.2.trans h'.2⟩
theorem Mix.wide {a b a' b' : Nat} {d d' : Array α} (h : Mix lt a b d d') (h1 : a' ≤ a) (h2 : b ≤ b') (h3 : b' ≤ d.size) : Mix lt a' b' d d' := ⟨permIn_mono _ _ _ _ _ _ h1 h2 h3 h.1, h.2⟩
theorem Mix.size {a b : Nat} {d d' : Array α} (h : Mix lt a b d d') : d'.size = d.size := h.1.1
theorem Mix.out {a b : Nat} {d d' : Array α} (h : Mix lt a b d d') (t : Nat) (ht : t < a ∨ b ≤ t) : d'[t]! = d[t]! := h.1.2.1 t ht
theorem Mix.all {a b : Nat} {d d' : Array α} (h : Mix lt a b d d') (hb : b ≤ d.size) (p : α → Prop) (hp : ∀ i, a ≤ i → i < b → p d[i]!) : ∀ i, a ≤ i → i < b → p d'[i]! := permIn_all d d' a b p hb h.1 hp
theorem Mix.swp (hS : SWO lt) (d : Array α) {a b i j : Nat} (hi : i = j + 1) (ha : a ≤ j) (hb : i < b) (hsz : b ≤ d.size) (hl : lt d[i]! d[j]! = true) : Mix lt a b d (swp d i j) := by
  refine ⟨swp_permIn d a b i j (by omega) hb ha (by omega) hsz, rot_stab hS (swp_rot d i j (by omega) hi).1 (by omega) (by omega) (by omega) fun i' j' h1 h2 h3 h4 => ?_⟩
  obtain rfl : i' = j := by omega
  obtain rfl : j' = i := by omega
  exact hl
theorem Mix.inner (hS : SWO lt) {a b : Nat} : ∀ (j : Nat) (d : Array α), j < b → b ≤ d.size → Mix lt a b d (insInner lt a j d)
  | 0, d, _, _ => Mix.refl _ _ _
  | j + 1, d, h, hb => by
    unfold insInner
    split
    · rename_i hc
      simp only [Bool.and_eq_true, decide_eq_true_iff] at hc
      have h1 := Mix.swp hS d (a := a) (b := b) (i := j + 1) (j := j) rfl (by omega) h hb hc.2
      exact h1.trans (Mix.inner hS j _ (by omega) (by rw [size_swp]; exact hb))
    · exact Mix.refl _ _ _
theorem Mix.outer (hS : SWO lt) {a b : Nat} (n : Nat) : ∀ (i : Nat) (d : Array α), b - i = n → b ≤ d.size → Mix lt a b d (insOuter lt a b i d) := by
  induction n with
  | zero =>
    intro i d hn hb
    unfold insOuter
    rw [if_neg (by omega)]
    exact Mix.refl _ _ _
  | succ n ih =>
    intro i d hn hb
    unfold insOuter
    rw [if_pos (by omega)]
    have h1 := Mix.inner hS (a := a) (b := b) i d (by omega) hb
    exact h1.trans (ih (i + 1) _ (by omega) (by rw [h1.size]; exact hb))
/-- An insertion sort is stable. -/
theorem mix_ins (hS : SWO lt) (d : Array α) {a b : Nat} (hab : a ≤ b) (hb : b ≤ d.size) : Mix lt a b d (insertionSort lt d a b) ∧ SortedIn lt a b (insertionSort lt d a b) :=
  ⟨Mix.outer hS _ (a + 1) d rfl hb, (insertionSort_holds (lt := lt) hS d a b hab hb).2⟩
theorem ord_of_sorted {d : Array α} (h : SortedIn lt 0 d.size d) : Ord lt d.toList := by
  unfold Ord
  rw [List.pairwise_iff_getElem]
  intro i j hi hj hij
  have := h i j (Nat.zero_le _) hij (by simpa using hj)
  rw [getElem!_pos d i (by simpa using hi), getElem!_pos d j (by simpa using hj)] at this
  simpa using this
end
end Go.Proofs.Ytjinleakjkbbgaa
