/- Plain facts on stable orders: lists and arrays of anything, under a strict weak order. No program, no conditions but that order. · A region that draws its order, whose head reads, and calls what reads, draws and lays blocks, and whose tail is of one order: of any program. No conditions. -/
import Derived.Sort.Lot0
import Derived.Sort.LotA
import Derived.StillTail
import Derived.Shelf.SlSortCmp.QuietGrown
namespace Go.Proofs.YtfdfdmbnggpnbaaGreat
open Go.Sort

section
variable {α : Type} (lt : α → α → Bool)
/-- Neither is ahead of the other. -/
def eqv (x y : α) : Bool := !lt x y && !lt y x
/-- The same things, those of each class in the same order. -/
def Stab (L L' : List α) : Prop := L'.length = L.length ∧ ∀ x, L'.filter (eqv lt x) = L.filter (eqv lt x)
/-- In order: none is less than one ahead of it. -/
def Ord (L : List α) : Prop := L.Pairwise fun x y => lt y x = false
end

section
variable {α : Type} {lt : α → α → Bool}
theorem eqv_iff {x y : α} : eqv lt x y = true ↔ lt x y = false ∧ lt y x = false := by
  unfold eqv
  cases lt x y <;> cases lt y x <;> simp
theorem Stab.refl (L : List α) : Stab lt L L := ⟨rfl, fun _ => rfl⟩
theorem Stab.trans {A B C : List α} (h : Stab lt A B) (h' : Stab lt B C) : Stab lt A C := ⟨h'.1.trans h.1, fun x => (h'.2 x).trans (h.2 x)⟩
theorem Stab.symm {A B : List α} (h : Stab lt A B) : Stab lt B A := ⟨h.1.symm, fun x => (h.2 x).symm⟩
theorem Stab.app {A A' B B' : List α} (h : Stab lt A A') (h' : Stab lt B B') : Stab lt (A ++ B) (A' ++ B') :=
  ⟨by rw [List.length_append, List.length_append, h.1, h'.1], fun x => by rw [List.filter_append, List.filter_append, h.2, h'.2]⟩
theorem Stab.mem (hS : SWO lt) {A B : List α} (h : Stab lt A B) {x : α} : x ∈ B ↔ x ∈ A := by
  have hx : eqv lt x x = true := eqv_iff.2 ⟨hS.irrefl x, hS.irrefl x⟩
  have e := h.2 x
  constructor
  · intro hb
    have : x ∈ B.filter (eqv lt x) := List.mem_filter.2 ⟨hb, hx⟩
    rw [e] at this
    exact (List.mem_filter.1 this).1
  · intro hb
    have : x ∈ A.filter (eqv lt x) := List.mem_filter.2 ⟨hb, hx⟩
    rw [← e] at this
    exact (List.mem_filter.1 this).1
/-- Two rows change places, of which one is all ahead of the other. -/
theorem stab_swap (hS : SWO lt) {U V : List α} (h : ∀ x ∈ U, ∀ y ∈ V, lt y x = true) : Stab lt (U ++ V) (V ++ U) := by
  refine ⟨by rw [List.length_append, List.length_append, Nat.add_comm], fun z => ?_⟩
  rw [List.filter_append, List.filter_append]
  by_cases hu : ∃ x ∈ U, eqv lt z x = true
  · obtain ⟨x, hx, hz⟩ := hu
    have : V.filter (eqv lt z) = [] := by
      rw [List.filter_eq_nil_iff]
      intro y hy hzy
      have h1 := h x hx y hy
      have e1 := eqv_iff.1 hz
      have e2 := eqv_iff.1 hzy
      have := hS.ntrans y z x e2.2 e1.1
      rw [h1] at this
      cases this
    rw [this, List.nil_append, List.append_nil]
  · have : U.filter (eqv lt z) = [] := by
      rw [List.filter_eq_nil_iff]
      intro y hy hzy
      exact hu ⟨y, hy, hzy⟩
    rw [this, List.nil_append, List.append_nil]
/-- There is one stable order. -/
theorem stab_unique (hS : SWO lt) : ∀ {A B : List α}, Ord lt A → Ord lt B → Stab lt A B → A = B
  | [], B, _, _, h => (List.eq_nil_of_length_eq_zero h.1).symm
  | x :: A, [], _, _, h => by have := h.1; simp at this
  | x :: A, y :: B, ha, hb, h => by
    obtain ⟨a1, a2⟩ := List.pairwise_cons.1 ha
    obtain ⟨b1, b2⟩ := List.pairwise_cons.1 hb
    have hxy : lt x y = false := by
      rcases List.mem_cons.1 ((h.mem hS).2 (List.mem_cons_self (a := x) (l := A))) with e | e
      · rw [e]; exact hS.irrefl _
      · exact b1 x e
    have hyx : lt y x = false := by
      rcases List.mem_cons.1 ((h.mem hS).1 (List.mem_cons_self (a := y) (l := B))) with e | e
      · rw [e]; exact hS.irrefl _
      · exact a1 y e
    have hx : eqv lt x x = true := eqv_iff.2 ⟨hS.irrefl x, hS.irrefl x⟩
    have hx2 : eqv lt x y = true := eqv_iff.2 ⟨hxy, hyx⟩
    have e := h.2 x
    rw [List.filter_cons_of_pos hx, List.filter_cons_of_pos hx2] at e
    injection e with e1 e2
    subst e1
    congr 1
    refine stab_unique hS a2 b2 ⟨by have := h.1; simp at this; exact this, fun z => ?_⟩
    have ez := h.2 z
    by_cases hz : eqv lt z y = true
    · rw [List.filter_cons_of_pos hz, List.filter_cons_of_pos hz] at ez
      injection ez
    · rw [List.filter_cons_of_neg hz, List.filter_cons_of_neg hz] at ez
      exact ez
theorem swo_asymm (hS : SWO lt) {x y : α} (h : lt x y = true) : lt y x = false := by
  cases e : lt y x
  · rfl
  · have := hS.trans x y x h e
    rw [hS.irrefl] at this
    cases this
/-- x before y, y not behind z. -/
theorem swo_lt_le (hS : SWO lt) {x y z : α} (h : lt x y = true) (h' : lt z y = false) : lt x z = true := by
  cases e : lt x z
  · have := hS.ntrans x z y e h'
    rw [h] at this
    cases this
  · rfl
theorem swo_le_lt (hS : SWO lt) {x y z : α} (h : lt y x = false) (h' : lt y z = true) : lt x z = true := by
  cases e : lt x z
  · have := hS.ntrans y x z h e
    rw [h'] at this
    cases this
  · rfl
end

section
variable {α : Type} [Inhabited α] {lt : α → α → Bool}
/-- Places i to j of an array. -/
def seg (d : Array α) (i j : Nat) : List α := (d.toList.drop i).take (j - i)
theorem get_toList (d : Array α) (t : Nat) (h : t < d.size) : d.toList[t]? = some d[t]! := by
  rw [Array.getElem?_toList, getElem!_pos d t h]
  simp [h]
omit [Inhabited α] in
theorem seg_length (d : Array α) (i j : Nat) (h : j ≤ d.size) : (seg d i j).length = j - i := by
  unfold seg
  rw [List.length_take, List.length_drop, Array.length_toList]
  omega
theorem seg_get (d : Array α) (i j t : Nat) (h : j ≤ d.size) (ht : t < j - i) : (seg d i j)[t]? = some d[i + t]! := by
  unfold seg
  rw [List.getElem?_take_of_lt ht, List.getElem?_drop]
  exact get_toList d _ (by omega)
theorem seg_mem (d : Array α) (i j : Nat) (h : j ≤ d.size) {x : α} (hx : x ∈ seg d i j) : ∃ t, i ≤ t ∧ t < j ∧ x = d[t]! := by
  obtain ⟨t, ht⟩ := List.getElem?_of_mem hx
  have hl := (List.getElem?_eq_some_iff.1 ht).1
  rw [seg_length d i j h] at hl
  rw [seg_get d i j t h hl] at ht
  injection ht with ht
  exact ⟨i + t, by omega, by omega, ht.symm⟩
omit [Inhabited α] in
theorem seg_four (d : Array α) (s m e : Nat) (h1 : s ≤ m) (h2 : m ≤ e) : d.toList = d.toList.take s ++ (seg d s m ++ (seg d m e ++ d.toList.drop e)) := by
  unfold seg
  conv => lhs; rw [← List.take_append_drop s d.toList]
  congr 1
  conv => lhs; rw [← List.take_append_drop (m - s) (d.toList.drop s)]
  congr 1
  rw [List.drop_drop, show s + (m - s) = m by omega]
  conv => lhs; rw [← List.take_append_drop (e - m) (d.toList.drop m)]
  congr 1
  rw [List.drop_drop, show m + (e - m) = e by omega]
/-- Places s to m and m to e have changed places. -/
def RotOk (d : Array α) (s m e : Nat) (d' : Array α) : Prop :=
  d'.size = d.size ∧ (∀ t, t < s ∨ e ≤ t → d'[t]! = d[t]!) ∧ (∀ t, t < e - m → d'[s + t]! = d[m + t]!) ∧ (∀ t, t < m - s → d'[s + (e - m) + t]! = d[s + t]!)
theorem rot_list {d d' : Array α} {s m e : Nat} (h : RotOk d s m e d') (h1 : s ≤ m) (h2 : m ≤ e) (h3 : e ≤ d.size) :
    d'.toList = d.toList.take s ++ (seg d m e ++ (seg d s m ++ d.toList.drop e)) := by
  obtain ⟨hs, ho, ha, hb⟩ := h
  refine List.ext_getElem? fun t => ?_
  by_cases ht : t < d.size
  · rw [get_toList d' t (by omega)]
    by_cases c1 : t < s
    · rw [List.getElem?_append_left (by rw [List.length_take, Array.length_toList]; omega), List.getElem?_take_of_lt c1, get_toList d t ht, ho t (.inl c1)]
    · rw [List.getElem?_append_right (by rw [List.length_take, Array.length_toList]; omega), List.length_take, Array.length_toList, show min s d.size = s by omega]
      by_cases c2 : t - s < e - m
      · rw [List.getElem?_append_left (by rw [seg_length d m e h3]; exact c2), seg_get d m e _ h3 c2, ← ha _ c2, show s + (t - s) = t by omega]
      · rw [List.getElem?_append_right (by rw [seg_length d m e h3]; omega), seg_length d m e h3]
        by_cases c3 : t - s - (e - m) < m - s
        · rw [List.getElem?_append_left (by rw [seg_length d s m (by omega)]; exact c3), seg_get d s m _ (by omega) c3, ← hb _ c3, show s + (e - m) + (t - s - (e - m)) = t by omega]
        · rw [List.getElem?_append_right (by rw [seg_length d s m (by omega)]; omega), seg_length d s m (by omega), List.getElem?_drop, get_toList d _ (by omega), ho t (.inr (by omega)), show e + (t - s - (e - m) - (m - s)) = t by omega]
  · rw [List.getElem?_eq_none (by rw [Array.length_toList]; omega), List.getElem?_eq_none]
    simp only [List.length_append, List.length_take, List.length_drop, Array.length_toList]
    rw [seg_length d m e h3, seg_length d s m (by omega)]
    omega
theorem rot_stab (hS : SWO lt) {d d' : Array α} {s m e : Nat} (h : RotOk d s m e d') (h1 : s ≤ m) (h2 : m ≤ e) (h3 : e ≤ d.size) (hl : ∀ i j, s ≤ i → i < m → m ≤ j → j < e → lt d[j]! d[i]! = true) : Stab lt d.toList d'.toList := by
  rw [rot_list h h1 h2 h3]
  conv => lhs; rw [seg_four d s m e h1 h2]
  refine (Stab.refl _).app ?_
  rw [← List.append_assoc, ← List.append_assoc]
  refine Stab.app (stab_swap hS fun x hx y hy => ?_) (Stab.refl _)
  obtain ⟨i, i1, i2, rfl⟩ := seg_mem d s m (by omega) hx
  obtain ⟨j, j1, j2, rfl⟩ := seg_mem d m e h3 hy
  exact hl i j i1 i2 j1 j2
/-- Two neighbors change places. -/
theorem swp_rot (d : Array α) (i j : Nat) (hj : j + 1 < d.size) (hi : i = j + 1) : RotOk d j (j + 1) (j + 2) (swp d i j) ∧ RotOk d j (j + 1) (j + 2) (swp d j i) := by
  subst hi
  have e1 : (swp d (j + 1) j)[j]! = d[j + 1]! := swp_right d (j + 1) j (by omega)
  have e2 : (swp d (j + 1) j)[j + 1]! = d[j]! := swp_left d (j + 1) j (by omega) (by omega)
  have e3 : (swp d j (j + 1))[j]! = d[j + 1]! := swp_left d j (j + 1) (by omega) (by omega)
  have e4 : (swp d j (j + 1))[j + 1]! = d[j]! := swp_right d j (j + 1) (by omega)
  have o1 : ∀ t, t ≠ j → t ≠ j + 1 → (swp d (j + 1) j)[t]! = d[t]! := fun t h1 h2 => swp_other d (j + 1) j t h2 h1
  have o2 : ∀ t, t ≠ j → t ≠ j + 1 → (swp d j (j + 1))[t]! = d[t]! := fun t h1 h2 => swp_other d j (j + 1) t h1 h2
  have z1 := size_swp d (j + 1) j
  have z2 := size_swp d j (j + 1)
  generalize swp d (j + 1) j = x at *
  generalize swp d j (j + 1) = y at *
  refine ⟨⟨z1, fun t ht => o1 t (by omega) (by omega), fun t ht => ?_, fun t ht => ?_⟩, z2, fun t ht => o2 t (by omega) (by omega), fun t ht => ?_, fun t ht => ?_⟩
  · rw [show j + t = j by omega, show j + 1 + t = j + 1 by omega, e1]
  · rw [show j + (j + 2 - (j + 1)) + t = j + 1 by omega, show j + t = j by omega, e2]
  · rw [show j + t = j by omega, show j + 1 + t = j + 1 by omega, e3]
  · rw [show j + (j + 2 - (j + 1)) + t = j + 1 by omega, show j + t = j by omega, e4]
/-- Two rows of n places have changed places. -/
def SwpOk (d : Array α) (a b n : Nat) (d' : Array α) : Prop :=
  d'.size = d.size ∧ (∀ t, t < n → d'[a + t]! = d[b + t]! ∧ d'[b + t]! = d[a + t]!) ∧ (∀ t, (t < a ∨ a + n ≤ t) → (t < b ∨ b + n ≤ t) → d'[t]! = d[t]!)
theorem SwpOk.zero (d : Array α) (a b : Nat) : SwpOk d a b 0 d := ⟨rfl, fun t h => absurd h (by omega), fun _ _ _ => rfl⟩
theorem SwpOk.step {d dk : Array α} {a b i : Nat} (h : SwpOk d a b i dk) (n : Nat) (hi : i < n) (hab : a + n ≤ b) (hb : b + n ≤ d.size) : SwpOk d a b (i + 1) (swp dk (a + i) (b + i)) := by
  obtain ⟨hs, h1, h2⟩ := h
  refine ⟨by rw [size_swp, hs], fun t ht => ?_, fun t ha hb' => ?_⟩
  · by_cases e : t = i
    · subst e
      rw [swp_left _ _ _ (by omega) (by omega), swp_right _ _ _ (by omega), h2 (b + t) (by omega) (by omega), h2 (a + t) (by omega) (by omega)]
      exact ⟨rfl, rfl⟩
    · rw [swp_other _ _ _ _ (by omega) (by omega), swp_other _ _ _ _ (by omega) (by omega)]
      exact h1 t (by omega)
  · rw [swp_other _ _ _ _ (by omega) (by omega)]
    exact h2 t (by omega) (by omega)
/-- Behind an exchange of the front with the row behind m. -/
theorem rot_front {d d2 d' : Array α} {s m e i j : Nat} (hi : s + i = m) (he : m + j = e) (hj : j < i) (h : SwpOk d s m j d2) (h' : RotOk d2 (s + j) m e d') : RotOk d s m e d' := by
  obtain ⟨a1, a2, a3⟩ := h
  obtain ⟨b1, b2, b3, b4⟩ := h'
  refine ⟨b1.trans a1, fun t ht => ?_, fun t ht => ?_, fun t ht => ?_⟩
  · rw [b2 t (by omega)]
    exact a3 t (by omega) (by omega)
  · rw [b2 (s + t) (by omega)]
    exact (a2 t (by omega)).1
  · by_cases c : t < j
    · have h3 := b3 t (by omega)
      rw [show s + (e - m) + t = s + j + t by omega, h3]
      exact (a2 t c).2
    · have h4 := b4 (t - j) (by omega)
      rw [show s + (e - m) + t = s + j + (e - m) + (t - j) by omega, h4, show s + j + (t - j) = s + t by omega]
      exact a3 _ (by omega) (by omega)
theorem rot_back {d d2 d' : Array α} {s m e i j : Nat} (hi : s + i = m) (he : m + j = e) (hj : i < j) (h : SwpOk d s (m + j - i) i d2) (h' : RotOk d2 s m (e - i) d') : RotOk d s m e d' := by
  obtain ⟨a1, a2, a3⟩ := h
  obtain ⟨b1, b2, b3, b4⟩ := h'
  refine ⟨b1.trans a1, fun t ht => ?_, fun t ht => ?_, fun t ht => ?_⟩
  · rw [b2 t (by omega)]
    exact a3 t (by omega) (by omega)
  · by_cases c : t < e - i - m
    · rw [b3 t (by omega)]
      exact a3 _ (by omega) (by omega)
    · have h4 := b4 (t - (e - i - m)) (by omega)
      rw [show s + t = s + (e - i - m) + (t - (e - i - m)) by omega, h4]
      rw [(a2 _ (by omega)).1]
      congr 1
      omega
  · rw [b2 _ (by omega), show s + (e - m) + t = m + j - i + t by omega]
    exact (a2 t (by omega)).2
theorem rot_same {d d' : Array α} {s m e i : Nat} (hi : s + i = m) (he : m + i = e) (h : SwpOk d s m i d') : RotOk d s m e d' := by
  obtain ⟨a1, a2, a3⟩ := h
  refine ⟨a1, fun t ht => a3 t (by omega) (by omega), fun t ht => (a2 t (by omega)).1, fun t ht => ?_⟩
  rw [show s + (e - m) + t = m + t by omega]
  exact (a2 t (by omega)).2
/-- Places a to b are permuted among themselves, those of each class let in their order. -/
def Mix (lt : α → α → Bool) (a b : Nat) (d d' : Array α) : Prop := PermIn a b d d' ∧ Stab lt d.toList d'.toList
theorem Mix.refl (a b : Nat) (d : Array α) : Mix lt a b d d := ⟨permIn_refl d a b, Stab.refl _⟩
theorem Mix.trans {a b : Nat} {d d' d'' : Array α} (h : Mix lt a b d d') (h' : Mix lt a b d' d'') : Mix lt a b d d'' := ⟨permIn_trans _ _ _ _ _ h.1 h'.1, h.2.trans h'.2⟩
theorem Mix.wide {a b a' b' : Nat} {d d' : Array α} (h : Mix lt a b d d') (h1 : a' ≤ a) (h2 : b ≤ b') (h3 : b' ≤ d.size) : Mix lt a' b' d d' := ⟨permIn_mono _ _ _ _ _ _ h1 h2 h3 h.1, h.2⟩
theorem Mix.size {a b : Nat} {d d' : Array α} (h : Mix lt a b d d') : d'.size = d.size := h.1.1
theorem Mix.out {a b : Nat} {d d' : Array α} (h : Mix lt a b d d') (t : Nat) (ht : t < a ∨ b ≤ t) : d'[t]! = d[t]! := h.1.2.1 t ht
theorem Mix.all {a b : Nat} {d d' : Array α} (h : Mix lt a b d d') (hb : b ≤ d.size) (p : α → Prop) (hp : ∀ i, a ≤ i → i < b → p d[i]!) : ∀ i, a ≤ i → i < b → p d'[i]! := permIn_all d d' a b p hb h.1 hp
theorem Mix.swp (hS : SWO lt) (d : Array α) {a b i j : Nat} (hi : i = j + 1) (ha : a ≤ j) (hb : i < b) (hsz : b ≤ d.size) (hl : lt d[i]! d[j]! = true) : Mix lt a b d (swp d i j) := by
  refine ⟨swp_permIn d a b i j (by omega) hb ha (by omega) hsz, rot_stab hS (swp_rot d i j (by omega) hi).1 (by omega) (by omega) (by omega) fun i' j' h1 h2 h3 h4 => ?_⟩
  obtain rfl : i' = j := by omega
  obtain rfl : j' = i := by omega
  exact hl
theorem Mix.inner (hS : SWO lt) {a b : Nat} : ∀ (j : Nat) (d : Array α), j < b → b ≤ d.size → Mix lt a b d (insInner lt a j d)
  | 0, d, _, _ => Mix.refl _ _ _
  | j + 1, d, h, hb => by
    unfold insInner
    split
    · rename_i hc
      simp only [Bool.and_eq_true, decide_eq_true_iff] at hc
      have h1 := Mix.swp hS d (a := a) (b := b) (i := j + 1) (j := j) rfl (by omega) h hb hc.2
      exact h1.trans (Mix.inner hS j _ (by omega) (by rw [size_swp]; exact hb))
    · exact Mix.refl _ _ _
theorem Mix.outer (hS : SWO lt) {a b : Nat} (n : Nat) : ∀ (i : Nat) (d : Array α), b - i = n → b ≤ d.size → Mix lt a b d (insOuter lt a b i d) := by
  induction n with
  | zero =>
    intro i d hn hb
    unfold insOuter
    rw [if_neg (by omega)]
    exact Mix.refl _ _ _
  | succ n ih =>
    intro i d hn hb
    unfold insOuter
    rw [if_pos (by omega)]
    have h1 := Mix.inner hS (a := a) (b := b) i d (by omega) hb
    exact h1.trans (ih (i + 1) _ (by omega) (by rw [h1.size]; exact hb))
/-- An insertion sort is stable. -/
theorem mix_ins (hS : SWO lt) (d : Array α) {a b : Nat} (hab : a ≤ b) (hb : b ≤ d.size) : Mix lt a b d (insertionSort lt d a b) ∧ SortedIn lt a b (insertionSort lt d a b) :=
  ⟨Mix.outer hS _ (a + 1) d rfl hb, (insertionSort_holds (lt := lt) hS d a b hab hb).2⟩
theorem ord_of_sorted {d : Array α} (h : SortedIn lt 0 d.size d) : Ord lt d.toList := by
  unfold Ord
  rw [List.pairwise_iff_getElem]
  intro i j hi hj hij
  have := h i j (Nat.zero_le _) hij (by simpa using hj)
  rw [getElem!_pos d i (by simpa using hi), getElem!_pos d j (by simpa using hj)] at this
  simpa using this
end
end Go.Proofs.YtfdfdmbnggpnbaaGreat
namespace Go.Proofs.YtfdfdmbnggpnbaaGreat
open Go.Sort

section
variable {P : Program} {md : Region.Mode} {ops : Array Oper} {C : World → Prop}
/-- Whatever order is picked from here on, as long as it is one of the first n. -/
def wpAnyQL (P : Program) (md : Region.Mode) (ops : Array Oper) (C : World → Prop) (n : Nat) (L : Array Bool → Act → Prop) : Nat → Array Bool → Act → Prop
  | 0, listed, a => L listed a
  | f + 1, listed, a => Region.ready md ops listed ≠ [] ∧ ∀ i ∈ Region.ready md ops listed, i < n ∧ qOp P ops C i (wpAnyQL P md ops C n L f (listed.setIfInBounds i true)) a

theorem any_of_headQ {n g : Nat} {L : Array Bool → Act → Prop} {Q' : Exit → Act → World → Prop} (hL : ∀ listed a w, C w → L listed a → wpAny P md ops Q' g listed a w) :
    ∀ (f : Nat) (listed : Array Bool) (a : Act) (w : World), C w → wpAnyQL P md ops C n L f listed a → wpAny P md ops Q' (f + g) listed a w
  | 0, listed, a, w, hw, h => by
    rw [Nat.zero_add]
    exact hL _ _ _ hw h
  | f + 1, listed, a, w, hw, h => by
    rw [show f + 1 + g = (f + g) + 1 by omega]
    exact ⟨fun h0 => absurd h0 h.1, fun i hi => wpOp_of_qOp hw (fun a' w' hw' h' => any_of_headQ hL f _ a' w' hw' h') (h.2 i hi).2⟩

theorem anyQL_first {n i : Nat} {oi : Oper} {v : Value} {L : Array Bool → Act → Prop} (hi : ops[i]? = some oi) (hsel : ∀ (j : Nat) (o : Oper) cs b, ops[j]? = some o → o.op ≠ .select cs b)
    (hs : Region.sinkB md ops n = true) (hc : Region.chainB md ops n = true) (hn : n < ops.size) (hin : i < n) (hdone : ∀ listed a, L listed a → ∀ j ∈ Region.ready md ops listed, n ≤ j) :
    ∀ (f : Nat) (listed : Array Bool) (a : Act), HeadInv md ops n listed →
      (∀ j oj, ops[j]? = some oj → j ≠ i → listed.getD j true = false → (∀ e ∈ oj.after, Region.binds md e = true → e.on ≠ i) → oi.apart ops oj = true) →
      i ∈ Region.ready md ops listed → YieldsIn P ops C oi v a → wpAnyQL P md ops C n L f (listed.setIfInBounds i true) (a.put oi.dst v) → wpAnyQL P md ops C n L (f + 1) listed a := by
  intro f
  induction f with
  | zero =>
    intro listed a inv _ hr hy H
    have hun := (mem_ready.1 hr).1
    refine ⟨fun h => (by rw [h] at hr; cases hr), fun j hj => ?_⟩
    have hjn : j < n := Nat.lt_of_not_le fun h => absurd hj (tail_waits hs hc hn inv _ i rfl hin hun j h)
    refine ⟨hjn, ?_⟩
    by_cases hji : j = i
    · subst hji
      exact hy.qOp hi H
    · have := hdone _ _ H j (ready_mono hj hji)
      omega
  | succ f ih =>
    intro listed a inv hfree hr hy H
    have hun := (mem_ready.1 hr).1
    refine ⟨fun h => (by rw [h] at hr; cases hr), fun j hj => ?_⟩
    have hjn : j < n := Nat.lt_of_not_le fun h => absurd hj (tail_waits hs hc hn inv _ i rfl hin hun j h)
    refine ⟨hjn, ?_⟩
    by_cases hji : j = i
    · subst hji
      exact hy.qOp hi H
    · have h1 := (H.2 j (ready_mono hj hji)).2
      obtain ⟨hjun, oj, hoj, hall⟩ := mem_ready.1 hj
      have hnot : ∀ e ∈ oj.after, Region.binds md e = true → e.on ≠ i := fun e he hb heq => by
        have h3 := hall e he hb
        rw [heq, getD_both hun] at h3
        cases h3
      have h2 := qOp_put hoj (hfree j oj hoj hji hjun hnot) (fun cs b => hsel i oi cs b hi) (fun cs b => hsel j oj cs b hoj) hy h1
      have hfree' : ∀ k ok, ops[k]? = some ok → k ≠ i → (listed.setIfInBounds j true).getD k true = false → (∀ e ∈ ok.after, Region.binds md e = true → e.on ≠ i) → oi.apart ops ok = true := fun k ok hk hki hku hno => by
        refine hfree k ok hk hki ?_ hno
        by_cases hjk : j = k
        · rw [← hjk]
          exact hjun
        · rwa [getD_set_ne true hjk] at hku
      refine qOp_mono (fun a' h3 => ih (listed.setIfInBounds j true) a' (inv.set hj hjn) hfree' (ready_mono hr (Ne.symm hji)) h3.1 ?_) h2
      rw [Array.setIfInBounds_comm _ _ hji]
      exact h3.2

theorem anyQL_lex {n g : Nat} {Lq : Act → Prop} (hsel : Region.noSelect ops = true) (hs : Region.sinkB md ops n = true) (hc : Region.chainB md ops n = true) (hn : n < ops.size) :
    ∀ (l : List Oper) (k : Nat) (listed : Array Bool) (a : Act), (∀ j, j < l.length → l[j]? = ops[k + j]?) → k + l.length = n → HeadInv md ops n listed → Region.lexHead md ops g l.length k listed = true → wpQuiet P ops C Lq l a →
    wpAnyQL P md ops C n (fun listed' a' => Region.seqB md ops g n listed' = true ∧ Lq a') l.length listed a
  | [], k, listed, a, _, hk, _, hB, h => by
    obtain rfl : k = n := by simpa using hk
    exact ⟨by simpa [Region.lexHead] using hB, h⟩
  | o :: l, k, listed, a, hl, hk, inv, hB, h => by
    have h0 : ops[k]? = some o := by simpa using (hl 0 (by simp)).symm
    simp only [List.length_cons, Region.lexHead, Bool.and_eq_true] at hB
    obtain ⟨⟨hr, hf⟩, hB'⟩ := hB
    have hkn : k < n := by
      simp only [List.length_cons] at hk
      omega
    have hr' : k ∈ Region.ready md ops listed := by simpa using hr
    have hst : qOp P ops C k (wpQuiet P ops C Lq l) a := by
      unfold qOp
      simp only [h0]
      exact h
    obtain ⟨v, hy, hK⟩ := yieldsIn_of_qOp h0 hst
    exact anyQL_first h0 (Region.noSelect_spec hsel) hs hc hn hkn (fun listed' a' hL => seqB_ready hL.1) l.length listed a inv (Region.free_spec h0 hf) hr' hy
      (anyQL_lex hsel hs hc hn l (k + 1) _ _ (fun j hj => by have := hl (j + 1) (by simp; omega); simpa [Nat.add_assoc, Nat.add_comm 1 j] using this) (by simp only [List.length_cons] at hk; omega) (inv.set hr' hkn) hB' hK)
end

theorem region_grown_tail {P : Program} {id : Nat} {Q : Exit → Act → World → Prop} {a : Act} {w : World} {l : List Oper} (n : Nat) (hm : P.follows .mixedOrders = true) (hB : Region.lexTailB .any l.toArray n = true)
    (h : wpQuiet P l.toArray (fun w' => ∃ p : GrownBy, w' = grow (w.drewN p.n) p.os) (fun a' => ∀ w', (∃ p : GrownBy, w' = grow (w.drewN p.n) p.os) → wpList P l.toArray Q (l.drop n) a' w') (l.take n) a) : (Code.region id l.toArray true).wp P Q a w := by
  simp only [Region.lexTailB, Bool.and_eq_true, decide_eq_true_eq] at hB
  obtain ⟨⟨⟨⟨hsel, hn⟩, hs⟩, hc⟩, hlex⟩ := hB
  have hn' : n < l.length := by simpa using hn
  have htl : (l.take n).length = n := by simp; omega
  have hdl : (l.drop n).length = l.toArray.size - n := by simp
  have inv0 : HeadInv .any l.toArray n (Array.replicate l.toArray.size false) :=
    ⟨by simp, fun j oj _ hl => (by rw [getD_replicate_false] at hl; cases hl), fun t _ ht => getD_in (by simpa using ht) (getD_replicate_false _ _)⟩
  have H := anyQL_lex (md := .any) (g := l.toArray.size - n) hsel hs hc hn (l.take n) 0 _ a (fun j hj => by
    have hj' : j < n := by rw [htl] at hj; exact hj
    simp [hj']) (by simpa using htl) inv0 (by rw [htl]; exact hlex) h
  refine wp_region_any hm ?_
  have := any_of_headQ (Q' := Q) (g := l.toArray.size - n) (fun listed a' w' hw' hL => by
    have := wpAny_of_seq (md := .any) (Q' := Q) (l.drop n) n listed a' w' (fun j => by simp [List.getElem?_drop]) (by rw [hdl]; exact hL.1) (hL.2 w' hw')
    rwa [hdl] at this) _ _ _ { w with drawn := w.drawn + 1 } ⟨⟨1, #[]⟩, by rw [grow_empty]; rfl⟩ H
  rw [htl, show n + (l.toArray.size - n) = l.toArray.size by omega] at this
  exact this
end Go.Proofs.YtfdfdmbnggpnbaaGreat
