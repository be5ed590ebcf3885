/- Plain facts on stable orders: lists and arrays of anything, under a strict weak order. No program, no conditions but that order. · Words for memory that the proofs of package quad share: a row of integers that a slice leads to, a block that is known whole, and a goto ahead out of a scope. No conditions. · Plain facts on lists of bytes and the numbers that they are, the highest byte first. No program, no conditions. · Memory of bytes, as the proofs of all packages take it: make, copy and append of rows of bytes, nil let in, and a slice of integers that came in, read as a row. Conditions: what append puts together has at most 2^40 bytes. · Plain words for descriptions: a head, a link, and what may be of them. No program, no conditions. · Memory of links: a slice of structs of four integers that reads as a list. No conditions. -/
import Derived.Sort.Lot0
import Derived.Sort.LotA
import Derived.Below
import Derived.Laws.OwnMore
import Derived.Laws.Rows
import Derived.Deep.Draws
import Derived.ScopeJumps
import Derived.WalkMore
import Derived.Test.YtfdfdmbnggpnbaaProg
import Derived.WalkKit
import Derived.WalkLawsBesides
import Derived.Deep.QuietTactic
import Derived.BigQuiet
import Derived.Lib.Hide
import Derived.Laws.CopyOwn
import Derived.Laws.MakeOwn
import Derived.OpenShut
import Derived.Deep.AppendLies
import Derived.Maps.AppendAt
namespace Go.Proofs.Ytfdfdmbnggpnbaa
open Go.Sort

section
variable {α : Type} (lt : α → α → Bool)
/-- Neither is ahead of the other. -/
def eqv (x y : α) : Bool := !lt x y && !lt y x
/-- The same things, those of each class in the same order. -/
def Stab (L L' : List α) : Prop := L'.length = L.length ∧ ∀ x, L'.filter (eqv lt x) = L.filter (eqv lt x)
/-- In order: none is less than one ahead of it. -/
def Ord (L : List α) : Prop := L.Pairwise fun x y => lt y x = false
end

section
variable {α : Type} {lt : α → α → Bool}
theorem eqv_iff {x y : α} : eqv lt x y = true ↔ lt x y = false ∧ lt y x = false := by
  unfold eqv
  cases lt x y <;> cases lt y x <;> simp
theorem Stab.refl (L : List α) : Stab lt L L := ⟨rfl, fun _ => rfl⟩
theorem Stab.trans {A B C : List α} (h : Stab lt A B) (h' : Stab lt B C) : Stab lt A C := ⟨h'.1.trans h.1, fun x => (h'.2 x).trans (h.2 x)⟩
theorem Stab.symm {A B : List α} (h : Stab lt A B) : Stab lt B A := ⟨h.1.symm, fun x => (h.2 x).symm⟩
theorem Stab.app {A A' B B' : List α} (h : Stab lt A A') (h' : Stab lt B B') : Stab lt (A ++ B) (A' ++ B') :=
  ⟨by rw [List.length_append, List.length_append, h.1, h'.1], fun x => by rw [List.filter_append, List.filter_append, h.2, h'.2]⟩
theorem Stab.mem (hS : SWO lt) {A B : List α} (h : Stab lt A B) {x : α} : x ∈ B ↔ x ∈ A := by
  have hx : eqv lt x x = true := eqv_iff.2 ⟨hS.irrefl x, hS.irrefl x⟩
  have e := h.2 x
  constructor
  · intro hb
    have : x ∈ B.filter (eqv lt x) := List.mem_filter.2 ⟨hb, hx⟩
    rw [e] at this
    exact (List.mem_filter.1 this).1
  · intro hb
    have : x ∈ A.filter (eqv lt x) := List.mem_filter.2 ⟨hb, hx⟩
    rw [← e] at this
    exact (List.mem_filter.1 this).1
/-- Two rows change places, of which one is all ahead of the other. -/
theorem stab_swap (hS : SWO lt) {U V : List α} (h : ∀ x ∈ U, ∀ y ∈ V, lt y x = true) : Stab lt (U ++ V) (V ++ U) := by
  refine ⟨by rw [List.length_append, List.length_append, Nat.add_comm], fun z => ?_⟩
  rw [List.filter_append, List.filter_append]
  by_cases hu : ∃ x ∈ U, eqv lt z x = true
  · obtain ⟨x, hx, hz⟩ := hu
    have : V.filter (eqv lt z) = [] := by
      rw [List.filter_eq_nil_iff]
      intro y hy hzy
      have h1 := h x hx y hy
      have e1 := eqv_iff.1 hz
      have e2 := eqv_iff.1 hzy
      have := hS.ntrans y z x e2.2 e1.1
      rw [h1] at this
      cases this
    rw [this, List.nil_append, List.append_nil]
  · have : U.filter (eqv lt z) = [] := by
      rw [List.filter_eq_nil_iff]
      intro y hy hzy
      exact hu ⟨y, hy, hzy⟩
    rw [this, List.nil_append, List.append_nil]
/-- There is one stable order. -/
theorem stab_unique (hS : SWO lt) : ∀ {A B : List α}, Ord lt A → Ord lt B → Stab lt A B → A = B
  | [], B, _, _, h => (List.eq_nil_of_length_eq_zero h.1).symm
  | x :: A, [], _, _, h => by have := h.1; simp at this
  | x :: A, y :: B, ha, hb, h => by
    obtain ⟨a1, a2⟩ := List.pairwise_cons.1 ha
    obtain ⟨b1, b2⟩ := List.pairwise_cons.1 hb
    have hxy : lt x y = false := by
      rcases List.mem_cons.1 ((h.mem hS).2 (List.mem_cons_self (a := x) (l := A))) with e | e
      · rw [e]; exact hS.irrefl _
      · exact b1 x e
    have hyx : lt y x = false := by
      rcases List.mem_cons.1 ((h.mem hS).1 (List.mem_cons_self (a := y) (l := B))) with e | e
      · rw [e]; exact hS.irrefl _
      · exact a1 y e
    have hx : eqv lt x x = true := eqv_iff.2 ⟨hS.irrefl x, hS.irrefl x⟩
    have hx2 : eqv lt x y = true := eqv_iff.2 ⟨hxy, hyx⟩
    have e := h.2 x
    rw [List.filter_cons_of_pos hx, List.filter_cons_of_pos hx2] at e
    injection e with e1 e2
    subst e1
    congr 1
    refine stab_unique hS a2 b2 ⟨by have := h.1; simp at this; exact this, fun z => ?_⟩
    have ez := h.2 z
    by_cases hz : eqv lt z y = true
    · rw [List.filter_cons_of_pos hz, List.filter_cons_of_pos hz] at ez
      injection ez
    · rw [List.filter_cons_of_neg hz, List.filter_cons_of_neg hz] at ez
      exact ez
theorem swo_asymm (hS : SWO lt) {x y : α} (h : lt x y = true) : lt y x = false := by
  cases e : lt y x
  · rfl
  · have := hS.trans x y x h e
    rw [hS.irrefl] at this
    cases this
/-- x before y, y not behind z. -/
theorem swo_lt_le (hS : SWO lt) {x y z : α} (h : lt x y = true) (h' : lt z y = false) : lt x z = true := by
  cases e : lt x z
  · have := hS.ntrans x z y e h'
    rw [h] at this
    cases this
  · rfl
theorem swo_le_lt (hS : SWO lt) {x y z : α} (h : lt y x = false) (h' : lt y z = true) : lt x z = true := by
  cases e : lt x z
  · have := hS.ntrans y x z h e
    rw [h'] at this
    cases this
  · rfl
end

section
variable {α : Type} [Inhabited α] {lt : α → α → Bool}
/-- Places i to j of an array. -/
def seg (d : Array α) (i j : Nat) : List α := (d.toList.drop i).take (j - i)
theorem get_toList (d : Array α) (t : Nat) (h : t < d.size) : d.toList[t]? = some d[t]! := by
  rw [Array.getElem?_toList, getElem!_pos d t h]
  simp [h]
omit [Inhabited α] in
theorem seg_length (d : Array α) (i j : Nat) (h : j ≤ d.size) : (seg d i j).length = j - i := by
  unfold seg
  rw [List.length_take, List.length_drop, Array.length_toList]
  omega
theorem seg_get (d : Array α) (i j t : Nat) (h : j ≤ d.size) (ht : t < j - i) : (seg d i j)[t]? = some d[i + t]! := by
  unfold seg
  rw [List.getElem?_take_of_lt ht, List.getElem?_drop]
  exact get_toList d _ (by omega)
theorem seg_mem (d : Array α) (i j : Nat) (h : j ≤ d.size) {x : α} (hx : x ∈ seg d i j) : ∃ t, i ≤ t ∧ t < j ∧ x = d[t]! := by
  obtain ⟨t, ht⟩ := List.getElem?_of_mem hx
  have hl := (List.getElem?_eq_some_iff.1 ht).1
  rw [seg_length d i j h] at hl
  rw [seg_get d i j t h hl] at ht
  injection ht with ht
  exact ⟨i + t, by omega, by omega, ht.symm⟩
omit [Inhabited α] in
theorem seg_four (d : Array α) (s m e : Nat) (h1 : s ≤ m) (h2 : m ≤ e) : d.toList = d.toList.take s ++ (seg d s m ++ (seg d m e ++ d.toList.drop e)) := by
  unfold seg
  conv => lhs; rw [← List.take_append_drop s d.toList]
  congr 1
  conv => lhs; rw [← List.take_append_drop (m - s) (d.toList.drop s)]
  congr 1
  rw [List.drop_drop, show s + (m - s) = m by omega]
  conv => lhs; rw [← List.take_append_drop (e - m) (d.toList.drop m)]
  congr 1
  rw [List.drop_drop, show m + (e - m) = e by omega]
/-- Places s to m and m to e have changed places. -/
def RotOk (d : Array α) (s m e : Nat) (d' : Array α) : Prop :=
  d'.size = d.size ∧ (∀ t, t < s ∨ e ≤ t → d'[t]! = d[t]!) ∧ (∀ t, t < e - m → d'[s + t]! = d[m + t]!) ∧ (∀ t, t < m - s → d'[s + (e - m) + t]! = d[s + t]!)
theorem rot_list {d d' : Array α} {s m e : Nat} (h : RotOk d s m e d') (h1 : s ≤ m) (h2 : m ≤ e) (h3 : e ≤ d.size) :
    d'.toList = d.toList.take s ++ (seg d m e ++ (seg d s m ++ d.toList.drop e)) := by
  obtain ⟨hs, ho, ha, hb⟩ := h
  refine List.ext_getElem? fun t => ?_
  by_cases ht : t < d.size
  · rw [get_toList d' t (by omega)]
    by_cases c1 : t < s
    · rw [List.getElem?_append_left (by rw [List.length_take, Array.length_toList]; omega), List.getElem?_take_of_lt c1, get_toList d t ht, ho t (.inl c1)]
    · rw [List.getElem?_append_right (by rw [List.length_take, Array.length_toList]; omega), List.length_take, Array.length_toList, show min s d.size = s by omega]
      by_cases c2 : t - s < e - m
      · rw [List.getElem?_append_left (by rw [seg_length d m e h3]; exact c2), seg_get d m e _ h3 c2, ← ha _ c2, show s + (t - s) = t by omega]
      · rw [List.getElem?_append_right (by rw [seg_length d m e h3]; omega), seg_length d m e h3]
        by_cases c3 : t - s - (e - m) < m - s
        · rw [List.getElem?_append_left (by rw [seg_length d s m (by omega)]; exact c3), seg_get d s m _ (by omega) c3, ← hb _ c3, show s + (e - m) + (t - s - (e - m)) = t by omega]
        · rw [List.getElem?_append_right (by rw [seg_length d s m (by omega)]; omega), seg_length d s m (by omega), List.getElem?_drop, get_toList d _ (by omega), ho t (.inr (by omega)), show e + (t - s - (e - m) - (m - s)) = t by omega]
  · rw [List.getElem?_eq_none (by rw [Array.length_toList]; omega), List.getElem?_eq_none]
    simp only [List.length_append, List.length_take, List.length_drop, Array.length_toList]
    rw [seg_length d m e h3, seg_length d s m (by omega)]
    omega
theorem rot_stab (hS : SWO lt) {d d' : Array α} {s m e : Nat} (h : RotOk d s m e d') (h1 : s ≤ m) (h2 : m ≤ e) (h3 : e ≤ d.size) (hl : ∀ i j, s ≤ i → i < m → m ≤ j → j < e → lt d[j]! d[i]! = true) : Stab lt d.toList d'.toList := by
  rw [rot_list h h1 h2 h3]
  conv => lhs; rw [seg_four d s m e h1 h2]
  refine (Stab.refl _).app ?_
  rw [← List.append_assoc, ← List.append_assoc]
  refine Stab.app (stab_swap hS fun x hx y hy => ?_) (Stab.refl _)
  obtain ⟨i, i1, i2, rfl⟩ := seg_mem d s m (by omega) hx
  obtain ⟨j, j1, j2, rfl⟩ := seg_mem d m e h3 hy
  exact hl i j i1 i2 j1 j2
/-- Two neighbors change places. -/
theorem swp_rot (d : Array α) (i j : Nat) (hj : j + 1 < d.size) (hi : i = j + 1) : RotOk d j (j + 1) (j + 2) (swp d i j) ∧ RotOk d j (j + 1) (j + 2) (swp d j i) := by
  subst hi
  have e1 : (swp d (j + 1) j)[j]! = d[j + 1]! := swp_right d (j + 1) j (by omega)
  have e2 : (swp d (j + 1) j)[j + 1]! = d[j]! := swp_left d (j + 1) j (by omega) (by omega)
  have e3 : (swp d j (j + 1))[j]! = d[j + 1]! := swp_left d j (j + 1) (by omega) (by omega)
  have e4 : (swp d j (j + 1))[j + 1]! = d[j]! := swp_right d j (j + 1) (by omega)
  have o1 : ∀ t, t ≠ j → t ≠ j + 1 → (swp d (j + 1) j)[t]! = d[t]! := fun t h1 h2 => swp_other d (j + 1) j t h2 h1
  have o2 : ∀ t, t ≠ j → t ≠ j + 1 → (swp d j (j + 1))[t]! = d[t]! := fun t h1 h2 => swp_other d j (j + 1) t h1 h2
  have z1 := size_swp d (j + 1) j
  have z2 := size_swp d j (j + 1)
  generalize swp d (j + 1) j = x at *
  generalize swp d j (j + 1) = y at *
  refine ⟨⟨z1, fun t ht => o1 t (by omega) (by omega), fun t ht => ?_, fun t ht => ?_⟩, z2, fun t ht => o2 t (by omega) (by omega), fun t ht => ?_, fun t ht => ?_⟩
  · rw [show j + t = j by omega, show j + 1 + t = j + 1 by omega, e1]
  · rw [show j + (j + 2 - (j + 1)) + t = j + 1 by omega, show j + t = j by omega, e2]
  · rw [show j + t = j by omega, show j + 1 + t = j + 1 by omega, e3]
  · rw [show j + (j + 2 - (j + 1)) + t = j + 1 by omega, show j + t = j by omega, e4]
/-- Two rows of n places have changed places. -/
def SwpOk (d : Array α) (a b n : Nat) (d' : Array α) : Prop :=
  d'.size = d.size ∧ (∀ t, t < n → d'[a + t]! = d[b + t]! ∧ d'[b + t]! = d[a + t]!) ∧ (∀ t, (t < a ∨ a + n ≤ t) → (t < b ∨ b + n ≤ t) → d'[t]! = d[t]!)
theorem SwpOk.zero (d : Array α) (a b : Nat) : SwpOk d a b 0 d := ⟨rfl, fun t h => absurd h (by omega), fun _ _ _ => rfl⟩
theorem SwpOk.step {d dk : Array α} {a b i : Nat} (h : SwpOk d a b i dk) (n : Nat) (hi : i < n) (hab : a + n ≤ b) (hb : b + n ≤ d.size) : SwpOk d a b (i + 1) (swp dk (a + i) (b + i)) := by
  obtain ⟨hs, h1, h2⟩ := h
  refine ⟨by rw [size_swp, hs], fun t ht => ?_, fun t ha hb' => ?_⟩
  · by_cases e : t = i
    · subst e
      rw [swp_left _ _ _ (by omega) (by omega), swp_right _ _ _ (by omega), h2 (b + t) (by omega) (by omega), h2 (a + t) (by omega) (by omega)]
      exact ⟨rfl, rfl⟩
    · rw [swp_other _ _ _ _ (by omega) (by omega), swp_other _ _ _ _ (by omega) (by omega)]
      exact h1 t (by omega)
  · rw [swp_other _ _ _ _ (by omega) (by omega)]
    exact h2 t (by omega) (by omega)
/-- Behind an exchange of the front with the row behind m. -/
theorem rot_front {d d2 d' : Array α} {s m e i j : Nat} (hi : s + i = m) (he : m + j = e) (hj : j < i) (h : SwpOk d s m j d2) (h' : RotOk d2 (s + j) m e d') : RotOk d s m e d' := by
  obtain ⟨a1, a2, a3⟩ := h
  obtain ⟨b1, b2, b3, b4⟩ := h'
  refine ⟨b1.trans a1, fun t ht => ?_, fun t ht => ?_, fun t ht => ?_⟩
  · rw [b2 t (by omega)]
    exact a3 t (by omega) (by omega)
  · rw [b2 (s + t) (by omega)]
    exact (a2 t (by omega)).1
  · by_cases c : t < j
    · have h3 := b3 t (by omega)
      rw [show s + (e - m) + t = s + j + t by omega, h3]
      exact (a2 t c).2
    · have h4 := b4 (t - j) (by omega)
      rw [show s + (e - m) + t = s + j + (e - m) + (t - j) by omega, h4, show s + j + (t - j) = s + t by omega]
      exact a3 _ (by omega) (by omega)
theorem rot_back {d d2 d' : Array α} {s m e i j : Nat} (hi : s + i = m) (he : m + j = e) (hj : i < j) (h : SwpOk d s (m + j - i) i d2) (h' : RotOk d2 s m (e - i) d') : RotOk d s m e d' := by
  obtain ⟨a1, a2, a3⟩ := h
  obtain ⟨b1, b2, b3, b4⟩ := h'
  refine ⟨b1.trans a1, fun t ht => ?_, fun t ht => ?_, fun t ht => ?_⟩
  · rw [b2 t (by omega)]
    exact a3 t (by omega) (by omega)
  · by_cases c : t < e - i - m
    · rw [b3 t (by omega)]
      exact a3 _ (by omega) (by omega)
    · have h4 := b4 (t - (e - i - m)) (by omega)
      rw [show s + t = s + (e - i - m) + (t - (e - i - m)) by omega, h4]
      rw [(a2 _ (by omega)).1]
      congr 1
      omega
  · rw [b2 _ (by omega), show s + (e - m) + t = m + j - i + t by omega]
    exact (a2 t (by omega)).2
theorem rot_same {d d' : Array α} {s m e i : Nat} (hi : s + i = m) (he : m + i = e) (h : SwpOk d s m i d') : RotOk d s m e d' := by
  obtain ⟨a1, a2, a3⟩ := h
  refine ⟨a1, fun t ht => a3 t (by omega) (by omega), fun t ht => (a2 t (by omega)).1, fun t ht => ?_⟩
  rw [show s + (e - m) + t = m + t by omega]
  exact (a2 t (by omega)).2
/-- Places a to b are permuted among themselves, those of each class let in their order. -/
def Mix (lt : α → α → Bool) (a b : Nat) (d d' : Array α) : Prop := PermIn a b d d' ∧ Stab lt d.toList d'.toList
theorem Mix.refl (a b : Nat) (d : Array α) : Mix lt a b d d := ⟨permIn_refl d a b, Stab.refl _⟩
theorem Mix.trans {a b : Nat} {d d' d'' : Array α} (h : Mix lt a b d d') (h' : Mix lt a b d' d'') : Mix lt a b d d'' := ⟨permIn_trans _ _ _ _ _ h.1 h'.1, h.2.trans h'.2⟩
theorem Mix.wide {a b a' b' : Nat} {d d' : Array α} (h : Mix lt a b d d') (h1 : a' ≤ a) (h2 : b ≤ b') (h3 : b' ≤ d.size) : Mix lt a' b' d d' := ⟨permIn_mono _ _ _ _ _ _ h1 h2 h3 h.1, h.2⟩
theorem Mix.size {a b : Nat} {d d' : Array α} (h : Mix lt a b d d') : d'.size = d.size := h.1.1
theorem Mix.out {a b : Nat} {d d' : Array α} (h : Mix lt a b d d') (t : Nat) (ht : t < a ∨ b ≤ t) : d'[t]! = d[t]! := h.1.2.1 t ht
theorem Mix.all {a b : Nat} {d d' : Array α} (h : Mix lt a b d d') (hb : b ≤ d.size) (p : α → Prop) (hp : ∀ i, a ≤ i → i < b → p d[i]!) : ∀ i, a ≤ i → i < b → p d'[i]! := permIn_all d d' a b p hb h.1 hp
theorem Mix.swp (hS : SWO lt) (d : Array α) {a b i j : Nat} (hi : i = j + 1) (ha : a ≤ j) (hb : i < b) (hsz : b ≤ d.size) (hl : lt d[i]! d[j]! = true) : Mix lt a b d (swp d i j) := by
  refine ⟨swp_permIn d a b i j (by omega) hb ha (by omega) hsz, rot_stab hS (swp_rot d i j (by omega) hi).1 (by omega) (by omega) (by omega) fun i' j' h1 h2 h3 h4 => ?_⟩
  obtain rfl : i' = j := by omega
  obtain rfl : j' = i := by omega
  exact hl
theorem Mix.inner (hS : SWO lt) {a b : Nat} : ∀ (j : Nat) (d : Array α), j < b → b ≤ d.size → Mix lt a b d (insInner lt a j d)
  | 0, d, _, _ => Mix.refl _ _ _
  | j + 1, d, h, hb => by
    unfold insInner
    split
    · rename_i hc
      simp only [Bool.and_eq_true, decide_eq_true_iff] at hc
      have h1 := Mix.swp hS d (a := a) (b := b) (i := j + 1) (j := j) rfl (by omega) h hb hc.2
      exact h1.trans (Mix.inner hS j _ (by omega) (by rw [size_swp]; exact hb))
    · exact Mix.refl _ _ _
theorem Mix.outer (hS : SWO lt) {a b : Nat} (n : Nat) : ∀ (i : Nat) (d : Array α), b - i = n → b ≤ d.size → Mix lt a b d (insOuter lt a b i d) := by
  induction n with
  | zero =>
    intro i d hn hb
    unfold insOuter
    rw [if_neg (by omega)]
    exact Mix.refl _ _ _
  | succ n ih =>
    intro i d hn hb
    unfold insOuter
    rw [if_pos (by omega)]
    have h1 := Mix.inner hS (a := a) (b := b) i d (by omega) hb
    exact h1.trans (ih (i + 1) _ (by omega) (by rw [h1.size]; exact hb))
/-- An insertion sort is stable. -/
theorem mix_ins (hS : SWO lt) (d : Array α) {a b : Nat} (hab : a ≤ b) (hb : b ≤ d.size) : Mix lt a b d (insertionSort lt d a b) ∧ SortedIn lt a b (insertionSort lt d a b) :=
  ⟨Mix.outer hS _ (a + 1) d rfl hb, (insertionSort_holds (lt := lt) hS d a b hab hb).2⟩
theorem ord_of_sorted {d : Array α} (h : SortedIn lt 0 d.size d) : Ord lt d.toList := by
  unfold Ord
  rw [List.pairwise_iff_getElem]
  intro i j hi hj hij
  have := h i j (Nat.zero_le _) hij (by simpa using hj)
  rw [getElem!_pos d i (by simpa using hi), getElem!_pos d j (by simpa using hj)] at this
  simpa using this
end
end Go.Proofs.Ytfdfdmbnggpnbaa
namespace Go.Proofs.Ytfdfdmbnggpnbaa
open Go.RowKit

/-- The cells of block g are just cs, of element type t, none frozen. -/
def Blk (w : World) (g : Nat) (t : TypeId) (cs : Array Value) : Prop := w.heap[g]? = some (.cells cs t (0, 0))

section
variable {w w' : World} {g : Nat} {t : TypeId} {cs : Array Value}
theorem Blk.lt (h : Blk w g t cs) : g < w.heap.size := (Array.getElem?_eq_some_iff.1 h).1
theorem Blk.cell (h : Blk w g t cs) (i : Nat) : w.cell? ⟨g, i, none⟩ = cs[i]? := cell_of_row w g i cs t (0, 0) h
theorem Blk.frozen (h : Blk w g t cs) (i : Nat) : w.frozen? ⟨g, i, none⟩ = false := by
  unfold Blk at h
  simp [World.frozen?, h]
theorem Blk.new (w : World) (t : TypeId) (cs : Array Value) : Blk (w.alloc (.cells cs t)) w.heap.size t cs := heap_alloc_new w _
theorem Blk.drewN (h : Blk w g t cs) (n : Nat) : Blk (w.drewN n) g t cs := h
theorem Blk.drew (h : Blk w g t cs) : Blk w.drew g t cs := h
theorem Blk.alloc (h : Blk w g t cs) (o : Obj) : Blk (w.alloc o) g t cs := (Below.heap_alloc w o g h.lt).trans h
theorem Blk.put (h : Blk w g t cs) (i : Nat) (u : Value) : Blk (w.setCell ⟨g, i, none⟩ u) g t (cs.setIfInBounds i u) := by
  unfold Blk at h ⊢
  simp [World.setCell, Array.getElem?_modify, h]
theorem Blk.far (h : Blk w g t cs) {p : Addr} (hp : g ≠ p.block) (u : Value) : Blk (w.setCell p u) g t cs := (Below.heap_setCell w p u g hp).trans h
theorem Blk.below {B : Nat} (h : Blk w g t cs) (hb : Below B w w') (hg : g < B) : Blk w' g t cs := (hb.block g hg).trans h
end

/-- A slice value '.slice A n c' whose elements are the integers l of kind k; what it leads to lies below block B. -/
def Row (k : IntKind) (w : World) (B : Nat) (A : Option Addr) (n : Nat) (l : List Int) : Prop :=
  l.length = n ∧ (0 < n → ∃ b o, A = some ⟨b, o, none⟩ ∧ b < B ∧ ∀ j, j < n → w.cell? ⟨b, o + j, none⟩ = some (.int k (l.getD j 0)))

section
variable {k : IntKind} {w w' : World} {B B' n : Nat} {A : Option Addr} {l : List Int}
theorem Row.nil : Row k w B A 0 [] := ⟨rfl, fun h => absurd h (by omega)⟩
theorem Row.keep (h : Row k w B A n l) (hk : ∀ p : Addr, p.block < B → w'.cell? p = w.cell? p) : Row k w' B A n l :=
  ⟨h.1, fun hn => by
    obtain ⟨b, o, e, hb, hc⟩ := h.2 hn
    exact ⟨b, o, e, hb, fun j hj => (hk _ hb).trans (hc j hj)⟩⟩
theorem Row.more (h : Row k w B A n l) (hB : B ≤ B') : Row k w B' A n l :=
  ⟨h.1, fun hn => by
    obtain ⟨b, o, e, hb, hc⟩ := h.2 hn
    exact ⟨b, o, e, by omega, hc⟩⟩
theorem Row.below (h : Row k w B A n l) (hb : Below B w w') : Row k w' B A n l := h.keep fun _ hp => hb.cell hp
theorem Row.drewN (h : Row k w B A n l) (m : Nat) : Row k (w.drewN m) B A n l := h
theorem Row.drew (h : Row k w B A n l) : Row k w.drew B A n l := h
theorem Row.far (h : Row k w B A n l) {p : Addr} (hp : ∀ b o, A = some ⟨b, o, none⟩ → b ≠ p.block) (u : Value) : Row k (w.setCell p u) B A n l :=
  ⟨h.1, fun hn => by
    obtain ⟨b, o, e, hb, hc⟩ := h.2 hn
    exact ⟨b, o, e, hb, fun j hj => (World.cell?_setCell_other w p _ u (fun q => by subst q; exact hp b o e rfl)).trans (hc j hj)⟩⟩
theorem Row.alloc (h : Row k w B A n l) (hB : B ≤ w.heap.size) (o : Obj) : Row k (w.alloc o) B A n l := h.keep fun p hp => World.cell?_alloc_lt w o p (by omega)
end

end Go.Proofs.Ytfdfdmbnggpnbaa
namespace Go.Proofs.Ytfdfdmbnggpnbaa

def hold (n : Int) : Int := if n < 1 then 1 else if 4 < n then 4 else n
theorem hold_lo (n : Int) : 1 ≤ hold n := by unfold hold; split <;> (try split) <;> omega
theorem hold_hi (n : Int) : hold n ≤ 4 := by unfold hold; split <;> (try split) <;> omega

/-- Each is a byte. -/
def Byt (l : List Int) : Prop := ∀ x ∈ l, 0 ≤ x ∧ x ≤ 255
theorem Byt.getD {l : List Int} (h : Byt l) (k : Nat) : 0 ≤ l.getD k 0 ∧ l.getD k 0 ≤ 255 := by
  rw [List.getD_eq_getElem?_getD]
  cases hk : l[k]? with
  | none => simp
  | some x => exact h x (List.mem_of_getElem? hk)
theorem Byt.nil : Byt [] := fun _ h => by cases h
theorem Byt.append {a b : List Int} (h : Byt a) (k : Byt b) : Byt (a ++ b) := fun x hx => by
  rcases List.mem_append.1 hx with hx | hx
  · exact h x hx
  · exact k x hx
theorem Byt.take {l : List Int} (h : Byt l) (k : Nat) : Byt (l.take k) := fun x hx => h x (List.mem_of_mem_take hx)
theorem Byt.drop {l : List Int} (h : Byt l) (k : Nat) : Byt (l.drop k) := fun x hx => h x (List.mem_of_mem_drop hx)

theorem Byt.set {l : List Int} (h : Byt l) (k : Nat) {y : Int} (h0 : 0 ≤ y) (h1 : y ≤ 255) : Byt (l.set k y) := fun x hx => by
  rcases List.mem_or_eq_of_mem_set hx with hx | rfl
  · exact h x hx
  · exact ⟨h0, h1⟩

/-- The number that bytes are. -/
def num (l : List Int) : Int := l.foldl (fun n x => 256 * n + x) 0
theorem take_snoc (l : List Int) (k : Nat) (h : k < l.length) : l.take (k + 1) = l.take k ++ [l.getD k 0] := by
  rw [List.take_succ_eq_append_getElem h, List.getD_eq_getElem?_getD, List.getElem?_eq_getElem h]; rfl
/-- Byte j of a number, the lowest being 0: as it stands in a number of 64 bits that goes round. -/
def byteAt (n : Int) (j : Nat) : Int := n / 256 ^ j % 256
/-- A number's lowest w bytes, the highest first. -/
def enc (n : Int) : Nat → List Int
  | 0 => []
  | w + 1 => byteAt n w :: enc n w
/-- All numbers' bytes, one behind the other. -/
def encs (w : Nat) : List Int → List Int
  | [] => []
  | n :: l => enc n w ++ encs w l
/-- Is it a number in m bytes? -/
def fitB (m : Nat) (x : Int) : Bool := decide (0 ≤ x ∧ x < 256 ^ m)
theorem fit_shift (m : Nat) (x U : Int) (h1 : 1 ≤ m) (h4 : m ≤ 4) (hU : U = x % 18446744073709551616) (hlo : -9223372036854775808 ≤ x) (hhi : x ≤ 9223372036854775807) : (U / 2 ^ (8 * m) = 0) ↔ fitB m x = true := by
  unfold fitB
  rw [decide_eq_true_iff]
  subst hU
  match m, h1, h4 with
  | 1, _, _ => simp; omega
  | 2, _, _ => simp; omega
  | 3, _, _ => simp; omega
  | 4, _, _ => simp; omega
theorem all_take_snoc (f : Int → Bool) (l : List Int) (k : Nat) (h : k < l.length) (h1 : (l.take k).all f = true) (h2 : f (l.getD k 0) = true) : (l.take (k + 1)).all f = true := by
  rw [take_snoc l k h, List.all_append, h1, List.all_cons, h2]; rfl
theorem all_false (f : Int → Bool) (l : List Int) (k : Nat) (h : k < l.length) (h2 : f (l.getD k 0) = false) : l.all f = false := by
  rw [List.all_eq_false]
  refine ⟨l.getD k 0, ?_, by rw [h2]; decide⟩
  rw [List.getD_eq_getElem?_getD, List.getElem?_eq_getElem h]
  exact List.getElem_mem h
end Go.Proofs.Ytfdfdmbnggpnbaa
namespace Go.Proofs.Ytfdfdmbnggpnbaa
open Go.RowKit

theorem Try.info5 : (Try.prog.info? 5).map (fun i => (i.zero, i.size, i.bytes)) = some (some (.int .u8 0), 1, 1) := by kernel_rfl

/-- A run of zeros. -/
def zeros (n : Nat) : List Value := List.replicate n (.int .u8 0)

/-- Each is an integer of 64 bits. -/
def I64 (l : List Int) : Prop := ∀ x ∈ l, -9223372036854775808 ≤ x ∧ x ≤ 9223372036854775807
theorem I64.getD {l : List Int} (h : I64 l) (k : Nat) : -9223372036854775808 ≤ l.getD k 0 ∧ l.getD k 0 ≤ 9223372036854775807 := by
  rw [List.getD_eq_getElem?_getD]
  cases hk : l[k]? with
  | none => simp
  | some x => exact h x (List.mem_of_getElem? hk)
theorem ret_bool {a b : Bool} (h : a = b) : Ending.returned (.bool a) = .returned (.bool b) := by rw [h]

theorem own_below {w w' : World} {base : Nat} {v : Value} {n : Nat} {xs : List Value} (h : w.ownsRow base 5 1 v n xs) (hb : Below w.heap.size w w') : w'.ownsRow base 5 1 v n xs :=
  h.kept (row := none) ⟨hb.os, hb.tape, hb.output, hb.size, fun k hk _ => hb.block k hk⟩ (by cases v.ownBlock <;> simp)

theorem Blk.at {w : World} {g : Nat} {t : TypeId} {l : List Int} (h : Blk w g t (l.map (Value.int .u8)).toArray) (k : Nat) (hk : k < l.length) : w.cell? ⟨g, k, none⟩ = some (.int .u8 (l.getD k 0)) := by
  rw [h.cell, List.getElem?_toArray, List.getElem?_map, List.getD_eq_getElem?_getD, List.getElem?_eq_getElem hk]; rfl
theorem Blk.row {w : World} {g : Nat} {t : TypeId} {l : List Int} (h : Blk w g t (l.map (Value.int .u8)).toArray) : Row .u8 w w.heap.size (some ⟨g, 0, none⟩) l.length l :=
  ⟨rfl, fun _ => ⟨g, 0, rfl, h.lt, fun j hj => by rw [Nat.zero_add]; exact h.at j hj⟩⟩
section
variable {w : World} {g : Nat} {t : TypeId} {l : List Int} {rest : List Value} {q : IntKind}
end
/-- A row of the call's own that has elements: its block. -/
theorem own_blk {w : World} {base : Nat} {t : TypeId} {v : Value} {n : Nat} {xs : List Value} (h : w.ownsRow base t 1 v n xs) (hn : 0 < n) : ∃ g c rest, v = .slice (some ⟨g, 0, none⟩) n c ∧ base ≤ g ∧ n ≤ c ∧ Blk w g t (xs ++ rest).toArray := by
  rcases h.2 with ⟨_, h0⟩ | ⟨g, cap, cur, rfl, hg, hh, hc, hm, hs, ht⟩
  · omega
  · refine ⟨g, cap, cur.toList.drop n, rfl, hg, hc, ?_⟩
    rw [Nat.mul_one] at ht
    rw [← ht, List.take_append_drop]
    exact hh
end Go.Proofs.Ytfdfdmbnggpnbaa
namespace Go.Proofs.Ytfdfdmbnggpnbaa

/-- Is n from a to b? -/
def inB (n a b : Int) : Bool := decide (a ≤ n) && decide (n ≤ b)
theorem inB_iff (n a b : Int) : inB n a b = true ↔ a ≤ n ∧ n ≤ b := by simp [inB]

/-- A head. -/
structure Hd where
  age : Int
  kind : Int
  id : Int
  adv : Int
  seq : Int
  sum : Int
  long : Int
/-- A link. -/
structure Lk where
  kind : Int
  id : Int
  data : Int
  cost : Int

/-- May a head be? -/
def headB (h : Hd) : Bool := inB h.age 0 60 && (inB h.kind 1 2 && (inB h.adv 1 15 && inB h.seq (-2147483647) 2147483647))
/-- May a link be? -/
def linkB (k : Lk) : Bool := inB k.kind 2 3 && (inB k.id 0 63 && (inB k.data 0 63 && inB k.cost 1 100))
/-- Do members rise, from above a on, up to 15? -/
def riseB : Int → List Int → Bool
  | _, [] => true
  | a, m :: l => inB m (a + 1) 15 && riseB m l
/-- Is a description of a router right, its head apart? -/
def routerB (h : Hd) (L : List Lk) (M : List Int) : Bool := decide (h.id = h.adv) && (decide (M.length = 0) && (decide (L.length ≤ 4) && L.all linkB))
/-- Is a description of a network right, its head apart? -/
def networkB (h : Hd) (L : List Lk) (M : List Int) : Bool := inB h.id 0 63 && (decide (L.length = 0) && (decide (0 < M.length) && riseB 0 M))
/-- Is a description right? -/
def rightB (h : Hd) (L : List Lk) (M : List Int) : Bool := headB h && (if h.kind = 1 then routerB h L M else networkB h L M)
end Go.Proofs.Ytfdfdmbnggpnbaa
namespace Go.Proofs.Ytfdfdmbnggpnbaa
open Go.RowKit

/-- From place p of block b on there lies the link k. -/
def LkAt (w : World) (b p : Nat) (k : Lk) : Prop :=
  w.cell? ⟨b, p, none⟩ = some (.int .i64 k.kind) ∧ w.cell? ⟨b, p + 1, none⟩ = some (.int .i64 k.id) ∧ w.cell? ⟨b, p + 2, none⟩ = some (.int .i64 k.data) ∧ w.cell? ⟨b, p + 3, none⟩ = some (.int .i64 k.cost)
theorem LkAt.keep {w w' : World} {b p : Nat} {k : Lk} (h : LkAt w b p k) (hk : ∀ q : Addr, q.block = b → w'.cell? q = w.cell? q) : LkAt w' b p k :=
  ⟨(hk _ rfl).trans h.1, (hk _ rfl).trans h.2.1, (hk _ rfl).trans h.2.2.1, (hk _ rfl).trans h.2.2.2⟩

/-- A slice value '.slice A n c' whose elements are the links L; what it leads to lies below block B. -/
def Lnk (w : World) (B : Nat) (A : Option Addr) (n : Nat) (L : List Lk) : Prop :=
  L.length = n ∧ (0 < n → ∃ b o, A = some ⟨b, o, none⟩ ∧ b < B ∧ ∀ j, j < n → LkAt w b (o + j * 4) (L.getD j ⟨0, 0, 0, 0⟩))
section
variable {w w' : World} {B B' n : Nat} {A : Option Addr} {L : List Lk}
theorem Lnk.nil : Lnk w B A 0 [] := ⟨rfl, fun h => absurd h (by omega)⟩
theorem Lnk.keep (h : Lnk w B A n L) (hk : ∀ p : Addr, p.block < B → w'.cell? p = w.cell? p) : Lnk w' B A n L :=
  ⟨h.1, fun hn => by
    obtain ⟨b, o, e, hb, hc⟩ := h.2 hn
    exact ⟨b, o, e, hb, fun j hj => (hc j hj).keep fun q hq => hk q (by omega)⟩⟩
theorem Lnk.more (h : Lnk w B A n L) (hB : B ≤ B') : Lnk w B' A n L :=
  ⟨h.1, fun hn => by
    obtain ⟨b, o, e, hb, hc⟩ := h.2 hn
    exact ⟨b, o, e, by omega, hc⟩⟩
theorem Lnk.below (h : Lnk w B A n L) (hb : Below B w w') : Lnk w' B A n L := h.keep fun _ hp => hb.cell hp
theorem Lnk.drewN (h : Lnk w B A n L) (m : Nat) : Lnk (w.drewN m) B A n L := h
theorem Lnk.alloc (h : Lnk w B A n L) (hB : B ≤ w.heap.size) (o : Obj) : Lnk (w.alloc o) B A n L := h.keep fun p hp => World.cell?_alloc_lt w o p (by omega)
end
end Go.Proofs.Ytfdfdmbnggpnbaa
