/- What is wanted: heads in the order of their keys, one of a key at most. Plain facts; no program, no conditions. -/
import Derived.Test.YtnnkcgbnhjkahaaJaq
import Derived.Test.YtnnkcgbnhjkahaaJao
namespace Go.Proofs.Ytnnkcgbnhjkahaa

/-- In the order of keys. -/
def SortH (S : List Hd) : Prop := S.Pairwise fun a b => lessKy (keyH a) (keyH b) = true
/-- What is wanted of a key. -/
def getH (S : List Hd) (k : Ky) : Option Hd := S.find? fun r => sameKy (keyH r) k
/-- Those of other keys. -/
def restH (S : List Hd) (k : Ky) : List Hd := S.filter fun s => !sameKy (keyH s) k
/-- A head put in its place. -/
def insH (x : Hd) : List Hd → List Hd
  | [] => [x]
  | y :: S => if lessKy (keyH x) (keyH y) = true then x :: y :: S else y :: insH x S
theorem getH_some {R : List Hd} {k : Ky} {r : Hd} (h : getH R k = some r) : r ∈ R ∧ keyH r = k := by
  unfold getH at h
  exact ⟨List.mem_of_find?_eq_some h, (sameKy_iff _ _).1 (List.find?_some (p := fun r : Hd => sameKy (keyH r) k) h)⟩
theorem getH_none {R : List Hd} {k : Ky} : getH R k = none ↔ ∀ r ∈ R, keyH r ≠ k := by
  unfold getH
  rw [List.find?_eq_none]
  exact ⟨fun h r hr e => h r hr ((sameKy_iff _ _).2 e), fun h r hr e => h r hr ((sameKy_iff _ _).1 e)⟩
theorem mem_restH {R : List Hd} {k : Ky} {s : Hd} : s ∈ restH R k ↔ s ∈ R ∧ keyH s ≠ k := by
  unfold restH
  rw [List.mem_filter]
  have := sameKy_iff (keyH s) k
  simp [← this]
theorem SortH.nodup {S : List Hd} (h : SortH S) : S.Pairwise fun a b => keyH a ≠ keyH b := h.imp fun {a b} h e => by
  rw [e, lessKy_irrefl] at h
  cases h
theorem pw_keyH : ∀ {R : List Hd}, R.Pairwise (fun r s => keyH r ≠ keyH s) → ∀ r ∈ R, ∀ s ∈ R, keyH r = keyH s → r = s
  | x :: R, h, r, hr, s, hs, e => by
    obtain ⟨h1, h2⟩ := List.pairwise_cons.1 h
    rcases List.mem_cons.1 hr with rfl | hr'
    · rcases List.mem_cons.1 hs with rfl | hs'
      · rfl
      · exact absurd e (h1 s hs')
    · rcases List.mem_cons.1 hs with rfl | hs'
      · exact absurd e.symm (h1 r hr')
      · exact pw_keyH h2 r hr' s hs' e
theorem getH_mem {R : List Hd} (hn : R.Pairwise fun r s => keyH r ≠ keyH s) {r : Hd} (hr : r ∈ R) : getH R (keyH r) = some r := by
  cases hg : getH R (keyH r) with
  | none => exact absurd rfl (getH_none.1 hg r hr)
  | some s =>
    obtain ⟨hs, e⟩ := getH_some hg
    rw [pw_keyH hn s hs r hr e]
theorem getH_perm {R S : List Hd} (hp : R.Perm S) (hs : SortH S) (k : Ky) : getH R k = getH S k := by
  have hn := (hp.pairwise_iff (R := fun r s => keyH r ≠ keyH s) (fun {_ _} hne => Ne.symm hne)).2 hs.nodup
  cases hg : getH S k with
  | none => exact getH_none.2 fun r hr => getH_none.1 hg r (hp.mem_iff.1 hr)
  | some s =>
    obtain ⟨hm, rfl⟩ := getH_some hg
    exact getH_mem hn (hp.mem_iff.2 hm)
theorem insH_perm (x : Hd) : ∀ S : List Hd, (insH x S).Perm (x :: S)
  | [] => List.Perm.refl _
  | y :: S => by
    unfold insH
    split
    · exact List.Perm.refl _
    · exact ((insH_perm x S).cons y).trans (List.Perm.swap x y S)
theorem mem_insH {x y : Hd} {S : List Hd} : y ∈ insH x S ↔ y = x ∨ y ∈ S := by
  rw [(insH_perm x S).mem_iff, List.mem_cons]
theorem sort_insH {x : Hd} : ∀ {S : List Hd}, SortH S → (∀ y ∈ S, keyH y ≠ keyH x) → SortH (insH x S)
  | [], _, _ => List.pairwise_singleton _ _
  | y :: S, hs, hn => by
    obtain ⟨h1, h2⟩ := List.pairwise_cons.1 hs
    unfold insH
    split
    · rename_i hl
      refine List.pairwise_cons.2 ⟨fun z hz => ?_, hs⟩
      rcases List.mem_cons.1 hz with rfl | hz
      · exact hl
      · exact lessKy_trans hl (h1 z hz)
    · rename_i hl
      have hl' : lessKy (keyH x) (keyH y) = false := by
        cases h : lessKy (keyH x) (keyH y)
        · rfl
        · exact absurd h hl
      refine List.pairwise_cons.2 ⟨fun z hz => ?_, sort_insH h2 fun z hz => hn z (List.mem_cons_of_mem _ hz)⟩
      rcases mem_insH.1 hz with rfl | hz
      · exact lessKy_total hl' (Ne.symm (hn y List.mem_cons_self))
      · exact h1 z hz
theorem sort_restH {S : List Hd} (h : SortH S) (k : Ky) : SortH (restH S k) := h.filter _
theorem sortH_ext : ∀ {S T : List Hd}, SortH S → SortH T → (∀ x, x ∈ S ↔ x ∈ T) → S = T
  | [], T, _, _, h => by
    cases T with
    | nil => rfl
    | cons y T => exact absurd ((h y).2 (by simp)) (by simp)
  | x :: S, [], _, _, h => absurd ((h x).1 (by simp)) (by simp)
  | x :: S, y :: T, hs, ht, h => by
    obtain ⟨hs1, hs2⟩ := List.pairwise_cons.1 hs
    obtain ⟨ht1, ht2⟩ := List.pairwise_cons.1 ht
    have hxy : x = y := by
      rcases List.mem_cons.1 ((h x).1 (by simp)) with e | hx
      · exact e
      · rcases List.mem_cons.1 ((h y).2 (by simp)) with e | hy
        · exact e.symm
        · have := lessKy_trans (ht1 x hx) (hs1 y hy)
          rw [lessKy_irrefl] at this
          cases this
    subst hxy
    congr 1
    refine sortH_ext hs2 ht2 (fun z => ?_)
    constructor
    · intro hz
      rcases List.mem_cons.1 ((h z).1 (by simp [hz])) with e | hz'
      · subst e
        have := hs1 z hz
        rw [lessKy_irrefl] at this
        cases this
      · exact hz'
    · intro hz
      rcases List.mem_cons.1 ((h z).2 (by simp [hz])) with e | hz'
      · subst e
        have := ht1 z hz
        rw [lessKy_irrefl] at this
        cases this
      · exact hz'
theorem sortH_perm {S T : List Hd} (hs : SortH S) (ht : SortH T) (hp : S.Perm T) : S = T := sortH_ext hs ht fun _ => hp.mem_iff
/-- One head more. -/
def addH (S : List Hd) (h : Hd) : List Hd := match getH S (keyH h) with
  | none => insH h S
  | some y => if 0 < nw h y then insH h (restH S (keyH h)) else S
def addsH (S L : List Hd) : List Hd := L.foldl addH S
theorem addsH_snoc (S L : List Hd) (h : Hd) : addsH S (L ++ [h]) = addH (addsH S L) h := by
  unfold addsH
  rw [List.foldl_append]
  rfl
/-- What Take answers, and what is left. -/
def takeE (S : List Hd) (h : Hd) : Int := match getH S (keyH h) with
  | none => 6
  | some y => if 0 < nw y h then 8 else 0
def takeS (S : List Hd) (h : Hd) : List Hd := match getH S (keyH h) with
  | none => S
  | some y => if 0 < nw y h then S else restH S (keyH h)
theorem rest_none {S : List Hd} {k : Ky} (h : getH S k = none) : restH S k = S := by
  unfold restH
  rw [List.filter_eq_self]
  intro s hs
  cases e : sameKy (keyH s) k
  · rfl
  · exact absurd ((sameKy_iff _ _).1 e) (getH_none.1 h s hs)
theorem restH_perm {R S : List Hd} (h : R.Perm S) (k : Ky) : (restH R k).Perm (restH S k) := h.filter _
theorem insH_rest_sort {S : List Hd} (hs : SortH S) (h : Hd) : SortH (insH h (restH S (keyH h))) := sort_insH (sort_restH hs _) fun _ hy => (mem_restH.1 hy).2
theorem addH_cases (S : List Hd) (h : Hd) : (addH S h = insH h (restH S (keyH h)) ∧ (∀ y, getH S (keyH h) = some y → 0 < nw h y)) ∨ (addH S h = S ∧ ∃ y, getH S (keyH h) = some y ∧ ¬ 0 < nw h y) := by
  unfold addH
  cases hg : getH S (keyH h) with
  | none => exact .inl ⟨by rw [rest_none hg], fun y hy => by cases hy⟩
  | some y =>
    dsimp only
    split
    · rename_i hn
      exact .inl ⟨rfl, fun z hz => by injection hz with hz; rw [← hz]; exact hn⟩
    · rename_i hn
      exact .inr ⟨rfl, y, rfl, hn⟩
theorem sort_addH {S : List Hd} (hs : SortH S) (h : Hd) : SortH (addH S h) := by
  rcases addH_cases S h with ⟨e, -⟩ | ⟨e, -⟩
  · rw [e]
    exact insH_rest_sort hs h
  · rw [e]
    exact hs
theorem sort_addsH {S : List Hd} (hs : SortH S) : ∀ L : List Hd, SortH (addsH S L) := fun L => by
  unfold addsH
  induction L generalizing S with
  | nil => exact hs
  | cons x L ih => exact ih (sort_addH hs x)
theorem mem_addH {S : List Hd} {h x : Hd} (hx : x ∈ addH S h) : x ∈ S ∨ x = h := by
  rcases addH_cases S h with ⟨e, -⟩ | ⟨e, -⟩
  · rw [e] at hx
    rcases mem_insH.1 hx with e | hx
    · exact .inr e
    · exact .inl (mem_restH.1 hx).1
  · rw [e] at hx
    exact .inl hx
theorem mem_addsH {S : List Hd} {x : Hd} : ∀ {L : List Hd}, x ∈ addsH S L → x ∈ S ∨ x ∈ L := fun {L} hx => by
  unfold addsH at hx
  induction L generalizing S with
  | nil => exact .inl hx
  | cons y L ih =>
    rcases ih hx with h | h
    · rcases mem_addH h with h | rfl
      · exact .inl h
      · exact .inr List.mem_cons_self
    · exact .inr (List.mem_cons_of_mem _ h)
theorem len_restH (S : List Hd) (k : Ky) : (restH S k).length ≤ S.length := List.length_filter_le _ _
theorem len_addH (S : List Hd) (h : Hd) : (addH S h).length ≤ S.length + 1 := by
  rcases addH_cases S h with ⟨e, -⟩ | ⟨e, -⟩
  · rw [e, (insH_perm _ _).length_eq, List.length_cons]
    have := len_restH S (keyH h)
    omega
  · rw [e]
    omega
theorem len_addsH (S L : List Hd) : (addsH S L).length ≤ S.length + L.length := by
  unfold addsH
  induction L generalizing S with
  | nil => exact Nat.le_refl _
  | cons x L ih =>
    have h1 := ih (addH S x)
    have h2 := len_addH S x
    rw [List.foldl_cons, List.length_cons]
    omega
theorem takeS_cases (S : List Hd) (h : Hd) : (takeE S h = 0 ∧ takeS S h = restH S (keyH h) ∧ ∃ y, getH S (keyH h) = some y ∧ ¬ 0 < nw y h) ∨ (takeE S h = 8 ∧ takeS S h = S ∧ ∃ y, getH S (keyH h) = some y ∧ 0 < nw y h) ∨ (takeE S h = 6 ∧ takeS S h = S ∧ getH S (keyH h) = none) := by
  unfold takeE takeS
  cases hg : getH S (keyH h) with
  | none => exact .inr (.inr ⟨rfl, rfl, rfl⟩)
  | some y =>
    dsimp only
    by_cases hn : 0 < nw y h
    · rw [if_pos hn, if_pos hn]
      exact .inr (.inl ⟨rfl, rfl, y, rfl, hn⟩)
    · rw [if_neg hn, if_neg hn]
      exact .inl ⟨rfl, rfl, y, rfl, hn⟩
theorem sort_takeS {S : List Hd} (hs : SortH S) (h : Hd) : SortH (takeS S h) := by
  rcases takeS_cases S h with ⟨-, e, -⟩ | ⟨-, e, -⟩ | ⟨-, e, -⟩
  · rw [e]
    exact sort_restH hs _
  · rw [e]
    exact hs
  · rw [e]
    exact hs
theorem mem_takeS {S : List Hd} {h x : Hd} (hx : x ∈ takeS S h) : x ∈ S := by
  rcases takeS_cases S h with ⟨-, e, -⟩ | ⟨-, e, -⟩ | ⟨-, e, -⟩
  · rw [e] at hx
    exact (mem_restH.1 hx).1
  · rwa [e] at hx
  · rwa [e] at hx
theorem len_takeS (S : List Hd) (h : Hd) : (takeS S h).length ≤ S.length := by
  rcases takeS_cases S h with ⟨-, e, -⟩ | ⟨-, e, -⟩ | ⟨-, e, -⟩
  · rw [e]
    exact len_restH _ _
  · rw [e]
    exact Nat.le_refl _
  · rw [e]
    exact Nat.le_refl _
/-- The reference's: one written over at its place. -/
theorem set_addH {S : List Hd} (hs : SortH S) {i : Nat} {y h : Hd} (hi : S[i]? = some y) (hk : keyH y = keyH h) : S.set i h = insH h (restH S (keyH h)) := by
  have hlt := (List.getElem?_eq_some_iff.1 hi).1
  have hsk : (S.set i h).map keyH = S.map keyH := by
    rw [List.map_set]
    apply List.ext_getElem?
    intro j
    by_cases e : i = j
    · subst e
      rw [List.getElem?_set_self (by simpa using hlt), List.getElem?_map, hi, Option.map_some, hk]
    · rw [List.getElem?_set_ne e]
  have hsort : SortH (S.set i h) := by
    have h1 : (S.map keyH).Pairwise fun a b => lessKy a b = true := List.pairwise_map.2 hs
    rw [← hsk] at h1
    exact List.pairwise_map.1 h1
  refine sortH_ext hsort (insH_rest_sort hs h) fun x => ?_
  rw [mem_insH, mem_restH]
  constructor
  · intro hx
    obtain ⟨j, hj⟩ := List.getElem?_of_mem hx
    by_cases e : i = j
    · subst e
      rw [List.getElem?_set_self hlt] at hj
      injection hj with hj
      exact .inl hj.symm
    · rw [List.getElem?_set_ne e] at hj
      refine .inr ⟨List.mem_of_getElem? hj, fun ek => e ?_⟩
      have e2 := pw_keyH hs.nodup x (List.mem_of_getElem? hj) y (List.mem_of_getElem? hi) (ek.trans hk.symm)
      subst e2
      obtain ⟨hjl, hje⟩ := List.getElem?_eq_some_iff.1 hj
      obtain ⟨hil, hie⟩ := List.getElem?_eq_some_iff.1 hi
      have hnd : S.Pairwise (· ≠ ·) := hs.nodup.imp fun {a b} hne e => hne (by rw [e])
      rcases Nat.lt_trichotomy i j with h3 | h3 | h3
      · exact absurd (hie.trans hje.symm) (List.pairwise_iff_getElem.1 hnd i j hil hjl h3)
      · exact h3
      · exact absurd (hje.trans hie.symm) (List.pairwise_iff_getElem.1 hnd j i hjl hil h3)
  · rintro (rfl | ⟨hx, hne⟩)
    · exact List.mem_of_getElem? (List.getElem?_set_self hlt)
    · obtain ⟨j, hj⟩ := List.getElem?_of_mem hx
      have e : i ≠ j := fun e => by
        subst e
        rw [hi] at hj
        injection hj with hj
        subst hj
        exact hne hk
      exact List.mem_of_getElem? (by rw [List.getElem?_set_ne e]; exact hj)
/-- The reference's: items gone through, one put ahead of the first greater one. -/
def insD (h : Hd) (S : List Hd) : List Hd × Bool := S.foldl (fun s y => if s.2 = false ∧ lessKy (keyH h) (keyH y) = true then (s.1 ++ [h] ++ [y], true) else (s.1 ++ [y], s.2)) ([], false)
theorem insD_snoc (h : Hd) (S : List Hd) (y : Hd) : insD h (S ++ [y]) = if (insD h S).2 = false ∧ lessKy (keyH h) (keyH y) = true then ((insD h S).1 ++ [h] ++ [y], true) else ((insD h S).1 ++ [y], (insD h S).2) := by
  unfold insD
  rw [List.foldl_append]
  rfl
theorem insH_snoc (h y : Hd) : ∀ S : List Hd, insH h (S ++ [y]) = if (S.any fun z => lessKy (keyH h) (keyH z)) = true then insH h S ++ [y] else if lessKy (keyH h) (keyH y) = true then S ++ [h] ++ [y] else S ++ [y] ++ [h]
  | [] => by simp [insH]
  | z :: S => by
    rw [List.cons_append, insH, insH_snoc h y S]
    by_cases hz : lessKy (keyH h) (keyH z) = true
    · simp [hz, insH]
    · by_cases ha : (S.any fun z => lessKy (keyH h) (keyH z)) = true
      · simp [hz, ha, insH]
      · by_cases hy : lessKy (keyH h) (keyH y) = true
        · simp [hz, ha, hy]
        · simp [hz, ha, hy]
theorem insH_none {h : Hd} : ∀ {S : List Hd}, (S.any fun z => lessKy (keyH h) (keyH z)) = false → insH h S = S ++ [h]
  | [], _ => rfl
  | z :: S, ha => by
    rw [List.any_cons, Bool.or_eq_false_iff] at ha
    rw [insH, if_neg (by rw [ha.1]; decide), insH_none ha.2]
    rfl
theorem insD_is (h : Hd) (S : List Hd) : insD h S = if (S.any fun z => lessKy (keyH h) (keyH z)) = true then (insH h S, true) else (S, false) := by
  have key : ∀ n, ∀ S : List Hd, S.length = n → insD h S = if (S.any fun z => lessKy (keyH h) (keyH z)) = true then (insH h S, true) else (S, false) := by
    intro n
    induction n with
    | zero =>
      intro S hl
      obtain rfl := List.eq_nil_of_length_eq_zero hl
      rfl
    | succ n ih =>
      intro S hl
      obtain ⟨T, y, rfl⟩ : ∃ T y, S = T ++ [y] := ⟨S.dropLast, S.getLast (by intro e; rw [e] at hl; cases hl), (List.dropLast_concat_getLast _).symm⟩
      rw [List.length_append, List.length_singleton] at hl
      rw [insD_snoc, ih T (by omega), insH_snoc, List.any_append]
      cases ha : (T.any fun z => lessKy (keyH h) (keyH z)) <;> cases hy : lessKy (keyH h) (keyH y) <;> simp [hy]
  exact key _ S rfl
theorem insD_end (h : Hd) (S : List Hd) : (if (insD h S).2 = true then (insD h S).1 else (insD h S).1 ++ [h]) = insH h S := by
  rw [insD_is]
  cases ha : (S.any fun z => lessKy (keyH h) (keyH z))
  · simp [insH_none ha]
  · simp
/-- At which place a key stands. -/
def placeH (S : List Hd) (k : Ky) : Option Nat := S.findIdx? fun h => sameKy (keyH h) k
theorem placeH_get {S : List Hd} {k : Ky} : (placeH S k = none ∧ getH S k = none) ∨ ∃ i y, placeH S k = some i ∧ S[i]? = some y ∧ getH S k = some y := by
  unfold placeH getH
  cases h : S.findIdx? (fun h => sameKy (keyH h) k) with
  | none =>
    refine .inl ⟨rfl, ?_⟩
    rw [List.find?_eq_none]
    rw [List.findIdx?_eq_none_iff] at h
    intro x hx e
    rw [h x hx] at e
    cases e
  | some i =>
    rw [List.findIdx?_eq_some_iff_getElem] at h
    obtain ⟨hl, h1, h2⟩ := h
    refine .inr ⟨i, S[i], rfl, List.getElem?_eq_getElem hl, ?_⟩
    rw [List.find?_eq_some_iff_getElem]
    exact ⟨h1, i, hl, rfl, fun j hj => by simpa using h2 j hj⟩
/-- The reference's: all but the one at a place. -/
theorem erase_restH {S : List Hd} (hs : SortH S) {i : Nat} {y : Hd} (hi : S[i]? = some y) : S.eraseIdx i = restH S (keyH y) := by
  have hlt := (List.getElem?_eq_some_iff.1 hi).1
  refine sortH_ext (List.Pairwise.sublist (List.eraseIdx_sublist _ _) hs) (sort_restH hs _) fun x => ?_
  rw [mem_restH, List.mem_eraseIdx_iff_getElem?]
  constructor
  · rintro ⟨j, hne, hj⟩
    refine ⟨List.mem_of_getElem? hj, fun ek => hne ?_⟩
    have e2 := pw_keyH hs.nodup x (List.mem_of_getElem? hj) y (List.mem_of_getElem? hi) ek
    subst e2
    obtain ⟨hjl, hje⟩ := List.getElem?_eq_some_iff.1 hj
    obtain ⟨hil, hie⟩ := List.getElem?_eq_some_iff.1 hi
    have hnd : S.Pairwise (· ≠ ·) := hs.nodup.imp fun {a b} hne e => hne (by rw [e])
    rcases Nat.lt_trichotomy i j with h3 | h3 | h3
    · exact absurd (hie.trans hje.symm) (List.pairwise_iff_getElem.1 hnd i j hil hjl h3)
    · exact h3.symm
    · exact absurd (hje.trans hie.symm) (List.pairwise_iff_getElem.1 hnd j i hjl hil h3)
  · rintro ⟨hx, hne⟩
    obtain ⟨j, hj⟩ := List.getElem?_of_mem hx
    refine ⟨j, fun e => ?_, hj⟩
    subst e
    rw [hi] at hj
    injection hj with hj
    subst hj
    exact hne rfl
end Go.Proofs.Ytnnkcgbnhjkahaa
