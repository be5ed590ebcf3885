/- What a database lacks of a head; Get of one that is not there. Conditions: keys of 64 bits, ages from 0 to 60 where they are compared. -/
import Derived.WalkKit
import Derived.WalkLawsBesides
import Derived.Deep.QuietTactic
import Derived.BigQuiet
import Derived.OpenShut
import Derived.Deep.MidRow
import Derived.Deep.Slices
import Derived.Deep.Fields
import Derived.IntWalk
import Derived.Test.YtjinleakjkbbgaaUr
import Derived.Test.YtjinleakjkbbgaaUk
import Derived.Test.YtjinleakjkbbgaaUm
namespace Go.Proofs.Ytjinleakjkbbgaa
open Go.RowKit Go.Lib Go.Sort Go.Deep

/-- At which place a key stands. -/
def placeK (out : List Hd) (k : Ky) : Option Nat := out.findIdx? fun h => sameKy (keyH h) k
/-- R tells at which place each key of out stands. -/
structure PlOk (out : List Hd) (R : List Pl) : Prop where
  len : R.length = out.length
  at_ : ∀ r ∈ R, ∃ h, out[r.i]? = some h ∧ keyH h = r.k
  of : ∀ i h, out[i]? = some h → ∃ r ∈ R, r.k = keyH h ∧ r.i = i
theorem PlOk.nil : PlOk [] [] := ⟨rfl, fun r hr => (by cases hr), fun i h hi => (by simp at hi)⟩
theorem PlOk.none {out : List Hd} {R : List Pl} (h : PlOk out R) {k : Ky} (hg : getP R k = none) : placeK out k = none ∧ ∀ x ∈ out, keyH x ≠ k := by
  have h1 : ∀ x ∈ out, keyH x ≠ k := fun x hx e => by
    obtain ⟨i, hi⟩ := List.getElem?_of_mem hx
    obtain ⟨r, hr, e1, -⟩ := h.of i x hi
    exact getP_none hg r hr (e1.trans e)
  refine ⟨?_, h1⟩
  unfold placeK
  rw [List.findIdx?_eq_none_iff]
  intro x hx
  cases hs : sameKy (keyH x) k
  · rfl
  · exact absurd ((sameKy_iff _ _).1 hs) (h1 x hx)
theorem PlOk.some {out : List Hd} {R : List Pl} (h : PlOk out R) (hn : R.Pairwise fun r s => r.k ≠ s.k) {k : Ky} {r : Pl} (hg : getP R k = some r) : placeK out k = some r.i ∧ ∃ g, out[r.i]? = some g ∧ keyH g = k := by
  obtain ⟨hr, e⟩ := getP_some hg
  obtain ⟨g, hg1, hg2⟩ := h.at_ r hr
  have hlt := (List.getElem?_eq_some_iff.1 hg1).1
  refine ⟨?_, g, hg1, hg2.trans e⟩
  unfold placeK
  rw [List.findIdx?_eq_some_iff_getElem]
  refine ⟨hlt, ?_, fun j hj => ?_⟩
  · rw [(List.getElem?_eq_some_iff.1 hg1).2, (sameKy_iff _ _).2 (hg2.trans e)]
  · intro hs
    have hjl : j < out.length := by omega
    obtain ⟨r2, hr2, e2, e3⟩ := h.of j out[j] (List.getElem?_eq_getElem hjl)
    have e4 : r2.k = r.k := by rw [e2, (sameKy_iff _ _).1 hs, e]
    have := pw_eq hn r2 hr2 r hr e4
    rw [this] at e3
    omega
theorem PlOk.set {out : List Hd} {R : List Pl} (h : PlOk out R) {i : Nat} {g : Hd} (hi : out[i]? = Option.some g) (x : Hd) (hk : keyH x = keyH g) : PlOk (out.set i x) R := by
  have hlt := (List.getElem?_eq_some_iff.1 hi).1
  refine ⟨by rw [List.length_set]; exact h.len, fun r hr => ?_, fun j y hj => ?_⟩
  · obtain ⟨y, hy1, hy2⟩ := h.at_ r hr
    by_cases e : r.i = i
    · refine ⟨x, by rw [e, List.getElem?_set_self hlt], ?_⟩
      rw [hk, ← hy2]
      rw [e, hi] at hy1
      injection hy1 with hy1
      rw [hy1]
    · exact ⟨y, by rw [List.getElem?_set_ne (Ne.symm e)]; exact hy1, hy2⟩
  · by_cases e : j = i
    · subst e
      rw [List.getElem?_set_self hlt] at hj
      injection hj with hj
      subst hj
      obtain ⟨r, hr, e1, e2⟩ := h.of j g hi
      exact ⟨r, hr, e1.trans hk.symm, e2⟩
    · rw [List.getElem?_set_ne (Ne.symm e)] at hj
      exact h.of j y hj
end Go.Proofs.Ytjinleakjkbbgaa
