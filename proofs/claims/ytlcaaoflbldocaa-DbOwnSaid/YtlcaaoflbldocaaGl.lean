/- The program's keys: the keys of all that a database holds, in order. Conditions: what the words say. -/
import Derived.Test.YtlcaaoflbldocaaGg
import Derived.Test.YtlcaaoflbldocaaGe
import Derived.Deep.DeepCutAuto
namespace Go.Proofs.Ytlcaaoflbldocaa
open Go.RowKit
open Go.Maps (Keyed)

/-- Keys collected so far. -/
def Coll (D : DataW Value) (left : Lit → Bool) (ks : List Ky) : Prop :=
  (∀ k ∈ ks, wfKy k) ∧ ks.Pairwise (· ≠ ·) ∧ ∀ k, wfKy k → (k ∈ ks ↔ Maps.has D (kyLit k) = true ∧ left (kyLit k) = false)
theorem Coll.start (D : DataW Value) : Coll D (Maps.has D) [] :=
  ⟨fun k h => (by cases h), List.Pairwise.nil, fun k _ => ⟨fun h => (by cases h), fun h => by rw [h.1] at h; exact absurd h.2 (by decide)⟩⟩
theorem Coll.step {D : DataW Value} {left : Lit → Bool} {ks : List Ky} (h : Coll D left ks) {x : Ky} (hx : wfKy x) (hl : left (kyLit x) = true) {y : DataW Value} (hat : ∀ zd, D.atKey (kyLit x) zd = y) :
    Coll D (fun z => left z && !z.sameKey (kyLit x)) (ks ++ [x]) := by
  obtain ⟨h1, h2, h3⟩ := h
  have hh : Maps.has D (kyLit x) = true := Maps.has_true_of_atKey hat
  have hnx : x ∉ ks := fun hm => by
    have := ((h3 x hx).1 hm).2
    rw [hl] at this
    cases this
  refine ⟨fun k hk => ?_, ?_, fun k hk => ?_⟩
  · rcases List.mem_append.1 hk with hk | hk
    · exact h1 k hk
    · rw [List.mem_singleton.1 hk]
      exact hx
  · rw [List.pairwise_append]
    refine ⟨h2, List.pairwise_singleton _ _, fun a ha b hb e => ?_⟩
    rw [List.mem_singleton.1 hb] at e
    exact hnx (e ▸ ha)
  · rw [List.mem_append, List.mem_singleton]
    show k ∈ ks ∨ k = x ↔ _ ∧ (left (kyLit k) && !(kyLit k).sameKey (kyLit x)) = false
    rw [sameKey_ky hk hx]
    constructor
    · rintro (hk' | rfl)
      · obtain ⟨e1, e2⟩ := (h3 k hk).1 hk'
        exact ⟨e1, by rw [e2]; rfl⟩
      · exact ⟨hh, by rw [(sameKy_iff k k).2 rfl, hl]; rfl⟩
    · rintro ⟨e1, e2⟩
      cases hs : sameKy k x
      · rw [hs] at e2
        simp at e2
        exact .inl ((h3 k hk).2 ⟨e1, e2⟩)
      · exact .inr ((sameKy_iff _ _).1 hs)
theorem ky_ext : ∀ {A B : List Ky}, A.Pairwise (fun a b => lessKy a b = true) → B.Pairwise (fun a b => lessKy a b = true) → (∀ x, x ∈ A ↔ x ∈ B) → A = B
  | [], B, _, _, h => by
    cases B with
    | nil => rfl
    | cons y T => exact absurd ((h y).2 (by simp)) (by simp)
  | x :: S, [], _, _, h => absurd ((h x).1 (by simp)) (by simp)
  | x :: S, y :: T, hs, ht, h => by
    obtain ⟨hs1, hs2⟩ := List.pairwise_cons.1 hs
    obtain ⟨ht1, ht2⟩ := List.pairwise_cons.1 ht
    have hxy : x = y := by
      rcases List.mem_cons.1 ((h x).1 (by simp)) with e | hx
      · exact e
      · rcases List.mem_cons.1 ((h y).2 (by simp)) with e | hy
        · exact e.symm
        · have := lessKy_trans (ht1 x hx) (hs1 y hy)
          rw [lessKy_irrefl] at this
          cases this
    subst hxy
    congr 1
    refine ky_ext hs2 ht2 (fun z => ?_)
    constructor
    · intro hz
      rcases List.mem_cons.1 ((h z).1 (by simp [hz])) with e | hz'
      · subst e
        have := hs1 z hz
        rw [lessKy_irrefl] at this
        cases this
      · exact hz'
    · intro hz
      rcases List.mem_cons.1 ((h z).2 (by simp [hz])) with e | hz'
      · subst e
        have := ht1 z hz
        rw [lessKy_irrefl] at this
        cases this
      · exact hz'
/-- What was collected, sorted, is the keys of the database. -/
theorem coll_sorted {ks : List Ky} {S : List La} (hn : ks.Pairwise (· ≠ ·)) (hm : ∀ k, k ∈ ks ↔ k ∈ S.map kyL) (hs : SortL S) : ks.mergeSort leKy = S.map kyL := by
  have hp := List.mergeSort_perm ks leKy
  have h1 : (ks.mergeSort leKy).Pairwise (fun a b => leKy a b = true) := List.pairwise_mergeSort (fun a b c h1 h2 => by
    unfold leKy at *
    simp at *
    cases h : lessKy c a
    · rfl
    · have n1 : ¬ lessKy b a = true := by rw [h1]; decide
      have n2 : ¬ lessKy c b = true := by rw [h2]; decide
      rw [lessKy_iff] at n1 n2 h
      omega) (fun a b => by
    unfold leKy
    cases h : lessKy b a
    · rfl
    · cases h2 : lessKy a b
      · rfl
      · have := lessKy_trans h h2
        rw [lessKy_irrefl] at this
        cases this) ks
  have h2 : (ks.mergeSort leKy).Pairwise (· ≠ ·) := (hp.pairwise_iff (fun {_ _} hne => Ne.symm hne)).2 hn
  refine ky_ext (h1.imp₂ (fun a b e1 e2 => ?_) h2) ?_ (fun k => (hp.mem_iff).trans (hm k))
  · unfold leKy at e1
    simp at e1
    exact lessKy_total e1 (Ne.symm e2)
  · rw [List.pairwise_map]
    exact hs
theorem coll_end {w : World} {b n : Nat} {R : List Rc} {T S : List La} {l : List (Lit × DataW Value)} {left : Lit → Bool} {ks : List Ky} {lo : Nat} (hM : MapIs w b R) (hp : l.Perm (R.map rcE)) (hA : All2 (RcIs w lo) R T) (hT : T.Perm S) (hC : Coll (.map l) left ks) (hl0 : ∀ kl, left kl = false) (hs : SortL S) (hn : ks.length + n ≤ R.length) :
    ks.mergeSort leKy = S.map kyL ∧ ks.length ≤ S.length := by
  obtain ⟨h1, h2, h3⟩ := hC
  have hl : R.length = S.length := hA.1.trans hT.length_eq
  refine ⟨coll_sorted h2 (fun k => ?_) hs, by omega⟩
  have mem : (∃ r ∈ R, keyH r.h = k) ↔ k ∈ S.map kyL := by
    rw [List.mem_map]
    constructor
    · rintro ⟨r, hr, rfl⟩
      obtain ⟨x, hx, hq⟩ := all2_mem hA hr
      exact ⟨x, hT.mem_iff.1 hx, by unfold kyL; rw [hq.1]⟩
    · rintro ⟨x, hx, rfl⟩
      obtain ⟨j, hj⟩ := List.getElem?_of_mem (hT.mem_iff.2 hx)
      obtain ⟨r, hr, hq⟩ := hA.at' hj
      exact ⟨r, List.mem_of_getElem? hr, by unfold kyL; rw [hq.1]⟩
  rw [← mem]
  constructor
  · intro hk
    have hw := h1 k hk
    have hh := ((h3 k hw).1 hk).1
    cases hg : getR R k with
    | none =>
      have := ((map_at hM.1 hM.nodup hp hw).1 .nil hg).2
      rw [hh] at this
      cases this
    | some r => exact ⟨r, getR_some hg⟩
  · rintro ⟨r, hr, rfl⟩
    have hw := hM.1 r hr
    refine (h3 _ hw).2 ⟨?_, hl0 _⟩
    cases hg : getR R (keyH r.h) with
    | none => exact absurd rfl (getR_none hg r hr)
    | some r' => exact ((map_at hM.1 hM.nodup hp hw).2 r' .nil hg).2
end Go.Proofs.Ytlcaaoflbldocaa
