/- A wheel's entries, and the document's list of them: plain facts. No conditions. -/
import Derived.Test.YtaghophkfogdgaaVc
import Derived.Test.YtaghophkfogdgaaTm
namespace Go.Proofs.Ytaghophkfogdgaa
open Go.RowKit

/-- The document's list is the wheel's entries, in order. -/
structure Rel (R E : List En) : Prop where
  nd : R.Pairwise fun r s => r.t ≠ s.t
  wf : ∀ e ∈ R, wfTm e.t
  perm : E.Perm R
  sort : E.Pairwise fun a b => lessE a b = true
theorem Rel.nil : Rel [] [] := ⟨List.Pairwise.nil, fun e h => (by cases h), List.Perm.refl _, List.Pairwise.nil⟩
section
variable {R E : List En} {t : Tm} {z : Int}
theorem Rel.wfE (h : Rel R E) : ∀ e ∈ E, wfTm e.t := fun e he => h.wf e (h.perm.mem_iff.1 he)
theorem Rel.len (h : Rel R E) : E.length = R.length := h.perm.length_eq
theorem Rel.filter (h : Rel R E) (f : En → Bool) : Rel (R.filter f) (E.filter f) := ⟨h.nd.filter _, fun e he => h.wf e (List.mem_filter.1 he).1, h.perm.filter _, h.sort.filter _⟩
theorem Rel.cancel (h : Rel R E) (t : Tm) : Rel (restR R t) (cancelE E t) := h.filter _
theorem Rel.later (h : Rel R E) (z : Int) : Rel (laterR R z) (restE E z) := h.filter _
theorem insE_perm (e : En) : ∀ E : List En, (insE e E).Perm (e :: E)
  | [] => List.Perm.refl _
  | x :: E => by
    unfold insE
    split
    · exact List.Perm.refl _
    · exact ((insE_perm e E).cons x).trans (List.Perm.swap e x E)
theorem numsE_inj {a b : En} (h : numsE a = numsE b) : a = b := by
  obtain ⟨at', ⟨a1, a2, a3, a4, a5, a6⟩⟩ := a
  obtain ⟨bt, ⟨b1, b2, b3, b4, b5, b6⟩⟩ := b
  simp [numsE] at h
  simp [h]
theorem lessE_trans {a b c : En} (h1 : lessE a b = true) (h2 : lessE b c = true) : lessE a c = true := lessL_trans _ _ _ h1 h2
theorem lessE_total {a b : En} (h : a ≠ b) (h1 : lessE a b = false) : lessE b a = true := by
  cases h2 : lessE b a
  · exact absurd (numsE_inj (lessL_total (numsE a) (numsE b) rfl h1 h2)) h
  · rfl
theorem insE_sort {e : En} : ∀ {E : List En}, E.Pairwise (fun a b => lessE a b = true) → (∀ x ∈ E, x ≠ e) → (insE e E).Pairwise fun a b => lessE a b = true
  | [], _, _ => List.pairwise_singleton _ _
  | x :: E, hs, hn => by
    obtain ⟨h1, h2⟩ := List.pairwise_cons.1 hs
    unfold insE
    by_cases hx : lessE e x = true
    · rw [if_pos hx]
      refine List.pairwise_cons.2 ⟨fun y hy => ?_, hs⟩
      rcases List.mem_cons.1 hy with rfl | hy
      · exact hx
      · exact lessE_trans hx (h1 y hy)
    · rw [if_neg hx]
      have hxe : lessE x e = true := lessE_total (fun q => hn x (by simp) q.symm) (by simpa using hx)
      refine List.pairwise_cons.2 ⟨fun y hy => ?_, insE_sort h2 (fun y hy => hn y (by simp [hy]))⟩
      rcases List.mem_cons.1 ((insE_perm e E).mem_iff.1 hy) with rfl | hy
      · exact hxe
      · exact h1 y hy
theorem Rel.arm (h : Rel R E) (ht : wfTm t) (z : Int) : Rel (armR z R t) (armE z E t) := by
  have hc := h.cancel t
  refine ⟨List.pairwise_cons.2 ⟨fun s hs => ?_, hc.nd⟩, fun e he => ?_, (insE_perm _ _).trans (hc.perm.cons _), insE_sort hc.sort (fun x hx e => ?_)⟩
  · exact fun q => (mem_restR.1 hs).2 q.symm
  · rcases List.mem_cons.1 he with rfl | he
    · exact ht
    · exact hc.wf e he
  · have := (List.mem_filter.1 hx).2
    rw [e] at this
    simp at this
/-- A timer's entry, if it is armed. -/
theorem getR_mem (hn : R.Pairwise fun r s => r.t ≠ s.t) {e : En} (he : e ∈ R) : getR R e.t = some e := by
  cases hg : getR R e.t with
  | none => exact absurd rfl (getR_none hg e he)
  | some r =>
    obtain ⟨h1, h2⟩ := getR_some hg
    rw [pw_eq (f := fun e : En => e.t) hn r h1 e he h2]
theorem tickOf_mem (hn : R.Pairwise fun r s => r.t ≠ s.t) {e : En} (he : e ∈ R) : tickOf R e.t = e.tick := by
  unfold tickOf
  rw [getR_mem hn he]
  rfl
theorem rest_len (hn : R.Pairwise fun r s => r.t ≠ s.t) (t : Tm) : (restR R t).length + (if (getR R t).isSome = true then 1 else 0) = R.length := by
  induction R with
  | nil => rfl
  | cons e R ih =>
    obtain ⟨h1, h2⟩ := List.pairwise_cons.1 hn
    have ih' := ih h2
    by_cases he : e.t = t
    · have hg : getR (e :: R) t = some e := by
        unfold getR
        rw [List.find?_cons_of_pos (by simpa using he)]
      have hr : restR (e :: R) t = R := by
        unfold restR
        rw [List.filter_cons_of_neg (by simp [he]), List.filter_eq_self]
        intro s hs
        have := h1 s hs
        rw [he] at this
        simp
        exact fun q => this q.symm
      rw [hg, hr]
      rfl
    · have hg : getR (e :: R) t = getR R t := by
        unfold getR
        rw [List.find?_cons_of_neg (by simpa using he)]
      have hr : restR (e :: R) t = e :: restR R t := by
        unfold restR
        rw [List.filter_cons_of_pos (by simp [he])]
      rw [hg, hr, List.length_cons, List.length_cons]
      omega
theorem Rel.count (h : Rel R E) (t : Tm) : (((R.length : Int) - (canAll R [t]).length) == 1) = decide ((cancelE E t).length < E.length) := by
  have h1 := rest_len h.nd t
  have h2 : (canAll R [t]).length = (restR R t).length := rfl
  have h3 : (cancelE E t).length = (restR R t).length := (h.cancel t).len
  rw [h2, h3, h.len]
  split at h1
  · have e1 : (R.length : Int) - (restR R t).length = 1 := by omega
    have e2 : (restR R t).length < R.length := by omega
    rw [e1, decide_eq_true e2]
    rfl
  · have e1 : (R.length : Int) - (restR R t).length = 0 := by omega
    have e2 : ¬ (restR R t).length < R.length := by omega
    rw [e1, decide_eq_false e2]
    rfl
/-- One sorted list of timers there is. -/
theorem sorted_one {R : List En} : ∀ {A B : List Tm}, A.Perm B → A.Pairwise (fun a b => leT R a b = true) → B.Pairwise (fun a b => leT R a b = true) → A = B
  | [], B, hp, _, _ => (List.nil_perm.1 hp).symm
  | a :: A, [], hp, _, _ => absurd hp.length_eq (by simp)
  | a :: A, b :: B, hp, ha, hb => by
    obtain ⟨a1, a2⟩ := List.pairwise_cons.1 ha
    obtain ⟨b1, b2⟩ := List.pairwise_cons.1 hb
    have hab : a = b := by
      rcases List.mem_cons.1 (hp.mem_iff.1 (List.mem_cons_self (a := a) (l := A))) with h | h
      · exact h
      · rcases List.mem_cons.1 (hp.mem_iff.2 (List.mem_cons_self (a := b) (l := B))) with h' | h'
        · exact h'.symm
        · have e1 := a1 b h'
          have e2 := b1 a h
          rw [leT_eq] at e1 e2
          exact keyT_inj (R := R) (lessL_total _ _ rfl (by simpa using e2) (by simpa using e1))
    subst hab
    rw [sorted_one ((List.perm_cons a).1 hp) a2 b2]
theorem Rel.due (h : Rel R E) {D : List Tm} {z : Int} (hD : D.Perm ((R.filter fun e => decide (e.tick ≤ z)).map (·.t))) (hs : D.Pairwise (fun a b => leT R a b = true)) : D = dueE E z := by
  refine sorted_one (R := R) (hD.trans (((h.perm.filter _).map _).symm)) hs ?_
  unfold dueE
  rw [List.pairwise_map]
  refine ((h.filter (fun e => decide (e.tick ≤ z))).sort).imp_of_mem (fun {a b} ha hb hab => ?_)
  have ha' : a ∈ R := h.perm.mem_iff.1 (List.mem_filter.1 ha).1
  have hb' : b ∈ R := h.perm.mem_iff.1 (List.mem_filter.1 hb).1
  rw [leT_eq]
  have e1 : keyT R a.t = numsE a := by unfold keyT numsE; rw [tickOf_mem h.nd ha']
  have e2 : keyT R b.t = numsE b := by unfold keyT numsE; rw [tickOf_mem h.nd hb']
  rw [e1, e2]
  cases h3 : lessL (numsE b) (numsE a)
  · rfl
  · have := lessL_trans _ _ _ h3 hab
    rw [lessL_irrefl] at this
    cases this
theorem dropE_neg (hz : z < 0) : dropE E z = E := by
  unfold dropE
  rw [List.filter_eq_self]
  intro e _
  simp [hz]
theorem Rel.drop (h : Rel R E) (hz : 0 ≤ z) : Rel (dropR R z) (dropE E z) ∧ ((R.length : Int) - (dropR R z).length) = ((E.length : Int) - (dropE E z).length) := by
  have e : dropE E z = E.filter fun e => !decide (e.t.lan = z) := by
    unfold dropE
    refine List.filter_congr (fun x _ => ?_)
    simp
    omega
  have h1 : Rel (dropR R z) (dropE E z) := by
    rw [e]
    exact h.filter _
  exact ⟨h1, by rw [h.len, h1.len]⟩
/-- What At tells of both. -/
theorem Rel.at (h : Rel R E) (t : Tm) : ((getR R t).isSome = false ∧ placeE E t = -1) ∨ ∃ (j : Nat) (e : En), (getR R t).isSome = true ∧ placeE E t = (j : Int) ∧ E[j]? = some e ∧ e.tick = tickOf R t := by
  cases hg : getR R t with
  | none => exact .inl ⟨rfl, placeE_none (fun e he => getR_none hg e (h.perm.mem_iff.1 he))⟩
  | some r =>
    obtain ⟨h1, h2⟩ := getR_some hg
    have hrE : r ∈ E := h.perm.mem_iff.2 h1
    obtain ⟨j, hj⟩ := List.getElem?_of_mem hrE
    refine .inr ⟨j, r, rfl, placeE_at hj h2 (fun m x hm hx e => ?_), hj, ?_⟩
    · have hxR : x ∈ R := h.perm.mem_iff.1 (List.mem_of_getElem? hx)
      have : x = r := pw_eq (f := fun e : En => e.t) h.nd x hxR r h1 (e.trans h2.symm)
      subst this
      have hlt := List.pairwise_iff_getElem.1 h.sort m j (List.getElem?_eq_some_iff.1 hx).1 (List.getElem?_eq_some_iff.1 hj).1 hm
      rw [(List.getElem?_eq_some_iff.1 hx).2, (List.getElem?_eq_some_iff.1 hj).2] at hlt
      unfold lessE at hlt
      rw [lessL_irrefl] at hlt
      cases hlt
    · unfold tickOf
      rw [hg]
      rfl
end
end Go.Proofs.Ytaghophkfogdgaa
