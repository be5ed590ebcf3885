/- Elections, over any way of finding the best one: no model. -/
namespace Go.Proofs.Ytedlkoecnnmihaa
/-- B finds the best one of those that may be and answer a question; 0 if there is none. -/
structure BestOf (el : Int → Prop) (bt : Int → Int → Prop) (B : (Int → Bool) → Int) : Prop where
  pos : ∀ i, el i → i ≠ 0
  no : ∀ q, B q = 0 → ∀ i, el i → q i = false
  so : ∀ q, B q ≠ 0 → el (B q) ∧ q (B q) = true ∧ ∀ i, el i → q i = true → i = B q ∨ bt (B q) i
  asym : ∀ i j, bt i j → ¬ bt j i
section
variable {el : Int → Prop} {bt : Int → Int → Prop} {B : (Int → Bool) → Int}
theorem BestOf.none (h : BestOf el bt B) {q : Int → Bool} (ha : ∀ i, el i → q i = false) : B q = 0 := by
  apply Classical.byContradiction
  intro hn
  obtain ⟨h1, h2, _⟩ := h.so q hn
  rw [ha _ h1] at h2
  cases h2
theorem BestOf.is (h : BestOf el bt B) {q : Int → Bool} {x : Int} (hx : el x) (hq : q x = true) (ha : ∀ i, el i → q i = true → i = x ∨ bt x i) : B q = x := by
  have hn : B q ≠ 0 := fun e => by
    have := h.no q e x hx
    rw [hq] at this
    cases this
  obtain ⟨h1, h2, h3⟩ := h.so q hn
  rcases h3 x hx hq with e | e
  · exact e.symm
  · rcases ha _ h1 h2 with e' | e'
    · exact e'
    · exact absurd e (h.asym _ _ e')
theorem BestOf.one (h : BestOf el bt B) {q : Int → Bool} {x : Int} (hx : el x) (hq : q x = true) (ha : ∀ i, el i → q i = true → i = x) : B q = x := h.is hx hq fun i h1 h2 => Or.inl (ha i h1 h2)
theorem BestOf.ext (h : BestOf el bt B) {q q' : Int → Bool} (ha : ∀ i, el i → q i = q' i) : B q = B q' := by
  by_cases hn : B q' = 0
  · rw [hn]
    exact h.none fun i hi => by rw [ha i hi]; exact h.no _ hn i hi
  · obtain ⟨h1, h2, h3⟩ := h.so q' hn
    exact h.is h1 (by rw [ha _ h1]; exact h2) fun i hi hq => h3 i hi (by rw [← ha i hi]; exact hq)
/-- One that isn't the best one may be left out. -/
theorem BestOf.less (h : BestOf el bt B) {q q' : Int → Bool} {m : Int} (hm : m ≠ B q) (ha : ∀ i, el i → i ≠ m → q' i = q i) (hq : q' m = false) : B q' = B q := by
  by_cases hn : B q = 0
  · rw [hn]
    refine h.none fun i hi => ?_
    by_cases e : i = m
    · rw [e]; exact hq
    · rw [ha i hi e]; exact h.no _ hn i hi
  · obtain ⟨h1, h2, h3⟩ := h.so q hn
    refine h.is h1 (by rw [ha _ h1 (Ne.symm hm)]; exact h2) fun i hi hqi => ?_
    by_cases e : i = m
    · rw [e, hq] at hqi; cases hqi
    · exact h3 i hi (by rw [← ha i hi e]; exact hqi)
end
/-- One go: who claims to be designated, who to be the backup. -/
def goE (B : (Int → Bool) → Int) (dr bdr : Int → Int) : Int × Int :=
  let b1 := B fun i => !(dr i == i) && bdr i == i
  let b := if b1 = 0 then B fun i => !(dr i == i) else b1
  let d := B fun i => dr i == i
  (if d = 0 then b else d, b)
def setE (f : Int → Int) (m v : Int) : Int → Int := fun i => if i = m then v else f i
/-- The election by me. -/
def elE (B : (Int → Bool) → Int) (me : Int) (dr bdr : Int → Int) : Int × Int :=
  let t := goE B dr bdr
  if (((t.1 == me) != (dr me == me)) || ((t.2 == me) != (bdr me == me))) = true then
    goE B (setE dr me (if t.1 = me then me else 0)) (setE bdr me (if t.1 = me then 0 else if t.2 = me then me else 0))
  else t
section
variable {el mem : Int → Prop} {bt : Int → Int → Prop} {B : (Int → Bool) → Int} {dr bdr : Int → Int}
theorem go_eq {d b1 b2 : Int} (h1 : B (fun i => dr i == i) = d) (h2 : B (fun i => !(dr i == i) && bdr i == i) = b1) (h3 : b1 = 0 → B (fun i => !(dr i == i)) = b2) :
    goE B dr bdr = (if d = 0 then (if b1 = 0 then b2 else b1) else d, if b1 = 0 then b2 else b1) := by
  unfold goE
  simp only [h1, h2]
  by_cases e : b1 = 0
  · rw [if_pos e, if_pos e, h3 e]
  · rw [if_neg e, if_neg e]
/-- What stands, stands. -/
theorem el_stands (h : BestOf el bt B) (d b : Int) (hd : el d) (hb : (b = 0 ∧ ∀ i, el i → i = d) ∨ (el b ∧ b ≠ d)) (hc : ∀ i, el i → dr i = d ∧ bdr i = b) (me : Int) (hm : dr me = d ∧ bdr me = b) : elE B me dr bdr = (d, b) := by
  have h0 := h.pos d hd
  have g1 : B (fun i => dr i == i) = d := h.one hd (by simp [(hc d hd).1]) fun i hi hq => by
    rw [(hc i hi).1] at hq
    exact (eq_of_beq hq).symm
  have hg : goE B dr bdr = (d, b) := by
    rcases hb with ⟨rfl, hb⟩ | ⟨hb, hne⟩
    · have g2 : B (fun i => !(dr i == i) && bdr i == i) = 0 := h.none fun i hi => by
        rw [hb i hi]
        simp [(hc d hd).1]
      have g3 : B (fun i => !(dr i == i)) = 0 := h.none fun i hi => by
        rw [hb i hi]
        simp [(hc d hd).1]
      rw [go_eq g1 g2 (fun _ => g3)]
      simp [h0]
    · have g2 : B (fun i => !(dr i == i) && bdr i == i) = b := h.one hb (by simp [(hc b hb).1, (hc b hb).2, Ne.symm hne]) fun i hi hq => by
        rw [(hc i hi).2] at hq
        simp at hq
        exact hq.2.symm
      rw [go_eq (b2 := b) g1 g2 (fun e => absurd e (h.pos b hb))]
      simp [h0, h.pos b hb]
  unfold elE
  simp only [hg, hm.1, hm.2]
  simp
/-- If none may be elected, none is. -/
theorem el_none (h : BestOf el bt B) (he : ∀ i, ¬ el i) (dr bdr : Int → Int) (me : Int) : elE B me dr bdr = (0, 0) := by
  have z : ∀ q, B q = 0 := fun q => h.none fun i hi => absurd hi (he i)
  have hg : ∀ f g, goE B f g = (0, 0) := fun f g => by
    unfold goE
    simp [z]
  unfold elE
  simp only [hg]
  split <;> rfl
end
end Go.Proofs.Ytedlkoecnnmihaa
