/- Who may be elected; who elects again. Over any way of finding the best one: no model. -/
import Derived.Test.YtedlkoecnnmihaaEc
namespace Go.Proofs.Ytedlkoecnnmihaa
section
variable {el mem : Int → Prop} {bt : Int → Int → Prop} {B : (Int → Bool) → Int} {dr bdr : Int → Int}
theorem go_may (h : BestOf el bt B) (dr bdr : Int → Int) : ((goE B dr bdr).1 ≠ 0 → el (goE B dr bdr).1) ∧ ((goE B dr bdr).2 ≠ 0 → el (goE B dr bdr).2) ∧ ((∃ i, el i) → (goE B dr bdr).1 ≠ 0) := by
  obtain ⟨d, hd⟩ : ∃ d, B (fun i => dr i == i) = d := ⟨_, rfl⟩
  obtain ⟨b1, hb⟩ : ∃ b, B (fun i => !(dr i == i) && bdr i == i) = b := ⟨_, rfl⟩
  obtain ⟨n, hn⟩ : ∃ n, B (fun i => !(dr i == i)) = n := ⟨_, rfl⟩
  have k : ∀ q x, B q = x → x ≠ 0 → el x := fun q x e e0 => by
    have := (h.so q (by rw [e]; exact e0)).1
    rwa [e] at this
  have hb' : ∀ x, (if b1 = 0 then n else b1) = x → x ≠ 0 → el x := fun x e e0 => by
    by_cases e1 : b1 = 0
    · rw [if_pos e1] at e
      exact k _ _ (hn.trans e) e0
    · rw [if_neg e1] at e
      exact k _ _ (hb.trans e) e0
  rw [go_eq hd hb (fun _ => hn)]
  refine ⟨fun e0 => ?_, fun e0 => hb' _ rfl e0, fun ⟨i, hi⟩ => ?_⟩
  · by_cases e : d = 0
    · simp only [if_pos e] at e0 ⊢
      exact hb' _ rfl e0
    · simp only [if_neg e]
      exact k _ _ hd e
  · by_cases e : d = 0
    · simp only [if_pos e]
      by_cases e1 : b1 = 0
      · rw [if_pos e1]
        intro n0
        have h1 := h.no _ (hn.trans n0) i hi
        have h2 := h.no _ (hd.trans e) i hi
        rw [h2] at h1
        cases h1
      · rw [if_neg e1]
        exact e1
    · simp only [if_neg e]
      exact e
/-- Who is elected may be; one is, if some may be. -/
theorem el_may (h : BestOf el bt B) (me : Int) (dr bdr : Int → Int) : ((elE B me dr bdr).1 ≠ 0 → el (elE B me dr bdr).1) ∧ ((elE B me dr bdr).2 ≠ 0 → el (elE B me dr bdr).2) ∧ ((∃ i, el i) → (elE B me dr bdr).1 ≠ 0) := by
  unfold elE
  simp only []
  split
  · exact go_may h _ _
  · exact go_may h _ _
/-- A go hangs on who claims what alone. -/
theorem go_ext (h : BestOf el bt B) {dr' bdr' : Int → Int} (h1 : ∀ i, el i → (dr' i == i) = (dr i == i)) (h2 : ∀ i, el i → (!(dr i == i) && bdr' i == i) = (!(dr i == i) && bdr i == i)) : goE B dr' bdr' = goE B dr bdr := by
  have a1 : B (fun i => dr' i == i) = B (fun i => dr i == i) := h.ext h1
  have a2 : B (fun i => !(dr' i == i) && bdr' i == i) = B (fun i => !(dr i == i) && bdr i == i) := h.ext fun i hi => by rw [h1 i hi]; exact h2 i hi
  have a3 : B (fun i => !(dr' i == i)) = B (fun i => !(dr i == i)) := h.ext fun i hi => by rw [h1 i hi]
  unfold goE
  rw [a1, a2, a3]
/-- The backup of a go doesn't claim to be designated. -/
theorem go_bdr (h : BestOf el bt B) (dr bdr : Int → Int) : (goE B dr bdr).2 ≠ 0 → (dr (goE B dr bdr).2 == (goE B dr bdr).2) = false := by
  obtain ⟨d, hd⟩ : ∃ d, B (fun i => dr i == i) = d := ⟨_, rfl⟩
  obtain ⟨b1, hb⟩ : ∃ b, B (fun i => !(dr i == i) && bdr i == i) = b := ⟨_, rfl⟩
  obtain ⟨n, hn⟩ : ∃ n, B (fun i => !(dr i == i)) = n := ⟨_, rfl⟩
  rw [go_eq hd hb (fun _ => hn)]
  intro e0
  simp only [] at e0 ⊢
  by_cases e1 : b1 = 0
  · rw [if_pos e1] at e0 ⊢
    have := (h.so _ (by rw [hn]; exact e0)).2.1
    rw [hn] at this
    simpa using this
  · rw [if_neg e1]
    have := (h.so _ (by rw [hb]; exact e1)).2.1
    rw [hb] at this
    simp at this
    simpa using this.1
/-- Who stands by a go's answer, by what it claims, elects it. -/
theorem el_same {d b me : Int} (hg : goE B dr bdr = (d, b)) (hd : (dr me == me) = (d == me)) (hb : (bdr me == me) = (b == me)) : elE B me dr bdr = (d, b) := by
  unfold elE
  simp only [hg, hd, hb]
  simp
end
end Go.Proofs.Ytedlkoecnnmihaa
