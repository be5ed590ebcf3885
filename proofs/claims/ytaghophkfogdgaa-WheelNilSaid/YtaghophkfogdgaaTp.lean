/- The program's Due, of any sort that does what a sort must. Conditions: what the words say; at most 1000 entries. -/
import Derived.Test.YtaghophkfogdgaaTo
import Derived.Test.YtaghophkfogdgaaTg
namespace Go.Proofs.Ytaghophkfogdgaa
open Go.RowKit
open Go.Maps (Keyed)

/-- In order, equals let. -/
def leT (R : List En) (a b : Tm) : Bool := !decide (cmpT R b a < 0)
/-- What the library's sort does to at most k timers, under the compare of a wheel. -/
def SortUpto (k : Nat) : Prop := ∀ (w : World) (p b : Nat) (R : List En) (base n c : Nat) (A : Option Addr) (L : List Tm), PWh w p b R → w.ownsRow base 33 6 (.slice A n c) n (cellsBy encTm L) → (∀ t ∈ L, wfTm t) → n ≤ k →
    Calls Try.prog 21 #[.slice A n c, .func (.func 22) #[.pointer (some ⟨p, 0, none⟩)] #[]] w
      fun e w' => e = .returned (.tuple #[]) ∧ (∃ L', w'.ownsRow base 33 6 (.slice A n c) n (cellsBy encTm L') ∧ L'.Perm L ∧ L'.Pairwise (fun a b => leT R a b = true)) ∧ w.grownBy w' (Value.slice A n c).ownBlock
/-- Those that are due, as far as a range has come. -/
def gotR (R : List En) (z : Int) (left : Lit → Bool) : List En := R.filter fun e => decide (e.tick ≤ z) && !left (tmLit e.t)
theorem filter_more {α : Type} {f f' : α → Bool} {r : α} : ∀ {R : List α}, r ∈ R → (R.Pairwise (· ≠ ·)) → f r = false → f' r = true → (∀ e ∈ R, e ≠ r → f' e = f e) → (R.filter f').Perm (r :: R.filter f)
  | x :: R, hr, hn, h1, h2, h3 => by
    obtain ⟨hx, hn'⟩ := List.pairwise_cons.1 hn
    rcases List.mem_cons.1 hr with rfl | hr'
    · have : R.filter f' = R.filter f := List.filter_congr fun e he => h3 e (List.mem_cons_of_mem _ he) (fun q => hx e he q.symm)
      rw [List.filter_cons_of_pos h2, List.filter_cons_of_neg (by rw [h1]; decide), this]
    · have hxr : x ≠ r := hx r hr'
      have ih := filter_more hr' hn' h1 h2 (fun e he => h3 e (List.mem_cons_of_mem _ he))
      have hfx := h3 x (List.mem_cons_self) hxr
      cases hf : f x
      · rw [List.filter_cons_of_neg (by rw [hfx, hf]; decide), List.filter_cons_of_neg (by rw [hf]; decide)]
        exact ih
      · rw [List.filter_cons_of_pos (by rw [hfx, hf]), List.filter_cons_of_pos hf]
        exact (ih.cons x).trans (List.Perm.swap r x _)
theorem pw_ne {R : List En} (hn : R.Pairwise fun r s => r.t ≠ s.t) : R.Pairwise (· ≠ ·) := hn.imp (fun h e => h (by rw [e]))
theorem gotR_start {R : List En} {z : Int} {l : List (Lit × DataW Value)} (hw : ∀ r ∈ R, wfTm r.t) (hn : R.Pairwise fun r s => r.t ≠ s.t) (hp : l.Perm (R.map rcE)) : gotR R z (Maps.has (DataW.map l)) = [] := by
  unfold gotR
  rw [List.filter_eq_nil_iff]
  intro e he
  cases hg : getR R e.t with
  | none => exact absurd rfl (getR_none hg e he)
  | some r =>
    rw [((map_at hw hn hp (hw e he)).2 r .nil hg).2]
    simp
theorem gotR_end {R : List En} {z : Int} {left : Lit → Bool} (h : ∀ kl, left kl = false) : gotR R z left = R.filter fun e => decide (e.tick ≤ z) := by
  unfold gotR
  refine List.filter_congr (fun e _ => ?_)
  rw [h]
  simp
theorem gotR_step {R : List En} {z : Int} {left : Lit → Bool} {r : En} (hw : ∀ r ∈ R, wfTm r.t) (hn : R.Pairwise fun r s => r.t ≠ s.t) (hr : r ∈ R) (hl : left (tmLit r.t) = true) :
    (r.tick ≤ z → (gotR R z (fun q => left q && !q.sameKey (tmLit r.t))).Perm (r :: gotR R z left)) ∧ (¬ r.tick ≤ z → gotR R z (fun q => left q && !q.sameKey (tmLit r.t)) = gotR R z left) := by
  have key : ∀ e ∈ R, e ≠ r → (decide (e.tick ≤ z) && !(left (tmLit e.t) && !(tmLit e.t).sameKey (tmLit r.t))) = (decide (e.tick ≤ z) && !left (tmLit e.t)) := fun e he hne => by
    have : e.t ≠ r.t := fun q => hne (pw_eq (f := fun e : En => e.t) hn e he r hr q)
    rw [sameKey_tm (hw e he) (hw r hr)]
    simp [this]
  constructor
  · intro hz
    exact filter_more (f := fun e => decide (e.tick ≤ z) && !left (tmLit e.t)) (f' := fun e => decide (e.tick ≤ z) && !(left (tmLit e.t) && !(tmLit e.t).sameKey (tmLit r.t))) hr (pw_ne hn) (by simp [hl]) (by rw [sameKey_tm (hw r hr) (hw r hr)]; simp [hz]) key
  · intro hz
    unfold gotR
    refine List.filter_congr (fun e he => ?_)
    by_cases h : e = r
    · subst h
      simp [hz]
    · exact key e he h
theorem canAll_filter : ∀ (L : List Tm) (R : List En), canAll R L = R.filter fun e => !decide (e.t ∈ L)
  | [], R => by
    show R = _
    rw [List.filter_eq_self.2]
    intro e _
    simp
  | t :: L, R => by
    show canAll (restR R t) L = _
    rw [canAll_filter L (restR R t)]
    unfold restR
    rw [List.filter_filter]
    refine List.filter_congr (fun e _ => ?_)
    by_cases h1 : e.t = t <;> by_cases h2 : e.t ∈ L <;> simp [h1, h2]
/-- Those that aren't due stay. -/
def laterR (R : List En) (z : Int) : List En := R.filter fun e => !decide (e.tick ≤ z)
theorem canAll_due {R : List En} {z : Int} {D : List Tm} (hn : R.Pairwise fun r s => r.t ≠ s.t) (hD : D.Perm ((R.filter fun e => decide (e.tick ≤ z)).map (·.t))) : canAll R D = laterR R z := by
  rw [canAll_filter]
  unfold laterR
  refine List.filter_congr (fun e he => ?_)
  congr 1
  have : e.t ∈ D ↔ e.tick ≤ z := by
    rw [hD.mem_iff, List.mem_map]
    constructor
    · rintro ⟨s, hs, hst⟩
      obtain ⟨h1, h2⟩ := List.mem_filter.1 hs
      rw [pw_eq (f := fun e : En => e.t) hn e he s h1 hst.symm]
      exact of_decide_eq_true h2
    · intro h
      exact ⟨e, List.mem_filter.2 ⟨he, decide_eq_true h⟩, rfl⟩
  exact decide_eq_decide.2 this
end Go.Proofs.Ytaghophkfogdgaa
