/- The best one of a list of candidates: no model. -/
import Derived.Test.YtedlkoecnnmihaaEe
namespace Go.Proofs.Ytedlkoecnnmihaa
/-- A candidate. -/
structure Cd where
  id : Int
  prio : Int
  dr : Int
  bdr : Int
def btr (a b : Cd) : Bool := decide (b.prio < a.prio) || (decide (b.prio = a.prio) && decide (b.id < a.id))
theorem btr_asym {a b : Cd} (h : btr a b = true) : btr b a = false := by
  simp [btr] at h ⊢
  omega
theorem btr_trans {a b c : Cd} (h : btr a b = true) (h2 : btr b c = true) : btr a c = true := by
  simp [btr] at h h2 ⊢
  omega
theorem btr_tot {a b : Cd} (h : btr a b = false) : btr b a = true ∨ a.id = b.id := by
  simp [btr] at h ⊢
  omega
/-- The best one of those that may be and answer a question. -/
def bestC (q : Int → Bool) : List Cd → Option Cd
  | [] => none
  | c :: l =>
    if 0 < c.prio ∧ q c.id = true then
      match bestC q l with
      | none => some c
      | some x => if btr c x = true then some c else some x
    else bestC q l
theorem bestC_none {q : Int → Bool} : ∀ {l : List Cd}, bestC q l = none → ∀ c ∈ l, 0 < c.prio → q c.id = false
  | c :: l, h, e, he, hp => by
    unfold bestC at h
    by_cases hc : 0 < c.prio ∧ q c.id = true
    · rw [if_pos hc] at h
      cases hb : bestC q l with
      | none => rw [hb] at h; simp at h
      | some x =>
        rw [hb] at h
        simp only [] at h
        split at h <;> simp at h
    · rw [if_neg hc] at h
      rcases List.mem_cons.1 he with rfl | he
      · cases x : q e.id
        · rfl
        · exact absurd ⟨hp, x⟩ hc
      · exact bestC_none h e he hp
def UnlikeC (l : List Cd) : Prop := ∀ a ∈ l, ∀ b ∈ l, a.id = b.id → a = b
theorem bestC_some {q : Int → Bool} : ∀ {l : List Cd} {x : Cd}, UnlikeC l → bestC q l = some x → x ∈ l ∧ 0 < x.prio ∧ q x.id = true ∧ ∀ e ∈ l, 0 < e.prio → q e.id = true → e = x ∨ btr x e = true
  | c :: l, x, hu, h => by
    have hu' : UnlikeC l := fun a ha b hb => hu a (List.mem_cons_of_mem _ ha) b (List.mem_cons_of_mem _ hb)
    unfold bestC at h
    by_cases hc : 0 < c.prio ∧ q c.id = true
    · rw [if_pos hc] at h
      cases hb : bestC q l with
      | none =>
        rw [hb] at h
        simp only [Option.some.injEq] at h
        subst h
        refine ⟨List.mem_cons_self, hc.1, hc.2, fun e he hp hq => ?_⟩
        rcases List.mem_cons.1 he with rfl | he
        · exact Or.inl rfl
        · rw [bestC_none hb e he hp] at hq; cases hq
      | some y =>
        rw [hb] at h
        simp only [] at h
        obtain ⟨y1, y2, y3, y4⟩ := bestC_some hu' hb
        by_cases hcy : btr c y = true
        · rw [if_pos hcy] at h
          simp only [Option.some.injEq] at h
          subst h
          refine ⟨List.mem_cons_self, hc.1, hc.2, fun e he hp hq => ?_⟩
          rcases List.mem_cons.1 he with rfl | he
          · exact Or.inl rfl
          · rcases y4 e he hp hq with rfl | h2
            · exact Or.inr hcy
            · exact Or.inr (btr_trans hcy h2)
        · rw [if_neg hcy] at h
          simp only [Option.some.injEq] at h
          subst h
          refine ⟨List.mem_cons_of_mem _ y1, y2, y3, fun e he hp hq => ?_⟩
          rcases List.mem_cons.1 he with rfl | he
          · rcases btr_tot (Bool.eq_false_iff.2 hcy) with h2 | h2
            · exact Or.inr h2
            · exact Or.inl (hu _ List.mem_cons_self _ (List.mem_cons_of_mem _ y1) h2)
          · exact y4 e he hp hq
    · rw [if_neg hc] at h
      obtain ⟨y1, y2, y3, y4⟩ := bestC_some hu' h
      refine ⟨List.mem_cons_of_mem _ y1, y2, y3, fun e he hp hq => ?_⟩
      rcases List.mem_cons.1 he with rfl | he
      · exact absurd ⟨hp, hq⟩ hc
      · exact y4 e he hp hq
/-- Its number, 0 if there is none. -/
def bidC (l : List Cd) (q : Int → Bool) : Int := ((bestC q l).map (·.id)).getD 0
def elC (l : List Cd) (i : Int) : Prop := ∃ c ∈ l, c.id = i ∧ 0 < c.prio
def btC (l : List Cd) (i j : Int) : Prop := ∃ c ∈ l, ∃ e ∈ l, c.id = i ∧ e.id = j ∧ btr c e = true
theorem bidC_best {l : List Cd} (hu : UnlikeC l) (h1 : ∀ c ∈ l, 1 ≤ c.id) : BestOf (elC l) (btC l) (bidC l) where
  pos := by
    rintro i ⟨c, hc, rfl, _⟩
    have := h1 c hc
    omega
  no := by
    rintro q h i ⟨c, hc, rfl, hp⟩
    unfold bidC at h
    cases hb : bestC q l with
    | none => exact bestC_none hb c hc hp
    | some x =>
      rw [hb] at h
      have := h1 x (bestC_some hu hb).1
      simp at h
      omega
  so := by
    intro q h
    unfold bidC at h ⊢
    cases hb : bestC q l with
    | none => rw [hb] at h; exact absurd rfl h
    | some x =>
      obtain ⟨x1, x2, x3, x4⟩ := bestC_some hu hb
      refine ⟨⟨x, x1, rfl, x2⟩, x3, ?_⟩
      rintro i ⟨c, hc, rfl, hp⟩ hq
      rcases x4 c hc hp hq with rfl | h2
      · exact Or.inl rfl
      · exact Or.inr ⟨x, x1, c, hc, rfl, rfl, h2⟩
  asym := by
    rintro i j ⟨c, hc, e, he, rfl, rfl, h⟩ ⟨c', hc', e', he', h3, h4, h5⟩
    obtain rfl := hu c' hc' e he h3
    obtain rfl := hu e' he' c hc h4
    rw [btr_asym h] at h5
    cases h5
/-- What hangs on numbers and priorities alone. -/
theorem bidC_ext {l l' : List Cd} (h : l'.map (fun c => (c.id, c.prio)) = l.map (fun c => (c.id, c.prio))) (hu : UnlikeC l) (h1 : ∀ c ∈ l, 1 ≤ c.id) (hu' : UnlikeC l') (q : Int → Bool) : bidC l' q = bidC l q := by
  have mv : ∀ {a b : List Cd}, a.map (fun c => (c.id, c.prio)) = b.map (fun c => (c.id, c.prio)) → ∀ c ∈ a, ∃ c' ∈ b, c'.id = c.id ∧ c'.prio = c.prio := fun {a b} hab c hc => by
    have : (c.id, c.prio) ∈ b.map (fun c => (c.id, c.prio)) := hab ▸ List.mem_map.2 ⟨c, hc, rfl⟩
    obtain ⟨c', h1, h2⟩ := List.mem_map.1 this
    exact ⟨c', h1, congrArg Prod.fst h2, congrArg Prod.snd h2⟩
  have h1' : ∀ c ∈ l', 1 ≤ c.id := fun c hc => by
    obtain ⟨c', a1, a2, _⟩ := mv h c hc
    have := h1 c' a1
    omega
  have B := bidC_best hu h1
  have B' := bidC_best hu' h1'
  by_cases hn : bidC l q = 0
  · rw [hn]
    refine B'.none ?_
    rintro i ⟨c, hc, rfl, hp⟩
    obtain ⟨c', a1, a2, a3⟩ := mv h c hc
    rw [← a2]
    exact B.no q hn _ ⟨c', a1, rfl, by omega⟩
  · obtain ⟨⟨c, hc, e1, hp⟩, e2, e3⟩ := B.so q hn
    obtain ⟨c', a1, a2, a3⟩ := mv h.symm c hc
    refine B'.is ⟨c', a1, a2.trans e1, by omega⟩ e2 ?_
    rintro i ⟨g, hg, rfl, hgp⟩ hq
    obtain ⟨g', b1, b2, b3⟩ := mv h g hg
    rcases e3 g.id ⟨g', b1, b2, by omega⟩ hq with e | ⟨u, hu1, v, hv1, e4, e5, e6⟩
    · exact Or.inl e
    · obtain rfl := hu u hu1 c hc (e4.trans e1.symm)
      obtain rfl := hu v hv1 g' b1 (e5.trans b2.symm)
      refine Or.inr ⟨c', a1, g, hg, a2.trans e4, rfl, ?_⟩
      simp [btr] at e6 ⊢
      omega
end Go.Proofs.Ytedlkoecnnmihaa
