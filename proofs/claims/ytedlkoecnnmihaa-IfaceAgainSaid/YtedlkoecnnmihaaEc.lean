/- Elections settle behind two rounds, over any way of finding the best one: no model. -/
import Derived.Test.YtedlkoecnnmihaaEb
namespace Go.Proofs.Ytedlkoecnnmihaa
section
variable {el mem : Int → Prop} {bt : Int → Int → Prop} {B : (Int → Bool) → Int} {dr bdr : Int → Int}
/-- Nobody takes itself for the designated one: what is elected. -/
theorem el_empty (h : BestOf el bt B) {b1 n b : Int} (hd : B (fun i => dr i == i) = 0) (hb : B (fun i => !(dr i == i) && bdr i == i) = b1) (hn : B (fun i => !(dr i == i)) = n) (hbb : (if b1 = 0 then n else b1) = b) (hb0 : b ≠ 0) (heb : el b) (me : Int) (hme : me ≠ 0) :
    (me = b → (elE B me dr bdr).1 = b ∧ (elE B me dr bdr).2 ≠ b) ∧ (me ≠ b → dr me ≠ me → elE B me dr bdr = (b, b)) := by
  have hg : goE B dr bdr = (b, b) := by
    rw [go_eq hd hb (fun _ => hn), hbb]
    simp
  have hdb := h.no _ hd b heb
  unfold elE
  simp only [hg]
  refine ⟨fun e => ?_, fun hne hdm => ?_⟩
  · subst e
    rw [if_pos (by rw [hdb]; simp)]
    have g1 : B (fun i => setE dr me (if me = me then me else 0) i == i) = me := h.one heb (by rw [setE_at]; simp) fun i hi hq => by
      by_cases ei : i = me
      · exact ei
      · rw [setE_no _ ei] at hq
        have := h.no _ hd i hi
        rw [this] at hq
        cases hq
    have nb : ∀ q : Int → Bool, q me = false → B q ≠ me := fun q hq e => by
      have := (h.so q (by rw [e]; exact hb0)).2.1
      rw [e, hq] at this
      cases this
    obtain ⟨x1, hx1⟩ : ∃ x, B (fun i => !(setE dr me (if me = me then me else 0) i == i) && setE bdr me (if me = me then 0 else if me = me then me else 0) i == i) = x := ⟨_, rfl⟩
    obtain ⟨x2, hx2⟩ : ∃ x, B (fun i => !(setE dr me (if me = me then me else 0) i == i)) = x := ⟨_, rfl⟩
    rw [go_eq g1 hx1 (fun _ => hx2)]
    refine ⟨if_neg hb0, ?_⟩
    show (if x1 = 0 then x2 else x1) ≠ me
    split
    · rw [← hx2]
      exact nb _ (by rw [setE_at]; simp)
    · rw [← hx1]
      exact nb _ (by rw [setE_at]; simp)
  · split
    · have c0 : (setE dr me 0 me == me) = false := by rw [setE_at]; exact zb hme
      simp only [if_neg (show ¬ b = me from fun x => hne x.symm)]
      have g1 : B (fun i => setE dr me 0 i == i) = 0 := h.none fun i hi => by
        by_cases ei : i = me
        · rw [ei]; exact c0
        · rw [setE_no _ ei]; exact h.no _ hd i hi
      by_cases e1 : b1 = 0
      · have hnm : ∀ i, el i → (!(setE dr me 0 i == i) && setE bdr me 0 i == i) = false := fun i hi => by
          by_cases ei : i = me
          · rw [ei, c0, setE_at, zb hme]; rfl
          · rw [setE_no _ ei, setE_no _ ei]; exact h.no _ (hb.trans e1) i hi
        have g3 : B (fun i => !(setE dr me 0 i == i)) = n := (h.ext fun i hi => by
          by_cases ei : i = me
          · rw [ei, c0, beq_eq_false_iff_ne.2 hdm]
          · rw [setE_no _ ei]).trans hn
        rw [if_pos e1] at hbb
        rw [go_eq g1 (h.none hnm) (fun _ => g3), hbb]
        simp
      · rw [if_neg e1] at hbb
        have g2 : B (fun i => !(setE dr me 0 i == i) && setE bdr me 0 i == i) = b1 := (h.less (m := me) (by rw [hb, hbb]; exact hne) (fun i _ ei => by rw [setE_no _ ei, setE_no _ ei]) (by rw [c0, setE_at, zb hme]; rfl)).trans hb
        rw [go_eq (b2 := n) g1 g2 (fun x => absurd x e1), if_neg e1, hbb]
        simp
    · rfl
/-- Two that stand. -/
def Sett (el : Int → Prop) (d b : Int) : Prop := (d = 0 ∧ b = 0 ∧ ∀ i, ¬ el i) ∨ (el d ∧ ((b = 0 ∧ ∀ i, el i → i = d) ∨ (el b ∧ b ≠ d)))
theorem Sett.stands (h : BestOf el bt B) (hm : ∀ i, el i → mem i) {d b : Int} (hs : Sett el d b) (dr bdr : Int → Int) (hc : ∀ i, mem i → dr i = d ∧ bdr i = b) (me : Int) (hme : mem me) : elE B me dr bdr = (d, b) := by
  rcases hs with ⟨rfl, rfl, he⟩ | ⟨h1, h2⟩
  · exact el_none h he dr bdr me
  · exact el_stands h d b h1 h2 (fun i hi => hc i (hm i hi)) me (hc me hme)
theorem settles (h : BestOf el bt B) (hm : ∀ i, el i → mem i) (h0 : ∀ i, mem i → i ≠ 0)
    (init : ∀ i, mem i → (dr i = 0 ∨ dr i = i) ∧ (bdr i = 0 ∨ bdr i = i) ∧ (dr i = 0 ∨ bdr i = 0) ∧ (¬ el i → dr i = 0 ∧ bdr i = 0))
    (dr1 bdr1 dr2 bdr2 : Int → Int) (r1 : ∀ i, mem i → (dr1 i, bdr1 i) = elE B i dr bdr) (r2 : ∀ i, mem i → (dr2 i, bdr2 i) = elE B i dr1 bdr1) :
    ∃ d b, Sett el d b ∧ ∀ i, mem i → dr2 i = d ∧ bdr2 i = b := by
  have two : ∀ d b, (∀ i, mem i → elE B i dr1 bdr1 = (d, b)) → ∀ i, mem i → dr2 i = d ∧ bdr2 i = b := fun d b ha i hi => by
    have := (r2 i hi).trans (ha i hi)
    exact ⟨congrArg Prod.fst this, congrArg Prod.snd this⟩
  have one1 : ∀ i, mem i → dr1 i = (elE B i dr bdr).1 := fun i hi => congrArg Prod.fst (r1 i hi)
  have one2 : ∀ i, mem i → bdr1 i = (elE B i dr bdr).2 := fun i hi => congrArg Prod.snd (r1 i hi)
  by_cases hE : ∃ i, el i
  · obtain ⟨d, hd⟩ : ∃ d, B (fun i => dr i == i) = d := ⟨_, rfl⟩
    obtain ⟨b1, hb⟩ : ∃ b, B (fun i => !(dr i == i) && bdr i == i) = b := ⟨_, rfl⟩
    obtain ⟨n, hn⟩ : ∃ n, B (fun i => !(dr i == i)) = n := ⟨_, rfl⟩
    by_cases hd0 : d = 0
    · subst hd0
      have hcl := h.no _ hd
      obtain ⟨b, hbb⟩ : ∃ b, (if b1 = 0 then n else b1) = b := ⟨_, rfl⟩
      have hbs : b ≠ 0 ∧ el b := by
        by_cases e1 : b1 = 0
        · rw [if_pos e1] at hbb
          obtain ⟨i, hi⟩ := hE
          have hn0 : n ≠ 0 := fun e => by
            have := h.no _ (hn.trans e) i hi
            have h2 := hcl i hi
            rw [h2] at this
            cases this
          rw [← hbb]
          exact ⟨hn0, by have := (h.so _ (by rw [hn]; exact hn0)).1; rwa [hn] at this⟩
        · rw [if_neg e1] at hbb
          rw [← hbb]
          exact ⟨e1, by have := (h.so _ (by rw [hb]; exact e1)).1; rwa [hb] at this⟩
      obtain ⟨hb0, heb⟩ := hbs
      have hno : ∀ i, mem i → dr i ≠ i := fun i hi e => by
        by_cases hei : el i
        · have := hcl i hei
          rw [e] at this
          simp at this
        · have := ((init i hi).2.2.2 hei).1
          exact h0 i hi (e.symm.trans this)
      have d1 : ∀ i, mem i → dr1 i = b := fun i hi => by
        rw [one1 i hi]
        have := el_empty h hd hb hn hbb hb0 heb i (h0 i hi)
        by_cases e : i = b
        · exact (this.1 e).1
        · rw [this.2 e (hno i hi)]
      have p1 : ∀ i, mem i → bdr1 i ≠ i := fun i hi => by
        rw [one2 i hi]
        have := el_empty h hd hb hn hbb hb0 heb i (h0 i hi)
        by_cases e : i = b
        · have h2 := (this.1 e).2
          intro x
          exact h2 (x.trans e)
        · rw [this.2 e (hno i hi)]
          exact fun x => e x.symm
      have k1 : B (fun i => dr1 i == i) = b := h.one heb (by rw [d1 b (hm b heb)]; simp) fun i hi hq => by
        rw [d1 i (hm i hi)] at hq
        exact (eq_of_beq hq).symm
      have k2 : B (fun i => !(dr1 i == i) && bdr1 i == i) = 0 := h.none fun i hi => by
        rw [beq_eq_false_iff_ne.2 (p1 i (hm i hi))]
        simp
      obtain ⟨c, hc⟩ : ∃ c, B (fun i => !(dr1 i == i)) = c := ⟨_, rfl⟩
      refine ⟨b, c, Or.inr ⟨heb, ?_⟩, two b c fun i hi => ?_⟩
      · by_cases c0 : c = 0
        · refine Or.inl ⟨c0, fun i hi => ?_⟩
          have := h.no _ (hc.trans c0) i hi
          simp only [d1 i (hm i hi)] at this
          simp at this
          exact this.symm
        · have hs := h.so _ (by rw [hc]; exact c0)
          rw [hc] at hs
          refine Or.inr ⟨hs.1, fun e => ?_⟩
          have := hs.2.1
          rw [d1 c (hm c hs.1), e] at this
          simp at this
      · have := el_nobody h hb0 k1 k2 hc i (h0 i hi)
        have h2 := this.2.1 (by
          rw [d1 i hi]
          by_cases e : b = i
          · exact Or.inr e
          · exact Or.inl e)
        exact Prod.ext this.1 h2
    · obtain ⟨ed, k2, _⟩ := h.so _ (by rw [hd]; exact hd0)
      rw [hd] at ed k2
      by_cases e1 : b1 = 0
      · subst e1
        have nb := fun i hi => el_nobody h hd0 hd hb hn i (h0 i hi)
        have d1 : ∀ i, mem i → dr1 i = d := fun i hi => (one1 i hi).trans (nb i hi).1
        have k1 : B (fun i => dr1 i == i) = d := h.one ed (by rw [d1 d (hm d ed)]; simp) fun i hi hq => by
          rw [d1 i (hm i hi)] at hq
          exact (eq_of_beq hq).symm
        have fin : ∀ x, el x → x ≠ d → bdr1 x = x → ∃ d b, Sett el d b ∧ ∀ i, mem i → dr2 i = d ∧ bdr2 i = b := fun x hx hxd hbx => by
          obtain ⟨b2, hb2⟩ : ∃ b, B (fun i => !(dr1 i == i) && bdr1 i == i) = b := ⟨_, rfl⟩
          have b20 : b2 ≠ 0 := fun e => by
            have := h.no _ (hb2.trans e) x hx
            rw [d1 x (hm x hx), hbx, beq_eq_false_iff_ne.2 (Ne.symm hxd)] at this
            simp at this
          have hs := h.so _ (by rw [hb2]; exact b20)
          rw [hb2] at hs
          refine ⟨d, b2, Or.inr ⟨ed, Or.inr ⟨hs.1, fun e => ?_⟩⟩, two d b2 fun i hi => el_both h hd0 b20 k1 hb2 i (h0 i hi)⟩
          have := hs.2.1
          rw [d1 b2 (hm b2 hs.1), e] at this
          simp at this
        by_cases hn0 : n = 0
        · subst hn0
          have all : ∀ i, el i → dr i = i := fun i hi => by
            have := h.no _ hn i hi
            simp at this
            exact this
          by_cases ex : ∃ i, el i ∧ i ≠ d
          · obtain ⟨x, hx, hxd⟩ := ex
            refine fin x hx hxd ?_
            rw [one2 x (hm x hx)]
            refine (nb x (hm x hx)).2.2 all hx (Ne.symm hxd) ?_
            rcases (init x (hm x hx)).2.2.1 with e | e
            · exact absurd ((all x hx).symm.trans e) (h0 x (hm x hx))
            · exact e
          · have only : ∀ i, el i → i = d := fun i hi => Classical.byContradiction fun e => ex ⟨i, hi, e⟩
            have p1 : ∀ i, mem i → bdr1 i = 0 := fun i hi => by
              rw [one2 i hi]
              refine (nb i hi).2.1 ?_
              by_cases hei : el i
              · exact Or.inr (only i hei).symm
              · exact Or.inl (by rw [((init i hi).2.2.2 hei).1]; exact Ne.symm (h0 i hi))
            exact ⟨d, 0, Or.inr ⟨ed, Or.inl ⟨rfl, only⟩⟩, two d 0 fun i hi => el_stands h d 0 ed (Or.inl ⟨rfl, only⟩) (fun j hj => ⟨d1 j (hm j hj), p1 j (hm j hj)⟩) i ⟨d1 i hi, p1 i hi⟩⟩
        · have hs := h.so _ (by rw [hn]; exact hn0)
          rw [hn] at hs
          have hdn : dr n ≠ n := by
            have := hs.2.1
            simp at this
            exact this
          refine fin n hs.1 (fun e => hdn (by rw [e]; exact eq_of_beq k2)) ?_
          rw [one2 n (hm n hs.1)]
          exact (nb n (hm n hs.1)).2.1 (Or.inl hdn)
      · have hs := h.so _ (by rw [hb]; exact e1)
        rw [hb] at hs
        have hne : b1 ≠ d := fun e => by
          have := hs.2.1
          rw [e, k2] at this
          simp at this
        have hb3 := fun i hi => el_both h hd0 e1 hd hb i (h0 i hi)
        have hc : ∀ i, mem i → dr1 i = d ∧ bdr1 i = b1 := fun i hi => ⟨(one1 i hi).trans (by rw [hb3 i hi]), (one2 i hi).trans (by rw [hb3 i hi])⟩
        have hst : Sett el d b1 := Or.inr ⟨ed, Or.inr ⟨hs.1, hne⟩⟩
        exact ⟨d, b1, hst, two d b1 fun i hi => hst.stands h hm dr1 bdr1 hc i hi⟩
  · have hno : ∀ i, ¬ el i := fun i hi => hE ⟨i, hi⟩
    exact ⟨0, 0, Or.inl ⟨rfl, rfl, hno⟩, two 0 0 fun i _ => el_none h hno dr1 bdr1 i⟩
end
end Go.Proofs.Ytedlkoecnnmihaa
