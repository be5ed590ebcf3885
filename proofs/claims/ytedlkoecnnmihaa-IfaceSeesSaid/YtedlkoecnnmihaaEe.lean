/- Who has elected elects the same again. Over any way of finding the best one: no model. -/
import Derived.Test.YtedlkoecnnmihaaEd
namespace Go.Proofs.Ytedlkoecnnmihaa
section
variable {el mem : Int → Prop} {bt : Int → Int → Prop} {B : (Int → Bool) → Int} {dr bdr : Int → Int}
theorem el_again (h : BestOf el bt B) {me : Int} (hme : me ≠ 0) {d b : Int} (he : elE B me dr bdr = (d, b)) :
    elE B me (setE dr me d) (setE bdr me b) = (d, b) ∧ (d ≠ b ∨ d = 0 ∨ d ≠ me) := by
  obtain ⟨t1, t2, hg⟩ : ∃ x y, goE B dr bdr = (x, y) := ⟨_, _, rfl⟩
  have hmay := go_may h dr bdr
  have hnb := go_bdr h dr bdr
  rw [hg] at hmay hnb
  simp only [] at hmay hnb
  obtain ⟨d0, hd⟩ : ∃ d, B (fun i => dr i == i) = d := ⟨_, rfl⟩
  obtain ⟨b1, hb⟩ : ∃ b, B (fun i => !(dr i == i) && bdr i == i) = b := ⟨_, rfl⟩
  obtain ⟨n, hn⟩ : ∃ n, B (fun i => !(dr i == i)) = n := ⟨_, rfl⟩
  have ht := (go_eq hd hb (fun _ => hn)).symm.trans hg
  have ht1 : (if d0 = 0 then (if b1 = 0 then n else b1) else d0) = t1 := congrArg Prod.fst ht
  have ht2 : (if b1 = 0 then n else b1) = t2 := congrArg Prod.snd ht
  unfold elE at he
  simp only [hg] at he
  have same : ∀ x : Int → Int, ∀ y, (setE x me y me == me) = (y == me) := fun x y => by rw [setE_at]
  split at he
  case isFalse hch =>
    obtain ⟨rfl, rfl⟩ : t1 = d ∧ t2 = b := ⟨congrArg Prod.fst he, congrArg Prod.snd he⟩
    have c1 : (t1 == me) = (dr me == me) := by
      cases x : (t1 == me) <;> cases y : (dr me == me) <;> simp [x, y] at hch ⊢
    have c2 : (t2 == me) = (bdr me == me) := by
      cases x : (t2 == me) <;> cases y : (bdr me == me) <;> simp [x, y] at hch ⊢
    refine ⟨el_same ((go_ext h (fun i _ => ?_) (fun i _ => ?_)).trans hg) (same _ _) (same _ _), ?_⟩
    · by_cases ei : i = me
      · rw [ei, same, c1]
      · rw [setE_no _ ei]
    · by_cases ei : i = me
      · rw [ei, same, c2]
      · rw [setE_no _ ei]
    · by_cases e0 : t1 = 0
      · exact Or.inr (Or.inl e0)
      · by_cases e1 : t1 = me
        · refine Or.inl fun e2 => ?_
          have := hnb (by rw [← e2]; exact e0)
          rw [← e2, e1, ← c1, e1] at this
          simp at this
        · exact Or.inr (Or.inr e1)
  case isTrue hch =>
    clear hch
    by_cases e1 : t1 = me
    · rw [if_pos e1, if_pos e1] at he
      have hel : el me := by
        have := hmay.1 (by rw [e1]; exact hme)
        rwa [e1] at this
      have g1 : B (fun i => setE dr me me i == i) = me := by
        by_cases z : d0 = 0
        · refine h.one hel (by rw [setE_at]; simp) fun i hi hq => ?_
          by_cases ei : i = me
          · exact ei
          · rw [setE_no _ ei] at hq
            have := h.no _ (hd.trans z) i hi
            rw [this] at hq
            cases hq
        · rw [if_neg z] at ht1
          have hq := (h.so _ (by rw [hd]; exact z)).2.1
          rw [hd, ht1, e1] at hq
          refine ((h.ext fun i _ => ?_).trans hd).trans (ht1.trans e1)
          by_cases ei : i = me
          · rw [ei, setE_at, hq]
            simp
          · rw [setE_no _ ei]
      have hdm : d = me := by
        have := congrArg Prod.fst he
        rw [go_eq g1 rfl (fun _ => rfl)] at this
        simp only [if_neg hme] at this
        exact this.symm
      have hbm : b ≠ me := fun e => by
        have := go_bdr h (setE dr me me) (setE bdr me 0)
        rw [he] at this
        have := this (by show b ≠ 0; rw [e]; exact hme)
        simp only [e, setE_at] at this
        simp at this
      refine ⟨el_same ((go_ext h (fun i _ => ?_) (fun i _ => ?_)).trans he) (same _ _) (same _ _), Or.inl fun e => hbm (e.symm.trans hdm)⟩
      · rw [hdm]
      · by_cases ei : i = me
        · rw [ei, setE_at]
          simp
        · rw [setE_no _ ei, setE_no _ ei, setE_no _ ei]
    · rw [if_neg e1, if_neg e1] at he
      have c0 : (setE dr me 0 me == me) = false := by rw [setE_at]; exact zb hme
      obtain ⟨v, hv⟩ : ∃ v, v = (if t2 = me then me else 0) := ⟨_, rfl⟩
      rw [← hv] at he
      have out : ∀ (_ : d ≠ me) (_ : (b == me) = (v == me)), elE B me (setE dr me d) (setE bdr me b) = (d, b) ∧ (d ≠ b ∨ d = 0 ∨ d ≠ me) := fun hdm hbv => by
        refine ⟨el_same ((go_ext h (fun i _ => ?_) (fun i _ => ?_)).trans he) (same _ _) (same _ _), Or.inr (Or.inr hdm)⟩
        · by_cases ei : i = me
          · rw [ei, same, c0]
            exact beq_eq_false_iff_ne.2 hdm
          · rw [setE_no _ ei, setE_no _ ei]
        · by_cases ei : i = me
          · rw [ei, setE_at bdr me b, setE_at bdr me v, hbv]
          · rw [setE_no _ ei, setE_no _ ei, setE_no _ ei]
      -- what the second go finds of those that claim to be the backup
      have less2 : b1 ≠ 0 → b1 ≠ me → v = 0 → B (fun i => !(setE dr me 0 i == i) && setE bdr me v i == i) = b1 := fun _ x y => (h.less (m := me) (by rw [hb]; exact fun z => x z.symm) (fun i _ ei => by rw [setE_no _ ei, setE_no _ ei]) (by rw [c0, setE_at, y, zb hme]; rfl)).trans hb
      have none2 : b1 = 0 → v = 0 → B (fun i => !(setE dr me 0 i == i) && setE bdr me v i == i) = 0 := fun x y => h.none fun i hi => by
        by_cases ei : i = me
        · rw [ei, c0, setE_at, y, zb hme]; rfl
        · rw [setE_no _ ei, setE_no _ ei]; exact h.no _ (hb.trans x) i hi
      by_cases z : d0 = 0
      · rw [if_pos z, ht2] at ht1
        have t2m : t2 ≠ me := by rw [ht1]; exact e1
        rw [if_neg t2m] at hv
        have g1 : B (fun i => setE dr me 0 i == i) = 0 := h.none fun i hi => by
          by_cases ei : i = me
          · rw [ei]; exact c0
          · rw [setE_no _ ei]; exact h.no _ (hd.trans z) i hi
        have g3 : B (fun i => !(setE dr me 0 i == i)) = n := (h.ext fun i hi => by
          by_cases ei : i = me
          · have := h.no _ (hd.trans z) i hi
            rw [ei] at this
            rw [ei, c0, this]
          · rw [setE_no _ ei]).trans hn
        have hres : (d, b) = (t2, t2) := by
          by_cases y : b1 = 0
          · rw [if_pos y] at ht2
            rw [← he, go_eq g1 (none2 y hv) (fun _ => g3), ht2]
            simp
          · rw [if_neg y] at ht2
            rw [← he, go_eq (b2 := n) g1 (less2 y (by rw [ht2]; exact t2m) hv) (fun x => absurd x y), if_neg y, ht2]
            simp
        have r1 : d = t2 := congrArg Prod.fst hres
        have r2 : b = t2 := congrArg Prod.snd hres
        exact out (by rw [r1]; exact t2m) (by rw [r2, hv, zb hme]; exact beq_eq_false_iff_ne.2 t2m)
      · rw [if_neg z] at ht1
        have g1 : B (fun i => setE dr me 0 i == i) = d0 := (h.less (q' := fun i => setE dr me 0 i == i) (m := me) (by rw [hd, ht1]; exact fun x => e1 x.symm) (fun i _ ei => by rw [setE_no _ ei]) c0).trans hd
        have dres : ∀ x y, goE B (setE dr me 0) (setE bdr me v) = (x, y) → x = d0 := fun x y e => by
          have := congrArg Prod.fst e
          rw [go_eq g1 rfl (fun _ => rfl)] at this
          simp only [if_neg z] at this
          exact this.symm
        have hd' : d = d0 := dres d b he
        have hdm : d ≠ me := by rw [hd', ht1]; exact e1
        by_cases y : t2 = me
        · rw [if_pos y] at hv
          have hel : el me := by
            have := hmay.2.1 (by rw [y]; exact hme)
            rwa [y] at this
          have g2 : B (fun i => !(setE dr me 0 i == i) && setE bdr me v i == i) = me := by
            by_cases x : b1 = 0
            · refine h.one hel (by rw [c0, setE_at, hv]; simp) fun i hi hq => ?_
              by_cases ei : i = me
              · exact ei
              · rw [setE_no _ ei, setE_no _ ei] at hq
                have := h.no _ (hb.trans x) i hi
                rw [this] at hq
                cases hq
            · rw [if_neg x] at ht2
              have hq := (h.so _ (by rw [hb]; exact x)).2.1
              rw [hb, ht2, y] at hq
              refine ((h.ext fun i _ => ?_).trans hb).trans (ht2.trans y)
              by_cases ei : i = me
              · rw [ei, hq, c0, setE_at, hv]
                simp
              · rw [setE_no _ ei, setE_no _ ei]
          have hbm : b = me := by
            have := congrArg Prod.snd he
            rw [go_eq (b2 := n) g1 g2 (fun x => absurd x hme)] at this
            simp only [if_neg hme] at this
            exact this.symm
          exact out hdm (by rw [hbm, hv])
        · rw [if_neg y] at hv
          by_cases x : b1 = 0
          · obtain ⟨n2, hn2⟩ : ∃ m, B (fun i => !(setE dr me 0 i == i)) = m := ⟨_, rfl⟩
            have hbn : b = n2 := by
              have := congrArg Prod.snd he
              rw [go_eq g1 (none2 x hv) (fun _ => hn2)] at this
              simp at this
              exact this.symm
            by_cases w : n2 = me
            · have hel : el me := by
                have := (h.so _ (by rw [hn2, w]; exact hme)).1
                rwa [hn2, w] at this
              have k1 : B (fun i => setE dr me d i == i) = d0 := (h.ext fun i _ => by
                by_cases ei : i = me
                · rw [ei, same, c0]
                  exact beq_eq_false_iff_ne.2 hdm
                · rw [setE_no _ ei, setE_no _ ei]).trans g1
              have k2 : B (fun i => !(setE dr me d i == i) && setE bdr me b i == i) = me := by
                refine h.one hel (by rw [same, same, hbn, w, beq_eq_false_iff_ne.2 hdm]; simp) fun i hi hq => ?_
                by_cases ei : i = me
                · exact ei
                · rw [setE_no _ ei, setE_no _ ei] at hq
                  have := h.no _ (hb.trans x) i hi
                  rw [this] at hq
                  cases hq
              have k : goE B (setE dr me d) (setE bdr me b) = (d, b) := by
                rw [go_eq (b2 := n) k1 k2 (fun x => absurd x hme), if_neg z, if_neg hme, hd', hbn, w]
              exact ⟨el_same k (same _ _) (same _ _), Or.inr (Or.inr hdm)⟩
            · exact out hdm (by rw [hbn, hv, zb hme]; exact beq_eq_false_iff_ne.2 w)
          · rw [if_neg x] at ht2
            have hb1 : b1 ≠ me := by rw [ht2]; exact y
            have hbb : b = b1 := by
              have := congrArg Prod.snd he
              rw [go_eq (b2 := n) g1 (less2 x hb1 hv) (fun e => absurd e x)] at this
              simp only [if_neg x] at this
              exact this.symm
            exact out hdm (by rw [hbb, hv, zb hme]; exact beq_eq_false_iff_ne.2 hb1)
end
end Go.Proofs.Ytedlkoecnnmihaa
