/- Elections that settle, over any way of finding the best one: no model. -/
import Derived.Test.YtedlkoecnnmihaaEa
namespace Go.Proofs.Ytedlkoecnnmihaa
theorem zb {m : Int} (h : m ≠ 0) : ((0 : Int) == m) = false := beq_eq_false_iff_ne.2 fun x => h x.symm
theorem setE_at (f : Int → Int) (m v : Int) : setE f m v m = v := if_pos rfl
theorem setE_no (f : Int → Int) {m v i : Int} (h : i ≠ m) : setE f m v i = f i := if_neg h
section
variable {el mem : Int → Prop} {bt : Int → Int → Prop} {B : (Int → Bool) → Int} {dr bdr : Int → Int}
theorem claim_set (h : BestOf el bt B) {d me : Int} (hd0 : d ≠ 0) (hd : B (fun i => dr i == i) = d) (hme : me ≠ 0) : B (fun i => setE dr me (if d = me then me else 0) i == i) = d := by
  obtain ⟨_, k2, _⟩ := h.so _ (by rw [hd]; exact hd0)
  rw [hd] at k2
  by_cases e : d = me
  · refine (h.ext fun i _ => ?_).trans hd
    by_cases ei : i = me
    · rw [ei, setE_at, if_pos e, ← e, k2]
      simp
    · rw [setE_no _ ei]
  · refine (h.less (m := me) (by rw [hd]; exact fun x => e x.symm) (fun i _ ei => by rw [setE_no _ ei]) ?_).trans hd
    rw [setE_at, if_neg e]
    exact zb hme
/-- One is designated, another one takes itself for the backup: whoever elects, elects these. -/
theorem el_both (h : BestOf el bt B) {d b : Int} (hd0 : d ≠ 0) (hb0 : b ≠ 0) (hd : B (fun i => dr i == i) = d) (hb : B (fun i => !(dr i == i) && bdr i == i) = b) (me : Int) (hme : me ≠ 0) : elE B me dr bdr = (d, b) := by
  obtain ⟨_, k2, _⟩ := h.so _ (by rw [hd]; exact hd0)
  obtain ⟨_, q2, _⟩ := h.so _ (by rw [hb]; exact hb0)
  rw [hd] at k2
  rw [hb] at q2
  simp at k2 q2
  have hg : goE B dr bdr = (d, b) := by
    rw [go_eq (b2 := b) hd hb (fun e => absurd e hb0)]
    simp [hd0, hb0]
  unfold elE
  simp only [hg]
  split
  · have g1 := claim_set h hd0 hd hme
    have g2 : B (fun i => !(setE dr me (if d = me then me else 0) i == i) && setE bdr me (if d = me then 0 else if b = me then me else 0) i == i) = b := by
      by_cases ed : d = me
      · refine (h.ext fun i _ => ?_).trans hb
        by_cases ei : i = me
        · rw [ei, setE_at, if_pos ed, ← ed, k2]
          simp
        · rw [setE_no _ ei, setE_no _ ei]
      · by_cases eb : b = me
        · refine (h.ext fun i _ => ?_).trans hb
          by_cases ei : i = me
          · rw [ei, setE_at, setE_at, if_neg ed, if_neg ed, if_pos eb, ← eb]
            simp [q2.1, q2.2, zb hb0]
          · rw [setE_no _ ei, setE_no _ ei]
        · refine (h.less (m := me) (by rw [hb]; exact fun x => eb x.symm) (fun i _ ei => by rw [setE_no _ ei, setE_no _ ei]) ?_).trans hb
          rw [setE_at, setE_at, if_neg ed, if_neg ed, if_neg eb, zb hme]
          rfl
    rw [go_eq (b2 := b) g1 g2 (fun e => absurd e hb0)]
    simp [hd0, hb0]
  · rfl
/-- One is designated, nobody takes itself for the backup: what is elected by me. -/
theorem el_nobody (h : BestOf el bt B) {d n : Int} (hd0 : d ≠ 0) (hd : B (fun i => dr i == i) = d) (hb : B (fun i => !(dr i == i) && bdr i == i) = 0) (hn : B (fun i => !(dr i == i)) = n) (me : Int) (hme : me ≠ 0) :
    (elE B me dr bdr).1 = d ∧ ((dr me ≠ me ∨ d = me) → (elE B me dr bdr).2 = n) ∧ ((∀ i, el i → dr i = i) → el me → d ≠ me → bdr me = 0 → (elE B me dr bdr).2 = me) := by
  obtain ⟨kd, k2, _⟩ := h.so _ (by rw [hd]; exact hd0)
  rw [hd] at k2 kd
  simp at k2
  have hg : goE B dr bdr = (d, n) := by
    rw [go_eq hd hb (fun _ => hn)]
    simp [hd0]
  unfold elE
  simp only [hg]
  have g1 := claim_set h hd0 hd hme
  split
  case isTrue hch =>
    by_cases ed : d = me
    · have g2 : B (fun i => !(setE dr me (if d = me then me else 0) i == i) && setE bdr me (if d = me then 0 else if n = me then me else 0) i == i) = 0 := by
        refine (h.ext fun i _ => ?_).trans hb
        by_cases ei : i = me
        · rw [ei, setE_at, if_pos ed, ← ed, k2]
          simp
        · rw [setE_no _ ei, setE_no _ ei]
      have g3 : B (fun i => !(setE dr me (if d = me then me else 0) i == i)) = n := by
        refine (h.ext fun i _ => ?_).trans hn
        by_cases ei : i = me
        · rw [ei, setE_at, if_pos ed, ← ed, k2]
        · rw [setE_no _ ei]
      rw [go_eq g1 g2 (fun _ => g3)]
      simp [hd0]
      exact fun _ _ x => absurd ed x
    · by_cases en : n = me
      · have hn0 : n ≠ 0 := by rw [en]; exact hme
        obtain ⟨n1, n2, _⟩ := h.so _ (by rw [hn]; exact hn0)
        rw [hn] at n1 n2
        simp at n2
        have g2 : B (fun i => !(setE dr me (if d = me then me else 0) i == i) && setE bdr me (if d = me then 0 else if n = me then me else 0) i == i) = n := by
          refine h.one n1 ?_ fun i hi hq => ?_
          · rw [en, setE_at, setE_at, if_neg ed, if_neg ed, if_pos rfl]
            simp [zb hme]
          · by_cases ei : i = me
            · rw [ei, en]
            · rw [setE_no _ ei, setE_no _ ei] at hq
              have := h.no _ hb i hi
              rw [this] at hq
              cases hq
        rw [go_eq (b2 := n) g1 g2 (fun e => absurd e hn0)]
        simp [hd0, hn0]
        intro _ _ _ _
        exact en
      · have g2 : B (fun i => !(setE dr me (if d = me then me else 0) i == i) && setE bdr me (if d = me then 0 else if n = me then me else 0) i == i) = 0 := by
          refine h.none fun i hi => ?_
          by_cases ei : i = me
          · rw [ei, setE_at, setE_at, if_neg ed, if_neg ed, if_neg en]
            simp
          · rw [setE_no _ ei, setE_no _ ei]
            exact h.no _ hb i hi
        rw [go_eq g1 g2 (fun _ => rfl)]
        simp only [hd0, if_false, if_true, true_and]
        refine ⟨fun hc => ?_, fun ha hel hdm hb0 => ?_⟩
        · have hc' : dr me ≠ me := by
            rcases hc with x | x
            · exact x
            · exact absurd x ed
          refine (h.ext fun i _ => ?_).trans hn
          by_cases ei : i = me
          · rw [ei, setE_at, if_neg ed]
            rw [zb hme, beq_eq_false_iff_ne.2 hc']
          · rw [setE_no _ ei]
        · refine h.one hel ?_ fun i hi hq => ?_
          · rw [setE_at, if_neg ed, zb hme]
            rfl
          · by_cases ei : i = me
            · exact ei
            · rw [setE_no _ ei, ha i hi] at hq
              simp at hq
  case isFalse hch =>
    refine ⟨rfl, fun _ => rfl, fun ha hel hdm hb0 => ?_⟩
    exfalso
    apply hch
    have := ha me hel
    simp [this, hdm]
end
end Go.Proofs.Ytedlkoecnnmihaa
