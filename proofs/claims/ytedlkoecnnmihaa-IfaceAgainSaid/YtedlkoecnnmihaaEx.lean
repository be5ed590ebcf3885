/- Elections of lists that differ in their claims alone: no model. -/
import Derived.Test.YtedlkoecnnmihaaEk
namespace Go.Proofs.Ytedlkoecnnmihaa
/-- Claims that are the same for all that are there: the same election. -/
theorem elE_ext {el mem : Int → Prop} {bt : Int → Int → Prop} {B : (Int → Bool) → Int} (h : BestOf el bt B) (hm : ∀ i, el i → mem i) {dr bdr dr' bdr' : Int → Int} (hc : ∀ i, mem i → dr' i = dr i ∧ bdr' i = bdr i) {me : Int} (hme : mem me) : elE B me dr' bdr' = elE B me dr bdr := by
  have hg : goE B dr' bdr' = goE B dr bdr := go_ext h (fun i hi => by rw [(hc i (hm i hi)).1]) (fun i hi => by rw [(hc i (hm i hi)).2])
  have hs : ∀ u v, goE B (setE dr' me u) (setE bdr' me v) = goE B (setE dr me u) (setE bdr me v) := fun u v => by
    refine go_ext h (fun i hi => ?_) (fun i hi => ?_)
    · by_cases e : i = me
      · rw [e, setE_at, setE_at]
      · rw [setE_no _ e, setE_no _ e, (hc i (hm i hi)).1]
    · by_cases e : i = me
      · rw [e, setE_at, setE_at, setE_at]
      · rw [setE_no _ e, setE_no _ e, setE_no _ e, (hc i (hm i hi)).2]
  unfold elE
  simp only [hg, hs, (hc me hme).1, (hc me hme).2]
def memC (L : List Cd) (i : Int) : Prop := ∃ c ∈ L, c.id = i
theorem el_memC {L : List Cd} {i : Int} (h : elC L i) : memC L i := by
  obtain ⟨c, hc, e, _⟩ := h
  exact ⟨c, hc, e⟩
theorem elecC_of {L L' : List Cd} (ha : ApartC L) (hk : L'.map keyC = L.map keyC) {d b : Int → Int} (h : ∀ c ∈ L', c.dr = d c.id ∧ c.bdr = b c.id) {me : Int} (hme : memC L me) : elecC L' me = elE (bidC L) me d b := by
  have ha' := ha.keys hk
  have hb : bidC L' = bidC L := funext fun q => bidC_ext hk ha.unlike ha.2 ha'.unlike q
  obtain ⟨c, hc, rfl⟩ := hme
  obtain ⟨c', h1, h2, _⟩ := keys_mem hk hc
  rw [← h2, elecC_in h1, hb]
  refine elE_ext (mem := memC L) ha.best (fun i => el_memC) (fun i hi => ?_) ⟨c, hc, h2.symm⟩
  obtain ⟨e, he, rfl⟩ := hi
  obtain ⟨e', g1, g2, _⟩ := keys_mem hk he
  rw [← g2, drC_is ha' g1, bdrC_is ha' g1]
  exact h e' g1
/-- Who has elected, and takes itself for what came of it, elects the same again. -/
theorem elecC_again {L : List Cd} (ha : ApartC L) {k : Nat} {c : Cd} (hc : L[k]? = some c) {d b : Int} (he : elecC L c.id = (d, b)) : elecC (L.set k ⟨c.id, c.prio, d, b⟩) c.id = (d, b) ∧ (d ≠ b ∨ d = 0 ∨ d ≠ c.id) := by
  have hcm := List.mem_of_getElem? hc
  have h0 : c.id ≠ 0 := by have := ha.2 c hcm; omega
  rw [elecC_in hcm] at he
  have h9 := el_again ha.best h0 he
  rw [elecC_of ha (set_keys (c' := ⟨c.id, c.prio, d, b⟩) hc rfl) (d := setE (drC L) c.id d) (b := setE (bdrC L) c.id b) (fun e hem => ?_) ⟨c, hcm, rfl⟩]
  · exact h9
  · rcases mem_set hem with rfl | ⟨j, hj, hje⟩
    · simp only [setE_at, and_self]
    · have hne : e.id ≠ c.id := fun x => hj (ha.at_inj hje hc x)
      have hem' := List.mem_of_getElem? hje
      rw [setE_no _ hne, setE_no _ hne, drC_is ha hem', bdrC_is ha hem']
      exact ⟨rfl, rfl⟩
end Go.Proofs.Ytedlkoecnnmihaa
