/- Candidates that elect again and again: no model. -/
import Derived.Test.YtjklbimneamcjaaEx
namespace Go.Proofs.Ytjklbimneamcjaa
/-- One round: each takes itself for what it elects with what all took ahead. -/
def turnC (M : List Cd) (c : Cd) : Cd := ⟨c.id, c.prio, (elecC M c.id).1, (elecC M c.id).2⟩
def roundC (M : List Cd) : List Cd := M.map (turnC M)
theorem round_keys (M : List Cd) : (roundC M).map keyC = M.map keyC := by
  unfold roundC
  rw [List.map_map]
  rfl
/-- So many rounds. -/
def roundsC : Nat → List Cd → List Cd
  | 0, M => M
  | k + 1, M => roundsC k (roundC M)
theorem rounds_next : ∀ (k : Nat) (M : List Cd), roundsC (k + 1) M = roundC (roundsC k M)
  | 0, _ => rfl
  | k + 1, M => rounds_next k (roundC M)
theorem rounds_keys : ∀ (k : Nat) (M : List Cd), (roundsC k M).map keyC = M.map keyC
  | 0, _ => rfl
  | k + 1, M => (rounds_keys k (roundC M)).trans (round_keys M)
/-- What candidates may take themselves for at the start. -/
def InitC (c : Cd) : Prop := (c.dr = 0 ∨ c.dr = c.id) ∧ (c.bdr = 0 ∨ c.bdr = c.id) ∧ (c.dr = 0 ∨ c.bdr = 0) ∧ (¬ 0 < c.prio → c.dr = 0 ∧ c.bdr = 0)
theorem mem_keys {L L' : List Cd} (h : L'.map keyC = L.map keyC) {i : Int} (hi : memC L i) : memC L' i := by
  obtain ⟨c, hc, rfl⟩ := hi
  obtain ⟨c', h1, h2, _⟩ := keys_mem h hc
  exact ⟨c', h1, h2⟩
theorem elecC_base {L M : List Cd} (ha : ApartC L) (hk : M.map keyC = L.map keyC) {i : Int} (hi : memC L i) : elecC M i = elE (bidC L) i (drC M) (bdrC M) :=
  elecC_of ha hk (fun _ hc => ⟨(drC_is (ha.keys hk) hc).symm, (bdrC_is (ha.keys hk) hc).symm⟩) hi
theorem round_claims {L M : List Cd} (ha : ApartC L) (hk : M.map keyC = L.map keyC) {i : Int} (hi : memC L i) : (drC (roundC M) i, bdrC (roundC M) i) = elE (bidC L) i (drC M) (bdrC M) := by
  rw [← elecC_base ha hk hi]
  obtain ⟨c, hc, rfl⟩ := mem_keys hk hi
  have haR := ha.keys ((round_keys M).trans hk)
  have hm : turnC M c ∈ roundC M := List.mem_map.2 ⟨c, hc, rfl⟩
  have h1 := drC_is haR hm
  have h2 := bdrC_is haR hm
  have e : (turnC M c).id = c.id := rfl
  rw [e] at h1 h2
  rw [h1, h2]
  rfl
/-- Behind two rounds all take the same two, and for good. -/
theorem settled {L : List Cd} (ha : ApartC L) (hi : ∀ c ∈ L, InitC c) : ∃ d b, (∀ c ∈ roundsC 2 L, c.dr = d ∧ c.bdr = b) ∧ ∀ M : List Cd, M.map keyC = L.map keyC → (∀ c ∈ M, c.dr = d ∧ c.bdr = b) → ∀ i, memC L i → elecC M i = (d, b) := by
  have hm : ∀ i, elC L i → memC L i := fun i => el_memC
  have k1 := round_keys L
  have k2 := (round_keys (roundC L)).trans k1
  obtain ⟨d, b, hs, hc⟩ := settles (el := elC L) (mem := memC L) (bt := btC L) (B := bidC L) (dr := drC L) (bdr := bdrC L) ha.best hm (fun i h => by
    obtain ⟨c, hc, rfl⟩ := h
    have := ha.2 c hc
    omega) (fun i h => by
    obtain ⟨c, hc, rfl⟩ := h
    rw [drC_is ha hc, bdrC_is ha hc]
    obtain ⟨h1, h2, h3, h4⟩ := hi c hc
    exact ⟨h1, h2, h3, fun hn => h4 fun hp => hn ⟨c, hc, rfl, hp⟩⟩) (drC (roundC L)) (bdrC (roundC L)) (drC (roundC (roundC L))) (bdrC (roundC (roundC L))) (fun i h => round_claims ha rfl h) (fun i h => round_claims ha k1 h)
  have ha2 := ha.keys k2
  refine ⟨d, b, fun c hcm => ?_, fun M hk hM i him => ?_⟩
  · change c ∈ roundC (roundC L) at hcm
    have := hc c.id (mem_keys k2.symm ⟨c, hcm, rfl⟩)
    rw [drC_is ha2 hcm, bdrC_is ha2 hcm] at this
    exact this
  · rw [elecC_of ha hk (d := fun _ => d) (b := fun _ => b) (fun c hc => hM c hc) him]
    exact hs.stands ha.best hm (fun _ => d) (fun _ => b) (fun _ _ => ⟨rfl, rfl⟩) i him
theorem settled_on {L : List Cd} (ha : ApartC L) (hi : ∀ c ∈ L, InitC c) : ∃ d b, ∀ k, (∀ c ∈ roundsC (k + 2) L, c.dr = d ∧ c.bdr = b) ∧ ∀ i, memC L i → elecC (roundsC (k + 2) L) i = (d, b) := by
  obtain ⟨d, b, h1, h2⟩ := settled ha hi
  refine ⟨d, b, fun k => ?_⟩
  induction k with
  | zero => exact ⟨h1, h2 _ (rounds_keys 2 L) h1⟩
  | succ k ih =>
    have hk := rounds_keys (k + 3) L
    have hc : ∀ c ∈ roundsC (k + 1 + 2) L, c.dr = d ∧ c.bdr = b := fun c hc => by
      rw [show k + 1 + 2 = (k + 2) + 1 from by omega, rounds_next] at hc
      obtain ⟨c', hc', rfl⟩ := List.mem_map.1 hc
      have := ih.2 c'.id (mem_keys (rounds_keys (k + 2) L).symm ⟨c', hc', rfl⟩)
      show (elecC (roundsC (k + 2) L) c'.id).1 = d ∧ (elecC (roundsC (k + 2) L) c'.id).2 = b
      rw [this]
      exact ⟨rfl, rfl⟩
    exact ⟨hc, h2 _ hk hc⟩
end Go.Proofs.Ytjklbimneamcjaa
