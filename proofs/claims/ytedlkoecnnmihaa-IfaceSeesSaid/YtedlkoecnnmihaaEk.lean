/- Elections of a list of candidates, in plain words: no model. -/
import Derived.Test.YtedlkoecnnmihaaEh
namespace Go.Proofs.Ytedlkoecnnmihaa

/-- Numbers are unlike, from 1 on. -/
def ApartC (L : List Cd) : Prop := (L.map (·.id)).Nodup ∧ ∀ c ∈ L, 1 ≤ c.id
theorem nodup_unlike : ∀ {L : List Cd}, (L.map (·.id)).Nodup → UnlikeC L
  | [], _ => fun a ha => by cases ha
  | c :: l, h => by
    rw [List.map_cons, List.nodup_cons] at h
    intro a ha b hb e
    rcases List.mem_cons.1 ha with ea | ha'
    · rcases List.mem_cons.1 hb with eb | hb'
      · rw [ea, eb]
      · exact absurd (List.mem_map.2 ⟨b, hb', by rw [← e, ea]⟩) h.1
    · rcases List.mem_cons.1 hb with eb | hb'
      · exact absurd (List.mem_map.2 ⟨a, ha', by rw [e, eb]⟩) h.1
      · exact nodup_unlike h.2 a ha' b hb' e
theorem ApartC.unlike {L : List Cd} (h : ApartC L) : UnlikeC L := nodup_unlike h.1
theorem ApartC.best {L : List Cd} (h : ApartC L) : BestOf (elC L) (btC L) (bidC L) := bidC_best h.unlike h.2
theorem ApartC.at_inj {L : List Cd} (h : ApartC L) {i j : Nat} {x y : Cd} (hi : L[i]? = some x) (hj : L[j]? = some y) (e : x.id = y.id) : i = j := by
  have h1 : (L.map (·.id))[i]? = some x.id := by rw [List.getElem?_map, hi]; rfl
  have h2 : (L.map (·.id))[j]? = some y.id := by rw [List.getElem?_map, hj]; rfl
  have hl := (List.getElem?_eq_some_iff.1 h1).1
  rw [← e] at h2
  exact (List.getElem?_inj hl h.1).1 (h1.trans h2.symm)
/-- What a candidate's number and priority are. -/
def keyC (c : Cd) : Int × Int := (c.id, c.prio)
theorem keys_ids {L L' : List Cd} (h : L'.map keyC = L.map keyC) : L'.map (·.id) = L.map (·.id) := by
  have e : ∀ M : List Cd, M.map (·.id) = (M.map keyC).map Prod.fst := fun M => by rw [List.map_map]; rfl
  rw [e, e, h]
theorem keys_mem {L L' : List Cd} (h : L'.map keyC = L.map keyC) {c : Cd} (hc : c ∈ L) : ∃ c' ∈ L', c'.id = c.id ∧ c'.prio = c.prio := by
  have h1 : keyC c ∈ L'.map keyC := h ▸ List.mem_map.2 ⟨c, hc, rfl⟩
  obtain ⟨c', h2, h3⟩ := List.mem_map.1 h1
  exact ⟨c', h2, congrArg Prod.fst h3, congrArg Prod.snd h3⟩
theorem ApartC.keys {L L' : List Cd} (ha : ApartC L) (h : L'.map keyC = L.map keyC) : ApartC L' := by
  refine ⟨by rw [keys_ids h]; exact ha.1, fun c hc => ?_⟩
  obtain ⟨c', h1, h2, _⟩ := keys_mem h.symm hc
  rw [← h2]
  exact ha.2 c' h1
def drC (L : List Cd) (i : Int) : Int := ((L.find? fun c => c.id == i).map (·.dr)).getD 0
def bdrC (L : List Cd) (i : Int) : Int := ((L.find? fun c => c.id == i).map (·.bdr)).getD 0
theorem find_is {L : List Cd} (ha : ApartC L) {c : Cd} (hc : c ∈ L) : L.find? (fun x => x.id == c.id) = some c := by
  cases hf : L.find? (fun x => x.id == c.id) with
  | none =>
    have := List.find?_eq_none.1 hf c hc
    simp at this
  | some x =>
    have h1 := List.mem_of_find?_eq_some hf
    have h2 := List.find?_some hf
    rw [ha.unlike x h1 c hc (eq_of_beq h2)]
theorem drC_is {L : List Cd} (ha : ApartC L) {c : Cd} (hc : c ∈ L) : drC L c.id = c.dr := by rw [drC, find_is ha hc]; rfl
theorem bdrC_is {L : List Cd} (ha : ApartC L) {c : Cd} (hc : c ∈ L) : bdrC L c.id = c.bdr := by rw [bdrC, find_is ha hc]; rfl
/-- One go, and an election by me. -/
def goC (L : List Cd) : Int × Int := goE (bidC L) (drC L) (bdrC L)
def elecC (L : List Cd) (me : Int) : Int × Int := if me ∈ L.map (·.id) then elE (bidC L) me (drC L) (bdrC L) else goC L
theorem elecC_in {L : List Cd} {c : Cd} (hc : c ∈ L) : elecC L c.id = elE (bidC L) c.id (drC L) (bdrC L) := if_pos (List.mem_map.2 ⟨c, hc, rfl⟩)
theorem elecC_out {L : List Cd} {me : Int} (h : ∀ c ∈ L, c.id ≠ me) : elecC L me = goC L := if_neg fun hm => by
  obtain ⟨c, hc, e⟩ := List.mem_map.1 hm
  exact h c hc e
/-- A list of the same numbers and priorities: its go is a go with whatever claims come to the same. -/
theorem goC_of {L L' : List Cd} (ha : ApartC L) (hm : L'.map keyC = L.map keyC) {d b : Int → Int} (h : ∀ c ∈ L', (d c.id == c.id) = (c.dr == c.id) ∧ (!(c.dr == c.id) && b c.id == c.id) = (!(c.dr == c.id) && c.bdr == c.id)) :
    goC L' = goE (bidC L) d b := by
  have ha' := ha.keys hm
  have hb : bidC L' = bidC L := funext fun q => bidC_ext hm ha.unlike ha.2 ha'.unlike q
  unfold goC
  rw [hb]
  refine (go_ext ha.best (fun i hi => ?_) (fun i hi => ?_)).symm
  · obtain ⟨c, hc, rfl, _⟩ := hi
    obtain ⟨c', h1, h2, _⟩ := keys_mem hm hc
    rw [← h2, drC_is ha' h1]
    exact (h c' h1).1
  · obtain ⟨c, hc, rfl, _⟩ := hi
    obtain ⟨c', h1, h2, _⟩ := keys_mem hm hc
    rw [← h2, drC_is ha' h1, bdrC_is ha' h1]
    exact (h c' h1).2
theorem set_keys {L : List Cd} {i : Nat} {c c' : Cd} (hc : L[i]? = some c) (h : keyC c' = keyC c) : (L.set i c').map keyC = L.map keyC := by
  rw [List.map_set, h]
  apply List.ext_getElem?
  intro j
  rw [List.getElem?_set]
  by_cases e : i = j
  · subst e
    have hl := (List.getElem?_eq_some_iff.1 hc).1
    rw [if_pos rfl, if_pos (by simpa using hl), List.getElem?_map, hc]
    rfl
  · rw [if_neg e]
theorem mem_set {L : List Cd} {i : Nat} {c' e : Cd} (h : e ∈ L.set i c') : e = c' ∨ ∃ j, j ≠ i ∧ L[j]? = some e := by
  obtain ⟨j, hj⟩ := List.getElem?_of_mem h
  rw [List.getElem?_set] at hj
  by_cases e : i = j
  · rw [if_pos e] at hj
    split at hj
    · simp at hj
      exact Or.inl hj.symm
    · cases hj
  · rw [if_neg e] at hj
    exact Or.inr ⟨j, fun x => e x.symm, hj⟩
/-- One of them takes itself for something else. -/
theorem goC_set {L : List Cd} (ha : ApartC L) {i : Nat} {c : Cd} (hc : L[i]? = some c) (d b : Int) : goC (L.set i ⟨c.id, c.prio, d, b⟩) = goE (bidC L) (setE (drC L) c.id d) (setE (bdrC L) c.id b) := by
  have hcm := List.mem_of_getElem? hc
  refine goC_of ha (set_keys (c' := ⟨c.id, c.prio, d, b⟩) hc rfl) fun e he => ?_
  rcases mem_set he with rfl | ⟨j, hj, hje⟩
  · simp only [setE_at, and_self]
  · have hne : e.id ≠ c.id := fun x => hj (ha.at_inj hje hc x)
    have hem := List.mem_of_getElem? hje
    rw [setE_no _ hne, setE_no _ hne, drC_is ha hem, bdrC_is ha hem]
    exact ⟨rfl, rfl⟩
theorem beq0 {a me : Int} (h : me ≠ 0) : ((if a = me then me else 0) == me) = (a == me) := by
  by_cases e : a = me
  · simp [e]
  · rw [if_neg e, zb h]
    exact (beq_eq_false_iff_ne.2 e).symm
/-- The program's election, nothing changes. -/
theorem elec_still {L : List Cd} (ha : ApartC L) {c : Cd} (hc : c ∈ L) {t : Int × Int} (ht : goC L = t) (h : (((if t.1 = c.id then c.id else 0) == c.id) == (c.dr == c.id) && ((if t.2 = c.id then c.id else 0) == c.id) == (c.bdr == c.id)) = true) : elecC L c.id = t := by
  have h0 : c.id ≠ 0 := by have := ha.2 c hc; omega
  rw [elecC_in hc]
  unfold elE
  change goE (bidC L) (drC L) (bdrC L) = t at ht
  simp only [ht, drC_is ha hc, bdrC_is ha hc]
  rw [beq0 h0, beq0 h0] at h
  rw [if_neg]
  simp at h ⊢
  exact h
theorem elec_turns {L : List Cd} (ha : ApartC L) {i : Nat} {c : Cd} (hc : L[i]? = some c) {t : Int × Int} (ht : goC L = t) (h : (((if t.1 = c.id then c.id else 0) == c.id) == (c.dr == c.id) && ((if t.2 = c.id then c.id else 0) == c.id) == (c.bdr == c.id)) = false) :
    elecC L c.id = goC (L.set i ⟨c.id, c.prio, if t.1 = c.id then c.id else 0, if t.2 = c.id then c.id else 0⟩) := by
  have hcm := List.mem_of_getElem? hc
  have h0 : c.id ≠ 0 := by have := ha.2 c hcm; omega
  rw [elecC_in hcm, goC_set ha hc]
  unfold elE
  change goE (bidC L) (drC L) (bdrC L) = t at ht
  simp only [ht, drC_is ha hcm, bdrC_is ha hcm]
  rw [beq0 h0, beq0 h0] at h
  rw [if_pos]
  · refine go_ext ha.best (fun _ _ => rfl) (fun i _ => ?_)
    by_cases e : i = c.id
    · rw [e, setE_at, setE_at, setE_at]
      by_cases e1 : t.1 = c.id
      · rw [if_pos e1]
        simp
      · rw [if_neg e1]
        simp only [if_neg e1]
    · rw [setE_no _ e, setE_no _ e, setE_no _ e]
  · simp at h ⊢
    by_cases e : (t.1 == c.id) = (c.dr == c.id)
    · exact Or.inr (h e)
    · exact Or.inl e
/-- The program's one go. -/
theorem bestP_dr {L : List Cd} (ha : ApartC L) : (bestP (fun c => c.dr == c.id) L).id = bidC L (fun i => drC L i == i) := bestP_is ha.unlike ha.2 fun c hc => by rw [drC_is ha hc]
theorem bestP_b {L : List Cd} (ha : ApartC L) : (bestP (fun c => !(c.dr == c.id) && c.bdr == c.id) L).id = bidC L (fun i => !(drC L i == i) && bdrC L i == i) := bestP_is ha.unlike ha.2 fun c hc => by rw [drC_is ha hc, bdrC_is ha hc]
theorem bestP_n {L : List Cd} (ha : ApartC L) : (bestP (fun c => !(c.dr == c.id)) L).id = bidC L (fun i => !(drC L i == i)) := bestP_is ha.unlike ha.2 fun c hc => by rw [drC_is ha hc]
theorem goP_is (L : List Cd) : (if bidC L (fun i => drC L i == i) = 0 then (if bidC L (fun i => !(drC L i == i) && bdrC L i == i) = 0 then bidC L (fun i => !(drC L i == i)) else bidC L (fun i => !(drC L i == i) && bdrC L i == i)) else bidC L (fun i => drC L i == i), if bidC L (fun i => !(drC L i == i) && bdrC L i == i) = 0 then bidC L (fun i => !(drC L i == i)) else bidC L (fun i => !(drC L i == i) && bdrC L i == i)) = goC L := rfl
end Go.Proofs.Ytedlkoecnnmihaa
