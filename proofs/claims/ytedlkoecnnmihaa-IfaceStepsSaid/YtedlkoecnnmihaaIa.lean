/- A router on a network, in plain words: no model. -/
import Derived.Test.YtedlkoecnnmihaaEx
namespace Go.Proofs.Ytedlkoecnnmihaa
/-- The best one hangs on who there is alone. -/
theorem best_same {el : Int → Prop} {bt : Int → Int → Prop} {B B' : (Int → Bool) → Int} (h : BestOf el bt B) (h' : BestOf el bt B') (q : Int → Bool) : B q = B' q := by
  by_cases hn : B' q = 0
  · rw [hn]
    exact h.none fun i hi => h'.no _ hn i hi
  · obtain ⟨h1, h2, h3⟩ := h'.so q hn
    exact h.is h1 h2 h3
theorem ApartC.perm {L L' : List Cd} (ha : ApartC L) (hp : L.Perm L') : ApartC L' :=
  ⟨(hp.map _).nodup_iff.1 ha.1, fun c hc => ha.2 c (hp.mem_iff.2 hc)⟩
theorem elC_perm {L L' : List Cd} (hp : L.Perm L') : elC L' = elC L := funext fun _ => propext ⟨fun ⟨c, h1, h2⟩ => ⟨c, hp.mem_iff.2 h1, h2⟩, fun ⟨c, h1, h2⟩ => ⟨c, hp.mem_iff.1 h1, h2⟩⟩
theorem btC_perm {L L' : List Cd} (hp : L.Perm L') : btC L' = btC L := funext fun _ => funext fun _ => propext
  ⟨fun ⟨c, h1, d, h2, h3⟩ => ⟨c, hp.mem_iff.2 h1, d, hp.mem_iff.2 h2, h3⟩, fun ⟨c, h1, d, h2, h3⟩ => ⟨c, hp.mem_iff.1 h1, d, hp.mem_iff.1 h2, h3⟩⟩
theorem bidC_perm {L L' : List Cd} (ha : ApartC L) (hp : L.Perm L') : bidC L' = bidC L := funext fun q => by
  have h' := (ha.perm hp).best
  rw [elC_perm hp, btC_perm hp] at h'
  exact best_same h' ha.best q
theorem drC_perm {L L' : List Cd} (ha : ApartC L) (hp : L.Perm L') : drC L' = drC L := funext fun i => by
  by_cases hm : ∃ c ∈ L, c.id = i
  · obtain ⟨c, hc, rfl⟩ := hm
    rw [drC_is ha hc, drC_is (ha.perm hp) (hp.mem_iff.1 hc)]
  · have n1 : L.find? (fun c => c.id == i) = none := List.find?_eq_none.2 fun c hc he => hm ⟨c, hc, eq_of_beq he⟩
    have n2 : L'.find? (fun c => c.id == i) = none := List.find?_eq_none.2 fun c hc he => hm ⟨c, hp.mem_iff.2 hc, eq_of_beq he⟩
    unfold drC
    rw [n1, n2]
theorem bdrC_perm {L L' : List Cd} (ha : ApartC L) (hp : L.Perm L') : bdrC L' = bdrC L := funext fun i => by
  by_cases hm : ∃ c ∈ L, c.id = i
  · obtain ⟨c, hc, rfl⟩ := hm
    rw [bdrC_is ha hc, bdrC_is (ha.perm hp) (hp.mem_iff.1 hc)]
  · have n1 : L.find? (fun c => c.id == i) = none := List.find?_eq_none.2 fun c hc he => hm ⟨c, hc, eq_of_beq he⟩
    have n2 : L'.find? (fun c => c.id == i) = none := List.find?_eq_none.2 fun c hc he => hm ⟨c, hp.mem_iff.2 hc, eq_of_beq he⟩
    unfold bdrC
    rw [n1, n2]
/-- An election hangs not on the list's order. -/
theorem elecC_perm {L L' : List Cd} (ha : ApartC L) (hp : L.Perm L') (me : Int) : elecC L' me = elecC L me := by
  have hm : (me ∈ L'.map (·.id)) = (me ∈ L.map (·.id)) := propext (hp.map _).mem_iff.symm
  unfold elecC goC
  rw [bidC_perm ha hp, drC_perm ha hp, bdrC_perm ha hp]
  simp only [hm]
/-- A router on a network. -/
structure If where
  self : Int
  prio : Int
  state : Int
  dr : Int
  bdr : Int
def sameI (x y : If) : Bool := x.self == y.self && (x.prio == y.prio && (x.state == y.state && (x.dr == y.dr && x.bdr == y.bdr)))
theorem sameI_iff {x y : If} : sameI x y = true ↔ x = y := by
  obtain ⟨x1, x2, x3, x4, x5⟩ := x
  obtain ⟨y1, y2, y3, y4, y5⟩ := y
  simp [sameI]
theorem sameI_self (x : If) : sameI x x = true := sameI_iff.2 rfl
def ownI (i : If) : Cd := ⟨i.self, i.prio, i.dr, i.bdr⟩
def afterI (i : If) (t : Int × Int) : If := ⟨i.self, i.prio, if t.1 = i.self then 4 else if t.2 = i.self then 3 else 2, t.1, t.2⟩
def voteI (i : If) (L : List Cd) : If := afterI i (elecC (ownI i :: L) i.self)
def votes (s e : Int) : Prop := (s = 1 ∧ (e = 2 ∨ e = 3)) ∨ ((s = 2 ∨ s = 3 ∨ s = 4) ∧ e = 4)
def downI (i : If) : If := ⟨i.self, i.prio, 0, 0, 0⟩
def upI (i : If) : If := ⟨i.self, i.prio, if 0 < i.prio then 1 else 2, 0, 0⟩
def stepI (i : If) (e : Int) (L : List Cd) : If :=
  if e = 1 then downI i else if i.state = 0 ∧ e = 0 then upI i else if (i.state = 1 ∧ (e = 2 ∨ e = 3)) ∨ ((i.state = 2 ∨ i.state = 3 ∨ i.state = 4) ∧ e = 4) then voteI i L else i
theorem step_down {i : If} {e : Int} {L : List Cd} (h : e = 1) : stepI i e L = downI i := if_pos h
theorem step_up {i : If} {e : Int} {L : List Cd} (h : i.state = 0 ∧ e = 0) : stepI i e L = upI i := by
  unfold stepI
  rw [if_neg (by omega), if_pos h]
theorem step_vote {i : If} {e : Int} {L : List Cd} (h : votes i.state e) : stepI i e L = voteI i L := by
  have h9 := h
  unfold votes at h9
  unfold stepI
  rw [if_neg (by omega), if_neg (by omega)]
  exact if_pos h
theorem step_still {i : If} {e : Int} {L : List Cd} (h1 : e ≠ 1) (h2 : ¬ (i.state = 0 ∧ e = 0)) (h3 : ¬ votes i.state e) : stepI i e L = i := by
  unfold stepI
  rw [if_neg h1, if_neg h2]
  exact if_neg h3
theorem apart_own {i : If} {L : List Cd} (ha : ApartC (ownI i :: L)) : 1 ≤ i.self := ha.2 (ownI i) List.mem_cons_self
/-- Who has elected elects the same again. -/
theorem vote_again {i : If} {L : List Cd} (ha : ApartC (ownI i :: L)) : voteI (voteI i L) L = voteI i L := by
  obtain ⟨d, b, he⟩ : ∃ d b, elecC (ownI i :: L) i.self = (d, b) := ⟨_, _, rfl⟩
  have h9 := (elecC_again ha (k := 0) (c := ownI i) rfl he).1
  have e1 : voteI i L = afterI i (d, b) := by rw [voteI, he]
  rw [e1]
  have e2 : ownI (afterI i (d, b)) :: L = (ownI i :: L).set 0 ⟨(ownI i).id, (ownI i).prio, d, b⟩ := rfl
  unfold voteI
  rw [e2, show (afterI i (d, b)).self = (ownI i).id from rfl, h9]
  rfl
/-- Who may not be elected isn't. -/
theorem vote_no {i : If} {L : List Cd} (ha : ApartC (ownI i :: L)) (h0 : i.prio = 0) : (voteI i L).dr ≠ i.self ∧ (voteI i L).bdr ≠ i.self := by
  have h1 := apart_own ha
  have hm : ¬ elC (ownI i :: L) i.self := fun ⟨c, hc, e, hp⟩ => by
    have := ha.unlike c hc (ownI i) List.mem_cons_self e
    rw [this] at hp
    change 0 < i.prio at hp
    omega
  have he : elecC (ownI i :: L) i.self = _ := elecC_in (c := ownI i) List.mem_cons_self
  have h2 := el_may ha.best i.self (drC (ownI i :: L)) (bdrC (ownI i :: L))
  rw [show i.self = (ownI i).id from rfl, ← he] at h2
  constructor
  · intro h
    change (elecC (ownI i :: L) i.self).1 = i.self at h
    have h3 := h2.1 (by show (elecC (ownI i :: L) i.self).1 ≠ 0; rw [h]; omega)
    change elC (ownI i :: L) (elecC (ownI i :: L) i.self).1 at h3
    rw [h] at h3
    exact hm h3
  · intro h
    change (elecC (ownI i :: L) i.self).2 = i.self at h
    have h3 := h2.2.1 (by show (elecC (ownI i :: L) i.self).2 ≠ 0; rw [h]; omega)
    change elC (ownI i :: L) (elecC (ownI i :: L) i.self).2 at h3
    rw [h] at h3
    exact hm h3
/-- What a state tells. -/
def Tells (x : If) : Prop := (x.state = 1 ∧ x.dr = 0 ∧ x.bdr = 0) ∨ ((x.state = 2 ∨ x.state = 3 ∨ x.state = 4) ∧ (x.state = 4 ↔ x.dr = x.self) ∧ (x.state = 3 ↔ x.bdr = x.self ∧ x.dr ≠ x.self) ∧ (x.prio = 0 → x.state = 2))
theorem vote_tells {i : If} {L : List Cd} (ha : ApartC (ownI i :: L)) : Tells (voteI i L) := by
  have hno := vote_no ha
  have e1 : (voteI i L).state = if (voteI i L).dr = i.self then 4 else if (voteI i L).bdr = i.self then 3 else 2 := rfl
  have e2 : (voteI i L).self = i.self := rfl
  have e3 : (voteI i L).prio = i.prio := rfl
  unfold Tells
  rw [e2, e3, e1]
  generalize (voteI i L).dr = d at *
  generalize (voteI i L).bdr = b at *
  right
  by_cases h1 : d = i.self
  · rw [if_pos h1]
    refine ⟨by omega, by simp [h1], by simp [h1], fun h => absurd h1 (hno h).1⟩
  · rw [if_neg h1]
    by_cases h2 : b = i.self
    · rw [if_pos h2]
      refine ⟨by omega, by simp [h1], by simp [h1, h2], fun h => absurd h2 (hno h).2⟩
    · rw [if_neg h2]
      exact ⟨by omega, by simp [h1], by simp [h2], fun _ => rfl⟩
end Go.Proofs.Ytedlkoecnnmihaa
