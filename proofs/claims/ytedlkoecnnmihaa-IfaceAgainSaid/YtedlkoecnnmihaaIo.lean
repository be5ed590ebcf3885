/- Steps of a router: who it is stays; a second election changes nothing; equality of candidates. Conditions: what stands ahead of each. -/
import Derived.Test.YtedlkoecnnmihaaIm
namespace Go.Proofs.Ytedlkoecnnmihaa
open Go.RowKit
theorem step_cases (i : If) (e : Int) (L : List Cd) : stepI i e L = downI i ∨ stepI i e L = upI i ∨ stepI i e L = voteI i L ∨ stepI i e L = i := by
  by_cases h1 : e = 1
  · exact .inl (step_down h1)
  · by_cases h2 : i.state = 0 ∧ e = 0
    · exact .inr (.inl (step_up h2))
    · by_cases h3 : votes i.state e
      · exact .inr (.inr (.inl (step_vote h3)))
      · exact .inr (.inr (.inr (step_still h1 h2 h3)))
theorem step_self (i : If) (e : Int) (L : List Cd) : (stepI i e L).self = i.self := by
  rcases step_cases i e L with h | h | h | h <;> rw [h] <;> rfl
theorem step_prio (i : If) (e : Int) (L : List Cd) : (stepI i e L).prio = i.prio := by
  rcases step_cases i e L with h | h | h | h <;> rw [h] <;> rfl
theorem vote_state (i : If) (L : List Cd) : (voteI i L).state = 2 ∨ (voteI i L).state = 3 ∨ (voteI i L).state = 4 := by
  unfold voteI afterI
  dsimp only
  split
  · exact .inr (.inr rfl)
  · split
    · exact .inr (.inl rfl)
    · exact .inl rfl
theorem step_wf {i : If} (h : wf64 i.state) (e : Int) (L : List Cd) : wf64 (stepI i e L).state := by
  unfold wf64 at *
  rcases step_cases i e L with h1 | h1 | h1 | h1 <;> rw [h1]
  · show -9223372036854775808 ≤ (0 : Int) ∧ (0 : Int) ≤ 9223372036854775807
    omega
  · unfold upI
    dsimp only
    split <;> omega
  · rcases vote_state i L with h2 | h2 | h2 <;> rw [h2] <;> omega
  · exact h
theorem apart_if {i x : If} {L : List Cd} (hs : x.self = i.self) (ha : ApartC (ownI i :: L)) : ApartC (ownI x :: L) := by
  obtain ⟨h1, h2⟩ := ha
  have e : (ownI x :: L).map (·.id) = (ownI i :: L).map (·.id) := by
    simp only [List.map_cons]
    rw [show (ownI x).id = (ownI i).id from hs]
  refine ⟨by rw [e]; exact h1, fun c hc => ?_⟩
  rcases List.mem_cons.1 hc with rfl | hc
  · rw [show (ownI x).id = (ownI i).id from hs]
    exact h2 _ List.mem_cons_self
  · exact h2 c (List.mem_cons_of_mem _ hc)
/-- Behind an election another one with the same others changes nothing. -/
theorem step_again {i : If} {L : List Cd} (ha : ApartC (ownI i :: L)) : stepI (stepI i 4 L) 4 L = stepI i 4 L := by
  by_cases h3 : votes i.state 4
  · have e1 : stepI i 4 L = voteI i L := step_vote h3
    rw [e1]
    have h4 : votes (voteI i L).state 4 := .inr ⟨vote_state i L, rfl⟩
    rw [step_vote h4, vote_again ha]
  · have e1 : stepI i 4 L = i := step_still (by omega) (by omega) h3
    rw [e1, e1]
def sameC (x y : Cd) : Bool := x.id == y.id && (x.prio == y.prio && (x.dr == y.dr && x.bdr == y.bdr))
theorem sameC_self (x : Cd) : sameC x x = true := by simp [sameC]
theorem equalC (x y : Cd) (W : World) : (Op.equalIn 10000 31 (.agg #[.int .i64 x.id, .int .i64 x.prio, .int .i64 x.dr, .int .i64 x.bdr]) (.agg #[.int .i64 y.id, .int .i64 y.prio, .int .i64 y.dr, .int .i64 y.bdr])).run Try.prog W = .ok (sameC x y) W := by
  have q0 : ∀ z : Cd, (part 3 #[.int .i64 z.id, .int .i64 z.prio, .int .i64 z.dr, .int .i64 z.bdr] 0).run Try.prog W = .ok (.int .i64 z.id) W := fun z => run_part_plain W plain3 rfl
  have q1 : ∀ z : Cd, (part 3 #[.int .i64 z.id, .int .i64 z.prio, .int .i64 z.dr, .int .i64 z.bdr] 1).run Try.prog W = .ok (.int .i64 z.prio) W := fun z => run_part_plain W plain3 rfl
  have q2 : ∀ z : Cd, (part 3 #[.int .i64 z.id, .int .i64 z.prio, .int .i64 z.dr, .int .i64 z.bdr] 2).run Try.prog W = .ok (.int .i64 z.dr) W := fun z => run_part_plain W plain3 rfl
  have q3 : ∀ z : Cd, (part 3 #[.int .i64 z.id, .int .i64 z.prio, .int .i64 z.dr, .int .i64 z.bdr] 3).run Try.prog W = .ok (.int .i64 z.bdr) W := fun z => run_part_plain W plain3 rfl
  rw [show (10000 : Nat) = 9998 + 1 + 1 from rfl, run_equalIn_struct W (9998 + 1) _ _ _ under31 stood31]
  simp [Program.fieldsOf, Try.underlying31, Op.eqFields, q0, q1, q2, q3, eqInt]
  clear q0 q1 q2 q3
  unfold sameC
  by_cases h1 : x.id = y.id
  · by_cases h2 : x.prio = y.prio
    · by_cases h3 : x.dr = y.dr
      · by_cases h4 : x.bdr = y.bdr <;> simp [h1, h2, h3, h4]
      · simp [h1, h2, h3]
    · simp [h1, h2]
  · simp [h1]
end Go.Proofs.Ytedlkoecnnmihaa
