/- Who is to know the same: the program's way and the reference's. No conditions. -/
import Derived.Test.YtohfoopagbajnaaDoorNb
namespace Go.Proofs.YtohfoopagbajnaaDoor
open Go.RowKit Go.Deep
/-- A router on a network. -/
structure If where
  self : Int
  prio : Int
  state : Int
  dr : Int
  bdr : Int
def chosenF (i : If) (x : Int) : Bool := x != 0 && (x == i.dr || x == i.bdr)
def adjF (i : If) (x : Int) : Bool := chosenF i i.self || chosenF i x
def otherI (i : If) (x : Int) : If := ⟨x, i.prio, i.state, i.dr, i.bdr⟩
theorem adj_other (i : If) (x : Int) : adjF (otherI i x) i.self = adjF i x := by
  unfold adjF chosenF otherI
  exact Bool.or_comm _ _
def pickF (d s x : Int) : Bool := d != 0 && (d == s || d == x)
def refAdj (i : If) (x : Int) : Bool := pickF i.dr i.self x || pickF i.bdr i.self x
theorem adj_ref (i : If) (x : Int) : adjF i x = refAdj i x := by
  have h : (adjF i x = true) ↔ (refAdj i x = true) := by
    simp only [adjF, refAdj, chosenF, pickF, Bool.or_eq_true, Bool.and_eq_true, beq_iff_eq, bne_iff_ne, ne_eq]
    omega
  exact Bool.eq_iff_iff.2 h

theorem chosen_cases (x d b : Int) : ((x != 0) = false ∧ (x != 0 && (x == d || x == b)) = false) ∨ ((x != 0) = true ∧ (x == d) = true ∧ (x != 0 && (x == d || x == b)) = true) ∨ ((x != 0) = true ∧ (x == d) = false ∧ (x == b) = true ∧ (x != 0 && (x == d || x == b)) = true) ∨ ((x != 0) = true ∧ (x == d) = false ∧ (x == b) = false ∧ (x != 0 && (x == d || x == b)) = false) := by
  cases x != 0 <;> cases x == d <;> cases x == b <;> simp

set_option maxRecDepth 8000 in
set_option maxHeartbeats 2000000 in
theorem chosen_any (i : If) (x : Int) (w : World) :
    Calls Tryd.prog 14 #[.agg #[.int .i64 i.self, .int .i64 i.prio, .int .i64 i.state, .int .i64 i.dr, .int .i64 i.bdr], .int .i64 x] w fun e w' => e = .returned (.bool (chosenF i x)) ∧ Below w.heap.size w w' := by
  have B0 := Lib.hid ((Below.refl w.heap.size w).alloc (Nat.le_refl _) (.cells #[.int .i64 i.self, .int .i64 i.prio, .int .i64 i.state, .int .i64 i.dr, .int .i64 i.bdr] 31))
  have HC := chosen_cases x i.dr i.bdr
  go_enter Tryd.func14, Tryd.ntmps14
  change _ ∨ _ at HC
  unfold chosenF
  rcases HC with ⟨d0, h⟩ | ⟨d0, d1, h⟩ | ⟨d0, d1, d2, h⟩ | ⟨d0, d1, d2, h⟩
  · rw [h]
    clear h
    go_wp2
    go_ret
    exact ⟨rfl, B0.out⟩
  · rw [h]
    clear h
    go_wp2
    go_ret
    exact ⟨rfl, B0.out⟩
  · rw [h]
    clear h
    go_wp2
    go_ret
    exact ⟨rfl, B0.out⟩
  · rw [h]
    clear h
    go_wp2
    go_ret
    exact ⟨rfl, B0.out⟩
set_option maxRecDepth 8000 in
set_option maxHeartbeats 2000000 in
theorem adj_any (i : If) (x : Int) (w : World) :
    Calls Tryd.prog 11 #[.agg #[.int .i64 i.self, .int .i64 i.prio, .int .i64 i.state, .int .i64 i.dr, .int .i64 i.bdr], .int .i64 x] w fun e w' => e = .returned (.bool (adjF i x)) ∧ Below w.heap.size w w' := by
  have B0 := Lib.hid ((Below.refl w.heap.size w).alloc (Nat.le_refl _) (.cells #[.int .i64 i.self, .int .i64 i.prio, .int .i64 i.state, .int .i64 i.dr, .int .i64 i.bdr] 31))
  have K0 := Lib.hid (Blk.new w 31 #[.int .i64 i.self, .int .i64 i.prio, .int .i64 i.state, .int .i64 i.dr, .int .i64 i.bdr])
  obtain ⟨v, hv⟩ : ∃ v, v = adjF i x := ⟨_, rfl⟩
  rw [← hv]
  have HV := Lib.hid hv
  clear hv
  go_enter Tryd.func11, Tryd.ntmps11
  go_wp2_with fail
  refine (chosen_any i i.self _).mono ?_
  rintro e1 w1 ⟨rfl, hb1⟩
  have B1 := Lib.hid (B0.out.trans (hb1.mono (by simp)))
  have K1 := Lib.hid (K0.out.below hb1 (by simp))
  clear hb1
  obtain ⟨k0, k1, k2, k3, k4⟩ := K1.out.five
  have hsz := B1.out.size
  cases hc : chosenF i i.self
  · have HE := Lib.hid (show chosenF i x = v by rw [HV.out, adjF, hc]; simp)
    clear hc
    go_wp2_with fail
    refine (chosen_any i x _).mono ?_
    rintro e2 w2 ⟨rfl, hb2⟩
    rw [HE.out]
    have B2 := Lib.hid (B1.out.trans (hb2.mono hsz))
    clear hb2
    go_wp2
    go_ret
    exact ⟨rfl, B2.out⟩
  · have HE := Lib.hid (show true = v by rw [HV.out, adjF, hc]; simp)
    clear hc
    go_wp2
    go_ret
    exact ⟨by rw [HE.out]; rfl, B1.out⟩

theorem pick_cases (d s x : Int) : ((d != 0) = false ∧ (d != 0 && (d == s || d == x)) = false) ∨ ((d != 0) = true ∧ (d == s) = true ∧ (d != 0 && (d == s || d == x)) = true) ∨ ((d != 0) = true ∧ (d == s) = false ∧ (d == x) = true ∧ (d != 0 && (d == s || d == x)) = true) ∨ ((d != 0) = true ∧ (d == s) = false ∧ (d == x) = false ∧ (d != 0 && (d == s || d == x)) = false) := chosen_cases d s x
set_option maxRecDepth 8000 in
set_option maxHeartbeats 4000000 in
theorem radj_any (i : If) (x : Int) (w : World) :
    Calls Tryd.prog 12 #[.agg #[.int .i64 i.self, .int .i64 i.prio, .int .i64 i.state, .int .i64 i.dr, .int .i64 i.bdr], .int .i64 x] w fun e w' => e = .returned (.bool (adjF i x)) ∧ Below w.heap.size w w' := by
  have B0 := Lib.hid ((Below.refl w.heap.size w).alloc (Nat.le_refl _) (.cells #[.int .i64 i.self, .int .i64 i.prio, .int .i64 i.state, .int .i64 i.dr, .int .i64 i.bdr] 31))
  have K0 := Lib.hid (Blk.new w 31 #[.int .i64 i.self, .int .i64 i.prio, .int .i64 i.state, .int .i64 i.dr, .int .i64 i.bdr])
  rw [adj_ref]
  obtain ⟨v, hv⟩ : ∃ v, v = refAdj i x := ⟨_, rfl⟩
  rw [← hv]
  have HV := Lib.hid (show (pickF i.dr i.self x || pickF i.bdr i.self x) = v from hv.symm)
  have HC := Lib.hid (pick_cases i.dr i.self x)
  have HD := Lib.hid (pick_cases i.bdr i.self x)
  clear hv
  go_enter Tryd.func12, Tryd.ntmps12
  obtain ⟨k0, k1, k2, k3, k4⟩ := K0.out.five
  generalize hw1 : w.alloc (.cells #[.int .i64 i.self, .int .i64 i.prio, .int .i64 i.state, .int .i64 i.dr, .int .i64 i.bdr] 31) = w1 at *
  obtain ⟨si, pi, ti, di, bi⟩ := i
  dsimp only at *
  rcases HC.out with ⟨d0, h⟩ | ⟨d0, d1, h⟩ | ⟨d0, d1, d2, h⟩ | ⟨d0, d1, d2, h⟩
  · have h1 : pickF di si x = false := h
    rw [h1] at HV
    clear h h1 HC
    rcases HD.out with ⟨e0, h⟩ | ⟨e0, e1, h⟩ | ⟨e0, e1, e2, h⟩ | ⟨e0, e1, e2, h⟩
    · have HE := Lib.hid (show false = v by have h1 : pickF bi si x = false := h; simpa [h1] using HV.out)
      clear HV HD h
      go_wp2
      go_ret
      exact ⟨by rw [HE.out]; rfl, B0.out⟩
    · have HE := Lib.hid (show true = v by have h1 : pickF bi si x = true := h; simpa [h1] using HV.out)
      clear HV HD h
      go_wp2
      go_ret
      exact ⟨by rw [HE.out]; rfl, B0.out⟩
    · have HE := Lib.hid (show true = v by have h1 : pickF bi si x = true := h; simpa [h1] using HV.out)
      clear HV HD h
      go_wp2
      go_ret
      exact ⟨by rw [HE.out]; rfl, B0.out⟩
    · have HE := Lib.hid (show false = v by have h1 : pickF bi si x = false := h; simpa [h1] using HV.out)
      clear HV HD h
      go_wp2
      go_ret
      exact ⟨by rw [HE.out]; rfl, B0.out⟩
  · have h1 : pickF di si x = true := h
    rw [h1] at HV
    clear h h1 HC
    have HE := Lib.hid (show true = v by simpa using HV.out)
    clear HV HD
    go_wp2
    go_ret
    exact ⟨by rw [HE.out]; rfl, B0.out⟩
  · have h1 : pickF di si x = true := h
    rw [h1] at HV
    clear h h1 HC
    have HE := Lib.hid (show true = v by simpa using HV.out)
    clear HV HD
    go_wp2
    go_ret
    exact ⟨by rw [HE.out]; rfl, B0.out⟩
  · have h1 : pickF di si x = false := h
    rw [h1] at HV
    clear h h1 HC
    rcases HD.out with ⟨e0, h⟩ | ⟨e0, e1, h⟩ | ⟨e0, e1, e2, h⟩ | ⟨e0, e1, e2, h⟩
    · have HE := Lib.hid (show false = v by have h1 : pickF bi si x = false := h; simpa [h1] using HV.out)
      clear HV HD h
      go_wp2
      go_ret
      exact ⟨by rw [HE.out]; rfl, B0.out⟩
    · have HE := Lib.hid (show true = v by have h1 : pickF bi si x = true := h; simpa [h1] using HV.out)
      clear HV HD h
      go_wp2
      go_ret
      exact ⟨by rw [HE.out]; rfl, B0.out⟩
    · have HE := Lib.hid (show true = v by have h1 : pickF bi si x = true := h; simpa [h1] using HV.out)
      clear HV HD h
      go_wp2
      go_ret
      exact ⟨by rw [HE.out]; rfl, B0.out⟩
    · have HE := Lib.hid (show false = v by have h1 : pickF bi si x = false := h; simpa [h1] using HV.out)
      clear HV HD h
      go_wp2
      go_ret
      exact ⟨by rw [HE.out]; rfl, B0.out⟩
end Go.Proofs.YtohfoopagbajnaaDoor
