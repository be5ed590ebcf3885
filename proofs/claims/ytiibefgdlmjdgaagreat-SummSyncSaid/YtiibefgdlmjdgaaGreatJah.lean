/- The call Get of package lsa. Conditions: the slice reads as bytes, at most 2^20 of them. -/
import Derived.Test.YtiibefgdlmjdgaaGreatJag
namespace Go.Proofs.YtiibefgdlmjdgaaGreat
open Go.RowKit

/-- How many bytes the description has, as bytes tell. -/
def longOf (l : List Int) : Nat := (wordAt l 18 2).toNat
/-- The bytes of the description that bytes begin with. -/
def getT (l : List Int) : List Int := l.take (longOf l)
/-- Get's error. -/
def gErr (l : List Int) : Int :=
  if l.length < 20 then 3 else if l.length < longOf l then 3 else if longOf l < 20 then 4 else if wholeB ((getT l).drop 2) = false then 5 else if okTold (getT l) = true then 0 else 4
/-- Get's head. -/
def gHead (l : List Int) : Hd := if gErr l = 0 then headOf (getT l) else zeroHd
/-- Get's links. -/
def gLinks (l : List Int) : List Lk := if gErr l = 0 then tL (getT l) else []
/-- Get's members. -/
def gMembers (l : List Int) : List Int := if gErr l = 0 then tM (getT l) else []
theorem gErr_no {l : List Int} {e : Int} (h : gErr l = e) (h0 : e ≠ 0) : gHead l = zeroHd ∧ gLinks l = [] ∧ gMembers l = [] := by
  unfold gHead gLinks gMembers
  rw [h, if_neg h0, if_neg h0, if_neg h0]
  exact ⟨rfl, rfl, rfl⟩

end Go.Proofs.YtiibefgdlmjdgaaGreat
