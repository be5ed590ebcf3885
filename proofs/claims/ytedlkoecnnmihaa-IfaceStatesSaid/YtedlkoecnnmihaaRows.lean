/-
  No cell of these rows narrows 'for every input' (looked for: loops, veiled, ifaces, maps, wideKeys, modest, calm, conditions, laid).
  DERIVED. THE GIVEN ROWS OF THIS SEAT. 4 by the template 'for every input the law returns true; each argument reads behind the call as it read before'; 0 by the template 'total and deterministic' (their statements: YtedlkoecnnmihaaTotals.lean).
  GIVEN WITH THE SEED: the statements are not yours to turn. If you find one false, say at which input.
  Laid BY PROGRAM, IN A SANDBOX (cutbox-rows.mjs): the forced cells as the released guide's own fill.sh prints them over the translation bec73c41b96faf6a… (all of the seat's roots in one cut). By AI agents, Wed Nov 11 2026. No macro, syntax, notation, axiom, sorry.
-/
import Derived.Test.YtedlkoecnnmihaaChecked
import GoSem.Claim
import GoSem.ClaimJoined
import GoSem.ClaimMapViews
import Derived.JoinedTies
import Derived.KernelRfl
namespace Go.Proofs.Ytedlkoecnnmihaa
/- THE CELL 'sum', in the pinned program and in every row, IS THE sha256 OF THE DUMP (.gsa) THAT YtedlkoecnnmihaaProg.lean LOADS. Nothing in Lean hashes anything: it is a label: what it is worth is what the hold of that sum in a sandbox is worth. -/
noncomputable def Try.pinned : Pinned := { name := "ytedlkoecnnmihaa", sum := "bec73c41b96faf6a7dc2ad13937e3f22478c38d64f9faadbc63cf6d38a7ea2b3", checked := Try.checked }
namespace Rows
def none {H : Type} : Left H := { results := [], args := [] }

/-- 'syndiclaw10.IfaceSteps': WHATEVER THE INPUT: true; the input reads as it did. -/
def ifaceStepsSpec : ChangeSpec := { name := "ifaceSteps", fn := fun _ => fun
  | [d1, d2, d3] => { results := [.lit (.bool true)], args := [d1, d2, d3] }
  | _ => none }
def ifaceStepsRow : OpenClaim := { program := "ytedlkoecnnmihaa", sum := "bec73c41b96faf6a7dc2ad13937e3f22478c38d64f9faadbc63cf6d38a7ea2b3", func := "syndic/syndiclaw10.IfaceSteps", spec := "ifaceSteps", unfollowed := true, recurses := true, plainKeys := false, apart := false }
def IfaceStepsSaid : Prop := ifaceStepsRow.holds Try.pinned (OpenSpec.ofChange ifaceStepsSpec)

/-- ITS FALSE NEIGHBOUR: 'it returns false'. Refute it at one input. -/
def ifaceStepsWrong : ChangeSpec := { name := "ifaceSteps", fn := fun _ => fun
  | [d1, d2, d3] => { results := [.lit (.bool false)], args := [d1, d2, d3] }
  | _ => none }
def IfaceStepsWrongFalsely : Prop := ifaceStepsRow.holds Try.pinned (OpenSpec.ofChange ifaceStepsWrong)

/-- 'syndiclaw10.IfaceStates': WHATEVER THE INPUT: true; the input reads as it did. -/
def ifaceStatesSpec : ChangeSpec := { name := "ifaceStates", fn := fun _ => fun
  | [d1, d2, d3] => { results := [.lit (.bool true)], args := [d1, d2, d3] }
  | _ => none }
def ifaceStatesRow : OpenClaim := { program := "ytedlkoecnnmihaa", sum := "bec73c41b96faf6a7dc2ad13937e3f22478c38d64f9faadbc63cf6d38a7ea2b3", func := "syndic/syndiclaw10.IfaceStates", spec := "ifaceStates", unfollowed := true, recurses := true, plainKeys := false, apart := false }
def IfaceStatesSaid : Prop := ifaceStatesRow.holds Try.pinned (OpenSpec.ofChange ifaceStatesSpec)

/-- ITS FALSE NEIGHBOUR: 'it returns false'. Refute it at one input. -/
def ifaceStatesWrong : ChangeSpec := { name := "ifaceStates", fn := fun _ => fun
  | [d1, d2, d3] => { results := [.lit (.bool false)], args := [d1, d2, d3] }
  | _ => none }
def IfaceStatesWrongFalsely : Prop := ifaceStatesRow.holds Try.pinned (OpenSpec.ofChange ifaceStatesWrong)

/-- 'syndiclaw10.IfaceSees': WHATEVER THE INPUT: true; the input reads as it did. -/
def ifaceSeesSpec : ChangeSpec := { name := "ifaceSees", fn := fun _ => fun
  | [d1, d2] => { results := [.lit (.bool true)], args := [d1, d2] }
  | _ => none }
def ifaceSeesRow : OpenClaim := { program := "ytedlkoecnnmihaa", sum := "bec73c41b96faf6a7dc2ad13937e3f22478c38d64f9faadbc63cf6d38a7ea2b3", func := "syndic/syndiclaw10.IfaceSees", spec := "ifaceSees", unfollowed := true, recurses := true, plainKeys := false, apart := false }
def IfaceSeesSaid : Prop := ifaceSeesRow.holds Try.pinned (OpenSpec.ofChange ifaceSeesSpec)

/-- ITS FALSE NEIGHBOUR: 'it returns false'. Refute it at one input. -/
def ifaceSeesWrong : ChangeSpec := { name := "ifaceSees", fn := fun _ => fun
  | [d1, d2] => { results := [.lit (.bool false)], args := [d1, d2] }
  | _ => none }
def IfaceSeesWrongFalsely : Prop := ifaceSeesRow.holds Try.pinned (OpenSpec.ofChange ifaceSeesWrong)

/-- 'syndiclaw10.IfaceAgain': WHATEVER THE INPUT: true; the input reads as it did. -/
def ifaceAgainSpec : ChangeSpec := { name := "ifaceAgain", fn := fun _ => fun
  | [d1, d2] => { results := [.lit (.bool true)], args := [d1, d2] }
  | _ => none }
def ifaceAgainRow : OpenClaim := { program := "ytedlkoecnnmihaa", sum := "bec73c41b96faf6a7dc2ad13937e3f22478c38d64f9faadbc63cf6d38a7ea2b3", func := "syndic/syndiclaw10.IfaceAgain", spec := "ifaceAgain", unfollowed := true, recurses := true, plainKeys := false, apart := false }
def IfaceAgainSaid : Prop := ifaceAgainRow.holds Try.pinned (OpenSpec.ofChange ifaceAgainSpec)

/-- ITS FALSE NEIGHBOUR: 'it returns false'. Refute it at one input. -/
def ifaceAgainWrong : ChangeSpec := { name := "ifaceAgain", fn := fun _ => fun
  | [d1, d2] => { results := [.lit (.bool false)], args := [d1, d2] }
  | _ => none }
def IfaceAgainWrongFalsely : Prop := ifaceAgainRow.holds Try.pinned (OpenSpec.ofChange ifaceAgainWrong)

/- THE SECOND FORM. 'bulk': how many values and letters a reading holds, each counted each time it is reached (what is shared counts as often as it is met; a slice's spare places count too). A statement '..UptoSaid' is the law's where the arguments, and the package variables that the reading takes, are together of bulk at most 1048576: NARROWER than '..Said'. Prove '..Said' where nothing that the law and all that it calls make is longer than what came in: it says more and counts as full. Else prove '..UptoSaid'. A law counts once. -/
mutual
def uptoBulk {H : Type} : DataW H → Nat
  | .lit (.string bytes) => bytes.length + 1
  | .lit _ => 1
  | .nil => 1
  | .ptr d => uptoBulk d + 1
  | .slice elems spare => uptoBulkAll elems + uptoBulkAll spare + 1
  | .agg parts => uptoBulkAll parts + 1
  | .iface _ d => uptoBulk d + 1
  | .map entries => uptoBulkEntries entries + 1
  | .held _ => 1
def uptoBulkAll {H : Type} : List (DataW H) → Nat
  | [] => 0
  | d :: r => uptoBulk d + uptoBulkAll r
def uptoBulkEntries {H : Type} : List (Lit × DataW H) → Nat
  | [] => 0
  | x :: r => uptoBulkEntry x + uptoBulkEntries r
def uptoBulkEntry {H : Type} : Lit × DataW H → Nat
  | (.string bytes, d) => bytes.length + uptoBulk d + 1
  | (_, d) => uptoBulk d + 1
 end
def uptoSmall : (H : Type) → List (DataW H) → Bool := fun _ ds => decide (uptoBulkAll ds ≤ 1048576)
def OpenSpec.upto (s : _root_.Go.ChangeSpec) : _root_.Go.OpenSpec := { _root_.Go.OpenSpec.ofChange s with cond := some uptoSmall }

/-- 'syndiclaw10.IfaceSteps', WHERE WHAT IT READS IS OF BULK AT MOST 1048576: true; the input reads as it did. -/
def ifaceStepsUptoRow : OpenClaim := { program := "ytedlkoecnnmihaa", sum := "bec73c41b96faf6a7dc2ad13937e3f22478c38d64f9faadbc63cf6d38a7ea2b3", func := "syndic/syndiclaw10.IfaceSteps", spec := "ifaceSteps", unfollowed := true, recurses := true, plainKeys := false, apart := false, narrowed := true }
def IfaceStepsUptoSaid : Prop := ifaceStepsUptoRow.holds Try.pinned (OpenSpec.upto ifaceStepsSpec)

/-- 'syndiclaw10.IfaceStates', WHERE WHAT IT READS IS OF BULK AT MOST 1048576: true; the input reads as it did. -/
def ifaceStatesUptoRow : OpenClaim := { program := "ytedlkoecnnmihaa", sum := "bec73c41b96faf6a7dc2ad13937e3f22478c38d64f9faadbc63cf6d38a7ea2b3", func := "syndic/syndiclaw10.IfaceStates", spec := "ifaceStates", unfollowed := true, recurses := true, plainKeys := false, apart := false, narrowed := true }
def IfaceStatesUptoSaid : Prop := ifaceStatesUptoRow.holds Try.pinned (OpenSpec.upto ifaceStatesSpec)

/-- 'syndiclaw10.IfaceSees', WHERE WHAT IT READS IS OF BULK AT MOST 1048576: true; the input reads as it did. -/
def ifaceSeesUptoRow : OpenClaim := { program := "ytedlkoecnnmihaa", sum := "bec73c41b96faf6a7dc2ad13937e3f22478c38d64f9faadbc63cf6d38a7ea2b3", func := "syndic/syndiclaw10.IfaceSees", spec := "ifaceSees", unfollowed := true, recurses := true, plainKeys := false, apart := false, narrowed := true }
def IfaceSeesUptoSaid : Prop := ifaceSeesUptoRow.holds Try.pinned (OpenSpec.upto ifaceSeesSpec)

/-- 'syndiclaw10.IfaceAgain', WHERE WHAT IT READS IS OF BULK AT MOST 1048576: true; the input reads as it did. -/
def ifaceAgainUptoRow : OpenClaim := { program := "ytedlkoecnnmihaa", sum := "bec73c41b96faf6a7dc2ad13937e3f22478c38d64f9faadbc63cf6d38a7ea2b3", func := "syndic/syndiclaw10.IfaceAgain", spec := "ifaceAgain", unfollowed := true, recurses := true, plainKeys := false, apart := false, narrowed := true }
def IfaceAgainUptoSaid : Prop := ifaceAgainUptoRow.holds Try.pinned (OpenSpec.upto ifaceAgainSpec)

end Rows
end Go.Proofs.Ytedlkoecnnmihaa
