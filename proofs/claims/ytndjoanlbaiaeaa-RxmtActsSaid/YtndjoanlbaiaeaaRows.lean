/-
  No cell of these rows narrows 'for every input' (looked for: loops, veiled, ifaces, maps, wideKeys, modest, calm, conditions, laid).
  DERIVED. THE GIVEN ROWS OF THIS SEAT. 5 by the template 'for every input the law returns true; each argument reads behind the call as it read before'; 0 by the template 'total and deterministic' (their statements: YtndjoanlbaiaeaaTotals.lean).
  GIVEN WITH THE SEED: the statements are not yours to turn. If you find one false, say at which input.
  Laid BY PROGRAM, IN A SANDBOX (cutbox-rows.mjs): the forced cells as the released guide's own fill.sh prints them over the translation 3b6d8dc01558831c… (all of the seat's roots in one cut). By AI agents, Wed Nov 11 2026. No macro, syntax, notation, axiom, sorry.
-/
import Derived.Test.YtndjoanlbaiaeaaChecked
import GoSem.Claim
import GoSem.ClaimJoined
import GoSem.ClaimMapViews
import Derived.JoinedTies
import Derived.KernelRfl
namespace Go.Proofs.Ytndjoanlbaiaeaa
/- THE CELL 'sum', in the pinned program and in every row, IS THE sha256 OF THE DUMP (.gsa) THAT YtndjoanlbaiaeaaProg.lean LOADS. Nothing in Lean hashes anything: it is a label: what it is worth is what the hold of that sum in a sandbox is worth. -/
noncomputable def Try.pinned : Pinned := { name := "ytndjoanlbaiaeaa", sum := "3b6d8dc01558831c334305a0451ca5833c7378672c83d747dc2c6fa8f4a85e3d", checked := Try.checked }
namespace Rows
def none {H : Type} : Left H := { results := [], args := [] }

/-- 'syndiclaw16.RxmtActs': WHATEVER THE INPUT: true; the input reads as it did. -/
def rxmtActsSpec : ChangeSpec := { name := "rxmtActs", fn := fun _ => fun
  | [d] => { results := [.lit (.bool true)], args := [d] }
  | _ => none }
def rxmtActsRow : OpenClaim := { program := "ytndjoanlbaiaeaa", sum := "3b6d8dc01558831c334305a0451ca5833c7378672c83d747dc2c6fa8f4a85e3d", func := "syndic/syndiclaw16.RxmtActs", spec := "rxmtActs", unfollowed := true, recurses := true, plainKeys := false, apart := false }
def RxmtActsSaid : Prop := rxmtActsRow.holds Try.pinned (OpenSpec.ofChange rxmtActsSpec)

/-- ITS FALSE NEIGHBOUR: 'it returns false'. Refute it at one input. -/
def rxmtActsWrong : ChangeSpec := { name := "rxmtActs", fn := fun _ => fun
  | [d] => { results := [.lit (.bool false)], args := [d] }
  | _ => none }
def RxmtActsWrongFalsely : Prop := rxmtActsRow.holds Try.pinned (OpenSpec.ofChange rxmtActsWrong)

/-- 'syndiclaw16.RxmtRounds': WHATEVER THE INPUT: true; the input reads as it did. -/
def rxmtRoundsSpec : ChangeSpec := { name := "rxmtRounds", fn := fun _ => fun
  | [d1, d2, d3] => { results := [.lit (.bool true)], args := [d1, d2, d3] }
  | _ => none }
def rxmtRoundsRow : OpenClaim := { program := "ytndjoanlbaiaeaa", sum := "3b6d8dc01558831c334305a0451ca5833c7378672c83d747dc2c6fa8f4a85e3d", func := "syndic/syndiclaw16.RxmtRounds", spec := "rxmtRounds", unfollowed := true, recurses := true, plainKeys := false, apart := false }
def RxmtRoundsSaid : Prop := rxmtRoundsRow.holds Try.pinned (OpenSpec.ofChange rxmtRoundsSpec)

/-- ITS FALSE NEIGHBOUR: 'it returns false'. Refute it at one input. -/
def rxmtRoundsWrong : ChangeSpec := { name := "rxmtRounds", fn := fun _ => fun
  | [d1, d2, d3] => { results := [.lit (.bool false)], args := [d1, d2, d3] }
  | _ => none }
def RxmtRoundsWrongFalsely : Prop := rxmtRoundsRow.holds Try.pinned (OpenSpec.ofChange rxmtRoundsWrong)

/-- 'syndiclaw16.RxmtOthers': WHATEVER THE INPUT: true; the input reads as it did. -/
def rxmtOthersSpec : ChangeSpec := { name := "rxmtOthers", fn := fun _ => fun
  | [d1, d2, d3] => { results := [.lit (.bool true)], args := [d1, d2, d3] }
  | _ => none }
def rxmtOthersRow : OpenClaim := { program := "ytndjoanlbaiaeaa", sum := "3b6d8dc01558831c334305a0451ca5833c7378672c83d747dc2c6fa8f4a85e3d", func := "syndic/syndiclaw16.RxmtOthers", spec := "rxmtOthers", unfollowed := true, recurses := true, plainKeys := false, apart := false }
def RxmtOthersSaid : Prop := rxmtOthersRow.holds Try.pinned (OpenSpec.ofChange rxmtOthersSpec)

/-- ITS FALSE NEIGHBOUR: 'it returns false'. Refute it at one input. -/
def rxmtOthersWrong : ChangeSpec := { name := "rxmtOthers", fn := fun _ => fun
  | [d1, d2, d3] => { results := [.lit (.bool false)], args := [d1, d2, d3] }
  | _ => none }
def RxmtOthersWrongFalsely : Prop := rxmtOthersRow.holds Try.pinned (OpenSpec.ofChange rxmtOthersWrong)

/-- 'syndiclaw16.RxmtDrops': WHATEVER THE INPUT: true; the input reads as it did. -/
def rxmtDropsSpec : ChangeSpec := { name := "rxmtDrops", fn := fun _ => fun
  | [d1, d2, d3] => { results := [.lit (.bool true)], args := [d1, d2, d3] }
  | _ => none }
def rxmtDropsRow : OpenClaim := { program := "ytndjoanlbaiaeaa", sum := "3b6d8dc01558831c334305a0451ca5833c7378672c83d747dc2c6fa8f4a85e3d", func := "syndic/syndiclaw16.RxmtDrops", spec := "rxmtDrops", unfollowed := true, recurses := true, plainKeys := false, apart := false }
def RxmtDropsSaid : Prop := rxmtDropsRow.holds Try.pinned (OpenSpec.ofChange rxmtDropsSpec)

/-- ITS FALSE NEIGHBOUR: 'it returns false'. Refute it at one input. -/
def rxmtDropsWrong : ChangeSpec := { name := "rxmtDrops", fn := fun _ => fun
  | [d1, d2, d3] => { results := [.lit (.bool false)], args := [d1, d2, d3] }
  | _ => none }
def RxmtDropsWrongFalsely : Prop := rxmtDropsRow.holds Try.pinned (OpenSpec.ofChange rxmtDropsWrong)

/-- 'syndiclaw16.RxmtNil': WHATEVER THE INPUT: true; the input reads as it did. -/
def rxmtNilSpec : ChangeSpec := { name := "rxmtNil", fn := fun _ => fun
  | [d1, d2, d3] => { results := [.lit (.bool true)], args := [d1, d2, d3] }
  | _ => none }
def rxmtNilRow : OpenClaim := { program := "ytndjoanlbaiaeaa", sum := "3b6d8dc01558831c334305a0451ca5833c7378672c83d747dc2c6fa8f4a85e3d", func := "syndic/syndiclaw16.RxmtNil", spec := "rxmtNil", unfollowed := true, recurses := true, plainKeys := false, apart := false }
def RxmtNilSaid : Prop := rxmtNilRow.holds Try.pinned (OpenSpec.ofChange rxmtNilSpec)

/-- ITS FALSE NEIGHBOUR: 'it returns false'. Refute it at one input. -/
def rxmtNilWrong : ChangeSpec := { name := "rxmtNil", fn := fun _ => fun
  | [d1, d2, d3] => { results := [.lit (.bool false)], args := [d1, d2, d3] }
  | _ => none }
def RxmtNilWrongFalsely : Prop := rxmtNilRow.holds Try.pinned (OpenSpec.ofChange rxmtNilWrong)

/- THE SECOND FORM. 'bulk': how many values and letters a reading holds, each counted each time it is reached (what is shared counts as often as it is met; a slice's spare places count too). A statement '..UptoSaid' is the law's where the arguments, and the package variables that the reading takes, are together of bulk at most 1048576: NARROWER than '..Said'. Prove '..Said' where nothing that the law and all that it calls make is longer than what came in: it says more and counts as full. Else prove '..UptoSaid'. A law counts once. -/
mutual
def uptoBulk {H : Type} : DataW H → Nat
  | .lit (.string bytes) => bytes.length + 1
  | .lit _ => 1
  | .nil => 1
  | .ptr d => uptoBulk d + 1
  | .slice elems spare => uptoBulkAll elems + uptoBulkAll spare + 1
  | .agg parts => uptoBulkAll parts + 1
  | .iface _ d => uptoBulk d + 1
  | .map entries => uptoBulkEntries entries + 1
  | .held _ => 1
def uptoBulkAll {H : Type} : List (DataW H) → Nat
  | [] => 0
  | d :: r => uptoBulk d + uptoBulkAll r
def uptoBulkEntries {H : Type} : List (Lit × DataW H) → Nat
  | [] => 0
  | x :: r => uptoBulkEntry x + uptoBulkEntries r
def uptoBulkEntry {H : Type} : Lit × DataW H → Nat
  | (.string bytes, d) => bytes.length + uptoBulk d + 1
  | (_, d) => uptoBulk d + 1
 end
def uptoSmall : (H : Type) → List (DataW H) → Bool := fun _ ds => decide (uptoBulkAll ds ≤ 1048576)
def OpenSpec.upto (s : _root_.Go.ChangeSpec) : _root_.Go.OpenSpec := { _root_.Go.OpenSpec.ofChange s with cond := some uptoSmall }

/-- 'syndiclaw16.RxmtActs', WHERE WHAT IT READS IS OF BULK AT MOST 1048576: true; the input reads as it did. -/
def rxmtActsUptoRow : OpenClaim := { program := "ytndjoanlbaiaeaa", sum := "3b6d8dc01558831c334305a0451ca5833c7378672c83d747dc2c6fa8f4a85e3d", func := "syndic/syndiclaw16.RxmtActs", spec := "rxmtActs", unfollowed := true, recurses := true, plainKeys := false, apart := false, narrowed := true }
def RxmtActsUptoSaid : Prop := rxmtActsUptoRow.holds Try.pinned (OpenSpec.upto rxmtActsSpec)

/-- 'syndiclaw16.RxmtRounds', WHERE WHAT IT READS IS OF BULK AT MOST 1048576: true; the input reads as it did. -/
def rxmtRoundsUptoRow : OpenClaim := { program := "ytndjoanlbaiaeaa", sum := "3b6d8dc01558831c334305a0451ca5833c7378672c83d747dc2c6fa8f4a85e3d", func := "syndic/syndiclaw16.RxmtRounds", spec := "rxmtRounds", unfollowed := true, recurses := true, plainKeys := false, apart := false, narrowed := true }
def RxmtRoundsUptoSaid : Prop := rxmtRoundsUptoRow.holds Try.pinned (OpenSpec.upto rxmtRoundsSpec)

/-- 'syndiclaw16.RxmtOthers', WHERE WHAT IT READS IS OF BULK AT MOST 1048576: true; the input reads as it did. -/
def rxmtOthersUptoRow : OpenClaim := { program := "ytndjoanlbaiaeaa", sum := "3b6d8dc01558831c334305a0451ca5833c7378672c83d747dc2c6fa8f4a85e3d", func := "syndic/syndiclaw16.RxmtOthers", spec := "rxmtOthers", unfollowed := true, recurses := true, plainKeys := false, apart := false, narrowed := true }
def RxmtOthersUptoSaid : Prop := rxmtOthersUptoRow.holds Try.pinned (OpenSpec.upto rxmtOthersSpec)

/-- 'syndiclaw16.RxmtDrops', WHERE WHAT IT READS IS OF BULK AT MOST 1048576: true; the input reads as it did. -/
def rxmtDropsUptoRow : OpenClaim := { program := "ytndjoanlbaiaeaa", sum := "3b6d8dc01558831c334305a0451ca5833c7378672c83d747dc2c6fa8f4a85e3d", func := "syndic/syndiclaw16.RxmtDrops", spec := "rxmtDrops", unfollowed := true, recurses := true, plainKeys := false, apart := false, narrowed := true }
def RxmtDropsUptoSaid : Prop := rxmtDropsUptoRow.holds Try.pinned (OpenSpec.upto rxmtDropsSpec)

/-- 'syndiclaw16.RxmtNil', WHERE WHAT IT READS IS OF BULK AT MOST 1048576: true; the input reads as it did. -/
def rxmtNilUptoRow : OpenClaim := { program := "ytndjoanlbaiaeaa", sum := "3b6d8dc01558831c334305a0451ca5833c7378672c83d747dc2c6fa8f4a85e3d", func := "syndic/syndiclaw16.RxmtNil", spec := "rxmtNil", unfollowed := true, recurses := true, plainKeys := false, apart := false, narrowed := true }
def RxmtNilUptoSaid : Prop := rxmtNilUptoRow.holds Try.pinned (OpenSpec.upto rxmtNilSpec)

end Rows
end Go.Proofs.Ytndjoanlbaiaeaa
