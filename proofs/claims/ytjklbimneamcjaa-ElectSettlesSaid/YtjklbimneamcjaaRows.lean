/-
  No cell of these rows narrows 'for every input' (looked for: loops, veiled, ifaces, maps, wideKeys, modest, calm, conditions, laid).
  DERIVED. THE GIVEN ROWS OF THIS SEAT. 5 by the template 'for every input the law returns true; each argument reads behind the call as it read before'; 0 by the template 'total and deterministic' (their statements: YtjklbimneamcjaaTotals.lean).
  GIVEN WITH THE SEED: the statements are not yours to turn. If you find one false, say at which input.
  Laid BY PROGRAM, IN A SANDBOX (cutbox-rows.mjs): the forced cells as the released guide's own fill.sh prints them over the translation 21be108182f73f23… (all of the seat's roots in one cut). By AI agents, Wed Nov 11 2026. No macro, syntax, notation, axiom, sorry.
-/
import Derived.Test.YtjklbimneamcjaaChecked
import GoSem.Claim
import GoSem.ClaimJoined
import GoSem.ClaimMapViews
import Derived.JoinedTies
import Derived.KernelRfl
namespace Go.Proofs.Ytjklbimneamcjaa
/- THE CELL 'sum', in the pinned program and in every row, IS THE sha256 OF THE DUMP (.gsa) THAT YtjklbimneamcjaaProg.lean LOADS. Nothing in Lean hashes anything: it is a label: what it is worth is what the hold of that sum in a sandbox is worth. -/
noncomputable def Try.pinned : Pinned := { name := "ytjklbimneamcjaa", sum := "21be108182f73f23195ec6443b1004be5bb7113704c4b3dd5b16a9da631c5ca1", checked := Try.checked }
namespace Rows
def none {H : Type} : Left H := { results := [], args := [] }

/-- 'syndiclaw09.ElectIs': WHATEVER THE INPUT: true; the input reads as it did. -/
def electIsSpec : ChangeSpec := { name := "electIs", fn := fun _ => fun
  | [d1, d2] => { results := [.lit (.bool true)], args := [d1, d2] }
  | _ => none }
def electIsRow : OpenClaim := { program := "ytjklbimneamcjaa", sum := "21be108182f73f23195ec6443b1004be5bb7113704c4b3dd5b16a9da631c5ca1", func := "syndic/syndiclaw09.ElectIs", spec := "electIs", unfollowed := true, recurses := true, apart := false }
def ElectIsSaid : Prop := electIsRow.holds Try.pinned (OpenSpec.ofChange electIsSpec)

/-- ITS FALSE NEIGHBOUR: 'it returns false'. Refute it at one input. -/
def electIsWrong : ChangeSpec := { name := "electIs", fn := fun _ => fun
  | [d1, d2] => { results := [.lit (.bool false)], args := [d1, d2] }
  | _ => none }
def ElectIsWrongFalsely : Prop := electIsRow.holds Try.pinned (OpenSpec.ofChange electIsWrong)

/-- 'syndiclaw09.ElectMay': WHATEVER THE INPUT: true; the input reads as it did. -/
def electMaySpec : ChangeSpec := { name := "electMay", fn := fun _ => fun
  | [d1, d2] => { results := [.lit (.bool true)], args := [d1, d2] }
  | _ => none }
def electMayRow : OpenClaim := { program := "ytjklbimneamcjaa", sum := "21be108182f73f23195ec6443b1004be5bb7113704c4b3dd5b16a9da631c5ca1", func := "syndic/syndiclaw09.ElectMay", spec := "electMay", unfollowed := true, recurses := true, apart := false }
def ElectMaySaid : Prop := electMayRow.holds Try.pinned (OpenSpec.ofChange electMaySpec)

/-- ITS FALSE NEIGHBOUR: 'it returns false'. Refute it at one input. -/
def electMayWrong : ChangeSpec := { name := "electMay", fn := fun _ => fun
  | [d1, d2] => { results := [.lit (.bool false)], args := [d1, d2] }
  | _ => none }
def ElectMayWrongFalsely : Prop := electMayRow.holds Try.pinned (OpenSpec.ofChange electMayWrong)

/-- 'syndiclaw09.ElectStable': WHATEVER THE INPUT: true; the input reads as it did. -/
def electStableSpec : ChangeSpec := { name := "electStable", fn := fun _ => fun
  | [d1, d2] => { results := [.lit (.bool true)], args := [d1, d2] }
  | _ => none }
def electStableRow : OpenClaim := { program := "ytjklbimneamcjaa", sum := "21be108182f73f23195ec6443b1004be5bb7113704c4b3dd5b16a9da631c5ca1", func := "syndic/syndiclaw09.ElectStable", spec := "electStable", unfollowed := true, recurses := true, apart := false }
def ElectStableSaid : Prop := electStableRow.holds Try.pinned (OpenSpec.ofChange electStableSpec)

/-- ITS FALSE NEIGHBOUR: 'it returns false'. Refute it at one input. -/
def electStableWrong : ChangeSpec := { name := "electStable", fn := fun _ => fun
  | [d1, d2] => { results := [.lit (.bool false)], args := [d1, d2] }
  | _ => none }
def ElectStableWrongFalsely : Prop := electStableRow.holds Try.pinned (OpenSpec.ofChange electStableWrong)

/-- 'syndiclaw09.ElectSettles': WHATEVER THE INPUT: true; the input reads as it did. -/
def electSettlesSpec : ChangeSpec := { name := "electSettles", fn := fun _ => fun
  | [d] => { results := [.lit (.bool true)], args := [d] }
  | _ => none }
def electSettlesRow : OpenClaim := { program := "ytjklbimneamcjaa", sum := "21be108182f73f23195ec6443b1004be5bb7113704c4b3dd5b16a9da631c5ca1", func := "syndic/syndiclaw09.ElectSettles", spec := "electSettles", unfollowed := true, recurses := true, apart := false }
def ElectSettlesSaid : Prop := electSettlesRow.holds Try.pinned (OpenSpec.ofChange electSettlesSpec)

/-- ITS FALSE NEIGHBOUR: 'it returns false'. Refute it at one input. -/
def electSettlesWrong : ChangeSpec := { name := "electSettles", fn := fun _ => fun
  | [d] => { results := [.lit (.bool false)], args := [d] }
  | _ => none }
def ElectSettlesWrongFalsely : Prop := electSettlesRow.holds Try.pinned (OpenSpec.ofChange electSettlesWrong)

/-- 'syndiclaw09.ElectAgain': WHATEVER THE INPUT: true; the input reads as it did. -/
def electAgainSpec : ChangeSpec := { name := "electAgain", fn := fun _ => fun
  | [d1, d2] => { results := [.lit (.bool true)], args := [d1, d2] }
  | _ => none }
def electAgainRow : OpenClaim := { program := "ytjklbimneamcjaa", sum := "21be108182f73f23195ec6443b1004be5bb7113704c4b3dd5b16a9da631c5ca1", func := "syndic/syndiclaw09.ElectAgain", spec := "electAgain", unfollowed := true, recurses := true, apart := false }
def ElectAgainSaid : Prop := electAgainRow.holds Try.pinned (OpenSpec.ofChange electAgainSpec)

/-- ITS FALSE NEIGHBOUR: 'it returns false'. Refute it at one input. -/
def electAgainWrong : ChangeSpec := { name := "electAgain", fn := fun _ => fun
  | [d1, d2] => { results := [.lit (.bool false)], args := [d1, d2] }
  | _ => none }
def ElectAgainWrongFalsely : Prop := electAgainRow.holds Try.pinned (OpenSpec.ofChange electAgainWrong)

/- THE SECOND FORM. 'bulk': how many values and letters a reading holds, each counted each time it is reached (what is shared counts as often as it is met; a slice's spare places count too). A statement '..UptoSaid' is the law's where the arguments, and the package variables that the reading takes, are together of bulk at most 1048576: NARROWER than '..Said'. Prove '..Said' where nothing that the law and all that it calls make is longer than what came in: it says more and counts as full. Else prove '..UptoSaid'. A law counts once. -/
mutual
def uptoBulk {H : Type} : DataW H → Nat
  | .lit (.string bytes) => bytes.length + 1
  | .lit _ => 1
  | .nil => 1
  | .ptr d => uptoBulk d + 1
  | .slice elems spare => uptoBulkAll elems + uptoBulkAll spare + 1
  | .agg parts => uptoBulkAll parts + 1
  | .iface _ d => uptoBulk d + 1
  | .map entries => uptoBulkEntries entries + 1
  | .held _ => 1
def uptoBulkAll {H : Type} : List (DataW H) → Nat
  | [] => 0
  | d :: r => uptoBulk d + uptoBulkAll r
def uptoBulkEntries {H : Type} : List (Lit × DataW H) → Nat
  | [] => 0
  | x :: r => uptoBulkEntry x + uptoBulkEntries r
def uptoBulkEntry {H : Type} : Lit × DataW H → Nat
  | (.string bytes, d) => bytes.length + uptoBulk d + 1
  | (_, d) => uptoBulk d + 1
 end
def uptoSmall : (H : Type) → List (DataW H) → Bool := fun _ ds => decide (uptoBulkAll ds ≤ 1048576)
def OpenSpec.upto (s : _root_.Go.ChangeSpec) : _root_.Go.OpenSpec := { _root_.Go.OpenSpec.ofChange s with cond := some uptoSmall }

/-- 'syndiclaw09.ElectIs', WHERE WHAT IT READS IS OF BULK AT MOST 1048576: true; the input reads as it did. -/
def electIsUptoRow : OpenClaim := { program := "ytjklbimneamcjaa", sum := "21be108182f73f23195ec6443b1004be5bb7113704c4b3dd5b16a9da631c5ca1", func := "syndic/syndiclaw09.ElectIs", spec := "electIs", unfollowed := true, recurses := true, apart := false, narrowed := true }
def ElectIsUptoSaid : Prop := electIsUptoRow.holds Try.pinned (OpenSpec.upto electIsSpec)

/-- 'syndiclaw09.ElectMay', WHERE WHAT IT READS IS OF BULK AT MOST 1048576: true; the input reads as it did. -/
def electMayUptoRow : OpenClaim := { program := "ytjklbimneamcjaa", sum := "21be108182f73f23195ec6443b1004be5bb7113704c4b3dd5b16a9da631c5ca1", func := "syndic/syndiclaw09.ElectMay", spec := "electMay", unfollowed := true, recurses := true, apart := false, narrowed := true }
def ElectMayUptoSaid : Prop := electMayUptoRow.holds Try.pinned (OpenSpec.upto electMaySpec)

/-- 'syndiclaw09.ElectStable', WHERE WHAT IT READS IS OF BULK AT MOST 1048576: true; the input reads as it did. -/
def electStableUptoRow : OpenClaim := { program := "ytjklbimneamcjaa", sum := "21be108182f73f23195ec6443b1004be5bb7113704c4b3dd5b16a9da631c5ca1", func := "syndic/syndiclaw09.ElectStable", spec := "electStable", unfollowed := true, recurses := true, apart := false, narrowed := true }
def ElectStableUptoSaid : Prop := electStableUptoRow.holds Try.pinned (OpenSpec.upto electStableSpec)

/-- 'syndiclaw09.ElectSettles', WHERE WHAT IT READS IS OF BULK AT MOST 1048576: true; the input reads as it did. -/
def electSettlesUptoRow : OpenClaim := { program := "ytjklbimneamcjaa", sum := "21be108182f73f23195ec6443b1004be5bb7113704c4b3dd5b16a9da631c5ca1", func := "syndic/syndiclaw09.ElectSettles", spec := "electSettles", unfollowed := true, recurses := true, apart := false, narrowed := true }
def ElectSettlesUptoSaid : Prop := electSettlesUptoRow.holds Try.pinned (OpenSpec.upto electSettlesSpec)

/-- 'syndiclaw09.ElectAgain', WHERE WHAT IT READS IS OF BULK AT MOST 1048576: true; the input reads as it did. -/
def electAgainUptoRow : OpenClaim := { program := "ytjklbimneamcjaa", sum := "21be108182f73f23195ec6443b1004be5bb7113704c4b3dd5b16a9da631c5ca1", func := "syndic/syndiclaw09.ElectAgain", spec := "electAgain", unfollowed := true, recurses := true, apart := false, narrowed := true }
def ElectAgainUptoSaid : Prop := electAgainUptoRow.holds Try.pinned (OpenSpec.upto electAgainSpec)

end Rows
end Go.Proofs.Ytjklbimneamcjaa
