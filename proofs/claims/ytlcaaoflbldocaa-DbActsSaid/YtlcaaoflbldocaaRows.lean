/-
  No cell of these rows narrows 'for every input' (looked for: loops, veiled, ifaces, maps, wideKeys, modest, calm, conditions, laid).
  DERIVED. THE GIVEN ROWS OF THIS SEAT. 3 by the template 'for every input the law returns true; each argument reads behind the call as it read before'; 0 by the template 'total and deterministic' (their statements: YtlcaaoflbldocaaTotals.lean).
  GIVEN WITH THE SEED: the statements are not yours to turn. If you find one false, say at which input.
  Laid BY PROGRAM, IN A SANDBOX (cutbox-rows.mjs): the forced cells as the released guide's own fill.sh prints them over the translation 5c80afdce4d7ea7b… (all of the seat's roots in one cut). By AI agents, Wed Nov 11 2026. No macro, syntax, notation, axiom, sorry.
-/
import Derived.Test.YtlcaaoflbldocaaChecked
import GoSem.Claim
import GoSem.ClaimJoined
import GoSem.ClaimMapViews
import Derived.JoinedTies
import Derived.KernelRfl
namespace Go.Proofs.Ytlcaaoflbldocaa
/- THE CELL 'sum', in the pinned program and in every row, IS THE sha256 OF THE DUMP (.gsa) THAT YtlcaaoflbldocaaProg.lean LOADS. Nothing in Lean hashes anything: it is a label: what it is worth is what the hold of that sum in a sandbox is worth. -/
noncomputable def Try.pinned : Pinned := { name := "ytlcaaoflbldocaa", sum := "5c80afdce4d7ea7b06b5b64932fcb01fffc91e3dc2c9133dde3dcd5a53e0218a", checked := Try.checked }
namespace Rows
def none {H : Type} : Left H := { results := [], args := [] }

/-- 'syndiclaw07.DbActs': WHATEVER THE INPUT: true; the input reads as it did. -/
def dbActsSpec : ChangeSpec := { name := "dbActs", fn := fun _ => fun
  | [d1, d2] => { results := [.lit (.bool true)], args := [d1, d2] }
  | _ => none }
def dbActsRow : OpenClaim := { program := "ytlcaaoflbldocaa", sum := "5c80afdce4d7ea7b06b5b64932fcb01fffc91e3dc2c9133dde3dcd5a53e0218a", func := "syndic/syndiclaw07.DbActs", spec := "dbActs", unfollowed := true, recurses := true, plainKeys := false, apart := false }
def DbActsSaid : Prop := dbActsRow.holds Try.pinned (OpenSpec.ofChange dbActsSpec)

/-- ITS FALSE NEIGHBOUR: 'it returns false'. Refute it at one input. -/
def dbActsWrong : ChangeSpec := { name := "dbActs", fn := fun _ => fun
  | [d1, d2] => { results := [.lit (.bool false)], args := [d1, d2] }
  | _ => none }
def DbActsWrongFalsely : Prop := dbActsRow.holds Try.pinned (OpenSpec.ofChange dbActsWrong)

/-- 'syndiclaw07.DbOwn': WHATEVER THE INPUT: true; the input reads as it did. -/
def dbOwnSpec : ChangeSpec := { name := "dbOwn", fn := fun _ => fun
  | [d] => { results := [.lit (.bool true)], args := [d] }
  | _ => none }
def dbOwnRow : OpenClaim := { program := "ytlcaaoflbldocaa", sum := "5c80afdce4d7ea7b06b5b64932fcb01fffc91e3dc2c9133dde3dcd5a53e0218a", func := "syndic/syndiclaw07.DbOwn", spec := "dbOwn", unfollowed := true, recurses := true, plainKeys := false, apart := false }
def DbOwnSaid : Prop := dbOwnRow.holds Try.pinned (OpenSpec.ofChange dbOwnSpec)

/-- ITS FALSE NEIGHBOUR: 'it returns false'. Refute it at one input. -/
def dbOwnWrong : ChangeSpec := { name := "dbOwn", fn := fun _ => fun
  | [d] => { results := [.lit (.bool false)], args := [d] }
  | _ => none }
def DbOwnWrongFalsely : Prop := dbOwnRow.holds Try.pinned (OpenSpec.ofChange dbOwnWrong)

/-- 'syndiclaw07.DbAges': WHATEVER THE INPUT: true; the input reads as it did. -/
def dbAgesSpec : ChangeSpec := { name := "dbAges", fn := fun _ => fun
  | [d1, d2] => { results := [.lit (.bool true)], args := [d1, d2] }
  | _ => none }
def dbAgesRow : OpenClaim := { program := "ytlcaaoflbldocaa", sum := "5c80afdce4d7ea7b06b5b64932fcb01fffc91e3dc2c9133dde3dcd5a53e0218a", func := "syndic/syndiclaw07.DbAges", spec := "dbAges", unfollowed := true, recurses := true, plainKeys := false, apart := false }
def DbAgesSaid : Prop := dbAgesRow.holds Try.pinned (OpenSpec.ofChange dbAgesSpec)

/-- ITS FALSE NEIGHBOUR: 'it returns false'. Refute it at one input. -/
def dbAgesWrong : ChangeSpec := { name := "dbAges", fn := fun _ => fun
  | [d1, d2] => { results := [.lit (.bool false)], args := [d1, d2] }
  | _ => none }
def DbAgesWrongFalsely : Prop := dbAgesRow.holds Try.pinned (OpenSpec.ofChange dbAgesWrong)

/- THE SECOND FORM. 'bulk': how many values and letters a reading holds, each counted each time it is reached (what is shared counts as often as it is met; a slice's spare places count too). A statement '..UptoSaid' is the law's where the arguments, and the package variables that the reading takes, are together of bulk at most 1048576: NARROWER than '..Said'. Prove '..Said' where nothing that the law and all that it calls make is longer than what came in: it says more and counts as full. Else prove '..UptoSaid'. A law counts once. -/
mutual
def uptoBulk {H : Type} : DataW H → Nat
  | .lit (.string bytes) => bytes.length + 1
  | .lit _ => 1
  | .nil => 1
  | .ptr d => uptoBulk d + 1
  | .slice elems spare => uptoBulkAll elems + uptoBulkAll spare + 1
  | .agg parts => uptoBulkAll parts + 1
  | .iface _ d => uptoBulk d + 1
  | .map entries => uptoBulkEntries entries + 1
  | .held _ => 1
def uptoBulkAll {H : Type} : List (DataW H) → Nat
  | [] => 0
  | d :: r => uptoBulk d + uptoBulkAll r
def uptoBulkEntries {H : Type} : List (Lit × DataW H) → Nat
  | [] => 0
  | x :: r => uptoBulkEntry x + uptoBulkEntries r
def uptoBulkEntry {H : Type} : Lit × DataW H → Nat
  | (.string bytes, d) => bytes.length + uptoBulk d + 1
  | (_, d) => uptoBulk d + 1
 end
def uptoSmall : (H : Type) → List (DataW H) → Bool := fun _ ds => decide (uptoBulkAll ds ≤ 1048576)
def OpenSpec.upto (s : _root_.Go.ChangeSpec) : _root_.Go.OpenSpec := { _root_.Go.OpenSpec.ofChange s with cond := some uptoSmall }

/-- 'syndiclaw07.DbActs', WHERE WHAT IT READS IS OF BULK AT MOST 1048576: true; the input reads as it did. -/
def dbActsUptoRow : OpenClaim := { program := "ytlcaaoflbldocaa", sum := "5c80afdce4d7ea7b06b5b64932fcb01fffc91e3dc2c9133dde3dcd5a53e0218a", func := "syndic/syndiclaw07.DbActs", spec := "dbActs", unfollowed := true, recurses := true, plainKeys := false, apart := false, narrowed := true }
def DbActsUptoSaid : Prop := dbActsUptoRow.holds Try.pinned (OpenSpec.upto dbActsSpec)

/-- 'syndiclaw07.DbOwn', WHERE WHAT IT READS IS OF BULK AT MOST 1048576: true; the input reads as it did. -/
def dbOwnUptoRow : OpenClaim := { program := "ytlcaaoflbldocaa", sum := "5c80afdce4d7ea7b06b5b64932fcb01fffc91e3dc2c9133dde3dcd5a53e0218a", func := "syndic/syndiclaw07.DbOwn", spec := "dbOwn", unfollowed := true, recurses := true, plainKeys := false, apart := false, narrowed := true }
def DbOwnUptoSaid : Prop := dbOwnUptoRow.holds Try.pinned (OpenSpec.upto dbOwnSpec)

/-- 'syndiclaw07.DbAges', WHERE WHAT IT READS IS OF BULK AT MOST 1048576: true; the input reads as it did. -/
def dbAgesUptoRow : OpenClaim := { program := "ytlcaaoflbldocaa", sum := "5c80afdce4d7ea7b06b5b64932fcb01fffc91e3dc2c9133dde3dcd5a53e0218a", func := "syndic/syndiclaw07.DbAges", spec := "dbAges", unfollowed := true, recurses := true, plainKeys := false, apart := false, narrowed := true }
def DbAgesUptoSaid : Prop := dbAgesUptoRow.holds Try.pinned (OpenSpec.upto dbAgesSpec)

end Rows
end Go.Proofs.Ytlcaaoflbldocaa
