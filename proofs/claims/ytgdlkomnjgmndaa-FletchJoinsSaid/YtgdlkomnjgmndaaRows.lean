/-
  No cell of these rows narrows 'for every input' (looked for: loops, veiled, ifaces, maps, wideKeys, modest, calm, conditions, laid).
  DERIVED. THE GIVEN ROWS OF THIS SEAT. 4 by the template 'for every input the law returns true; each argument reads behind the call as it read before'; 0 by the template 'total and deterministic' (their statements: YtgdlkomnjgmndaaTotals.lean).
  GIVEN WITH THE SEED: the statements are not yours to turn. If you find one false, say at which input.
  Laid BY PROGRAM, IN A SANDBOX (cutbox-rows.mjs): the forced cells as the released guide's own fill.sh prints them over the translation 4419a6c896293af9… (all of the seat's roots in one cut). By AI agents, Wed Nov 11 2026. No macro, syntax, notation, axiom, sorry.
-/
import Derived.Test.YtgdlkomnjgmndaaChecked
import GoSem.Claim
import GoSem.ClaimJoined
import GoSem.ClaimMapViews
import Derived.JoinedTies
import Derived.KernelRfl
namespace Go.Proofs.Ytgdlkomnjgmndaa
/- THE CELL 'sum', in the pinned program and in every row, IS THE sha256 OF THE DUMP (.gsa) THAT YtgdlkomnjgmndaaProg.lean LOADS. Nothing in Lean hashes anything: it is a label: what it is worth is what the hold of that sum in a sandbox is worth. -/
noncomputable def Try.pinned : Pinned := { name := "ytgdlkomnjgmndaa", sum := "4419a6c896293af9ec040a35dc35c4c7610756a54e44a4f6025b762c13a63a6d", checked := Try.checked }
namespace Rows
def none {H : Type} : Left H := { results := [], args := [] }

/-- 'syndiclaw03.FletchSums': WHATEVER THE INPUT: true; the input reads as it did. -/
def fletchSumsSpec : ChangeSpec := { name := "fletchSums", fn := fun _ => fun
  | [d] => { results := [.lit (.bool true)], args := [d] }
  | _ => none }
def fletchSumsRow : OpenClaim := { program := "ytgdlkomnjgmndaa", sum := "4419a6c896293af9ec040a35dc35c4c7610756a54e44a4f6025b762c13a63a6d", func := "syndic/syndiclaw03.FletchSums", spec := "fletchSums", apart := false }
def FletchSumsSaid : Prop := fletchSumsRow.holds Try.pinned (OpenSpec.ofChange fletchSumsSpec)

/-- ITS FALSE NEIGHBOUR: 'it returns false'. Refute it at one input. -/
def fletchSumsWrong : ChangeSpec := { name := "fletchSums", fn := fun _ => fun
  | [d] => { results := [.lit (.bool false)], args := [d] }
  | _ => none }
def FletchSumsWrongFalsely : Prop := fletchSumsRow.holds Try.pinned (OpenSpec.ofChange fletchSumsWrong)

/-- 'syndiclaw03.FletchFills': WHATEVER THE INPUT: true; the input reads as it did. -/
def fletchFillsSpec : ChangeSpec := { name := "fletchFills", fn := fun _ => fun
  | [d1, d2] => { results := [.lit (.bool true)], args := [d1, d2] }
  | _ => none }
def fletchFillsRow : OpenClaim := { program := "ytgdlkomnjgmndaa", sum := "4419a6c896293af9ec040a35dc35c4c7610756a54e44a4f6025b762c13a63a6d", func := "syndic/syndiclaw03.FletchFills", spec := "fletchFills", apart := false }
def FletchFillsSaid : Prop := fletchFillsRow.holds Try.pinned (OpenSpec.ofChange fletchFillsSpec)

/-- ITS FALSE NEIGHBOUR: 'it returns false'. Refute it at one input. -/
def fletchFillsWrong : ChangeSpec := { name := "fletchFills", fn := fun _ => fun
  | [d1, d2] => { results := [.lit (.bool false)], args := [d1, d2] }
  | _ => none }
def FletchFillsWrongFalsely : Prop := fletchFillsRow.holds Try.pinned (OpenSpec.ofChange fletchFillsWrong)

/-- 'syndiclaw03.FletchChanged': WHATEVER THE INPUT: true; the input reads as it did. -/
def fletchChangedSpec : ChangeSpec := { name := "fletchChanged", fn := fun _ => fun
  | [d1, d2, d3] => { results := [.lit (.bool true)], args := [d1, d2, d3] }
  | _ => none }
def fletchChangedRow : OpenClaim := { program := "ytgdlkomnjgmndaa", sum := "4419a6c896293af9ec040a35dc35c4c7610756a54e44a4f6025b762c13a63a6d", func := "syndic/syndiclaw03.FletchChanged", spec := "fletchChanged", apart := false }
def FletchChangedSaid : Prop := fletchChangedRow.holds Try.pinned (OpenSpec.ofChange fletchChangedSpec)

/-- ITS FALSE NEIGHBOUR: 'it returns false'. Refute it at one input. -/
def fletchChangedWrong : ChangeSpec := { name := "fletchChanged", fn := fun _ => fun
  | [d1, d2, d3] => { results := [.lit (.bool false)], args := [d1, d2, d3] }
  | _ => none }
def FletchChangedWrongFalsely : Prop := fletchChangedRow.holds Try.pinned (OpenSpec.ofChange fletchChangedWrong)

/-- 'syndiclaw03.FletchJoins': WHATEVER THE INPUT: true; the input reads as it did. -/
def fletchJoinsSpec : ChangeSpec := { name := "fletchJoins", fn := fun _ => fun
  | [d1, d2] => { results := [.lit (.bool true)], args := [d1, d2] }
  | _ => none }
def fletchJoinsRow : OpenClaim := { program := "ytgdlkomnjgmndaa", sum := "4419a6c896293af9ec040a35dc35c4c7610756a54e44a4f6025b762c13a63a6d", func := "syndic/syndiclaw03.FletchJoins", spec := "fletchJoins", apart := false }
def FletchJoinsSaid : Prop := fletchJoinsRow.holds Try.pinned (OpenSpec.ofChange fletchJoinsSpec)

/-- ITS FALSE NEIGHBOUR: 'it returns false'. Refute it at one input. -/
def fletchJoinsWrong : ChangeSpec := { name := "fletchJoins", fn := fun _ => fun
  | [d1, d2] => { results := [.lit (.bool false)], args := [d1, d2] }
  | _ => none }
def FletchJoinsWrongFalsely : Prop := fletchJoinsRow.holds Try.pinned (OpenSpec.ofChange fletchJoinsWrong)

/- THE SECOND FORM. 'bulk': how many values and letters a reading holds, each counted each time it is reached (what is shared counts as often as it is met; a slice's spare places count too). A statement '..UptoSaid' is the law's where the arguments, and the package variables that the reading takes, are together of bulk at most 1048576: NARROWER than '..Said'. Prove '..Said' where nothing that the law and all that it calls make is longer than what came in: it says more and counts as full. Else prove '..UptoSaid'. A law counts once. -/
mutual
def uptoBulk {H : Type} : DataW H → Nat
  | .lit (.string bytes) => bytes.length + 1
  | .lit _ => 1
  | .nil => 1
  | .ptr d => uptoBulk d + 1
  | .slice elems spare => uptoBulkAll elems + uptoBulkAll spare + 1
  | .agg parts => uptoBulkAll parts + 1
  | .iface _ d => uptoBulk d + 1
  | .map entries => uptoBulkEntries entries + 1
  | .held _ => 1
def uptoBulkAll {H : Type} : List (DataW H) → Nat
  | [] => 0
  | d :: r => uptoBulk d + uptoBulkAll r
def uptoBulkEntries {H : Type} : List (Lit × DataW H) → Nat
  | [] => 0
  | x :: r => uptoBulkEntry x + uptoBulkEntries r
def uptoBulkEntry {H : Type} : Lit × DataW H → Nat
  | (.string bytes, d) => bytes.length + uptoBulk d + 1
  | (_, d) => uptoBulk d + 1
 end
def uptoSmall : (H : Type) → List (DataW H) → Bool := fun _ ds => decide (uptoBulkAll ds ≤ 1048576)
def OpenSpec.upto (s : _root_.Go.ChangeSpec) : _root_.Go.OpenSpec := { _root_.Go.OpenSpec.ofChange s with cond := some uptoSmall }

/-- 'syndiclaw03.FletchSums', WHERE WHAT IT READS IS OF BULK AT MOST 1048576: true; the input reads as it did. -/
def fletchSumsUptoRow : OpenClaim := { program := "ytgdlkomnjgmndaa", sum := "4419a6c896293af9ec040a35dc35c4c7610756a54e44a4f6025b762c13a63a6d", func := "syndic/syndiclaw03.FletchSums", spec := "fletchSums", apart := false, narrowed := true }
def FletchSumsUptoSaid : Prop := fletchSumsUptoRow.holds Try.pinned (OpenSpec.upto fletchSumsSpec)

/-- 'syndiclaw03.FletchFills', WHERE WHAT IT READS IS OF BULK AT MOST 1048576: true; the input reads as it did. -/
def fletchFillsUptoRow : OpenClaim := { program := "ytgdlkomnjgmndaa", sum := "4419a6c896293af9ec040a35dc35c4c7610756a54e44a4f6025b762c13a63a6d", func := "syndic/syndiclaw03.FletchFills", spec := "fletchFills", apart := false, narrowed := true }
def FletchFillsUptoSaid : Prop := fletchFillsUptoRow.holds Try.pinned (OpenSpec.upto fletchFillsSpec)

/-- 'syndiclaw03.FletchChanged', WHERE WHAT IT READS IS OF BULK AT MOST 1048576: true; the input reads as it did. -/
def fletchChangedUptoRow : OpenClaim := { program := "ytgdlkomnjgmndaa", sum := "4419a6c896293af9ec040a35dc35c4c7610756a54e44a4f6025b762c13a63a6d", func := "syndic/syndiclaw03.FletchChanged", spec := "fletchChanged", apart := false, narrowed := true }
def FletchChangedUptoSaid : Prop := fletchChangedUptoRow.holds Try.pinned (OpenSpec.upto fletchChangedSpec)

/-- 'syndiclaw03.FletchJoins', WHERE WHAT IT READS IS OF BULK AT MOST 1048576: true; the input reads as it did. -/
def fletchJoinsUptoRow : OpenClaim := { program := "ytgdlkomnjgmndaa", sum := "4419a6c896293af9ec040a35dc35c4c7610756a54e44a4f6025b762c13a63a6d", func := "syndic/syndiclaw03.FletchJoins", spec := "fletchJoins", apart := false, narrowed := true }
def FletchJoinsUptoSaid : Prop := fletchJoinsUptoRow.holds Try.pinned (OpenSpec.upto fletchJoinsSpec)

end Rows
end Go.Proofs.Ytgdlkomnjgmndaa
