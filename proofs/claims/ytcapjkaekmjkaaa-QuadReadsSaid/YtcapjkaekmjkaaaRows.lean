/-
  No cell of these rows narrows 'for every input' (looked for: loops, veiled, ifaces, maps, wideKeys, modest, calm, conditions, laid).
  DERIVED. THE GIVEN ROWS OF THIS SEAT. 4 by the template 'for every input the law returns true; each argument reads behind the call as it read before'; 0 by the template 'total and deterministic' (their statements: YtcapjkaekmjkaaaTotals.lean).
  GIVEN WITH THE SEED: the statements are not yours to turn. If you find one false, say at which input.
  Laid BY PROGRAM, IN A SANDBOX (cutbox-rows.mjs): the forced cells as the released guide's own fill.sh prints them over the translation dda98ee868a9b7b3… (all of the seat's roots in one cut). By AI agents, Wed Nov 11 2026. No macro, syntax, notation, axiom, sorry.
-/
import Derived.Test.YtcapjkaekmjkaaaChecked
import GoSem.Claim
import GoSem.ClaimJoined
import GoSem.ClaimMapViews
import Derived.JoinedTies
import Derived.KernelRfl
namespace Go.Proofs.Ytcapjkaekmjkaaa
/- THE CELL 'sum', in the pinned program and in every row, IS THE sha256 OF THE DUMP (.gsa) THAT YtcapjkaekmjkaaaProg.lean LOADS. Nothing in Lean hashes anything: it is a label: what it is worth is what the hold of that sum in a sandbox is worth. -/
noncomputable def Try.pinned : Pinned := { name := "ytcapjkaekmjkaaa", sum := "dda98ee868a9b7b30782308fe224a389f0a6d5e62588acd26b477d667eeb6a9c", checked := Try.checked }
namespace Rows
def none {H : Type} : Left H := { results := [], args := [] }

/-- 'syndiclaw01.QuadPuts': WHATEVER THE INPUT: true; the input reads as it did. -/
def quadPutsSpec : ChangeSpec := { name := "quadPuts", fn := fun _ => fun
  | [d1, d2, d3] => { results := [.lit (.bool true)], args := [d1, d2, d3] }
  | _ => none }
def quadPutsRow : OpenClaim := { program := "ytcapjkaekmjkaaa", sum := "dda98ee868a9b7b30782308fe224a389f0a6d5e62588acd26b477d667eeb6a9c", func := "syndic/syndiclaw01.QuadPuts", spec := "quadPuts", apart := false }
def QuadPutsSaid : Prop := quadPutsRow.holds Try.pinned (OpenSpec.ofChange quadPutsSpec)

/-- ITS FALSE NEIGHBOUR: 'it returns false'. Refute it at one input. -/
def quadPutsWrong : ChangeSpec := { name := "quadPuts", fn := fun _ => fun
  | [d1, d2, d3] => { results := [.lit (.bool false)], args := [d1, d2, d3] }
  | _ => none }
def QuadPutsWrongFalsely : Prop := quadPutsRow.holds Try.pinned (OpenSpec.ofChange quadPutsWrong)

/-- 'syndiclaw01.QuadReads': WHATEVER THE INPUT: true; the input reads as it did. -/
def quadReadsSpec : ChangeSpec := { name := "quadReads", fn := fun _ => fun
  | [d1, d2, d3] => { results := [.lit (.bool true)], args := [d1, d2, d3] }
  | _ => none }
def quadReadsRow : OpenClaim := { program := "ytcapjkaekmjkaaa", sum := "dda98ee868a9b7b30782308fe224a389f0a6d5e62588acd26b477d667eeb6a9c", func := "syndic/syndiclaw01.QuadReads", spec := "quadReads", apart := false }
def QuadReadsSaid : Prop := quadReadsRow.holds Try.pinned (OpenSpec.ofChange quadReadsSpec)

/-- ITS FALSE NEIGHBOUR: 'it returns false'. Refute it at one input. -/
def quadReadsWrong : ChangeSpec := { name := "quadReads", fn := fun _ => fun
  | [d1, d2, d3] => { results := [.lit (.bool false)], args := [d1, d2, d3] }
  | _ => none }
def QuadReadsWrongFalsely : Prop := quadReadsRow.holds Try.pinned (OpenSpec.ofChange quadReadsWrong)

/-- 'syndiclaw01.QuadRows': WHATEVER THE INPUT: true; the input reads as it did. -/
def quadRowsSpec : ChangeSpec := { name := "quadRows", fn := fun _ => fun
  | [d1, d2] => { results := [.lit (.bool true)], args := [d1, d2] }
  | _ => none }
def quadRowsRow : OpenClaim := { program := "ytcapjkaekmjkaaa", sum := "dda98ee868a9b7b30782308fe224a389f0a6d5e62588acd26b477d667eeb6a9c", func := "syndic/syndiclaw01.QuadRows", spec := "quadRows", apart := false }
def QuadRowsSaid : Prop := quadRowsRow.holds Try.pinned (OpenSpec.ofChange quadRowsSpec)

/-- ITS FALSE NEIGHBOUR: 'it returns false'. Refute it at one input. -/
def quadRowsWrong : ChangeSpec := { name := "quadRows", fn := fun _ => fun
  | [d1, d2] => { results := [.lit (.bool false)], args := [d1, d2] }
  | _ => none }
def QuadRowsWrongFalsely : Prop := quadRowsRow.holds Try.pinned (OpenSpec.ofChange quadRowsWrong)

/-- 'syndiclaw01.QuadNil': WHATEVER THE INPUT: true; the input reads as it did. -/
def quadNilSpec : ChangeSpec := { name := "quadNil", fn := fun _ => fun
  | [d] => { results := [.lit (.bool true)], args := [d] }
  | _ => none }
def quadNilRow : OpenClaim := { program := "ytcapjkaekmjkaaa", sum := "dda98ee868a9b7b30782308fe224a389f0a6d5e62588acd26b477d667eeb6a9c", func := "syndic/syndiclaw01.QuadNil", spec := "quadNil", apart := false }
def QuadNilSaid : Prop := quadNilRow.holds Try.pinned (OpenSpec.ofChange quadNilSpec)

/-- ITS FALSE NEIGHBOUR: 'it returns false'. Refute it at one input. -/
def quadNilWrong : ChangeSpec := { name := "quadNil", fn := fun _ => fun
  | [d] => { results := [.lit (.bool false)], args := [d] }
  | _ => none }
def QuadNilWrongFalsely : Prop := quadNilRow.holds Try.pinned (OpenSpec.ofChange quadNilWrong)

/- THE SECOND FORM. 'bulk': how many values and letters a reading holds, each counted each time it is reached (what is shared counts as often as it is met; a slice's spare places count too). A statement '..UptoSaid' is the law's where the arguments, and the package variables that the reading takes, are together of bulk at most 1048576: NARROWER than '..Said'. Prove '..Said' where nothing that the law and all that it calls make is longer than what came in: it says more and counts as full. Else prove '..UptoSaid'. A law counts once. -/
mutual
def uptoBulk {H : Type} : DataW H → Nat
  | .lit (.string bytes) => bytes.length + 1
  | .lit _ => 1
  | .nil => 1
  | .ptr d => uptoBulk d + 1
  | .slice elems spare => uptoBulkAll elems + uptoBulkAll spare + 1
  | .agg parts => uptoBulkAll parts + 1
  | .iface _ d => uptoBulk d + 1
  | .map entries => uptoBulkEntries entries + 1
  | .held _ => 1
def uptoBulkAll {H : Type} : List (DataW H) → Nat
  | [] => 0
  | d :: r => uptoBulk d + uptoBulkAll r
def uptoBulkEntries {H : Type} : List (Lit × DataW H) → Nat
  | [] => 0
  | x :: r => uptoBulkEntry x + uptoBulkEntries r
def uptoBulkEntry {H : Type} : Lit × DataW H → Nat
  | (.string bytes, d) => bytes.length + uptoBulk d + 1
  | (_, d) => uptoBulk d + 1
 end
def uptoSmall : (H : Type) → List (DataW H) → Bool := fun _ ds => decide (uptoBulkAll ds ≤ 1048576)
def OpenSpec.upto (s : _root_.Go.ChangeSpec) : _root_.Go.OpenSpec := { _root_.Go.OpenSpec.ofChange s with cond := some uptoSmall }

/-- 'syndiclaw01.QuadPuts', WHERE WHAT IT READS IS OF BULK AT MOST 1048576: true; the input reads as it did. -/
def quadPutsUptoRow : OpenClaim := { program := "ytcapjkaekmjkaaa", sum := "dda98ee868a9b7b30782308fe224a389f0a6d5e62588acd26b477d667eeb6a9c", func := "syndic/syndiclaw01.QuadPuts", spec := "quadPuts", apart := false, narrowed := true }
def QuadPutsUptoSaid : Prop := quadPutsUptoRow.holds Try.pinned (OpenSpec.upto quadPutsSpec)

/-- 'syndiclaw01.QuadReads', WHERE WHAT IT READS IS OF BULK AT MOST 1048576: true; the input reads as it did. -/
def quadReadsUptoRow : OpenClaim := { program := "ytcapjkaekmjkaaa", sum := "dda98ee868a9b7b30782308fe224a389f0a6d5e62588acd26b477d667eeb6a9c", func := "syndic/syndiclaw01.QuadReads", spec := "quadReads", apart := false, narrowed := true }
def QuadReadsUptoSaid : Prop := quadReadsUptoRow.holds Try.pinned (OpenSpec.upto quadReadsSpec)

/-- 'syndiclaw01.QuadRows', WHERE WHAT IT READS IS OF BULK AT MOST 1048576: true; the input reads as it did. -/
def quadRowsUptoRow : OpenClaim := { program := "ytcapjkaekmjkaaa", sum := "dda98ee868a9b7b30782308fe224a389f0a6d5e62588acd26b477d667eeb6a9c", func := "syndic/syndiclaw01.QuadRows", spec := "quadRows", apart := false, narrowed := true }
def QuadRowsUptoSaid : Prop := quadRowsUptoRow.holds Try.pinned (OpenSpec.upto quadRowsSpec)

/-- 'syndiclaw01.QuadNil', WHERE WHAT IT READS IS OF BULK AT MOST 1048576: true; the input reads as it did. -/
def quadNilUptoRow : OpenClaim := { program := "ytcapjkaekmjkaaa", sum := "dda98ee868a9b7b30782308fe224a389f0a6d5e62588acd26b477d667eeb6a9c", func := "syndic/syndiclaw01.QuadNil", spec := "quadNil", apart := false, narrowed := true }
def QuadNilUptoSaid : Prop := quadNilUptoRow.holds Try.pinned (OpenSpec.upto quadNilSpec)

end Rows
end Go.Proofs.Ytcapjkaekmjkaaa
