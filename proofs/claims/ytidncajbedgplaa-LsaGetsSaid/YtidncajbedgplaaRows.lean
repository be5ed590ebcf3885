/-
  No cell of these rows narrows 'for every input' (looked for: loops, veiled, ifaces, maps, wideKeys, modest, calm, conditions, laid).
  DERIVED. THE GIVEN ROWS OF THIS SEAT. 5 by the template 'for every input the law returns true; each argument reads behind the call as it read before'; 0 by the template 'total and deterministic' (their statements: YtidncajbedgplaaTotals.lean).
  GIVEN WITH THE SEED: the statements are not yours to turn. If you find one false, say at which input.
  Laid BY PROGRAM, IN A SANDBOX (cutbox-rows.mjs): the forced cells as the released guide's own fill.sh prints them over the translation 0a9b7f5f4a942dce… (all of the seat's roots in one cut). By AI agents, Wed Nov 11 2026. No macro, syntax, notation, axiom, sorry.
-/
import Derived.Test.YtidncajbedgplaaChecked
import GoSem.Claim
import GoSem.ClaimJoined
import GoSem.ClaimMapViews
import Derived.JoinedTies
import Derived.KernelRfl
namespace Go.Proofs.Ytidncajbedgplaa
/- THE CELL 'sum', in the pinned program and in every row, IS THE sha256 OF THE DUMP (.gsa) THAT YtidncajbedgplaaProg.lean LOADS. Nothing in Lean hashes anything: it is a label: what it is worth is what the hold of that sum in a sandbox is worth. -/
noncomputable def Try.pinned : Pinned := { name := "ytidncajbedgplaa", sum := "0a9b7f5f4a942dce47ec391164709ac6712df06ab8a5f5a755f053e5f7ac8823", checked := Try.checked }
namespace Rows
def none {H : Type} : Left H := { results := [], args := [] }

/-- 'syndiclaw04.LsaPuts': WHATEVER THE INPUT: true; the input reads as it did. -/
def lsaPutsSpec : ChangeSpec := { name := "lsaPuts", fn := fun _ => fun
  | [d1, d2] => { results := [.lit (.bool true)], args := [d1, d2] }
  | _ => none }
def lsaPutsRow : OpenClaim := { program := "ytidncajbedgplaa", sum := "0a9b7f5f4a942dce47ec391164709ac6712df06ab8a5f5a755f053e5f7ac8823", func := "syndic/syndiclaw04.LsaPuts", spec := "lsaPuts", apart := false }
def LsaPutsSaid : Prop := lsaPutsRow.holds Try.pinned (OpenSpec.ofChange lsaPutsSpec)

/-- ITS FALSE NEIGHBOUR: 'it returns false'. Refute it at one input. -/
def lsaPutsWrong : ChangeSpec := { name := "lsaPuts", fn := fun _ => fun
  | [d1, d2] => { results := [.lit (.bool false)], args := [d1, d2] }
  | _ => none }
def LsaPutsWrongFalsely : Prop := lsaPutsRow.holds Try.pinned (OpenSpec.ofChange lsaPutsWrong)

/-- 'syndiclaw04.LsaGets': WHATEVER THE INPUT: true; the input reads as it did. -/
def lsaGetsSpec : ChangeSpec := { name := "lsaGets", fn := fun _ => fun
  | [d] => { results := [.lit (.bool true)], args := [d] }
  | _ => none }
def lsaGetsRow : OpenClaim := { program := "ytidncajbedgplaa", sum := "0a9b7f5f4a942dce47ec391164709ac6712df06ab8a5f5a755f053e5f7ac8823", func := "syndic/syndiclaw04.LsaGets", spec := "lsaGets", apart := false }
def LsaGetsSaid : Prop := lsaGetsRow.holds Try.pinned (OpenSpec.ofChange lsaGetsSpec)

/-- ITS FALSE NEIGHBOUR: 'it returns false'. Refute it at one input. -/
def lsaGetsWrong : ChangeSpec := { name := "lsaGets", fn := fun _ => fun
  | [d] => { results := [.lit (.bool false)], args := [d] }
  | _ => none }
def LsaGetsWrongFalsely : Prop := lsaGetsRow.holds Try.pinned (OpenSpec.ofChange lsaGetsWrong)

/-- 'syndiclaw04.LsaHeads': WHATEVER THE INPUT: true; the input reads as it did. -/
def lsaHeadsSpec : ChangeSpec := { name := "lsaHeads", fn := fun _ => fun
  | [d] => { results := [.lit (.bool true)], args := [d] }
  | _ => none }
def lsaHeadsRow : OpenClaim := { program := "ytidncajbedgplaa", sum := "0a9b7f5f4a942dce47ec391164709ac6712df06ab8a5f5a755f053e5f7ac8823", func := "syndic/syndiclaw04.LsaHeads", spec := "lsaHeads", apart := false }
def LsaHeadsSaid : Prop := lsaHeadsRow.holds Try.pinned (OpenSpec.ofChange lsaHeadsSpec)

/-- ITS FALSE NEIGHBOUR: 'it returns false'. Refute it at one input. -/
def lsaHeadsWrong : ChangeSpec := { name := "lsaHeads", fn := fun _ => fun
  | [d] => { results := [.lit (.bool false)], args := [d] }
  | _ => none }
def LsaHeadsWrongFalsely : Prop := lsaHeadsRow.holds Try.pinned (OpenSpec.ofChange lsaHeadsWrong)

/-- 'syndiclaw04.LsaChanged': WHATEVER THE INPUT: true; the input reads as it did. -/
def lsaChangedSpec : ChangeSpec := { name := "lsaChanged", fn := fun _ => fun
  | [d1, d2, d3] => { results := [.lit (.bool true)], args := [d1, d2, d3] }
  | _ => none }
def lsaChangedRow : OpenClaim := { program := "ytidncajbedgplaa", sum := "0a9b7f5f4a942dce47ec391164709ac6712df06ab8a5f5a755f053e5f7ac8823", func := "syndic/syndiclaw04.LsaChanged", spec := "lsaChanged", apart := false }
def LsaChangedSaid : Prop := lsaChangedRow.holds Try.pinned (OpenSpec.ofChange lsaChangedSpec)

/-- ITS FALSE NEIGHBOUR: 'it returns false'. Refute it at one input. -/
def lsaChangedWrong : ChangeSpec := { name := "lsaChanged", fn := fun _ => fun
  | [d1, d2, d3] => { results := [.lit (.bool false)], args := [d1, d2, d3] }
  | _ => none }
def LsaChangedWrongFalsely : Prop := lsaChangedRow.holds Try.pinned (OpenSpec.ofChange lsaChangedWrong)

/-- 'syndiclaw04.LsaAges': WHATEVER THE INPUT: true; the input reads as it did. -/
def lsaAgesSpec : ChangeSpec := { name := "lsaAges", fn := fun _ => fun
  | [d1, d2] => { results := [.lit (.bool true)], args := [d1, d2] }
  | _ => none }
def lsaAgesRow : OpenClaim := { program := "ytidncajbedgplaa", sum := "0a9b7f5f4a942dce47ec391164709ac6712df06ab8a5f5a755f053e5f7ac8823", func := "syndic/syndiclaw04.LsaAges", spec := "lsaAges", apart := false }
def LsaAgesSaid : Prop := lsaAgesRow.holds Try.pinned (OpenSpec.ofChange lsaAgesSpec)

/-- ITS FALSE NEIGHBOUR: 'it returns false'. Refute it at one input. -/
def lsaAgesWrong : ChangeSpec := { name := "lsaAges", fn := fun _ => fun
  | [d1, d2] => { results := [.lit (.bool false)], args := [d1, d2] }
  | _ => none }
def LsaAgesWrongFalsely : Prop := lsaAgesRow.holds Try.pinned (OpenSpec.ofChange lsaAgesWrong)

/- THE SECOND FORM. 'bulk': how many values and letters a reading holds, each counted each time it is reached (what is shared counts as often as it is met; a slice's spare places count too). A statement '..UptoSaid' is the law's where the arguments, and the package variables that the reading takes, are together of bulk at most 1048576: NARROWER than '..Said'. Prove '..Said' where nothing that the law and all that it calls make is longer than what came in: it says more and counts as full. Else prove '..UptoSaid'. A law counts once. -/
mutual
def uptoBulk {H : Type} : DataW H → Nat
  | .lit (.string bytes) => bytes.length + 1
  | .lit _ => 1
  | .nil => 1
  | .ptr d => uptoBulk d + 1
  | .slice elems spare => uptoBulkAll elems + uptoBulkAll spare + 1
  | .agg parts => uptoBulkAll parts + 1
  | .iface _ d => uptoBulk d + 1
  | .map entries => uptoBulkEntries entries + 1
  | .held _ => 1
def uptoBulkAll {H : Type} : List (DataW H) → Nat
  | [] => 0
  | d :: r => uptoBulk d + uptoBulkAll r
def uptoBulkEntries {H : Type} : List (Lit × DataW H) → Nat
  | [] => 0
  | x :: r => uptoBulkEntry x + uptoBulkEntries r
def uptoBulkEntry {H : Type} : Lit × DataW H → Nat
  | (.string bytes, d) => bytes.length + uptoBulk d + 1
  | (_, d) => uptoBulk d + 1
 end
def uptoSmall : (H : Type) → List (DataW H) → Bool := fun _ ds => decide (uptoBulkAll ds ≤ 1048576)
def OpenSpec.upto (s : _root_.Go.ChangeSpec) : _root_.Go.OpenSpec := { _root_.Go.OpenSpec.ofChange s with cond := some uptoSmall }

/-- 'syndiclaw04.LsaPuts', WHERE WHAT IT READS IS OF BULK AT MOST 1048576: true; the input reads as it did. -/
def lsaPutsUptoRow : OpenClaim := { program := "ytidncajbedgplaa", sum := "0a9b7f5f4a942dce47ec391164709ac6712df06ab8a5f5a755f053e5f7ac8823", func := "syndic/syndiclaw04.LsaPuts", spec := "lsaPuts", apart := false, narrowed := true }
def LsaPutsUptoSaid : Prop := lsaPutsUptoRow.holds Try.pinned (OpenSpec.upto lsaPutsSpec)

/-- 'syndiclaw04.LsaGets', WHERE WHAT IT READS IS OF BULK AT MOST 1048576: true; the input reads as it did. -/
def lsaGetsUptoRow : OpenClaim := { program := "ytidncajbedgplaa", sum := "0a9b7f5f4a942dce47ec391164709ac6712df06ab8a5f5a755f053e5f7ac8823", func := "syndic/syndiclaw04.LsaGets", spec := "lsaGets", apart := false, narrowed := true }
def LsaGetsUptoSaid : Prop := lsaGetsUptoRow.holds Try.pinned (OpenSpec.upto lsaGetsSpec)

/-- 'syndiclaw04.LsaHeads', WHERE WHAT IT READS IS OF BULK AT MOST 1048576: true; the input reads as it did. -/
def lsaHeadsUptoRow : OpenClaim := { program := "ytidncajbedgplaa", sum := "0a9b7f5f4a942dce47ec391164709ac6712df06ab8a5f5a755f053e5f7ac8823", func := "syndic/syndiclaw04.LsaHeads", spec := "lsaHeads", apart := false, narrowed := true }
def LsaHeadsUptoSaid : Prop := lsaHeadsUptoRow.holds Try.pinned (OpenSpec.upto lsaHeadsSpec)

/-- 'syndiclaw04.LsaChanged', WHERE WHAT IT READS IS OF BULK AT MOST 1048576: true; the input reads as it did. -/
def lsaChangedUptoRow : OpenClaim := { program := "ytidncajbedgplaa", sum := "0a9b7f5f4a942dce47ec391164709ac6712df06ab8a5f5a755f053e5f7ac8823", func := "syndic/syndiclaw04.LsaChanged", spec := "lsaChanged", apart := false, narrowed := true }
def LsaChangedUptoSaid : Prop := lsaChangedUptoRow.holds Try.pinned (OpenSpec.upto lsaChangedSpec)

/-- 'syndiclaw04.LsaAges', WHERE WHAT IT READS IS OF BULK AT MOST 1048576: true; the input reads as it did. -/
def lsaAgesUptoRow : OpenClaim := { program := "ytidncajbedgplaa", sum := "0a9b7f5f4a942dce47ec391164709ac6712df06ab8a5f5a755f053e5f7ac8823", func := "syndic/syndiclaw04.LsaAges", spec := "lsaAges", apart := false, narrowed := true }
def LsaAgesUptoSaid : Prop := lsaAgesUptoRow.holds Try.pinned (OpenSpec.upto lsaAgesSpec)

end Rows
end Go.Proofs.Ytidncajbedgplaa
