/-
  No cell of these rows narrows 'for every input' (looked for: loops, veiled, ifaces, maps, wideKeys, modest, calm, conditions, laid).
  DERIVED. THE GIVEN ROWS OF THIS SEAT. 6 by the template 'for every input the law returns true; each argument reads behind the call as it read before'; 0 by the template 'total and deterministic' (their statements: YtiibefgdlmjdgaaTotals.lean).
  GIVEN WITH THE SEED: the statements are not yours to turn. If you find one false, say at which input.
  Laid BY PROGRAM, IN A SANDBOX (cutbox-rows.mjs): the forced cells as the released guide's own fill.sh prints them over the translation d1c1a9f30dd2289f… (all of the seat's roots in one cut). By AI agents, Wed Nov 11 2026. No macro, syntax, notation, axiom, sorry.
-/
import Derived.Test.YtiibefgdlmjdgaaChecked
import GoSem.Claim
import GoSem.ClaimJoined
import GoSem.ClaimMapViews
import Derived.JoinedTies
import Derived.KernelRfl
namespace Go.Proofs.Ytiibefgdlmjdgaa
/- THE CELL 'sum', in the pinned program and in every row, IS THE sha256 OF THE DUMP (.gsa) THAT YtiibefgdlmjdgaaProg.lean LOADS. Nothing in Lean hashes anything: it is a label: what it is worth is what the hold of that sum in a sandbox is worth. -/
noncomputable def Try.pinned : Pinned := { name := "ytiibefgdlmjdgaa", sum := "d1c1a9f30dd2289f5ad7a6cb713109a03302d69bed12a0a0f459248abdeb6a7d", checked := Try.checked }
namespace Rows
def none {H : Type} : Left H := { results := [], args := [] }

/-- 'syndiclaw07.DbActs': WHATEVER THE INPUT: true; the input reads as it did. -/
def dbActsSpec : ChangeSpec := { name := "dbActs", fn := fun _ => fun
  | [d1, d2] => { results := [.lit (.bool true)], args := [d1, d2] }
  | _ => none }
def dbActsRow : OpenClaim := { program := "ytiibefgdlmjdgaa", sum := "d1c1a9f30dd2289f5ad7a6cb713109a03302d69bed12a0a0f459248abdeb6a7d", func := "syndic/syndiclaw07.DbActs", spec := "dbActs", unfollowed := true, recurses := true, plainKeys := false, apart := false }
def DbActsSaid : Prop := dbActsRow.holds Try.pinned (OpenSpec.ofChange dbActsSpec)

/-- ITS FALSE NEIGHBOUR: 'it returns false'. Refute it at one input. -/
def dbActsWrong : ChangeSpec := { name := "dbActs", fn := fun _ => fun
  | [d1, d2] => { results := [.lit (.bool false)], args := [d1, d2] }
  | _ => none }
def DbActsWrongFalsely : Prop := dbActsRow.holds Try.pinned (OpenSpec.ofChange dbActsWrong)

/-- 'syndiclaw07.DbOwn': WHATEVER THE INPUT: true; the input reads as it did. -/
def dbOwnSpec : ChangeSpec := { name := "dbOwn", fn := fun _ => fun
  | [d] => { results := [.lit (.bool true)], args := [d] }
  | _ => none }
def dbOwnRow : OpenClaim := { program := "ytiibefgdlmjdgaa", sum := "d1c1a9f30dd2289f5ad7a6cb713109a03302d69bed12a0a0f459248abdeb6a7d", func := "syndic/syndiclaw07.DbOwn", spec := "dbOwn", unfollowed := true, recurses := true, plainKeys := false, apart := false }
def DbOwnSaid : Prop := dbOwnRow.holds Try.pinned (OpenSpec.ofChange dbOwnSpec)

/-- ITS FALSE NEIGHBOUR: 'it returns false'. Refute it at one input. -/
def dbOwnWrong : ChangeSpec := { name := "dbOwn", fn := fun _ => fun
  | [d] => { results := [.lit (.bool false)], args := [d] }
  | _ => none }
def DbOwnWrongFalsely : Prop := dbOwnRow.holds Try.pinned (OpenSpec.ofChange dbOwnWrong)

/-- 'syndiclaw07.DbAges': WHATEVER THE INPUT: true; the input reads as it did. -/
def dbAgesSpec : ChangeSpec := { name := "dbAges", fn := fun _ => fun
  | [d1, d2] => { results := [.lit (.bool true)], args := [d1, d2] }
  | _ => none }
def dbAgesRow : OpenClaim := { program := "ytiibefgdlmjdgaa", sum := "d1c1a9f30dd2289f5ad7a6cb713109a03302d69bed12a0a0f459248abdeb6a7d", func := "syndic/syndiclaw07.DbAges", spec := "dbAges", unfollowed := true, recurses := true, plainKeys := false, apart := false }
def DbAgesSaid : Prop := dbAgesRow.holds Try.pinned (OpenSpec.ofChange dbAgesSpec)

/-- ITS FALSE NEIGHBOUR: 'it returns false'. Refute it at one input. -/
def dbAgesWrong : ChangeSpec := { name := "dbAges", fn := fun _ => fun
  | [d1, d2] => { results := [.lit (.bool false)], args := [d1, d2] }
  | _ => none }
def DbAgesWrongFalsely : Prop := dbAgesRow.holds Try.pinned (OpenSpec.ofChange dbAgesWrong)

/-- 'syndiclaw13.SummTells': WHATEVER THE INPUT: true; the input reads as it did. -/
def summTellsSpec : ChangeSpec := { name := "summTells", fn := fun _ => fun
  | [d] => { results := [.lit (.bool true)], args := [d] }
  | _ => none }
def summTellsRow : OpenClaim := { program := "ytiibefgdlmjdgaa", sum := "d1c1a9f30dd2289f5ad7a6cb713109a03302d69bed12a0a0f459248abdeb6a7d", func := "syndic/syndiclaw13.SummTells", spec := "summTells", unfollowed := true, recurses := true, plainKeys := false, apart := false }
def SummTellsSaid : Prop := summTellsRow.holds Try.pinned (OpenSpec.ofChange summTellsSpec)

/-- ITS FALSE NEIGHBOUR: 'it returns false'. Refute it at one input. -/
def summTellsWrong : ChangeSpec := { name := "summTells", fn := fun _ => fun
  | [d] => { results := [.lit (.bool false)], args := [d] }
  | _ => none }
def SummTellsWrongFalsely : Prop := summTellsRow.holds Try.pinned (OpenSpec.ofChange summTellsWrong)

/-- 'syndiclaw13.SummGone': WHATEVER THE INPUT: true; the input reads as it did. -/
def summGoneSpec : ChangeSpec := { name := "summGone", fn := fun _ => fun
  | [d] => { results := [.lit (.bool true)], args := [d] }
  | _ => none }
def summGoneRow : OpenClaim := { program := "ytiibefgdlmjdgaa", sum := "d1c1a9f30dd2289f5ad7a6cb713109a03302d69bed12a0a0f459248abdeb6a7d", func := "syndic/syndiclaw13.SummGone", spec := "summGone", unfollowed := true, recurses := true, plainKeys := false, apart := false }
def SummGoneSaid : Prop := summGoneRow.holds Try.pinned (OpenSpec.ofChange summGoneSpec)

/-- ITS FALSE NEIGHBOUR: 'it returns false'. Refute it at one input. -/
def summGoneWrong : ChangeSpec := { name := "summGone", fn := fun _ => fun
  | [d] => { results := [.lit (.bool false)], args := [d] }
  | _ => none }
def SummGoneWrongFalsely : Prop := summGoneRow.holds Try.pinned (OpenSpec.ofChange summGoneWrong)

/-- 'syndiclaw13.SummNil': WHATEVER THE INPUT: true; the input reads as it did. -/
def summNilSpec : ChangeSpec := { name := "summNil", fn := fun _ => fun
  | [d] => { results := [.lit (.bool true)], args := [d] }
  | _ => none }
def summNilRow : OpenClaim := { program := "ytiibefgdlmjdgaa", sum := "d1c1a9f30dd2289f5ad7a6cb713109a03302d69bed12a0a0f459248abdeb6a7d", func := "syndic/syndiclaw13.SummNil", spec := "summNil", unfollowed := true, recurses := true, plainKeys := false, apart := false }
def SummNilSaid : Prop := summNilRow.holds Try.pinned (OpenSpec.ofChange summNilSpec)

/-- ITS FALSE NEIGHBOUR: 'it returns false'. Refute it at one input. -/
def summNilWrong : ChangeSpec := { name := "summNil", fn := fun _ => fun
  | [d] => { results := [.lit (.bool false)], args := [d] }
  | _ => none }
def SummNilWrongFalsely : Prop := summNilRow.holds Try.pinned (OpenSpec.ofChange summNilWrong)

/- THE SECOND FORM. 'bulk': how many values and letters a reading holds, each counted each time it is reached (what is shared counts as often as it is met; a slice's spare places count too). A statement '..UptoSaid' is the law's where the arguments, and the package variables that the reading takes, are together of bulk at most 1048576: NARROWER than '..Said'. Prove '..Said' where nothing that the law and all that it calls make is longer than what came in: it says more and counts as full. Else prove '..UptoSaid'. A law counts once. -/
mutual
def uptoBulk {H : Type} : DataW H → Nat
  | .lit (.string bytes) => bytes.length + 1
  | .lit _ => 1
  | .nil => 1
  | .ptr d => uptoBulk d + 1
  | .slice elems spare => uptoBulkAll elems + uptoBulkAll spare + 1
  | .agg parts => uptoBulkAll parts + 1
  | .iface _ d => uptoBulk d + 1
  | .map entries => uptoBulkEntries entries + 1
  | .held _ => 1
def uptoBulkAll {H : Type} : List (DataW H) → Nat
  | [] => 0
  | d :: r => uptoBulk d + uptoBulkAll r
def uptoBulkEntries {H : Type} : List (Lit × DataW H) → Nat
  | [] => 0
  | x :: r => uptoBulkEntry x + uptoBulkEntries r
def uptoBulkEntry {H : Type} : Lit × DataW H → Nat
  | (.string bytes, d) => bytes.length + uptoBulk d + 1
  | (_, d) => uptoBulk d + 1
 end
def uptoSmall : (H : Type) → List (DataW H) → Bool := fun _ ds => decide (uptoBulkAll ds ≤ 1048576)
def OpenSpec.upto (s : _root_.Go.ChangeSpec) : _root_.Go.OpenSpec := { _root_.Go.OpenSpec.ofChange s with cond := some uptoSmall }

/-- 'syndiclaw07.DbActs', WHERE WHAT IT READS IS OF BULK AT MOST 1048576: true; the input reads as it did. -/
def dbActsUptoRow : OpenClaim := { program := "ytiibefgdlmjdgaa", sum := "d1c1a9f30dd2289f5ad7a6cb713109a03302d69bed12a0a0f459248abdeb6a7d", func := "syndic/syndiclaw07.DbActs", spec := "dbActs", unfollowed := true, recurses := true, plainKeys := false, apart := false, narrowed := true }
def DbActsUptoSaid : Prop := dbActsUptoRow.holds Try.pinned (OpenSpec.upto dbActsSpec)

/-- 'syndiclaw07.DbOwn', WHERE WHAT IT READS IS OF BULK AT MOST 1048576: true; the input reads as it did. -/
def dbOwnUptoRow : OpenClaim := { program := "ytiibefgdlmjdgaa", sum := "d1c1a9f30dd2289f5ad7a6cb713109a03302d69bed12a0a0f459248abdeb6a7d", func := "syndic/syndiclaw07.DbOwn", spec := "dbOwn", unfollowed := true, recurses := true, plainKeys := false, apart := false, narrowed := true }
def DbOwnUptoSaid : Prop := dbOwnUptoRow.holds Try.pinned (OpenSpec.upto dbOwnSpec)

/-- 'syndiclaw07.DbAges', WHERE WHAT IT READS IS OF BULK AT MOST 1048576: true; the input reads as it did. -/
def dbAgesUptoRow : OpenClaim := { program := "ytiibefgdlmjdgaa", sum := "d1c1a9f30dd2289f5ad7a6cb713109a03302d69bed12a0a0f459248abdeb6a7d", func := "syndic/syndiclaw07.DbAges", spec := "dbAges", unfollowed := true, recurses := true, plainKeys := false, apart := false, narrowed := true }
def DbAgesUptoSaid : Prop := dbAgesUptoRow.holds Try.pinned (OpenSpec.upto dbAgesSpec)

/-- 'syndiclaw13.SummTells', WHERE WHAT IT READS IS OF BULK AT MOST 1048576: true; the input reads as it did. -/
def summTellsUptoRow : OpenClaim := { program := "ytiibefgdlmjdgaa", sum := "d1c1a9f30dd2289f5ad7a6cb713109a03302d69bed12a0a0f459248abdeb6a7d", func := "syndic/syndiclaw13.SummTells", spec := "summTells", unfollowed := true, recurses := true, plainKeys := false, apart := false, narrowed := true }
def SummTellsUptoSaid : Prop := summTellsUptoRow.holds Try.pinned (OpenSpec.upto summTellsSpec)

/-- 'syndiclaw13.SummGone', WHERE WHAT IT READS IS OF BULK AT MOST 1048576: true; the input reads as it did. -/
def summGoneUptoRow : OpenClaim := { program := "ytiibefgdlmjdgaa", sum := "d1c1a9f30dd2289f5ad7a6cb713109a03302d69bed12a0a0f459248abdeb6a7d", func := "syndic/syndiclaw13.SummGone", spec := "summGone", unfollowed := true, recurses := true, plainKeys := false, apart := false, narrowed := true }
def SummGoneUptoSaid : Prop := summGoneUptoRow.holds Try.pinned (OpenSpec.upto summGoneSpec)

/-- 'syndiclaw13.SummNil', WHERE WHAT IT READS IS OF BULK AT MOST 1048576: true; the input reads as it did. -/
def summNilUptoRow : OpenClaim := { program := "ytiibefgdlmjdgaa", sum := "d1c1a9f30dd2289f5ad7a6cb713109a03302d69bed12a0a0f459248abdeb6a7d", func := "syndic/syndiclaw13.SummNil", spec := "summNil", unfollowed := true, recurses := true, plainKeys := false, apart := false, narrowed := true }
def SummNilUptoSaid : Prop := summNilUptoRow.holds Try.pinned (OpenSpec.upto summNilSpec)

end Rows
end Go.Proofs.Ytiibefgdlmjdgaa
