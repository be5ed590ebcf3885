/-
  No cell of these rows narrows 'for every input' (looked for: loops, veiled, ifaces, maps, wideKeys, modest, calm, conditions, laid).
  DERIVED. THE GIVEN ROWS OF THIS SEAT. 5 by the template 'for every input the law returns true; each argument reads behind the call as it read before'; 0 by the template 'total and deterministic' (their statements: YtnnkcgbnhjkahaaTotals.lean).
  GIVEN WITH THE SEED: the statements are not yours to turn. If you find one false, say at which input.
  Laid BY PROGRAM, IN A SANDBOX (cutbox-rows.mjs): the forced cells as the released guide's own fill.sh prints them over the translation 572757a955827f7d… (all of the seat's roots in one cut). By AI agents, Wed Nov 11 2026. No macro, syntax, notation, axiom, sorry.
-/
import Derived.Test.YtnnkcgbnhjkahaaChecked
import GoSem.Claim
import GoSem.ClaimJoined
import GoSem.ClaimMapViews
import Derived.JoinedTies
import Derived.KernelRfl
namespace Go.Proofs.Ytnnkcgbnhjkahaa
/- THE CELL 'sum', in the pinned program and in every row, IS THE sha256 OF THE DUMP (.gsa) THAT YtnnkcgbnhjkahaaProg.lean LOADS. Nothing in Lean hashes anything: it is a label: what it is worth is what the hold of that sum in a sandbox is worth. -/
noncomputable def Try.pinned : Pinned := { name := "ytnnkcgbnhjkahaa", sum := "572757a955827f7d7c876813f690486a56f9de0ca2a0076d10af374fe9ab8759", checked := Try.checked }
namespace Rows
def none {H : Type} : Left H := { results := [], args := [] }

/-- 'syndiclaw15.WantsActs': WHATEVER THE INPUT: true; the input reads as it did. -/
def wantsActsSpec : ChangeSpec := { name := "wantsActs", fn := fun _ => fun
  | [d] => { results := [.lit (.bool true)], args := [d] }
  | _ => none }
def wantsActsRow : OpenClaim := { program := "ytnnkcgbnhjkahaa", sum := "572757a955827f7d7c876813f690486a56f9de0ca2a0076d10af374fe9ab8759", func := "syndic/syndiclaw15.WantsActs", spec := "wantsActs", unfollowed := true, recurses := true, plainKeys := false, apart := false }
def WantsActsSaid : Prop := wantsActsRow.holds Try.pinned (OpenSpec.ofChange wantsActsSpec)

/-- ITS FALSE NEIGHBOUR: 'it returns false'. Refute it at one input. -/
def wantsActsWrong : ChangeSpec := { name := "wantsActs", fn := fun _ => fun
  | [d] => { results := [.lit (.bool false)], args := [d] }
  | _ => none }
def WantsActsWrongFalsely : Prop := wantsActsRow.holds Try.pinned (OpenSpec.ofChange wantsActsWrong)

/-- 'syndiclaw15.WantsAnswer': WHATEVER THE INPUT: true; the input reads as it did. -/
def wantsAnswerSpec : ChangeSpec := { name := "wantsAnswer", fn := fun _ => fun
  | [d1, d2] => { results := [.lit (.bool true)], args := [d1, d2] }
  | _ => none }
def wantsAnswerRow : OpenClaim := { program := "ytnnkcgbnhjkahaa", sum := "572757a955827f7d7c876813f690486a56f9de0ca2a0076d10af374fe9ab8759", func := "syndic/syndiclaw15.WantsAnswer", spec := "wantsAnswer", unfollowed := true, recurses := true, plainKeys := false, apart := false }
def WantsAnswerSaid : Prop := wantsAnswerRow.holds Try.pinned (OpenSpec.ofChange wantsAnswerSpec)

/-- ITS FALSE NEIGHBOUR: 'it returns false'. Refute it at one input. -/
def wantsAnswerWrong : ChangeSpec := { name := "wantsAnswer", fn := fun _ => fun
  | [d1, d2] => { results := [.lit (.bool false)], args := [d1, d2] }
  | _ => none }
def WantsAnswerWrongFalsely : Prop := wantsAnswerRow.holds Try.pinned (OpenSpec.ofChange wantsAnswerWrong)

/-- 'syndiclaw15.WantsLoad': WHATEVER THE INPUT: true; the input reads as it did. -/
def wantsLoadSpec : ChangeSpec := { name := "wantsLoad", fn := fun _ => fun
  | [d1, d2] => { results := [.lit (.bool true)], args := [d1, d2] }
  | _ => none }
def wantsLoadRow : OpenClaim := { program := "ytnnkcgbnhjkahaa", sum := "572757a955827f7d7c876813f690486a56f9de0ca2a0076d10af374fe9ab8759", func := "syndic/syndiclaw15.WantsLoad", spec := "wantsLoad", unfollowed := true, recurses := true, plainKeys := false, apart := false }
def WantsLoadSaid : Prop := wantsLoadRow.holds Try.pinned (OpenSpec.ofChange wantsLoadSpec)

/-- ITS FALSE NEIGHBOUR: 'it returns false'. Refute it at one input. -/
def wantsLoadWrong : ChangeSpec := { name := "wantsLoad", fn := fun _ => fun
  | [d1, d2] => { results := [.lit (.bool false)], args := [d1, d2] }
  | _ => none }
def WantsLoadWrongFalsely : Prop := wantsLoadRow.holds Try.pinned (OpenSpec.ofChange wantsLoadWrong)

/-- 'syndiclaw15.WantsNewer': WHATEVER THE INPUT: true; the input reads as it did. -/
def wantsNewerSpec : ChangeSpec := { name := "wantsNewer", fn := fun _ => fun
  | [d1, d2, d3] => { results := [.lit (.bool true)], args := [d1, d2, d3] }
  | _ => none }
def wantsNewerRow : OpenClaim := { program := "ytnnkcgbnhjkahaa", sum := "572757a955827f7d7c876813f690486a56f9de0ca2a0076d10af374fe9ab8759", func := "syndic/syndiclaw15.WantsNewer", spec := "wantsNewer", unfollowed := true, recurses := true, plainKeys := false, apart := false }
def WantsNewerSaid : Prop := wantsNewerRow.holds Try.pinned (OpenSpec.ofChange wantsNewerSpec)

/-- ITS FALSE NEIGHBOUR: 'it returns false'. Refute it at one input. -/
def wantsNewerWrong : ChangeSpec := { name := "wantsNewer", fn := fun _ => fun
  | [d1, d2, d3] => { results := [.lit (.bool false)], args := [d1, d2, d3] }
  | _ => none }
def WantsNewerWrongFalsely : Prop := wantsNewerRow.holds Try.pinned (OpenSpec.ofChange wantsNewerWrong)

/-- 'syndiclaw15.WantsNil': WHATEVER THE INPUT: true; the input reads as it did. -/
def wantsNilSpec : ChangeSpec := { name := "wantsNil", fn := fun _ => fun
  | [d] => { results := [.lit (.bool true)], args := [d] }
  | _ => none }
def wantsNilRow : OpenClaim := { program := "ytnnkcgbnhjkahaa", sum := "572757a955827f7d7c876813f690486a56f9de0ca2a0076d10af374fe9ab8759", func := "syndic/syndiclaw15.WantsNil", spec := "wantsNil", unfollowed := true, recurses := true, plainKeys := false, apart := false }
def WantsNilSaid : Prop := wantsNilRow.holds Try.pinned (OpenSpec.ofChange wantsNilSpec)

/-- ITS FALSE NEIGHBOUR: 'it returns false'. Refute it at one input. -/
def wantsNilWrong : ChangeSpec := { name := "wantsNil", fn := fun _ => fun
  | [d] => { results := [.lit (.bool false)], args := [d] }
  | _ => none }
def WantsNilWrongFalsely : Prop := wantsNilRow.holds Try.pinned (OpenSpec.ofChange wantsNilWrong)

/- THE SECOND FORM. 'bulk': how many values and letters a reading holds, each counted each time it is reached (what is shared counts as often as it is met; a slice's spare places count too). A statement '..UptoSaid' is the law's where the arguments, and the package variables that the reading takes, are together of bulk at most 1048576: NARROWER than '..Said'. Prove '..Said' where nothing that the law and all that it calls make is longer than what came in: it says more and counts as full. Else prove '..UptoSaid'. A law counts once. -/
mutual
def uptoBulk {H : Type} : DataW H → Nat
  | .lit (.string bytes) => bytes.length + 1
  | .lit _ => 1
  | .nil => 1
  | .ptr d => uptoBulk d + 1
  | .slice elems spare => uptoBulkAll elems + uptoBulkAll spare + 1
  | .agg parts => uptoBulkAll parts + 1
  | .iface _ d => uptoBulk d + 1
  | .map entries => uptoBulkEntries entries + 1
  | .held _ => 1
def uptoBulkAll {H : Type} : List (DataW H) → Nat
  | [] => 0
  | d :: r => uptoBulk d + uptoBulkAll r
def uptoBulkEntries {H : Type} : List (Lit × DataW H) → Nat
  | [] => 0
  | x :: r => uptoBulkEntry x + uptoBulkEntries r
def uptoBulkEntry {H : Type} : Lit × DataW H → Nat
  | (.string bytes, d) => bytes.length + uptoBulk d + 1
  | (_, d) => uptoBulk d + 1
 end
def uptoSmall : (H : Type) → List (DataW H) → Bool := fun _ ds => decide (uptoBulkAll ds ≤ 1048576)
def OpenSpec.upto (s : _root_.Go.ChangeSpec) : _root_.Go.OpenSpec := { _root_.Go.OpenSpec.ofChange s with cond := some uptoSmall }

/-- 'syndiclaw15.WantsActs', WHERE WHAT IT READS IS OF BULK AT MOST 1048576: true; the input reads as it did. -/
def wantsActsUptoRow : OpenClaim := { program := "ytnnkcgbnhjkahaa", sum := "572757a955827f7d7c876813f690486a56f9de0ca2a0076d10af374fe9ab8759", func := "syndic/syndiclaw15.WantsActs", spec := "wantsActs", unfollowed := true, recurses := true, plainKeys := false, apart := false, narrowed := true }
def WantsActsUptoSaid : Prop := wantsActsUptoRow.holds Try.pinned (OpenSpec.upto wantsActsSpec)

/-- 'syndiclaw15.WantsAnswer', WHERE WHAT IT READS IS OF BULK AT MOST 1048576: true; the input reads as it did. -/
def wantsAnswerUptoRow : OpenClaim := { program := "ytnnkcgbnhjkahaa", sum := "572757a955827f7d7c876813f690486a56f9de0ca2a0076d10af374fe9ab8759", func := "syndic/syndiclaw15.WantsAnswer", spec := "wantsAnswer", unfollowed := true, recurses := true, plainKeys := false, apart := false, narrowed := true }
def WantsAnswerUptoSaid : Prop := wantsAnswerUptoRow.holds Try.pinned (OpenSpec.upto wantsAnswerSpec)

/-- 'syndiclaw15.WantsLoad', WHERE WHAT IT READS IS OF BULK AT MOST 1048576: true; the input reads as it did. -/
def wantsLoadUptoRow : OpenClaim := { program := "ytnnkcgbnhjkahaa", sum := "572757a955827f7d7c876813f690486a56f9de0ca2a0076d10af374fe9ab8759", func := "syndic/syndiclaw15.WantsLoad", spec := "wantsLoad", unfollowed := true, recurses := true, plainKeys := false, apart := false, narrowed := true }
def WantsLoadUptoSaid : Prop := wantsLoadUptoRow.holds Try.pinned (OpenSpec.upto wantsLoadSpec)

/-- 'syndiclaw15.WantsNewer', WHERE WHAT IT READS IS OF BULK AT MOST 1048576: true; the input reads as it did. -/
def wantsNewerUptoRow : OpenClaim := { program := "ytnnkcgbnhjkahaa", sum := "572757a955827f7d7c876813f690486a56f9de0ca2a0076d10af374fe9ab8759", func := "syndic/syndiclaw15.WantsNewer", spec := "wantsNewer", unfollowed := true, recurses := true, plainKeys := false, apart := false, narrowed := true }
def WantsNewerUptoSaid : Prop := wantsNewerUptoRow.holds Try.pinned (OpenSpec.upto wantsNewerSpec)

/-- 'syndiclaw15.WantsNil', WHERE WHAT IT READS IS OF BULK AT MOST 1048576: true; the input reads as it did. -/
def wantsNilUptoRow : OpenClaim := { program := "ytnnkcgbnhjkahaa", sum := "572757a955827f7d7c876813f690486a56f9de0ca2a0076d10af374fe9ab8759", func := "syndic/syndiclaw15.WantsNil", spec := "wantsNil", unfollowed := true, recurses := true, plainKeys := false, apart := false, narrowed := true }
def WantsNilUptoSaid : Prop := wantsNilUptoRow.holds Try.pinned (OpenSpec.upto wantsNilSpec)

end Rows
end Go.Proofs.Ytnnkcgbnhjkahaa
