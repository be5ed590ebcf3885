/-
  No cell of these rows narrows 'for every input' (looked for: loops, veiled, ifaces, maps, wideKeys, modest, calm, conditions, laid).
  DERIVED. THE GIVEN ROWS OF THIS SEAT. 8 by the template 'for every input the law returns true; each argument reads behind the call as it read before'; 0 by the template 'total and deterministic' (their statements: YtfdfdmbnggpnbaaTotals.lean).
  GIVEN WITH THE SEED: the statements are not yours to turn. If you find one false, say at which input.
  Laid BY PROGRAM, IN A SANDBOX (cutbox-rows.mjs): the forced cells as the released guide's own fill.sh prints them over the translation c00af37b5f7b8330… (all of the seat's roots in one cut). By AI agents, Wed Nov 11 2026. No macro, syntax, notation, axiom, sorry.
-/
import Derived.Test.YtfdfdmbnggpnbaaChecked
import GoSem.Claim
import GoSem.ClaimJoined
import GoSem.ClaimMapViews
import Derived.JoinedTies
import Derived.KernelRfl
namespace Go.Proofs.Ytfdfdmbnggpnbaa
/- THE CELL 'sum', in the pinned program and in every row, IS THE sha256 OF THE DUMP (.gsa) THAT YtfdfdmbnggpnbaaProg.lean LOADS. Nothing in Lean hashes anything: it is a label: what it is worth is what the hold of that sum in a sandbox is worth. -/
noncomputable def Try.pinned : Pinned := { name := "ytfdfdmbnggpnbaa", sum := "c00af37b5f7b8330636f104fc99a31d12e1f79749394b01c00d36151bfa73007", checked := Try.checked }
namespace Rows
def none {H : Type} : Left H := { results := [], args := [] }

/-- 'syndiclaw13.SummTells': WHATEVER THE INPUT: true; the input reads as it did. -/
def summTellsSpec : ChangeSpec := { name := "summTells", fn := fun _ => fun
  | [d] => { results := [.lit (.bool true)], args := [d] }
  | _ => none }
def summTellsRow : OpenClaim := { program := "ytfdfdmbnggpnbaa", sum := "c00af37b5f7b8330636f104fc99a31d12e1f79749394b01c00d36151bfa73007", func := "syndic/syndiclaw13.SummTells", spec := "summTells", unfollowed := true, recurses := true, plainKeys := false, apart := false }
def SummTellsSaid : Prop := summTellsRow.holds Try.pinned (OpenSpec.ofChange summTellsSpec)

/-- ITS FALSE NEIGHBOUR: 'it returns false'. Refute it at one input. -/
def summTellsWrong : ChangeSpec := { name := "summTells", fn := fun _ => fun
  | [d] => { results := [.lit (.bool false)], args := [d] }
  | _ => none }
def SummTellsWrongFalsely : Prop := summTellsRow.holds Try.pinned (OpenSpec.ofChange summTellsWrong)

/-- 'syndiclaw13.SummGone': WHATEVER THE INPUT: true; the input reads as it did. -/
def summGoneSpec : ChangeSpec := { name := "summGone", fn := fun _ => fun
  | [d] => { results := [.lit (.bool true)], args := [d] }
  | _ => none }
def summGoneRow : OpenClaim := { program := "ytfdfdmbnggpnbaa", sum := "c00af37b5f7b8330636f104fc99a31d12e1f79749394b01c00d36151bfa73007", func := "syndic/syndiclaw13.SummGone", spec := "summGone", unfollowed := true, recurses := true, plainKeys := false, apart := false }
def SummGoneSaid : Prop := summGoneRow.holds Try.pinned (OpenSpec.ofChange summGoneSpec)

/-- ITS FALSE NEIGHBOUR: 'it returns false'. Refute it at one input. -/
def summGoneWrong : ChangeSpec := { name := "summGone", fn := fun _ => fun
  | [d] => { results := [.lit (.bool false)], args := [d] }
  | _ => none }
def SummGoneWrongFalsely : Prop := summGoneRow.holds Try.pinned (OpenSpec.ofChange summGoneWrong)

/-- 'syndiclaw13.SummNil': WHATEVER THE INPUT: true; the input reads as it did. -/
def summNilSpec : ChangeSpec := { name := "summNil", fn := fun _ => fun
  | [d] => { results := [.lit (.bool true)], args := [d] }
  | _ => none }
def summNilRow : OpenClaim := { program := "ytfdfdmbnggpnbaa", sum := "c00af37b5f7b8330636f104fc99a31d12e1f79749394b01c00d36151bfa73007", func := "syndic/syndiclaw13.SummNil", spec := "summNil", unfollowed := true, recurses := true, plainKeys := false, apart := false }
def SummNilSaid : Prop := summNilRow.holds Try.pinned (OpenSpec.ofChange summNilSpec)

/-- ITS FALSE NEIGHBOUR: 'it returns false'. Refute it at one input. -/
def summNilWrong : ChangeSpec := { name := "summNil", fn := fun _ => fun
  | [d] => { results := [.lit (.bool false)], args := [d] }
  | _ => none }
def SummNilWrongFalsely : Prop := summNilRow.holds Try.pinned (OpenSpec.ofChange summNilWrong)

/-- 'syndiclaw14.ExchHears': WHATEVER THE INPUT: true; the input reads as it did. -/
def exchHearsSpec : ChangeSpec := { name := "exchHears", fn := fun _ => fun
  | [d1, d2, d3] => { results := [.lit (.bool true)], args := [d1, d2, d3] }
  | _ => none }
def exchHearsRow : OpenClaim := { program := "ytfdfdmbnggpnbaa", sum := "c00af37b5f7b8330636f104fc99a31d12e1f79749394b01c00d36151bfa73007", func := "syndic/syndiclaw14.ExchHears", spec := "exchHears", unfollowed := true, recurses := true, plainKeys := false, apart := false }
def ExchHearsSaid : Prop := exchHearsRow.holds Try.pinned (OpenSpec.ofChange exchHearsSpec)

/-- ITS FALSE NEIGHBOUR: 'it returns false'. Refute it at one input. -/
def exchHearsWrong : ChangeSpec := { name := "exchHears", fn := fun _ => fun
  | [d1, d2, d3] => { results := [.lit (.bool false)], args := [d1, d2, d3] }
  | _ => none }
def ExchHearsWrongFalsely : Prop := exchHearsRow.holds Try.pinned (OpenSpec.ofChange exchHearsWrong)

/-- 'syndiclaw14.ExchAnyOrder': WHATEVER THE INPUT: true; the input reads as it did. -/
def exchAnyOrderSpec : ChangeSpec := { name := "exchAnyOrder", fn := fun _ => fun
  | [d1, d2, d3] => { results := [.lit (.bool true)], args := [d1, d2, d3] }
  | _ => none }
def exchAnyOrderRow : OpenClaim := { program := "ytfdfdmbnggpnbaa", sum := "c00af37b5f7b8330636f104fc99a31d12e1f79749394b01c00d36151bfa73007", func := "syndic/syndiclaw14.ExchAnyOrder", spec := "exchAnyOrder", unfollowed := true, recurses := true, plainKeys := false, apart := false }
def ExchAnyOrderSaid : Prop := exchAnyOrderRow.holds Try.pinned (OpenSpec.ofChange exchAnyOrderSpec)

/-- ITS FALSE NEIGHBOUR: 'it returns false'. Refute it at one input. -/
def exchAnyOrderWrong : ChangeSpec := { name := "exchAnyOrder", fn := fun _ => fun
  | [d1, d2, d3] => { results := [.lit (.bool false)], args := [d1, d2, d3] }
  | _ => none }
def ExchAnyOrderWrongFalsely : Prop := exchAnyOrderRow.holds Try.pinned (OpenSpec.ofChange exchAnyOrderWrong)

/-- 'syndiclaw14.ExchEnds': WHATEVER THE INPUT: true; the input reads as it did. -/
def exchEndsSpec : ChangeSpec := { name := "exchEnds", fn := fun _ => fun
  | [d1, d2, d3] => { results := [.lit (.bool true)], args := [d1, d2, d3] }
  | _ => none }
def exchEndsRow : OpenClaim := { program := "ytfdfdmbnggpnbaa", sum := "c00af37b5f7b8330636f104fc99a31d12e1f79749394b01c00d36151bfa73007", func := "syndic/syndiclaw14.ExchEnds", spec := "exchEnds", unfollowed := true, recurses := true, plainKeys := false, apart := false }
def ExchEndsSaid : Prop := exchEndsRow.holds Try.pinned (OpenSpec.ofChange exchEndsSpec)

/-- ITS FALSE NEIGHBOUR: 'it returns false'. Refute it at one input. -/
def exchEndsWrong : ChangeSpec := { name := "exchEnds", fn := fun _ => fun
  | [d1, d2, d3] => { results := [.lit (.bool false)], args := [d1, d2, d3] }
  | _ => none }
def ExchEndsWrongFalsely : Prop := exchEndsRow.holds Try.pinned (OpenSpec.ofChange exchEndsWrong)

/-- 'syndiclaw14.ExchSelf': WHATEVER THE INPUT: true; the input reads as it did. -/
def exchSelfSpec : ChangeSpec := { name := "exchSelf", fn := fun _ => fun
  | [d1, d2, d3] => { results := [.lit (.bool true)], args := [d1, d2, d3] }
  | _ => none }
def exchSelfRow : OpenClaim := { program := "ytfdfdmbnggpnbaa", sum := "c00af37b5f7b8330636f104fc99a31d12e1f79749394b01c00d36151bfa73007", func := "syndic/syndiclaw14.ExchSelf", spec := "exchSelf", unfollowed := true, recurses := true, plainKeys := false, apart := false }
def ExchSelfSaid : Prop := exchSelfRow.holds Try.pinned (OpenSpec.ofChange exchSelfSpec)

/-- ITS FALSE NEIGHBOUR: 'it returns false'. Refute it at one input. -/
def exchSelfWrong : ChangeSpec := { name := "exchSelf", fn := fun _ => fun
  | [d1, d2, d3] => { results := [.lit (.bool false)], args := [d1, d2, d3] }
  | _ => none }
def ExchSelfWrongFalsely : Prop := exchSelfRow.holds Try.pinned (OpenSpec.ofChange exchSelfWrong)

/-- 'syndiclaw14.ExchNil': WHATEVER THE INPUT: true; the input reads as it did. -/
def exchNilSpec : ChangeSpec := { name := "exchNil", fn := fun _ => fun
  | [d] => { results := [.lit (.bool true)], args := [d] }
  | _ => none }
def exchNilRow : OpenClaim := { program := "ytfdfdmbnggpnbaa", sum := "c00af37b5f7b8330636f104fc99a31d12e1f79749394b01c00d36151bfa73007", func := "syndic/syndiclaw14.ExchNil", spec := "exchNil", unfollowed := true, recurses := true, plainKeys := false, apart := false }
def ExchNilSaid : Prop := exchNilRow.holds Try.pinned (OpenSpec.ofChange exchNilSpec)

/-- ITS FALSE NEIGHBOUR: 'it returns false'. Refute it at one input. -/
def exchNilWrong : ChangeSpec := { name := "exchNil", fn := fun _ => fun
  | [d] => { results := [.lit (.bool false)], args := [d] }
  | _ => none }
def ExchNilWrongFalsely : Prop := exchNilRow.holds Try.pinned (OpenSpec.ofChange exchNilWrong)

/- THE SECOND FORM. 'bulk': how many values and letters a reading holds, each counted each time it is reached (what is shared counts as often as it is met; a slice's spare places count too). A statement '..UptoSaid' is the law's where the arguments, and the package variables that the reading takes, are together of bulk at most 1048576: NARROWER than '..Said'. Prove '..Said' where nothing that the law and all that it calls make is longer than what came in: it says more and counts as full. Else prove '..UptoSaid'. A law counts once. -/
mutual
def uptoBulk {H : Type} : DataW H → Nat
  | .lit (.string bytes) => bytes.length + 1
  | .lit _ => 1
  | .nil => 1
  | .ptr d => uptoBulk d + 1
  | .slice elems spare => uptoBulkAll elems + uptoBulkAll spare + 1
  | .agg parts => uptoBulkAll parts + 1
  | .iface _ d => uptoBulk d + 1
  | .map entries => uptoBulkEntries entries + 1
  | .held _ => 1
def uptoBulkAll {H : Type} : List (DataW H) → Nat
  | [] => 0
  | d :: r => uptoBulk d + uptoBulkAll r
def uptoBulkEntries {H : Type} : List (Lit × DataW H) → Nat
  | [] => 0
  | x :: r => uptoBulkEntry x + uptoBulkEntries r
def uptoBulkEntry {H : Type} : Lit × DataW H → Nat
  | (.string bytes, d) => bytes.length + uptoBulk d + 1
  | (_, d) => uptoBulk d + 1
 end
def uptoSmall : (H : Type) → List (DataW H) → Bool := fun _ ds => decide (uptoBulkAll ds ≤ 1048576)
def OpenSpec.upto (s : _root_.Go.ChangeSpec) : _root_.Go.OpenSpec := { _root_.Go.OpenSpec.ofChange s with cond := some uptoSmall }

/-- 'syndiclaw13.SummTells', WHERE WHAT IT READS IS OF BULK AT MOST 1048576: true; the input reads as it did. -/
def summTellsUptoRow : OpenClaim := { program := "ytfdfdmbnggpnbaa", sum := "c00af37b5f7b8330636f104fc99a31d12e1f79749394b01c00d36151bfa73007", func := "syndic/syndiclaw13.SummTells", spec := "summTells", unfollowed := true, recurses := true, plainKeys := false, apart := false, narrowed := true }
def SummTellsUptoSaid : Prop := summTellsUptoRow.holds Try.pinned (OpenSpec.upto summTellsSpec)

/-- 'syndiclaw13.SummGone', WHERE WHAT IT READS IS OF BULK AT MOST 1048576: true; the input reads as it did. -/
def summGoneUptoRow : OpenClaim := { program := "ytfdfdmbnggpnbaa", sum := "c00af37b5f7b8330636f104fc99a31d12e1f79749394b01c00d36151bfa73007", func := "syndic/syndiclaw13.SummGone", spec := "summGone", unfollowed := true, recurses := true, plainKeys := false, apart := false, narrowed := true }
def SummGoneUptoSaid : Prop := summGoneUptoRow.holds Try.pinned (OpenSpec.upto summGoneSpec)

/-- 'syndiclaw13.SummNil', WHERE WHAT IT READS IS OF BULK AT MOST 1048576: true; the input reads as it did. -/
def summNilUptoRow : OpenClaim := { program := "ytfdfdmbnggpnbaa", sum := "c00af37b5f7b8330636f104fc99a31d12e1f79749394b01c00d36151bfa73007", func := "syndic/syndiclaw13.SummNil", spec := "summNil", unfollowed := true, recurses := true, plainKeys := false, apart := false, narrowed := true }
def SummNilUptoSaid : Prop := summNilUptoRow.holds Try.pinned (OpenSpec.upto summNilSpec)

/-- 'syndiclaw14.ExchHears', WHERE WHAT IT READS IS OF BULK AT MOST 1048576: true; the input reads as it did. -/
def exchHearsUptoRow : OpenClaim := { program := "ytfdfdmbnggpnbaa", sum := "c00af37b5f7b8330636f104fc99a31d12e1f79749394b01c00d36151bfa73007", func := "syndic/syndiclaw14.ExchHears", spec := "exchHears", unfollowed := true, recurses := true, plainKeys := false, apart := false, narrowed := true }
def ExchHearsUptoSaid : Prop := exchHearsUptoRow.holds Try.pinned (OpenSpec.upto exchHearsSpec)

/-- 'syndiclaw14.ExchAnyOrder', WHERE WHAT IT READS IS OF BULK AT MOST 1048576: true; the input reads as it did. -/
def exchAnyOrderUptoRow : OpenClaim := { program := "ytfdfdmbnggpnbaa", sum := "c00af37b5f7b8330636f104fc99a31d12e1f79749394b01c00d36151bfa73007", func := "syndic/syndiclaw14.ExchAnyOrder", spec := "exchAnyOrder", unfollowed := true, recurses := true, plainKeys := false, apart := false, narrowed := true }
def ExchAnyOrderUptoSaid : Prop := exchAnyOrderUptoRow.holds Try.pinned (OpenSpec.upto exchAnyOrderSpec)

/-- 'syndiclaw14.ExchEnds', WHERE WHAT IT READS IS OF BULK AT MOST 1048576: true; the input reads as it did. -/
def exchEndsUptoRow : OpenClaim := { program := "ytfdfdmbnggpnbaa", sum := "c00af37b5f7b8330636f104fc99a31d12e1f79749394b01c00d36151bfa73007", func := "syndic/syndiclaw14.ExchEnds", spec := "exchEnds", unfollowed := true, recurses := true, plainKeys := false, apart := false, narrowed := true }
def ExchEndsUptoSaid : Prop := exchEndsUptoRow.holds Try.pinned (OpenSpec.upto exchEndsSpec)

/-- 'syndiclaw14.ExchSelf', WHERE WHAT IT READS IS OF BULK AT MOST 1048576: true; the input reads as it did. -/
def exchSelfUptoRow : OpenClaim := { program := "ytfdfdmbnggpnbaa", sum := "c00af37b5f7b8330636f104fc99a31d12e1f79749394b01c00d36151bfa73007", func := "syndic/syndiclaw14.ExchSelf", spec := "exchSelf", unfollowed := true, recurses := true, plainKeys := false, apart := false, narrowed := true }
def ExchSelfUptoSaid : Prop := exchSelfUptoRow.holds Try.pinned (OpenSpec.upto exchSelfSpec)

/-- 'syndiclaw14.ExchNil', WHERE WHAT IT READS IS OF BULK AT MOST 1048576: true; the input reads as it did. -/
def exchNilUptoRow : OpenClaim := { program := "ytfdfdmbnggpnbaa", sum := "c00af37b5f7b8330636f104fc99a31d12e1f79749394b01c00d36151bfa73007", func := "syndic/syndiclaw14.ExchNil", spec := "exchNil", unfollowed := true, recurses := true, plainKeys := false, apart := false, narrowed := true }
def ExchNilUptoSaid : Prop := exchNilUptoRow.holds Try.pinned (OpenSpec.upto exchNilSpec)

end Rows
end Go.Proofs.Ytfdfdmbnggpnbaa
