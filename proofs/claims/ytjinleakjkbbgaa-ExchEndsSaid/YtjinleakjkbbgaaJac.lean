/- A reader as a whole: its bytes, and where it stands. Conditions: at most 2^40 bytes. · The call GetHead of package lsa. Conditions: the slice reads as bytes, at most 2^40 of them. · The call members of package lsa: a network's members, read to the end. Conditions: at most 2^20 bytes. · The call link of package lsa: one link, read. Conditions: its twelve bytes are there. · The call links of package lsa: a router's links, read to the end. Conditions: at most 2^20 bytes. -/
import Derived.Test.YtjinleakjkbbgaaJab
namespace Go.Proofs.Ytjinleakjkbbgaa
open Go.RowKit

/-- The number in the w bytes from place a on. -/
def wordAt (l : List Int) (a w : Nat) : Int := num ((l.drop a).take w)
section
variable {w w' : World} {base b g a : Nat} {l : List Int}
end
theorem grown_of_below {w w1 : World} (h : Below w.heap.size w w1) (r : Option Nat) : w.grownBy w1 r := ⟨h.os, h.tape, h.output, h.size, fun k hk _ => h.block k hk⟩
theorem Blk.grown {w w1 : World} {g x : Nat} {t : TypeId} {cs : Array Value} (h : Blk w x t cs) (hg : w.grownBy w1 (some g)) (hne : x ≠ g) : Blk w1 x t cs :=
  (hg.block x h.lt (fun e => by injection e with e; exact hne e)).trans h
end Go.Proofs.Ytjinleakjkbbgaa
namespace Go.Proofs.Ytjinleakjkbbgaa
open Go.RowKit

/-- A number of 32 bits that goes round below 0. -/
def sgn (n : Int) : Int := if 2147483648 ≤ n then n - 4294967296 else n
/-- The head that twenty bytes tell. -/
def headOf (l : List Int) : Hd := ⟨wordAt l 0 2, wordAt l 3 1, wordAt l 4 4, wordAt l 8 4, sgn (wordAt l 12 4), wordAt l 16 2, wordAt l 18 2⟩
end Go.Proofs.Ytjinleakjkbbgaa
namespace Go.Proofs.Ytjinleakjkbbgaa
open Go.RowKit

/-- The first k words of four bytes. -/
def words (l : List Int) (k : Nat) : List Int := (List.range k).map fun j => wordAt l (4 * j) 4
end Go.Proofs.Ytjinleakjkbbgaa
namespace Go.Proofs.Ytjinleakjkbbgaa
open Go.RowKit

/-- The cells of links, one behind the other. -/
def lkCells : List Lk → List Value
  | [] => []
  | k :: l => .int .i64 k.kind :: .int .i64 k.id :: .int .i64 k.data :: .int .i64 k.cost :: lkCells l
theorem lkCells_get (l : List Lk) (j : Nat) (h : j < l.length) : (lkCells l)[j * 4]? = some (.int .i64 (l.getD j ⟨0, 0, 0, 0⟩).kind) ∧ (lkCells l)[j * 4 + 1]? = some (.int .i64 (l.getD j ⟨0, 0, 0, 0⟩).id) ∧ (lkCells l)[j * 4 + 2]? = some (.int .i64 (l.getD j ⟨0, 0, 0, 0⟩).data) ∧ (lkCells l)[j * 4 + 3]? = some (.int .i64 (l.getD j ⟨0, 0, 0, 0⟩).cost) := by
  induction l generalizing j with
  | nil => simp at h
  | cons x l ih =>
    cases j with
    | zero => simp [lkCells]
    | succ j =>
      have := ih j (by simpa using h)
      rw [show (j + 1) * 4 = j * 4 + 4 from by omega]
      simpa [lkCells] using this
end Go.Proofs.Ytjinleakjkbbgaa
namespace Go.Proofs.Ytjinleakjkbbgaa
open Go.RowKit

/-- How many links there is room for. -/
def many (l : List Int) : Nat := (l.length - 4) / 12
theorem blk_new1 (w : World) (o : Obj) (t : TypeId) (cs : Array Value) : Blk ((w.alloc o).alloc (.cells cs t)) (w.heap.size + 1) t cs := by
  have := Blk.new (w.alloc o) t cs
  rwa [World.size_alloc] at this
end Go.Proofs.Ytjinleakjkbbgaa
