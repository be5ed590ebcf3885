/- The call members of package lsa: a network's members, read to the end. Conditions: at most 2^20 bytes. · The call link of package lsa: one link, read. Conditions: its twelve bytes are there. · The call links of package lsa: a router's links, read to the end. Conditions: at most 2^20 bytes. -/
import Derived.Test.YtndjoanlbaiaeaaJab
namespace Go.Proofs.Ytndjoanlbaiaeaa
open Go.RowKit

/-- The first k words of four bytes. -/
def words (l : List Int) (k : Nat) : List Int := (List.range k).map fun j => wordAt l (4 * j) 4
theorem own_grown {w w' : World} {base g : Nat} {t : TypeId} {size n : Nat} {v : Value} {xs : List Value} (h : w.ownsRow base t size v n xs) (hg : w.grownBy w' (some g)) (hb : g < base) : w'.ownsRow base t size v n xs :=
  h.kept hg (by
    cases hv : v.ownBlock with
    | none => exact .inl rfl
    | some k =>
      refine .inr fun e => ?_
      injection e with e
      have := (h.lt k hv).1
      omega)
end Go.Proofs.Ytndjoanlbaiaeaa
namespace Go.Proofs.Ytndjoanlbaiaeaa
open Go.RowKit

/-- The cells of links, one behind the other. -/
def lkCells : List Lk → List Value
  | [] => []
  | k :: l => .int .i64 k.kind :: .int .i64 k.id :: .int .i64 k.data :: .int .i64 k.cost :: lkCells l
theorem lkCells_get (l : List Lk) (j : Nat) (h : j < l.length) : (lkCells l)[j * 4]? = some (.int .i64 (l.getD j ⟨0, 0, 0, 0⟩).kind) ∧ (lkCells l)[j * 4 + 1]? = some (.int .i64 (l.getD j ⟨0, 0, 0, 0⟩).id) ∧ (lkCells l)[j * 4 + 2]? = some (.int .i64 (l.getD j ⟨0, 0, 0, 0⟩).data) ∧ (lkCells l)[j * 4 + 3]? = some (.int .i64 (l.getD j ⟨0, 0, 0, 0⟩).cost) := by
  induction l generalizing j with
  | nil => simp at h
  | cons x l ih =>
    cases j with
    | zero => simp [lkCells]
    | succ j =>
      have := ih j (by simpa using h)
      rw [show (j + 1) * 4 = j * 4 + 4 from by omega]
      simpa [lkCells] using this
end Go.Proofs.Ytndjoanlbaiaeaa
namespace Go.Proofs.Ytndjoanlbaiaeaa
open Go.RowKit

/-- How many links there is room for. -/
def many (l : List Int) : Nat := (l.length - 4) / 12
theorem blk_new1 (w : World) (o : Obj) (t : TypeId) (cs : Array Value) : Blk ((w.alloc o).alloc (.cells cs t)) (w.heap.size + 1) t cs := by
  have := Blk.new (w.alloc o) t cs
  rwa [World.size_alloc] at this
end Go.Proofs.Ytndjoanlbaiaeaa
