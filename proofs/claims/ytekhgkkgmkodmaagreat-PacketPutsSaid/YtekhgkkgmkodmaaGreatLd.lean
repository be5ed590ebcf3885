/- A packet that lies in a block of its own is read whole, in one step. No conditions. -/
import Derived.Test.YtekhgkkgmkodmaaGreatJam
import Derived.Deep.MidRow
namespace Go.Proofs.YtekhgkkgmkodmaaGreat
open Go.RowKit

theorem range_pkt {w : World} {g : Nat} {c0 c1 c2 c3 c4 c5 c6 c7 c8 c9 c10 c11 c12 c13 c14 c15 : Value} (h : Blk w g 31 #[c0, c1, c2, c3, c4, c5, c6, c7, c8, c9, c10, c11, c12, c13, c14, c15]) : w.rangeAt g 0 [c0, c1, c2, c3, c4, c5, c6, c7, c8, c9, c10, c11, c12, c13, c14, c15] := fun j v hj => by
  have := h.cell j
  rw [Nat.zero_add, this]
  simpa using hj
/-- The load as the next operation of a plain region's list. -/
theorem wpList_load_pkt {ops : Array Oper} {rest : List Oper} {op : Oper} {a : Act} {w : World} {Q : Exit → Act → World → Prop} {g : Nat} {c0 c1 c2 c3 c4 c5 c6 c7 c8 c9 c10 c11 c12 c13 c14 c15 : Value} (hw : Region.wanted op (yielded ops a.tmps) = true) (x : Operand) (ho : op.op = .load 31 x)
    (hx : a.eval x = .pointer (some ⟨g, 0, none⟩)) (hB : Blk w g 31 #[c0, c1, c2, c3, c4, c5, c6, c7, c8, c9, c10, c11, c12, c13, c14, c15]) (h : wpList Tryz.prog ops Q rest (a.put op.dst (.agg #[c0, c1, c2, c3, c4, c5, c6, c7, c8, c9, c10, c11, c12, c13, c14, c15])) w) : wpList Tryz.prog ops Q (op :: rest) a w :=
  wpList_step fun K hK => by
    rw [if_pos hw]
    exact wp_load_mid 31 x ho g 0 hx [c0, c1, c2, c3, c4, c5, c6, c7, c8, c9, c10, c11, c12, c13, c14, c15] _ (range_pkt hB) Tryz.underlying31 rfl (by kernel_rfl) (hK _ _ h)
end Go.Proofs.YtekhgkkgmkodmaaGreat
