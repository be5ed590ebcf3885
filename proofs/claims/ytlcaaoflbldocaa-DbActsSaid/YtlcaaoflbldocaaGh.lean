/- The program's New, Len and Drop. Conditions: what the words say. -/
import Derived.Test.YtlcaaoflbldocaaGg
namespace Go.Proofs.Ytlcaaoflbldocaa
open Go.RowKit

/-- 'len(m)' as the next operation of a plain region's list. -/
theorem wpList_len7 {ops : Array Oper} {rest : List Oper} {o : Oper} {a : Act} {w : World} {Q : Exit → Act → World → Prop} {b : Nat} {R : List Rc} (hg : o.guard = none) (m : Operand) (hop : o.op = Op.call { callee := Callee.builtin Builtin.len, args := #[m], argTypes := #[63] })
    (hm : a.eval m = .map (some b)) (h : MapIs w b R) (hK : wpList Try.prog ops Q rest (a.put o.dst (.int .i64 (R.length : Int))) w) : wpList Try.prog ops Q (o :: rest) a w := by
  refine wpList_plain hg fun K' hK' => ?_
  unfold Oper.wp
  simp [execOp, hop, resolve, invoke, builtin, hm, h.len o.type, Result.andThen]
  exact hK' _ _ hK
set_option maxHeartbeats 2000000 in
theorem len_db {w : World} {lo p : Nat} {room : Int} {S : List La} {F : Nat → Prop} (h : PDb w lo p room S F) : Calls Try.prog 23 #[.pointer (some ⟨p, 0, none⟩)] w
    fun e w' => e = .returned (.int .i64 (S.length : Int)) ∧ Below w.heap.size w w' := by
  obtain ⟨b, R, T, hB, h1, h2, hM, hA, hp, -⟩ := h
  have c0 := hB.cell 0
  have c1 := hB.cell 1
  simp at c0 c1
  have hl : R.length = S.length := hA.1.trans hp.length_eq
  rw [← hl]
  have HM := Lib.hid hM
  clear hM hA hB hl
  go_enter Try.func23, Try.ntmps23
  go_wp2_with (at_len; refine wpList_len7 rfl _ rfl rfl HM.out ?_)
  go_ret
  exact ⟨rfl, Below.refl _ _⟩
set_option maxHeartbeats 2000000 in
theorem new_db (r : Int) (w : World) : Calls Try.prog 8 #[.int .i64 r] w fun e w' => ∃ (p : Nat) (F : Nat → Prop), e = .returned (.pointer (some ⟨p, 0, none⟩)) ∧ Below w.heap.size w w' ∧ PDb w' w.heap.size p (roomOf r) [] F := by
  have hmm := @run_makeMap Try.prog
  go_enter Try.func8, Try.ntmps8
  go_wp2
  have hr : min (max r 1) 40 = roomOf r := by
    unfold roomOf
    repeat' split
    all_goals omega
  rw [hr]
  go_ret
  refine ⟨w.heap.size + 1, fun q => q = w.heap.size + 1 ∨ q = w.heap.size, rfl, below_new2 _ _ _, w.heap.size, [], [], blk_new1 _ _ _ _, Nat.le_succ _, Nat.le_refl _, (MapIs.made w).alloc _, All2.nil, List.Perm.refl _, ?_, (roomOf_bd r).2, fun x hx => (by cases hx), fun q => ?_⟩
  · have := roomOf_bd r
    simp
    omega
  · simp
end Go.Proofs.Ytlcaaoflbldocaa
