/- The program's wheel in memory; New, Len, At; and of no wheel. Conditions: what the words say. -/
import Derived.Test.YtaghophkfogdgaaTb
import Derived.StillTailTactics
import Derived.Deep.DeepCutAuto
namespace Go.Proofs.Ytaghophkfogdgaa
open Go.RowKit

/-- Block p is a wheel of the program, block b its map, which holds just R. -/
def PWh (w : World) (p b : Nat) (R : List En) : Prop := Blk w p 56 #[.map (some b)] ∧ MapIs w b R
theorem MapIs.ne_blk {w : World} {b g : Nat} {R : List En} {t : TypeId} {cs : Array Value} (h : MapIs w b R) (hB : Blk w g t cs) : g ≠ b := by
  rintro rfl
  obtain ⟨-, l, ⟨es, clock, hb, -⟩, -⟩ := h
  have h1 : w.heap[g]? = some (.cells cs t (0, 0)) := hB
  rw [hb] at h1
  cases h1
theorem own_ne_map {w : World} {base n size b : Nat} {R : List En} {t : TypeId} {v : Value} {xs : List Value} (h : MapIs w b R) (ho : w.ownsRow base t size v n xs) : v.ownBlock ≠ some b := by
  intro e
  obtain ⟨-, l, ⟨es, clock, hb, -⟩, -⟩ := h
  rcases ho.2 with ⟨rfl, _⟩ | ⟨g, cap, cur, rfl, _, hg, _⟩
  · cases e
  · injection e with e
    subst e
    rw [hb] at hg
    cases hg
theorem PWh.below {w w' : World} {p b : Nat} {R : List En} (h : PWh w p b R) (hb : Below w.heap.size w w') : PWh w' p b R := ⟨h.1.below hb h.1.lt, h.2.below hb h.2.lt⟩
theorem PWh.chg {w w' : World} {p b : Nat} {R : List En} {F : Nat → Prop} (h : PWh w p b R) (hc : Chg F w w') (hp : ¬ F p) (hb : ¬ F b) : PWh w' p b R := ⟨h.1.chg hc hp, h.2.chg hc hb⟩
theorem Blk.one {w : World} {g : Nat} {t : TypeId} {a0 : Value} (h : Blk w g t #[a0]) : w.cell? ⟨g, 0, none⟩ = some a0 := h.cell 0
theorem Blk.six {w : World} {g : Nat} {t : TypeId} {a0 a1 a2 a3 a4 a5 : Value} (h : Blk w g t #[a0, a1, a2, a3, a4, a5]) : w.cell? ⟨g, 0, none⟩ = some a0 ∧ w.cell? ⟨g, 1, none⟩ = some a1 ∧ w.cell? ⟨g, 2, none⟩ = some a2 ∧ w.cell? ⟨g, 3, none⟩ = some a3 ∧ w.cell? ⟨g, 4, none⟩ = some a4 ∧ w.cell? ⟨g, 5, none⟩ = some a5 :=
  ⟨h.cell 0, h.cell 1, h.cell 2, h.cell 3, h.cell 4, h.cell 5⟩
/-- 'len(m)' as the next operation of a plain region's list. -/
theorem wpList_len8 {ops : Array Oper} {rest : List Oper} {o : Oper} {a : Act} {w : World} {Q : Exit → Act → World → Prop} {b : Nat} {R : List En} (hg : o.guard = none) (m : Operand) (hop : o.op = Op.call { callee := Callee.builtin Builtin.len, args := #[m], argTypes := #[54] })
    (hm : a.eval m = .map (some b)) (h : MapIs w b R) (hK : wpList Try.prog ops Q rest (a.put o.dst (.int .i64 (R.length : Int))) w) : wpList Try.prog ops Q (o :: rest) a w := by
  refine wpList_plain hg fun K' hK' => ?_
  unfold Oper.wp
  simp [execOp, hop, resolve, invoke, builtin, hm, h.len o.type, Result.andThen]
  exact hK' _ _ hK
set_option maxHeartbeats 2000000 in
theorem len_wh {w : World} {p b : Nat} {R : List En} (h : PWh w p b R) : Calls Try.prog 19 #[.pointer (some ⟨p, 0, none⟩)] w
    fun e w' => e = .returned (.int .i64 (R.length : Int)) ∧ w' = w := by
  obtain ⟨hB, hM⟩ := h
  have c0 := hB.one
  have HM := Lib.hid hM
  clear hM hB
  go_enter Try.func19, Try.ntmps19
  go_wp2_with (at_len; refine wpList_len8 rfl _ rfl rfl HM.out ?_)
  go_ret
  exact ⟨rfl, rfl⟩
theorem len_no (w : World) : Calls Try.prog 19 #[.pointer none] w fun e w' => e = .returned (.int .i64 0) ∧ w' = w := by
  go_enter Try.func19, Try.ntmps19
  go_wp2
  go_ret
  exact ⟨rfl, rfl⟩
set_option maxHeartbeats 2000000 in
theorem new_wh (w : World) : Calls Try.prog 7 #[] w fun e w' => ∃ p b : Nat, e = .returned (.pointer (some ⟨p, 0, none⟩)) ∧ Below w.heap.size w w' ∧ PWh w' p b [] ∧ w.heap.size ≤ p ∧ w.heap.size ≤ b := by
  have hmm := @run_makeMap Try.prog
  go_enter Try.func7, Try.ntmps7
  go_wp2
  go_ret
  exact ⟨w.heap.size + 1, w.heap.size, rfl, below_new2 _ _ _, ⟨blk_new1 _ _ _ _, (MapIs.made w).alloc _⟩, Nat.le_succ _, Nat.le_refl _⟩
/-- What At answers. -/
def tickOf (R : List En) (t : Tm) : Int := ((getR R t).map (·.tick)).getD 0
theorem look8 {w : World} {b : Nat} {R : List En} {t : Tm} (ht : wfTm t) (h : MapIs w b R) : (Instr.lookup 54 (.map (some b)) (.agg #[.int .i64 t.kind, .int .i64 t.lan, .int .i64 t.id, .int .i64 t.kk, .int .i64 t.ki, .int .i64 t.ka]) true).run Try.prog w = .ok (.tuple #[.int .i64 (tickOf R t), .bool (getR R t).isSome]) w := by
  unfold tickOf
  cases hg : getR R t with
  | none => exact h.look_none ht hg
  | some r => exact (h.look_some ht hg).1
theorem keepWh {w0 w' : World} {b : Nat} {R : List En} (hM : MapIs w0 b R) (hb : Below w0.heap.size w0 w') : Below w0.heap.size w0 w' ∧ MapIs w' b R ∧ (∀ b o, b < w0.heap.size → w'.cell? ⟨b, o, none⟩ = w0.cell? ⟨b, o, none⟩) :=
  ⟨hb, hM.below hb hM.lt, fun _ _ hl => hb.cell (p := ⟨_, _, none⟩) hl⟩
set_option maxRecDepth 8000 in
set_option maxHeartbeats 8000000 in
theorem at_wh {w : World} {p b : Nat} {R : List En} {t : Tm} (ht : wfTm t) (h : PWh w p b R) : Calls Try.prog 17 #[.pointer (some ⟨p, 0, none⟩), .agg #[.int .i64 t.kind, .int .i64 t.lan, .int .i64 t.id, .int .i64 t.kk, .int .i64 t.ki, .int .i64 t.ka]] w
    fun e w' => e = .returned (.tuple #[.int .i64 (tickOf R t), .bool (getR R t).isSome]) ∧ Below w.heap.size w w' := by
  have B0 := Lib.hid ((Below.refl w.heap.size w).alloc (Nat.le_refl _) (.cells #[.int .i64 t.kind, .int .i64 t.lan, .int .i64 t.id, .int .i64 t.kk, .int .i64 t.ki, .int .i64 t.ka] 33))
  have K0 := Lib.hid (Blk.new w 33 #[.int .i64 t.kind, .int .i64 t.lan, .int .i64 t.id, .int .i64 t.kk, .int .i64 t.ki, .int .i64 t.ka])
  have D0 := Lib.hid (h.below B0.out)
  have hpl := h.1.lt
  have hlook : ∀ W : World, MapIs W b R → (Instr.lookup 54 (.map (some b)) (.agg #[.int .i64 t.kind, .int .i64 t.lan, .int .i64 t.id, .int .i64 t.kk, .int .i64 t.ki, .int .i64 t.ka]) true).run Try.prog W = .ok (.tuple #[.int .i64 (tickOf R t), .bool (getR R t).isSome]) W := fun W hW => look8 ht hW
  generalize tickOf R t = z at *
  generalize (getR R t).isSome = is at *
  go_enter Try.func17, Try.ntmps17
  go_wp2_with fail
  generalize w.alloc (.cells #[.int .i64 t.kind, .int .i64 t.lan, .int .i64 t.id, .int .i64 t.kk, .int .i64 t.ki, .int .i64 t.ka] 33) = w0 at *
  have hlt := K0.out.lt
  have hpl0 : p < w0.heap.size := D0.out.1.lt
  obtain ⟨k0, k1, k2, k3, k4, k5⟩ := K0.out.six
  have c0 := D0.out.1.one
  have BR : Below w0.heap.size w0 w0.drew := ⟨rfl, rfl, rfl, Nat.le_refl _, fun _ _ => rfl⟩
  go_region_held3 (fun w' => Below w0.heap.size w0 w' ∧ MapIs w' b R ∧ (∀ b o, b < w0.heap.size → w'.cell? ⟨b, o, none⟩ = w0.cell? ⟨b, o, none⟩)) ((refine keepWh D0.out.2 ?_; first | with_reducible exact BR)) (first | fail)
  all_goals (go_wp2; refine bodyPost_ret (v := .tuple #[.int .i64 z, .bool is]) (by simp [results, Try.results17, go_sem, *]) rfl ?_; exact ⟨rfl, B0.out.trans (BR.mono B0.out.size)⟩)
theorem at_no (t : Tm) (w : World) : Calls Try.prog 17 #[.pointer none, .agg #[.int .i64 t.kind, .int .i64 t.lan, .int .i64 t.id, .int .i64 t.kk, .int .i64 t.ki, .int .i64 t.ka]] w
    fun e w' => e = .returned (.tuple #[.int .i64 0, .bool false]) ∧ Below w.heap.size w w' := by
  have B0 := Lib.hid ((Below.refl w.heap.size w).alloc (Nat.le_refl _) (.cells #[.int .i64 t.kind, .int .i64 t.lan, .int .i64 t.id, .int .i64 t.kk, .int .i64 t.ki, .int .i64 t.ka] 33))
  go_enter Try.func17, Try.ntmps17
  go_wp2
  refine bodyPost_ret (v := .tuple #[.int .i64 0, .bool false]) (by simp [results, Try.results17, go_sem, *]) rfl ?_
  exact ⟨rfl, B0.out⟩
theorem cancel_no (v : Value) (w : World) : Calls Try.prog 10 #[.pointer none, v] w fun e w' => e = .returned (.int .i64 0) ∧ w' = w := by
  go_enter Try.func10, Try.ntmps10
  go_wp2
  go_ret
  exact ⟨rfl, rfl⟩
theorem arm_no (z : Int) (v : Value) (w : World) : Calls Try.prog 8 #[.pointer none, .int .i64 z, v] w fun e w' => e = .returned (.tuple #[]) ∧ w' = w := by
  go_enter Try.func8, Try.ntmps8
  go_wp2
  refine bodyPost_ret (v := .tuple #[]) (by simp [results, Try.results8, go_sem, *]) rfl ?_
  exact ⟨rfl, rfl⟩
theorem due_no (z : Int) (w : World) : Calls Try.prog 13 #[.pointer none, .int .i64 z] w fun e w' => e = .returned (.slice none 0 0) ∧ w' = w := by
  go_enter Try.func13, Try.ntmps13
  go_wp2
  go_ret
  exact ⟨rfl, rfl⟩
theorem drop_no (z : Int) (w : World) : Calls Try.prog 15 #[.pointer none, .int .i64 z] w fun e w' => e = .returned (.int .i64 0) ∧ w' = w := by
  go_enter Try.func15, Try.ntmps15
  go_wp2
  go_ret
  exact ⟨rfl, rfl⟩
end Go.Proofs.Ytaghophkfogdgaa
