/- The program's lists in memory; New, of, has, On, Len, Forget. Conditions: numbers of 64 bits. -/
import Derived.Test.YtndjoanlbaiaeaaKc
import Derived.Test.YtndjoanlbaiaeaaJag
import Derived.Test.YtndjoanlbaiaeaaJal
import Derived.Test.YtndjoanlbaiaeaaJai
namespace Go.Proofs.Ytndjoanlbaiaeaa
open Go.RowKit Go.Lib Go.Deep Go.Sort
open Go.Maps (Keyed)

section
variable {P : Program} {ops : Array Oper} {rest : List Oper} {o : Oper} {a : Act} {w w' : World} {Q : Exit → Act → World → Prop}
/-- 'delete(m, k)', by its run. -/
theorem wpList_delR {ts : Array TypeId} {vm vx v : Value} (hrun : (Builtin.delete_ ts o.type #[vm, vx]).run P w = .ok v w') (hg : o.guard = none) (m x : Operand) (hop : o.op = Op.call { callee := Callee.builtin Builtin.delete, args := #[m, x], argTypes := ts }) (hm : a.eval m = vm) (hx : a.eval x = vx) (hK : wpList P ops Q rest (a.put o.dst v) w') : wpList P ops Q (o :: rest) a w := by
  refine wpList_plain hg fun K' hK' => ?_
  unfold Oper.wp
  simp [execOp, hop, resolve, invoke, builtin, hm, hx, hrun, Result.andThen]
  exact hK' _ _ hK
/-- 'len(m)', by its run. -/
theorem wpList_lenR {ts : Array TypeId} {vm v : Value} (hrun : (Builtin.len_ ts o.type #[vm]).run P w = .ok v w) (hg : o.guard = none) (m : Operand) (hop : o.op = Op.call { callee := Callee.builtin Builtin.len, args := #[m], argTypes := ts }) (hm : a.eval m = vm) (hK : wpList P ops Q rest (a.put o.dst v) w) : wpList P ops Q (o :: rest) a w := by
  refine wpList_plain hg fun K' hK' => ?_
  unfold Oper.wp
  simp [execOp, hop, resolve, invoke, builtin, hm, hrun, Result.andThen]
  exact hK' _ _ hK
/-- 'm[k] = v', by its run. -/
theorem wpList_updR {t : TypeId} {vm vx vv : Value} (hrun : (Instr.mapUpdate t vm vx vv).run P w = .ok () w') (hg : o.guard = none) (m x y : Operand) (hop : o.op = Op.mapUpdate t m x y) (hm : a.eval m = vm) (hx : a.eval x = vx) (hy : a.eval y = vv) (hK : wpList P ops Q rest (a.put o.dst undef) w') : wpList P ops Q (o :: rest) a w := by
  refine wpList_plain hg fun K' hK' => ?_
  unfold Oper.wp
  simp [execOp, hop, hm, hx, hy, hrun, Result.andThen]
  exact hK' _ _ hK
end
/-- Block p is the lists: the map at block m, of R; what they say is L; the blocks that may turn are F. -/
structure RxAt (w : World) (p m : Nat) (R : List Nb) (L : List Rw) (F : Nat → Prop) : Prop where
  blk : Blk w p 53 #[.map (some m)]
  out : OutIs w m R
  ins : ∀ r ∈ R, InIs w r.b r.ks ∧ r.b ≠ m
  apart : R.Pairwise fun r s => r.b ≠ s.b
  rep : Rep R L
  foot : ∀ q, F q ↔ q = m ∨ ∃ r ∈ R, q = r.b
def RxIs (w : World) (p : Nat) (L : List Rw) (F : Nat → Prop) : Prop := ∃ m R, RxAt w p m R L F
/-- What a call makes of the lists. -/
def RxQ (w : World) (p : Nat) (L' : List Rw) (F : Nat → Prop) (w' : World) : Prop := ∃ F', RxIs w' p L' F' ∧ Chg F w w' ∧ ∀ q, F' q → F q ∨ w.heap.size ≤ q
section
variable {w w' : World} {p m : Nat} {R : List Nb} {L : List Rw} {F F' : Nat → Prop}
theorem RxAt.isMap (h : RxAt w p m R L F) {q : Nat} (hq : F q) : ∃ es clock, w.heap[q]? = some (.map es clock) := by
  rcases (h.foot q).1 hq with rfl | ⟨r, hr, rfl⟩
  · exact MKind.holds.isMap h.out
  · exact MKind.holds.isMap (h.ins r hr).1
theorem RxAt.lt (h : RxAt w p m R L F) {q : Nat} (hq : F q) : q < w.heap.size := by
  obtain ⟨es, clock, hb⟩ := h.isMap hq
  exact (Array.getElem?_eq_some_iff.1 hb).1
theorem RxAt.np (h : RxAt w p m R L F) : ¬ F p := fun hp => by
  obtain ⟨es, clock, hb⟩ := h.isMap hp
  have h1 : w.heap[p]? = some (.cells #[.map (some m)] 53 (0, 0)) := h.blk
  rw [hb] at h1
  cases h1
theorem RxAt.chg (h : RxAt w p m R L F) (hc : Chg F' w w') (hp : ¬ F' p) (hF : ∀ q, F q → ¬ F' q) : RxAt w' p m R L F :=
  ⟨h.blk.chg hc hp, MKind.holds.chg h.out hc (hF m ((h.foot m).2 (.inl rfl))), fun r hr => ⟨MKind.holds.chg (h.ins r hr).1 hc (hF r.b ((h.foot _).2 (.inr ⟨r, hr, rfl⟩))), (h.ins r hr).2⟩, h.apart, h.rep, h.foot⟩
theorem RxAt.below (h : RxAt w p m R L F) (hb : Below w.heap.size w w') : RxAt w' p m R L F := h.chg (Chg.of_below (F := fun _ => False) hb) (fun h => h) (fun _ _ hf => hf)
theorem RxIs.chg (h : RxIs w p L F) (hc : Chg F' w w') (hp : ¬ F' p) (hF : ∀ q, F q → ¬ F' q) : RxIs w' p L F := by
  obtain ⟨m, R, h⟩ := h
  exact ⟨m, R, h.chg hc hp hF⟩
theorem RxIs.below (h : RxIs w p L F) (hb : Below w.heap.size w w') : RxIs w' p L F := by
  obtain ⟨m, R, h⟩ := h
  exact ⟨m, R, h.below hb⟩
theorem RxIs.foot (h : RxIs w p L F) {q : Nat} (hq : F q) : q < w.heap.size := by
  obtain ⟨m, R, h⟩ := h
  exact h.lt hq
theorem RxIs.ltp (h : RxIs w p L F) : p < w.heap.size := by
  obtain ⟨m, R, h⟩ := h
  exact h.blk.lt
theorem RxIs.np (h : RxIs w p L F) : ¬ F p := by
  obtain ⟨m, R, h⟩ := h
  exact h.np
theorem RxIs.nodup (h : RxIs w p L F) : L.Nodup := by
  obtain ⟨m, R, h⟩ := h
  exact h.rep.nodup
theorem RxIs.no_cell (h : RxIs w p L F) {q o : Nat} {v : Value} (hc : w.cell? ⟨q, o, none⟩ = some v) : ¬ F q := fun hq => by
  obtain ⟨m, R, h⟩ := h
  obtain ⟨es, clock, hb⟩ := h.isMap hq
  simp [World.cell?, hb] at hc
theorem RxIs.no_blk (h : RxIs w p L F) {q : Nat} {t : TypeId} {cs : Array Value} (hB : Blk w q t cs) : ¬ F q := fun hq => by
  obtain ⟨m, R, h⟩ := h
  obtain ⟨es, clock, hb⟩ := h.isMap hq
  have h1 : w.heap[q]? = some (.cells cs t (0, 0)) := hB
  rw [hb] at h1
  cases h1
theorem RxIs.no_own (h : RxIs w p L F) {base n size q : Nat} {t : TypeId} {v : Value} {xs : List Value} (ho : w.ownsRow base t size v n xs) (hv : v.ownBlock = some q) : ¬ F q := fun hq => by
  obtain ⟨m, R, h⟩ := h
  obtain ⟨es, clock, hb⟩ := h.isMap hq
  rcases ho.2 with ⟨rfl, _⟩ | ⟨g, cap, cur, rfl, _, hg, _⟩
  · cases hv
  · injection hv with hv
    subst hv
    rw [hb] at hg
    cases hg
theorem RxQ.same (h : RxIs w p L F) (hb : Below w.heap.size w w') : RxQ w p L F w' := ⟨F, h.below hb, Chg.of_below hb, fun _ hq => .inl hq⟩
/-- Rows that came in stay while lists turn. -/
theorem RxIs.kys (h : RxIs w p L F) {B n : Nat} {A : Option Addr} {K : List Ky} (hK : Kys w B A n K) (hc : Chg F w w') : Kys w' B A n K := by
  refine ⟨hK.1, fun hn => ?_⟩
  obtain ⟨g, o, rfl, hg, hat⟩ := hK.2 hn
  refine ⟨g, o, rfl, hg, fun j x hx => ?_⟩
  have hh := hat j x hx
  have hlt : g < w.heap.size := World.block_lt_of_cell? w _ hh.1
  have hne := h.no_cell hh.1
  have hk : ∀ i, w'.cell? ⟨g, i, none⟩ = w.cell? ⟨g, i, none⟩ := fun i => by
    simp only [World.cell?, hc.block g hlt hne]
  unfold KyAt at hh ⊢
  simp only [hk]
  exact hh
end
set_option maxHeartbeats 2000000 in
theorem new_x (w : World) : Calls Try.prog 9 #[] w fun e w' => ∃ (p : Nat) (F : Nat → Prop), e = .returned (.pointer (some ⟨p, 0, none⟩)) ∧ Below w.heap.size w w' ∧ RxIs w' p [] F ∧ w.heap.size ≤ p ∧ ∀ q, F q → w.heap.size ≤ q := by
  have hmm := @run_makeMap Try.prog
  go_enter Try.func9, Try.ntmps9
  go_wp2
  go_ret
  refine ⟨w.heap.size + 1, fun q => q = w.heap.size, rfl, below_new2 _ _ _, ⟨w.heap.size, [], blk_new1 _ _ _ _, MKind.holds.alloc (MKind.holds.made w) _, fun r hr => (by cases hr), List.Pairwise.nil, Rep.nil, fun q => ⟨fun h => .inl h, fun h => ?_⟩⟩, Nat.le_succ _, fun q hq => by rw [hq]; exact Nat.le_refl _⟩
  rcases h with h | ⟨r, hr, -⟩
  · exact h
  · cases hr
set_option maxHeartbeats 2000000 in
theorem of_nil (l i : Int) (w : World) : Calls Try.prog 27 #[.pointer none, .int .i64 l, .int .i64 i] w fun e w' => e = .returned (.map none) ∧ w = w' := by
  go_enter Try.func27, Try.ntmps27
  go_wp2
  go_ret
  exact ⟨rfl, rfl⟩
set_option maxHeartbeats 2000000 in
theorem of_x {w : World} {p m : Nat} {R : List Nb} {L : List Rw} {F : Nat → Prop} (h : RxAt w p m R L F) (n : Int × Int) (hn : wfN n) : Calls Try.prog 27 #[.pointer (some ⟨p, 0, none⟩), .int .i64 n.1, .int .i64 n.2] w fun e w' => e = .returned (mapOf (getN R n)) ∧ w = w' := by
  have c0 := h.blk.cell 0
  simp at c0
  have hlook := h.out.look hn
  generalize mapOf (getN R n) = v at *
  clear h hn
  go_enter Try.func27, Try.ntmps27
  go_wp2
  go_ret
  exact ⟨rfl, rfl⟩
set_option maxHeartbeats 2000000 in
theorem has_v {w : World} {v : Value} (k : Ky) (t : Bool) (hl : ∀ w', Below w.heap.size w w' → (Instr.lookup 55 v (.agg #[.int .i64 k.kind, .int .i64 k.id, .int .i64 k.adv]) true).run Try.prog w' = .ok (.tuple #[.agg #[], .bool t]) w') : Calls Try.prog 28 #[v, .agg #[.int .i64 k.kind, .int .i64 k.id, .int .i64 k.adv]] w fun e w' => e = .returned (.bool t) ∧ ∃ q os', w' = grow (w.drewN q) os' := by
  have B0 := (Below.refl w.heap.size w).alloc (Nat.le_refl _) (.cells #[.int .i64 k.kind, .int .i64 k.id, .int .i64 k.adv] 34)
  have hlook := hl _ B0
  have HG := Lib.hid (fun o => show ∃ q os', (w.alloc (.cells #[.int .i64 k.kind, .int .i64 k.id, .int .i64 k.adv] 34)).alloc o = grow (w.drewN q) os' from ⟨0, _, by rw [alloc_eq_grow, alloc_eq_grow, grow_grow]; rfl⟩)
  obtain ⟨k0, k1, k2⟩ := (Blk.new w 34 #[.int .i64 k.kind, .int .i64 k.id, .int .i64 k.adv]).three
  clear hl B0
  go_enter Try.func28, Try.ntmps28
  go_wp2
  go_ret
  exact ⟨rfl, HG.out _⟩
end Go.Proofs.Ytndjoanlbaiaeaa
