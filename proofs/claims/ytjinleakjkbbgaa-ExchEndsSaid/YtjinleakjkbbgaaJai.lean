/- The program's database in memory: a map of descriptions; what it holds. Plain facts on such maps. No conditions. · The order of keys, as the program's compare tells it. No conditions but that a list of three numbers is what Or is handed. · Keys of the call's own, sorted. No conditions. · Keys of the call's own, sorted by the library's sort under the program's compare. Conditions: at most 1000 keys. · The program's keys: the keys of all that a database holds, in order. Conditions: what the words say. · A tick, as what it makes of the list that a database holds, one by one: plain facts. No conditions. -/
import Derived.StillTailTactics
import Derived.Sort.Grow
import Derived.Deep.DeepCutAuto
import Derived.Test.YtjinleakjkbbgaaJah
namespace Go.Proofs.Ytjinleakjkbbgaa
open Go.RowKit

theorem own_ne_map {w : World} {base n size b : Nat} {R : List Rc} {t : TypeId} {v : Value} {xs : List Value} (h : MapIs w b R) (ho : w.ownsRow base t size v n xs) : v.ownBlock ≠ some b := by
  intro e
  obtain ⟨-, l, ⟨es, clock, hb, -⟩, -⟩ := h
  rcases ho.2 with ⟨rfl, _⟩ | ⟨g, cap, cur, rfl, _, hg, _⟩
  · cases e
  · injection e with e
    subst e
    rw [hb] at hg
    cases hg
end Go.Proofs.Ytjinleakjkbbgaa
namespace Go.Proofs.Ytjinleakjkbbgaa
open Go.RowKit Go.Shelf Go.Lib

theorem cmp7 (x y : Int) (w : World) : Calls Try.prog 53 #[.int .i64 x, .int .i64 y] w fun e w' => e = .returned (.int .i64 (Lib.compareInt x y)) ∧ w' = w :=
  AnyG.cmp_Compare_int cmpInt7 x y w
/-- The first number but 0. -/
def orI (a b : Int) : Int := if a = 0 then b else a
set_option maxHeartbeats 2000000 in
theorem or7 (c1 c2 c3 : Int) (g : Nat) (w : World) (h0 : w.cell? ⟨g, 0, none⟩ = some (.int .i64 c1)) (h1 : w.cell? ⟨g, 1, none⟩ = some (.int .i64 c2)) (h2 : w.cell? ⟨g, 2, none⟩ = some (.int .i64 c3)) :
    Calls Try.prog 52 #[.slice (some ⟨g, 0, none⟩) 3 3] w fun e w' => e = .returned (.int .i64 (orI c1 (orI c2 c3))) ∧ w' = w := by
  go_enter Try.func52, Try.ntmps52
  go_wp2
  refine wp_loop_rounds 4 ?_
  rw [rounds_succ]
  by_cases e1 : c1 = 0
  · subst e1
    go_wp2
    rw [rounds_succ]
    by_cases e2 : c2 = 0
    · subst e2
      go_wp2
      rw [rounds_succ]
      by_cases e3 : c3 = 0
      · subst e3
        go_wp2
        rw [rounds_succ]
        go_wp2
        go_ret
        exact ⟨rfl, rfl⟩
      · have e4 : (c3 == 0) = false := by simpa using e3
        go_wp2
        go_ret
        simp [orI]
    · have e4 : (c2 == 0) = false := by simpa using e2
      go_wp2
      go_ret
      simp [orI, e2]
  · have e4 : (c1 == 0) = false := by simpa using e1
    go_wp2
    go_ret
    simp [orI, e1]
/-- The order of keys. -/
def cmpK (a b : Ky) : Int := orI (Lib.compareInt a.kind b.kind) (orI (Lib.compareInt a.id b.id) (Lib.compareInt a.adv b.adv))
theorem compareInt_cases (x y : Int) : (x < y ∧ Lib.compareInt x y = -1) ∨ (x = y ∧ Lib.compareInt x y = 0) ∨ (y < x ∧ Lib.compareInt x y = 1) := by
  unfold Lib.compareInt
  by_cases h1 : x < y
  · simp [h1]
  · by_cases h2 : y < x
    · simp [h1, h2]
    · have : x = y := by omega
      subst this
      simp
theorem cmpK_less (a b : Ky) : decide (cmpK a b < 0) = lessKy a b := by
  have h := lessKy_iff a b
  have : cmpK a b < 0 ↔ lessKy a b = true := by
    rw [h]
    unfold cmpK orI
    rcases compareInt_cases a.kind b.kind with ⟨k1, k2⟩ | ⟨k1, k2⟩ | ⟨k1, k2⟩ <;> rw [k2] <;>
    rcases compareInt_cases a.id b.id with ⟨i1, i2⟩ | ⟨i1, i2⟩ | ⟨i1, i2⟩ <;> rw [i2] <;>
    rcases compareInt_cases a.adv b.adv with ⟨d1, d2⟩ | ⟨d1, d2⟩ | ⟨d1, d2⟩ <;> rw [d2] <;> simp <;> omega
  cases hl : lessKy a b
  · rw [decide_eq_false_iff_not, this, hl]
    decide
  · rw [decide_eq_true_iff, this, hl]
end Go.Proofs.Ytjinleakjkbbgaa
namespace Go.Proofs.Ytjinleakjkbbgaa
open Go.RowKit Go.Shelf Go.Lib Go.Sort

set_option maxRecDepth 20000 in
set_option maxHeartbeats 8000000 in
/-- The program's compare. -/
theorem compare7 (a b : Ky) (w : World) : Calls Try.prog 48 #[.agg #[.int .i64 a.kind, .int .i64 a.id, .int .i64 a.adv], .agg #[.int .i64 b.kind, .int .i64 b.id, .int .i64 b.adv]] w
    fun e w' => e = .returned (.int .i64 (cmpK a b)) ∧ ∃ q os', w' = grow (w.drewN q) os' := by
  obtain ⟨a0, a1, a2⟩ := Blk.three (blk_new07 w #[.int .i64 a.kind, .int .i64 a.id, .int .i64 a.adv] 80 (.cells #[.int .i64 b.kind, .int .i64 b.id, .int .i64 b.adv] 80))
  obtain ⟨b0, b1, b2⟩ := Blk.three (blk_new1 w (.cells #[.int .i64 a.kind, .int .i64 a.id, .int .i64 a.adv] 80) 80 #[.int .i64 b.kind, .int .i64 b.id, .int .i64 b.adv])
  have HG := Lib.hid (show ∃ os, (w.alloc (.cells #[.int .i64 a.kind, .int .i64 a.id, .int .i64 a.adv] 80)).alloc (.cells #[.int .i64 b.kind, .int .i64 b.id, .int .i64 b.adv] 80) = grow w os from ⟨_, by rw [alloc_eq_grow, alloc_eq_grow, grow_grow]⟩)
  have p1 := fun W => cmp7 a.kind b.kind W
  have p2 := fun W => cmp7 a.id b.id W
  have p3 := fun W => cmp7 a.adv b.adv W
  unfold cmpK
  generalize Lib.compareInt a.kind b.kind = x1 at *
  generalize Lib.compareInt a.id b.id = x2 at *
  generalize Lib.compareInt a.adv b.adv = x3 at *
  go_enter Try.func48, Try.ntmps48
  go_wp2_with fail
  generalize (w.alloc (.cells #[.int .i64 a.kind, .int .i64 a.id, .int .i64 a.adv] 80)).alloc (.cells #[.int .i64 b.kind, .int .i64 b.id, .int .i64 b.adv] 80) = w0 at *
  refine wp_region_still_tail 15 (by kernel_rfl) (by kernel_rfl) ?_
  simp only [List.take_succ_cons, List.take_zero, List.drop_succ_cons, List.drop_zero]
  repeat still_step
  still_call (p1 _)
  repeat still_step
  still_call (p2 _)
  repeat still_step
  still_call (p3 _)
  refine wpStill_nil ?_
  change wpList _ _ _ _ _ w0.drew
  obtain ⟨os, hos⟩ := HG.out
  have HW := Lib.hid (show w0.drew = grow (w.drewN 1) os by rw [hos]; rfl)
  clear HG hos a0 a1 a2 b0 b1 b2
  generalize w0.drew = w2 at *
  obtain ⟨c0, c1, c2⟩ := Blk.three (Blk.new w2 3 #[.int .i64 x1, .int .i64 x2, .int .i64 x3])
  go_wp2_with (go_at_call 52; refine (or7 x1 x2 x3 _ _ c0 c1 c2).mono ?_; rintro e w' ⟨rfl, rfl⟩)
  go_ret
  exact ⟨rfl, 1, _, by rw [HW.out, alloc_eq_grow, grow_grow]⟩
end Go.Proofs.Ytjinleakjkbbgaa
namespace Go.Proofs.Ytjinleakjkbbgaa
open Go.RowKit Go.Shelf Go.Lib Go.Sort

instance : Inhabited Ky := ⟨⟨0, 0, 0⟩⟩
section
variable {w : World} {g : Nat} {e : TypeId} {cur : Array Value} {F : Array Value}
theorem holds7 (hb : w.heap[g]? = some (.cells cur e (0, 0))) (ht : cur.toList.take F.size = F.toList) : Holds id w g 0 F := by
  intro j hj
  refine ⟨?_, by simp [World.frozen?, hb]⟩
  have h1 : (cur.toList.take F.size)[j]? = F.toList[j]? := by rw [ht]
  rw [List.getElem?_take_of_lt hj] at h1
  simp only [World.cell?, hb, Nat.zero_add]
  simp only [Option.isSome_none, Bool.false_eq_true, if_false]
  rw [← Array.getElem?_toList, h1]
  simp [hj]
theorem heap_sorted7 {n : Nat} {os : Array Obj} {fr : Nat × Nat} (F : Array Value) (hb : w.heap[g]? = some (.cells cur e fr)) :
    (grow (putRow id (Sort.ahead w n) g 0 F) os).heap[g]? = some (.cells (putCells id 0 F cur) e fr) := by
  have hg : g < w.heap.size := (Array.getElem?_eq_some_iff.1 hb).1
  rw [heap_grow_old _ _ (by simpa using hg)]
  simp [putRow, mapBlock, Sort.ahead, Array.getElem?_modify, hb, onCells]
theorem grownBy_sorted7 {n : Nat} {os : Array Obj} (F : Array Value) : w.grownBy (grow (putRow id (Sort.ahead w n) g 0 F) os) (some g) := by
  refine ⟨rfl, rfl, rfl, by simp, fun k hk hne => ?_⟩
  rw [heap_grow_old _ _ (by simpa using hk)]
  have : g ≠ k := fun e => hne (by rw [e])
  simp [putRow, mapBlock, Sort.ahead, Array.getElem?_modify, this]
theorem take_putCells7 (h : F.size ≤ cur.size) : (putCells id 0 F cur).toList.take F.size = F.toList := by
  apply List.ext_getElem?
  intro j
  by_cases hj : j < F.size
  · rw [List.getElem?_take_of_lt hj, Array.getElem?_toList]
    simp [putCells, hj, show j < cur.size by omega]
  · rw [List.getElem?_take_eq_none (by omega), List.getElem?_eq_none (by simp; omega)]
end
/-- In order, equals let. -/
def leKy (a b : Ky) : Bool := !lessKy b a
end Go.Proofs.Ytjinleakjkbbgaa
namespace Go.Proofs.Ytjinleakjkbbgaa
open Go.RowKit
open Go.Maps (Keyed)

/-- Keys collected so far. -/
def Coll (D : DataW Value) (left : Lit → Bool) (ks : List Ky) : Prop :=
  (∀ k ∈ ks, wfKy k) ∧ ks.Pairwise (· ≠ ·) ∧ ∀ k, wfKy k → (k ∈ ks ↔ Maps.has D (kyLit k) = true ∧ left (kyLit k) = false)
theorem Coll.start (D : DataW Value) : Coll D (Maps.has D) [] :=
  ⟨fun k h => (by cases h), List.Pairwise.nil, fun k _ => ⟨fun h => (by cases h), fun h => by rw [h.1] at h; exact absurd h.2 (by decide)⟩⟩
theorem Coll.step {D : DataW Value} {left : Lit → Bool} {ks : List Ky} (h : Coll D left ks) {x : Ky} (hx : wfKy x) (hl : left (kyLit x) = true) {y : DataW Value} (hat : ∀ zd, D.atKey (kyLit x) zd = y) :
    Coll D (fun z => left z && !z.sameKey (kyLit x)) (ks ++ [x]) := by
  obtain ⟨h1, h2, h3⟩ := h
  have hh : Maps.has D (kyLit x) = true := Maps.has_true_of_atKey hat
  have hnx : x ∉ ks := fun hm => by
    have := ((h3 x hx).1 hm).2
    rw [hl] at this
    cases this
  refine ⟨fun k hk => ?_, ?_, fun k hk => ?_⟩
  · rcases List.mem_append.1 hk with hk | hk
    · exact h1 k hk
    · rw [List.mem_singleton.1 hk]
      exact hx
  · rw [List.pairwise_append]
    refine ⟨h2, List.pairwise_singleton _ _, fun a ha b hb e => ?_⟩
    rw [List.mem_singleton.1 hb] at e
    exact hnx (e ▸ ha)
  · rw [List.mem_append, List.mem_singleton]
    show k ∈ ks ∨ k = x ↔ _ ∧ (left (kyLit k) && !(kyLit k).sameKey (kyLit x)) = false
    rw [sameKey_ky hk hx]
    constructor
    · rintro (hk' | rfl)
      · obtain ⟨e1, e2⟩ := (h3 k hk).1 hk'
        exact ⟨e1, by rw [e2]; rfl⟩
      · exact ⟨hh, by rw [(sameKy_iff k k).2 rfl, hl]; rfl⟩
    · rintro ⟨e1, e2⟩
      cases hs : sameKy k x
      · rw [hs] at e2
        simp at e2
        exact .inl ((h3 k hk).2 ⟨e1, e2⟩)
      · exact .inr ((sameKy_iff _ _).1 hs)
end Go.Proofs.Ytjinleakjkbbgaa
namespace Go.Proofs.Ytjinleakjkbbgaa

/-- The first j are a tick on. -/
def tickUp (S : List La) (j : Nat) : List La := (S.take j).map tickL ++ S.drop j
end Go.Proofs.Ytjinleakjkbbgaa
