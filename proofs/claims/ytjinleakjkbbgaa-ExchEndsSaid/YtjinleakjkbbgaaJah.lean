/- The reference's database: Tick and Put, as what they make of the list that it holds. Conditions: what the words say. · What a database of the program must do, said of any words Dv for 'it lies so in memory'. Conditions: none; it is asked of the program elsewhere. · The library's contracts that the proofs lean on, laid at this program: tables of numbers and facts of the kernel. No conditions. · A database's map: what its keys read as; what it holds. No conditions. · A database's map: what it holds, and what its operations make of that. Conditions: keys of 64 bits. · Copies of lists of the call's own, and of a description. Conditions: at most 1000 items. -/
import Derived.Test.YtjinleakjkbbgaaChecked
import Derived.Shelf.SlSortCmp.KitK
import Derived.Shelf.SlicesG.Cmp
import Derived.Maps.RangeWalk
import Derived.DeepKeys4
import Derived.Deep.RegionHeld3
import Derived.Test.YtjinleakjkbbgaaJag
namespace Go.Proofs.Ytjinleakjkbbgaa
open Go.RowKit

theorem kyCells_at (K : List Ky) : ∀ (j : Nat) (k : Ky), K[j]? = some k → ∀ i, i < 3 → (kyCells K)[j * 3 + i]? = [Value.int .i64 k.kind, .int .i64 k.id, .int .i64 k.adv][i]? := by
  induction K with
  | nil => intro j h hx; simp at hx
  | cons x l ih =>
    intro j h hx i hi
    rw [kyCells_cons]
    cases j with
    | zero =>
      simp at hx
      subst hx
      rw [List.getElem?_append_left (by simp; omega)]
      simp
    | succ j =>
      rw [List.getElem?_append_right (by simp; omega)]
      have e : (j + 1) * 3 + i - [Value.int .i64 x.kind, .int .i64 x.id, .int .i64 x.adv].length = j * 3 + i := by simp; omega
      rw [e]
      exact ih j h (by simpa using hx) i hi
end Go.Proofs.Ytjinleakjkbbgaa
namespace Go.Proofs.Ytjinleakjkbbgaa
open Go.RowKit

/-- A key of three numbers of 64 bits. -/
def wfKy (k : Ky) : Prop := (-9223372036854775808 ≤ k.kind ∧ k.kind ≤ 9223372036854775807) ∧ (-9223372036854775808 ≤ k.id ∧ k.id ≤ 9223372036854775807) ∧ (-9223372036854775808 ≤ k.adv ∧ k.adv ≤ 9223372036854775807)
end Go.Proofs.Ytjinleakjkbbgaa
namespace Go.Proofs.Ytjinleakjkbbgaa
open Go.Shelf
def cmpInt7_ren : Go.Shelf.Ren := ⟨fun | 5 => 53 | 7 => 56 | n => n, fun | 22 => 3 | 3 => 3 | 4 => 4 | n => n, fun | n => n⟩
theorem cmpInt7 : Go.Proofs.SlLaysC2.n5 Try.prog cmpInt7_ren := {
  mixed := by kernel_rfl
  f5 := ⟨Try.f53.name, by decide, Try.func53.trans (congrArg some (by kernel_rfl))⟩
  f7 := ⟨Try.f56.name, by decide, Try.func56.trans (congrArg some (by kernel_rfl))⟩
  t3 := Try.underlying3
  a3 := Try.isAgg3
  z3 := Try.sizeOf3
  v3 := Try.zeroValue3
  t4 := Try.underlying4
  a4 := Try.isAgg4
  z4 := Try.sizeOf4
  v4 := Try.zeroValue4
  t22 := Try.underlying3
  a22 := Try.isAgg3
  z22 := Try.sizeOf3
  v22 := Try.zeroValue3 }
def insHd7_ren : Go.Shelf.Ren := ⟨fun | 20 => 54 | n => n, fun | 24 => 58 | 22 => 31 | 3 => 3 | 25 => 89 | 4 => 4 | 0 => 0 | n => n, fun | n => n⟩
theorem insHd7 : Go.Proofs.SlLaysF0.n20 Try.prog insHd7_ren := {
  mixed := by kernel_rfl
  f20 := ⟨Try.f54.name, by decide, Try.func54.trans (congrArg some (by kernel_rfl))⟩
  t0 := Try.underlying0
  a0 := Try.isAgg0
  z0 := Try.sizeOf0
  v0 := Try.zeroValue0
  t3 := Try.underlying3
  a3 := Try.isAgg3
  z3 := Try.sizeOf3
  v3 := Try.zeroValue3
  t4 := Try.underlying4
  a4 := Try.isAgg4
  z4 := Try.sizeOf4
  v4 := Try.zeroValue4
  t22 := Try.underlying31
  a22 := Try.isAgg31
  z22 := Try.sizeOf31
  v22 := Try.zeroValue31
  t25 := Try.underlying89
  a25 := Try.isAgg89
  z25 := Try.sizeOf89
  v25 := Try.zeroValue89 }
end Go.Proofs.Ytjinleakjkbbgaa
namespace Go.Proofs.Ytjinleakjkbbgaa
open Go.RowKit
open Go.Maps (Keyed)

theorem laidOut7 : laidOutB Try.prog = true := by kernel_rfl
theorem key_row7 : (80 : TypeId) < Try.prog.types.size := of_decide_eq_true (by kernel_rfl)
theorem key_at7 : Try.prog.keyTypeAt 2 80 = true := by kernel_rfl
theorem keyed7 : Keyed Try.prog 80 := Keyed.of_law (deep_law_laid laidOut7 (m := 2) (by omega) key_row7 key_at7 (by rw [Try.underlying80]))
theorem succ_of_lt7 {a b : Nat} (h : a < b) : ∃ n, b = n + 1 := ⟨b - 1, by omega⟩
theorem size7 : ∃ n, Try.prog.types.size = n + 1 := succ_of_lt7 key_row7
theorem cells_key7 : Try.prog.cellsOf 80 = 3 := by kernel_rfl
theorem cells_int7 : Try.prog.cellsOf 3 = 1 := by kernel_rfl
theorem keyType7 : Try.prog.keyType 80 = true := by kernel_rfl
/-- What a key reads as. -/
def kyLit (k : Ky) : Lit := .string (keyBytes [.int .i64 k.kind, .int .i64 k.id, .int .i64 k.adv])
theorem wf_i64_iff (a : Int) : (Lit.int .i64 a).wf = true ↔ -9223372036854775808 ≤ a ∧ a ≤ 9223372036854775807 := by
  constructor
  · intro h
    simp [Lit.wf, IntKind.min, IntKind.max, IntKind.signed, IntKind.bits] at h
    omega
  · rintro ⟨h1, h2⟩
    simp [Lit.wf, IntKind.min, IntKind.max, IntKind.signed, IntKind.bits]
    omega
theorem keyLits7 (n : Nat) {a b c : Int} (ha : (Lit.int .i64 a).wf = true) (hb : (Lit.int .i64 b).wf = true) (hc : (Lit.int .i64 c).wf = true) :
    Try.prog.keyLits (n + 1 + 1) 80 [.int .i64 a, .int .i64 b, .int .i64 c] = some [.int .i64 a, .int .i64 b, .int .i64 c] := by
  simp [Program.keyLits, Try.underlying80, cells_key7, cells_int7, ha, hb, hc]
theorem keyOf_ky {k : Ky} (h : wfKy k) : keyOf Try.prog 80 (.agg #[.int .i64 k.kind, .int .i64 k.id, .int .i64 k.adv]) = some (kyLit k) := by
  obtain ⟨h1, h2, h3⟩ := h
  obtain ⟨n, hn⟩ := size7
  have e := keyLits7 n ((wf_i64_iff _).2 h1) ((wf_i64_iff _).2 h2) ((wf_i64_iff _).2 h3)
  simp [keyOf, Try.underlying80, keyType7, Value.formed, cells_key7, Value.cells, hn, e, kyLit]
theorem kyLit_inj {a b : Ky} (ha : wfKy a) (hb : wfKy b) (h : kyLit a = kyLit b) : a = b := by
  have e1 := keyOf_ky ha
  rw [h] at e1
  have := keyed7.inj e1 (keyOf_ky hb)
  obtain ⟨a1, a2, a3⟩ := a
  obtain ⟨b1, b2, b3⟩ := b
  simp at this
  simp [this]
end Go.Proofs.Ytjinleakjkbbgaa
namespace Go.Proofs.Ytjinleakjkbbgaa
open Go.RowKit
open Go.Maps (Keyed)
open Go.ChangeMaps (notKey putKey delKey)

/-- A description as a value. -/
def rcVal (r : Rc) : Value := .agg #[.int .i64 r.h.age, .int .i64 r.h.kind, .int .i64 r.h.id, .int .i64 r.h.adv, .int .i64 r.h.seq, .int .i64 r.h.sum, .int .i64 r.h.long, .slice r.p.a r.p.n r.p.c, .slice r.q.a r.q.n r.q.c]
/-- An element of the map reads as itself. -/
def asIs (v : Value) : Option (DataW Value × List MemPlace) := some (.held v, [])
def rcE (r : Rc) : Lit × DataW Value := (kyLit (keyH r.h), .held (rcVal r))
/-- Block b is a map that holds just the descriptions of R, each under its key. -/
def MapIs (w : World) (b : Nat) (R : List Rc) : Prop :=
  (∀ r ∈ R, wfKy (keyH r.h)) ∧ ∃ l : List (Lit × DataW Value), w.ownsMap Try.prog 80 asIs b R.length (.map l) ∧ l.Perm (R.map rcE)

theorem own_heap {H : Type} {P : Program} {k : TypeId} {R : Value → Option (DataW H × List MemPlace)} {w w' : World} {b n : Nat} {D : DataW H} (h : w.ownsMap P k R b n D) (he : w'.heap[b]? = w.heap[b]?) : w'.ownsMap P k R b n D := by
  obtain ⟨es, clock, hb, r⟩ := h
  exact ⟨es, clock, he.trans hb, r⟩
section
variable {w w' : World} {b : Nat} {R : List Rc}
theorem MapIs.lt (h : MapIs w b R) : b < w.heap.size := by
  obtain ⟨-, l, ho, -⟩ := h
  exact ho.lt
theorem MapIs.heap (h : MapIs w b R) (he : w'.heap[b]? = w.heap[b]?) : MapIs w' b R := by
  obtain ⟨hw, l, ho, hp⟩ := h
  exact ⟨hw, l, own_heap ho he, hp⟩
theorem MapIs.chg {F : Nat → Prop} (h : MapIs w b R) (hc : Chg F w w') (hF : ¬ F b) : MapIs w' b R := h.heap (hc.block b h.lt hF)
theorem MapIs.below {B : Nat} (h : MapIs w b R) (hb : Below B w w') (hlt : b < B) : MapIs w' b R := h.heap (hb.block b hlt)
theorem MapIs.alloc (h : MapIs w b R) (o : Obj) : MapIs (w.alloc o) b R := h.below ((Below.refl w.heap.size w).alloc (Nat.le_refl _) o) h.lt
theorem MapIs.drew (h : MapIs w b R) : MapIs w.drew b R := h.heap rfl
theorem MapIs.setCell (h : MapIs w b R) {a : Addr} (ha : b ≠ a.block) (u : Value) : MapIs (w.setCell a u) b R := h.heap (RowKit.Below.heap_setCell _ _ _ _ ha)
theorem MapIs.made (w : World) : MapIs (w.alloc (.map #[] 0)) w.heap.size [] := ⟨fun r h => (by cases h), [], World.ownsMap_made _ _ _ _, List.Perm.refl _⟩
end
theorem pw_eq {α β : Type} {f : α → β} : ∀ {R : List α}, R.Pairwise (fun r s => f r ≠ f s) → ∀ r ∈ R, ∀ s ∈ R, f r = f s → r = s
  | x :: R, h, r, hr, s, hs, e => by
    obtain ⟨h1, h2⟩ := List.pairwise_cons.1 h
    rcases List.mem_cons.1 hr with rfl | hr'
    · rcases List.mem_cons.1 hs with rfl | hs'
      · rfl
      · exact absurd e (h1 s hs')
    · rcases List.mem_cons.1 hs with rfl | hs'
      · exact absurd e.symm (h1 r hr')
      · exact pw_eq h2 r hr' s hs' e
theorem sameKey_ky {a b : Ky} (ha : wfKy a) (hb : wfKy b) : (kyLit a).sameKey (kyLit b) = sameKy a b := by
  cases h : sameKy a b
  · cases h2 : (kyLit a).sameKey (kyLit b)
    · rfl
    · have := kyLit_inj ha hb (WideAt.sameKey_eq h2)
      rw [(sameKy_iff _ _).2 this] at h
      cases h
  · rw [(sameKy_iff _ _).1 h]
    exact WideAt.sameKey_self (keyed7.key (keyOf_ky hb))
section
variable {w : World} {b : Nat} {R : List Rc} {k : Ky}
end
end Go.Proofs.Ytjinleakjkbbgaa
namespace Go.Proofs.Ytjinleakjkbbgaa
open Go.RowKit Go.Shelf Go.Lib

theorem blk_new07 (w : World) (cs : Array Value) (t : TypeId) (o : Obj) : Blk ((w.alloc (.cells cs t)).alloc o) w.heap.size t cs := (Blk.new w t cs).below ((Below.refl (w.alloc (.cells cs t)).heap.size (w.alloc (.cells cs t))).alloc (Nat.le_refl _) o) (by simp)
theorem Chg.setCell {F : Nat → Prop} {w w' : World} (h : Chg F w w') (a : Addr) (ha : F a.block) (v : Value) : Chg F w (w'.setCell a v) :=
  h.trans (Chg.of_grown (grown_setCell w' a v) (fun _ hq => by cases hq; exact ha)) (fun _ hq => .inl hq)
theorem Chg.below {F : Nat → Prop} {w w' w'' : World} (h : Chg F w w') (hb : Below w'.heap.size w' w'') : Chg F w w'' := h.trans (Chg.of_below (F := F) hb) (fun _ hq => .inl hq)
end Go.Proofs.Ytjinleakjkbbgaa
