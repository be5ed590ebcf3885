/- The reference's database in memory: what it holds, on which blocks it hangs, and what its calls make of it. Conditions: none but what the words say. · The reference's database: Tick and Put, as what they make of the list that it holds. Conditions: what the words say. · What a database of the program must do, said of any words Dv for 'it lies so in memory'. Conditions: none; it is asked of the program elsewhere. · A database's map: what its keys read as; what it holds. No conditions. · A database's map: what it holds, and what its operations make of that. Conditions: keys of 64 bits. · Copies of lists of the call's own, and of a description. Conditions: at most 1000 items. -/
import Derived.Laws.FloatArith
import Derived.Laws.ComplexArith
import Derived.Deep.DeepCutAuto
import Derived.Deep.RegionLawGrows
import Derived.Maps.RangeWalk
import Derived.DeepKeys4
import Derived.Test.YtndjoanlbaiaeaaChecked
import Derived.Sort.Grow
import Derived.Deep.RegionHeld3
import Derived.Test.YtndjoanlbaiaeaaJag
import Derived.Test.YtndjoanlbaiaeaaJaf
import Derived.Test.YtndjoanlbaiaeaaJaa
import Derived.Test.YtndjoanlbaiaeaaJab
namespace Go.Proofs.Ytndjoanlbaiaeaa
open Go.RowKit

/-- Only blocks of F, and new ones, have turned. -/
structure Chg (F : Nat → Prop) (w w' : World) : Prop where
  os : w'.os = w.os
  tape : w'.tape = w.tape
  output : w'.output = w.output
  size : w.heap.size ≤ w'.heap.size
  block : ∀ k, k < w.heap.size → ¬ F k → w'.heap[k]? = w.heap[k]?
section
variable {F F' : Nat → Prop} {w w' w'' : World}
theorem Chg.refl (F : Nat → Prop) (w : World) : Chg F w w := ⟨rfl, rfl, rfl, Nat.le_refl _, fun _ _ _ => rfl⟩
theorem Chg.of_below (h : Below w.heap.size w w') : Chg F w w' := ⟨h.os, h.tape, h.output, h.size, fun k hk _ => h.block k hk⟩
theorem Chg.of_grown {row : Option Nat} (h : w.grownBy w' row) (hr : ∀ k, row = some k → F k) : Chg F w w' := ⟨h.os, h.tape, h.output, h.size, fun k hk hn => h.block k hk (fun e => hn (hr k e.symm))⟩
theorem Chg.to_below {B : Nat} (h : Chg F w w') (hF : ∀ k, F k → B ≤ k) (hB : B ≤ w.heap.size) : Below B w w' := ⟨h.os, h.tape, h.output, h.size, fun k hk => h.block k (by omega) (fun hf => by have := hF k hf; omega)⟩
/-- One change, and another one: F grows by new blocks alone. -/
theorem Chg.trans (h : Chg F w w') (h' : Chg F' w' w'') (hF : ∀ k, F' k → F k ∨ w.heap.size ≤ k) : Chg F w w'' :=
  ⟨h'.os.trans h.os, h'.tape.trans h.tape, h'.output.trans h.output, Nat.le_trans h.size h'.size, fun k hk hn => (h'.block k (Nat.lt_of_lt_of_le hk h.size) (fun hf => by
    rcases hF k hf with h1 | h1
    · exact hn h1
    · omega)).trans (h.block k hk hn)⟩
end
theorem own_chg {F : Nat → Prop} {w w' : World} {b n size : Nat} {t : TypeId} {v : Value} {xs : List Value} (ho : w.ownsRow b t size v n xs) (h : Chg F w w') (hv : ∀ q, v.ownBlock = some q → ¬ F q) : w'.ownsRow b t size v n xs := by
  refine ⟨ho.1, ?_⟩
  rcases ho.2 with hn | ⟨g, cap, cur, rfl, hb, hg, rest⟩
  · exact .inl hn
  · exact .inr ⟨g, cap, cur, rfl, hb, (h.block g (Array.getElem?_eq_some_iff.1 hg).1 (hv g rfl)).trans hg, rest⟩
theorem Blk.chg {F : Nat → Prop} {w w' : World} {g : Nat} {t : TypeId} {cs : Array Value} (hb : Blk w g t cs) (h : Chg F w w') (hF : ¬ F g) : Blk w' g t cs := (h.block g hb.lt hF).trans hb

end Go.Proofs.Ytndjoanlbaiaeaa
namespace Go.Proofs.Ytndjoanlbaiaeaa
open Go.RowKit

theorem kyCells_at (K : List Ky) : ∀ (j : Nat) (k : Ky), K[j]? = some k → ∀ i, i < 3 → (kyCells K)[j * 3 + i]? = [Value.int .i64 k.kind, .int .i64 k.id, .int .i64 k.adv][i]? := by
  induction K with
  | nil => intro j h hx; simp at hx
  | cons x l ih =>
    intro j h hx i hi
    rw [kyCells_cons]
    cases j with
    | zero =>
      simp at hx
      subst hx
      rw [List.getElem?_append_left (by simp; omega)]
      simp
    | succ j =>
      rw [List.getElem?_append_right (by simp; omega)]
      have e : (j + 1) * 3 + i - [Value.int .i64 x.kind, .int .i64 x.id, .int .i64 x.adv].length = j * 3 + i := by simp; omega
      rw [e]
      exact ih j h (by simpa using hx) i hi
end Go.Proofs.Ytndjoanlbaiaeaa
namespace Go.Proofs.Ytndjoanlbaiaeaa
open Go.RowKit

/-- A key of three numbers of 64 bits. -/
def wfKy (k : Ky) : Prop := (-9223372036854775808 ≤ k.kind ∧ k.kind ≤ 9223372036854775807) ∧ (-9223372036854775808 ≤ k.id ∧ k.id ≤ 9223372036854775807) ∧ (-9223372036854775808 ≤ k.adv ∧ k.adv ≤ 9223372036854775807)
end Go.Proofs.Ytndjoanlbaiaeaa
namespace Go.Proofs.Ytndjoanlbaiaeaa
open Go.RowKit
open Go.Maps (Keyed)

theorem laidOut7 : laidOutB Try.prog = true := by kernel_rfl
theorem key_row7 : (34 : TypeId) < Try.prog.types.size := of_decide_eq_true (by kernel_rfl)
theorem key_at7 : Try.prog.keyTypeAt 2 34 = true := by kernel_rfl
theorem keyed7 : Keyed Try.prog 34 := Keyed.of_law (deep_law_laid laidOut7 (m := 2) (by omega) key_row7 key_at7 (by rw [Try.underlying34]))
theorem succ_of_lt7 {a b : Nat} (h : a < b) : ∃ n, b = n + 1 := ⟨b - 1, by omega⟩
theorem size7 : ∃ n, Try.prog.types.size = n + 1 := succ_of_lt7 key_row7
theorem cells_key7 : Try.prog.cellsOf 34 = 3 := by kernel_rfl
theorem cells_int7 : Try.prog.cellsOf 3 = 1 := by kernel_rfl
theorem keyType7 : Try.prog.keyType 34 = true := by kernel_rfl
theorem under_int7 : Try.prog.underlying 3 = some (.int .i64) := Try.underlying3

/-- What a key reads as. -/
def kyLit (k : Ky) : Lit := .string (keyBytes [.int .i64 k.kind, .int .i64 k.id, .int .i64 k.adv])
theorem wf_i64_iff (a : Int) : (Lit.int .i64 a).wf = true ↔ -9223372036854775808 ≤ a ∧ a ≤ 9223372036854775807 := by
  constructor
  · intro h
    simp [Lit.wf, IntKind.min, IntKind.max, IntKind.signed, IntKind.bits] at h
    omega
  · rintro ⟨h1, h2⟩
    simp [Lit.wf, IntKind.min, IntKind.max, IntKind.signed, IntKind.bits]
    omega
theorem keyLits7 (n : Nat) {a b c : Int} (ha : (Lit.int .i64 a).wf = true) (hb : (Lit.int .i64 b).wf = true) (hc : (Lit.int .i64 c).wf = true) :
    Try.prog.keyLits (n + 1 + 1) 34 [.int .i64 a, .int .i64 b, .int .i64 c] = some [.int .i64 a, .int .i64 b, .int .i64 c] := by
  simp [Program.keyLits, Try.underlying34, cells_key7, cells_int7, ha, hb, hc]
theorem keyOf_ky {k : Ky} (h : wfKy k) : keyOf Try.prog 34 (.agg #[.int .i64 k.kind, .int .i64 k.id, .int .i64 k.adv]) = some (kyLit k) := by
  obtain ⟨h1, h2, h3⟩ := h
  obtain ⟨n, hn⟩ := size7
  have e := keyLits7 n ((wf_i64_iff _).2 h1) ((wf_i64_iff _).2 h2) ((wf_i64_iff _).2 h3)
  simp [keyOf, Try.underlying34, keyType7, Value.formed, cells_key7, Value.cells, hn, e, kyLit]
theorem keyLit_int7 (n : Nat) {v : Value} {l : List Lit} (h : Try.prog.keyLits (n + 1) 3 [v] = some l) : ∃ a : Int, (Lit.int .i64 a).wf = true ∧ v = .int .i64 a ∧ l = [.int .i64 a] := by
  unfold Program.keyLits at h
  rw [under_int7] at h
  cases v <;> simp at h
  obtain ⟨⟨rfl, hw⟩, rfl⟩ := h
  exact ⟨_, hw, rfl, rfl⟩
theorem keyLits_inv7 (n : Nat) {x y z : Value} {L : List Lit} (hL : Try.prog.keyLits (n + 1 + 1) 34 [x, y, z] = some L) : ∃ l1 l2 l3, Try.prog.keyLits (n + 1) 3 [x] = some l1 ∧ Try.prog.keyLits (n + 1) 3 [y] = some l2 ∧ Try.prog.keyLits (n + 1) 3 [z] = some l3 ∧ L = l1 ++ (l2 ++ l3) := by
  unfold Program.keyLits at hL
  generalize hK : Program.keyLits Try.prog (n + 1) = K at hL ⊢
  simp [Try.underlying34, cells_key7, cells_int7] at hL
  cases h1 : K 3 [x] with
  | none => rw [h1] at hL; simp at hL
  | some l1 =>
    rw [h1] at hL
    cases h2 : K 3 [y] with
    | none => rw [h2] at hL; simp at hL
    | some l2 =>
      rw [h2] at hL
      cases h3 : K 3 [z] with
      | none => rw [h3] at hL; simp at hL
      | some l3 =>
        rw [h3] at hL
        simp at hL
        exact ⟨l1, l2, l3, rfl, rfl, rfl, hL.symm⟩
theorem keyLits_len7 (n : Nat) {cs : List Value} {L : List Lit} (hL : Try.prog.keyLits (n + 1) 34 cs = some L) : cs.length = 3 := by
  unfold Program.keyLits at hL
  simp only [Try.underlying34, cells_key7] at hL
  split at hL
  · rename_i h
    exact h.1
  · cases hL
theorem three7 : ∀ {xs : List Value}, xs.length = 3 → ∃ x y z, xs = [x, y, z]
  | [x, y, z], _ => ⟨x, y, z, rfl⟩
theorem keyOf_ky_inv {v : Value} {l : Lit} (h : keyOf Try.prog 34 v = some l) : ∃ k, wfKy k ∧ v = .agg #[.int .i64 k.kind, .int .i64 k.id, .int .i64 k.adv] ∧ l = kyLit k := by
  obtain ⟨xs, L, rfl, hL, rfl⟩ := keyOf_top (by rw [Try.underlying34]) h
  obtain ⟨n, hn⟩ := size7
  rw [hn] at hL
  have hl := keyLits_len7 _ hL
  obtain ⟨xs⟩ := xs
  simp only at hL hl
  obtain ⟨x, y, z, rfl⟩ := three7 hl
  · obtain ⟨l1, l2, l3, e1, e2, e3, rfl⟩ := keyLits_inv7 n hL
    obtain ⟨a, wa, rfl, rfl⟩ := keyLit_int7 n e1
    obtain ⟨b, wb, rfl, rfl⟩ := keyLit_int7 n e2
    obtain ⟨c, wc, rfl, rfl⟩ := keyLit_int7 n e3
    exact ⟨⟨a, b, c⟩, ⟨(wf_i64_iff _).1 wa, (wf_i64_iff _).1 wb, (wf_i64_iff _).1 wc⟩, rfl, rfl⟩
theorem kyLit_inj {a b : Ky} (ha : wfKy a) (hb : wfKy b) (h : kyLit a = kyLit b) : a = b := by
  have e1 := keyOf_ky ha
  rw [h] at e1
  have := keyed7.inj e1 (keyOf_ky hb)
  obtain ⟨a1, a2, a3⟩ := a
  obtain ⟨b1, b2, b3⟩ := b
  simp at this
  simp [this]
end Go.Proofs.Ytndjoanlbaiaeaa
namespace Go.Proofs.Ytndjoanlbaiaeaa
open Go.RowKit
open Go.Maps (Keyed)
open Go.ChangeMaps (notKey putKey delKey)

/-- A description as a value. -/
def rcVal (r : Rc) : Value := .agg #[.int .i64 r.h.age, .int .i64 r.h.kind, .int .i64 r.h.id, .int .i64 r.h.adv, .int .i64 r.h.seq, .int .i64 r.h.sum, .int .i64 r.h.long, .slice r.p.a r.p.n r.p.c, .slice r.q.a r.q.n r.q.c]
/-- An element of the map reads as itself. -/
def asIs (v : Value) : Option (DataW Value × List MemPlace) := some (.held v, [])
def rcE (r : Rc) : Lit × DataW Value := (kyLit (keyH r.h), .held (rcVal r))
/-- Block b is a map that holds just the descriptions of R, each under its key. -/
def MapIs (w : World) (b : Nat) (R : List Rc) : Prop :=
  (∀ r ∈ R, wfKy (keyH r.h)) ∧ ∃ l : List (Lit × DataW Value), w.ownsMap Try.prog 34 asIs b R.length (.map l) ∧ l.Perm (R.map rcE)

theorem own_tight {H : Type} {P : Program} {k : TypeId} {R : Value → Option (DataW H × List MemPlace)} {w : World} {b n : Nat} {l : List (Lit × DataW H)} (h : w.ownsMap P k R b n (.map l)) : w.ownsMap P k R b l.length (.map l) := by
  obtain ⟨es, clock, hb, F, hs, hD⟩ := h
  refine ⟨es, clock, hb, F, ?_, hD⟩
  injection hD with hD
  rw [hD, length_sorted, List.length_map, Array.length_toList]
  exact Nat.le_refl _
theorem own_heap {H : Type} {P : Program} {k : TypeId} {R : Value → Option (DataW H × List MemPlace)} {w w' : World} {b n : Nat} {D : DataW H} (h : w.ownsMap P k R b n D) (he : w'.heap[b]? = w.heap[b]?) : w'.ownsMap P k R b n D := by
  obtain ⟨es, clock, hb, r⟩ := h
  exact ⟨es, clock, he.trans hb, r⟩
section
variable {w w' : World} {b : Nat} {R : List Rc}
theorem MapIs.lt (h : MapIs w b R) : b < w.heap.size := by
  obtain ⟨-, l, ho, -⟩ := h
  exact ho.lt
theorem MapIs.heap (h : MapIs w b R) (he : w'.heap[b]? = w.heap[b]?) : MapIs w' b R := by
  obtain ⟨hw, l, ho, hp⟩ := h
  exact ⟨hw, l, own_heap ho he, hp⟩
theorem MapIs.chg {F : Nat → Prop} (h : MapIs w b R) (hc : Chg F w w') (hF : ¬ F b) : MapIs w' b R := h.heap (hc.block b h.lt hF)
theorem MapIs.below {B : Nat} (h : MapIs w b R) (hb : Below B w w') (hlt : b < B) : MapIs w' b R := h.heap (hb.block b hlt)
theorem MapIs.alloc (h : MapIs w b R) (o : Obj) : MapIs (w.alloc o) b R := h.below ((Below.refl w.heap.size w).alloc (Nat.le_refl _) o) h.lt
theorem MapIs.drew (h : MapIs w b R) : MapIs w.drew b R := h.heap rfl
theorem MapIs.setCell (h : MapIs w b R) {a : Addr} (ha : b ≠ a.block) (u : Value) : MapIs (w.setCell a u) b R := h.heap (RowKit.Below.heap_setCell _ _ _ _ ha)
theorem MapIs.made (w : World) : MapIs (w.alloc (.map #[] 0)) w.heap.size [] := ⟨fun r h => (by cases h), [], World.ownsMap_made _ _ _ _, List.Perm.refl _⟩
end
theorem pw_eq {α β : Type} {f : α → β} : ∀ {R : List α}, R.Pairwise (fun r s => f r ≠ f s) → ∀ r ∈ R, ∀ s ∈ R, f r = f s → r = s
  | x :: R, h, r, hr, s, hs, e => by
    obtain ⟨h1, h2⟩ := List.pairwise_cons.1 h
    rcases List.mem_cons.1 hr with rfl | hr'
    · rcases List.mem_cons.1 hs with rfl | hs'
      · rfl
      · exact absurd e (h1 s hs')
    · rcases List.mem_cons.1 hs with rfl | hs'
      · exact absurd e.symm (h1 r hr')
      · exact pw_eq h2 r hr' s hs' e
theorem sameKey_ky {a b : Ky} (ha : wfKy a) (hb : wfKy b) : (kyLit a).sameKey (kyLit b) = sameKy a b := by
  cases h : sameKy a b
  · cases h2 : (kyLit a).sameKey (kyLit b)
    · rfl
    · have := kyLit_inj ha hb (WideAt.sameKey_eq h2)
      rw [(sameKy_iff _ _).2 this] at h
      cases h
  · rw [(sameKy_iff _ _).1 h]
    exact WideAt.sameKey_self (keyed7.key (keyOf_ky hb))
section
variable {w : World} {b : Nat} {R : List Rc} {k : Ky}
theorem asIs_inj {v : Value} {d : Value} {ps : List MemPlace} (h : asIs v = some (.held d, ps)) : v = d := by
  unfold asIs at h
  injection h with h
  injection h with h _
  injection h
theorem chg_of_turned {w' : World} (h : w.mapTurned w' b) : Chg (fun q => q = b) w w' := Chg.of_grown h.grown (fun q hq => by cases hq; rfl)
end
end Go.Proofs.Ytndjoanlbaiaeaa
namespace Go.Proofs.Ytndjoanlbaiaeaa
open Go.RowKit Go.Lib

theorem blk_new07 (w : World) (cs : Array Value) (t : TypeId) (o : Obj) : Blk ((w.alloc (.cells cs t)).alloc o) w.heap.size t cs := (Blk.new w t cs).below ((Below.refl (w.alloc (.cells cs t)).heap.size (w.alloc (.cells cs t))).alloc (Nat.le_refl _) o) (by simp)
theorem own_cell7 {w : World} {base n size g : Nat} {e : TypeId} {c : Nat} {xs : List Value} (ho : w.ownsRow base e size (.slice (some ⟨g, 0, none⟩) n c) n xs) : ∀ j u, xs[j]? = some u → w.cell? ⟨g, 0 + j, none⟩ = some u := by
  intro j u hj
  have h1 := ho.cells (g := g) rfl j u hj
  have e : (⟨g, 0, none⟩ : Addr).add j = ⟨g, 0 + j, none⟩ := by
    cases j with
    | zero => rfl
    | succ j => rfl
  rwa [e] at h1
theorem own_addr7 {w : World} {base n size : Nat} {e : TypeId} {A : Option Addr} {c : Nat} {xs : List Value} (ho : w.ownsRow base e size (.slice A n c) n xs) : (A = none ∧ n = 0 ∧ c = 0) ∨ ∃ g, A = some ⟨g, 0, none⟩ := by
  rcases ho.2 with ⟨hv, hn⟩ | ⟨g, cap, cur, hv, _⟩
  · injection hv with e1 e2 e3
    exact .inl ⟨e1, e2, e3⟩
  · injection hv with e1 e2 e3
    exact .inr ⟨g, e1⟩
theorem own_drew7 {w : World} {base n size : Nat} {e : TypeId} {v : Value} {xs : List Value} (h : w.ownsRow base e size v n xs) : w.drew.ownsRow base e size v n xs := h
theorem infoInt7 : (Try.prog.info? 3).map (fun i => (i.zero, i.size, i.bytes)) = some (some (.int .i64 0), 1, 8) := by kernel_rfl
theorem ints_ones7 (M : List Int) : ∀ u ∈ M.map (Value.int .i64), u.oneCell' = true := by
  intro u hu
  obtain ⟨x, _, rfl⟩ := List.mem_map.1 hu
  rfl
theorem Chg.setCell {F : Nat → Prop} {w w' : World} (h : Chg F w w') (a : Addr) (ha : F a.block) (v : Value) : Chg F w (w'.setCell a v) :=
  h.trans (Chg.of_grown (grown_setCell w' a v) (fun _ hq => by cases hq; exact ha)) (fun _ hq => .inl hq)
theorem Chg.below {F : Nat → Prop} {w w' w'' : World} (h : Chg F w w') (hb : Below w'.heap.size w' w'') : Chg F w w'' := h.trans (Chg.of_below (F := F) hb) (fun _ hq => .inl hq)
end Go.Proofs.Ytndjoanlbaiaeaa
