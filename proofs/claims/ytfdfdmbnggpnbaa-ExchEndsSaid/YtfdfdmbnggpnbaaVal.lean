/- The reference's database in memory: what it holds, on which blocks it hangs, and what its calls make of it. Conditions: none but what the words say. · The reference's database: its calls, as what they make of the list that it holds. Conditions: what the words say; lists of at most 1000 items. · What a database of the program must do, said of any words Dv for 'it lies so in memory'. Conditions: none; it is asked of the program elsewhere. · The library's contracts that the proofs lean on, laid at this program: tables of numbers and facts of the kernel. No conditions. · The order of keys, as the program's compare tells it. No conditions but that a list of three numbers is what Or is handed. · A database's map: what its keys read as; what it holds. No conditions. -/
import Derived.Shelf.SlSortCmp.WholeK
import Derived.Shelf.SlSortCmp.NoneTotal
import Derived.Shelf.SlicesG.Cmp
import Derived.Shelf.SlicesE.Clone
import Derived.Ground.SlsfProg
import Derived.Ground.SlgcProg
import Derived.Ground.SlgnProg
import Derived.Test.YtfdfdmbnggpnbaaChecked
import Derived.Maps.RangeWalk
import Derived.DeepKeys4
import Derived.Test.YtfdfdmbnggpnbaaVak
namespace Go.Proofs.Ytfdfdmbnggpnbaa
open Go.RowKit

/-- Only blocks of F, and new ones, have turned. -/
structure Chg (F : Nat → Prop) (w w' : World) : Prop where
  os : w'.os = w.os
  tape : w'.tape = w.tape
  output : w'.output = w.output
  size : w.heap.size ≤ w'.heap.size
  block : ∀ k, k < w.heap.size → ¬ F k → w'.heap[k]? = w.heap[k]?
section
variable {F F' : Nat → Prop} {w w' w'' : World}
theorem Chg.refl (F : Nat → Prop) (w : World) : Chg F w w := ⟨rfl, rfl, rfl, Nat.le_refl _, fun _ _ _ => rfl⟩
theorem Chg.of_below (h : Below w.heap.size w w') : Chg F w w' := ⟨h.os, h.tape, h.output, h.size, fun k hk _ => h.block k hk⟩
theorem Chg.of_grown {row : Option Nat} (h : w.grownBy w' row) (hr : ∀ k, row = some k → F k) : Chg F w w' := ⟨h.os, h.tape, h.output, h.size, fun k hk hn => h.block k hk (fun e => hn (hr k e.symm))⟩
theorem Chg.to_below {B : Nat} (h : Chg F w w') (hF : ∀ k, F k → B ≤ k) (hB : B ≤ w.heap.size) : Below B w w' := ⟨h.os, h.tape, h.output, h.size, fun k hk => h.block k (by omega) (fun hf => by have := hF k hf; omega)⟩
/-- One change, and another one: F grows by new blocks alone. -/
theorem Chg.trans (h : Chg F w w') (h' : Chg F' w' w'') (hF : ∀ k, F' k → F k ∨ w.heap.size ≤ k) : Chg F w w'' :=
  ⟨h'.os.trans h.os, h'.tape.trans h.tape, h'.output.trans h.output, Nat.le_trans h.size h'.size, fun k hk hn => (h'.block k (Nat.lt_of_lt_of_le hk h.size) (fun hf => by
    rcases hF k hf with h1 | h1
    · exact hn h1
    · omega)).trans (h.block k hk hn)⟩
end
theorem own_chg {F : Nat → Prop} {w w' : World} {b n size : Nat} {t : TypeId} {v : Value} {xs : List Value} (ho : w.ownsRow b t size v n xs) (h : Chg F w w') (hv : ∀ q, v.ownBlock = some q → ¬ F q) : w'.ownsRow b t size v n xs := by
  refine ⟨ho.1, ?_⟩
  rcases ho.2 with hn | ⟨g, cap, cur, rfl, hb, hg, rest⟩
  · exact .inl hn
  · exact .inr ⟨g, cap, cur, rfl, hb, (h.block g (Array.getElem?_eq_some_iff.1 hg).1 (hv g rfl)).trans hg, rest⟩
theorem Blk.chg {F : Nat → Prop} {w w' : World} {g : Nat} {t : TypeId} {cs : Array Value} (hb : Blk w g t cs) (h : Chg F w w') (hF : ¬ F g) : Blk w' g t cs := (h.block g hb.lt hF).trans hb

/-- A description in memory of the call's own. -/
def RcIs (w : World) (lo : Nat) (r : Rc) (x : La) : Prop :=
  r.h = x.h ∧ w.ownsRow lo 130 4 (.slice r.p.a r.p.n r.p.c) r.p.n (lkCells x.L) ∧ x.L.length = r.p.n ∧ w.ownsRow lo 3 1 (.slice r.q.a r.q.n r.q.c) r.q.n (x.M.map (Value.int .i64)) ∧ x.M.length = r.q.n
/-- On which blocks it hangs. -/
def rcFoot (r : Rc) (q : Nat) : Prop := (Value.slice r.p.a r.p.n r.p.c).ownBlock = some q ∨ (Value.slice r.q.a r.q.n r.q.c).ownBlock = some q
theorem RcIs.chg {F : Nat → Prop} {w w' : World} {lo : Nat} {r : Rc} {x : La} (h : RcIs w lo r x) (hc : Chg F w w') (hf : ∀ q, rcFoot r q → ¬ F q) : RcIs w' lo r x :=
  ⟨h.1, own_chg h.2.1 hc (fun q hq => hf q (.inl hq)), h.2.2.1, own_chg h.2.2.2.1 hc (fun q hq => hf q (.inr hq)), h.2.2.2.2⟩
theorem RcIs.mono {w : World} {lo lo' : Nat} {r : Rc} {x : La} (h : RcIs w lo r x) (hl : lo' ≤ lo) : RcIs w lo' r x := ⟨h.1, own_low h.2.1 hl, h.2.2.1, own_low h.2.2.2.1 hl, h.2.2.2.2⟩
/-- Lists of a description lie in no block of a database, and of a list of descriptions. -/
theorem RcIs.apart {w : World} {lo b n : Nat} {r : Rc} {x : La} {v : Value} {xs : List Value} (h : RcIs w lo r x) (ho : w.ownsRow b 78 9 v n xs) {q : Nat} (hq : rcFoot r q) : v.ownBlock ≠ some q := by
  intro e
  rcases hq with hq | hq
  · rcases own_apart ho h.2.1 (by decide) with h1 | h1
    · rw [h1] at hq
      cases hq
    · exact h1 (hq.trans e.symm)
  · rcases own_apart ho h.2.2.2.1 (by decide) with h1 | h1
    · rw [h1] at hq
      cases hq
    · exact h1 (hq.trans e.symm)
theorem own_ne_blk {w : World} {b n size g : Nat} {t t' : TypeId} {v : Value} {xs : List Value} {cs : Array Value} (h : w.ownsRow b t size v n xs) (hB : Blk w g t' cs) (ht : t ≠ t') : v.ownBlock ≠ some g := by
  intro e
  rcases h.2 with ⟨rfl, _⟩ | ⟨q, cap, cur, rfl, _, hg, _⟩
  · cases e
  · injection e with e
    subst e
    have h1 : w.heap[q]? = some (.cells cs t' (0, 0)) := hB
    rw [h1] at hg
    injection hg with hg
    injection hg with _ hg
    exact ht hg.symm
/-- A list of descriptions, read. -/
theorem las_of_own {w : World} {base n c : Nat} {A : Option Addr} {R : List Rc} {S : List La} {lo : Nat} (h : w.ownsRow base 78 9 (.slice A n c) n (rcCells R)) (ha : All2 (RcIs w lo) R S) (hs : ∀ x ∈ S, x.L.length ≤ 1000 ∧ x.M.length ≤ 1000) : Las w w.heap.size A n S := by
  have hl := h.1
  rw [rcCells_length] at hl
  refine ⟨by rw [← ha.1]; omega, fun hn => ?_⟩
  obtain ⟨r0, hr0⟩ : ∃ r, R[0]? = some r := ⟨R[0]'(by omega), List.getElem?_eq_getElem (by omega)⟩
  obtain ⟨b, rfl, -, hb1, -, -, -⟩ := own_rc h hr0
  refine ⟨b, 0, rfl, hb1, fun j x hx => ?_⟩
  obtain ⟨r, hr, hp⟩ := ha.at' hx
  obtain ⟨b', e', -, -, -, -, hat⟩ := own_rc h hr
  injection e' with e'
  injection e' with e'
  subst e'
  rw [Nat.zero_add]
  obtain ⟨k0, k1, k2, k3, k4, k5, k6, k7, k8⟩ := hat.nine
  obtain ⟨A1, c1, e1, h1, h2, h3⟩ := lnk_of_own hp.2.1 hp.2.2.1
  injection e1 with e1 _ e2
  subst e1 e2
  obtain ⟨A2, c2, e3, h4, h5, h6⟩ := row_of_ints hp.2.2.2.1 hp.2.2.2.2
  injection e3 with e3 _ e4
  subst e3 e4
  rw [hp.1] at k0 k1 k2 k3 k4 k5 k6
  have hb := hs x (List.mem_of_getElem? hx)
  have e5 := hp.2.2.1
  have e6 := hp.2.2.2.2
  exact ⟨⟨k0, k1, k2, k3, k4, k5, k6⟩, r.p.a, r.p.n, r.p.c, r.q.a, r.q.n, r.q.c, k7, k8, h3, h6, by unfold maxLen; omega, by unfold maxLen; omega⟩

end Go.Proofs.Ytfdfdmbnggpnbaa
namespace Go.Proofs.Ytfdfdmbnggpnbaa
open Go.RowKit

/-- Block g is a database of so much room that holds S, and hangs on the blocks of F alone, all from lo on. -/
def RefDb (w : World) (lo g : Nat) (room : Int) (S : List La) (F : Nat → Prop) : Prop :=
  ∃ (A : Option Addr) (n c : Nat) (R : List Rc), Blk w g 41 #[.slice A n c, .int .i64 room] ∧ lo ≤ g ∧ w.ownsRow lo 78 9 (.slice A n c) n (rcCells R) ∧ All2 (RcIs w lo) R S ∧ SortL S ∧ (S.length : Int) ≤ room ∧ room ≤ 40 ∧ (∀ x ∈ S, rightB x.h x.L x.M = true) ∧
    (∀ q, F q ↔ q = g ∨ (Value.slice A n c).ownBlock = some q ∨ ∃ r ∈ R, rcFoot r q)
theorem all2_imp {α β : Type} {P Q : α → β → Prop} {R : List α} {S : List β} (h : All2 P R S) (hi : ∀ r ∈ R, ∀ x, P r x → Q r x) : All2 Q R S := ⟨h.1, fun j r x h1 h2 => hi r (List.mem_of_getElem? h1) x (h.2 j r x h1 h2)⟩
theorem RefDb.chg {w w' : World} {lo g : Nat} {room : Int} {S : List La} {F F' : Nat → Prop} (h : RefDb w lo g room S F) (hc : Chg F' w w') (hd : ∀ q, F q → ¬ F' q) : RefDb w' lo g room S F := by
  obtain ⟨A, n, c, R, hB, hlo, hO, hA, h1, h2, h3, h4, hF⟩ := h
  exact ⟨A, n, c, R, hB.chg hc (hd g ((hF g).2 (.inl rfl))), hlo, own_chg hO hc (fun q hq => hd q ((hF q).2 (.inr (.inl hq)))), all2_imp hA (fun r hr x hx => hx.chg hc (fun q hq => hd q ((hF q).2 (.inr (.inr ⟨r, hr, hq⟩))))), h1, h2, h3, h4, hF⟩
theorem right_short {x : La} (h : rightB x.h x.L x.M = true) : x.L.length ≤ 1000 ∧ x.M.length ≤ 1000 := by
  obtain ⟨_, h2, _, _, _, h6, h7⟩ := right_facts h
  by_cases hk : x.h.kind = 1
  · obtain ⟨e1, e2, _⟩ := h6 hk
    rw [e1]
    exact ⟨by omega, by simp⟩
  · obtain ⟨e1, e2⟩ := h7 (by omega)
    have := rise_len x.M 0 e2 (by omega)
    rw [e1]
    exact ⟨by simp, by omega⟩
/-- The list that it holds, read. -/
theorem RefDb.list {w : World} {lo g : Nat} {room : Int} {S : List La} {F : Nat → Prop} (h : RefDb w lo g room S F) : ∃ (A : Option Addr) (n c : Nat), Blk w g 41 #[.slice A n c, .int .i64 room] ∧ Las w w.heap.size A n S ∧ n ≤ 40 := by
  obtain ⟨A, n, c, R, hB, hlo, hO, hA, h1, h2, h3, h4, hF⟩ := h
  have hl := hO.1
  rw [rcCells_length] at hl
  have := hA.1
  exact ⟨A, n, c, hB, las_of_own hO hA (fun x hx => right_short (h4 x hx)), by omega⟩

end Go.Proofs.Ytfdfdmbnggpnbaa
namespace Go.Proofs.Ytfdfdmbnggpnbaa
open Go.RowKit

/-- A key of three numbers of 64 bits. -/
def wfKy (k : Ky) : Prop := (-9223372036854775808 ≤ k.kind ∧ k.kind ≤ 9223372036854775807) ∧ (-9223372036854775808 ≤ k.id ∧ k.id ≤ 9223372036854775807) ∧ (-9223372036854775808 ≤ k.adv ∧ k.adv ≤ 9223372036854775807)
end Go.Proofs.Ytfdfdmbnggpnbaa
namespace Go.Proofs.Ytfdfdmbnggpnbaa
open Go.Shelf
def cmpInt7_ren : Go.Shelf.Ren := ⟨fun | 5 => 79 | 7 => 111 | n => n, fun | 22 => 3 | 3 => 3 | 4 => 4 | n => n, fun | n => n⟩
theorem cmpInt7 : Go.Proofs.SlLaysC2.n5 Try.prog cmpInt7_ren := {
  mixed := by kernel_rfl
  f5 := ⟨Try.f79.name, by decide, Try.func79.trans (congrArg some (by kernel_rfl))⟩
  f7 := ⟨Try.f111.name, by decide, Try.func111.trans (congrArg some (by kernel_rfl))⟩
  t3 := Try.underlying3
  a3 := Try.isAgg3
  z3 := Try.sizeOf3
  v3 := Try.zeroValue3
  t4 := Try.underlying4
  a4 := Try.isAgg4
  z4 := Try.sizeOf4
  v4 := Try.zeroValue4
  t22 := Try.underlying3
  a22 := Try.isAgg3
  z22 := Try.sizeOf3
  v22 := Try.zeroValue3 }
def insHd7_ren : Go.Shelf.Ren := ⟨fun | 20 => 88 | n => n, fun | 24 => 43 | 22 => 27 | 3 => 3 | 25 => 81 | 4 => 4 | 0 => 0 | n => n, fun | n => n⟩
theorem insHd7 : Go.Proofs.SlLaysF0.n20 Try.prog insHd7_ren := {
  mixed := by kernel_rfl
  f20 := ⟨Try.f88.name, by decide, Try.func88.trans (congrArg some (by kernel_rfl))⟩
  t0 := Try.underlying0
  a0 := Try.isAgg0
  z0 := Try.sizeOf0
  v0 := Try.zeroValue0
  t3 := Try.underlying3
  a3 := Try.isAgg3
  z3 := Try.sizeOf3
  v3 := Try.zeroValue3
  t4 := Try.underlying4
  a4 := Try.isAgg4
  z4 := Try.sizeOf4
  v4 := Try.zeroValue4
  t22 := Try.underlying27
  a22 := Try.isAgg27
  z22 := Try.sizeOf27
  v22 := Try.zeroValue27
  t25 := Try.underlying81
  a25 := Try.isAgg81
  z25 := Try.sizeOf81
  v25 := Try.zeroValue81 }
end Go.Proofs.Ytfdfdmbnggpnbaa
namespace Go.Proofs.Ytfdfdmbnggpnbaa
open Go.RowKit Go.Shelf Go.Lib

theorem cmp7 (x y : Int) (w : World) : Calls Try.prog 79 #[.int .i64 x, .int .i64 y] w fun e w' => e = .returned (.int .i64 (Lib.compareInt x y)) ∧ w' = w :=
  AnyG.cmp_Compare_int cmpInt7 x y w
/-- The first number but 0. -/
def orI (a b : Int) : Int := if a = 0 then b else a
set_option maxHeartbeats 2000000 in
theorem or7 (c1 c2 c3 : Int) (g : Nat) (w : World) (h0 : w.cell? ⟨g, 0, none⟩ = some (.int .i64 c1)) (h1 : w.cell? ⟨g, 1, none⟩ = some (.int .i64 c2)) (h2 : w.cell? ⟨g, 2, none⟩ = some (.int .i64 c3)) :
    Calls Try.prog 78 #[.slice (some ⟨g, 0, none⟩) 3 3] w fun e w' => e = .returned (.int .i64 (orI c1 (orI c2 c3))) ∧ w' = w := by
  go_enter Try.func78, Try.ntmps78
  go_wp2
  refine wp_loop_rounds 4 ?_
  rw [rounds_succ]
  by_cases e1 : c1 = 0
  · subst e1
    go_wp2
    rw [rounds_succ]
    by_cases e2 : c2 = 0
    · subst e2
      go_wp2
      rw [rounds_succ]
      by_cases e3 : c3 = 0
      · subst e3
        go_wp2
        rw [rounds_succ]
        go_wp2
        go_ret
        exact ⟨rfl, rfl⟩
      · have e4 : (c3 == 0) = false := by simpa using e3
        go_wp2
        go_ret
        simp [orI]
    · have e4 : (c2 == 0) = false := by simpa using e2
      go_wp2
      go_ret
      simp [orI, e2]
  · have e4 : (c1 == 0) = false := by simpa using e1
    go_wp2
    go_ret
    simp [orI, e1]
/-- The order of keys. -/
def cmpK (a b : Ky) : Int := orI (Lib.compareInt a.kind b.kind) (orI (Lib.compareInt a.id b.id) (Lib.compareInt a.adv b.adv))
theorem compareInt_cases (x y : Int) : (x < y ∧ Lib.compareInt x y = -1) ∨ (x = y ∧ Lib.compareInt x y = 0) ∨ (y < x ∧ Lib.compareInt x y = 1) := by
  unfold Lib.compareInt
  by_cases h1 : x < y
  · simp [h1]
  · by_cases h2 : y < x
    · simp [h1, h2]
    · have : x = y := by omega
      subst this
      simp
theorem cmpK_less (a b : Ky) : decide (cmpK a b < 0) = lessKy a b := by
  have h := lessKy_iff a b
  have : cmpK a b < 0 ↔ lessKy a b = true := by
    rw [h]
    unfold cmpK orI
    rcases compareInt_cases a.kind b.kind with ⟨k1, k2⟩ | ⟨k1, k2⟩ | ⟨k1, k2⟩ <;> rw [k2] <;>
    rcases compareInt_cases a.id b.id with ⟨i1, i2⟩ | ⟨i1, i2⟩ | ⟨i1, i2⟩ <;> rw [i2] <;>
    rcases compareInt_cases a.adv b.adv with ⟨d1, d2⟩ | ⟨d1, d2⟩ | ⟨d1, d2⟩ <;> rw [d2] <;> simp <;> omega
  cases hl : lessKy a b
  · rw [decide_eq_false_iff_not, this, hl]
    decide
  · rw [decide_eq_true_iff, this, hl]
end Go.Proofs.Ytfdfdmbnggpnbaa
namespace Go.Proofs.Ytfdfdmbnggpnbaa
open Go.RowKit
open Go.Maps (Keyed)

theorem laidOut7 : laidOutB Try.prog = true := by kernel_rfl
theorem key_row7 : (86 : TypeId) < Try.prog.types.size := of_decide_eq_true (by kernel_rfl)
theorem key_at7 : Try.prog.keyTypeAt 2 86 = true := by kernel_rfl
theorem keyed7 : Keyed Try.prog 86 := Keyed.of_law (deep_law_laid laidOut7 (m := 2) (by omega) key_row7 key_at7 (by rw [Try.underlying86]))
theorem succ_of_lt7 {a b : Nat} (h : a < b) : ∃ n, b = n + 1 := ⟨b - 1, by omega⟩
theorem size7 : ∃ n, Try.prog.types.size = n + 1 := succ_of_lt7 key_row7
theorem cells_key7 : Try.prog.cellsOf 86 = 3 := by kernel_rfl
theorem cells_int7 : Try.prog.cellsOf 3 = 1 := by kernel_rfl
theorem keyType7 : Try.prog.keyType 86 = true := by kernel_rfl
/-- What a key reads as. -/
def kyLit (k : Ky) : Lit := .string (keyBytes [.int .i64 k.kind, .int .i64 k.id, .int .i64 k.adv])
theorem wf_i64_iff (a : Int) : (Lit.int .i64 a).wf = true ↔ -9223372036854775808 ≤ a ∧ a ≤ 9223372036854775807 := by
  constructor
  · intro h
    simp [Lit.wf, IntKind.min, IntKind.max, IntKind.signed, IntKind.bits] at h
    omega
  · rintro ⟨h1, h2⟩
    simp [Lit.wf, IntKind.min, IntKind.max, IntKind.signed, IntKind.bits]
    omega
theorem keyLits7 (n : Nat) {a b c : Int} (ha : (Lit.int .i64 a).wf = true) (hb : (Lit.int .i64 b).wf = true) (hc : (Lit.int .i64 c).wf = true) :
    Try.prog.keyLits (n + 1 + 1) 86 [.int .i64 a, .int .i64 b, .int .i64 c] = some [.int .i64 a, .int .i64 b, .int .i64 c] := by
  simp [Program.keyLits, Try.underlying86, cells_key7, cells_int7, ha, hb, hc]
theorem keyOf_ky {k : Ky} (h : wfKy k) : keyOf Try.prog 86 (.agg #[.int .i64 k.kind, .int .i64 k.id, .int .i64 k.adv]) = some (kyLit k) := by
  obtain ⟨h1, h2, h3⟩ := h
  obtain ⟨n, hn⟩ := size7
  have e := keyLits7 n ((wf_i64_iff _).2 h1) ((wf_i64_iff _).2 h2) ((wf_i64_iff _).2 h3)
  simp [keyOf, Try.underlying86, keyType7, Value.formed, cells_key7, Value.cells, hn, e, kyLit]
theorem kyLit_inj {a b : Ky} (ha : wfKy a) (hb : wfKy b) (h : kyLit a = kyLit b) : a = b := by
  have e1 := keyOf_ky ha
  rw [h] at e1
  have := keyed7.inj e1 (keyOf_ky hb)
  obtain ⟨a1, a2, a3⟩ := a
  obtain ⟨b1, b2, b3⟩ := b
  simp at this
  simp [this]
end Go.Proofs.Ytfdfdmbnggpnbaa
