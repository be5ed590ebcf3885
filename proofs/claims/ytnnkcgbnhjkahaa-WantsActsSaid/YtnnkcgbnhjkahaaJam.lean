/- The reference's database in memory: what it holds, on which blocks it hangs, and what its calls make of it. Conditions: none but what the words say. · The reference's database: its calls, as what they make of the list that it holds. Conditions: what the words say; lists of at most 1000 items. · The reference's database: Tick and Put, as what they make of the list that it holds. Conditions: what the words say. · What a database of the program must do, said of any words Dv for 'it lies so in memory'. Conditions: none; it is asked of the program elsewhere. · The library's contracts that the proofs lean on, laid at this program: tables of numbers and facts of the kernel. No conditions. · A database's map: what its keys read as; what it holds. No conditions. -/
import Derived.Shelf.SlSortCmp.WholeK
import Derived.Shelf.SlSortCmp.NoneTotal
import Derived.Shelf.SlicesG.Cmp
import Derived.Shelf.SlicesE.Clone
import Derived.Ground.SlsfProg
import Derived.Ground.SlgcProg
import Derived.Ground.SlgnProg
import Derived.Test.YtnnkcgbnhjkahaaChecked
import Derived.Maps.RangeWalk
import Derived.DeepKeys4
import Derived.Test.YtnnkcgbnhjkahaaJal
namespace Go.Proofs.Ytnnkcgbnhjkahaa
open Go.RowKit

/-- Only blocks of F, and new ones, have turned. -/
structure Chg (F : Nat → Prop) (w w' : World) : Prop where
  os : w'.os = w.os
  tape : w'.tape = w.tape
  output : w'.output = w.output
  size : w.heap.size ≤ w'.heap.size
  block : ∀ k, k < w.heap.size → ¬ F k → w'.heap[k]? = w.heap[k]?
section
variable {F F' : Nat → Prop} {w w' w'' : World}
theorem Chg.refl (F : Nat → Prop) (w : World) : Chg F w w := ⟨rfl, rfl, rfl, Nat.le_refl _, fun _ _ _ => rfl⟩
theorem Chg.of_below (h : Below w.heap.size w w') : Chg F w w' := ⟨h.os, h.tape, h.output, h.size, fun k hk _ => h.block k hk⟩
theorem Chg.of_grown {row : Option Nat} (h : w.grownBy w' row) (hr : ∀ k, row = some k → F k) : Chg F w w' := ⟨h.os, h.tape, h.output, h.size, fun k hk hn => h.block k hk (fun e => hn (hr k e.symm))⟩
theorem Chg.to_below {B : Nat} (h : Chg F w w') (hF : ∀ k, F k → B ≤ k) (hB : B ≤ w.heap.size) : Below B w w' := ⟨h.os, h.tape, h.output, h.size, fun k hk => h.block k (by omega) (fun hf => by have := hF k hf; omega)⟩
/-- One change, and another one: F grows by new blocks alone. -/
theorem Chg.trans (h : Chg F w w') (h' : Chg F' w' w'') (hF : ∀ k, F' k → F k ∨ w.heap.size ≤ k) : Chg F w w'' :=
  ⟨h'.os.trans h.os, h'.tape.trans h.tape, h'.output.trans h.output, Nat.le_trans h.size h'.size, fun k hk hn => (h'.block k (Nat.lt_of_lt_of_le hk h.size) (fun hf => by
    rcases hF k hf with h1 | h1
    · exact hn h1
    · omega)).trans (h.block k hk hn)⟩
end
theorem own_chg {F : Nat → Prop} {w w' : World} {b n size : Nat} {t : TypeId} {v : Value} {xs : List Value} (ho : w.ownsRow b t size v n xs) (h : Chg F w w') (hv : ∀ q, v.ownBlock = some q → ¬ F q) : w'.ownsRow b t size v n xs := by
  refine ⟨ho.1, ?_⟩
  rcases ho.2 with hn | ⟨g, cap, cur, rfl, hb, hg, rest⟩
  · exact .inl hn
  · exact .inr ⟨g, cap, cur, rfl, hb, (h.block g (Array.getElem?_eq_some_iff.1 hg).1 (hv g rfl)).trans hg, rest⟩
theorem Blk.chg {F : Nat → Prop} {w w' : World} {g : Nat} {t : TypeId} {cs : Array Value} (hb : Blk w g t cs) (h : Chg F w w') (hF : ¬ F g) : Blk w' g t cs := (h.block g hb.lt hF).trans hb

/-- A description in memory of the call's own. -/
def RcIs (w : World) (lo : Nat) (r : Rc) (x : La) : Prop :=
  r.h = x.h ∧ w.ownsRow lo 96 4 (.slice r.p.a r.p.n r.p.c) r.p.n (lkCells x.L) ∧ x.L.length = r.p.n ∧ w.ownsRow lo 3 1 (.slice r.q.a r.q.n r.q.c) r.q.n (x.M.map (Value.int .i64)) ∧ x.M.length = r.q.n
/-- On which blocks it hangs. -/
def rcFoot (r : Rc) (q : Nat) : Prop := (Value.slice r.p.a r.p.n r.p.c).ownBlock = some q ∨ (Value.slice r.q.a r.q.n r.q.c).ownBlock = some q
theorem RcIs.chg {F : Nat → Prop} {w w' : World} {lo : Nat} {r : Rc} {x : La} (h : RcIs w lo r x) (hc : Chg F w w') (hf : ∀ q, rcFoot r q → ¬ F q) : RcIs w' lo r x :=
  ⟨h.1, own_chg h.2.1 hc (fun q hq => hf q (.inl hq)), h.2.2.1, own_chg h.2.2.2.1 hc (fun q hq => hf q (.inr hq)), h.2.2.2.2⟩
theorem RcIs.foot {w : World} {lo : Nat} {r : Rc} {x : La} (h : RcIs w lo r x) {q : Nat} (hq : rcFoot r q) : lo ≤ q ∧ q < w.heap.size := by
  rcases hq with hq | hq
  · exact h.2.1.lt q hq
  · exact h.2.2.2.1.lt q hq
theorem RcIs.mono {w : World} {lo lo' : Nat} {r : Rc} {x : La} (h : RcIs w lo r x) (hl : lo' ≤ lo) : RcIs w lo' r x := ⟨h.1, own_low h.2.1 hl, h.2.2.1, own_low h.2.2.2.1 hl, h.2.2.2.2⟩
/-- Lists of a description lie in no block of a database, and of a list of descriptions. -/
theorem RcIs.apart {w : World} {lo b n : Nat} {r : Rc} {x : La} {v : Value} {xs : List Value} (h : RcIs w lo r x) (ho : w.ownsRow b 62 9 v n xs) {q : Nat} (hq : rcFoot r q) : v.ownBlock ≠ some q := by
  intro e
  rcases hq with hq | hq
  · rcases own_apart ho h.2.1 (by decide) with h1 | h1
    · rw [h1] at hq
      cases hq
    · exact h1 (hq.trans e.symm)
  · rcases own_apart ho h.2.2.2.1 (by decide) with h1 | h1
    · rw [h1] at hq
      cases hq
    · exact h1 (hq.trans e.symm)
theorem own_ne_blk {w : World} {b n size g : Nat} {t t' : TypeId} {v : Value} {xs : List Value} {cs : Array Value} (h : w.ownsRow b t size v n xs) (hB : Blk w g t' cs) (ht : t ≠ t') : v.ownBlock ≠ some g := by
  intro e
  rcases h.2 with ⟨rfl, _⟩ | ⟨q, cap, cur, rfl, _, hg, _⟩
  · cases e
  · injection e with e
    subst e
    have h1 : w.heap[q]? = some (.cells cs t' (0, 0)) := hB
    rw [h1] at hg
    injection hg with hg
    injection hg with _ hg
    exact ht hg.symm
theorem RcIs.ne_db {w : World} {lo g : Nat} {r : Rc} {x : La} {cs : Array Value} (h : RcIs w lo r x) (hB : Blk w g 68 cs) {q : Nat} (hq : rcFoot r q) : q ≠ g := by
  rintro rfl
  rcases hq with hq | hq
  · exact own_ne_blk h.2.1 hB (by decide) hq
  · exact own_ne_blk h.2.2.2.1 hB (by decide) hq
/-- A list of descriptions, read. -/
theorem las_of_own {w : World} {base n c : Nat} {A : Option Addr} {R : List Rc} {S : List La} {lo : Nat} (h : w.ownsRow base 62 9 (.slice A n c) n (rcCells R)) (ha : All2 (RcIs w lo) R S) (hs : ∀ x ∈ S, x.L.length ≤ 1000 ∧ x.M.length ≤ 1000) : Las w w.heap.size A n S := by
  have hl := h.1
  rw [rcCells_length] at hl
  refine ⟨by rw [← ha.1]; omega, fun hn => ?_⟩
  obtain ⟨r0, hr0⟩ : ∃ r, R[0]? = some r := ⟨R[0]'(by omega), List.getElem?_eq_getElem (by omega)⟩
  obtain ⟨b, rfl, -, hb1, -, -, -⟩ := own_rc h hr0
  refine ⟨b, 0, rfl, hb1, fun j x hx => ?_⟩
  obtain ⟨r, hr, hp⟩ := ha.at' hx
  obtain ⟨b', e', -, -, -, -, hat⟩ := own_rc h hr
  injection e' with e'
  injection e' with e'
  subst e'
  rw [Nat.zero_add]
  obtain ⟨k0, k1, k2, k3, k4, k5, k6, k7, k8⟩ := hat.nine
  obtain ⟨A1, c1, e1, h1, h2, h3⟩ := lnk_of_own hp.2.1 hp.2.2.1
  injection e1 with e1 _ e2
  subst e1 e2
  obtain ⟨A2, c2, e3, h4, h5, h6⟩ := row_of_ints hp.2.2.2.1 hp.2.2.2.2
  injection e3 with e3 _ e4
  subst e3 e4
  rw [hp.1] at k0 k1 k2 k3 k4 k5 k6
  have hb := hs x (List.mem_of_getElem? hx)
  have e5 := hp.2.2.1
  have e6 := hp.2.2.2.2
  exact ⟨⟨k0, k1, k2, k3, k4, k5, k6⟩, r.p.a, r.p.n, r.p.c, r.q.a, r.q.n, r.q.c, k7, k8, h3, h6, by unfold maxLen; omega, by unfold maxLen; omega⟩

/-- Right descriptions: their lists are short, their ages from 0 to 60; sealed, or a tick on, they are right. -/
theorem right_other (a k i v s x y x' y' : Int) (L : List Lk) (M : List Int) : rightB ⟨a, k, i, v, s, x, y⟩ L M = rightB ⟨a, k, i, v, s, x', y'⟩ L M := rfl
theorem right_seal {h : Hd} {L : List Lk} {M : List Int} : rightB (sealHd h L M) L M = rightB h L M := by
  obtain ⟨a, k, i, v, s, x, y⟩ := h
  exact right_other a k i v s _ _ x y L M
theorem right_age {x : La} (h : rightB x.h x.L x.M = true) : 0 ≤ x.h.age ∧ x.h.age ≤ 60 := (right_facts h).1
end Go.Proofs.Ytnnkcgbnhjkahaa
namespace Go.Proofs.Ytnnkcgbnhjkahaa
open Go.RowKit

/-- Block g is a database of so much room that holds S, and hangs on the blocks of F alone, all from lo on. -/
def RefDb (w : World) (lo g : Nat) (room : Int) (S : List La) (F : Nat → Prop) : Prop :=
  ∃ (A : Option Addr) (n c : Nat) (R : List Rc), Blk w g 68 #[.slice A n c, .int .i64 room] ∧ lo ≤ g ∧ w.ownsRow lo 62 9 (.slice A n c) n (rcCells R) ∧ All2 (RcIs w lo) R S ∧ SortL S ∧ (S.length : Int) ≤ room ∧ room ≤ 40 ∧ (∀ x ∈ S, rightB x.h x.L x.M = true) ∧
    (∀ q, F q ↔ q = g ∨ (Value.slice A n c).ownBlock = some q ∨ ∃ r ∈ R, rcFoot r q)
theorem all2_mem {α β : Type} {P : α → β → Prop} {R : List α} {S : List β} (h : All2 P R S) {r : α} (hr : r ∈ R) : ∃ x ∈ S, P r x := by
  obtain ⟨j, hj⟩ := List.getElem?_of_mem hr
  obtain ⟨x, hx, hp⟩ := h.at hj
  exact ⟨x, List.mem_of_getElem? hx, hp⟩
theorem all2_imp {α β : Type} {P Q : α → β → Prop} {R : List α} {S : List β} (h : All2 P R S) (hi : ∀ r ∈ R, ∀ x, P r x → Q r x) : All2 Q R S := ⟨h.1, fun j r x h1 h2 => hi r (List.mem_of_getElem? h1) x (h.2 j r x h1 h2)⟩
theorem RefDb.foot {w : World} {lo g : Nat} {room : Int} {S : List La} {F : Nat → Prop} (h : RefDb w lo g room S F) {q : Nat} (hq : F q) : lo ≤ q ∧ q < w.heap.size := by
  obtain ⟨A, n, c, R, hB, hlo, hO, hA, -, -, -, -, hF⟩ := h
  rcases (hF q).1 hq with rfl | h1 | ⟨r, hr, h1⟩
  · exact ⟨hlo, hB.lt⟩
  · exact hO.lt q h1
  · obtain ⟨x, _, hx⟩ := all2_mem hA hr
    exact hx.foot h1
theorem RefDb.chg {w w' : World} {lo g : Nat} {room : Int} {S : List La} {F F' : Nat → Prop} (h : RefDb w lo g room S F) (hc : Chg F' w w') (hd : ∀ q, F q → ¬ F' q) : RefDb w' lo g room S F := by
  obtain ⟨A, n, c, R, hB, hlo, hO, hA, h1, h2, h3, h4, hF⟩ := h
  exact ⟨A, n, c, R, hB.chg hc (hd g ((hF g).2 (.inl rfl))), hlo, own_chg hO hc (fun q hq => hd q ((hF q).2 (.inr (.inl hq)))), all2_imp hA (fun r hr x hx => hx.chg hc (fun q hq => hd q ((hF q).2 (.inr (.inr ⟨r, hr, hq⟩))))), h1, h2, h3, h4, hF⟩
theorem right_short {x : La} (h : rightB x.h x.L x.M = true) : x.L.length ≤ 1000 ∧ x.M.length ≤ 1000 := by
  obtain ⟨_, h2, _, _, _, h6, h7⟩ := right_facts h
  by_cases hk : x.h.kind = 1
  · obtain ⟨e1, e2, _⟩ := h6 hk
    rw [e1]
    exact ⟨by omega, by simp⟩
  · obtain ⟨e1, e2⟩ := h7 (by omega)
    have := rise_len x.M 0 e2 (by omega)
    rw [e1]
    exact ⟨by simp, by omega⟩
/-- The list that it holds, read. -/
theorem RefDb.list {w : World} {lo g : Nat} {room : Int} {S : List La} {F : Nat → Prop} (h : RefDb w lo g room S F) : ∃ (A : Option Addr) (n c : Nat), Blk w g 68 #[.slice A n c, .int .i64 room] ∧ Las w w.heap.size A n S ∧ n ≤ 40 := by
  obtain ⟨A, n, c, R, hB, hlo, hO, hA, h1, h2, h3, h4, hF⟩ := h
  have hl := hO.1
  rw [rcCells_length] at hl
  have := hA.1
  exact ⟨A, n, c, hB, las_of_own hO hA (fun x hx => right_short (h4 x hx)), by omega⟩

theorem r7New_db (r : Int) (w : World) : Calls Try.prog 27 #[.int .i64 r] w
    fun e w' => e = .returned (.pointer (some ⟨w.heap.size, 0, none⟩)) ∧ Below w.heap.size w w' ∧ ∃ F, RefDb w' w.heap.size w.heap.size (roomOf r) [] F := by
  refine (r7new_any r w).mono ?_
  rintro e w' ⟨rfl, hB, hb⟩
  refine ⟨rfl, hb, fun q => q = w.heap.size, none, 0, 0, [], hB, Nat.le_refl _, World.ownsRow_nil _ _ _ _, All2.nil, List.Pairwise.nil, by have := roomOf_bd r; simp; omega, (roomOf_bd r).2, fun x hx => (by cases hx), fun q => ?_⟩
  simp [Value.ownBlock]

theorem r7Find_db {w : World} {lo g : Nat} {room : Int} {S : List La} {F : Nat → Prop} (h : RefDb w lo g room S F) (k : Ky) : Calls Try.prog 31 #[.pointer (some ⟨g, 0, none⟩), .agg #[.int .i64 k.kind, .int .i64 k.id, .int .i64 k.adv]] w
    fun e w' => ∃ v : Int, e = .returned (.int .i64 v) ∧ Below w.heap.size w w' ∧ ((getL S k = none ∧ v = -1) ∨ ∃ (j : Nat) (x : La), getL S k = some x ∧ v = (j : Int) ∧ S[j]? = some x) := by
  obtain ⟨A, n, c, R, hB, hlo, hO, hA, h1, h2, h3, h4, hF⟩ := h
  have hl := hO.1
  rw [rcCells_length] at hl
  have := hA.1
  refine (r7find_any g A n c room R k lo w hB hO (by omega)).mono ?_
  rintro e w' ⟨rfl, hb⟩
  refine ⟨_, rfl, hb, ?_⟩
  rcases all2_find (fun r x hp => hp.1) hA h1 k with ⟨e1, e2⟩ | ⟨j, r, x, e1, e2, e3, e4, _⟩
  · exact .inl ⟨e1, e2⟩
  · exact .inr ⟨j, x, e1, e2, e4⟩
theorem mem_dropI {R : List Rc} {i : Int} {r : Rc} (h : r ∈ dropI R i) : r ∈ R := by
  unfold dropI at h
  split at h
  · exact h
  · exact List.mem_of_mem_eraseIdx h
theorem mem_insR {k : Ky} {x r : Rc} : ∀ {R : List Rc}, r ∈ insR k x R → r = x ∨ r ∈ R
  | [], h => by simpa [insR] using h
  | y :: R, h => by
    unfold insR at h
    split at h
    · rcases List.mem_cons.1 h with h | h
      · exact .inl h
      · exact .inr h
    · rcases List.mem_cons.1 h with h | h
      · exact .inr (by simp [h])
      · rcases mem_insR h with h | h
        · exact .inl h
        · exact .inr (by simp [h])
theorem getL_some_iff {R : List Rc} {S : List La} {w : World} {lo : Nat} (hA : All2 (RcIs w lo) R S) (hs : SortL S) (k : Ky) : decide (0 ≤ findR R k) = (getL S k).isSome := by
  rcases all2_find (fun r x hp => hp.1) hA hs k with ⟨e1, e2⟩ | ⟨j, r, x, e1, e2, e3, e4, _⟩
  · rw [e1, e2]
    rfl
  · rw [e1, e2]
    simp
theorem dropL_length (S : List La) (k : Ky) : (dropL S k).length ≤ S.length := List.length_filter_le _ _
theorem r7Drop_db {w : World} {lo g : Nat} {room : Int} {S : List La} {F : Nat → Prop} (h : RefDb w lo g room S F) (hlo : lo ≤ w.heap.size) (k : Ky) : Calls Try.prog 47 #[.pointer (some ⟨g, 0, none⟩), .agg #[.int .i64 k.kind, .int .i64 k.id, .int .i64 k.adv]] w
    fun e w' => e = .returned (.bool (getL S k).isSome) ∧ ∃ F', RefDb w' lo g room (dropL S k) F' ∧ Chg F w w' ∧ ∀ q, F' q → F q ∨ w.heap.size ≤ q := by
  obtain ⟨A, n, c, R, hB, hlg, hO, hA, h1, h2, h3, h4, hF⟩ := h
  have hl := hO.1
  rw [rcCells_length] at hl
  have hln := hA.1
  refine (r7drop_any g A n c room R k lo w hB hO (by omega)).mono ?_
  rintro e w' ⟨rfl, A', n', c', hB', hO', hg⟩
  have hcg : Chg (fun q => q = g) w w' := Chg.of_grown hg (fun q hq => by injection hq with hq; exact hq.symm)
  have hA' : All2 (RcIs w' lo) R S := all2_imp hA (fun r hr x hx => hx.chg hcg (fun q hq e => hx.ne_db hB hq e))
  refine ⟨by rw [getL_some_iff hA h1], fun q => q = g ∨ (Value.slice A' n' c').ownBlock = some q ∨ ∃ r ∈ dropI R (findR R k), rcFoot r q, ⟨A', n', c', _, hB', hlg, own_low hO' hlo, all2_drop (fun r x hp => hp.1) hA' h1 k, sort_drop h1 k, by have := dropL_length S k; omega, h3, fun x hx => h4 x (mem_drop.1 hx).1, fun q => Iff.rfl⟩, ⟨hcg.os, hcg.tape, hcg.output, hcg.size, fun q hq hn => hcg.block q hq (fun e => hn ((hF q).2 (.inl e)))⟩, fun q hq => ?_⟩
  rcases hq with hq | hq | ⟨r, hr, hq⟩
  · exact .inl ((hF q).2 (.inl hq))
  · exact .inr (hO'.lt q hq).1
  · exact .inl ((hF q).2 (.inr (.inr ⟨r, mem_dropI hr, hq⟩)))
end Go.Proofs.Ytnnkcgbnhjkahaa
namespace Go.Proofs.Ytnnkcgbnhjkahaa
open Go.RowKit

/-- The keys of those that come to be 60. -/
def tickKeysL (S : List La) : List Ky := (S.filter fun x => decide (x.h.age = 59)).map kyL
theorem all2_keys {P : Rc → La → Prop} (hk : ∀ r x, P r x → r.h = x.h) : ∀ {R : List Rc} {S : List La}, All2 P R S → tickKeys R = tickKeysL S
  | [], [], _ => rfl
  | [], y :: S, h => by have := h.1; simp at this
  | r :: R, [], h => by have := h.1; simp at this
  | r :: R, y :: S, h => by
    have ih := all2_keys hk h.head.2
    have e := hk _ _ h.head.1
    unfold tickKeys tickKeysL at ih ⊢
    rw [List.filter_cons, List.filter_cons, e]
    split
    · rw [List.map_cons, List.map_cons, ih, e]
      rfl
    · exact ih
theorem kyCells_at (K : List Ky) : ∀ (j : Nat) (k : Ky), K[j]? = some k → ∀ i, i < 3 → (kyCells K)[j * 3 + i]? = [Value.int .i64 k.kind, .int .i64 k.id, .int .i64 k.adv][i]? := by
  induction K with
  | nil => intro j h hx; simp at hx
  | cons x l ih =>
    intro j h hx i hi
    rw [kyCells_cons]
    cases j with
    | zero =>
      simp at hx
      subst hx
      rw [List.getElem?_append_left (by simp; omega)]
      simp
    | succ j =>
      rw [List.getElem?_append_right (by simp; omega)]
      have e : (j + 1) * 3 + i - [Value.int .i64 x.kind, .int .i64 x.id, .int .i64 x.adv].length = j * 3 + i := by simp; omega
      rw [e]
      exact ih j h (by simpa using hx) i hi
theorem kys_own {w : World} {base n c : Nat} {A : Option Addr} {K : List Ky} (h : w.ownsRow base 47 3 (.slice A n c) n (kyCells K)) (hk : ∀ k ∈ K, -9223372036854775808 ≤ k.id ∧ k.id ≤ 9223372036854775807) : Kys w w.heap.size A n K ∧ n ≤ c ∧ c ≤ maxLen := by
  have hl := h.1
  rw [kyCells_length] at hl
  rcases h.2 with ⟨e, hn⟩ | ⟨g, cap, cur, hv, hb, hg, h1, h2, h3, h4⟩
  · injection e with e1 e2 e3
    subst e1 e2 e3
    have : K = [] := List.eq_nil_of_length_eq_zero (by omega)
    subst this
    exact ⟨Arr.nil, Nat.le_refl _, by unfold maxLen; omega⟩
  · injection hv with e1 e2 e3
    subst e1 e3
    refine ⟨⟨by omega, fun hn => ⟨g, 0, rfl, (Array.getElem?_eq_some_iff.1 hg).1, fun j k hj => ?_⟩⟩, h1, h2⟩
    have hjl := (List.getElem?_eq_some_iff.1 hj).1
    have hB : Blk w g 47 cur := hg
    have hc : ∀ i, i < 3 → w.cell? ⟨g, 0 + j * 3 + i, none⟩ = [Value.int .i64 k.kind, .int .i64 k.id, .int .i64 k.adv][i]? := fun i hi => by
      rw [hB.cell, Nat.zero_add, ← kyCells_at K j k hj i hi, ← h4, List.getElem?_take, if_pos (by omega)]
      simp
    have hb := hk k (List.mem_of_getElem? hj)
    exact ⟨hc 0 (by omega), hc 1 (by omega), hc 2 (by omega), hb.1, hb.2⟩
theorem right_id {x : La} (h : rightB x.h x.L x.M = true) : -9223372036854775808 ≤ (kyL x).id ∧ (kyL x).id ≤ 9223372036854775807 := by
  have := (right_facts h).2.2.2.2.1
  show -9223372036854775808 ≤ x.h.id ∧ x.h.id ≤ 9223372036854775807
  omega
theorem is_tick {w : World} {lo : Nat} {r : Rc} {x : La} (h : RcIs w lo r x) : RcIs w lo (tickR r) (tickL x) := by
  obtain ⟨e, h1⟩ := h
  unfold tickR tickL
  rw [e]
  split
  · exact ⟨rfl, h1⟩
  · exact ⟨e, h1⟩
theorem foot_tick (r : Rc) (q : Nat) : rcFoot (tickR r) q ↔ rcFoot r q := by
  unfold tickR
  split <;> exact Iff.rfl

/-- A description, sealed. -/
def sealL (x : La) : La := ⟨sealHd x.h x.L x.M, x.L, x.M⟩
/-- What Put answers, and leaves. -/
def putE (room : Int) (S : List La) (x : La) : Int := if rightB x.h x.L x.M = false then 1 else if (getL S (kyL x)).isNone = true ∧ room ≤ (S.length : Int) then 7 else 0
def putS (room : Int) (S : List La) (x : La) : List La := if putE room S x = 0 then insL (sealL x) (dropL S (kyL x)) else S
theorem dropL_less {S : List La} {k : Ky} (hs : SortL S) {x : La} (h : getL S k = some x) : (dropL S k).length + 1 = S.length := by
  obtain ⟨h1, h2⟩ := getL_some h
  obtain ⟨j, hj⟩ := List.getElem?_of_mem h1
  rw [dropL_at hs hj h2, List.length_eraseIdx]
  have := (List.getElem?_eq_some_iff.1 hj).1
  rw [if_pos this]
  omega
theorem put_go {w : World} {lo g : Nat} {room : Int} {S : List La} {F : Nat → Prop} (hd : RefDb w lo g room S F) (hlo : lo ≤ w.heap.size) (h : Hd) (L : List Lk) (M : List Int) (A A' : Option Addr) (n c n' c' B : Nat) (hL : Lnk w B A n L) (hM : Row .i64 w B A' n' M) (hB : B ≤ lo) (hn : n ≤ 1000) (hn' : n' ≤ 1000)
    (hr : rightB h L M = true) (e1 : putE room S ⟨h, L, M⟩ = 0) (hfull : ¬ ((getL S (kyL ⟨h, L, M⟩)).isNone = true ∧ room ≤ (S.length : Int))) (hroom : ((dropL S (kyL ⟨h, L, M⟩)).length : Int) + 1 ≤ room) :
    Calls Try.prog 29 #[.pointer (some ⟨g, 0, none⟩), .agg #[.int .i64 h.age, .int .i64 h.kind, .int .i64 h.id, .int .i64 h.adv, .int .i64 h.seq, .int .i64 h.sum, .int .i64 h.long, .slice A n c, .slice A' n' c']] w
    fun e w' => e = .returned (.int .i64 (putE room S ⟨h, L, M⟩)) ∧ ∃ F', RefDb w' lo g room (putS room S ⟨h, L, M⟩) F' ∧ Chg F w w' ∧ ∀ q, F' q → F q ∨ w.heap.size ≤ q := by
  obtain ⟨A0, n0, c0, R, hDB, hlg, hO, hA, h1, h2, h3, h4, hF⟩ := hd
  have hl := hO.1
  rw [rcCells_length] at hl
  have hln := hA.1
  have hky : kyL ⟨h, L, M⟩ = keyH h := rfl
  rw [hky] at hfull hroom
  refine (r7put_ok g A0 n0 c0 room R lo h L M A A' n c n' c' B w hL hM (by omega) hn hn' hr hDB hO (by omega) (by omega) (fun e => hfull ?_)).mono ?_
  · rcases all2_find (fun r x hp => hp.1) hA h1 (keyH h) with ⟨g1, g2⟩ | ⟨j, r, x, g1, g2, g3, g4, _⟩
    · exact ⟨by rw [g1]; rfl, by omega⟩
    · omega
  · rintro e w' ⟨rfl, A3, n3, c3, x, hB', hO', hX, hg⟩
    have hcg : Chg (fun q => q = g) w w' := Chg.of_grown hg (fun q hq => by injection hq with hq; exact hq.symm)
    have hcF : Chg F w w' := ⟨hcg.os, hcg.tape, hcg.output, hcg.size, fun q hq hn => hcg.block q hq (fun e => hn ((hF q).2 (.inl e)))⟩
    have hA' : All2 (RcIs w' lo) R S := all2_imp hA (fun r hr x hx => hx.chg hcg (fun q hq e => hx.ne_db hDB hq e))
    have hxs : RcIs w' lo x (sealL ⟨h, L, M⟩) := ⟨hX.1, own_low hX.2.1 hlo, hX.2.2.1, own_low hX.2.2.2.1 hlo, hX.2.2.2.2⟩
    have hxk : keyH x.h = keyH h := by rw [hX.1]; rfl
    have e2 : putS room S ⟨h, L, M⟩ = insL (sealL ⟨h, L, M⟩) (dropL S (keyH h)) := by unfold putS; rw [e1, if_pos rfl]; rfl
    rw [e1, e2]
    have hks : kyL (sealL ⟨h, L, M⟩) = keyH h := rfl
    have hall : All2 (RcIs w' lo) (insR (keyH h) x (dropI R (findR R (keyH h)))) (insL (sealL ⟨h, L, M⟩) (dropL S (keyH h))) := by
      rw [← hxk]
      exact all2_ins (fun r x hp => hp.1) hxs (all2_drop (fun r x hp => hp.1) hA' h1 (keyH x.h))
    refine ⟨rfl, fun q => q = g ∨ (Value.slice A3 n3 c3).ownBlock = some q ∨ ∃ r ∈ insR (keyH h) x (dropI R (findR R (keyH h))), rcFoot r q, ⟨A3, n3, c3, _, hB', hlg, own_low hO' hlo, hall, sort_insL (sort_drop h1 _) (fun y hy => by rw [hks]; exact (mem_drop.1 hy).2), by rw [insL_length]; push_cast; exact hroom, h3, fun y hy => ?_, fun q => Iff.rfl⟩, hcF, fun q hq => ?_⟩
    · rcases mem_insL.1 hy with rfl | hy
      · show rightB (sealHd h L M) L M = true
        rw [right_seal]
        exact hr
      · exact h4 y (mem_drop.1 hy).1
    · rcases hq with hq | hq | ⟨r, hr, hq⟩
      · exact .inl ((hF q).2 (.inl hq))
      · exact .inr (hO'.lt q hq).1
      · rcases mem_insR hr with rfl | hr
        · rcases hq with hq | hq
          · exact .inr (hX.2.1.lt q hq).1
          · exact .inr (hX.2.2.2.1.lt q hq).1
        · exact .inl ((hF q).2 (.inr (.inr ⟨r, mem_dropI hr, hq⟩)))
theorem r7Put_db {w : World} {lo g : Nat} {room : Int} {S : List La} {F : Nat → Prop} (hd : RefDb w lo g room S F) (hlo : lo ≤ w.heap.size) (h : Hd) (L : List Lk) (M : List Int) (A A' : Option Addr) (n c n' c' B : Nat) (hL : Lnk w B A n L) (hM : Row .i64 w B A' n' M) (hB : B ≤ lo) (hn : n ≤ 1000) (hn' : n' ≤ 1000) :
    Calls Try.prog 29 #[.pointer (some ⟨g, 0, none⟩), .agg #[.int .i64 h.age, .int .i64 h.kind, .int .i64 h.id, .int .i64 h.adv, .int .i64 h.seq, .int .i64 h.sum, .int .i64 h.long, .slice A n c, .slice A' n' c']] w
    fun e w' => e = .returned (.int .i64 (putE room S ⟨h, L, M⟩)) ∧ ∃ F', RefDb w' lo g room (putS room S ⟨h, L, M⟩) F' ∧ Chg F w w' ∧ ∀ q, F' q → F q ∨ w.heap.size ≤ q := by
  have hd0 := hd
  obtain ⟨A0, n0, c0, R, hDB, hlg, hO, hA, h1, h2, h3, h4, hF⟩ := hd
  have hl := hO.1
  rw [rcCells_length] at hl
  have hln := hA.1
  cases hr : rightB h L M
  · have e1 : putE room S ⟨h, L, M⟩ = 1 := by unfold putE; rw [if_pos hr]
    have e2 : putS room S ⟨h, L, M⟩ = S := by unfold putS; rw [e1, if_neg (by decide)]
    rw [e1, e2]
    refine (r7put_no (.pointer (some ⟨g, 0, none⟩)) h L M A A' n c n' c' B w hL hM (by omega) hn hn' hr).mono ?_
    rintro e w' ⟨rfl, hb⟩
    exact ⟨rfl, F, hd0.chg (F' := fun _ => False) (Chg.of_below hb) (fun _ _ hf => hf), Chg.of_below hb, fun q hq => .inl hq⟩
  · have hky : kyL ⟨h, L, M⟩ = keyH h := rfl
    rcases all2_find (fun r x hp => hp.1) hA h1 (keyH h) with ⟨g1, g2⟩ | ⟨j, r, x, g1, g2, g3, g4, _⟩
    · by_cases hfull : room ≤ (S.length : Int)
      · have e1 : putE room S ⟨h, L, M⟩ = 7 := by unfold putE; rw [if_neg (by rw [hr]; decide), if_pos ⟨by rw [hky, g1]; rfl, hfull⟩]
        have e2 : putS room S ⟨h, L, M⟩ = S := by unfold putS; rw [e1, if_neg (by decide)]
        rw [e1, e2]
        refine (r7put_full g A0 n0 c0 room R lo h L M A A' n c n' c' B w hL hM (by omega) hn hn' hr hDB hO (by omega) g2 (by omega)).mono ?_
        rintro e w' ⟨rfl, hb⟩
        exact ⟨rfl, F, hd0.chg (F' := fun _ => False) (Chg.of_below hb) (fun _ _ hf => hf), Chg.of_below hb, fun q hq => .inl hq⟩
      · have e1 : putE room S ⟨h, L, M⟩ = 0 := by unfold putE; rw [if_neg (by rw [hr]; decide), if_neg (fun e => hfull e.2)]
        exact put_go hd0 hlo h L M A A' n c n' c' B hL hM hB hn hn' hr e1 (by rw [hky]; exact fun e => hfull e.2) (by rw [hky, dropL_none (getL_none.1 g1)]; omega)
    · have e1 : putE room S ⟨h, L, M⟩ = 0 := by unfold putE; rw [if_neg (by rw [hr]; decide), if_neg (fun e => by have := e.1; rw [hky, g1] at this; cases this)]
      exact put_go hd0 hlo h L M A A' n c n' c' B hL hM hB hn hn' hr e1 (by rw [hky, g1]; exact fun e => by cases e.1) (by rw [hky]; have := dropL_less h1 g1; omega)
end Go.Proofs.Ytnnkcgbnhjkahaa
namespace Go.Proofs.Ytnnkcgbnhjkahaa
open Go.RowKit

/-- A key of three numbers of 64 bits. -/
def wfKy (k : Ky) : Prop := (-9223372036854775808 ≤ k.kind ∧ k.kind ≤ 9223372036854775807) ∧ (-9223372036854775808 ≤ k.id ∧ k.id ≤ 9223372036854775807) ∧ (-9223372036854775808 ≤ k.adv ∧ k.adv ≤ 9223372036854775807)
/-- What Get answers. -/
def GetOk (w : World) (S : List La) (k : Ky) (e : Ending) (w' : World) : Prop :=
  (getL S k = none ∧ e = .returned (.tuple #[.agg #[.int .i64 0, .int .i64 0, .int .i64 0, .int .i64 0, .int .i64 0, .int .i64 0, .int .i64 0, .slice none 0 0, .slice none 0 0], .bool false])) ∨
  ∃ (x : La) (A : Option Addr) (n c : Nat) (A' : Option Addr) (n' c' : Nat), getL S k = some x ∧ e = .returned (.tuple #[.agg #[.int .i64 x.h.age, .int .i64 x.h.kind, .int .i64 x.h.id, .int .i64 x.h.adv, .int .i64 x.h.seq, .int .i64 x.h.sum, .int .i64 x.h.long, .slice A n c, .slice A' n' c'], .bool true]) ∧ w'.ownsRow w.heap.size 96 4 (.slice A n c) n (lkCells x.L) ∧ x.L.length = n ∧ w'.ownsRow w.heap.size 3 1 (.slice A' n' c') n' (x.M.map (Value.int .i64)) ∧ x.M.length = n'
set_option maxRecDepth 8000 in
set_option maxHeartbeats 2000000 in
theorem keyOf_any (h : Hd) (w : World) : Calls Try.prog 38 #[.agg #[.int .i64 h.age, .int .i64 h.kind, .int .i64 h.id, .int .i64 h.adv, .int .i64 h.seq, .int .i64 h.sum, .int .i64 h.long]] w
    fun e w' => e = .returned (.agg #[.int .i64 h.kind, .int .i64 h.id, .int .i64 h.adv]) ∧ Below w.heap.size w w' := by
  have B0 := Lib.hid (below_new2 w (.cells #[.int .i64 h.age, .int .i64 h.kind, .int .i64 h.id, .int .i64 h.adv, .int .i64 h.seq, .int .i64 h.sum, .int .i64 h.long] 38) (.cells #[.int .i64 h.kind, .int .i64 h.id, .int .i64 h.adv] 47))
  go_enter Try.func38, Try.ntmps38
  go_wp2
  refine bodyPost_ret (v := .agg #[.int .i64 h.kind, .int .i64 h.id, .int .i64 h.adv]) (by simp [results, Try.results38, go_sem, *]) rfl ?_
  exact ⟨rfl, B0.out⟩

end Go.Proofs.Ytnnkcgbnhjkahaa
namespace Go.Proofs.Ytnnkcgbnhjkahaa
open Go.Shelf
def cmpInt7_ren : Go.Shelf.Ren := ⟨fun | 5 => 58 | 7 => 78 | n => n, fun | 22 => 3 | 3 => 3 | 4 => 4 | n => n, fun | n => n⟩
theorem cmpInt7 : Go.Proofs.SlLaysC2.n5 Try.prog cmpInt7_ren := {
  mixed := by kernel_rfl
  f5 := ⟨Try.f58.name, by decide, Try.func58.trans (congrArg some (by kernel_rfl))⟩
  f7 := ⟨Try.f78.name, by decide, Try.func78.trans (congrArg some (by kernel_rfl))⟩
  t3 := Try.underlying3
  a3 := Try.isAgg3
  z3 := Try.sizeOf3
  v3 := Try.zeroValue3
  t4 := Try.underlying4
  a4 := Try.isAgg4
  z4 := Try.sizeOf4
  v4 := Try.zeroValue4
  t22 := Try.underlying3
  a22 := Try.isAgg3
  z22 := Try.sizeOf3
  v22 := Try.zeroValue3 }
def cloneLk7_ren : Go.Shelf.Ren := ⟨fun | 41 => 73 | n => n, fun | 22 => 59 | 23 => 96 | 4 => 4 | n => n, fun | n => n⟩
theorem cloneLk7 : Go.Proofs.SlLaysE0.n41 Try.prog cloneLk7_ren := {
  mixed := by kernel_rfl
  f41 := ⟨Try.f73.name, by decide, Try.func73.trans (congrArg some (by kernel_rfl))⟩
  t4 := Try.underlying4
  a4 := Try.isAgg4
  z4 := Try.sizeOf4
  v4 := Try.zeroValue4
  t22 := Try.underlying59
  a22 := Try.isAgg59
  z22 := Try.sizeOf59
  v22 := Try.zeroValue59 }
def cloneInt7_ren : Go.Shelf.Ren := ⟨fun | 41 => 74 | n => n, fun | 22 => 60 | 23 => 3 | 4 => 4 | n => n, fun | n => n⟩
theorem cloneInt7 : Go.Proofs.SlLaysE0.n41 Try.prog cloneInt7_ren := {
  mixed := by kernel_rfl
  f41 := ⟨Try.f74.name, by decide, Try.func74.trans (congrArg some (by kernel_rfl))⟩
  t4 := Try.underlying4
  a4 := Try.isAgg4
  z4 := Try.sizeOf4
  v4 := Try.zeroValue4
  t22 := Try.underlying60
  a22 := Try.isAgg60
  z22 := Try.sizeOf60
  v22 := Try.zeroValue60 }
def sortKy7_ren : Go.Shelf.Ren := ⟨fun | 6 => 72 | 15 => 62 | 14 => 98 | 28 => 88 | 29 => 89 | 20 => 112 | 21 => 113 | 22 => 114 | 23 => 115 | 24 => 116 | 25 => 117 | 26 => 118 | 27 => 119 | 46 => 125 | 47 => 103 | 48 => 104 | 49 => 126 | 50 => 127 | 57 => 128 | n => n, fun | 22 => 42 | 24 => 47 | 25 => 106 | 3 => 3 | 39 => 105 | 0 => 0 | 53 => 125 | 55 => 127 | 4 => 4 | 46 => 119 | 45 => 118 | 50 => 94 | 5 => 5 | 9 => 9 | 66 => 137 | 70 => 141 | 76 => 156 | 77 => 157 | n => n, fun | n => n⟩
theorem sortKy7 : Go.Proofs.SlLaysF0.n6 Try.prog sortKy7_ren := {
  mixed := by kernel_rfl
  f6 := ⟨Try.f72.name, by decide, Try.func72.trans (congrArg some (by kernel_rfl))⟩
  f14 := ⟨Try.f98.name, by decide, Try.func98.trans (congrArg some (by kernel_rfl))⟩
  f15 := Try.func62.trans (congrArg some (by kernel_rfl))
  f20 := ⟨Try.f112.name, by decide, Try.func112.trans (congrArg some (by kernel_rfl))⟩
  f21 := ⟨Try.f113.name, by decide, Try.func113.trans (congrArg some (by kernel_rfl))⟩
  f22 := ⟨Try.f114.name, by decide, Try.func114.trans (congrArg some (by kernel_rfl))⟩
  f23 := ⟨Try.f115.name, by decide, Try.func115.trans (congrArg some (by kernel_rfl))⟩
  f24 := ⟨Try.f116.name, by decide, Try.func116.trans (congrArg some (by kernel_rfl))⟩
  f25 := ⟨Try.f117.name, by decide, Try.func117.trans (congrArg some (by kernel_rfl))⟩
  f26 := ⟨Try.f118.name, by decide, Try.func118.trans (congrArg some (by kernel_rfl))⟩
  f27 := ⟨Try.f119.name, by decide, Try.func119.trans (congrArg some (by kernel_rfl))⟩
  f28 := Try.func88.trans (congrArg some (by kernel_rfl))
  f29 := Try.func89.trans (congrArg some (by kernel_rfl))
  f46 := ⟨Try.f125.name, by decide, Try.func125.trans (congrArg some (by kernel_rfl))⟩
  f47 := Try.func103.trans (congrArg some (by kernel_rfl))
  f48 := Try.func104.trans (congrArg some (by kernel_rfl))
  f49 := ⟨Try.f126.name, by decide, Try.func126.trans (congrArg some (by kernel_rfl))⟩
  f50 := ⟨Try.f127.name, by decide, Try.func127.trans (congrArg some (by kernel_rfl))⟩
  f57 := ⟨Try.f128.name, by decide, Try.func128.trans (congrArg some (by kernel_rfl))⟩
  t0 := Try.underlying0
  a0 := Try.isAgg0
  z0 := Try.sizeOf0
  v0 := Try.zeroValue0
  t3 := Try.underlying3
  a3 := Try.isAgg3
  z3 := Try.sizeOf3
  v3 := Try.zeroValue3
  t4 := Try.underlying4
  a4 := Try.isAgg4
  z4 := Try.sizeOf4
  v4 := Try.zeroValue4
  t5 := Try.underlying5
  a5 := Try.isAgg5
  z5 := Try.sizeOf5
  v5 := Try.zeroValue5
  t9 := Try.underlying9
  a9 := Try.isAgg9
  z9 := Try.sizeOf9
  v9 := Try.zeroValue9
  t22 := Try.underlying42
  a22 := Try.isAgg42
  z22 := Try.sizeOf42
  v22 := Try.zeroValue42
  t25 := Try.underlying106
  a25 := Try.isAgg106
  z25 := Try.sizeOf106
  v25 := Try.zeroValue106
  t39 := Try.underlying105
  a39 := Try.isAgg105
  z39 := Try.sizeOf105
  v39 := Try.zeroValue105
  t45 := Try.underlying118
  a45 := Try.isAgg118
  z45 := Try.sizeOf118
  v45 := Try.zeroValue118
  t46 := Try.underlying119
  a46 := Try.isAgg119
  z46 := Try.sizeOf119
  v46 := Try.zeroValue119
  t50 := Try.underlying94
  a50 := Try.isAgg94
  z50 := Try.sizeOf94
  v50 := Try.zeroValue94
  t53 := Try.underlying125
  a53 := Try.isAgg125
  z53 := Try.sizeOf125
  v53 := Try.zeroValue125
  t55 := Try.underlying127
  a55 := Try.isAgg127
  z55 := Try.sizeOf127
  v55 := Try.zeroValue127
  t66 := Try.underlying137
  a66 := Try.isAgg137
  z66 := Try.sizeOf137
  v66 := Try.zeroValue137
  t70 := Try.underlying141
  a70 := Try.isAgg141
  z70 := Try.sizeOf141
  v70 := Try.zeroValue141
  t76 := Try.underlying156
  a76 := Try.isAgg156
  z76 := Try.sizeOf156
  v76 := Try.zeroValue156
  t77 := Try.underlying157
  a77 := Try.isAgg157
  z77 := Try.sizeOf157
  v77 := Try.zeroValue157 }
end Go.Proofs.Ytnnkcgbnhjkahaa
namespace Go.Proofs.Ytnnkcgbnhjkahaa
open Go.RowKit
open Go.Maps (Keyed)

theorem laidOut7 : laidOutB Try.prog = true := by kernel_rfl
theorem key_row7 : (47 : TypeId) < Try.prog.types.size := of_decide_eq_true (by kernel_rfl)
theorem key_at7 : Try.prog.keyTypeAt 2 47 = true := by kernel_rfl
theorem keyed7 : Keyed Try.prog 47 := Keyed.of_law (deep_law_laid laidOut7 (m := 2) (by omega) key_row7 key_at7 (by rw [Try.underlying47]))
theorem succ_of_lt7 {a b : Nat} (h : a < b) : ∃ n, b = n + 1 := ⟨b - 1, by omega⟩
theorem size7 : ∃ n, Try.prog.types.size = n + 1 := succ_of_lt7 key_row7
theorem cells_key7 : Try.prog.cellsOf 47 = 3 := by kernel_rfl
theorem cells_int7 : Try.prog.cellsOf 3 = 1 := by kernel_rfl
theorem keyType7 : Try.prog.keyType 47 = true := by kernel_rfl
theorem under_int7 : Try.prog.underlying 3 = some (.int .i64) := Try.underlying3

/-- What a key reads as. -/
def kyLit (k : Ky) : Lit := .string (keyBytes [.int .i64 k.kind, .int .i64 k.id, .int .i64 k.adv])
theorem wf_i64_iff (a : Int) : (Lit.int .i64 a).wf = true ↔ -9223372036854775808 ≤ a ∧ a ≤ 9223372036854775807 := by
  constructor
  · intro h
    simp [Lit.wf, IntKind.min, IntKind.max, IntKind.signed, IntKind.bits] at h
    omega
  · rintro ⟨h1, h2⟩
    simp [Lit.wf, IntKind.min, IntKind.max, IntKind.signed, IntKind.bits]
    omega
theorem keyLits7 (n : Nat) {a b c : Int} (ha : (Lit.int .i64 a).wf = true) (hb : (Lit.int .i64 b).wf = true) (hc : (Lit.int .i64 c).wf = true) :
    Try.prog.keyLits (n + 1 + 1) 47 [.int .i64 a, .int .i64 b, .int .i64 c] = some [.int .i64 a, .int .i64 b, .int .i64 c] := by
  simp [Program.keyLits, Try.underlying47, cells_key7, cells_int7, ha, hb, hc]
theorem keyOf_ky {k : Ky} (h : wfKy k) : keyOf Try.prog 47 (.agg #[.int .i64 k.kind, .int .i64 k.id, .int .i64 k.adv]) = some (kyLit k) := by
  obtain ⟨h1, h2, h3⟩ := h
  obtain ⟨n, hn⟩ := size7
  have e := keyLits7 n ((wf_i64_iff _).2 h1) ((wf_i64_iff _).2 h2) ((wf_i64_iff _).2 h3)
  simp [keyOf, Try.underlying47, keyType7, Value.formed, cells_key7, Value.cells, hn, e, kyLit]
theorem keyLit_int7 (n : Nat) {v : Value} {l : List Lit} (h : Try.prog.keyLits (n + 1) 3 [v] = some l) : ∃ a : Int, (Lit.int .i64 a).wf = true ∧ v = .int .i64 a ∧ l = [.int .i64 a] := by
  unfold Program.keyLits at h
  rw [under_int7] at h
  cases v <;> simp at h
  obtain ⟨⟨rfl, hw⟩, rfl⟩ := h
  exact ⟨_, hw, rfl, rfl⟩
theorem keyLits_inv7 (n : Nat) {x y z : Value} {L : List Lit} (hL : Try.prog.keyLits (n + 1 + 1) 47 [x, y, z] = some L) : ∃ l1 l2 l3, Try.prog.keyLits (n + 1) 3 [x] = some l1 ∧ Try.prog.keyLits (n + 1) 3 [y] = some l2 ∧ Try.prog.keyLits (n + 1) 3 [z] = some l3 ∧ L = l1 ++ (l2 ++ l3) := by
  unfold Program.keyLits at hL
  generalize hK : Program.keyLits Try.prog (n + 1) = K at hL ⊢
  simp [Try.underlying47, cells_key7, cells_int7] at hL
  cases h1 : K 3 [x] with
  | none => rw [h1] at hL; simp at hL
  | some l1 =>
    rw [h1] at hL
    cases h2 : K 3 [y] with
    | none => rw [h2] at hL; simp at hL
    | some l2 =>
      rw [h2] at hL
      cases h3 : K 3 [z] with
      | none => rw [h3] at hL; simp at hL
      | some l3 =>
        rw [h3] at hL
        simp at hL
        exact ⟨l1, l2, l3, rfl, rfl, rfl, hL.symm⟩
theorem keyLits_len7 (n : Nat) {cs : List Value} {L : List Lit} (hL : Try.prog.keyLits (n + 1) 47 cs = some L) : cs.length = 3 := by
  unfold Program.keyLits at hL
  simp only [Try.underlying47, cells_key7] at hL
  split at hL
  · rename_i h
    exact h.1
  · cases hL
theorem three7 : ∀ {xs : List Value}, xs.length = 3 → ∃ x y z, xs = [x, y, z]
  | [x, y, z], _ => ⟨x, y, z, rfl⟩
theorem keyOf_ky_inv {v : Value} {l : Lit} (h : keyOf Try.prog 47 v = some l) : ∃ k, wfKy k ∧ v = .agg #[.int .i64 k.kind, .int .i64 k.id, .int .i64 k.adv] ∧ l = kyLit k := by
  obtain ⟨xs, L, rfl, hL, rfl⟩ := keyOf_top (by rw [Try.underlying47]) h
  obtain ⟨n, hn⟩ := size7
  rw [hn] at hL
  have hl := keyLits_len7 _ hL
  obtain ⟨xs⟩ := xs
  simp only at hL hl
  obtain ⟨x, y, z, rfl⟩ := three7 hl
  · obtain ⟨l1, l2, l3, e1, e2, e3, rfl⟩ := keyLits_inv7 n hL
    obtain ⟨a, wa, rfl, rfl⟩ := keyLit_int7 n e1
    obtain ⟨b, wb, rfl, rfl⟩ := keyLit_int7 n e2
    obtain ⟨c, wc, rfl, rfl⟩ := keyLit_int7 n e3
    exact ⟨⟨a, b, c⟩, ⟨(wf_i64_iff _).1 wa, (wf_i64_iff _).1 wb, (wf_i64_iff _).1 wc⟩, rfl, rfl⟩
theorem kyLit_inj {a b : Ky} (ha : wfKy a) (hb : wfKy b) (h : kyLit a = kyLit b) : a = b := by
  have e1 := keyOf_ky ha
  rw [h] at e1
  have := keyed7.inj e1 (keyOf_ky hb)
  obtain ⟨a1, a2, a3⟩ := a
  obtain ⟨b1, b2, b3⟩ := b
  simp at this
  simp [this]
end Go.Proofs.Ytnnkcgbnhjkahaa
