/- The reference's database in memory: what it holds, on which blocks it hangs, and what its calls make of it. Conditions: none but what the words say. · The reference's database: its calls, as what they make of the list that it holds. Conditions: what the words say; lists of at most 1000 items. · The reference's database: Tick and Put, as what they make of the list that it holds. Conditions: what the words say. · What a database of the program must do, said of any words Dv for 'it lies so in memory'. Conditions: none; it is asked of the program elsewhere. · The walk of the statement DbAges, of any database that does what it must. Conditions: the lists read so; the number is of 8 bits. · The reference's num, signed, headOf and GetHead. Conditions: the slice reads as bytes. -/
import Derived.Test.YtiibefgdlmjdgaaJam
import Derived.Test.YtiibefgdlmjdgaaJai
namespace Go.Proofs.Ytiibefgdlmjdgaa
open Go.RowKit

/-- Only blocks of F, and new ones, have turned. -/
structure Chg (F : Nat → Prop) (w w' : World) : Prop where
  os : w'.os = w.os
  tape : w'.tape = w.tape
  output : w'.output = w.output
  size : w.heap.size ≤ w'.heap.size
  block : ∀ k, k < w.heap.size → ¬ F k → w'.heap[k]? = w.heap[k]?
section
variable {F F' : Nat → Prop} {w w' w'' : World}
theorem Chg.refl (F : Nat → Prop) (w : World) : Chg F w w := ⟨rfl, rfl, rfl, Nat.le_refl _, fun _ _ _ => rfl⟩
theorem Chg.of_below (h : Below w.heap.size w w') : Chg F w w' := ⟨h.os, h.tape, h.output, h.size, fun k hk _ => h.block k hk⟩
theorem Chg.of_grown {row : Option Nat} (h : w.grownBy w' row) (hr : ∀ k, row = some k → F k) : Chg F w w' := ⟨h.os, h.tape, h.output, h.size, fun k hk hn => h.block k hk (fun e => hn (hr k e.symm))⟩
theorem Chg.to_below {B : Nat} (h : Chg F w w') (hF : ∀ k, F k → B ≤ k) (hB : B ≤ w.heap.size) : Below B w w' := ⟨h.os, h.tape, h.output, h.size, fun k hk => h.block k (by omega) (fun hf => by have := hF k hf; omega)⟩
/-- One change, and another one: F grows by new blocks alone. -/
theorem Chg.trans (h : Chg F w w') (h' : Chg F' w' w'') (hF : ∀ k, F' k → F k ∨ w.heap.size ≤ k) : Chg F w w'' :=
  ⟨h'.os.trans h.os, h'.tape.trans h.tape, h'.output.trans h.output, Nat.le_trans h.size h'.size, fun k hk hn => (h'.block k (Nat.lt_of_lt_of_le hk h.size) (fun hf => by
    rcases hF k hf with h1 | h1
    · exact hn h1
    · omega)).trans (h.block k hk hn)⟩
end
theorem own_chg {F : Nat → Prop} {w w' : World} {b n size : Nat} {t : TypeId} {v : Value} {xs : List Value} (ho : w.ownsRow b t size v n xs) (h : Chg F w w') (hv : ∀ q, v.ownBlock = some q → ¬ F q) : w'.ownsRow b t size v n xs := by
  refine ⟨ho.1, ?_⟩
  rcases ho.2 with hn | ⟨g, cap, cur, rfl, hb, hg, rest⟩
  · exact .inl hn
  · exact .inr ⟨g, cap, cur, rfl, hb, (h.block g (Array.getElem?_eq_some_iff.1 hg).1 (hv g rfl)).trans hg, rest⟩
theorem Blk.chg {F : Nat → Prop} {w w' : World} {g : Nat} {t : TypeId} {cs : Array Value} (hb : Blk w g t cs) (h : Chg F w w') (hF : ¬ F g) : Blk w' g t cs := (h.block g hb.lt hF).trans hb

/-- A description in memory of the call's own. -/
def RcIs (w : World) (lo : Nat) (r : Rc) (x : La) : Prop :=
  r.h = x.h ∧ w.ownsRow lo 61 4 (.slice r.p.a r.p.n r.p.c) r.p.n (lkCells x.L) ∧ x.L.length = r.p.n ∧ w.ownsRow lo 3 1 (.slice r.q.a r.q.n r.q.c) r.q.n (x.M.map (Value.int .i64)) ∧ x.M.length = r.q.n
/-- On which blocks it hangs. -/
def rcFoot (r : Rc) (q : Nat) : Prop := (Value.slice r.p.a r.p.n r.p.c).ownBlock = some q ∨ (Value.slice r.q.a r.q.n r.q.c).ownBlock = some q
theorem RcIs.chg {F : Nat → Prop} {w w' : World} {lo : Nat} {r : Rc} {x : La} (h : RcIs w lo r x) (hc : Chg F w w') (hf : ∀ q, rcFoot r q → ¬ F q) : RcIs w' lo r x :=
  ⟨h.1, own_chg h.2.1 hc (fun q hq => hf q (.inl hq)), h.2.2.1, own_chg h.2.2.2.1 hc (fun q hq => hf q (.inr hq)), h.2.2.2.2⟩
theorem RcIs.foot {w : World} {lo : Nat} {r : Rc} {x : La} (h : RcIs w lo r x) {q : Nat} (hq : rcFoot r q) : lo ≤ q ∧ q < w.heap.size := by
  rcases hq with hq | hq
  · exact h.2.1.lt q hq
  · exact h.2.2.2.1.lt q hq
theorem RcIs.mono {w : World} {lo lo' : Nat} {r : Rc} {x : La} (h : RcIs w lo r x) (hl : lo' ≤ lo) : RcIs w lo' r x := ⟨h.1, own_low h.2.1 hl, h.2.2.1, own_low h.2.2.2.1 hl, h.2.2.2.2⟩
/-- Lists of a description lie in no block of a database, and of a list of descriptions. -/
theorem RcIs.apart {w : World} {lo b n : Nat} {r : Rc} {x : La} {v : Value} {xs : List Value} (h : RcIs w lo r x) (ho : w.ownsRow b 34 9 v n xs) {q : Nat} (hq : rcFoot r q) : v.ownBlock ≠ some q := by
  intro e
  rcases hq with hq | hq
  · rcases own_apart ho h.2.1 (by decide) with h1 | h1
    · rw [h1] at hq
      cases hq
    · exact h1 (hq.trans e.symm)
  · rcases own_apart ho h.2.2.2.1 (by decide) with h1 | h1
    · rw [h1] at hq
      cases hq
    · exact h1 (hq.trans e.symm)
theorem own_ne_blk {w : World} {b n size g : Nat} {t t' : TypeId} {v : Value} {xs : List Value} {cs : Array Value} (h : w.ownsRow b t size v n xs) (hB : Blk w g t' cs) (ht : t ≠ t') : v.ownBlock ≠ some g := by
  intro e
  rcases h.2 with ⟨rfl, _⟩ | ⟨q, cap, cur, rfl, _, hg, _⟩
  · cases e
  · injection e with e
    subst e
    have h1 : w.heap[q]? = some (.cells cs t' (0, 0)) := hB
    rw [h1] at hg
    injection hg with hg
    injection hg with _ hg
    exact ht hg.symm
theorem RcIs.ne_db {w : World} {lo g : Nat} {r : Rc} {x : La} {cs : Array Value} (h : RcIs w lo r x) (hB : Blk w g 53 cs) {q : Nat} (hq : rcFoot r q) : q ≠ g := by
  rintro rfl
  rcases hq with hq | hq
  · exact own_ne_blk h.2.1 hB (by decide) hq
  · exact own_ne_blk h.2.2.2.1 hB (by decide) hq
/-- A list of descriptions, read. -/
theorem las_of_own {w : World} {base n c : Nat} {A : Option Addr} {R : List Rc} {S : List La} {lo : Nat} (h : w.ownsRow base 34 9 (.slice A n c) n (rcCells R)) (ha : All2 (RcIs w lo) R S) (hs : ∀ x ∈ S, x.L.length ≤ 1000 ∧ x.M.length ≤ 1000) : Las w w.heap.size A n S := by
  have hl := h.1
  rw [rcCells_length] at hl
  refine ⟨by rw [← ha.1]; omega, fun hn => ?_⟩
  obtain ⟨r0, hr0⟩ : ∃ r, R[0]? = some r := ⟨R[0]'(by omega), List.getElem?_eq_getElem (by omega)⟩
  obtain ⟨b, rfl, -, hb1, -, -, -⟩ := own_rc h hr0
  refine ⟨b, 0, rfl, hb1, fun j x hx => ?_⟩
  obtain ⟨r, hr, hp⟩ := ha.at' hx
  obtain ⟨b', e', -, -, -, -, hat⟩ := own_rc h hr
  injection e' with e'
  injection e' with e'
  subst e'
  rw [Nat.zero_add]
  obtain ⟨k0, k1, k2, k3, k4, k5, k6, k7, k8⟩ := hat.nine
  obtain ⟨A1, c1, e1, h1, h2, h3⟩ := lnk_of_own hp.2.1 hp.2.2.1
  injection e1 with e1 _ e2
  subst e1 e2
  obtain ⟨A2, c2, e3, h4, h5, h6⟩ := row_of_ints hp.2.2.2.1 hp.2.2.2.2
  injection e3 with e3 _ e4
  subst e3 e4
  rw [hp.1] at k0 k1 k2 k3 k4 k5 k6
  have hb := hs x (List.mem_of_getElem? hx)
  have e5 := hp.2.2.1
  have e6 := hp.2.2.2.2
  exact ⟨⟨k0, k1, k2, k3, k4, k5, k6⟩, r.p.a, r.p.n, r.p.c, r.q.a, r.q.n, r.q.c, k7, k8, h3, h6, by unfold maxLen; omega, by unfold maxLen; omega⟩

/-- Right descriptions: their lists are short, their ages from 0 to 60; sealed, or a tick on, they are right. -/
theorem right_other (a k i v s x y x' y' : Int) (L : List Lk) (M : List Int) : rightB ⟨a, k, i, v, s, x, y⟩ L M = rightB ⟨a, k, i, v, s, x', y'⟩ L M := rfl
theorem right_seal {h : Hd} {L : List Lk} {M : List Int} : rightB (sealHd h L M) L M = rightB h L M := by
  obtain ⟨a, k, i, v, s, x, y⟩ := h
  exact right_other a k i v s _ _ x y L M
theorem right_tick {x : La} (h : rightB x.h x.L x.M = true) : rightB (tickL x).h (tickL x).L (tickL x).M = true := by
  unfold tickL
  split
  · rename_i hl
    unfold rightB headB at h ⊢
    simp only [Bool.and_eq_true, inB_iff] at h ⊢
    obtain ⟨⟨h1, h2⟩, h3⟩ := h
    refine ⟨⟨by omega, h2⟩, ?_⟩
    simpa [routerB, networkB] using h3
  · exact h
theorem right_age {x : La} (h : rightB x.h x.L x.M = true) : 0 ≤ x.h.age ∧ x.h.age ≤ 60 := (right_facts h).1
end Go.Proofs.Ytiibefgdlmjdgaa
namespace Go.Proofs.Ytiibefgdlmjdgaa
open Go.RowKit

/-- Block g is a database of so much room that holds S, and hangs on the blocks of F alone, all from lo on. -/
def RefDb (w : World) (lo g : Nat) (room : Int) (S : List La) (F : Nat → Prop) : Prop :=
  ∃ (A : Option Addr) (n c : Nat) (R : List Rc), Blk w g 53 #[.slice A n c, .int .i64 room] ∧ lo ≤ g ∧ w.ownsRow lo 34 9 (.slice A n c) n (rcCells R) ∧ All2 (RcIs w lo) R S ∧ SortL S ∧ (S.length : Int) ≤ room ∧ room ≤ 40 ∧ (∀ x ∈ S, rightB x.h x.L x.M = true) ∧
    (∀ q, F q ↔ q = g ∨ (Value.slice A n c).ownBlock = some q ∨ ∃ r ∈ R, rcFoot r q)
theorem all2_mem {α β : Type} {P : α → β → Prop} {R : List α} {S : List β} (h : All2 P R S) {r : α} (hr : r ∈ R) : ∃ x ∈ S, P r x := by
  obtain ⟨j, hj⟩ := List.getElem?_of_mem hr
  obtain ⟨x, hx, hp⟩ := h.at hj
  exact ⟨x, List.mem_of_getElem? hx, hp⟩
theorem all2_imp {α β : Type} {P Q : α → β → Prop} {R : List α} {S : List β} (h : All2 P R S) (hi : ∀ r ∈ R, ∀ x, P r x → Q r x) : All2 Q R S := ⟨h.1, fun j r x h1 h2 => hi r (List.mem_of_getElem? h1) x (h.2 j r x h1 h2)⟩
theorem RefDb.foot {w : World} {lo g : Nat} {room : Int} {S : List La} {F : Nat → Prop} (h : RefDb w lo g room S F) {q : Nat} (hq : F q) : lo ≤ q ∧ q < w.heap.size := by
  obtain ⟨A, n, c, R, hB, hlo, hO, hA, -, -, -, -, hF⟩ := h
  rcases (hF q).1 hq with rfl | h1 | ⟨r, hr, h1⟩
  · exact ⟨hlo, hB.lt⟩
  · exact hO.lt q h1
  · obtain ⟨x, _, hx⟩ := all2_mem hA hr
    exact hx.foot h1
theorem RefDb.chg {w w' : World} {lo g : Nat} {room : Int} {S : List La} {F F' : Nat → Prop} (h : RefDb w lo g room S F) (hc : Chg F' w w') (hd : ∀ q, F q → ¬ F' q) : RefDb w' lo g room S F := by
  obtain ⟨A, n, c, R, hB, hlo, hO, hA, h1, h2, h3, h4, hF⟩ := h
  exact ⟨A, n, c, R, hB.chg hc (hd g ((hF g).2 (.inl rfl))), hlo, own_chg hO hc (fun q hq => hd q ((hF q).2 (.inr (.inl hq)))), all2_imp hA (fun r hr x hx => hx.chg hc (fun q hq => hd q ((hF q).2 (.inr (.inr ⟨r, hr, hq⟩))))), h1, h2, h3, h4, hF⟩
theorem right_short {x : La} (h : rightB x.h x.L x.M = true) : x.L.length ≤ 1000 ∧ x.M.length ≤ 1000 := by
  obtain ⟨_, h2, _, _, _, h6, h7⟩ := right_facts h
  by_cases hk : x.h.kind = 1
  · obtain ⟨e1, e2, _⟩ := h6 hk
    rw [e1]
    exact ⟨by omega, by simp⟩
  · obtain ⟨e1, e2⟩ := h7 (by omega)
    have := rise_len x.M 0 e2 (by omega)
    rw [e1]
    exact ⟨by simp, by omega⟩
/-- The list that it holds, read. -/
theorem RefDb.list {w : World} {lo g : Nat} {room : Int} {S : List La} {F : Nat → Prop} (h : RefDb w lo g room S F) : ∃ (A : Option Addr) (n c : Nat), Blk w g 53 #[.slice A n c, .int .i64 room] ∧ Las w w.heap.size A n S ∧ n ≤ 40 := by
  obtain ⟨A, n, c, R, hB, hlo, hO, hA, h1, h2, h3, h4, hF⟩ := h
  have hl := hO.1
  rw [rcCells_length] at hl
  have := hA.1
  exact ⟨A, n, c, hB, las_of_own hO hA (fun x hx => right_short (h4 x hx)), by omega⟩

theorem r7New_db (r : Int) (w : World) : Calls Try.prog 12 #[.int .i64 r] w
    fun e w' => e = .returned (.pointer (some ⟨w.heap.size, 0, none⟩)) ∧ Below w.heap.size w w' ∧ ∃ F, RefDb w' w.heap.size w.heap.size (roomOf r) [] F := by
  refine (r7new_any r w).mono ?_
  rintro e w' ⟨rfl, hB, hb⟩
  refine ⟨rfl, hb, fun q => q = w.heap.size, none, 0, 0, [], hB, Nat.le_refl _, World.ownsRow_nil _ _ _ _, All2.nil, List.Pairwise.nil, by have := roomOf_bd r; simp; omega, (roomOf_bd r).2, fun x hx => (by cases hx), fun q => ?_⟩
  simp [Value.ownBlock]

theorem r7Find_db {w : World} {lo g : Nat} {room : Int} {S : List La} {F : Nat → Prop} (h : RefDb w lo g room S F) (k : Ky) : Calls Try.prog 22 #[.pointer (some ⟨g, 0, none⟩), .agg #[.int .i64 k.kind, .int .i64 k.id, .int .i64 k.adv]] w
    fun e w' => ∃ v : Int, e = .returned (.int .i64 v) ∧ Below w.heap.size w w' ∧ ((getL S k = none ∧ v = -1) ∨ ∃ (j : Nat) (x : La), getL S k = some x ∧ v = (j : Int) ∧ S[j]? = some x) := by
  obtain ⟨A, n, c, R, hB, hlo, hO, hA, h1, h2, h3, h4, hF⟩ := h
  have hl := hO.1
  rw [rcCells_length] at hl
  have := hA.1
  refine (r7find_any g A n c room R k lo w hB hO (by omega)).mono ?_
  rintro e w' ⟨rfl, hb⟩
  refine ⟨_, rfl, hb, ?_⟩
  rcases all2_find (fun r x hp => hp.1) hA h1 k with ⟨e1, e2⟩ | ⟨j, r, x, e1, e2, e3, e4, _⟩
  · exact .inl ⟨e1, e2⟩
  · exact .inr ⟨j, x, e1, e2, e4⟩
theorem mem_dropI {R : List Rc} {i : Int} {r : Rc} (h : r ∈ dropI R i) : r ∈ R := by
  unfold dropI at h
  split at h
  · exact h
  · exact List.mem_of_mem_eraseIdx h
theorem mem_insR {k : Ky} {x r : Rc} : ∀ {R : List Rc}, r ∈ insR k x R → r = x ∨ r ∈ R
  | [], h => by simpa [insR] using h
  | y :: R, h => by
    unfold insR at h
    split at h
    · rcases List.mem_cons.1 h with h | h
      · exact .inl h
      · exact .inr h
    · rcases List.mem_cons.1 h with h | h
      · exact .inr (by simp [h])
      · rcases mem_insR h with h | h
        · exact .inl h
        · exact .inr (by simp [h])
theorem getL_some_iff {R : List Rc} {S : List La} {w : World} {lo : Nat} (hA : All2 (RcIs w lo) R S) (hs : SortL S) (k : Ky) : decide (0 ≤ findR R k) = (getL S k).isSome := by
  rcases all2_find (fun r x hp => hp.1) hA hs k with ⟨e1, e2⟩ | ⟨j, r, x, e1, e2, e3, e4, _⟩
  · rw [e1, e2]
    rfl
  · rw [e1, e2]
    simp
theorem dropL_length (S : List La) (k : Ky) : (dropL S k).length ≤ S.length := List.length_filter_le _ _
theorem r7Drop_db {w : World} {lo g : Nat} {room : Int} {S : List La} {F : Nat → Prop} (h : RefDb w lo g room S F) (hlo : lo ≤ w.heap.size) (k : Ky) : Calls Try.prog 17 #[.pointer (some ⟨g, 0, none⟩), .agg #[.int .i64 k.kind, .int .i64 k.id, .int .i64 k.adv]] w
    fun e w' => e = .returned (.bool (getL S k).isSome) ∧ ∃ F', RefDb w' lo g room (dropL S k) F' ∧ Chg F w w' ∧ ∀ q, F' q → F q ∨ w.heap.size ≤ q := by
  obtain ⟨A, n, c, R, hB, hlg, hO, hA, h1, h2, h3, h4, hF⟩ := h
  have hl := hO.1
  rw [rcCells_length] at hl
  have hln := hA.1
  refine (r7drop_any g A n c room R k lo w hB hO (by omega)).mono ?_
  rintro e w' ⟨rfl, A', n', c', hB', hO', hg⟩
  have hcg : Chg (fun q => q = g) w w' := Chg.of_grown hg (fun q hq => by injection hq with hq; exact hq.symm)
  have hA' : All2 (RcIs w' lo) R S := all2_imp hA (fun r hr x hx => hx.chg hcg (fun q hq e => hx.ne_db hB hq e))
  refine ⟨by rw [getL_some_iff hA h1], fun q => q = g ∨ (Value.slice A' n' c').ownBlock = some q ∨ ∃ r ∈ dropI R (findR R k), rcFoot r q, ⟨A', n', c', _, hB', hlg, own_low hO' hlo, all2_drop (fun r x hp => hp.1) hA' h1 k, sort_drop h1 k, by have := dropL_length S k; omega, h3, fun x hx => h4 x (mem_drop.1 hx).1, fun q => Iff.rfl⟩, ⟨hcg.os, hcg.tape, hcg.output, hcg.size, fun q hq hn => hcg.block q hq (fun e => hn ((hF q).2 (.inl e)))⟩, fun q hq => ?_⟩
  rcases hq with hq | hq | ⟨r, hr, hq⟩
  · exact .inl ((hF q).2 (.inl hq))
  · exact .inr (hO'.lt q hq).1
  · exact .inl ((hF q).2 (.inr (.inr ⟨r, mem_dropI hr, hq⟩)))
end Go.Proofs.Ytiibefgdlmjdgaa
namespace Go.Proofs.Ytiibefgdlmjdgaa
open Go.RowKit

/-- The keys of those that come to be 60. -/
def tickKeysL (S : List La) : List Ky := (S.filter fun x => decide (x.h.age = 59)).map kyL
theorem all2_keys {P : Rc → La → Prop} (hk : ∀ r x, P r x → r.h = x.h) : ∀ {R : List Rc} {S : List La}, All2 P R S → tickKeys R = tickKeysL S
  | [], [], _ => rfl
  | [], y :: S, h => by have := h.1; simp at this
  | r :: R, [], h => by have := h.1; simp at this
  | r :: R, y :: S, h => by
    have ih := all2_keys hk h.head.2
    have e := hk _ _ h.head.1
    unfold tickKeys tickKeysL at ih ⊢
    rw [List.filter_cons, List.filter_cons, e]
    split
    · rw [List.map_cons, List.map_cons, ih, e]
      rfl
    · exact ih
theorem kyCells_at (K : List Ky) : ∀ (j : Nat) (k : Ky), K[j]? = some k → ∀ i, i < 3 → (kyCells K)[j * 3 + i]? = [Value.int .i64 k.kind, .int .i64 k.id, .int .i64 k.adv][i]? := by
  induction K with
  | nil => intro j h hx; simp at hx
  | cons x l ih =>
    intro j h hx i hi
    rw [kyCells_cons]
    cases j with
    | zero =>
      simp at hx
      subst hx
      rw [List.getElem?_append_left (by simp; omega)]
      simp
    | succ j =>
      rw [List.getElem?_append_right (by simp; omega)]
      have e : (j + 1) * 3 + i - [Value.int .i64 x.kind, .int .i64 x.id, .int .i64 x.adv].length = j * 3 + i := by simp; omega
      rw [e]
      exact ih j h (by simpa using hx) i hi
theorem kys_own {w : World} {base n c : Nat} {A : Option Addr} {K : List Ky} (h : w.ownsRow base 38 3 (.slice A n c) n (kyCells K)) (hk : ∀ k ∈ K, -9223372036854775808 ≤ k.id ∧ k.id ≤ 9223372036854775807) : Kys w w.heap.size A n K ∧ n ≤ c ∧ c ≤ maxLen := by
  have hl := h.1
  rw [kyCells_length] at hl
  rcases h.2 with ⟨e, hn⟩ | ⟨g, cap, cur, hv, hb, hg, h1, h2, h3, h4⟩
  · injection e with e1 e2 e3
    subst e1 e2 e3
    have : K = [] := List.eq_nil_of_length_eq_zero (by omega)
    subst this
    exact ⟨Arr.nil, Nat.le_refl _, by unfold maxLen; omega⟩
  · injection hv with e1 e2 e3
    subst e1 e3
    refine ⟨⟨by omega, fun hn => ⟨g, 0, rfl, (Array.getElem?_eq_some_iff.1 hg).1, fun j k hj => ?_⟩⟩, h1, h2⟩
    have hjl := (List.getElem?_eq_some_iff.1 hj).1
    have hB : Blk w g 38 cur := hg
    have hc : ∀ i, i < 3 → w.cell? ⟨g, 0 + j * 3 + i, none⟩ = [Value.int .i64 k.kind, .int .i64 k.id, .int .i64 k.adv][i]? := fun i hi => by
      rw [hB.cell, Nat.zero_add, ← kyCells_at K j k hj i hi, ← h4, List.getElem?_take, if_pos (by omega)]
      simp
    have hb := hk k (List.mem_of_getElem? hj)
    exact ⟨hc 0 (by omega), hc 1 (by omega), hc 2 (by omega), hb.1, hb.2⟩
theorem right_id {x : La} (h : rightB x.h x.L x.M = true) : -9223372036854775808 ≤ (kyL x).id ∧ (kyL x).id ≤ 9223372036854775807 := by
  have := (right_facts h).2.2.2.2.1
  show -9223372036854775808 ≤ x.h.id ∧ x.h.id ≤ 9223372036854775807
  omega
theorem is_tick {w : World} {lo : Nat} {r : Rc} {x : La} (h : RcIs w lo r x) : RcIs w lo (tickR r) (tickL x) := by
  obtain ⟨e, h1⟩ := h
  unfold tickR tickL
  rw [e]
  split
  · exact ⟨rfl, h1⟩
  · exact ⟨e, h1⟩
theorem foot_tick (r : Rc) (q : Nat) : rcFoot (tickR r) q ↔ rcFoot r q := by
  unfold tickR
  split <;> exact Iff.rfl

theorem r7Tick_db {w : World} {lo g : Nat} {room : Int} {S : List La} {F : Nat → Prop} (h : RefDb w lo g room S F) : Calls Try.prog 20 #[.pointer (some ⟨g, 0, none⟩)] w
    fun e w' => ∃ A' m c', e = .returned (.slice A' m c') ∧ Kys w' w'.heap.size A' m (tickKeysL S) ∧ m ≤ c' ∧ c' ≤ maxLen ∧ RefDb w' lo g room (S.map tickL) F ∧ Chg F w w' := by
  obtain ⟨A, n, c, R, hB, hlg, hO, hA, h1, h2, h3, h4, hF⟩ := h
  have hl := hO.1
  rw [rcCells_length] at hl
  have hln := hA.1
  refine (r7tick_any g A n c room R lo w hB hO (by omega) (fun r hr => ?_)).mono ?_
  · obtain ⟨x, hx, hp⟩ := all2_mem hA hr
    rw [hp.1]
    exact right_age (h4 x hx)
  · rintro e w' ⟨A', m, c', rfl, hK, hO', hB', hg⟩
    have hcg : Chg (fun q => (Value.slice A n c).ownBlock = some q) w w' := Chg.of_grown hg (fun q hq => hq)
    have hcF : Chg F w w' := ⟨hcg.os, hcg.tape, hcg.output, hcg.size, fun q hq hn => hcg.block q hq (fun e => hn ((hF q).2 (.inr (.inl e))))⟩
    have hA' : All2 (RcIs w' lo) R S := all2_imp hA (fun r hr x hx => hx.chg hcg (fun q hq => hx.apart hO hq))
    rw [all2_keys (fun r x hp => hp.1) hA] at hK
    obtain ⟨k1, k2, k3⟩ := kys_own hK (fun k hk => by
      unfold tickKeysL at hk
      obtain ⟨x, hx, rfl⟩ := List.mem_map.1 hk
      exact right_id (h4 x (List.mem_filter.1 hx).1))
    refine ⟨A', m, c', rfl, k1, k2, k3, ⟨A, n, c, R.map tickR, hB', hlg, hO', hA'.map (fun r x hp => is_tick hp), sort_tick h1, by rw [List.length_map]; exact h2, h3, fun x hx => ?_, fun q => ?_⟩, hcF⟩
    · obtain ⟨y, hy, rfl⟩ := List.mem_map.1 hx
      exact right_tick (h4 y hy)
    · rw [hF q]
      constructor
      · rintro (h | h | ⟨r, hr, h⟩)
        · exact .inl h
        · exact .inr (.inl h)
        · exact .inr (.inr ⟨tickR r, List.mem_map.2 ⟨r, hr, rfl⟩, (foot_tick r q).2 h⟩)
      · rintro (h | h | ⟨r, hr, h⟩)
        · exact .inl h
        · exact .inr (.inl h)
        · obtain ⟨r', hr', rfl⟩ := List.mem_map.1 hr
          exact .inr (.inr ⟨r', hr', (foot_tick r' q).1 h⟩)

/-- A description, sealed. -/
def sealL (x : La) : La := ⟨sealHd x.h x.L x.M, x.L, x.M⟩
/-- What Put answers, and leaves. -/
def putE (room : Int) (S : List La) (x : La) : Int := if rightB x.h x.L x.M = false then 1 else if (getL S (kyL x)).isNone = true ∧ room ≤ (S.length : Int) then 7 else 0
def putS (room : Int) (S : List La) (x : La) : List La := if putE room S x = 0 then insL (sealL x) (dropL S (kyL x)) else S
theorem dropL_less {S : List La} {k : Ky} (hs : SortL S) {x : La} (h : getL S k = some x) : (dropL S k).length + 1 = S.length := by
  obtain ⟨h1, h2⟩ := getL_some h
  obtain ⟨j, hj⟩ := List.getElem?_of_mem h1
  rw [dropL_at hs hj h2, List.length_eraseIdx]
  have := (List.getElem?_eq_some_iff.1 hj).1
  rw [if_pos this]
  omega
theorem put_go {w : World} {lo g : Nat} {room : Int} {S : List La} {F : Nat → Prop} (hd : RefDb w lo g room S F) (hlo : lo ≤ w.heap.size) (h : Hd) (L : List Lk) (M : List Int) (A A' : Option Addr) (n c n' c' B : Nat) (hL : Lnk w B A n L) (hM : Row .i64 w B A' n' M) (hB : B ≤ lo) (hn : n ≤ 1000) (hn' : n' ≤ 1000)
    (hr : rightB h L M = true) (e1 : putE room S ⟨h, L, M⟩ = 0) (hfull : ¬ ((getL S (kyL ⟨h, L, M⟩)).isNone = true ∧ room ≤ (S.length : Int))) (hroom : ((dropL S (kyL ⟨h, L, M⟩)).length : Int) + 1 ≤ room) :
    Calls Try.prog 15 #[.pointer (some ⟨g, 0, none⟩), .agg #[.int .i64 h.age, .int .i64 h.kind, .int .i64 h.id, .int .i64 h.adv, .int .i64 h.seq, .int .i64 h.sum, .int .i64 h.long, .slice A n c, .slice A' n' c']] w
    fun e w' => e = .returned (.int .i64 (putE room S ⟨h, L, M⟩)) ∧ ∃ F', RefDb w' lo g room (putS room S ⟨h, L, M⟩) F' ∧ Chg F w w' ∧ ∀ q, F' q → F q ∨ w.heap.size ≤ q := by
  obtain ⟨A0, n0, c0, R, hDB, hlg, hO, hA, h1, h2, h3, h4, hF⟩ := hd
  have hl := hO.1
  rw [rcCells_length] at hl
  have hln := hA.1
  have hky : kyL ⟨h, L, M⟩ = keyH h := rfl
  rw [hky] at hfull hroom
  refine (r7put_ok g A0 n0 c0 room R lo h L M A A' n c n' c' B w hL hM (by omega) hn hn' hr hDB hO (by omega) (by omega) (fun e => hfull ?_)).mono ?_
  · rcases all2_find (fun r x hp => hp.1) hA h1 (keyH h) with ⟨g1, g2⟩ | ⟨j, r, x, g1, g2, g3, g4, _⟩
    · exact ⟨by rw [g1]; rfl, by omega⟩
    · omega
  · rintro e w' ⟨rfl, A3, n3, c3, x, hB', hO', hX, hg⟩
    have hcg : Chg (fun q => q = g) w w' := Chg.of_grown hg (fun q hq => by injection hq with hq; exact hq.symm)
    have hcF : Chg F w w' := ⟨hcg.os, hcg.tape, hcg.output, hcg.size, fun q hq hn => hcg.block q hq (fun e => hn ((hF q).2 (.inl e)))⟩
    have hA' : All2 (RcIs w' lo) R S := all2_imp hA (fun r hr x hx => hx.chg hcg (fun q hq e => hx.ne_db hDB hq e))
    have hxs : RcIs w' lo x (sealL ⟨h, L, M⟩) := ⟨hX.1, own_low hX.2.1 hlo, hX.2.2.1, own_low hX.2.2.2.1 hlo, hX.2.2.2.2⟩
    have hxk : keyH x.h = keyH h := by rw [hX.1]; rfl
    have e2 : putS room S ⟨h, L, M⟩ = insL (sealL ⟨h, L, M⟩) (dropL S (keyH h)) := by unfold putS; rw [e1, if_pos rfl]; rfl
    rw [e1, e2]
    have hks : kyL (sealL ⟨h, L, M⟩) = keyH h := rfl
    have hall : All2 (RcIs w' lo) (insR (keyH h) x (dropI R (findR R (keyH h)))) (insL (sealL ⟨h, L, M⟩) (dropL S (keyH h))) := by
      rw [← hxk]
      exact all2_ins (fun r x hp => hp.1) hxs (all2_drop (fun r x hp => hp.1) hA' h1 (keyH x.h))
    refine ⟨rfl, fun q => q = g ∨ (Value.slice A3 n3 c3).ownBlock = some q ∨ ∃ r ∈ insR (keyH h) x (dropI R (findR R (keyH h))), rcFoot r q, ⟨A3, n3, c3, _, hB', hlg, own_low hO' hlo, hall, sort_insL (sort_drop h1 _) (fun y hy => by rw [hks]; exact (mem_drop.1 hy).2), by rw [insL_length]; push_cast; exact hroom, h3, fun y hy => ?_, fun q => Iff.rfl⟩, hcF, fun q hq => ?_⟩
    · rcases mem_insL.1 hy with rfl | hy
      · show rightB (sealHd h L M) L M = true
        rw [right_seal]
        exact hr
      · exact h4 y (mem_drop.1 hy).1
    · rcases hq with hq | hq | ⟨r, hr, hq⟩
      · exact .inl ((hF q).2 (.inl hq))
      · exact .inr (hO'.lt q hq).1
      · rcases mem_insR hr with rfl | hr
        · rcases hq with hq | hq
          · exact .inr (hX.2.1.lt q hq).1
          · exact .inr (hX.2.2.2.1.lt q hq).1
        · exact .inl ((hF q).2 (.inr (.inr ⟨r, mem_dropI hr, hq⟩)))
theorem r7Put_db {w : World} {lo g : Nat} {room : Int} {S : List La} {F : Nat → Prop} (hd : RefDb w lo g room S F) (hlo : lo ≤ w.heap.size) (h : Hd) (L : List Lk) (M : List Int) (A A' : Option Addr) (n c n' c' B : Nat) (hL : Lnk w B A n L) (hM : Row .i64 w B A' n' M) (hB : B ≤ lo) (hn : n ≤ 1000) (hn' : n' ≤ 1000) :
    Calls Try.prog 15 #[.pointer (some ⟨g, 0, none⟩), .agg #[.int .i64 h.age, .int .i64 h.kind, .int .i64 h.id, .int .i64 h.adv, .int .i64 h.seq, .int .i64 h.sum, .int .i64 h.long, .slice A n c, .slice A' n' c']] w
    fun e w' => e = .returned (.int .i64 (putE room S ⟨h, L, M⟩)) ∧ ∃ F', RefDb w' lo g room (putS room S ⟨h, L, M⟩) F' ∧ Chg F w w' ∧ ∀ q, F' q → F q ∨ w.heap.size ≤ q := by
  have hd0 := hd
  obtain ⟨A0, n0, c0, R, hDB, hlg, hO, hA, h1, h2, h3, h4, hF⟩ := hd
  have hl := hO.1
  rw [rcCells_length] at hl
  have hln := hA.1
  cases hr : rightB h L M
  · have e1 : putE room S ⟨h, L, M⟩ = 1 := by unfold putE; rw [if_pos hr]
    have e2 : putS room S ⟨h, L, M⟩ = S := by unfold putS; rw [e1, if_neg (by decide)]
    rw [e1, e2]
    refine (r7put_no (.pointer (some ⟨g, 0, none⟩)) h L M A A' n c n' c' B w hL hM (by omega) hn hn' hr).mono ?_
    rintro e w' ⟨rfl, hb⟩
    exact ⟨rfl, F, hd0.chg (F' := fun _ => False) (Chg.of_below hb) (fun _ _ hf => hf), Chg.of_below hb, fun q hq => .inl hq⟩
  · have hky : kyL ⟨h, L, M⟩ = keyH h := rfl
    rcases all2_find (fun r x hp => hp.1) hA h1 (keyH h) with ⟨g1, g2⟩ | ⟨j, r, x, g1, g2, g3, g4, _⟩
    · by_cases hfull : room ≤ (S.length : Int)
      · have e1 : putE room S ⟨h, L, M⟩ = 7 := by unfold putE; rw [if_neg (by rw [hr]; decide), if_pos ⟨by rw [hky, g1]; rfl, hfull⟩]
        have e2 : putS room S ⟨h, L, M⟩ = S := by unfold putS; rw [e1, if_neg (by decide)]
        rw [e1, e2]
        refine (r7put_full g A0 n0 c0 room R lo h L M A A' n c n' c' B w hL hM (by omega) hn hn' hr hDB hO (by omega) g2 (by omega)).mono ?_
        rintro e w' ⟨rfl, hb⟩
        exact ⟨rfl, F, hd0.chg (F' := fun _ => False) (Chg.of_below hb) (fun _ _ hf => hf), Chg.of_below hb, fun q hq => .inl hq⟩
      · have e1 : putE room S ⟨h, L, M⟩ = 0 := by unfold putE; rw [if_neg (by rw [hr]; decide), if_neg (fun e => hfull e.2)]
        exact put_go hd0 hlo h L M A A' n c n' c' B hL hM hB hn hn' hr e1 (by rw [hky]; exact fun e => hfull e.2) (by rw [hky, dropL_none (getL_none.1 g1)]; omega)
    · have e1 : putE room S ⟨h, L, M⟩ = 0 := by unfold putE; rw [if_neg (by rw [hr]; decide), if_neg (fun e => by have := e.1; rw [hky, g1] at this; cases this)]
      exact put_go hd0 hlo h L M A A' n c n' c' B hL hM hB hn hn' hr e1 (by rw [hky, g1]; exact fun e => by cases e.1) (by rw [hky]; have := dropL_less h1 g1; omega)
end Go.Proofs.Ytiibefgdlmjdgaa
namespace Go.Proofs.Ytiibefgdlmjdgaa
open Go.RowKit

/-- A key of three numbers of 64 bits. -/
def wfKy (k : Ky) : Prop := (-9223372036854775808 ≤ k.kind ∧ k.kind ≤ 9223372036854775807) ∧ (-9223372036854775808 ≤ k.id ∧ k.id ≤ 9223372036854775807) ∧ (-9223372036854775808 ≤ k.adv ∧ k.adv ≤ 9223372036854775807)
/-- What Get answers. -/
def GetOk (w : World) (S : List La) (k : Ky) (e : Ending) (w' : World) : Prop :=
  (getL S k = none ∧ e = .returned (.tuple #[.agg #[.int .i64 0, .int .i64 0, .int .i64 0, .int .i64 0, .int .i64 0, .int .i64 0, .int .i64 0, .slice none 0 0, .slice none 0 0], .bool false])) ∨
  ∃ (x : La) (A : Option Addr) (n c : Nat) (A' : Option Addr) (n' c' : Nat), getL S k = some x ∧ e = .returned (.tuple #[.agg #[.int .i64 x.h.age, .int .i64 x.h.kind, .int .i64 x.h.id, .int .i64 x.h.adv, .int .i64 x.h.seq, .int .i64 x.h.sum, .int .i64 x.h.long, .slice A n c, .slice A' n' c'], .bool true]) ∧ w'.ownsRow w.heap.size 61 4 (.slice A n c) n (lkCells x.L) ∧ x.L.length = n ∧ w'.ownsRow w.heap.size 3 1 (.slice A' n' c') n' (x.M.map (Value.int .i64)) ∧ x.M.length = n'
/-- The program's calls on a database, as what they make of the list that it holds. -/
structure DevOk (Dv : World → Nat → Nat → Int → List La → (Nat → Prop) → Prop) : Prop where
  foot : ∀ {w : World} {lo p : Nat} {room : Int} {S : List La} {F : Nat → Prop}, Dv w lo p room S F → ∀ {q : Nat}, F q → lo ≤ q ∧ q < w.heap.size
  chg : ∀ {w w' : World} {lo p : Nat} {room : Int} {S : List La} {F F' : Nat → Prop}, Dv w lo p room S F → Chg F' w w' → (∀ q, F q → ¬ F' q) → Dv w' lo p room S F
  new : ∀ (r : Int) (w : World), Calls Try.prog 11 #[.int .i64 r] w fun e w' => ∃ (p : Nat) (F : Nat → Prop), e = .returned (.pointer (some ⟨p, 0, none⟩)) ∧ Below w.heap.size w w' ∧ Dv w' w.heap.size p (roomOf r) [] F
  put : ∀ {w : World} {lo p : Nat} {room : Int} {S : List La} {F : Nat → Prop}, Dv w lo p room S F → SortL S → lo ≤ w.heap.size → ∀ (h : Hd) (L : List Lk) (M : List Int) (A A' : Option Addr) (n c n' c' B : Nat), Lnk w B A n L → Row .i64 w B A' n' M → B ≤ lo → n ≤ 50 → n' ≤ 50 →
    Calls Try.prog 14 #[(.pointer (some ⟨p, 0, none⟩)), .agg #[.int .i64 h.age, .int .i64 h.kind, .int .i64 h.id, .int .i64 h.adv, .int .i64 h.seq, .int .i64 h.sum, .int .i64 h.long, .slice A n c, .slice A' n' c']] w fun e w' => e = .returned (.int .i64 (putE room S ⟨h, L, M⟩)) ∧ ∃ F', Dv w' lo p room (putS room S ⟨h, L, M⟩) F' ∧ Chg F w w' ∧ ∀ q, F' q → F q ∨ w.heap.size ≤ q
  drop : ∀ {w : World} {lo p : Nat} {room : Int} {S : List La} {F : Nat → Prop}, Dv w lo p room S F → SortL S → lo ≤ w.heap.size → ∀ (k : Ky), wfKy k →
    Calls Try.prog 16 #[(.pointer (some ⟨p, 0, none⟩)), .agg #[.int .i64 k.kind, .int .i64 k.id, .int .i64 k.adv]] w fun e w' => e = .returned (.bool (getL S k).isSome) ∧ ∃ F', Dv w' lo p room (dropL S k) F' ∧ Chg F w w' ∧ ∀ q, F' q → F q ∨ w.heap.size ≤ q
  tick : ∀ {w : World} {lo p : Nat} {room : Int} {S : List La} {F : Nat → Prop}, Dv w lo p room S F → SortL S → (∀ x ∈ S, rightB x.h x.L x.M = true) → lo ≤ w.heap.size →
    Calls Try.prog 19 #[(.pointer (some ⟨p, 0, none⟩))] w fun e w' => ∃ (A' : Option Addr) (m c' : Nat), e = .returned (.slice A' m c') ∧ w'.ownsRow w.heap.size 38 3 (.slice A' m c') m (kyCells (tickKeysL S)) ∧ ∃ F', Dv w' lo p room (S.map tickL) F' ∧ Chg F w w' ∧ ∀ q, F' q → F q ∨ w.heap.size ≤ q
  get : ∀ {w : World} {lo p : Nat} {room : Int} {S : List La} {F : Nat → Prop}, Dv w lo p room S F → SortL S → ∀ (k : Ky), wfKy k →
    Calls Try.prog 21 #[(.pointer (some ⟨p, 0, none⟩)), .agg #[.int .i64 k.kind, .int .i64 k.id, .int .i64 k.adv]] w fun e w' => Below w.heap.size w w' ∧ GetOk w S k e w'
  all : ∀ {w : World} {lo p : Nat} {room : Int} {S : List La} {F : Nat → Prop}, Dv w lo p room S F → SortL S →
    Calls Try.prog 25 #[(.pointer (some ⟨p, 0, none⟩))] w fun e w' => ∃ (A : Option Addr) (n c : Nat) (R : List Rc), e = .returned (.slice A n c) ∧ Below w.heap.size w w' ∧ w'.ownsRow w.heap.size 34 9 (.slice A n c) n (rcCells R) ∧ All2 (RcIs w' w.heap.size) R S
  len : ∀ {w : World} {lo p : Nat} {room : Int} {S : List La} {F : Nat → Prop}, Dv w lo p room S F →
    Calls Try.prog 26 #[(.pointer (some ⟨p, 0, none⟩))] w fun e w' => e = .returned (.int .i64 (S.length : Int)) ∧ Below w.heap.size w w'

set_option maxRecDepth 8000 in
set_option maxHeartbeats 2000000 in
theorem keyOf_any (h : Hd) (w : World) : Calls Try.prog 13 #[.agg #[.int .i64 h.age, .int .i64 h.kind, .int .i64 h.id, .int .i64 h.adv, .int .i64 h.seq, .int .i64 h.sum, .int .i64 h.long]] w
    fun e w' => e = .returned (.agg #[.int .i64 h.kind, .int .i64 h.id, .int .i64 h.adv]) ∧ Below w.heap.size w w' := by
  have B0 := Lib.hid (below_new2 w (.cells #[.int .i64 h.age, .int .i64 h.kind, .int .i64 h.id, .int .i64 h.adv, .int .i64 h.seq, .int .i64 h.sum, .int .i64 h.long] 30) (.cells #[.int .i64 h.kind, .int .i64 h.id, .int .i64 h.adv] 38))
  go_enter Try.func13, Try.ntmps13
  go_wp2
  refine bodyPost_ret (v := .agg #[.int .i64 h.kind, .int .i64 h.id, .int .i64 h.adv]) (by simp [results, Try.results13, go_sem, *]) rfl ?_
  exact ⟨rfl, B0.out⟩

/-- The keys that Tick told, read. -/
theorem tick_kys {w : World} {base n c : Nat} {A : Option Addr} {S : List La} (hr : ∀ x ∈ S, rightB x.h x.L x.M = true) (h : w.ownsRow base 38 3 (.slice A n c) n (kyCells (tickKeysL S))) : Kys w w.heap.size A n (tickKeysL S) ∧ n ≤ c ∧ c ≤ maxLen :=
  kys_own h (fun k hk => by
    unfold tickKeysL at hk
    obtain ⟨x, hx, rfl⟩ := List.mem_map.1 hk
    exact right_id (hr x (List.mem_filter.1 hx).1))
/-- The example's description, and what comes of it. -/
def exL : La := ⟨⟨59, 1, 1, 1, 0, 0, 0⟩, [], []⟩
theorem exL_put : putE 3 [] exL = 0 := by decide
theorem exL_S : putS 3 [] exL = [sealL exL] := by
  unfold putS
  rw [exL_put, if_pos rfl]
  rfl
theorem exL_keys : tickKeysL [sealL exL] = [⟨1, 1, 1⟩] := by
  unfold tickKeysL
  rw [List.filter_cons, if_pos (by show decide ((59 : Int) = 59) = true; decide)]
  rfl
theorem exL_tick : tickKeysL ([sealL exL].map tickL) = [] := by
  unfold tickKeysL
  rw [List.map_cons, List.filter_cons, if_neg]
  · rfl
  · unfold tickL
    rw [if_pos (by show (59 : Int) < 60; decide)]
    show ¬ decide ((59 : Int) + 1 = 59) = true
    decide
theorem exL_sort : SortL [sealL exL] := by simp [SortL]
theorem exL_right : ∀ x ∈ [sealL exL], rightB x.h x.L x.M = true := by
  intro x hx
  simp at hx
  subst hx
  show rightB (sealHd exL.h exL.L exL.M) exL.L exL.M = true
  rw [right_seal]
  decide

set_option maxRecDepth 8000 in
set_option maxHeartbeats 4000000 in
theorem wakes_dev {Dv : World → Nat → Nat → Int → List La → (Nat → Prop) → Prop} (D : DevOk Dv) (w : World) : Calls Try.prog 9 #[] w fun e w' => e = .returned (.bool true) ∧ Below w.heap.size w w' := by
  go_enter Try.func9, Try.ntmps9
  go_wp2_with fail
  refine (D.new 3 _).mono ?_
  rintro e1 w1 ⟨p, F1, rfl, hb1, hd1⟩
  have H1 := Lib.hid hd1
  have B1 := Lib.hid hb1
  have hs1 := hb1.size
  clear hd1 hb1
  go_wp2_with fail
  refine (D.put H1.out List.Pairwise.nil hs1 exL.h [] [] none none 0 0 0 0 0 Lnk.nil Row.nil (Nat.zero_le _) (by omega) (by omega)).mono ?_
  rintro e2 w2 ⟨rfl, F2, hd2, hc2, hg2⟩
  have hr3 : roomOf 3 = 3 := by decide
  rw [hr3] at hd2 ⊢
  rw [show putE 3 [] ⟨exL.h, [], []⟩ = 0 from exL_put]
  rw [show putS 3 [] ⟨exL.h, [], []⟩ = [sealL exL] from exL_S] at hd2
  have H2 := Lib.hid hd2
  have B2 := Lib.hid (B1.out.trans (hc2.to_below (fun q hq => (D.foot H1.out hq).1) hs1))
  have hs2 := B2.out.size
  clear hd2 hc2 hg2
  go_wp2_with fail
  refine (D.tick H2.out exL_sort exL_right hs2).mono ?_
  rintro e3 w3 ⟨A3, m3, c3, rfl, hok3, F3, hd3, hcg3, hg3⟩
  obtain ⟨hk3, hm3, hc3⟩ := tick_kys exL_right hok3
  rw [exL_keys] at hk3
  have hm1 : m3 = 1 := hk3.1.symm
  subst hm1
  obtain ⟨b, o, x, rfl, hbb, hx, hat⟩ := Arr.at hk3 (j := 0) (by omega)
  simp at hx
  subst hx
  obtain ⟨y0, y1, y2, -, -⟩ := hat
  rw [Nat.zero_mul, Nat.add_zero] at y0 y1 y2
  dsimp only at y0 y1 y2
  have H3 := Lib.hid hd3
  have B3 := Lib.hid (B2.out.trans (hcg3.to_below (fun q hq => (D.foot H2.out hq).1) hs2))
  have hs3 := B3.out.size
  unfold maxLen at hc3
  clear hd3 hcg3 hg3 hk3 hok3
  go_wp2_with fail
  refine (D.tick H3.out (sort_tick exL_sort) (fun x hx => by
    obtain ⟨y, hy, rfl⟩ := List.mem_map.1 hx
    exact right_tick (exL_right y hy)) hs3).mono ?_
  rintro e4 w4 ⟨A4, m4, c4, rfl, hok4, F4, hd4, hcg4, hg4⟩
  obtain ⟨hk4, hm4, hc4⟩ := tick_kys (fun x hx => by
    obtain ⟨y, hy, rfl⟩ := List.mem_map.1 hx
    exact right_tick (exL_right y hy)) hok4
  rw [exL_tick] at hk4
  have hm0 : m4 = 0 := hk4.1.symm
  subst hm0
  have B4 := Lib.hid (B3.out.trans (hcg4.to_below (fun q hq => (D.foot H3.out hq).1) hs3))
  clear hd4 hcg4 hg4 hk4 hok4
  go_wp2
  go_ret
  exact ⟨rfl, B4.out⟩
end Go.Proofs.Ytiibefgdlmjdgaa
namespace Go.Proofs.Ytiibefgdlmjdgaa
open Go.RowKit

/-- A sealed description, of age a, but at most 60. -/
def agd (h : Hd) (L : List Lk) (M : List Int) (a : Int) : La := ⟨⟨if a < 60 then a else 60, h.kind, h.id, h.adv, h.seq, lsaSum h L M, 20 + ((bodyBytes h L M).length : Int)⟩, L, M⟩
theorem agd_seal {h : Hd} {L : List Lk} {M : List Int} (ha : h.age ≤ 60) : sealL ⟨h, L, M⟩ = agd h L M h.age := by
  have e : (if h.age < 60 then h.age else 60) = h.age := by
    split
    · rfl
    · omega
  unfold agd
  rw [e]
  rfl
theorem agd_tick {h : Hd} {L : List Lk} {M : List Int} {a : Int} : tickL (agd h L M a) = agd h L M (a + 1) := by
  have e : ∀ b : Int, (agd h L M b).h.age = if b < 60 then b else 60 := fun _ => rfl
  unfold tickL
  rw [e]
  by_cases h1 : a < 60
  · rw [if_pos h1, if_pos h1]
    unfold agd
    rw [if_pos h1]
    by_cases h2 : a + 1 < 60
    · rw [if_pos h2]
    · rw [if_neg h2]
      have : a + 1 = 60 := by omega
      simp only [this]
  · rw [if_neg h1, if_neg (by decide)]
    unfold agd
    rw [if_neg h1, if_neg (by omega)]
theorem agd_keys {h : Hd} {L : List Lk} {M : List Int} {a : Int} : (tickKeysL [agd h L M a]).length = if a = 59 then 1 else 0 := by
  have e : (agd h L M a).h.age = if a < 60 then a else 60 := rfl
  unfold tickKeysL
  rw [List.filter_cons]
  by_cases h1 : a = 59
  · rw [if_pos (by rw [e, h1]; decide), if_pos h1]
    rfl
  · rw [if_neg (by
      rw [e, decide_eq_true_iff]
      split <;> omega), if_neg h1]
    rfl
theorem agd_get {h : Hd} {L : List Lk} {M : List Int} {a : Int} : getL [agd h L M a] ⟨h.kind, h.id, h.adv⟩ = some (agd h L M a) := by
  have : sameKy (kyL (agd h L M a)) ⟨h.kind, h.id, h.adv⟩ = true := (sameKy_iff _ _).2 rfl
  simp [getL, this]
theorem right_wf {h : Hd} {L : List Lk} {M : List Int} (hr : rightB h L M = true) : wfKy ⟨h.kind, h.id, h.adv⟩ := by
  obtain ⟨_, h2, h3, _, h5, _, _⟩ := right_facts hr
  refine ⟨?_, ?_, ?_⟩ <;> dsimp only <;> omega
theorem right_newage {a k i v s x y a' x' y' : Int} {L : List Lk} {M : List Int} (h : rightB ⟨a, k, i, v, s, x, y⟩ L M = true) (h0 : 0 ≤ a') (h1 : a' ≤ 60) : rightB ⟨a', k, i, v, s, x', y'⟩ L M = true := by
  unfold rightB headB at h ⊢
  rw [Bool.and_eq_true, Bool.and_eq_true] at h ⊢
  exact ⟨⟨(inB_iff _ _ _).2 ⟨h0, h1⟩, h.1.2⟩, h.2⟩
theorem agd_right {h : Hd} {L : List Lk} {M : List Int} {a : Int} (hr : rightB h L M = true) (ha : 0 ≤ a) : ∀ x ∈ [agd h L M a], rightB x.h x.L x.M = true := by
  intro x hx
  simp at hx
  subst hx
  obtain ⟨a0, k, i, v, s, x, y⟩ := h
  exact right_newage hr (by split <;> omega) (by split <;> omega)

set_option maxRecDepth 100000 in
set_option maxHeartbeats 16000000 in
theorem ages_walk {Dv : World → Nat → Nat → Int → List La → (Nat → Prop) → Prop} (D : DevOk Dv) (h : Hd) (L : List Lk) (M : List Int) (A A' : Option Addr) (n c n' c' : Nat) (z : Int) (w : World) (hL : Lnk w w.heap.size A n L) (hM : Row .i64 w w.heap.size A' n' M) (hn : n ≤ maxLen) (hn' : n' ≤ maxLen) (hz0 : 0 ≤ z) (hz1 : z ≤ 255) :
    Calls Try.prog 5 #[.agg #[.int .i64 h.age, .int .i64 h.kind, .int .i64 h.id, .int .i64 h.adv, .int .i64 h.seq, .int .i64 h.sum, .int .i64 h.long, .slice A n c, .slice A' n' c'], .int .u8 z] w fun e w' => e = .returned (.bool true) ∧ Below w.heap.size w w' := by
  have HL := Lib.hid hL
  have HM := Lib.hid hM
  have HN := Lib.hid hn
  have HN' := Lib.hid hn'
  clear hL hM hn hn'
  have K0 := Lib.hid (Blk.new w 34 #[.int .i64 h.age, .int .i64 h.kind, .int .i64 h.id, .int .i64 h.adv, .int .i64 h.seq, .int .i64 h.sum, .int .i64 h.long, .slice A n c, .slice A' n' c'])
  have B0 := Lib.hid ((Below.refl w.heap.size w).alloc (Nat.le_refl _) (.cells #[.int .i64 h.age, .int .i64 h.kind, .int .i64 h.id, .int .i64 h.adv, .int .i64 h.seq, .int .i64 h.sum, .int .i64 h.long, .slice A n c, .slice A' n' c'] 34))
  go_enter Try.func5, Try.ntmps5
  go_wp2_with fail
  have hl0 := K0.out.lt
  have hs0 := B0.out.size
  refine (wakes_dev D _).mono ?_
  rintro e1 w1 ⟨rfl, hb1⟩
  have B1 := Lib.hid (B0.out.trans (hb1.mono hs0))
  have K1 := Lib.hid (K0.out.below hb1 hl0)
  have hs1 := B1.out.size
  have hl1 := K1.out.lt
  clear hb1 K0 B0 hl0 hs0
  go_wp2_with (refine wpList_load_rc (r := ⟨h, ⟨A, n, c⟩, ⟨A', n', c'⟩⟩) (by rfl) (.tmp 2) rfl (by rfl) (rcAt_blk K1.out) ?_)
  refine (refRight_any h L M A A' n c n' c' w.heap.size _ (HL.out.below B1.out) (HM.out.below B1.out) hs1 HN.out HN'.out).mono ?_
  rintro e2 w2 ⟨rfl, hb2⟩
  have B2 := Lib.hid (B1.out.trans (hb2.mono hs1))
  have K2 := Lib.hid (K1.out.below hb2 hl1)
  have hs2 := B2.out.size
  have hl2 := K2.out.lt
  clear hb2 K1 B1 hl1 hs1
  cases hr : rightB h L M
  · go_wp2
    go_ret
    exact ⟨rfl, B2.out⟩
  have HR := Lib.hid hr
  have hage := (right_facts hr).1
  have hsh := right_short (x := ⟨h, L, M⟩) hr
  have hn50 : n ≤ 50 := by
    obtain ⟨_, h2, _, _, _, h6, h7⟩ := right_facts hr
    have := HL.out.1
    by_cases hk : h.kind = 1
    · have := (h6 hk).2.1
      omega
    · rw [(h7 (by omega)).1] at this
      simp at this
      omega
  have hn50' : n' ≤ 50 := by
    obtain ⟨_, h2, _, _, _, h6, h7⟩ := right_facts hr
    have := HM.out.1
    by_cases hk : h.kind = 1
    · rw [(h6 hk).1] at this
      simp at this
      omega
    · have := rise_len M 0 (h7 (by omega)).2 (by omega)
      omega
  clear hr
  go_wp2_with fail
  refine (D.new 1 _).mono ?_
  rintro e3 w3 ⟨p, F3, rfl, hb3, hd3⟩
  rw [show roomOf 1 = 1 by decide] at hd3
  have HD3 := Lib.hid hd3
  have B3 := Lib.hid (B2.out.trans (hb3.mono hs2))
  have K3 := Lib.hid (K2.out.below hb3 hl2)
  have hs23 := hb3.size
  have hs3 := B3.out.size
  have hl3 := K3.out.lt
  clear hd3 hb3 K2 B2
  go_wp2_with (refine wpList_load_rc (r := ⟨h, ⟨A, n, c⟩, ⟨A', n', c'⟩⟩) (by rfl) (.tmp 2) rfl (by rfl) (rcAt_blk K3.out) ?_)
  refine (D.put HD3.out List.Pairwise.nil (by omega) h L M A A' n c n' c' w.heap.size (HL.out.below B3.out) (HM.out.below B3.out) (by omega) hn50 hn50').mono ?_
  rintro e4 w4 ⟨rfl, F4, hd4, hc4, hg4⟩
  have hpe : putE 1 [] ⟨h, L, M⟩ = 0 := by
    unfold putE
    rw [if_neg (by rw [HR.out]; decide), if_neg (fun e => absurd e.2 (by decide))]
  have hps : putS 1 [] ⟨h, L, M⟩ = [agd h L M h.age] := by
    unfold putS
    rw [hpe, if_pos rfl, agd_seal hage.2]
    rfl
  rw [hps] at hd4
  rw [hpe]
  have B34 := Lib.hid (hc4.to_below (fun q hq => (D.foot HD3.out hq).1) hs23)
  have HD4 := Lib.hid hd4
  have B4 := Lib.hid (B3.out.trans (B34.out.mono hs2))
  have K4 := Lib.hid (K3.out.below B34.out (by omega))
  have hs4 := B4.out.size
  have hs34 := B34.out.size
  have hl4 := K4.out.lt
  clear hd4 hc4 hg4 HD3 K3 B34 hpe hps
  obtain ⟨k0, k1, k2, k3, k4, k5, k6, k7, k8⟩ := K4.out.nine
  go_wp2_with fail
  clear k0 k1 k2 k3 k4 k5 k6 k7 k8
  go_loopw [6] (fun i wr => ∃ (a : Int) (F : Nat → Prop), i = .int .i64 a ∧ h.age ≤ a ∧ a ≤ 68 ∧ Hid (Dv wr w2.heap.size p 1 [agd h L M a] F) ∧ Hid (Below w2.heap.size w4 wr)) (fun i _ => (80 - intOf i).toNat)
  case atStart => exact ⟨h.age, F4, rfl, by omega, by omega, HD4, Lib.hid (Below.refl _ _)⟩
  case round =>
    obtain ⟨a, F, rfl, ha0, ha1, HDa, hb⟩ := hrel
    have hsz := hb.out.size
    have Kr := Lib.hid (K4.out.below hb.out (by omega))
    have Br := Lib.hid (B4.out.trans (hb.out.mono hs2))
    have hlr := Kr.out.lt
    by_cases hlt : a < 60 + z % 9
    · go_wp2_with fail
      refine (D.tick HDa.out (by simp [SortL]) (agd_right HR.out (by omega)) (by omega)).mono ?_
      rintro e5 w5 ⟨A5, m5, c5, rfl, hok5, F5, hd5, hcg5, hg5⟩
      obtain ⟨hk5, hm5, hc5⟩ := tick_kys (agd_right HR.out (by omega)) hok5
      have hml : m5 = if a = 59 then 1 else 0 := by rw [← hk5.1, agd_keys]
      have HD5 := Lib.hid (show Dv w5 w2.heap.size p 1 [agd h L M (a + 1)] F5 by
        rw [← agd_tick]
        exact hd5)
      have Bt := Lib.hid (hcg5.to_below (fun q hq => (D.foot HDa.out hq).1) (by omega))
      have K5 := Lib.hid (Kr.out.below Bt.out (by omega))
      have B5 := Lib.hid (Br.out.trans (Bt.out.mono hs2))
      have hb5 := Lib.hid (hb.out.trans Bt.out)
      have hs5 := B5.out.size
      have hs5' := Bt.out.size
      have hl5 := K5.out.lt
      clear hk5 hok5 hd5 hcg5 hg5 HDa Bt
      unfold maxLen at hc5
      obtain ⟨tv, q1, q2⟩ : ∃ tv : Bool, ((m5 : Int) == 1) = tv ∧ (a == 59) = tv := by
        refine ⟨_, rfl, ?_⟩
        rw [hml]
        by_cases h9 : a = 59 <;> simp [h9]
      have q3 : (tv != tv) = false := by cases tv <;> rfl
      have q4 : (!(tv == tv)) = false := by cases tv <;> rfl
      clear hml
      obtain ⟨k0, k1, k2, k3, k4, k5, k6, k7, k8⟩ := K5.out.nine
      go_wp2_with fail
      refine (keyOf_any h _).mono ?_
      rintro e6 w6 ⟨rfl, hb6⟩
      have B56 := Lib.hid (hb6.mono (show w2.heap.size ≤ w5.heap.size by omega))
      have HD6 := Lib.hid (D.chg HD5.out (F' := fun _ => False) (Chg.of_below hb6) (fun _ _ hf => hf))
      have hs6 := hb6.size
      clear hb6 HD5
      go_wp2_with fail
      refine (D.get HD6.out (by simp [SortL]) ⟨h.kind, h.id, h.adv⟩ (right_wf HR.out)).mono ?_
      rintro e7 w7 ⟨hb7, hget⟩
      have HD7 := Lib.hid (D.chg HD6.out (F' := fun _ => False) (Chg.of_below hb7) (fun _ _ hf => hf))
      have Bl7 := Lib.hid (hb5.out.trans (B56.out.trans (hb7.mono (by omega))))
      have hs7 := hb7.size
      clear hb7 HD6
      rcases hget with ⟨hno, -⟩ | ⟨x, Ax, nx, cx, Ax', nx', cx', hx, rfl, -, -, -, -⟩
      · rw [agd_get] at hno
        cases hno
      · rw [agd_get] at hx
        injection hx with hx
        subst hx
        have hxa : (agd h L M (a + 1)).h.age = if a + 1 < 60 then a + 1 else 60 := rfl
        obtain ⟨v, hv⟩ : ∃ v, (agd h L M (a + 1)).h.age = v := ⟨_, rfl⟩
        rw [hv] at hxa ⊢
        generalize (agd h L M (a + 1)).h.kind = x1
        generalize (agd h L M (a + 1)).h.id = x2
        generalize (agd h L M (a + 1)).h.adv = x3
        generalize (agd h L M (a + 1)).h.seq = x4
        generalize (agd h L M (a + 1)).h.sum = x5
        generalize (agd h L M (a + 1)).h.long = x6
        clear hv
        have hal := Lib.hid (Bl7.out.alloc (by omega) (.cells #[.int .i64 v, .int .i64 x1, .int .i64 x2, .int .i64 x3, .int .i64 x4, .int .i64 x5, .int .i64 x6, .slice Ax nx cx, .slice Ax' nx' cx'] 34))
        have HD8 := Lib.hid (D.chg HD7.out (F' := fun _ => False) (w' := w7.alloc (.cells #[.int .i64 v, .int .i64 x1, .int .i64 x2, .int .i64 x3, .int .i64 x4, .int .i64 x5, .int .i64 x6, .slice Ax nx cx, .slice Ax' nx' cx'] 34)) (Chg.of_below ((Below.refl _ _).alloc (Nat.le_refl _) _)) (fun _ _ hf => hf))
        by_cases h60 : a + 1 ≤ 60
        · have hva : v = a + 1 := by
            rw [hxa]
            split <;> omega
          clear hxa
          subst hva
          have dne : ((a + 1) != (a + 1)) = false := by simp
          go_wp2
          all_goals go_roundw
          case rel => exact ⟨a + 1, F5, by go_num, by omega, by omega, HD8, hal⟩
          case measure => simp [intOf]; omega
        · have hva : v = 60 := by
            rw [hxa]
            split <;> omega
          clear hxa
          subst hva
          go_wp2
          all_goals go_roundw
          case rel => exact ⟨a + 1, F5, by go_num, by omega, by omega, HD8, hal⟩
          case measure => simp [intOf]; omega
    · go_wp2
      go_ret
      exact ⟨rfl, Br.out⟩
end Go.Proofs.Ytiibefgdlmjdgaa
namespace Go.Proofs.Ytiibefgdlmjdgaa
open Go.RowKit

/-- What the reference's Get and GetHead answer. -/
def GotR (w : World) (h : Hd) (L : List Lk) (M : List Int) (e : Int) (x : Ending) (w' : World) : Prop :=
  ∃ A n c A' n' c', x = .returned (.agg #[.int .i64 h.age, .int .i64 h.kind, .int .i64 h.id, .int .i64 h.adv, .int .i64 h.seq, .int .i64 h.sum, .int .i64 h.long, .slice A n c, .slice A' n' c', .int .i64 e]) ∧ w'.ownsRow w.heap.size 61 4 (.slice A n c) n (lkCells L) ∧ L.length = n ∧ w'.ownsRow w.heap.size 3 1 (.slice A' n' c') n' (M.map (Value.int .i64)) ∧ M.length = n' ∧ Below w.heap.size w w'
theorem gotR_head {w w' : World} {h : Hd} {e : Int} (hb : Below w.heap.size w w') : GotR w h [] [] e (.returned (.agg #[.int .i64 h.age, .int .i64 h.kind, .int .i64 h.id, .int .i64 h.adv, .int .i64 h.seq, .int .i64 h.sum, .int .i64 h.long, .slice none 0 0, .slice none 0 0, .int .i64 e])) w' :=
  ⟨none, 0, 0, none, 0, 0, rfl, World.ownsRow_nil _ _ _ _, rfl, World.ownsRow_nil _ _ _ _, rfl, hb⟩

theorem Blk.ten {w : World} {g : Nat} {t : TypeId} {a0 a1 a2 a3 a4 a5 a6 a7 a8 a9 : Value} (h : Blk w g t #[a0, a1, a2, a3, a4, a5, a6, a7, a8, a9]) :
    w.cell? ⟨g, 0, none⟩ = some a0 ∧ w.cell? ⟨g, 1, none⟩ = some a1 ∧ w.cell? ⟨g, 2, none⟩ = some a2 ∧ w.cell? ⟨g, 3, none⟩ = some a3 ∧ w.cell? ⟨g, 4, none⟩ = some a4 ∧ w.cell? ⟨g, 5, none⟩ = some a5 ∧ w.cell? ⟨g, 6, none⟩ = some a6 ∧ w.cell? ⟨g, 7, none⟩ = some a7 ∧ w.cell? ⟨g, 8, none⟩ = some a8 ∧ w.cell? ⟨g, 9, none⟩ = some a9 :=
  ⟨h.cell 0, h.cell 1, h.cell 2, h.cell 3, h.cell 4, h.cell 5, h.cell 6, h.cell 7, h.cell 8, h.cell 9⟩
theorem Blk.tenF {w : World} {g : Nat} {t : TypeId} {cs : Array Value} (h : Blk w g t cs) :
    w.frozen? ⟨g, 0, none⟩ = false ∧ w.frozen? ⟨g, 1, none⟩ = false ∧ w.frozen? ⟨g, 2, none⟩ = false ∧ w.frozen? ⟨g, 3, none⟩ = false ∧ w.frozen? ⟨g, 4, none⟩ = false ∧ w.frozen? ⟨g, 5, none⟩ = false ∧ w.frozen? ⟨g, 6, none⟩ = false ∧ w.frozen? ⟨g, 7, none⟩ = false ∧ w.frozen? ⟨g, 8, none⟩ = false ∧ w.frozen? ⟨g, 9, none⟩ = false :=
  ⟨h.frozen 0, h.frozen 1, h.frozen 2, h.frozen 3, h.frozen 4, h.frozen 5, h.frozen 6, h.frozen 7, h.frozen 8, h.frozen 9⟩

end Go.Proofs.Ytiibefgdlmjdgaa
