/- The program's keys: the keys of all that a database holds, in order. Conditions: what the words say. · Heads in memory; the order of two of them, as the program's function literal tells it; the library's stable sort of a row of them. Conditions: at most 1000 heads. · The walk of the statement DbActs, of any database that does what it must. Conditions: the slice reads as acts. · Keys and heads compared by ==; rows written over; the library's Compact of a row of keys. Conditions: what the words say; at most 1000 keys. · Lacks. Conditions: at most 100 heads, keys of 64 bits, ages from 0 to 60 where they are compared. · The reference's small calls: a head's key, which key is ahead, whether lists of heads are alike; whether there is more than a statement takes. Conditions: at most 1000 heads. -/
import Derived.Deep.DeepCutAuto
import Derived.Sort.Lot0
import Derived.Sort.LotA
import Derived.StillTail
import Derived.Shelf.SlSortCmp.QuietGrown
import Derived.Test.YtndjoanlbaiaeaaChecked
import Derived.Lib.Hide
import Derived.BigRegion
import Derived.Deep.LoopGhost
import Derived.Deep.CutBlock
import Derived.StillTailTactics
import Derived.Deep.QuietTactic
import Derived.Laws.StructEq
import Derived.ChangeKeysEq
import Derived.Lib.SliceRun
import Derived.WalkKit
import Derived.WalkLawsBesides
import Derived.BigQuiet
import Derived.OpenShut
import Derived.Deep.MidRow
import Derived.Deep.Slices
import Derived.Deep.Fields
import Derived.IntWalk
import Derived.Test.YtndjoanlbaiaeaaJah
namespace Go.Proofs.Ytndjoanlbaiaeaa
open Go.RowKit
open Go.Maps (Keyed)

/-- Keys collected so far. -/
def Coll (D : DataW Value) (left : Lit → Bool) (ks : List Ky) : Prop :=
  (∀ k ∈ ks, wfKy k) ∧ ks.Pairwise (· ≠ ·) ∧ ∀ k, wfKy k → (k ∈ ks ↔ Maps.has D (kyLit k) = true ∧ left (kyLit k) = false)
theorem Coll.start (D : DataW Value) : Coll D (Maps.has D) [] :=
  ⟨fun k h => (by cases h), List.Pairwise.nil, fun k _ => ⟨fun h => (by cases h), fun h => by rw [h.1] at h; exact absurd h.2 (by decide)⟩⟩
theorem Coll.step {D : DataW Value} {left : Lit → Bool} {ks : List Ky} (h : Coll D left ks) {x : Ky} (hx : wfKy x) (hl : left (kyLit x) = true) {y : DataW Value} (hat : ∀ zd, D.atKey (kyLit x) zd = y) :
    Coll D (fun z => left z && !z.sameKey (kyLit x)) (ks ++ [x]) := by
  obtain ⟨h1, h2, h3⟩ := h
  have hh : Maps.has D (kyLit x) = true := Maps.has_true_of_atKey hat
  have hnx : x ∉ ks := fun hm => by
    have := ((h3 x hx).1 hm).2
    rw [hl] at this
    cases this
  refine ⟨fun k hk => ?_, ?_, fun k hk => ?_⟩
  · rcases List.mem_append.1 hk with hk | hk
    · exact h1 k hk
    · rw [List.mem_singleton.1 hk]
      exact hx
  · rw [List.pairwise_append]
    refine ⟨h2, List.pairwise_singleton _ _, fun a ha b hb e => ?_⟩
    rw [List.mem_singleton.1 hb] at e
    exact hnx (e ▸ ha)
  · rw [List.mem_append, List.mem_singleton]
    show k ∈ ks ∨ k = x ↔ _ ∧ (left (kyLit k) && !(kyLit k).sameKey (kyLit x)) = false
    rw [sameKey_ky hk hx]
    constructor
    · rintro (hk' | rfl)
      · obtain ⟨e1, e2⟩ := (h3 k hk).1 hk'
        exact ⟨e1, by rw [e2]; rfl⟩
      · exact ⟨hh, by rw [(sameKy_iff k k).2 rfl, hl]; rfl⟩
    · rintro ⟨e1, e2⟩
      cases hs : sameKy k x
      · rw [hs] at e2
        simp at e2
        exact .inl ((h3 k hk).2 ⟨e1, e2⟩)
      · exact .inr ((sameKy_iff _ _).1 hs)
theorem ky_ext : ∀ {A B : List Ky}, A.Pairwise (fun a b => lessKy a b = true) → B.Pairwise (fun a b => lessKy a b = true) → (∀ x, x ∈ A ↔ x ∈ B) → A = B
  | [], B, _, _, h => by
    cases B with
    | nil => rfl
    | cons y T => exact absurd ((h y).2 (by simp)) (by simp)
  | x :: S, [], _, _, h => absurd ((h x).1 (by simp)) (by simp)
  | x :: S, y :: T, hs, ht, h => by
    obtain ⟨hs1, hs2⟩ := List.pairwise_cons.1 hs
    obtain ⟨ht1, ht2⟩ := List.pairwise_cons.1 ht
    have hxy : x = y := by
      rcases List.mem_cons.1 ((h x).1 (by simp)) with e | hx
      · exact e
      · rcases List.mem_cons.1 ((h y).2 (by simp)) with e | hy
        · exact e.symm
        · have := lessKy_trans (ht1 x hx) (hs1 y hy)
          rw [lessKy_irrefl] at this
          cases this
    subst hxy
    congr 1
    refine ky_ext hs2 ht2 (fun z => ?_)
    constructor
    · intro hz
      rcases List.mem_cons.1 ((h z).1 (by simp [hz])) with e | hz'
      · subst e
        have := hs1 z hz
        rw [lessKy_irrefl] at this
        cases this
      · exact hz'
    · intro hz
      rcases List.mem_cons.1 ((h z).2 (by simp [hz])) with e | hz'
      · subst e
        have := ht1 z hz
        rw [lessKy_irrefl] at this
        cases this
      · exact hz'
end Go.Proofs.Ytndjoanlbaiaeaa
namespace Go.Proofs.Ytndjoanlbaiaeaa
open Go.RowKit Go.Lib Go.Sort

section
variable {α : Type} {enc : α → List Value} {k : Nat}
/-- The cells of items, one behind the other. -/
def cellsBy (enc : α → List Value) (L : List α) : List Value := L.flatMap enc
theorem by_cons (x : α) (L : List α) : cellsBy enc (x :: L) = enc x ++ cellsBy enc L := by simp [cellsBy]
theorem by_append (L M : List α) : cellsBy enc (L ++ M) = cellsBy enc L ++ cellsBy enc M := by simp [cellsBy]
theorem by_one (x : α) : cellsBy enc [x] = enc x := by simp [cellsBy]
theorem by_length (hk : ∀ x, (enc x).length = k) (L : List α) : (cellsBy enc L).length = L.length * k := by
  induction L with
  | nil => simp [cellsBy]
  | cons x L ih => rw [by_cons, List.length_append, ih, hk, List.length_cons, Nat.succ_mul, Nat.add_comm]
theorem by_ones (h1 : ∀ x, ∀ v ∈ enc x, v.oneCell' = true) (L : List α) : ∀ v ∈ cellsBy enc L, v.oneCell' = true := by
  intro v hv
  obtain ⟨x, _, hx⟩ := List.mem_flatMap.1 hv
  exact h1 x v hx
theorem by_at (hk : ∀ x, (enc x).length = k) : ∀ (L : List α) (j : Nat) (x : α), L[j]? = some x → ∀ i, i < k → (cellsBy enc L)[j * k + i]? = (enc x)[i]?
  | [], j, x, h, i, hi => by simp at h
  | y :: L, 0, x, h, i, hi => by
    simp at h
    subst h
    rw [by_cons, Nat.zero_mul, Nat.zero_add, List.getElem?_append_left (by rw [hk]; exact hi)]
  | y :: L, j + 1, x, h, i, hi => by
    have := by_at hk L j x (by simpa using h) i hi
    rw [by_cons, List.getElem?_append_right (by rw [hk, Nat.succ_mul]; omega), hk, ← this]
    congr 1
    rw [Nat.succ_mul]
    omega
/-- A row of the call's own, item j of it. -/
theorem own_item {w : World} {base n : Nat} {ty : TypeId} {A : Option Addr} {c : Nat} {L : List α} (hk : ∀ x, (enc x).length = k) (hk0 : 0 < k) (h : w.ownsRow base ty k (.slice A n c) n (cellsBy enc L)) {j : Nat} {x : α} (hj : L[j]? = some x) :
    ∃ g, A = some ⟨g, 0, none⟩ ∧ base ≤ g ∧ g < w.heap.size ∧ n ≤ c ∧ c ≤ maxLen ∧ ∀ i, i < k → w.cell? ⟨g, j * k + i, none⟩ = (enc x)[i]? := by
  have hl := h.1
  rw [by_length hk] at hl
  have hln : L.length = n := Nat.eq_of_mul_eq_mul_right hk0 hl
  have hjl := (List.getElem?_eq_some_iff.1 hj).1
  rcases h.2 with ⟨_, hn⟩ | ⟨g, cap, cur, hv, hb, hg, h1, h2, h3, h4⟩
  · omega
  · cases hv
    refine ⟨g, rfl, hb, (Array.getElem?_eq_some_iff.1 hg).1, h1, h2, fun i hi => ?_⟩
    have hB : Blk w g ty cur := hg
    have hlt : j * k + i < n * k := by
      have : (j + 1) * k ≤ n * k := Nat.mul_le_mul_right k (by omega)
      rw [Nat.succ_mul] at this
      omega
    rw [hB.cell, ← by_at hk L j x hj i hi, ← h4, List.getElem?_take, if_pos hlt]
    simp
theorem own_lenH {w : World} {base n : Nat} {ty : TypeId} {v : Value} {L : List α} (hk : ∀ x, (enc x).length = k) (hk0 : 0 < k) (h : w.ownsRow base ty k v n (cellsBy enc L)) : L.length = n := by
  have hl := h.1
  rw [by_length hk] at hl
  exact Nat.eq_of_mul_eq_mul_right hk0 hl
end

instance : Inhabited Hd := ⟨⟨0, 0, 0, 0, 0, 0, 0⟩⟩
end Go.Proofs.Ytndjoanlbaiaeaa
namespace Go.Proofs.Ytndjoanlbaiaeaa
open Go.RowKit

theorem blk_range7 {w : World} {g : Nat} {t : TypeId} {cs : Array Value} (h : Blk w g t cs) : w.rangeAt g 0 cs.toList := fun j v hj => by
  have := h.cell j
  rw [Nat.zero_add, this]
  simpa using hj
end Go.Proofs.Ytndjoanlbaiaeaa
namespace Go.Proofs.Ytndjoanlbaiaeaa
open Go.RowKit Go.Lib Go.Sort Go.Deep

theorem underKy : Try.prog.underlying 34 = some (.struct (Try.prog.fieldsOf 34)) := by kernel_rfl
theorem stoodKy : Try.prog.stoodInHeld 34 = false := by kernel_rfl
theorem plainI : Try.prog.plainKey 3 = true := by kernel_rfl
theorem eqIntK (W : World) (a b : Int) : (Op.equalIn (9998 + 1) 3 (.int .i64 a) (.int .i64 b)).run Try.prog W = .ok (a == b) W := run_equalIn_int W 9998 _ .i64 .i64 a b Try.underlying3
theorem equalKy (x y : Ky) (W : World) : (Op.equalIn 10000 34 (.agg #[.int .i64 x.kind, .int .i64 x.id, .int .i64 x.adv]) (.agg #[.int .i64 y.kind, .int .i64 y.id, .int .i64 y.adv])).run Try.prog W = .ok (sameKy x y) W := by
  have q0 : ∀ z : Ky, (part 3 #[.int .i64 z.kind, .int .i64 z.id, .int .i64 z.adv] 0).run Try.prog W = .ok (.int .i64 z.kind) W := fun z => run_part_plain W plainI rfl
  have q1 : ∀ z : Ky, (part 3 #[.int .i64 z.kind, .int .i64 z.id, .int .i64 z.adv] 1).run Try.prog W = .ok (.int .i64 z.id) W := fun z => run_part_plain W plainI rfl
  have q2 : ∀ z : Ky, (part 3 #[.int .i64 z.kind, .int .i64 z.id, .int .i64 z.adv] 2).run Try.prog W = .ok (.int .i64 z.adv) W := fun z => run_part_plain W plainI rfl
  rw [show (10000 : Nat) = 9998 + 1 + 1 from rfl, run_equalIn_struct W (9998 + 1) _ _ _ underKy stoodKy]
  simp [Program.fieldsOf, Try.underlying34, Op.eqFields, q0, q1, q2, eqIntK]
  clear q0 q1 q2
  unfold sameKy
  by_cases h1 : x.kind = y.kind
  · by_cases h2 : x.id = y.id
    · by_cases h3 : x.adv = y.adv <;> simp [h1, h2, h3]
    · simp [h1, h2]
  · simp [h1]
instance : DecidableEq Ky := fun a b => decidable_of_iff _ (sameKy_iff a b)
instance : DecidableEq Hd := fun a b => decidable_of_iff _ (sameHd_iff a b)
theorem sameKy_dec (a b : Ky) : sameKy a b = decide (a = b) := by
  cases h : sameKy a b
  · exact (decide_eq_false fun e => by rw [(sameKy_iff _ _).2 e] at h; cases h).symm
  · exact (decide_eq_true ((sameKy_iff _ _).1 h)).symm

theorem own_setH {w : World} {base n size b c : Nat} {t : TypeId} {xs : List Value} (h : w.ownsRow base t size (.slice (some ⟨b, 0, none⟩) n c) n xs) (p : Nat) (u : Value) :
    (w.setCell ⟨b, p, none⟩ u).ownsRow base t size (.slice (some ⟨b, 0, none⟩) n c) n (xs.set p u) := by
  refine ⟨by rw [List.length_set]; exact h.1, ?_⟩
  rcases h.2 with ⟨hv, _⟩ | ⟨g, cap, cur, hv, hb, hg, h1, h2, h3, h4⟩
  · cases hv
  · injection hv with e1 e2 e3
    injection e1 with e1
    injection e1 with e1
    subst e1 e3
    have hB : Blk w b t cur := hg
    refine .inr ⟨b, c, cur.setIfInBounds p u, rfl, hb, hB.put p u, h1, h2, by simpa using h3, ?_⟩
    rw [← h4]
    simp [List.take_set]
def setAll : List Value → Nat → List Value → List Value
  | xs, _, [] => xs
  | xs, p, v :: r => setAll (xs.set p v) (p + 1) r
theorem own_setCells {b c n size base : Nat} {t : TypeId} : ∀ (vs : List Value) (p : Nat) (w : World) (xs : List Value), w.ownsRow base t size (.slice (some ⟨b, 0, none⟩) n c) n xs → (w.setCells b p vs).ownsRow base t size (.slice (some ⟨b, 0, none⟩) n c) n (setAll xs p vs)
  | [], _, _, _, h => h
  | v :: r, p, _, _, h => own_setCells r (p + 1) _ _ (own_setH h p v)
theorem setAll_take : ∀ (vs xs : List Value) (p m : Nat), m ≤ p → (setAll xs p vs).take m = xs.take m
  | [], _, _, _, _ => rfl
  | v :: r, xs, p, m, h => by
    unfold setAll
    rw [setAll_take r _ (p + 1) m (by omega), List.take_set_of_le h]
theorem chg_setCells (g : Nat) : ∀ (vs : List Value) (p : Nat) (w : World), Chg (fun q => q = g) w (w.setCells g p vs)
  | [], _, w => Chg.refl _ w
  | v :: r, p, w => by
    have h1 : Chg (fun q => q = g) w (w.setCell ⟨g, p, none⟩ v) := ⟨rfl, rfl, rfl, by simp, fun q hq hne => Below.heap_setCell _ _ _ _ hne⟩
    exact h1.trans (chg_setCells g r (p + 1) _) (fun _ h => .inl h)
/-- A row of keys of the call's own, item j of it. -/
theorem own_kyH {w : World} {base n c : Nat} {A : Option Addr} {K : List Ky} (h : w.ownsRow base 34 3 (.slice A n c) n (kyCells K)) {j : Nat} {k : Ky} (hj : K[j]? = some k) :
    ∃ g, A = some ⟨g, 0, none⟩ ∧ base ≤ g ∧ g < w.heap.size ∧ n ≤ c ∧ c ≤ maxLen ∧ w.cell? ⟨g, j * 3, none⟩ = some (.int .i64 k.kind) ∧ w.cell? ⟨g, j * 3 + 1, none⟩ = some (.int .i64 k.id) ∧ w.cell? ⟨g, j * 3 + 2, none⟩ = some (.int .i64 k.adv) := by
  have hl := h.1
  rw [kyCells_length] at hl
  have hjl := (List.getElem?_eq_some_iff.1 hj).1
  rcases h.2 with ⟨_, hn⟩ | ⟨g, cap, cur, hv, hb, hg, h1, h2, h3, h4⟩
  · omega
  · cases hv
    have hB : Blk w g 34 cur := hg
    have hc : ∀ i, i < 3 → w.cell? ⟨g, j * 3 + i, none⟩ = [Value.int .i64 k.kind, .int .i64 k.id, .int .i64 k.adv][i]? := fun i hi => by
      rw [hB.cell, ← kyCells_at K j k hj i hi, ← h4, List.getElem?_take, if_pos (by omega)]
      simp
    exact ⟨g, rfl, hb, (Array.getElem?_eq_some_iff.1 hg).1, h1, h2, hc 0 (by omega), hc 1 (by omega), hc 2 (by omega)⟩
theorem own_cutK {w : World} {base n c m g : Nat} {t : TypeId} {size : Nat} {xs : List Value} (h : w.ownsRow base t size (.slice (some ⟨g, 0, none⟩) n c) n xs) (hm : m ≤ n) : w.ownsRow base t size (.slice (some ⟨g, 0, none⟩) m c) m (xs.take (m * size)) := by
  have hms : m * size ≤ n * size := Nat.mul_le_mul_right _ hm
  refine ⟨by rw [List.length_take, h.1]; omega, ?_⟩
  rcases h.2 with ⟨hv, _⟩ | ⟨g', cap, cur, hv, hb, hg, h1, h2, h3, h4⟩
  · cases hv
  · cases hv
    refine .inr ⟨g, c, cur, rfl, hb, hg, by omega, h2, h3, ?_⟩
    rw [← h4, List.take_take, Nat.min_eq_left hms]
end Go.Proofs.Ytndjoanlbaiaeaa
namespace Go.Proofs.Ytndjoanlbaiaeaa
open Go.RowKit Go.Lib Go.Sort Go.Deep

theorem setAll_is (post : List Value) : ∀ (vs rest pre : List Value), rest.length = vs.length → setAll (pre ++ rest ++ post) pre.length vs = pre ++ vs ++ post
  | [], rest, pre, hl => by
    have : rest = [] := List.eq_nil_of_length_eq_zero hl
    subst this
    rfl
  | v :: r, [], pre, hl => by simp at hl
  | v :: r, u :: rest, pre, hl => by
    have h2 := setAll_is post r rest (pre ++ [v]) (by simpa using hl)
    rw [List.length_append, List.length_singleton] at h2
    unfold setAll
    have e : (pre ++ u :: rest ++ post).set pre.length v = (pre ++ [v]) ++ rest ++ post := by simp
    rw [e, h2]
    simp

theorem own_thereH {w : World} {base n c k size g : Nat} {t : TypeId} {xs : List Value} (h : w.ownsRow base t size (.slice (some ⟨g, 0, none⟩) n c) n xs) (hk : k < n) : w.there g (k * size) size := by
  rcases h.2 with ⟨hv, _⟩ | ⟨g', cap, cur, hv, hb, hg, h1, h2, h3, h4⟩
  · cases hv
  · cases hv
    have hB : Blk w g t cur := hg
    have h5 : (k + 1) * size ≤ c * size := Nat.mul_le_mul_right _ (by omega)
    rw [Nat.succ_mul] at h5
    intro j hj
    refine ⟨?_, hB.frozen _⟩
    rw [hB.cell, Array.getElem?_eq_getElem (by omega)]
    rfl
end Go.Proofs.Ytndjoanlbaiaeaa
namespace Go.Proofs.Ytndjoanlbaiaeaa
open Go.RowKit Go.Lib Go.Sort Go.Deep

theorem below_grown13 {w w' : World} (h : ∃ q os', w' = grow (w.drewN q) os') : Below w.heap.size w w' := by
  obtain ⟨q, os, rfl⟩ := h
  exact ⟨rfl, rfl, rfl, by rw [Go.Sort.size_grow]; exact Nat.le_add_right _ _, fun b hb => heap_grow_old _ _ (by exact hb)⟩
set_option maxRecDepth 8000 in
set_option maxHeartbeats 2000000 in
theorem less_grown (a b : Ky) (w : World) : Calls Try.prog 29 #[.agg #[.int .i64 a.kind, .int .i64 a.id, .int .i64 a.adv], .agg #[.int .i64 b.kind, .int .i64 b.id, .int .i64 b.adv]] w
    fun e w' => e = .returned (.bool (lessKy a b)) ∧ ∃ q os', w' = grow (w.drewN q) os' := by
  generalize hv : lessKy a b = v
  have HV := Lib.hid hv
  clear hv
  have HG := Lib.hid (show ∃ q os', (w.alloc (.cells #[.int .i64 a.kind, .int .i64 a.id, .int .i64 a.adv] 34)).alloc (.cells #[.int .i64 b.kind, .int .i64 b.id, .int .i64 b.adv] 34) = grow (w.drewN q) os' from ⟨0, _, by rw [alloc_eq_grow, alloc_eq_grow, grow_grow]; rfl⟩)
  go_enter Try.func29, Try.ntmps29
  by_cases h1 : a.kind = b.kind
  · have d1 : (a.kind != b.kind) = false := by simp [h1]
    by_cases h2 : a.id = b.id
    · have d2 : (a.id != b.id) = false := by simp [h2]
      have HC := Lib.hid (show decide (a.adv < b.adv) = v by rw [← HV.out, lessKy, if_neg (by simp [h1]), if_neg (by simp [h2])])
      clear h1 h2
      go_wp2
      go_ret
      exact ⟨ret_bool HC.out, HG.out⟩
    · have d2 : (a.id != b.id) = true := by simp [h2]
      have HC := Lib.hid (show decide (a.id < b.id) = v by rw [← HV.out, lessKy, if_neg (by simp [h1]), if_pos h2])
      clear h1 h2
      go_wp2
      go_ret
      exact ⟨ret_bool HC.out, HG.out⟩
  · have d1 : (a.kind != b.kind) = true := by simp [h1]
    have HC := Lib.hid (show decide (a.kind < b.kind) = v by rw [← HV.out, lessKy, if_pos h1])
    clear h1
    go_wp2
    go_ret
    exact ⟨ret_bool HC.out, HG.out⟩
end Go.Proofs.Ytndjoanlbaiaeaa
