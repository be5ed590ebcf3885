/- Keys and heads compared by ==; rows written over; the library's Compact of a row of keys. Conditions: what the words say; at most 1000 keys. · What a database lacks of a head; Get of one that is not there. Conditions: keys of 64 bits, ages from 0 to 60 where they are compared. · Lacks. Conditions: at most 100 heads, keys of 64 bits, ages from 0 to 60 where they are compared. · The reference's small calls: a head's key, which key is ahead, whether lists of heads are alike; whether there is more than a statement takes. Conditions: at most 1000 heads. · The reference's heads: those that are told, each put behind those of keys that aren't above its own. Conditions: at most 100 descriptions. -/
import Derived.Laws.StructEq
import Derived.ChangeKeysEq
import Derived.Lib.SlicesCompact
import Derived.Lib.SliceRun
import Derived.Deep.MidRow
import Derived.Test.YtfdfdmbnggpnbaaGreatJat
import Derived.Test.YtfdfdmbnggpnbaaGreatJao
namespace Go.Proofs.YtfdfdmbnggpnbaaGreat
open Go.RowKit Go.Lib Go.Sort Go.Deep

theorem underKy : Tryz.prog.underlying 48 = some (.struct (Tryz.prog.fieldsOf 48)) := by kernel_rfl
theorem stoodKy : Tryz.prog.stoodInHeld 48 = false := by kernel_rfl
theorem underHd : Tryz.prog.underlying 40 = some (.struct (Tryz.prog.fieldsOf 40)) := by kernel_rfl
theorem stoodHd : Tryz.prog.stoodInHeld 40 = false := by kernel_rfl
theorem plainI : Tryz.prog.plainKey 3 = true := by kernel_rfl
theorem eqIntK (W : World) (a b : Int) : (Op.equalIn (9998 + 1) 3 (.int .i64 a) (.int .i64 b)).run Tryz.prog W = .ok (a == b) W := run_equalIn_int W 9998 _ .i64 .i64 a b Tryz.underlying3
theorem equalKy (x y : Ky) (W : World) : (Op.equalIn 10000 48 (.agg #[.int .i64 x.kind, .int .i64 x.id, .int .i64 x.adv]) (.agg #[.int .i64 y.kind, .int .i64 y.id, .int .i64 y.adv])).run Tryz.prog W = .ok (sameKy x y) W := by
  have q0 : ∀ z : Ky, (part 3 #[.int .i64 z.kind, .int .i64 z.id, .int .i64 z.adv] 0).run Tryz.prog W = .ok (.int .i64 z.kind) W := fun z => run_part_plain W plainI rfl
  have q1 : ∀ z : Ky, (part 3 #[.int .i64 z.kind, .int .i64 z.id, .int .i64 z.adv] 1).run Tryz.prog W = .ok (.int .i64 z.id) W := fun z => run_part_plain W plainI rfl
  have q2 : ∀ z : Ky, (part 3 #[.int .i64 z.kind, .int .i64 z.id, .int .i64 z.adv] 2).run Tryz.prog W = .ok (.int .i64 z.adv) W := fun z => run_part_plain W plainI rfl
  rw [show (10000 : Nat) = 9998 + 1 + 1 from rfl, run_equalIn_struct W (9998 + 1) _ _ _ underKy stoodKy]
  simp [Program.fieldsOf, Tryz.underlying48, Op.eqFields, q0, q1, q2, eqIntK]
  clear q0 q1 q2
  unfold sameKy
  by_cases h1 : x.kind = y.kind
  · by_cases h2 : x.id = y.id
    · by_cases h3 : x.adv = y.adv <;> simp [h1, h2, h3]
    · simp [h1, h2]
  · simp [h1]
theorem equalHd (x y : Hd) (W : World) : (Op.equalIn 10000 40 (.agg #[.int .i64 x.age, .int .i64 x.kind, .int .i64 x.id, .int .i64 x.adv, .int .i64 x.seq, .int .i64 x.sum, .int .i64 x.long]) (.agg #[.int .i64 y.age, .int .i64 y.kind, .int .i64 y.id, .int .i64 y.adv, .int .i64 y.seq, .int .i64 y.sum, .int .i64 y.long])).run Tryz.prog W = .ok (sameHd x y) W := by
  have q0 : ∀ z : Hd, (part 3 #[.int .i64 z.age, .int .i64 z.kind, .int .i64 z.id, .int .i64 z.adv, .int .i64 z.seq, .int .i64 z.sum, .int .i64 z.long] 0).run Tryz.prog W = .ok (.int .i64 z.age) W := fun z => run_part_plain W plainI rfl
  have q1 : ∀ z : Hd, (part 3 #[.int .i64 z.age, .int .i64 z.kind, .int .i64 z.id, .int .i64 z.adv, .int .i64 z.seq, .int .i64 z.sum, .int .i64 z.long] 1).run Tryz.prog W = .ok (.int .i64 z.kind) W := fun z => run_part_plain W plainI rfl
  have q2 : ∀ z : Hd, (part 3 #[.int .i64 z.age, .int .i64 z.kind, .int .i64 z.id, .int .i64 z.adv, .int .i64 z.seq, .int .i64 z.sum, .int .i64 z.long] 2).run Tryz.prog W = .ok (.int .i64 z.id) W := fun z => run_part_plain W plainI rfl
  have q3 : ∀ z : Hd, (part 3 #[.int .i64 z.age, .int .i64 z.kind, .int .i64 z.id, .int .i64 z.adv, .int .i64 z.seq, .int .i64 z.sum, .int .i64 z.long] 3).run Tryz.prog W = .ok (.int .i64 z.adv) W := fun z => run_part_plain W plainI rfl
  have q4 : ∀ z : Hd, (part 3 #[.int .i64 z.age, .int .i64 z.kind, .int .i64 z.id, .int .i64 z.adv, .int .i64 z.seq, .int .i64 z.sum, .int .i64 z.long] 4).run Tryz.prog W = .ok (.int .i64 z.seq) W := fun z => run_part_plain W plainI rfl
  have q5 : ∀ z : Hd, (part 3 #[.int .i64 z.age, .int .i64 z.kind, .int .i64 z.id, .int .i64 z.adv, .int .i64 z.seq, .int .i64 z.sum, .int .i64 z.long] 5).run Tryz.prog W = .ok (.int .i64 z.sum) W := fun z => run_part_plain W plainI rfl
  have q6 : ∀ z : Hd, (part 3 #[.int .i64 z.age, .int .i64 z.kind, .int .i64 z.id, .int .i64 z.adv, .int .i64 z.seq, .int .i64 z.sum, .int .i64 z.long] 6).run Tryz.prog W = .ok (.int .i64 z.long) W := fun z => run_part_plain W plainI rfl
  rw [show (10000 : Nat) = 9998 + 1 + 1 from rfl, run_equalIn_struct W (9998 + 1) _ _ _ underHd stoodHd]
  simp [Program.fieldsOf, Tryz.underlying40, Op.eqFields, q0, q1, q2, q3, q4, q5, q6, eqIntK]
  clear q0 q1 q2 q3 q4 q5 q6
  unfold sameHd
  by_cases h1 : x.age = y.age
  · by_cases h2 : x.kind = y.kind
    · by_cases h3 : x.id = y.id
      · by_cases h4 : x.adv = y.adv
        · by_cases h5 : x.seq = y.seq
          · by_cases h6 : x.sum = y.sum
            · by_cases h7 : x.long = y.long <;> simp [h1, h2, h3, h4, h5, h6, h7]
            · simp [h1, h2, h3, h4, h5, h6]
          · simp [h1, h2, h3, h4, h5]
        · simp [h1, h2, h3, h4]
      · simp [h1, h2, h3]
    · simp [h1, h2]
  · simp [h1]
instance : DecidableEq Ky := fun a b => decidable_of_iff _ (sameKy_iff a b)
instance : DecidableEq Hd := fun a b => decidable_of_iff _ (sameHd_iff a b)
theorem own_setH {w : World} {base n size b c : Nat} {t : TypeId} {xs : List Value} (h : w.ownsRow base t size (.slice (some ⟨b, 0, none⟩) n c) n xs) (p : Nat) (u : Value) :
    (w.setCell ⟨b, p, none⟩ u).ownsRow base t size (.slice (some ⟨b, 0, none⟩) n c) n (xs.set p u) := by
  refine ⟨by rw [List.length_set]; exact h.1, ?_⟩
  rcases h.2 with ⟨hv, _⟩ | ⟨g, cap, cur, hv, hb, hg, h1, h2, h3, h4⟩
  · cases hv
  · injection hv with e1 e2 e3
    injection e1 with e1
    injection e1 with e1
    subst e1 e3
    have hB : Blk w b t cur := hg
    refine .inr ⟨b, c, cur.setIfInBounds p u, rfl, hb, hB.put p u, h1, h2, by simpa using h3, ?_⟩
    rw [← h4]
    simp [List.take_set]
def setAll : List Value → Nat → List Value → List Value
  | xs, _, [] => xs
  | xs, p, v :: r => setAll (xs.set p v) (p + 1) r
theorem own_setCells {b c n size base : Nat} {t : TypeId} : ∀ (vs : List Value) (p : Nat) (w : World) (xs : List Value), w.ownsRow base t size (.slice (some ⟨b, 0, none⟩) n c) n xs → (w.setCells b p vs).ownsRow base t size (.slice (some ⟨b, 0, none⟩) n c) n (setAll xs p vs)
  | [], _, _, _, h => h
  | v :: r, p, _, _, h => own_setCells r (p + 1) _ _ (own_setH h p v)
theorem setAll_take : ∀ (vs xs : List Value) (p m : Nat), m ≤ p → (setAll xs p vs).take m = xs.take m
  | [], _, _, _, _ => rfl
  | v :: r, xs, p, m, h => by
    unfold setAll
    rw [setAll_take r _ (p + 1) m (by omega), List.take_set_of_le h]
theorem chg_setCells (g : Nat) : ∀ (vs : List Value) (p : Nat) (w : World), Chg (fun q => q = g) w (w.setCells g p vs)
  | [], _, w => Chg.refl _ w
  | v :: r, p, w => by
    have h1 : Chg (fun q => q = g) w (w.setCell ⟨g, p, none⟩ v) := ⟨rfl, rfl, rfl, by simp, fun q hq hne => Below.heap_setCell _ _ _ _ hne⟩
    exact h1.trans (chg_setCells g r (p + 1) _) (fun _ h => .inl h)
theorem ky_set : ∀ (M : List Ky) (k : Nat) (y : Ky), k < M.length → kyCells (M.set k y) = (((kyCells M).set (k * 3) (.int .i64 y.kind)).set (k * 3 + 1) (.int .i64 y.id)).set (k * 3 + 2) (.int .i64 y.adv)
  | [], k, y, h => by simp at h
  | x :: M, 0, y, _ => by simp [kyCells_cons]
  | x :: M, k + 1, y, h => by
    have ih := ky_set M k y (by simpa using h)
    rw [List.set_cons_succ, kyCells_cons, ih, kyCells_cons]
    rw [show (k + 1) * 3 = k * 3 + 1 + 1 + 1 by omega]
    simp only [List.cons_append, List.nil_append, List.set_cons_succ]
/-- A row of keys of the call's own, item j of it. -/
theorem own_kyH {w : World} {base n c : Nat} {A : Option Addr} {K : List Ky} (h : w.ownsRow base 48 3 (.slice A n c) n (kyCells K)) {j : Nat} {k : Ky} (hj : K[j]? = some k) :
    ∃ g, A = some ⟨g, 0, none⟩ ∧ base ≤ g ∧ g < w.heap.size ∧ n ≤ c ∧ c ≤ maxLen ∧ w.cell? ⟨g, j * 3, none⟩ = some (.int .i64 k.kind) ∧ w.cell? ⟨g, j * 3 + 1, none⟩ = some (.int .i64 k.id) ∧ w.cell? ⟨g, j * 3 + 2, none⟩ = some (.int .i64 k.adv) := by
  have hl := h.1
  rw [kyCells_length] at hl
  have hjl := (List.getElem?_eq_some_iff.1 hj).1
  rcases h.2 with ⟨_, hn⟩ | ⟨g, cap, cur, hv, hb, hg, h1, h2, h3, h4⟩
  · omega
  · cases hv
    have hB : Blk w g 48 cur := hg
    have hc : ∀ i, i < 3 → w.cell? ⟨g, j * 3 + i, none⟩ = [Value.int .i64 k.kind, .int .i64 k.id, .int .i64 k.adv][i]? := fun i hi => by
      rw [hB.cell, ← kyCells_at K j k hj i hi, ← h4, List.getElem?_take, if_pos (by omega)]
      simp
    exact ⟨g, rfl, hb, (Array.getElem?_eq_some_iff.1 hg).1, h1, h2, hc 0 (by omega), hc 1 (by omega), hc 2 (by omega)⟩
theorem own_cutK {w : World} {base n c m g : Nat} {t : TypeId} {size : Nat} {xs : List Value} (h : w.ownsRow base t size (.slice (some ⟨g, 0, none⟩) n c) n xs) (hm : m ≤ n) : w.ownsRow base t size (.slice (some ⟨g, 0, none⟩) m c) m (xs.take (m * size)) := by
  have hms : m * size ≤ n * size := Nat.mul_le_mul_right _ hm
  refine ⟨by rw [List.length_take, h.1]; omega, ?_⟩
  rcases h.2 with ⟨hv, _⟩ | ⟨g', cap, cur, hv, hb, hg, h1, h2, h3, h4⟩
  · cases hv
  · cases hv
    refine .inr ⟨g, c, cur, rfl, hb, hg, by omega, h2, h3, ?_⟩
    rw [← h4, List.take_take, Nat.min_eq_left hms]
theorem zeros_ky (n : Nat) : (Builtin.zeroCells (Value.agg #[.int .i64 0, .int .i64 0, .int .i64 0]).cells n).toList = List.replicate (n * 3) (.int .i64 0) := by
  apply List.ext_getElem
  · simp [Builtin.zeroCells, Value.cells]
  · intro i h1 h2
    have hi : i % 3 = 0 ∨ i % 3 = 1 ∨ i % 3 = 2 := by omega
    simp [Builtin.zeroCells, Value.cells]
    rcases hi with h | h | h <;> rw [h] <;> rfl
/-- 'clear' of a part of a row of keys. -/
theorem run_clear_ky {w : World} {base n c g : Nat} {xs : List Value} (h : w.ownsRow base 48 3 (.slice (some ⟨g, 0, none⟩) n c) n xs) (kk c2 : Nat) (ty : TypeId) (hk : kk < n) :
    (Builtin.clear_ #[53] ty #[.slice (some ⟨g, kk * 3, none⟩) (n - kk) c2]).run Tryz.prog w = .ok (.tuple #[]) (w.setCells g (kk * 3) (List.replicate ((n - kk) * 3) (.int .i64 0))) := by
  rcases h.2 with ⟨hv, _⟩ | ⟨g', cap, cur, hv, hb, hg, h1, h2, h3, h4⟩
  · cases hv
  · cases hv
    have hB : Blk w g 48 cur := hg
    have hst := run_storeCells_cells (P := Tryz.prog) g (kk * 3) (List.replicate ((n - kk) * 3) (Value.int .i64 0)) 0 w (fun j hj => by
      rw [List.length_replicate] at hj
      rw [hB.cell, Nat.add_zero, Array.getElem?_eq_getElem (show kk * 3 + j < cur.size by omega)]
      rfl) (fun j _ => hB.frozen _) (fun v hv => by rw [List.eq_of_mem_replicate hv]; rfl)
    rw [Nat.add_zero] at hst
    obtain ⟨m, hm⟩ : ∃ m, n - kk = m + 1 := ⟨n - kk - 1, by omega⟩
    rw [hm] at hst ⊢
    simp [Builtin.clear_, run_underlying Tryz.underlying53, zeros_ky, hst]
end Go.Proofs.YtfdfdmbnggpnbaaGreat
namespace Go.Proofs.YtfdfdmbnggpnbaaGreat
open Go.RowKit Go.Lib Go.Sort Go.Deep

/-- Does a database that holds S lack a head? -/
def lackB (S : List La) (h : Hd) : Bool := match getL S (keyH h) with
  | none => true
  | some x => decide (0 < nw h x.h)
/-- At which place a key stands. -/
def placeK (out : List Hd) (k : Ky) : Option Nat := out.findIdx? fun h => sameKy (keyH h) k
/-- One head more. -/
def lackStep (S : List La) (out : List Hd) (h : Hd) : List Hd := if lackB S h = true then (match placeK out (keyH h) with
  | none => out ++ [h]
  | some i => match out[i]? with
    | some g => if 0 < nw h g then out.set i h else out
    | none => out) else out
/-- What it lacks of heads. -/
def lacksL (S : List La) (L : List Hd) : List Hd := L.foldl (lackStep S) []
theorem lacksL_snoc (S : List La) (L : List Hd) (h : Hd) : lacksL S (L ++ [h]) = lackStep S (lacksL S L) h := by
  unfold lacksL
  rw [List.foldl_append]
  rfl
/-- R tells at which place each key of out stands. -/
structure PlOk (out : List Hd) (R : List Pl) : Prop where
  len : R.length = out.length
  at_ : ∀ r ∈ R, ∃ h, out[r.i]? = some h ∧ keyH h = r.k
  of : ∀ i h, out[i]? = some h → ∃ r ∈ R, r.k = keyH h ∧ r.i = i
theorem PlOk.nil : PlOk [] [] := ⟨rfl, fun r hr => (by cases hr), fun i h hi => (by simp at hi)⟩
theorem PlOk.none {out : List Hd} {R : List Pl} (h : PlOk out R) {k : Ky} (hg : getP R k = none) : placeK out k = none ∧ ∀ x ∈ out, keyH x ≠ k := by
  have h1 : ∀ x ∈ out, keyH x ≠ k := fun x hx e => by
    obtain ⟨i, hi⟩ := List.getElem?_of_mem hx
    obtain ⟨r, hr, e1, -⟩ := h.of i x hi
    exact getP_none hg r hr (e1.trans e)
  refine ⟨?_, h1⟩
  unfold placeK
  rw [List.findIdx?_eq_none_iff]
  intro x hx
  cases hs : sameKy (keyH x) k
  · rfl
  · exact absurd ((sameKy_iff _ _).1 hs) (h1 x hx)
theorem PlOk.some {out : List Hd} {R : List Pl} (h : PlOk out R) (hn : R.Pairwise fun r s => r.k ≠ s.k) {k : Ky} {r : Pl} (hg : getP R k = some r) : placeK out k = some r.i ∧ ∃ g, out[r.i]? = some g ∧ keyH g = k := by
  obtain ⟨hr, e⟩ := getP_some hg
  obtain ⟨g, hg1, hg2⟩ := h.at_ r hr
  have hlt := (List.getElem?_eq_some_iff.1 hg1).1
  refine ⟨?_, g, hg1, hg2.trans e⟩
  unfold placeK
  rw [List.findIdx?_eq_some_iff_getElem]
  refine ⟨hlt, ?_, fun j hj => ?_⟩
  · rw [(List.getElem?_eq_some_iff.1 hg1).2, (sameKy_iff _ _).2 (hg2.trans e)]
  · intro hs
    have hjl : j < out.length := by omega
    obtain ⟨r2, hr2, e2, e3⟩ := h.of j out[j] (List.getElem?_eq_getElem hjl)
    have e4 : r2.k = r.k := by rw [e2, (sameKy_iff _ _).1 hs, e]
    have := pw_eq hn r2 hr2 r hr e4
    rw [this] at e3
    omega
theorem PlOk.snoc {out : List Hd} {R : List Pl} (h : PlOk out R) (x : Hd) (hg : getP R (keyH x) = Option.none) : PlOk (out ++ [x]) (⟨keyH x, out.length⟩ :: restP R (keyH x)) := by
  have hR : restP R (keyH x) = R := by
    unfold restP
    rw [List.filter_eq_self]
    intro s hs
    cases hk : sameKy s.k (keyH x)
    · rfl
    · exact absurd ((sameKy_iff _ _).1 hk) (getP_none hg s hs)
  rw [hR]
  refine ⟨by simp [h.len], fun r hr => ?_, fun i y hi => ?_⟩
  · rcases List.mem_cons.1 hr with rfl | hr
    · exact ⟨x, by simp, rfl⟩
    · obtain ⟨g, hg1, hg2⟩ := h.at_ r hr
      have hlt := (List.getElem?_eq_some_iff.1 hg1).1
      exact ⟨g, by rw [List.getElem?_append_left hlt]; exact hg1, hg2⟩
  · by_cases hlt : i < out.length
    · rw [List.getElem?_append_left hlt] at hi
      obtain ⟨r, hr, e1, e2⟩ := h.of i y hi
      exact ⟨r, List.mem_cons_of_mem _ hr, e1, e2⟩
    · rw [List.getElem?_append_right (by omega)] at hi
      have h0 : i - out.length = 0 := by
        rcases Nat.eq_zero_or_pos (i - out.length) with h0 | h0
        · exact h0
        · rw [List.getElem?_eq_none (by simp; omega)] at hi
          cases hi
      rw [h0] at hi
      injection hi with hi
      subst hi
      exact ⟨_, List.mem_cons_self, rfl, by show out.length = i; omega⟩
theorem PlOk.set {out : List Hd} {R : List Pl} (h : PlOk out R) {i : Nat} {g : Hd} (hi : out[i]? = Option.some g) (x : Hd) (hk : keyH x = keyH g) : PlOk (out.set i x) R := by
  have hlt := (List.getElem?_eq_some_iff.1 hi).1
  refine ⟨by rw [List.length_set]; exact h.len, fun r hr => ?_, fun j y hj => ?_⟩
  · obtain ⟨y, hy1, hy2⟩ := h.at_ r hr
    by_cases e : r.i = i
    · refine ⟨x, by rw [e, List.getElem?_set_self hlt], ?_⟩
      rw [hk, ← hy2]
      rw [e, hi] at hy1
      injection hy1 with hy1
      rw [hy1]
    · exact ⟨y, by rw [List.getElem?_set_ne (Ne.symm e)]; exact hy1, hy2⟩
  · by_cases e : j = i
    · subst e
      rw [List.getElem?_set_self hlt] at hj
      injection hj with hj
      subst hj
      obtain ⟨r, hr, e1, e2⟩ := h.of j g hi
      exact ⟨r, hr, e1.trans hk.symm, e2⟩
    · rw [List.getElem?_set_ne (Ne.symm e)] at hj
      exact h.of j y hj
def zeroLa : La := ⟨⟨0, 0, 0, 0, 0, 0, 0⟩, [], []⟩
/-- A database, or none, in memory. -/
def DbV (w : World) (v : Value) (S : List La) (F : Nat → Prop) : Prop := (v = .pointer none ∧ S = []) ∨ ∃ (lo p : Nat) (room : Int), v = .pointer (some ⟨p, 0, none⟩) ∧ PDb w lo p room S F ∧ SortL S
theorem DbV.below {w w' : World} {v : Value} {S : List La} {F : Nat → Prop} (h : DbV w v S F) (hb : Below w.heap.size w w') : DbV w' v S F := by
  rcases h with h | ⟨lo, p, room, e, hd, hs⟩
  · exact .inl h
  · exact .inr ⟨lo, p, room, e, hd.chg (Chg.of_below (F := fun _ => False) hb) (fun _ _ hf => hf), hs⟩
theorem get_nil (k : Ky) (w : World) : Calls Tryz.prog 16 #[.pointer none, .agg #[.int .i64 k.kind, .int .i64 k.id, .int .i64 k.adv]] w fun e w' => e = .returned (.tuple #[.agg #[.int .i64 0, .int .i64 0, .int .i64 0, .int .i64 0, .int .i64 0, .int .i64 0, .int .i64 0, .slice none 0 0, .slice none 0 0], .bool false]) ∧ Below w.heap.size w w' := by
  have B0 := Lib.hid (((Below.refl w.heap.size w).alloc (Nat.le_refl _) (.cells #[.int .i64 k.kind, .int .i64 k.id, .int .i64 k.adv] 48)).alloc (by simp) (.cells #[.int .i64 0, .int .i64 0, .int .i64 0, .int .i64 0, .int .i64 0, .int .i64 0, .int .i64 0, .slice none 0 0, .slice none 0 0] 44))
  have K1 := Blk.new (w.alloc (.cells #[.int .i64 k.kind, .int .i64 k.id, .int .i64 k.adv] 48)) 44 #[.int .i64 0, .int .i64 0, .int .i64 0, .int .i64 0, .int .i64 0, .int .i64 0, .int .i64 0, .slice none 0 0, .slice none 0 0]
  rw [show (w.alloc (.cells #[.int .i64 k.kind, .int .i64 k.id, .int .i64 k.adv] 48)).heap.size = w.heap.size + 1 by simp] at K1
  obtain ⟨o0, o1, o2, o3, o4, o5, o6, o7, o8⟩ := K1.nine
  clear K1
  go_enter Tryz.func16, Tryz.ntmps16
  go_wp2
  refine bodyPost_ret (v := .tuple #[.agg #[.int .i64 0, .int .i64 0, .int .i64 0, .int .i64 0, .int .i64 0, .int .i64 0, .int .i64 0, .slice none 0 0, .slice none 0 0], .bool false]) (by simp [results, Tryz.results16, go_sem, *]) rfl ?_
  exact ⟨rfl, B0.out⟩
theorem get_v {w : World} {v : Value} {S : List La} {F : Nat → Prop} (h : DbV w v S F) (k : Ky) (hk : wfKy k) :
    Calls Tryz.prog 16 #[v, .agg #[.int .i64 k.kind, .int .i64 k.id, .int .i64 k.adv]] w fun e w' => Below w.heap.size w w' ∧ ∃ (x : Option La) (A : Option Addr) (n c : Nat) (A' : Option Addr) (n' c' : Nat), x = getL S k ∧ e = .returned (.tuple #[.agg #[.int .i64 (x.getD zeroLa).h.age, .int .i64 (x.getD zeroLa).h.kind, .int .i64 (x.getD zeroLa).h.id, .int .i64 (x.getD zeroLa).h.adv, .int .i64 (x.getD zeroLa).h.seq, .int .i64 (x.getD zeroLa).h.sum, .int .i64 (x.getD zeroLa).h.long, .slice A n c, .slice A' n' c'], .bool x.isSome]) := by
  rcases h with ⟨rfl, rfl⟩ | ⟨lo, p, room, rfl, hd, hs⟩
  · refine (get_nil k w).mono ?_
    rintro e w' ⟨rfl, hb⟩
    exact ⟨hb, none, none, 0, 0, none, 0, 0, rfl, rfl⟩
  · refine (get_db hd hs k hk).mono ?_
    rintro e w' ⟨hb, hg⟩
    rcases hg with ⟨h1, rfl⟩ | ⟨x, A, n, c, A', n', c', h1, rfl, -⟩
    · exact ⟨hb, none, none, 0, 0, none, 0, 0, h1.symm, rfl⟩
    · exact ⟨hb, some x, A, n, c, A', n', c', h1.symm, rfl⟩
set_option maxRecDepth 8000 in
set_option maxHeartbeats 4000000 in
theorem lacks_any {w : World} {v : Value} {S : List La} {F : Nat → Prop} (h : DbV w v S F) (x : Hd) (hk : wfKy (keyH x)) (ha : ∀ y, getL S (keyH x) = some y → ageB x = true ∧ ageB y.h = true) :
    Calls Tryz.prog 24 #[v, .agg #[.int .i64 x.age, .int .i64 x.kind, .int .i64 x.id, .int .i64 x.adv, .int .i64 x.seq, .int .i64 x.sum, .int .i64 x.long]] w fun e w' => e = .returned (.bool (lackB S x)) ∧ Below w.heap.size w w' := by
  obtain ⟨r, hr⟩ : ∃ r, lackB S x = r := ⟨_, rfl⟩
  rw [hr]
  have HR := Lib.hid hr
  have HA := Lib.hid ha
  have HK := Lib.hid hk
  have B0 := Lib.hid ((Below.refl w.heap.size w).alloc (Nat.le_refl _) (.cells #[.int .i64 x.age, .int .i64 x.kind, .int .i64 x.id, .int .i64 x.adv, .int .i64 x.seq, .int .i64 x.sum, .int .i64 x.long] 40))
  have HD0 := Lib.hid (h.below B0.out)
  have K0 := Lib.hid (Blk.new w 40 #[.int .i64 x.age, .int .i64 x.kind, .int .i64 x.id, .int .i64 x.adv, .int .i64 x.seq, .int .i64 x.sum, .int .i64 x.long])
  have R0 := Lib.hid (blk_range7 K0.out)
  clear hr ha hk h
  go_enter Tryz.func24, Tryz.ntmps24
  go_wp2_with (first | refine wpList_load_row 40 _ _ (by rfl) (.tmp 3) rfl (by rfl) R0.out Tryz.underlying40 rfl (by kernel_rfl) ?_)
  refine (keyOf_any x _).mono ?_
  rintro e1 w1 ⟨rfl, hb1⟩
  generalize w.alloc (.cells #[.int .i64 x.age, .int .i64 x.kind, .int .i64 x.id, .int .i64 x.adv, .int .i64 x.seq, .int .i64 x.sum, .int .i64 x.long] 40) = w0 at *
  have hz0 := B0.out.size
  have B1 := Lib.hid (B0.out.trans (hb1.mono hz0))
  have D1 := Lib.hid (HD0.out.below hb1)
  have K1 := Lib.hid (K0.out.below hb1 K0.out.lt)
  clear hb1 R0 K0 B0 HD0 hz0
  go_wp2_with fail
  refine (get_v D1.out (keyH x) HK.out).mono ?_
  rintro e2 w2 ⟨hb2, y, A, n, c, A', n', c', hy, rfl⟩
  have B2 := Lib.hid (B1.out.trans (hb2.mono B1.out.size))
  have K2 := Lib.hid (K1.out.below hb2 K1.out.lt)
  have HY := Lib.hid hy
  clear hb2 K1 B1 D1 hy
  cases y with
  | none =>
    have HT := Lib.hid (show true = r by rw [← HR.out]; unfold lackB; rw [← HY.out])
    have B3 := Lib.hid (B2.out.alloc B2.out.size (.cells #[.int .i64 zeroLa.h.age, .int .i64 zeroLa.h.kind, .int .i64 zeroLa.h.id, .int .i64 zeroLa.h.adv, .int .i64 zeroLa.h.seq, .int .i64 zeroLa.h.sum, .int .i64 zeroLa.h.long, .slice A n c, .slice A' n' c'] 44))
    clear HR HA HY
    dsimp only [Option.getD_none, Option.isSome_none]
    go_wp2
    go_ret
    exact ⟨by rw [← HT.out]; rfl, B3.out⟩
  | some y =>
    have hab := HA.out y HY.out.symm
    have HT := Lib.hid (show decide (0 < nw x y.h) = r by rw [← HR.out]; unfold lackB; rw [← HY.out])
    have HAB := Lib.hid hab
    have B3 := Lib.hid (B2.out.alloc B2.out.size (.cells #[.int .i64 y.h.age, .int .i64 y.h.kind, .int .i64 y.h.id, .int .i64 y.h.adv, .int .i64 y.h.seq, .int .i64 y.h.sum, .int .i64 y.h.long, .slice A n c, .slice A' n' c'] 44))
    have K3 := Lib.hid (K2.out.alloc (.cells #[.int .i64 y.h.age, .int .i64 y.h.kind, .int .i64 y.h.id, .int .i64 y.h.adv, .int .i64 y.h.seq, .int .i64 y.h.sum, .int .i64 y.h.long, .slice A n c, .slice A' n' c'] 44))
    have R3 := Lib.hid (blk_range7 K3.out)
    have RX := Lib.hid (show (w2.alloc (.cells #[.int .i64 y.h.age, .int .i64 y.h.kind, .int .i64 y.h.id, .int .i64 y.h.adv, .int .i64 y.h.seq, .int .i64 y.h.sum, .int .i64 y.h.long, .slice A n c, .slice A' n' c'] 44)).rangeAt w2.heap.size 0 [.int .i64 y.h.age, .int .i64 y.h.kind, .int .i64 y.h.id, .int .i64 y.h.adv, .int .i64 y.h.seq, .int .i64 y.h.sum, .int .i64 y.h.long] from head_range (Blk.new w2 44 #[.int .i64 y.h.age, .int .i64 y.h.kind, .int .i64 y.h.id, .int .i64 y.h.adv, .int .i64 y.h.seq, .int .i64 y.h.sum, .int .i64 y.h.long, .slice A n c, .slice A' n' c']))
    clear HR HA HY hab K2 K3 B2
    dsimp only [Option.getD_some, Option.isSome_some]
    go_wp2_with (first | refine wpList_load_row 40 _ _ (by rfl) (.tmp 3) rfl (by rfl) R3.out Tryz.underlying40 rfl (by kernel_rfl) ?_ | refine wpList_load_row 40 _ _ (by rfl) (.tmp 18) rfl (by rfl) RX.out Tryz.underlying40 rfl (by kernel_rfl) ?_)
    refine (newer_any x y.h _ HAB.out.1 HAB.out.2).mono ?_
    rintro e3 w3 ⟨rfl, hb3⟩
    have B4 := Lib.hid (B3.out.trans (hb3.mono B3.out.size))
    clear hb3 B3 R3 RX
    go_wp2
    go_ret
    exact ⟨by rw [← HT.out]; rfl, B4.out⟩
end Go.Proofs.YtfdfdmbnggpnbaaGreat
namespace Go.Proofs.YtfdfdmbnggpnbaaGreat
open Go.RowKit Go.Lib Go.Sort Go.Deep

theorem setAll_is (post : List Value) : ∀ (vs rest pre : List Value), rest.length = vs.length → setAll (pre ++ rest ++ post) pre.length vs = pre ++ vs ++ post
  | [], rest, pre, hl => by
    have : rest = [] := List.eq_nil_of_length_eq_zero hl
    subst this
    rfl
  | v :: r, [], pre, hl => by simp at hl
  | v :: r, u :: rest, pre, hl => by
    have h2 := setAll_is post r rest (pre ++ [v]) (by simpa using hl)
    rw [List.length_append, List.length_singleton] at h2
    unfold setAll
    have e : (pre ++ u :: rest ++ post).set pre.length v = (pre ++ [v]) ++ rest ++ post := by simp
    rw [e, h2]
    simp

theorem own_putH {w : World} {base n b c j : Nat} {L : List Hd} (h : w.ownsRow base 40 7 (.slice (some ⟨b, 0, none⟩) n c) n (cellsBy encHd L)) (hj : j < L.length) (y : Hd) :
    (w.setCells b (j * 7) (encHd y)).ownsRow base 40 7 (.slice (some ⟨b, 0, none⟩) n c) n (cellsBy encHd (L.set j y)) := by
  have h1 := own_setCells (encHd y) (j * 7) w _ h
  have e0 : L = L.take j ++ [L[j]] ++ L.drop (j + 1) := by simp
  have e1 : setAll (cellsBy encHd L) (j * 7) (encHd y) = cellsBy encHd (L.set j y) := by
    have hl : (cellsBy encHd (L.take j)).length = j * 7 := by rw [by_length encHd_len]; simp; omega
    have e2 : cellsBy encHd L = cellsBy encHd (L.take j) ++ encHd L[j] ++ cellsBy encHd (L.drop (j + 1)) := by
      conv => lhs; rw [e0]
      rw [by_append, by_append, by_one]
    rw [e2, ← hl, setAll_is _ (encHd y) (encHd L[j]) (cellsBy encHd (L.take j)) rfl, List.set_eq_take_append_cons_drop, if_pos hj, by_append, by_cons]
    simp
  rw [e1] at h1
  exact h1
theorem own_thereH {w : World} {base n c k size g : Nat} {t : TypeId} {xs : List Value} (h : w.ownsRow base t size (.slice (some ⟨g, 0, none⟩) n c) n xs) (hk : k < n) : w.there g (k * size) size := by
  rcases h.2 with ⟨hv, _⟩ | ⟨g', cap, cur, hv, hb, hg, h1, h2, h3, h4⟩
  · cases hv
  · cases hv
    have hB : Blk w g t cur := hg
    have h5 : (k + 1) * size ≤ c * size := Nat.mul_le_mul_right _ (by omega)
    rw [Nat.succ_mul] at h5
    intro j hj
    refine ⟨?_, hB.frozen _⟩
    rw [hB.cell, Array.getElem?_eq_getElem (by omega)]
    rfl
/-- A head stored over an item of a row. -/
theorem wpList_over_hd {ops : Array Oper} {rest : List Oper} {op : Oper} {a : Act} {w : World} {Q : Exit → Act → World → Prop} {base n c g k : Nat} {L : List Hd} (y : Hd) (hg : op.guard = none) (x v : Operand) (ho : op.op = .store 40 x v) (hx : a.eval x = .pointer (some ⟨g, k * 7, none⟩)) (hv : a.eval v = .agg #[.int .i64 y.age, .int .i64 y.kind, .int .i64 y.id, .int .i64 y.adv, .int .i64 y.seq, .int .i64 y.sum, .int .i64 y.long])
    (hown : w.ownsRow base 40 7 (.slice (some ⟨g, 0, none⟩) n c) n (cellsBy encHd L)) (hk : k < n)
    (hn : ∀ w', Hid (w'.ownsRow base 40 7 (.slice (some ⟨g, 0, none⟩) n c) n (cellsBy encHd (L.set k y))) → Hid (Chg (fun q => q = g) w w') → wpList Tryz.prog ops Q rest (a.put op.dst undef) w') : wpList Tryz.prog ops Q (op :: rest) a w :=
  wpList_store_mid hg 40 x v ho g (k * 7) (encHd y).toArray hx hv (own_thereH hown hk) (by kernel_rfl) (all_oneCell_toArray (encHd_ones y)) (hn _ (Lib.hid (own_putH hown (by rw [own_lenH encHd_len (by omega) hown]; exact hk) y)) (Lib.hid (chg_setCells g _ _ _)))
/-- An append of one head: which blocks have turned. -/
theorem wpList_app_hd2 {wb : World} {ops : Array Oper} {rest : List Oper} {o : Oper} {a : Act} {Q : Exit → Act → World → Prop} (hgd : o.guard = none) (s x : Operand) (ho : o.op = .call { callee := .builtin .append, args := #[s, x], argTypes := #[23, 23] })
    {base n c : Nat} {A : Option Addr} {L : List Hd} (y : Hd) (hs : a.eval s = .slice A n c) (hx : a.eval x = .slice (some ⟨wb.heap.size, 0, none⟩) 1 1) (hown : wb.ownsRow base 40 7 (.slice A n c) n (cellsBy encHd L)) (hn : n ≤ 1000) (hbase : base ≤ wb.heap.size)
    (h : ∀ A' c' w', Hid (w'.ownsRow base 40 7 (.slice A' (n + 1) c') (n + 1) (cellsBy encHd (L ++ [y]))) → Hid (Chg (fun q => (Value.slice A n c).ownBlock = some q) wb w') → wpList Tryz.prog ops Q rest (a.put o.dst (.slice A' (n + 1) c')) w') : wpList Tryz.prog ops Q (o :: rest) a (wb.alloc (.cells #[.int .i64 y.age, .int .i64 y.kind, .int .i64 y.id, .int .i64 y.adv, .int .i64 y.seq, .int .i64 y.sum, .int .i64 y.long] 40)) := by
  refine wpList_append_any hgd s x 23 40 (.agg #[.int .i64 0, .int .i64 0, .int .i64 0, .int .i64 0, .int .i64 0, .int .i64 0, .int .i64 0]) 7 56 Tryz.underlying23 infoHd rfl (by decide) (by decide) ho base (.slice A n c) n (cellsBy encHd L) hs (hown.alloc _) (some ⟨wb.heap.size, 0, none⟩) 1 1 (encHd y) hx rfl (fun h => by cases h) (news_new wb 40 (encHd y)) (encHd_ones y) (by omega) (by simp; omega) ?_
  intro v2 w2 ho2 hg2
  obtain ⟨A2, c2, rfl⟩ := own_slice ho2.out
  refine h A2 c2 w2 (Lib.hid (by rw [by_append, by_one]; exact ho2.out)) (Lib.hid ?_)
  exact (Chg.of_below (F := fun q => (Value.slice A n c).ownBlock = some q) ((Below.refl wb.heap.size wb).alloc (Nat.le_refl _) (.cells #[.int .i64 y.age, .int .i64 y.kind, .int .i64 y.id, .int .i64 y.adv, .int .i64 y.seq, .int .i64 y.sum, .int .i64 y.long] 40))).trans (Chg.of_grown hg2.out (fun q hq => hq)) (fun q hq => .inl hq)
theorem lackStep_mem {S : List La} {out : List Hd} {h x : Hd} (hx : x ∈ lackStep S out h) : x ∈ out ∨ x = h := by
  unfold lackStep at hx
  split at hx
  · split at hx
    · simpa using hx
    · split at hx
      · split at hx
        · exact List.mem_or_eq_of_mem_set hx
        · exact .inl hx
      · exact .inl hx
  · exact .inl hx
theorem lacksF_mem {S : List La} : ∀ (L out : List Hd) {x : Hd}, x ∈ L.foldl (lackStep S) out → x ∈ out ∨ x ∈ L
  | [], out, x, h => .inl h
  | a :: L, out, x, h => by
    rcases lacksF_mem L _ h with h | h
    · rcases lackStep_mem h with h | rfl
      · exact .inl h
      · exact .inr List.mem_cons_self
    · exact .inr (List.mem_cons_of_mem _ h)
theorem lacksL_mem {S : List La} {L : List Hd} {x : Hd} (h : x ∈ lacksL S L) : x ∈ L := (lacksF_mem L [] h).resolve_left (by simp)
/-- What Lacks answers. -/
def LacksQ (S : List La) (L : List Hd) (w : World) (e : Ending) (w' : World) : Prop :=
  ∃ (A : Option Addr) (m c : Nat), e = .returned (.slice A m c) ∧ Below w.heap.size w w' ∧ w'.ownsRow w.heap.size 40 7 (.slice A m c) m (cellsBy encHd (lacksL S L))
theorem hds_item {w : World} {B n k : Nat} {A : Option Addr} {L : List Hd} (h : Hds w B A n L) (hk : k < n) : ∃ (b o : Nat) (x : Hd), A = some ⟨b, o, none⟩ ∧ b < B ∧ L[k]? = some x ∧ w.rangeAt b (o + k * 7) [.int .i64 x.age, .int .i64 x.kind, .int .i64 x.id, .int .i64 x.adv, .int .i64 x.seq, .int .i64 x.sum, .int .i64 x.long] := by
  obtain ⟨b, o, x, rfl, hb, hx, hh⟩ := Arr.at h hk
  exact ⟨b, o, x, rfl, hb, hx, HdAt.range hh⟩
set_option maxRecDepth 8000 in
set_option maxHeartbeats 8000000 in
theorem lacksS_any {w : World} {v : Value} {S : List La} {F : Nat → Prop} {A : Option Addr} {n c B : Nat} {L : List Hd} (hD : DbV w v S F) (hL : Hds w B A n L) (hB : B ≤ w.heap.size) (hn : n ≤ 100) (hk : ∀ h ∈ L, wfKy (keyH h))
    (ha : ∀ h ∈ L, ∀ y, getL S (keyH h) = some y → ageB h = true ∧ ageB y.h = true) (hb : ∀ (i j : Nat) (g h : Hd), i < j → L[i]? = some g → L[j]? = some h → ageB g = true ∧ ageB h = true) :
    Calls Tryz.prog 10 #[v, .slice A n c] w (LacksQ S L w) := by
  generalize hQ : LacksQ S L w = Q
  have HQ := Lib.hid hQ
  have HL := Lib.hid hL
  have HD := Lib.hid hD
  have HK := Lib.hid hk
  have HA := Lib.hid ha
  have HBB := Lib.hid hb
  have O0 := Lib.hid ((World.ownsRow_nil w w.heap.size 40 7).alloc (.map #[] 0))
  have B0 := Lib.hid ((Below.refl w.heap.size w).alloc (Nat.le_refl _) (.map #[] 0))
  have M0 := Lib.hid (PlIs.made w)
  clear hQ hL hD hk ha hb
  have hmm := @run_makeMap Tryz.prog
  go_enter Tryz.func10, Tryz.ntmps10
  go_wp2_with fail
  clear hmm
  generalize w.alloc (.map #[] 0) = w0 at *
  generalize hbm : w.heap.size = bm at *
  have HBM := Lib.hid hbm
  clear hbm
  go_loopw [5, 15] (fun s5 s15 wr => ∃ (k m c' : Nat) (A' : Option Addr) (R : List Pl), s15 = .int .i64 k ∧ s5 = .slice A' m c' ∧ k ≤ n ∧ m ≤ k ∧ Hid (wr.ownsRow bm 40 7 (.slice A' m c') m (cellsBy encHd (lacksL S (L.take k)))) ∧ Hid (PlIs wr bm R) ∧ Hid (PlOk (lacksL S (L.take k)) R) ∧ Hid (Below bm w wr)) (fun _ s15 _ => n - (intOf s15).toNat)
  case atStart => exact ⟨0, 0, 0, none, [], rfl, rfl, Nat.zero_le _, Nat.le_refl _, Lib.hid (by simpa [lacksL, cellsBy] using O0.out), M0, Lib.hid PlOk.nil, B0⟩
  case round =>
    clear O0 B0 M0
    obtain ⟨k, m, c', A', R, rfl, rfl, hk, hmk, OW, MW, PW, BW⟩ := hrel
    by_cases hlt : k < n
    · have hlt' : (k : Int) < (n : Int) := by omega
      obtain ⟨b, o, x, rfl, hbb, hx, hr⟩ := hds_item (HL.out.below (BW.out.mono hB)) hlt
      have HR := Lib.hid hr
      have HX := Lib.hid hx
      have hxm : x ∈ L := List.mem_of_getElem? hx
      have HWF := Lib.hid (HK.out x hxm)
      have HAX := Lib.hid (HA.out x hxm)
      have hz := BW.out.size
      have BX := Lib.hid (BW.out.alloc (by have := HBM.out; omega) (.cells #[.int .i64 x.age, .int .i64 x.kind, .int .i64 x.id, .int .i64 x.adv, .int .i64 x.seq, .int .i64 x.sum, .int .i64 x.long] 40))
      have KX := Lib.hid (Blk.new wr 40 #[.int .i64 x.age, .int .i64 x.kind, .int .i64 x.id, .int .i64 x.adv, .int .i64 x.seq, .int .i64 x.sum, .int .i64 x.long])
      have OX := Lib.hid (OW.out.alloc (.cells #[.int .i64 x.age, .int .i64 x.kind, .int .i64 x.id, .int .i64 x.adv, .int .i64 x.seq, .int .i64 x.sum, .int .i64 x.long] 40))
      have MX := Lib.hid (MW.out.alloc (.cells #[.int .i64 x.age, .int .i64 x.kind, .int .i64 x.id, .int .i64 x.adv, .int .i64 x.seq, .int .i64 x.sum, .int .i64 x.long] 40))
      have RX := Lib.hid (blk_range7 KX.out)
      have HS := Lib.hid (lacksL_snoc S (L.take k) x)
      rw [← take_snocA L k x HX.out] at HS
      clear hr hx hxm OW BW MW
      go_wp2_with (first | refine wpList_load_row 40 _ _ (by rfl) (.tmp 17) rfl (by rfl) HR.out Tryz.underlying40 rfl (by kernel_rfl) ?_ | refine wpList_load_row 40 _ _ (by rfl) (.tmp 8) rfl (by rfl) RX.out Tryz.underlying40 rfl (by kernel_rfl) ?_)
      refine (lacks_any (HD.out.below (by rw [HBM.out]; exact BX.out)) x HWF.out HAX.out).mono ?_
      rintro e1 w1 ⟨rfl, hb1⟩
      generalize wr.alloc (.cells #[.int .i64 x.age, .int .i64 x.kind, .int .i64 x.id, .int .i64 x.adv, .int .i64 x.seq, .int .i64 x.sum, .int .i64 x.long] 40) = wx at *
      generalize wr.heap.size = X at *
      have hzx : bm ≤ wx.heap.size := by have := BX.out.size; have := HBM.out; omega
      have B1 := Lib.hid (BX.out.trans (hb1.mono hzx))
      have K1 := Lib.hid (KX.out.below hb1 KX.out.lt)
      have R1 := Lib.hid (blk_range7 K1.out)
      have O1 := Lib.hid (own_chg OX.out (Chg.of_below (F := fun _ => False) hb1) (fun _ _ hf => hf))
      have M1 := Lib.hid (MX.out.below hb1 MX.out.lt)
      have hz1 := hb1.size
      clear hb1 BX KX OX MX RX HR
      cases hl : lackB S x
      · have HT := Lib.hid (show lacksL S (L.take (k + 1)) = lacksL S (L.take k) by
          have := HS.out
          unfold lackStep at this
          rwa [hl, if_neg (by decide)] at this)
        have O3 := Lib.hid (show w1.ownsRow bm 40 7 (.slice A' m c') m (cellsBy encHd (lacksL S (L.take (k + 1)))) by rw [HT.out]; exact O1.out)
        have P3 := Lib.hid (show PlOk (lacksL S (L.take (k + 1))) R by rw [HT.out]; exact PW.out)
        clear HT O1 PW HS hl R1 K1
        go_wp2
        go_roundw
        case rel => exact ⟨k + 1, m, c', A', R, by go_num, rfl, by omega, by omega, O3, M1, P3, B1⟩
        case measure => simp [intOf]; omega
      · have HT := Lib.hid (show lacksL S (L.take (k + 1)) = (match placeK (lacksL S (L.take k)) (keyH x) with
          | none => lacksL S (L.take k) ++ [x]
          | some i => match (lacksL S (L.take k))[i]? with
            | some g => if 0 < nw x g then (lacksL S (L.take k)).set i x else lacksL S (L.take k)
            | none => lacksL S (L.take k)) by
          have := HS.out
          unfold lackStep at this
          rwa [hl, if_pos rfl] at this)
        clear HS hl
        go_wp2_with (first | refine wpList_load_row 40 _ _ (by rfl) (.tmp 8) rfl (by rfl) R1.out Tryz.underlying40 rfl (by kernel_rfl) ?_)
        refine (keyOf_any x _).mono ?_
        rintro e2 w2 ⟨rfl, hb2⟩
        have B2 := Lib.hid (B1.out.trans (hb2.mono (by omega)))
        have K2 := Lib.hid (K1.out.below hb2 K1.out.lt)
        have O2 := Lib.hid (own_chg O1.out (Chg.of_below (F := fun _ => False) hb2) (fun _ _ hf => hf))
        have M2 := Lib.hid (M1.out.below hb2 M1.out.lt)
        have hz2 := hb2.size
        clear hb2 K1 O1 M1 B1 R1
        have B3 := Lib.hid (B2.out.alloc (by omega) (.cells #[.int .i64 x.kind, .int .i64 x.id, .int .i64 x.adv] 48))
        have K3 := Lib.hid (K2.out.alloc (.cells #[.int .i64 x.kind, .int .i64 x.id, .int .i64 x.adv] 48))
        have O3 := Lib.hid (O2.out.alloc (.cells #[.int .i64 x.kind, .int .i64 x.id, .int .i64 x.adv] 48))
        have M3 := Lib.hid (M2.out.alloc (.cells #[.int .i64 x.kind, .int .i64 x.id, .int .i64 x.adv] 48))
        have Y3 := Lib.hid (Blk.new w2 48 #[.int .i64 x.kind, .int .i64 x.id, .int .i64 x.adv])
        have R3 := Lib.hid (blk_range7 K3.out)
        have hXl := K3.out.lt
        clear K2 O2 M2 B2
        have hRL := Lib.hid (show R.length = m by rw [PW.out.len]; exact own_lenH encHd_len (by omega) O3.out)
        have hz3 : bm ≤ (w2.alloc (.cells #[.int .i64 x.kind, .int .i64 x.id, .int .i64 x.adv] 48)).heap.size := by have := B3.out.size; have := HBM.out; omega
        have NX := Lib.hid (M3.out.ne_blk K3.out)
        have NO := Lib.hid (M3.out.ne_own O3.out)
        obtain ⟨y0, y1, y2⟩ := Y3.out.three
        cases hg : getP R (keyH x) with
        | none =>
          have hlook := M3.out.look_none HWF.out hg
          unfold keyH at hlook
          dsimp only at hlook
          have PZ := Lib.hid (PW.out.snoc x hg)
          have HT2 := Lib.hid (show lacksL S (L.take (k + 1)) = lacksL S (L.take k) ++ [x] by rw [HT.out, (PW.out.none hg).1])
          have HML := Lib.hid (own_lenH encHd_len (by omega) O3.out)
          rw [HML.out] at PZ
          rw [← HT2.out] at PZ
          clear HT PW hg R3
          go_wp2_with (first | refine wpList_load_row 40 _ _ (by rfl) (.tmp 8) rfl (by rfl) R4.out Tryz.underlying40 rfl (by kernel_rfl) ?_ | (at_mapUpdate; refine wpList_putP ⟨keyH x, m⟩ rfl (.tmp 33) (.tmp 34) (.tmp 36) rfl rfl rfl rfl M3.out HWF.out (by have := hRL.out; unfold maxLen; omega) ?_; intro w4 hm4 ht4; have C4 := Lib.hid (chg_of_turned ht4); have M4 := Lib.hid hm4; have K4 := Lib.hid (K3.out.chg C4.out NX.out); have O4 := Lib.hid (own_chg O3.out C4.out (fun q hq e => NO.out (by rw [hq, e]))); have R4 := Lib.hid (show w4.rangeAt X 0 [.int .i64 x.age, .int .i64 x.kind, .int .i64 x.id, .int .i64 x.adv, .int .i64 x.seq, .int .i64 x.sum, .int .i64 x.long] from blk_range7 K4.out); have hz4 : bm ≤ w4.heap.size := Nat.le_trans hz3 C4.out.size; have B4 := Lib.hid (B3.out.trans (C4.out.to_below (fun q hq => Nat.le_of_eq hq.symm) hz3)); clear hm4 ht4 C4 K3 O3 M3 B3 hlook y0 y1 y2 Y3 K4) | (at_builtin; refine wpList_app_hd2 rfl (.tmp 37) (.tmp 39) rfl x (by rfl) (by rfl) O4.out (by omega) hz4 ?_; intro A5 c5 w5 HO5 HC5))
          have O5 := Lib.hid (show w5.ownsRow bm 40 7 (.slice A5 (m + 1) c5) (m + 1) (cellsBy encHd (lacksL S (L.take (k + 1)))) by rw [HT2.out]; exact HO5.out)
          have M5 := Lib.hid (M4.out.chg HC5.out (M4.out.ne_own O4.out))
          have B5 := Lib.hid (B4.out.trans (HC5.out.to_below (fun q hq => (O4.out.lt q hq).1) hz4))
          clear HO5 HC5 M4 O4 B4 R4 HT2
          go_roundw
          case rel => exact ⟨k + 1, m + 1, c5, A5, _, by go_num, by first | rfl | go_num, by omega, by omega, O5, M5, PZ, B5⟩
          case measure => simp [intOf]; omega
        | some r =>
          obtain ⟨hp1, g, hp2, hp3⟩ := PW.out.some M3.out.nodup hg
          have hlook := (M3.out.look_some HWF.out hg).1
          unfold keyH plVal at hlook
          dsimp only at hlook
          have HT2 := Lib.hid (show lacksL S (L.take (k + 1)) = if 0 < nw x g then (lacksL S (L.take k)).set r.i x else lacksL S (L.take k) by rw [HT.out, hp1]; dsimp only; rw [hp2])
          have him : r.i < m := by
            have := (List.getElem?_eq_some_iff.1 hp2).1
            have := own_lenH encHd_len (by omega) O3.out
            omega
          have HAG := Lib.hid (show ageB x = true ∧ ageB g = true by
            obtain ⟨j, hj⟩ := List.getElem?_of_mem (lacksL_mem (List.mem_of_getElem? hp2))
            have hjk : j < k := by
              rw [List.getElem?_take] at hj
              split at hj
              · assumption
              · cases hj
            rw [List.getElem?_take_of_lt hjk] at hj
            exact ⟨(HBB.out j k g x hjk hj HX.out).2, (HBB.out j k g x hjk hj HX.out).1⟩)
          have PS := Lib.hid (PW.out.set hp2 x hp3.symm)
          obtain ⟨q, rfl, hqb, hql, hmc, hcm, hat⟩ := own_item encHd_len (by omega) O3.out hp2
          have HI := Lib.hid hp2
          obtain ⟨i, hi⟩ : ∃ i, i = r.i := ⟨_, rfl⟩
          rw [← hi] at hlook HT2 him hat PS HI
          clear HT hg hp1 hp2 hp3 hi
          unfold maxLen at hcm
          have i_p : (0 : Int) ≤ (i : Int) := by omega
          have i_u : (i : Int) < (m : Int) := by omega
          have i_n : ((i : Int)).toNat = i := by omega
          go_wp2_with fail
          clear hlook y0 y1 y2 Y3 R3
          generalize w2.alloc (.cells #[.int .i64 x.kind, .int .i64 x.id, .int .i64 x.adv] 48) = w3 at *
          obtain ⟨x0, x1, x2, x3, x4, x5, x6⟩ := K3.out.sevenH
          have g0 : w3.cell? ⟨q, i * 7, none⟩ = some (.int .i64 g.age) := hat 0 (by omega)
          have g1 : w3.cell? ⟨q, i * 7 + 1, none⟩ = some (.int .i64 g.kind) := hat 1 (by omega)
          have g2 : w3.cell? ⟨q, i * 7 + 2, none⟩ = some (.int .i64 g.id) := hat 2 (by omega)
          have g3 : w3.cell? ⟨q, i * 7 + 3, none⟩ = some (.int .i64 g.adv) := hat 3 (by omega)
          have g4 : w3.cell? ⟨q, i * 7 + 4, none⟩ = some (.int .i64 g.seq) := hat 4 (by omega)
          have g5 : w3.cell? ⟨q, i * 7 + 5, none⟩ = some (.int .i64 g.sum) := hat 5 (by omega)
          have g6 : w3.cell? ⟨q, i * 7 + 6, none⟩ = some (.int .i64 g.long) := hat 6 (by omega)
          clear hat
          have BR : Below w3.heap.size w3 w3.drew := ⟨rfl, rfl, rfl, Nat.le_refl _, fun _ _ => rfl⟩
          have hnw := fun W => newer_any x g W HAG.out.1 HAG.out.2
          obtain ⟨d, hd⟩ : ∃ d, nw x g = d := ⟨_, rfl⟩
          rw [hd] at hnw HT2
          clear hd
          go_region_held3 (fun w' => Below w3.heap.size w3 w' ∧ (∀ b o, b < w3.heap.size → w'.cell? ⟨b, o, none⟩ = w3.cell? ⟨b, o, none⟩)) ((refine keepW ?_; first | with_reducible exact BR | with_reducible exact BR3)) (first | (go_at_call 25; refine (hnw _).mono ?_; rintro e3 w4 ⟨rfl, hb4⟩; have BR3 := BR.trans (show Below w3.heap.size w3.drew w4 from hb4)))
          clear x0 x1 x2 x3 x4 x5 x6 g0 g1 g2 g3 g4 g5 g6 hnw
          have B4 := Lib.hid (B3.out.trans (BR3.mono hz3))
          have M4 := Lib.hid (M3.out.below BR3 M3.out.lt)
          have O4 := Lib.hid (own_chg O3.out (Chg.of_below (F := fun _ => False) BR3) (fun _ _ hf => hf))
          have R4 := Lib.hid (show w4.rangeAt X 0 [.int .i64 x.age, .int .i64 x.kind, .int .i64 x.id, .int .i64 x.adv, .int .i64 x.seq, .int .i64 x.sum, .int .i64 x.long] from blk_range7 (K3.out.below BR3 hXl))
          have hz4 : bm ≤ w4.heap.size := Nat.le_trans hz3 BR3.size
          clear BR3 BR B3 M3 O3 K3
          by_cases hd : 0 < d
          · have HT3 := Lib.hid (show lacksL S (L.take (k + 1)) = (lacksL S (L.take k)).set i x by rw [HT2.out, if_pos hd])
            go_wp2_with (first | refine wpList_load_row 40 _ _ (by rfl) (.tmp 8) rfl (by rfl) R4.out Tryz.underlying40 rfl (by kernel_rfl) ?_ | (refine wpList_over_hd x rfl (.tmp 51) (.tmp 50) rfl (by rfl) (by rfl) O4.out him ?_; intro w5 HO5 HC5))
            have O5 := Lib.hid (show w5.ownsRow bm 40 7 (.slice (some ⟨q, 0, none⟩) m c') m (cellsBy encHd (lacksL S (L.take (k + 1)))) by rw [HT3.out]; exact HO5.out)
            have P5 := Lib.hid (show PlOk (lacksL S (L.take (k + 1))) R by rw [HT3.out]; exact PS.out)
            have M5 := Lib.hid (M4.out.chg HC5.out (fun e => M4.out.ne_own O4.out (by rw [e]; rfl)))
            have B5 := Lib.hid (B4.out.trans (HC5.out.to_below (fun t ht => by rw [ht]; exact hqb) hz4))
            clear HO5 HC5 M4 O4 B4 R4 HT2 HT3 PS PW
            go_roundw
            case rel => exact ⟨k + 1, m, c', _, R, by go_num, rfl, by omega, by omega, O5, M5, P5, B5⟩
            case measure => simp [intOf]; omega
          · have HT3 := Lib.hid (show lacksL S (L.take (k + 1)) = lacksL S (L.take k) by rw [HT2.out, if_neg hd])
            have O5 := Lib.hid (show w4.ownsRow bm 40 7 (.slice (some ⟨q, 0, none⟩) m c') m (cellsBy encHd (lacksL S (L.take (k + 1)))) by rw [HT3.out]; exact O4.out)
            have P5 := Lib.hid (show PlOk (lacksL S (L.take (k + 1))) R by rw [HT3.out]; exact PW.out)
            clear O4 R4 HT2 HT3 PS PW
            go_wp2
            go_roundw
            case rel => exact ⟨k + 1, m, c', _, R, by go_num, rfl, by omega, by omega, O5, M4, P5, B4⟩
            case measure => simp [intOf]; omega
    · have hlt' : ¬ (k : Int) < (n : Int) := by omega
      have HT := Lib.hid (show lacksL S (L.take k) = lacksL S L by
        rw [List.take_of_length_le (by have := HL.out.1; omega)])
      rw [HT.out] at OW
      go_wp2
      show Q (.returned (.slice A' m c')) wr
      rw [← HQ.out]
      exact ⟨A', m, c', rfl, by rw [HBM.out]; exact BW.out, by rw [HBM.out]; exact OW.out⟩
end Go.Proofs.YtfdfdmbnggpnbaaGreat
namespace Go.Proofs.YtfdfdmbnggpnbaaGreat
open Go.RowKit Go.Lib Go.Sort Go.Deep

set_option maxRecDepth 8000 in
set_option maxHeartbeats 2000000 in
theorem key13_grown (h : Hd) (w : World) : Calls Tryz.prog 27 #[.agg #[.int .i64 h.age, .int .i64 h.kind, .int .i64 h.id, .int .i64 h.adv, .int .i64 h.seq, .int .i64 h.sum, .int .i64 h.long]] w
    fun e w' => e = .returned (.agg #[.int .i64 h.kind, .int .i64 h.id, .int .i64 h.adv]) ∧ ∃ q os', w' = grow (w.drewN q) os' := by
  have HG := Lib.hid (show ∃ q os', (w.alloc (.cells #[.int .i64 h.age, .int .i64 h.kind, .int .i64 h.id, .int .i64 h.adv, .int .i64 h.seq, .int .i64 h.sum, .int .i64 h.long] 40)).alloc (.cells #[.int .i64 h.kind, .int .i64 h.id, .int .i64 h.adv] 48) = grow (w.drewN q) os' from ⟨0, _, by rw [alloc_eq_grow, alloc_eq_grow, grow_grow]; rfl⟩)
  go_enter Tryz.func27, Tryz.ntmps27
  go_wp2
  refine bodyPost_ret (v := .agg #[.int .i64 h.kind, .int .i64 h.id, .int .i64 h.adv]) (by simp [results, Tryz.results27, go_sem, *]) rfl ?_
  exact ⟨rfl, HG.out⟩
theorem below_grown13 {w w' : World} (h : ∃ q os', w' = grow (w.drewN q) os') : Below w.heap.size w w' := by
  obtain ⟨q, os, rfl⟩ := h
  exact ⟨rfl, rfl, rfl, by rw [Go.Sort.size_grow]; exact Nat.le_add_right _ _, fun b hb => heap_grow_old _ _ (by exact hb)⟩
theorem key13_any (h : Hd) (w : World) : Calls Tryz.prog 27 #[.agg #[.int .i64 h.age, .int .i64 h.kind, .int .i64 h.id, .int .i64 h.adv, .int .i64 h.seq, .int .i64 h.sum, .int .i64 h.long]] w
    fun e w' => e = .returned (.agg #[.int .i64 h.kind, .int .i64 h.id, .int .i64 h.adv]) ∧ Below w.heap.size w w' := (key13_grown h w).mono fun _ _ ⟨he, hg⟩ => ⟨he, below_grown13 hg⟩
set_option maxRecDepth 8000 in
set_option maxHeartbeats 4000000 in
theorem many_any (A : Option Addr) (n c : Nat) (T : List La) (B : Nat) (w : World) (h : Las w B A n T) (hB : B ≤ w.heap.size) (hn : n ≤ maxLen) :
    Calls Tryz.prog 6 #[.slice A n c] w fun e w' => (∃ t : Bool, e = .returned (.bool t) ∧ (t = false → n ≤ 60 ∧ ∀ a ∈ T, a.L.length ≤ 20 ∧ a.M.length ≤ 20)) ∧ Below w.heap.size w w' := by
  unfold maxLen at hn
  have HP := Lib.hid h
  clear h
  go_enter Tryz.func6, Tryz.ntmps6
  go_wp2_with fail
  go_loopw [7] (fun i wr => ∃ k : Nat, k ≤ n ∧ i = .int .i64 k ∧ Hid (∀ (m : Nat) (a : La), m < k → T[m]? = some a → a.L.length ≤ 20 ∧ a.M.length ≤ 20) ∧ Hid (Below w.heap.size w wr)) (fun i _ => n - (intOf i).toNat)
  case atStart => exact ⟨0, Nat.zero_le _, rfl, Lib.hid (fun m a hm => absurd hm (by omega)), Lib.hid (Below.refl _ _)⟩
  case round =>
    obtain ⟨k, hk, rfl, HA, hb⟩ := hrel
    have hsz := hb.out.size
    by_cases hlt : k < n
    · obtain ⟨b, o, a, A1, n1, c1, A2, n2, c2, rfl, hbb, hx, hr, hL, hM, hn1, hn2⟩ := las_item (HP.out.below (hb.out.mono hB)) hlt
      have hl1 := hL.1
      have hl2 := hM.1
      have HX := Lib.hid hx
      have HR := Lib.hid hr
      unfold maxLen at hn1 hn2
      clear hx hr hL hM
      have hlt' : (k : Int) < n := by omega
      have BN := Lib.hid (hb.out.alloc hsz (.cells #[.int .i64 a.h.age, .int .i64 a.h.kind, .int .i64 a.h.id, .int .i64 a.h.adv, .int .i64 a.h.seq, .int .i64 a.h.sum, .int .i64 a.h.long, .slice A1 n1 c1, .slice A2 n2 c2] 44))
      by_cases h1 : 20 < n1
      · have d1 : decide (20 < (n1 : Int)) = true := by simp; omega
        go_wp2_with (refine wpList_load_row 44 _ _ (by rfl) (.tmp 9) rfl (by rfl) HR.out Tryz.underlying44 rfl (by kernel_rfl) ?_)
        go_ret
        exact ⟨⟨true, rfl, fun h => by cases h⟩, BN.out⟩
      · have d1 : decide (20 < (n1 : Int)) = false := by simp; omega
        by_cases h2 : 20 < n2
        · have d2 : decide (20 < (n2 : Int)) = true := by simp; omega
          go_wp2_with (refine wpList_load_row 44 _ _ (by rfl) (.tmp 9) rfl (by rfl) HR.out Tryz.underlying44 rfl (by kernel_rfl) ?_)
          go_ret
          exact ⟨⟨true, rfl, fun h => by cases h⟩, BN.out⟩
        · have d2 : decide (20 < (n2 : Int)) = false := by simp; omega
          have HN := Lib.hid (show ∀ (m : Nat) (a : La), m < k + 1 → T[m]? = some a → a.L.length ≤ 20 ∧ a.M.length ≤ 20 from fun m a' hm ha => by
            by_cases hmk : m = k
            · subst hmk
              rw [HX.out] at ha
              injection ha with ha
              subst ha
              omega
            · exact HA.out m a' (by omega) ha)
          go_wp2_with (refine wpList_load_row 44 _ _ (by rfl) (.tmp 9) rfl (by rfl) HR.out Tryz.underlying44 rfl (by kernel_rfl) ?_)
          go_roundw
          case rel => exact ⟨k + 1, by omega, by go_num, HN, BN⟩
          case measure => simp [intOf]; omega
    · have HT := Lib.hid (show ∀ a ∈ T, a.L.length ≤ 20 ∧ a.M.length ≤ 20 from fun a ha => by
        obtain ⟨m, hm⟩ := List.getElem?_of_mem ha
        exact HA.out m a (by have := (List.getElem?_eq_some_iff.1 hm).1; have := HP.out.1; omega) hm)
      by_cases h3 : 60 < n
      · have d3 : decide (60 < (n : Int)) = true := by simp; omega
        go_wp2
        go_ret
        exact ⟨⟨true, rfl, fun h => by cases h⟩, hb.out⟩
      · have d3 : decide (60 < (n : Int)) = false := by simp; omega
        go_wp2
        go_ret
        exact ⟨⟨false, rfl, fun _ => ⟨by omega, HT.out⟩⟩, hb.out⟩
theorem HdAt.of_range {w : World} {B b p : Nat} {h : Hd} (hh : w.rangeAt b p [.int .i64 h.age, .int .i64 h.kind, .int .i64 h.id, .int .i64 h.adv, .int .i64 h.seq, .int .i64 h.sum, .int .i64 h.long]) : HdAt w B b p h :=
  ⟨hh 0 _ rfl, hh 1 _ rfl, hh 2 _ rfl, hh 3 _ rfl, hh 4 _ rfl, hh 5 _ rfl, hh 6 _ rfl⟩
set_option maxRecDepth 8000 in
set_option maxHeartbeats 4000000 in
theorem same13_any {w : World} {A A' : Option Addr} {n c n' c' B B' : Nat} {L L' : List Hd} (hL : Hds w B A n L) (hL' : Hds w B' A' n' L') (hB : B ≤ w.heap.size) (hB' : B' ≤ w.heap.size) (hn : n ≤ 1000) (hn' : n' ≤ 1000) :
    Calls Tryz.prog 9 #[.slice A n c, .slice A' n' c'] w fun e w' => e = .returned (.bool (decide (L = L'))) ∧ ∃ q, w' = w.drewN q := by
  have H1 := Lib.hid hL
  have H2 := Lib.hid hL'
  have hl1 := hL.1
  have hl2 := hL'.1
  clear hL hL'
  go_enter Tryz.func9, Tryz.ntmps9
  by_cases hnn : n = n'
  · subst hnn
    have d1 : ((n : Int) != (n : Int)) = false := by simp
    go_wp2_with fail
    go_loopw [5] (fun i wr => ∃ k q : Nat, k ≤ n ∧ i = .int .i64 k ∧ Hid (L.take k = L'.take k) ∧ Hid (wr = w.drewN q)) (fun i _ => n - (intOf i).toNat)
    case atStart => exact ⟨0, 0, Nat.zero_le _, rfl, Lib.hid rfl, Lib.hid rfl⟩
    case round =>
      obtain ⟨k, q, hk, rfl, HT, HW⟩ := hrel
      by_cases hlt : k < n
      · have hlt' : (k : Int) < (n : Int) := by omega
        obtain ⟨b, o, x, rfl, hb, hx, hr⟩ := hds_item H1.out hlt
        obtain ⟨b', o', y, rfl, hb', hy, hr'⟩ := hds_item H2.out hlt
        have X1 := Lib.hid (take_snocA L k x hx)
        have Y1 := Lib.hid (take_snocA L' k y hy)
        have HX := Lib.hid hx
        have HY := Lib.hid hy
        have R1 := Lib.hid (show wr.rangeAt b (o + k * 7) [.int .i64 x.age, .int .i64 x.kind, .int .i64 x.id, .int .i64 x.adv, .int .i64 x.seq, .int .i64 x.sum, .int .i64 x.long] by rw [HW.out]; exact hr)
        have R2 := Lib.hid (show wr.rangeAt b' (o' + k * 7) [.int .i64 y.age, .int .i64 y.kind, .int .i64 y.id, .int .i64 y.adv, .int .i64 y.seq, .int .i64 y.sum, .int .i64 y.long] by rw [HW.out]; exact hr')
        have hbl : b < wr.heap.size := by rw [HW.out]; exact Nat.lt_of_lt_of_le hb hB
        have hbl' : b' < wr.heap.size := by rw [HW.out]; exact Nat.lt_of_lt_of_le hb' hB'
        clear hx hy hr hr' hb hb'
        have g0 : wr.cell? ⟨b, o + k * 7, none⟩ = some (.int .i64 x.age) := R1.out 0 _ rfl
        have g1 : wr.cell? ⟨b, o + k * 7 + 1, none⟩ = some (.int .i64 x.kind) := R1.out 1 _ rfl
        have g2 : wr.cell? ⟨b, o + k * 7 + 2, none⟩ = some (.int .i64 x.id) := R1.out 2 _ rfl
        have g3 : wr.cell? ⟨b, o + k * 7 + 3, none⟩ = some (.int .i64 x.adv) := R1.out 3 _ rfl
        have g4 : wr.cell? ⟨b, o + k * 7 + 4, none⟩ = some (.int .i64 x.seq) := R1.out 4 _ rfl
        have g5 : wr.cell? ⟨b, o + k * 7 + 5, none⟩ = some (.int .i64 x.sum) := R1.out 5 _ rfl
        have g6 : wr.cell? ⟨b, o + k * 7 + 6, none⟩ = some (.int .i64 x.long) := R1.out 6 _ rfl
        have f0 : wr.cell? ⟨b', o' + k * 7, none⟩ = some (.int .i64 y.age) := R2.out 0 _ rfl
        have f1 : wr.cell? ⟨b', o' + k * 7 + 1, none⟩ = some (.int .i64 y.kind) := R2.out 1 _ rfl
        have f2 : wr.cell? ⟨b', o' + k * 7 + 2, none⟩ = some (.int .i64 y.id) := R2.out 2 _ rfl
        have f3 : wr.cell? ⟨b', o' + k * 7 + 3, none⟩ = some (.int .i64 y.adv) := R2.out 3 _ rfl
        have f4 : wr.cell? ⟨b', o' + k * 7 + 4, none⟩ = some (.int .i64 y.seq) := R2.out 4 _ rfl
        have f5 : wr.cell? ⟨b', o' + k * 7 + 5, none⟩ = some (.int .i64 y.sum) := R2.out 5 _ rfl
        have f6 : wr.cell? ⟨b', o' + k * 7 + 6, none⟩ = some (.int .i64 y.long) := R2.out 6 _ rfl
        clear R1 R2
        have eH := fun W => equalHd x y W
        by_cases hxy : x = y
        · subst hxy
          rw [show sameHd x x = true from (sameHd_iff _ _).2 rfl] at eH
          have HN := Lib.hid (show L.take (k + 1) = L'.take (k + 1) by rw [X1.out, Y1.out, HT.out])
          clear X1 Y1 HX HY
          go_wp2_with fail
          go_quiet (fail)
          have HW2 := Lib.hid (show wr.drewN nq = w.drewN (q + nq) by rw [HW.out, World.drewN_drewN])
          clear g0 g1 g2 g3 g4 g5 g6 f0 f1 f2 f3 f4 f5 f6 eH hbl hbl' HW
          go_wp2
          go_roundw
          case rel => exact ⟨k + 1, q + nq, by omega, by go_num, HN, HW2⟩
          case measure => simp [intOf]; omega
        · rw [show sameHd x y = false from by rw [Bool.eq_false_iff]; exact fun h => hxy ((sameHd_iff _ _).1 h)] at eH
          have HN := Lib.hid (show ¬ L = L' from fun h => by
            have h1 := HX.out
            rw [h, HY.out] at h1
            injection h1 with h1
            exact hxy h1.symm)
          clear X1 Y1 HX HY
          go_wp2_with fail
          go_quiet (fail)
          have HW2 := Lib.hid (show wr.drewN nq = w.drewN (q + nq) by rw [HW.out, World.drewN_drewN])
          clear g0 g1 g2 g3 g4 g5 g6 f0 f1 f2 f3 f4 f5 f6 eH hbl hbl' HW
          go_wp2
          go_ret
          refine ⟨?_, q + nq, HW2.out⟩
          rw [decide_eq_false HN.out]
          rfl
      · have hlt' : ¬ (k : Int) < (n : Int) := by omega
        have HN := Lib.hid (show L = L' by
          have := HT.out
          rwa [List.take_of_length_le (by omega), List.take_of_length_le (by omega)] at this)
        go_wp2
        go_ret
        exact ⟨by rw [decide_eq_true HN.out]; rfl, q, HW.out⟩
  · have d1 : ((n : Int) != (n' : Int)) = true := by simp; omega
    have HN := Lib.hid (show ¬ L = L' from fun h => hnn (by rw [← hl1, ← hl2, h]))
    go_wp2
    go_ret
    exact ⟨by rw [decide_eq_false HN.out]; rfl, 0, rfl⟩
end Go.Proofs.YtfdfdmbnggpnbaaGreat
namespace Go.Proofs.YtfdfdmbnggpnbaaGreat
open Go.RowKit Go.Lib Go.Sort Go.Deep

/-- All behind place k are behind x. -/
def Above (K : List Hd) (k : Nat) (x : Hd) : Prop := ∀ t ∈ K.drop k, lessH x t = true
theorem Above.step {K : List Hd} {j : Nat} {x y : Hd} (h : Above K (j + 1) x) (hy : K[j]? = some y) (hl : lessH x y = true) : Above K j x := fun t ht => by
  have hlt := (List.getElem?_eq_some_iff.1 hy).1
  rw [List.drop_eq_getElem_cons hlt, (List.getElem?_eq_some_iff.1 hy).2] at ht
  rcases List.mem_cons.1 ht with rfl | ht
  · exact hl
  · exact h t ht
theorem las_head {w : World} {b p : Nat} {x : La} {A A' : Option Addr} {n c n' c' : Nat} (h : w.rangeAt b p [.int .i64 x.h.age, .int .i64 x.h.kind, .int .i64 x.h.id, .int .i64 x.h.adv, .int .i64 x.h.seq, .int .i64 x.h.sum, .int .i64 x.h.long, .slice A n c, .slice A' n' c']) : w.rangeAt b p [.int .i64 x.h.age, .int .i64 x.h.kind, .int .i64 x.h.id, .int .i64 x.h.adv, .int .i64 x.h.seq, .int .i64 x.h.sum, .int .i64 x.h.long] := fun j v hj => by
  have hl := (List.getElem?_eq_some_iff.1 hj).1
  refine h j v ?_
  rw [← hj, ← List.getElem?_append_left (l₂ := [.slice A n c, .slice A' n' c']) hl]
  rfl
theorem item_range {w : World} {base n c j : Nat} {g : Nat} {L : List Hd} {x : Hd} (h : w.ownsRow base 40 7 (.slice (some ⟨g, 0, none⟩) n c) n (cellsBy encHd L)) (hj : L[j]? = some x) : w.rangeAt g (j * 7) [.int .i64 x.age, .int .i64 x.kind, .int .i64 x.id, .int .i64 x.adv, .int .i64 x.seq, .int .i64 x.sum, .int .i64 x.long] := fun i v hv => by
  have hi := (List.getElem?_eq_some_iff.1 hv).1
  obtain ⟨g', e, -, -, -, -, hc⟩ := own_item encHd_len (by omega) h hj
  injection e with e
  injection e with e
  subst e
  rw [hc i (by simpa using hi)]
  exact hv
end Go.Proofs.YtfdfdmbnggpnbaaGreat
