/- Keys and heads compared by ==; rows written over; the library's Compact of a row of keys. Conditions: what the words say; at most 1000 keys. -/
import Derived.Test.YtjinleakjkbbgaaUl
import Derived.Laws.StructEq
import Derived.ChangeKeysEq
import Derived.Lib.SlicesCompact
import Derived.Lib.SliceRun
namespace Go.Proofs.Ytjinleakjkbbgaa
open Go.RowKit Go.Lib Go.Sort Go.Deep

theorem underKy : Try.prog.underlying 80 = some (.struct (Try.prog.fieldsOf 80)) := by kernel_rfl
theorem stoodKy : Try.prog.stoodInHeld 80 = false := by kernel_rfl
theorem underHd : Try.prog.underlying 58 = some (.struct (Try.prog.fieldsOf 58)) := by kernel_rfl
theorem stoodHd : Try.prog.stoodInHeld 58 = false := by kernel_rfl
theorem plainI : Try.prog.plainKey 3 = true := by kernel_rfl
theorem eqIntK (W : World) (a b : Int) : (Op.equalIn (9998 + 1) 3 (.int .i64 a) (.int .i64 b)).run Try.prog W = .ok (a == b) W := run_equalIn_int W 9998 _ .i64 .i64 a b Try.underlying3
theorem equalKy (x y : Ky) (W : World) : (Op.equalIn 10000 80 (.agg #[.int .i64 x.kind, .int .i64 x.id, .int .i64 x.adv]) (.agg #[.int .i64 y.kind, .int .i64 y.id, .int .i64 y.adv])).run Try.prog W = .ok (sameKy x y) W := by
  have q0 : ∀ z : Ky, (part 3 #[.int .i64 z.kind, .int .i64 z.id, .int .i64 z.adv] 0).run Try.prog W = .ok (.int .i64 z.kind) W := fun z => run_part_plain W plainI rfl
  have q1 : ∀ z : Ky, (part 3 #[.int .i64 z.kind, .int .i64 z.id, .int .i64 z.adv] 1).run Try.prog W = .ok (.int .i64 z.id) W := fun z => run_part_plain W plainI rfl
  have q2 : ∀ z : Ky, (part 3 #[.int .i64 z.kind, .int .i64 z.id, .int .i64 z.adv] 2).run Try.prog W = .ok (.int .i64 z.adv) W := fun z => run_part_plain W plainI rfl
  rw [show (10000 : Nat) = 9998 + 1 + 1 from rfl, run_equalIn_struct W (9998 + 1) _ _ _ underKy stoodKy]
  simp [Program.fieldsOf, Try.underlying80, Op.eqFields, q0, q1, q2, eqIntK]
  clear q0 q1 q2
  unfold sameKy
  by_cases h1 : x.kind = y.kind
  · by_cases h2 : x.id = y.id
    · by_cases h3 : x.adv = y.adv <;> simp [h1, h2, h3]
    · simp [h1, h2]
  · simp [h1]
theorem equalHd (x y : Hd) (W : World) : (Op.equalIn 10000 58 (.agg #[.int .i64 x.age, .int .i64 x.kind, .int .i64 x.id, .int .i64 x.adv, .int .i64 x.seq, .int .i64 x.sum, .int .i64 x.long]) (.agg #[.int .i64 y.age, .int .i64 y.kind, .int .i64 y.id, .int .i64 y.adv, .int .i64 y.seq, .int .i64 y.sum, .int .i64 y.long])).run Try.prog W = .ok (sameHd x y) W := by
  have q0 : ∀ z : Hd, (part 3 #[.int .i64 z.age, .int .i64 z.kind, .int .i64 z.id, .int .i64 z.adv, .int .i64 z.seq, .int .i64 z.sum, .int .i64 z.long] 0).run Try.prog W = .ok (.int .i64 z.age) W := fun z => run_part_plain W plainI rfl
  have q1 : ∀ z : Hd, (part 3 #[.int .i64 z.age, .int .i64 z.kind, .int .i64 z.id, .int .i64 z.adv, .int .i64 z.seq, .int .i64 z.sum, .int .i64 z.long] 1).run Try.prog W = .ok (.int .i64 z.kind) W := fun z => run_part_plain W plainI rfl
  have q2 : ∀ z : Hd, (part 3 #[.int .i64 z.age, .int .i64 z.kind, .int .i64 z.id, .int .i64 z.adv, .int .i64 z.seq, .int .i64 z.sum, .int .i64 z.long] 2).run Try.prog W = .ok (.int .i64 z.id) W := fun z => run_part_plain W plainI rfl
  have q3 : ∀ z : Hd, (part 3 #[.int .i64 z.age, .int .i64 z.kind, .int .i64 z.id, .int .i64 z.adv, .int .i64 z.seq, .int .i64 z.sum, .int .i64 z.long] 3).run Try.prog W = .ok (.int .i64 z.adv) W := fun z => run_part_plain W plainI rfl
  have q4 : ∀ z : Hd, (part 3 #[.int .i64 z.age, .int .i64 z.kind, .int .i64 z.id, .int .i64 z.adv, .int .i64 z.seq, .int .i64 z.sum, .int .i64 z.long] 4).run Try.prog W = .ok (.int .i64 z.seq) W := fun z => run_part_plain W plainI rfl
  have q5 : ∀ z : Hd, (part 3 #[.int .i64 z.age, .int .i64 z.kind, .int .i64 z.id, .int .i64 z.adv, .int .i64 z.seq, .int .i64 z.sum, .int .i64 z.long] 5).run Try.prog W = .ok (.int .i64 z.sum) W := fun z => run_part_plain W plainI rfl
  have q6 : ∀ z : Hd, (part 3 #[.int .i64 z.age, .int .i64 z.kind, .int .i64 z.id, .int .i64 z.adv, .int .i64 z.seq, .int .i64 z.sum, .int .i64 z.long] 6).run Try.prog W = .ok (.int .i64 z.long) W := fun z => run_part_plain W plainI rfl
  rw [show (10000 : Nat) = 9998 + 1 + 1 from rfl, run_equalIn_struct W (9998 + 1) _ _ _ underHd stoodHd]
  simp [Program.fieldsOf, Try.underlying58, Op.eqFields, q0, q1, q2, q3, q4, q5, q6, eqIntK]
  clear q0 q1 q2 q3 q4 q5 q6
  unfold sameHd
  by_cases h1 : x.age = y.age
  · by_cases h2 : x.kind = y.kind
    · by_cases h3 : x.id = y.id
      · by_cases h4 : x.adv = y.adv
        · by_cases h5 : x.seq = y.seq
          · by_cases h6 : x.sum = y.sum
            · by_cases h7 : x.long = y.long <;> simp [h1, h2, h3, h4, h5, h6, h7]
            · simp [h1, h2, h3, h4, h5, h6]
          · simp [h1, h2, h3, h4, h5]
        · simp [h1, h2, h3, h4]
      · simp [h1, h2, h3]
    · simp [h1, h2]
  · simp [h1]
instance : DecidableEq Ky := fun a b => decidable_of_iff _ (sameKy_iff a b)
instance : DecidableEq Hd := fun a b => decidable_of_iff _ (sameHd_iff a b)
theorem sameKy_dec (a b : Ky) : sameKy a b = decide (a = b) := by
  cases h : sameKy a b
  · exact (decide_eq_false fun e => by rw [(sameKy_iff _ _).2 e] at h; cases h).symm
  · exact (decide_eq_true ((sameKy_iff _ _).1 h)).symm

theorem own_setH {w : World} {base n size b c : Nat} {t : TypeId} {xs : List Value} (h : w.ownsRow base t size (.slice (some ⟨b, 0, none⟩) n c) n xs) (p : Nat) (u : Value) :
    (w.setCell ⟨b, p, none⟩ u).ownsRow base t size (.slice (some ⟨b, 0, none⟩) n c) n (xs.set p u) := by
  refine ⟨by rw [List.length_set]; exact h.1, ?_⟩
  rcases h.2 with ⟨hv, _⟩ | ⟨g, cap, cur, hv, hb, hg, h1, h2, h3, h4⟩
  · cases hv
  · injection hv with e1 e2 e3
    injection e1 with e1
    injection e1 with e1
    subst e1 e3
    have hB : Blk w b t cur := hg
    refine .inr ⟨b, c, cur.setIfInBounds p u, rfl, hb, hB.put p u, h1, h2, by simpa using h3, ?_⟩
    rw [← h4]
    simp [List.take_set]
def setAll : List Value → Nat → List Value → List Value
  | xs, _, [] => xs
  | xs, p, v :: r => setAll (xs.set p v) (p + 1) r
theorem own_setCells {b c n size base : Nat} {t : TypeId} : ∀ (vs : List Value) (p : Nat) (w : World) (xs : List Value), w.ownsRow base t size (.slice (some ⟨b, 0, none⟩) n c) n xs → (w.setCells b p vs).ownsRow base t size (.slice (some ⟨b, 0, none⟩) n c) n (setAll xs p vs)
  | [], _, _, _, h => h
  | v :: r, p, _, _, h => own_setCells r (p + 1) _ _ (own_setH h p v)
theorem setAll_take : ∀ (vs xs : List Value) (p m : Nat), m ≤ p → (setAll xs p vs).take m = xs.take m
  | [], _, _, _, _ => rfl
  | v :: r, xs, p, m, h => by
    unfold setAll
    rw [setAll_take r _ (p + 1) m (by omega), List.take_set_of_le h]
theorem chg_setCells (g : Nat) : ∀ (vs : List Value) (p : Nat) (w : World), Chg (fun q => q = g) w (w.setCells g p vs)
  | [], _, w => Chg.refl _ w
  | v :: r, p, w => by
    have h1 : Chg (fun q => q = g) w (w.setCell ⟨g, p, none⟩ v) := ⟨rfl, rfl, rfl, by simp, fun q hq hne => Below.heap_setCell _ _ _ _ hne⟩
    exact h1.trans (chg_setCells g r (p + 1) _) (fun _ h => .inl h)
theorem ky_set : ∀ (M : List Ky) (k : Nat) (y : Ky), k < M.length → kyCells (M.set k y) = (((kyCells M).set (k * 3) (.int .i64 y.kind)).set (k * 3 + 1) (.int .i64 y.id)).set (k * 3 + 2) (.int .i64 y.adv)
  | [], k, y, h => by simp at h
  | x :: M, 0, y, _ => by simp [kyCells_cons]
  | x :: M, k + 1, y, h => by
    have ih := ky_set M k y (by simpa using h)
    rw [List.set_cons_succ, kyCells_cons, ih, kyCells_cons]
    rw [show (k + 1) * 3 = k * 3 + 1 + 1 + 1 by omega]
    simp only [List.cons_append, List.nil_append, List.set_cons_succ]
/-- A row of keys of the call's own, item j of it. -/
theorem own_kyH {w : World} {base n c : Nat} {A : Option Addr} {K : List Ky} (h : w.ownsRow base 80 3 (.slice A n c) n (kyCells K)) {j : Nat} {k : Ky} (hj : K[j]? = some k) :
    ∃ g, A = some ⟨g, 0, none⟩ ∧ base ≤ g ∧ g < w.heap.size ∧ n ≤ c ∧ c ≤ maxLen ∧ w.cell? ⟨g, j * 3, none⟩ = some (.int .i64 k.kind) ∧ w.cell? ⟨g, j * 3 + 1, none⟩ = some (.int .i64 k.id) ∧ w.cell? ⟨g, j * 3 + 2, none⟩ = some (.int .i64 k.adv) := by
  have hl := h.1
  rw [kyCells_length] at hl
  have hjl := (List.getElem?_eq_some_iff.1 hj).1
  rcases h.2 with ⟨_, hn⟩ | ⟨g, cap, cur, hv, hb, hg, h1, h2, h3, h4⟩
  · omega
  · cases hv
    have hB : Blk w g 80 cur := hg
    have hc : ∀ i, i < 3 → w.cell? ⟨g, j * 3 + i, none⟩ = [Value.int .i64 k.kind, .int .i64 k.id, .int .i64 k.adv][i]? := fun i hi => by
      rw [hB.cell, ← kyCells_at K j k hj i hi, ← h4, List.getElem?_take, if_pos (by omega)]
      simp
    exact ⟨g, rfl, hb, (Array.getElem?_eq_some_iff.1 hg).1, h1, h2, hc 0 (by omega), hc 1 (by omega), hc 2 (by omega)⟩
theorem own_cutK {w : World} {base n c m g : Nat} {t : TypeId} {size : Nat} {xs : List Value} (h : w.ownsRow base t size (.slice (some ⟨g, 0, none⟩) n c) n xs) (hm : m ≤ n) : w.ownsRow base t size (.slice (some ⟨g, 0, none⟩) m c) m (xs.take (m * size)) := by
  have hms : m * size ≤ n * size := Nat.mul_le_mul_right _ hm
  refine ⟨by rw [List.length_take, h.1]; omega, ?_⟩
  rcases h.2 with ⟨hv, _⟩ | ⟨g', cap, cur, hv, hb, hg, h1, h2, h3, h4⟩
  · cases hv
  · cases hv
    refine .inr ⟨g, c, cur, rfl, hb, hg, by omega, h2, h3, ?_⟩
    rw [← h4, List.take_take, Nat.min_eq_left hms]
theorem zeros_ky (n : Nat) : (Builtin.zeroCells (Value.agg #[.int .i64 0, .int .i64 0, .int .i64 0]).cells n).toList = List.replicate (n * 3) (.int .i64 0) := by
  apply List.ext_getElem
  · simp [Builtin.zeroCells, Value.cells]
  · intro i h1 h2
    have hi : i % 3 = 0 ∨ i % 3 = 1 ∨ i % 3 = 2 := by omega
    simp [Builtin.zeroCells, Value.cells]
    rcases hi with h | h | h <;> rw [h] <;> rfl
end Go.Proofs.Ytjinleakjkbbgaa
