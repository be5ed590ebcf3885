/- Rows of structs; lists of timers; the program's Arm and Cancel. Conditions: what the words say; at most 1000 timers a call. -/
import Derived.Test.YtaghophkfogdgaaTc
namespace Go.Proofs.Ytaghophkfogdgaa
open Go.RowKit

section
variable {α : Type} {enc : α → List Value} {k : Nat}
/-- The cells of items, one behind the other. -/
def cellsBy (enc : α → List Value) (L : List α) : List Value := L.flatMap enc
theorem by_cons (x : α) (L : List α) : cellsBy enc (x :: L) = enc x ++ cellsBy enc L := by simp [cellsBy]
theorem by_append (L M : List α) : cellsBy enc (L ++ M) = cellsBy enc L ++ cellsBy enc M := by simp [cellsBy]
theorem by_one (x : α) : cellsBy enc [x] = enc x := by simp [cellsBy]
theorem by_length (hk : ∀ x, (enc x).length = k) (L : List α) : (cellsBy enc L).length = L.length * k := by
  induction L with
  | nil => simp [cellsBy]
  | cons x L ih => rw [by_cons, List.length_append, ih, hk, List.length_cons, Nat.succ_mul, Nat.add_comm]
theorem by_ones (h1 : ∀ x, ∀ v ∈ enc x, v.oneCell' = true) (L : List α) : ∀ v ∈ cellsBy enc L, v.oneCell' = true := by
  intro v hv
  obtain ⟨x, _, hx⟩ := List.mem_flatMap.1 hv
  exact h1 x v hx
theorem by_at (hk : ∀ x, (enc x).length = k) : ∀ (L : List α) (j : Nat) (x : α), L[j]? = some x → ∀ i, i < k → (cellsBy enc L)[j * k + i]? = (enc x)[i]?
  | [], j, x, h, i, hi => by simp at h
  | y :: L, 0, x, h, i, hi => by
    simp at h
    subst h
    rw [by_cons, Nat.zero_mul, Nat.zero_add, List.getElem?_append_left (by rw [hk]; exact hi)]
  | y :: L, j + 1, x, h, i, hi => by
    have := by_at hk L j x (by simpa using h) i hi
    rw [by_cons, List.getElem?_append_right (by rw [hk, Nat.succ_mul]; omega), hk, ← this]
    congr 1
    rw [Nat.succ_mul]
    omega
/-- A row of the call's own, item j of it. -/
theorem own_item {w : World} {base n : Nat} {ty : TypeId} {A : Option Addr} {c : Nat} {L : List α} (hk : ∀ x, (enc x).length = k) (hk0 : 0 < k) (h : w.ownsRow base ty k (.slice A n c) n (cellsBy enc L)) {j : Nat} {x : α} (hj : L[j]? = some x) :
    ∃ g, A = some ⟨g, 0, none⟩ ∧ base ≤ g ∧ g < w.heap.size ∧ n ≤ c ∧ c ≤ maxLen ∧ ∀ i, i < k → w.cell? ⟨g, j * k + i, none⟩ = (enc x)[i]? := by
  have hl := h.1
  rw [by_length hk] at hl
  have hln : L.length = n := Nat.eq_of_mul_eq_mul_right hk0 hl
  have hjl := (List.getElem?_eq_some_iff.1 hj).1
  rcases h.2 with ⟨_, hn⟩ | ⟨g, cap, cur, hv, hb, hg, h1, h2, h3, h4⟩
  · omega
  · cases hv
    refine ⟨g, rfl, hb, (Array.getElem?_eq_some_iff.1 hg).1, h1, h2, fun i hi => ?_⟩
    have hB : Blk w g ty cur := hg
    have hlt : j * k + i < n * k := by
      have : (j + 1) * k ≤ n * k := Nat.mul_le_mul_right k (by omega)
      rw [Nat.succ_mul] at this
      omega
    rw [hB.cell, ← by_at hk L j x hj i hi, ← h4, List.getElem?_take, if_pos hlt]
    simp
theorem own_len {w : World} {base n : Nat} {ty : TypeId} {v : Value} {L : List α} (hk : ∀ x, (enc x).length = k) (hk0 : 0 < k) (h : w.ownsRow base ty k v n (cellsBy enc L)) : L.length = n := by
  have hl := h.1
  rw [by_length hk] at hl
  exact Nat.eq_of_mul_eq_mul_right hk0 hl
end
theorem own_blk {w : World} {g : Nat} {ty : TypeId} {xs : List Value} {n size base : Nat} (h : Blk w g ty xs.toArray) (hl : xs.length = n * size) (hn : n ≤ maxLen) (hb : base ≤ g) : w.ownsRow base ty size (.slice (some ⟨g, 0, none⟩) n n) n xs :=
  ⟨hl, .inr ⟨g, n, xs.toArray, rfl, hb, h, Nat.le_refl _, hn, by simp [hl], by simp [← hl]⟩⟩
theorem encTm_len (t : Tm) : (encTm t).length = 6 := rfl
theorem encTm_ones (t : Tm) : ∀ v ∈ encTm t, v.oneCell' = true := by
  intro v hv
  simp only [encTm, List.mem_cons, List.not_mem_nil, or_false] at hv
  rcases hv with rfl | rfl | rfl | rfl | rfl | rfl <;> rfl
theorem own_tm {w : World} {base n : Nat} {A : Option Addr} {c : Nat} {L : List Tm} (h : w.ownsRow base 33 6 (.slice A n c) n (cellsBy encTm L)) {j : Nat} {x : Tm} (hj : L[j]? = some x) :
    ∃ g, A = some ⟨g, 0, none⟩ ∧ base ≤ g ∧ g < w.heap.size ∧ n ≤ c ∧ c ≤ maxLen ∧ w.cell? ⟨g, j * 6, none⟩ = some (.int .i64 x.kind) ∧ w.cell? ⟨g, j * 6 + 1, none⟩ = some (.int .i64 x.lan) ∧ w.cell? ⟨g, j * 6 + 2, none⟩ = some (.int .i64 x.id) ∧ w.cell? ⟨g, j * 6 + 3, none⟩ = some (.int .i64 x.kk) ∧ w.cell? ⟨g, j * 6 + 4, none⟩ = some (.int .i64 x.ki) ∧ w.cell? ⟨g, j * 6 + 5, none⟩ = some (.int .i64 x.ka) := by
  obtain ⟨g, h1, h2, h3, h4, h5, h6⟩ := own_item encTm_len (by omega) h hj
  exact ⟨g, h1, h2, h3, h4, h5, h6 0 (by omega), h6 1 (by omega), h6 2 (by omega), h6 3 (by omega), h6 4 (by omega), h6 5 (by omega)⟩
/-- What Arm and Cancel do to the entries. -/
def armR (z : Int) (R : List En) (t : Tm) : List En := ⟨z, t⟩ :: restR R t
def armAll (z : Int) (R : List En) (L : List Tm) : List En := L.foldl (armR z) R
def canAll (R : List En) (L : List Tm) : List En := L.foldl restR R
theorem restR_len (R : List En) (t : Tm) : (restR R t).length ≤ R.length := List.length_filter_le _ _
theorem armAll_len (z : Int) : ∀ (L : List Tm) (R : List En), (armAll z R L).length ≤ R.length + L.length
  | [], R => Nat.le_refl _
  | t :: L, R => by
    have h1 := armAll_len z L (armR z R t)
    have h2 := restR_len R t
    show (armAll z (armR z R t) L).length ≤ _
    have h3 : (armR z R t).length = (restR R t).length + 1 := rfl
    simp only [List.length_cons]
    omega
theorem armAll_next {z : Int} {R : List En} {L : List Tm} {j : Nat} {x : Tm} (h : L[j]? = some x) : armAll z R (L.take (j + 1)) = armR z (armAll z R (L.take j)) x := by
  unfold armAll
  rw [take_snocA L j x h, List.foldl_append]
  rfl
theorem canAll_next {R : List En} {L : List Tm} {j : Nat} {x : Tm} (h : L[j]? = some x) : canAll R (L.take (j + 1)) = restR (canAll R (L.take j)) x := by
  unfold canAll
  rw [take_snocA L j x h, List.foldl_append]
  rfl
/-- 'm[t] = z' as the next operation of a plain region's list. -/
theorem wpList_put8 {ops : Array Oper} {rest : List Oper} {o : Oper} {a : Act} {w : World} {Q : Exit → Act → World → Prop} {b : Nat} {R : List En} (t : Tm) (z : Int) (hg : o.guard = none) (m x y : Operand) (hop : o.op = Op.mapUpdate 54 m x y)
    (hm : a.eval m = .map (some b)) (hx : a.eval x = .agg #[.int .i64 t.kind, .int .i64 t.lan, .int .i64 t.id, .int .i64 t.kk, .int .i64 t.ki, .int .i64 t.ka]) (hy : a.eval y = .int .i64 z) (h : MapIs w b R) (ht : wfTm t) (hn : R.length < maxLen)
    (hK : ∀ w', MapIs w' b (armR z R t) → w.mapTurned w' b → wpList Try.prog ops Q rest (match o.dst with | some d => { a with tmps := a.tmps.setIfInBounds d undef } | none => a) w') : wpList Try.prog ops Q (o :: rest) a w := by
  refine wpList_plain hg fun K' hK' => ?_
  obtain ⟨w', hrun, r1, r2⟩ := h.put ⟨z, t⟩ ht hn
  have hrun' : (Instr.mapUpdate 54 (.map (some b)) (.agg #[.int .i64 t.kind, .int .i64 t.lan, .int .i64 t.id, .int .i64 t.kk, .int .i64 t.ki, .int .i64 t.ka]) (.int .i64 z)).run Try.prog w = .ok () w' := hrun
  unfold Oper.wp
  simp [execOp, hop, hm, hx, hy, hrun', Result.andThen]
  exact hK' _ _ (hK w' r1 r2)
end Go.Proofs.Ytaghophkfogdgaa
