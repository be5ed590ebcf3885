/- Heads in memory; the order of two of them, as the program's function literal tells it; the library's stable sort of a row of them. Conditions: at most 1000 heads. -/
import Derived.Test.YtjinleakjkbbgaaUi
import Derived.Test.YtjinleakjkbbgaaJai
namespace Go.Proofs.Ytjinleakjkbbgaa
open Go.RowKit Go.Shelf Go.Lib Go.Sort

section
variable {α : Type} {enc : α → List Value} {k : Nat}
/-- The cells of items, one behind the other. -/
def cellsBy (enc : α → List Value) (L : List α) : List Value := L.flatMap enc
theorem by_cons (x : α) (L : List α) : cellsBy enc (x :: L) = enc x ++ cellsBy enc L := by simp [cellsBy]
theorem by_append (L M : List α) : cellsBy enc (L ++ M) = cellsBy enc L ++ cellsBy enc M := by simp [cellsBy]
theorem by_one (x : α) : cellsBy enc [x] = enc x := by simp [cellsBy]
theorem by_length (hk : ∀ x, (enc x).length = k) (L : List α) : (cellsBy enc L).length = L.length * k := by
  induction L with
  | nil => simp [cellsBy]
  | cons x L ih => rw [by_cons, List.length_append, ih, hk, List.length_cons, Nat.succ_mul, Nat.add_comm]
theorem by_ones (h1 : ∀ x, ∀ v ∈ enc x, v.oneCell' = true) (L : List α) : ∀ v ∈ cellsBy enc L, v.oneCell' = true := by
  intro v hv
  obtain ⟨x, _, hx⟩ := List.mem_flatMap.1 hv
  exact h1 x v hx
theorem by_at (hk : ∀ x, (enc x).length = k) : ∀ (L : List α) (j : Nat) (x : α), L[j]? = some x → ∀ i, i < k → (cellsBy enc L)[j * k + i]? = (enc x)[i]?
  | [], j, x, h, i, hi => by simp at h
  | y :: L, 0, x, h, i, hi => by
    simp at h
    subst h
    rw [by_cons, Nat.zero_mul, Nat.zero_add, List.getElem?_append_left (by rw [hk]; exact hi)]
  | y :: L, j + 1, x, h, i, hi => by
    have := by_at hk L j x (by simpa using h) i hi
    rw [by_cons, List.getElem?_append_right (by rw [hk, Nat.succ_mul]; omega), hk, ← this]
    congr 1
    rw [Nat.succ_mul]
    omega
/-- A row of the call's own, item j of it. -/
theorem own_item {w : World} {base n : Nat} {ty : TypeId} {A : Option Addr} {c : Nat} {L : List α} (hk : ∀ x, (enc x).length = k) (hk0 : 0 < k) (h : w.ownsRow base ty k (.slice A n c) n (cellsBy enc L)) {j : Nat} {x : α} (hj : L[j]? = some x) :
    ∃ g, A = some ⟨g, 0, none⟩ ∧ base ≤ g ∧ g < w.heap.size ∧ n ≤ c ∧ c ≤ maxLen ∧ ∀ i, i < k → w.cell? ⟨g, j * k + i, none⟩ = (enc x)[i]? := by
  have hl := h.1
  rw [by_length hk] at hl
  have hln : L.length = n := Nat.eq_of_mul_eq_mul_right hk0 hl
  have hjl := (List.getElem?_eq_some_iff.1 hj).1
  rcases h.2 with ⟨_, hn⟩ | ⟨g, cap, cur, hv, hb, hg, h1, h2, h3, h4⟩
  · omega
  · cases hv
    refine ⟨g, rfl, hb, (Array.getElem?_eq_some_iff.1 hg).1, h1, h2, fun i hi => ?_⟩
    have hB : Blk w g ty cur := hg
    have hlt : j * k + i < n * k := by
      have : (j + 1) * k ≤ n * k := Nat.mul_le_mul_right k (by omega)
      rw [Nat.succ_mul] at this
      omega
    rw [hB.cell, ← by_at hk L j x hj i hi, ← h4, List.getElem?_take, if_pos hlt]
    simp
theorem own_lenH {w : World} {base n : Nat} {ty : TypeId} {v : Value} {L : List α} (hk : ∀ x, (enc x).length = k) (hk0 : 0 < k) (h : w.ownsRow base ty k v n (cellsBy enc L)) : L.length = n := by
  have hl := h.1
  rw [by_length hk] at hl
  exact Nat.eq_of_mul_eq_mul_right hk0 hl
end

instance : Inhabited Hd := ⟨⟨0, 0, 0, 0, 0, 0, 0⟩⟩
def encHd (h : Hd) : List Value := [.int .i64 h.age, .int .i64 h.kind, .int .i64 h.id, .int .i64 h.adv, .int .i64 h.seq, .int .i64 h.sum, .int .i64 h.long]
theorem encHd_len (h : Hd) : (encHd h).length = 7 := rfl
theorem encHd_ones (h : Hd) : ∀ v ∈ encHd h, v.oneCell' = true := fun v hv => by
  simp only [encHd, List.mem_cons, List.not_mem_nil, or_false] at hv
  rcases hv with rfl | rfl | rfl | rfl | rfl | rfl | rfl <;> rfl
/-- The order of heads: that of their keys. -/
def cmpH (a b : Hd) : Int := cmpK (keyH a) (keyH b)
def lessH (a b : Hd) : Bool := lessKy (keyH a) (keyH b)
theorem ltOf_cmpH : ltOf cmpH = lessH := by
  funext a b
  exact cmpK_less _ _
theorem swo_less : SWO lessH where
  irrefl x := lessKy_irrefl _
  trans x y z h1 h2 := lessKy_trans h1 h2
  ntrans x y z h1 h2 := by
    cases h : lessH x z
    · rfl
    · have n1 : ¬ lessKy (keyH x) (keyH y) = true := by
        show ¬ lessH x y = true
        rw [h1]
        decide
      have n2 : ¬ lessKy (keyH y) (keyH z) = true := by
        show ¬ lessH y z = true
        rw [h2]
        decide
      have h3 : lessKy (keyH x) (keyH z) = true := h
      rw [lessKy_iff] at n1 n2 h3
      omega
theorem swo_cmpH : SWO (ltOf cmpH) := by
  rw [ltOf_cmpH]
  exact swo_less
set_option maxRecDepth 8000 in
set_option maxHeartbeats 2000000 in
theorem keyOf_grown (h : Hd) (w : World) : Calls Try.prog 49 #[.agg #[.int .i64 h.age, .int .i64 h.kind, .int .i64 h.id, .int .i64 h.adv, .int .i64 h.seq, .int .i64 h.sum, .int .i64 h.long]] w
    fun e w' => e = .returned (.agg #[.int .i64 h.kind, .int .i64 h.id, .int .i64 h.adv]) ∧ ∃ q os', w' = grow (w.drewN q) os' := by
  have HG := Lib.hid (show ∃ q os', (w.alloc (.cells #[.int .i64 h.age, .int .i64 h.kind, .int .i64 h.id, .int .i64 h.adv, .int .i64 h.seq, .int .i64 h.sum, .int .i64 h.long] 58)).alloc (.cells #[.int .i64 h.kind, .int .i64 h.id, .int .i64 h.adv] 80) = grow (w.drewN q) os' from ⟨0, _, by rw [alloc_eq_grow, alloc_eq_grow, grow_grow]; rfl⟩)
  go_enter Try.func49, Try.ntmps49
  go_wp2
  refine bodyPost_ret (v := .agg #[.int .i64 h.kind, .int .i64 h.id, .int .i64 h.adv]) (by simp [results, Try.results49, go_sem, *]) rfl ?_
  exact ⟨rfl, HG.out⟩
theorem Blk.sevenH {w : World} {g : Nat} {t : TypeId} {a0 a1 a2 a3 a4 a5 a6 : Value} (h : Blk w g t #[a0, a1, a2, a3, a4, a5, a6]) : w.cell? ⟨g, 0, none⟩ = some a0 ∧ w.cell? ⟨g, 1, none⟩ = some a1 ∧ w.cell? ⟨g, 2, none⟩ = some a2 ∧ w.cell? ⟨g, 3, none⟩ = some a3 ∧ w.cell? ⟨g, 4, none⟩ = some a4 ∧ w.cell? ⟨g, 5, none⟩ = some a5 ∧ w.cell? ⟨g, 6, none⟩ = some a6 := ⟨h.cell 0, h.cell 1, h.cell 2, h.cell 3, h.cell 4, h.cell 5, h.cell 6⟩
set_option maxRecDepth 20000 in
set_option maxHeartbeats 8000000 in
/-- The function literal that the stable sort is handed. -/
theorem compareH (a b : Hd) (w : World) : Calls Try.prog 47 #[.agg #[.int .i64 a.age, .int .i64 a.kind, .int .i64 a.id, .int .i64 a.adv, .int .i64 a.seq, .int .i64 a.sum, .int .i64 a.long], .agg #[.int .i64 b.age, .int .i64 b.kind, .int .i64 b.id, .int .i64 b.adv, .int .i64 b.seq, .int .i64 b.sum, .int .i64 b.long]] w
    fun e w' => e = .returned (.int .i64 (cmpH a b)) ∧ ∃ q os', w' = grow (w.drewN q) os' := by
  obtain ⟨a0, a1, a2, a3, a4, a5, a6⟩ := Blk.sevenH (blk_new07 w #[.int .i64 a.age, .int .i64 a.kind, .int .i64 a.id, .int .i64 a.adv, .int .i64 a.seq, .int .i64 a.sum, .int .i64 a.long] 58 (.cells #[.int .i64 b.age, .int .i64 b.kind, .int .i64 b.id, .int .i64 b.adv, .int .i64 b.seq, .int .i64 b.sum, .int .i64 b.long] 58))
  obtain ⟨b0, b1, b2, b3, b4, b5, b6⟩ := Blk.sevenH (blk_new1 w (.cells #[.int .i64 a.age, .int .i64 a.kind, .int .i64 a.id, .int .i64 a.adv, .int .i64 a.seq, .int .i64 a.sum, .int .i64 a.long] 58) 58 #[.int .i64 b.age, .int .i64 b.kind, .int .i64 b.id, .int .i64 b.adv, .int .i64 b.seq, .int .i64 b.sum, .int .i64 b.long])
  have HG := Lib.hid (show ∃ os, (w.alloc (.cells #[.int .i64 a.age, .int .i64 a.kind, .int .i64 a.id, .int .i64 a.adv, .int .i64 a.seq, .int .i64 a.sum, .int .i64 a.long] 58)).alloc (.cells #[.int .i64 b.age, .int .i64 b.kind, .int .i64 b.id, .int .i64 b.adv, .int .i64 b.seq, .int .i64 b.sum, .int .i64 b.long] 58) = grow w os from ⟨_, by rw [alloc_eq_grow, alloc_eq_grow, grow_grow]⟩)
  have mixed : Try.prog.follows .mixedOrders = true := by kernel_rfl
  go_enter Try.func47, Try.ntmps47
  go_wp2_with fail
  generalize (w.alloc (.cells #[.int .i64 a.age, .int .i64 a.kind, .int .i64 a.id, .int .i64 a.adv, .int .i64 a.seq, .int .i64 a.sum, .int .i64 a.long] 58)).alloc (.cells #[.int .i64 b.age, .int .i64 b.kind, .int .i64 b.id, .int .i64 b.adv, .int .i64 b.seq, .int .i64 b.sum, .int .i64 b.long] 58) = w0 at *
  have p1 := fun n os => Calls.grown_of (keyOf_grown a (grow (w0.drewN n) os))
  have p2 := fun n os => Calls.grown_of (keyOf_grown b (grow (w0.drewN n) os))
  have p3 := fun n os => Calls.grown_of (compare7 (keyH a) (keyH b) (grow (w0.drewN n) os))
  have ga0 := fun n os => cell_grown (n := n) (os := os) (World.block_lt_of_cell? w0 _ a0) a0
  have ga1 := fun n os => cell_grown (n := n) (os := os) (World.block_lt_of_cell? w0 _ a1) a1
  have ga2 := fun n os => cell_grown (n := n) (os := os) (World.block_lt_of_cell? w0 _ a2) a2
  have ga3 := fun n os => cell_grown (n := n) (os := os) (World.block_lt_of_cell? w0 _ a3) a3
  have ga4 := fun n os => cell_grown (n := n) (os := os) (World.block_lt_of_cell? w0 _ a4) a4
  have ga5 := fun n os => cell_grown (n := n) (os := os) (World.block_lt_of_cell? w0 _ a5) a5
  have ga6 := fun n os => cell_grown (n := n) (os := os) (World.block_lt_of_cell? w0 _ a6) a6
  have gb0 := fun n os => cell_grown (n := n) (os := os) (World.block_lt_of_cell? w0 _ b0) b0
  have gb1 := fun n os => cell_grown (n := n) (os := os) (World.block_lt_of_cell? w0 _ b1) b1
  have gb2 := fun n os => cell_grown (n := n) (os := os) (World.block_lt_of_cell? w0 _ b2) b2
  have gb3 := fun n os => cell_grown (n := n) (os := os) (World.block_lt_of_cell? w0 _ b3) b3
  have gb4 := fun n os => cell_grown (n := n) (os := os) (World.block_lt_of_cell? w0 _ b4) b4
  have gb5 := fun n os => cell_grown (n := n) (os := os) (World.block_lt_of_cell? w0 _ b5) b5
  have gb6 := fun n os => cell_grown (n := n) (os := os) (World.block_lt_of_cell? w0 _ b6) b6
  clear a0 a1 a2 a3 a4 a5 a6 b0 b1 b2 b3 b4 b5 b6
  unfold keyH at p3
  dsimp only at p3
  rw [show cmpK ⟨a.kind, a.id, a.adv⟩ ⟨b.kind, b.id, b.adv⟩ = cmpH a b from rfl] at p3
  obtain ⟨r, hr⟩ : ∃ r, cmpH a b = r := ⟨_, rfl⟩
  rw [hr] at p3
  have HR := Lib.hid hr
  clear hr
  go_quiet_grown (first | (go_at_call 49; first | with_reducible exact p1 _ _ | with_reducible exact p2 _ _) | (go_at_call 48; with_reducible exact p3 _ _))
  obtain ⟨os, hos⟩ := HG.out
  go_wp2_with fail
  go_ret
  exact ⟨by rw [HR.out]; rfl, nq, os ++ osq, by rw [hos, ← grow_grow]; rfl⟩
theorem flat_hd (K : List Hd) : flatK encHd 7 K.toArray = (cellsBy encHd K).toArray := by
  refine ext_get! (by simp [by_length encHd_len]) fun t ht => ?_
  have ht' : t < K.toArray.size * 7 := by simpa using ht
  have ht2 : t < K.length * 7 := by simpa using ht'
  rw [get_flatK _ _ _ t ht']
  have hd : t / 7 < K.length := by omega
  have hK : K[t / 7]? = some (K[t / 7]'hd) := List.getElem?_eq_getElem hd
  have h1 : (cellsBy encHd K)[t / 7 * 7 + t % 7]? = (encHd _)[t % 7]? := by_at encHd_len K (t / 7) _ hK (t % 7) (by omega)
  rw [show t / 7 * 7 + t % 7 = t by omega] at h1
  have h2 : K.toArray[t / 7]! = K[t / 7]'hd := by
    rw [getElem!_pos K.toArray (t / 7) (by simpa using hd)]
    simp
  rw [h2]
  have hl : t < (cellsBy encHd K).toArray.size := by simp [by_length encHd_len]; omega
  have h3 : t % 7 < (encHd (K[t / 7]'hd)).length := by simp [encHd]; omega
  rw [getElem!_pos (cellsBy encHd K).toArray t hl, getElem!_pos _ (t % 7) h3]
  rw [List.getElem?_eq_getElem (by simpa using hl), List.getElem?_eq_getElem h3] at h1
  injection h1 with h1
  simpa using h1.symm
theorem enters_cmpH : ∀ args w, (callFunc 47 args).run Try.prog w = .ok (.enter 47 args) w := enters_of Try.func47 (by kernel_rfl) rfl
end Go.Proofs.Ytjinleakjkbbgaa
