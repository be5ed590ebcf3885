/- Rows of candidates of a call's own; the library's copy of a list. Conditions: at most 2^20 candidates where a list is copied. -/
import Derived.Test.YtedlkoecnnmihaaEi
namespace Go.Proofs.Ytedlkoecnnmihaa
open Go.RowKit

section
variable {α : Type} {enc : α → List Value} {k : Nat}
/-- The cells of items, one behind the other. -/
def cellsBy (enc : α → List Value) (L : List α) : List Value := L.flatMap enc
theorem by_cons (x : α) (L : List α) : cellsBy enc (x :: L) = enc x ++ cellsBy enc L := by simp [cellsBy]
theorem by_append (L M : List α) : cellsBy enc (L ++ M) = cellsBy enc L ++ cellsBy enc M := by simp [cellsBy]
theorem by_one (x : α) : cellsBy enc [x] = enc x := by simp [cellsBy]
theorem by_length (hk : ∀ x, (enc x).length = k) (L : List α) : (cellsBy enc L).length = L.length * k := by
  induction L with
  | nil => simp [cellsBy]
  | cons x L ih => rw [by_cons, List.length_append, ih, hk, List.length_cons, Nat.succ_mul, Nat.add_comm]
theorem by_ones (h1 : ∀ x, ∀ v ∈ enc x, v.oneCell' = true) (L : List α) : ∀ v ∈ cellsBy enc L, v.oneCell' = true := by
  intro v hv
  obtain ⟨x, _, hx⟩ := List.mem_flatMap.1 hv
  exact h1 x v hx
theorem by_at (hk : ∀ x, (enc x).length = k) : ∀ (L : List α) (j : Nat) (x : α), L[j]? = some x → ∀ i, i < k → (cellsBy enc L)[j * k + i]? = (enc x)[i]?
  | [], j, x, h, i, hi => by simp at h
  | y :: L, 0, x, h, i, hi => by
    simp at h
    subst h
    rw [by_cons, Nat.zero_mul, Nat.zero_add, List.getElem?_append_left (by rw [hk]; exact hi)]
  | y :: L, j + 1, x, h, i, hi => by
    have := by_at hk L j x (by simpa using h) i hi
    rw [by_cons, List.getElem?_append_right (by rw [hk, Nat.succ_mul]; omega), hk, ← this]
    congr 1
    rw [Nat.succ_mul]
    omega
/-- A row of the call's own, item j of it. -/
theorem own_item {w : World} {base n : Nat} {ty : TypeId} {A : Option Addr} {c : Nat} {L : List α} (hk : ∀ x, (enc x).length = k) (hk0 : 0 < k) (h : w.ownsRow base ty k (.slice A n c) n (cellsBy enc L)) {j : Nat} {x : α} (hj : L[j]? = some x) :
    ∃ g, A = some ⟨g, 0, none⟩ ∧ base ≤ g ∧ g < w.heap.size ∧ n ≤ c ∧ c ≤ maxLen ∧ ∀ i, i < k → w.cell? ⟨g, j * k + i, none⟩ = (enc x)[i]? := by
  have hl := h.1
  rw [by_length hk] at hl
  have hln : L.length = n := Nat.eq_of_mul_eq_mul_right hk0 hl
  have hjl := (List.getElem?_eq_some_iff.1 hj).1
  rcases h.2 with ⟨_, hn⟩ | ⟨g, cap, cur, hv, hb, hg, h1, h2, h3, h4⟩
  · omega
  · cases hv
    refine ⟨g, rfl, hb, (Array.getElem?_eq_some_iff.1 hg).1, h1, h2, fun i hi => ?_⟩
    have hB : Blk w g ty cur := hg
    have hlt : j * k + i < n * k := by
      have : (j + 1) * k ≤ n * k := Nat.mul_le_mul_right k (by omega)
      rw [Nat.succ_mul] at this
      omega
    rw [hB.cell, ← by_at hk L j x hj i hi, ← h4, List.getElem?_take, if_pos hlt]
    simp
theorem own_len {w : World} {base n : Nat} {ty : TypeId} {v : Value} {L : List α} (hk : ∀ x, (enc x).length = k) (hk0 : 0 < k) (h : w.ownsRow base ty k v n (cellsBy enc L)) : L.length = n := by
  have hl := h.1
  rw [by_length hk] at hl
  exact Nat.eq_of_mul_eq_mul_right hk0 hl
end
theorem own_blk {w : World} {g : Nat} {ty : TypeId} {xs : List Value} {n size base : Nat} (h : Blk w g ty xs.toArray) (hl : xs.length = n * size) (hn : n ≤ maxLen) (hb : base ≤ g) : w.ownsRow base ty size (.slice (some ⟨g, 0, none⟩) n n) n xs :=
  ⟨hl, .inr ⟨g, n, xs.toArray, rfl, hb, h, Nat.le_refl _, hn, by simp [hl], by simp [← hl]⟩⟩

theorem own_set1 {w : World} {base n size b c : Nat} {t : TypeId} {xs : List Value} (h : w.ownsRow base t size (.slice (some ⟨b, 0, none⟩) n c) n xs) (p : Nat) (u : Value) :
    (w.setCell ⟨b, p, none⟩ u).ownsRow base t size (.slice (some ⟨b, 0, none⟩) n c) n (xs.set p u) := by
  refine ⟨by rw [List.length_set]; exact h.1, ?_⟩
  rcases h.2 with ⟨hv, _⟩ | ⟨g, cap, cur, hv, hb, hg, h1, h2, h3, h4⟩
  · cases hv
  · injection hv with e1 e2 e3
    injection e1 with e1
    injection e1 with e1
    subst e1 e3
    have hB : Blk w b t cur := hg
    refine .inr ⟨b, c, cur.setIfInBounds p u, rfl, hb, hB.put p u, h1, h2, by simpa using h3, ?_⟩
    rw [← h4]
    simp [List.take_set]

theorem by_set1 {α : Type} {enc : α → List Value} {k : Nat} (hk : ∀ x, (enc x).length = k) : ∀ {L : List α} {j : Nat} {x : α} (x' : α) (i : Nat) (u : Value), L[j]? = some x → i < k → enc x' = (enc x).set i u → cellsBy enc (L.set j x') = (cellsBy enc L).set (j * k + i) u
  | [], j, x, x', i, u, h, _, _ => by simp at h
  | y :: L, 0, x, x', i, u, h, hi, he => by
    simp at h
    subst h
    rw [List.set_cons_zero, by_cons, by_cons, he, Nat.zero_mul, Nat.zero_add, List.set_append_left _ _ (by rw [hk]; exact hi)]
  | y :: L, j + 1, x, x', i, u, h, hi, he => by
    have ih := by_set1 hk (L := L) (j := j) x' i u (by simpa using h) hi he
    rw [List.set_cons_succ, by_cons, by_cons, ih, List.set_append_right _ _ (by rw [hk, Nat.succ_mul]; omega), hk]
    congr 2
    rw [Nat.succ_mul]
    omega
theorem by_set4 {L : List Cd} {j : Nat} (hj : j < L.length) (x' : Cd) : cellsBy encCd (L.set j x') = ((((cellsBy encCd L).set (j * 4) (.int .i64 x'.id)).set (j * 4 + 1) (.int .i64 x'.prio)).set (j * 4 + 2) (.int .i64 x'.dr)).set (j * 4 + 3) (.int .i64 x'.bdr) := by
  have hx : L[j]? = some L[j] := List.getElem?_eq_getElem hj
  generalize L[j] = x at hx
  have at' : ∀ (M : List Cd) (z : Cd), j < M.length → (M.set j z)[j]? = some z := fun M z h => by simp [h]
  have s0 := by_set1 encCd_len ⟨x'.id, x.prio, x.dr, x.bdr⟩ 0 (.int .i64 x'.id) hx (by omega) rfl
  have s1 := by_set1 encCd_len ⟨x'.id, x'.prio, x.dr, x.bdr⟩ 1 (.int .i64 x'.prio) (at' L _ hj) (by omega) (x := ⟨x'.id, x.prio, x.dr, x.bdr⟩) rfl
  have s2 := by_set1 encCd_len ⟨x'.id, x'.prio, x'.dr, x.bdr⟩ 2 (.int .i64 x'.dr) (at' L _ hj) (by omega) (x := ⟨x'.id, x'.prio, x.dr, x.bdr⟩) rfl
  have s3 := by_set1 encCd_len x' 3 (.int .i64 x'.bdr) (at' L _ hj) (by omega) (x := ⟨x'.id, x'.prio, x'.dr, x.bdr⟩) rfl
  rw [List.set_set] at s1 s2 s3
  rw [s3, s2, s1, s0]
  rfl
/-- A candidate is written over one of a row of the call's own. -/
theorem own_put4 {w : World} {base n b c j : Nat} {L : List Cd} (h : w.ownsRow base 31 4 (.slice (some ⟨b, 0, none⟩) n c) n (cellsBy encCd L)) (hj : j < L.length) (x' : Cd) :
    ((((w.setCell ⟨b, j * 4, none⟩ (.int .i64 x'.id)).setCell ⟨b, j * 4 + 1, none⟩ (.int .i64 x'.prio)).setCell ⟨b, j * 4 + 2, none⟩ (.int .i64 x'.dr)).setCell ⟨b, j * 4 + 3, none⟩ (.int .i64 x'.bdr)).ownsRow base 31 4 (.slice (some ⟨b, 0, none⟩) n c) n (cellsBy encCd (L.set j x')) := by
  rw [by_set4 hj x']
  exact own_set1 (own_set1 (own_set1 (own_set1 h _ _) _ _) _ _) _ _
theorem own_put1 {w : World} {base n b c j : Nat} {L : List Cd} (h : w.ownsRow base 31 4 (.slice (some ⟨b, 0, none⟩) n c) n (cellsBy encCd L)) {x : Cd} (hj : L[j]? = some x) (x' : Cd) (i : Nat) (u : Value) (hi : i < 4) (he : encCd x' = (encCd x).set i u) :
    (w.setCell ⟨b, j * 4 + i, none⟩ u).ownsRow base 31 4 (.slice (some ⟨b, 0, none⟩) n c) n (cellsBy encCd (L.set j x')) := by
  rw [by_set1 encCd_len x' i u hj hi he]
  exact own_set1 h _ _
theorem own_cd {w : World} {base n : Nat} {A : Option Addr} {c : Nat} {L : List Cd} (h : w.ownsRow base 31 4 (.slice A n c) n (cellsBy encCd L)) {j : Nat} {x : Cd} (hj : L[j]? = some x) :
    ∃ g, A = some ⟨g, 0, none⟩ ∧ base ≤ g ∧ g < w.heap.size ∧ n ≤ c ∧ c ≤ maxLen ∧ w.cell? ⟨g, j * 4, none⟩ = some (.int .i64 x.id) ∧ w.cell? ⟨g, j * 4 + 1, none⟩ = some (.int .i64 x.prio) ∧ w.cell? ⟨g, j * 4 + 2, none⟩ = some (.int .i64 x.dr) ∧ w.cell? ⟨g, j * 4 + 3, none⟩ = some (.int .i64 x.bdr) := by
  obtain ⟨g, h1, h2, h3, h4, h5, h6⟩ := own_item encCd_len (by omega) h hj
  exact ⟨g, h1, h2, h3, h4, h5, h6 0 (by omega), h6 1 (by omega), h6 2 (by omega), h6 3 (by omega)⟩
theorem own_cds {w : World} {base n : Nat} {A : Option Addr} {c : Nat} {L : List Cd} (h : w.ownsRow base 31 4 (.slice A n c) n (cellsBy encCd L)) : Cds w w.heap.size A n L := by
  have hl := own_len encCd_len (by omega) h
  refine ⟨hl, fun hn => ?_⟩
  have h0 : L[0]? = some (L[0]'(by omega)) := List.getElem?_eq_getElem (by omega)
  obtain ⟨g, h1, _, h3, _⟩ := own_cd h h0
  refine ⟨g, 0, h1, h3, fun j x hx => ?_⟩
  obtain ⟨g', h1', _, _, _, _, y0, y1, y2, y3⟩ := own_cd h hx
  rw [h1] at h1'
  injection h1' with e
  injection e with e
  subst e
  rw [Nat.zero_add]
  exact ⟨y0, y1, y2, y3⟩
theorem own_maxn {w : World} {base n size : Nat} {t : TypeId} {v : Value} {xs : List Value} (h : w.ownsRow base t size v n xs) : n ≤ maxLen := by
  rcases h.2 with ⟨_, hn⟩ | ⟨g, cap, cur, hv, hb, hg, h1, h2, h3, h4⟩
  · omega
  · omega
/-- The cells that a slice leads to. -/
theorem Cds.cells {w : World} {B n : Nat} {A : Option Addr} {L : List Cd} (h : Cds w B A n L) : (A = none → n = 0) ∧ ∀ ad, A = some ad → ∀ j u, (cellsBy encCd L)[j]? = some u → w.cell? (ad.add j) = some u := by
  constructor
  · intro e
    rcases Nat.eq_zero_or_pos n with h0 | h0
    · exact h0
    · obtain ⟨_, _, e2, _⟩ := h.2 h0
      rw [e] at e2
      cases e2
  · intro ad e j u hu
    have hj : j < L.length * 4 := by
      rcases Nat.lt_or_ge j (L.length * 4) with hj | hj
      · exact hj
      · rw [List.getElem?_eq_none (by rw [by_length encCd_len]; exact hj)] at hu
        cases hu
    have hn := h.1
    obtain ⟨b, o, e2, _, hc⟩ := h.2 (by omega)
    rw [e] at e2
    injection e2 with e2
    subst e2
    have hx : L[j / 4]? = some (L[j / 4]'(by omega)) := List.getElem?_eq_getElem (by omega)
    obtain ⟨c0, c1, c2, c3⟩ := hc _ _ hx
    have hb := by_at encCd_len L _ _ hx (j % 4) (by omega)
    rw [show j / 4 * 4 + j % 4 = j from by omega, hu] at hb
    rw [addr_add]
    generalize L[j / 4] = x at *
    have hm : j % 4 = 0 ∨ j % 4 = 1 ∨ j % 4 = 2 ∨ j % 4 = 3 := by omega
    have ej := Nat.div_add_mod j 4
    rcases hm with hm | hm | hm | hm <;> rw [hm] at hb <;> simp [encCd] at hb <;> subst hb
    · rw [show o + j = o + j / 4 * 4 from by omega]; exact c0
    · rw [show o + j = o + j / 4 * 4 + 1 from by omega]; exact c1
    · rw [show o + j = o + j / 4 * 4 + 2 from by omega]; exact c2
    · rw [show o + j = o + j / 4 * 4 + 3 from by omega]; exact c3
theorem Try.infoCand : (Try.prog.info? 31).map (fun i => (i.zero, i.size, i.bytes)) = some (some (.agg #[.int .i64 0, .int .i64 0, .int .i64 0, .int .i64 0]), 4, 32) := by kernel_rfl
theorem own_empty (w : World) : (w.alloc (.cells #[] 31)).ownsRow w.heap.size 31 4 (.slice (some ⟨w.heap.size, 0, none⟩) 0 0) 0 [] :=
  own_blk (xs := []) (Blk.new w 31 #[]) rfl (by unfold maxLen; omega) (Nat.le_refl _)

set_option maxRecDepth 8000 in
set_option maxHeartbeats 2000000 in
theorem clone_any {w : World} {B n c : Nat} {A : Option Addr} {L : List Cd} (hs : Cds w B A n L) (hB : B ≤ w.heap.size) (hn : n ≤ 1048576) :
    Calls Try.prog 30 #[.slice A n c] w fun e w' => ∃ A' c', e = .returned (.slice A' n c') ∧ w'.ownsRow w.heap.size 31 4 (.slice A' n c') n (cellsBy encCd L) ∧ Below w.heap.size w w' := by
  have HP := Lib.hid (hs.more hB)
  clear hs
  cases A with
  | none =>
    have h0 : n = 0 := HP.out.cells.1 rfl
    subst h0
    have hL : L = [] := List.eq_nil_of_length_eq_zero HP.out.1
    subst hL
    have eq0 : ∀ W, (binOp .eql 24 (.slice none 0 c) (.slice none 0 0)).run Try.prog W = .ok (.bool true) W := fun _ => by kernel_rfl
    have HO := Lib.hid (World.ownsRow_nil w w.heap.size 31 4)
    go_enter Try.func30, Try.ntmps30
    go_wp2
    go_ret
    exact ⟨none, 0, rfl, HO.out, Below.refl _ _⟩
  | some ad =>
    have B0 := Lib.hid ((Below.refl w.heap.size w).alloc (Nat.le_refl _) (.cells #[] 31))
    have O0 := Lib.hid (own_empty w)
    have P0 := Lib.hid (HP.out.below B0.out)
    have eq0 : ∀ W, (binOp .eql 24 (.slice (some ad) n c) (.slice none 0 0)).run Try.prog W = .ok (.bool false) W := fun _ => by kernel_rfl
    have hsl : w.heap.size ≤ (w.alloc (.cells #[] 31)).heap.size := by simp
    go_enter Try.func30, Try.ntmps30
    go_wp2_with (at_builtin; refine wpList_append_any rfl (.tmp 5) (.tmp 6) 24 31 (.agg #[.int .i64 0, .int .i64 0, .int .i64 0, .int .i64 0]) 4 32 Try.underlying24 Try.infoCand rfl (by decide) (by decide) rfl w.heap.size (.slice (some ⟨w.heap.size, 0, none⟩) 0 0) 0 [] (by rfl) O0.out (some ad) n c (cellsBy encCd L) (by rfl) (by rw [by_length encCd_len, HP.out.1]) P0.out.cells.1 P0.out.cells.2 (by_ones encCd_ones L) (by omega) hsl ?_; intro v2 w2 ho2 hg2; obtain ⟨A2, c2, rfl⟩ := own_slice ho2.out)
    rw [Nat.zero_add, List.nil_append] at ho2
    have BR := Lib.hid (B0.out.trans (own_keeps7 O0.out hg2.out hsl))
    go_ret
    exact ⟨A2, c2, rfl, ho2.out, BR.out⟩

end Go.Proofs.Ytedlkoecnnmihaa
