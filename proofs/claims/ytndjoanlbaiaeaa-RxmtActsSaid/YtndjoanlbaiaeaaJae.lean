/- The calls fresh of package lsa: a list's items in memory of their own. Conditions: at most 50 items. -/
import Derived.Test.YtndjoanlbaiaeaaJad
namespace Go.Proofs.Ytndjoanlbaiaeaa
open Go.RowKit

/-- append of whatever slice, nil let in, to a row of the call's own. -/
theorem run_append_any (w : World) (t e ty : TypeId) (z : Value) (size bytes : Nat) (ht : Try.prog.underlying t = some (.slice e)) (hinfo : (Try.prog.info? e).map (fun i => (i.zero, i.size, i.bytes)) = some (some z, size, bytes)) (hzs : z.cells.size = size) (hsz : 0 < size) (hby : bytes ≤ 1024)
    (base : Nat) (v : Value) (n : Nat) (xs : List Value) (hown : w.ownsRow base e size v n xs) (A : Option Addr) (m c : Nat) (news : List Value) (hl : news.length = m * size) (hA : A = none → m = 0)
    (hnews : ∀ ad, A = some ad → ∀ j u, news[j]? = some u → w.cell? (ad.add j) = some u) (h1 : ∀ u ∈ news, u.oneCell' = true) (hz : n + m ≤ 1048576) (hbase : base ≤ w.heap.size) :
    ∃ v' w', (Builtin.append_ #[t, t] ty #[v, .slice A m c]).run Try.prog w = .ok v' w' ∧ w'.ownsRow base e size v' (n + m) (xs ++ news) ∧ w.grownBy w' v.ownBlock := by
  obtain ⟨i0, hi, hz0, hz1, hz2⟩ := info_parts hinfo
  cases A with
  | none =>
    have hm := hA rfl
    subst hm
    have hl0 : news = [] := List.eq_nil_of_length_eq_zero (by omega)
    subst hl0
    refine ⟨v, w, ?_, by simpa using hown, ⟨rfl, rfl, rfl, Nat.le_refl _, fun _ _ _ => rfl⟩⟩
    rcases hown.2 with ⟨rfl, rfl⟩ | ⟨g, cap, cur, rfl, _, _, hnc, _⟩
    · simp [Builtin.append_, run_underlying ht, sizeOf, typeInfo, hi, Builtin.lenOf, Builtin.firstCells]
    · simp [Builtin.append_, run_underlying ht, sizeOf, typeInfo, hi, Builtin.lenOf, Builtin.firstCells, hnc, storeCells]
  | some ad =>
    have hb : (n + m) * bytes ≤ 1048576 * 1024 := Nat.mul_le_mul hz hby
    obtain ⟨v', w', h1, h2, h3, _, h5⟩ := run_append_own_at (P := Try.prog) w base t ty e i0 z size bytes ht hi hz0 hz1 hz2 hzs hsz v n xs hown ad m c news hl (hnews ad rfl) h1 (by unfold maxLen; omega) (by omega) hbase
    exact ⟨v', w', h1, h2, h3⟩
theorem wpList_append_any {w : World} {ops : Array Oper} {rest : List Oper} {o : Oper} {a : Act} {Q : Exit → Act → World → Prop} (hgd : o.guard = none) (s x : Operand) (t e : TypeId) (z : Value) (size bytes : Nat)
    (ht : Try.prog.underlying t = some (.slice e)) (hinfo : (Try.prog.info? e).map (fun i => (i.zero, i.size, i.bytes)) = some (some z, size, bytes)) (hzs : z.cells.size = size) (hsz : 0 < size) (hby : bytes ≤ 1024)
    (ho : o.op = .call { callee := .builtin .append, args := #[s, x], argTypes := #[t, t] }) (base : Nat) (v : Value) (n : Nat) (xs : List Value) (hs : a.eval s = v) (hown : w.ownsRow base e size v n xs)
    (A : Option Addr) (m c : Nat) (news : List Value) (hx : a.eval x = .slice A m c) (hl : news.length = m * size) (hA : A = none → m = 0)
    (hnews : ∀ ad, A = some ad → ∀ j u, news[j]? = some u → w.cell? (ad.add j) = some u) (h1 : ∀ u ∈ news, u.oneCell' = true) (hz : n + m ≤ 1048576) (hbase : base ≤ w.heap.size)
    (h : ∀ v' w', Hid (w'.ownsRow base e size v' (n + m) (xs ++ news)) → Hid (w.grownBy w' v.ownBlock) → wpList Try.prog ops Q rest (a.put o.dst v') w') : wpList Try.prog ops Q (o :: rest) a w := by
  refine wpList_plain hgd fun K hK => ?_
  obtain ⟨v', w', hrun, h2, h3⟩ := run_append_any w t e o.type z size bytes ht hinfo hzs hsz hby base v n xs hown A m c news hl hA hnews h1 hz hbase
  unfold Oper.wp execOp
  simp only [ho, resolve, invoke, builtin, Sem.run_bind, Sem.run_pure, Result.andThen_ok, List.map_toArray, List.map_cons, List.map_nil, hs, hx, hrun]
  exact hK _ _ (h v' w' h2 h3)

theorem addr_add (b o j : Nat) : (⟨b, o, none⟩ : Addr).add j = ⟨b, o + j, none⟩ := by
  unfold Addr.add
  split <;> simp_all
theorem lkCells_length (L : List Lk) : (lkCells L).length = L.length * 4 := by
  induction L with
  | nil => rfl
  | cons x l ih => simp [lkCells, ih]; omega
/-- The cells of links that a slice leads to. -/
theorem Lnk.cells {w : World} {B n : Nat} {A : Option Addr} {L : List Lk} (h : Lnk w B A n L) : (A = none → n = 0) ∧ ∀ ad, A = some ad → ∀ j u, (lkCells L)[j]? = some u → w.cell? (ad.add j) = some u := by
  constructor
  · intro e
    rcases Nat.eq_zero_or_pos n with h0 | h0
    · exact h0
    · obtain ⟨_, _, e2, _⟩ := h.2 h0
      rw [e] at e2
      cases e2
  · intro ad e j u hu
    have hj : j < L.length * 4 := by
      rcases Nat.lt_or_ge j (L.length * 4) with hj | hj
      · exact hj
      · rw [List.getElem?_eq_none (by rw [lkCells_length]; exact hj)] at hu
        cases hu
    have hn := h.1
    obtain ⟨b, o, e2, _, hc⟩ := h.2 (by omega)
    rw [e] at e2
    injection e2 with e2
    subst e2
    obtain ⟨c0, c1, c2, c3⟩ := hc (j / 4) (by omega)
    obtain ⟨d0, d1, d2, d3⟩ := lkCells_get L (j / 4) (by omega)
    rw [addr_add]
    have hm : j % 4 = 0 ∨ j % 4 = 1 ∨ j % 4 = 2 ∨ j % 4 = 3 := by omega
    have ej := Nat.div_add_mod j 4
    rcases hm with hm | hm | hm | hm
    · have e3 : j = j / 4 * 4 := by omega
      rw [e3] at hu ⊢
      rw [d0] at hu
      injection hu with hu
      subst hu
      exact c0
    · have e3 : j = j / 4 * 4 + 1 := by omega
      rw [e3] at hu ⊢
      rw [d1] at hu
      injection hu with hu
      subst hu
      exact c1
    · have e3 : j = j / 4 * 4 + 2 := by omega
      rw [e3] at hu ⊢
      rw [d2] at hu
      injection hu with hu
      subst hu
      exact c2
    · have e3 : j = j / 4 * 4 + 3 := by omega
      rw [e3] at hu ⊢
      rw [d3] at hu
      injection hu with hu
      subst hu
      exact c3
theorem Row.cells {k : IntKind} {w : World} {B n : Nat} {A : Option Addr} {l : List Int} (h : Row k w B A n l) : (A = none → n = 0) ∧ ∀ ad, A = some ad → ∀ j u, (l.map (Value.int k))[j]? = some u → w.cell? (ad.add j) = some u := by
  constructor
  · intro e
    rcases Nat.eq_zero_or_pos n with h0 | h0
    · exact h0
    · obtain ⟨_, _, e2, _⟩ := h.2 h0
      rw [e] at e2
      cases e2
  · intro ad e j u hu
    rw [List.getElem?_map] at hu
    have hl := h.1
    have hj : j < n := by
      rcases Nat.lt_or_ge j n with hj | hj
      · exact hj
      · rw [List.getElem?_eq_none (by omega)] at hu; cases hu
    obtain ⟨b, o, e2, _, hc⟩ := h.2 (by omega)
    rw [e] at e2
    injection e2 with e2
    subst e2
    have h1 := hc j hj
    rw [List.getD_eq_getElem?_getD] at h1
    rw [List.getElem?_eq_getElem (by omega)] at hu h1
    simp at hu h1
    subst hu
    rw [addr_add]
    exact h1

end Go.Proofs.Ytndjoanlbaiaeaa
