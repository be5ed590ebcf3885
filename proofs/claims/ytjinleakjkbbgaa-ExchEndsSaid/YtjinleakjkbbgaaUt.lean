/- Lacks. Conditions: at most 100 heads, keys of 64 bits, ages from 0 to 60 where they are compared. -/
import Derived.Test.YtjinleakjkbbgaaUs
import Derived.Deep.MidRow
namespace Go.Proofs.Ytjinleakjkbbgaa
open Go.RowKit Go.Lib Go.Sort Go.Deep

theorem setAll_is (post : List Value) : ∀ (vs rest pre : List Value), rest.length = vs.length → setAll (pre ++ rest ++ post) pre.length vs = pre ++ vs ++ post
  | [], rest, pre, hl => by
    have : rest = [] := List.eq_nil_of_length_eq_zero hl
    subst this
    rfl
  | v :: r, [], pre, hl => by simp at hl
  | v :: r, u :: rest, pre, hl => by
    have h2 := setAll_is post r rest (pre ++ [v]) (by simpa using hl)
    rw [List.length_append, List.length_singleton] at h2
    unfold setAll
    have e : (pre ++ u :: rest ++ post).set pre.length v = (pre ++ [v]) ++ rest ++ post := by simp
    rw [e, h2]
    simp

theorem own_putH {w : World} {base n b c j : Nat} {L : List Hd} (h : w.ownsRow base 58 7 (.slice (some ⟨b, 0, none⟩) n c) n (cellsBy encHd L)) (hj : j < L.length) (y : Hd) :
    (w.setCells b (j * 7) (encHd y)).ownsRow base 58 7 (.slice (some ⟨b, 0, none⟩) n c) n (cellsBy encHd (L.set j y)) := by
  have h1 := own_setCells (encHd y) (j * 7) w _ h
  have e0 : L = L.take j ++ [L[j]] ++ L.drop (j + 1) := by simp
  have e1 : setAll (cellsBy encHd L) (j * 7) (encHd y) = cellsBy encHd (L.set j y) := by
    have hl : (cellsBy encHd (L.take j)).length = j * 7 := by rw [by_length encHd_len]; simp; omega
    have e2 : cellsBy encHd L = cellsBy encHd (L.take j) ++ encHd L[j] ++ cellsBy encHd (L.drop (j + 1)) := by
      conv => lhs; rw [e0]
      rw [by_append, by_append, by_one]
    rw [e2, ← hl, setAll_is _ (encHd y) (encHd L[j]) (cellsBy encHd (L.take j)) rfl, List.set_eq_take_append_cons_drop, if_pos hj, by_append, by_cons]
    simp
  rw [e1] at h1
  exact h1
theorem own_thereH {w : World} {base n c k size g : Nat} {t : TypeId} {xs : List Value} (h : w.ownsRow base t size (.slice (some ⟨g, 0, none⟩) n c) n xs) (hk : k < n) : w.there g (k * size) size := by
  rcases h.2 with ⟨hv, _⟩ | ⟨g', cap, cur, hv, hb, hg, h1, h2, h3, h4⟩
  · cases hv
  · cases hv
    have hB : Blk w g t cur := hg
    have h5 : (k + 1) * size ≤ c * size := Nat.mul_le_mul_right _ (by omega)
    rw [Nat.succ_mul] at h5
    intro j hj
    refine ⟨?_, hB.frozen _⟩
    rw [hB.cell, Array.getElem?_eq_getElem (by omega)]
    rfl
/-- A head stored over an item of a row. -/
theorem wpList_over_hd {ops : Array Oper} {rest : List Oper} {op : Oper} {a : Act} {w : World} {Q : Exit → Act → World → Prop} {base n c g k : Nat} {L : List Hd} (y : Hd) (hg : op.guard = none) (x v : Operand) (ho : op.op = .store 58 x v) (hx : a.eval x = .pointer (some ⟨g, k * 7, none⟩)) (hv : a.eval v = .agg #[.int .i64 y.age, .int .i64 y.kind, .int .i64 y.id, .int .i64 y.adv, .int .i64 y.seq, .int .i64 y.sum, .int .i64 y.long])
    (hown : w.ownsRow base 58 7 (.slice (some ⟨g, 0, none⟩) n c) n (cellsBy encHd L)) (hk : k < n)
    (hn : ∀ w', Hid (w'.ownsRow base 58 7 (.slice (some ⟨g, 0, none⟩) n c) n (cellsBy encHd (L.set k y))) → Hid (Chg (fun q => q = g) w w') → wpList Try.prog ops Q rest (a.put op.dst undef) w') : wpList Try.prog ops Q (op :: rest) a w :=
  wpList_store_mid hg 58 x v ho g (k * 7) (encHd y).toArray hx hv (own_thereH hown hk) (by kernel_rfl) (all_oneCell_toArray (encHd_ones y)) (hn _ (Lib.hid (own_putH hown (by rw [own_lenH encHd_len (by omega) hown]; exact hk) y)) (Lib.hid (chg_setCells g _ _ _)))
theorem hds_item {w : World} {B n k : Nat} {A : Option Addr} {L : List Hd} (h : Hds w B A n L) (hk : k < n) : ∃ (b o : Nat) (x : Hd), A = some ⟨b, o, none⟩ ∧ b < B ∧ L[k]? = some x ∧ w.rangeAt b (o + k * 7) [.int .i64 x.age, .int .i64 x.kind, .int .i64 x.id, .int .i64 x.adv, .int .i64 x.seq, .int .i64 x.sum, .int .i64 x.long] := by
  obtain ⟨b, o, x, rfl, hb, hx, hh⟩ := Arr.at h hk
  exact ⟨b, o, x, rfl, hb, hx, HdAt.range hh⟩
end Go.Proofs.Ytjinleakjkbbgaa
