/- Memory of bytes, as the proofs of all packages take it: make, copy and append of rows of bytes, nil let in, and a slice of integers that came in, read as a row. Conditions: what append puts together has at most 2^40 bytes. -/
import Derived.Test.YtidncajbedgplaaM
import Derived.Test.YtidncajbedgplaaN
import Derived.Test.YtidncajbedgplaaProg
import Derived.WalkKit
import Derived.WalkLawsBesides
import Derived.Deep.QuietTactic
import Derived.BigQuiet
import Derived.Lib.Hide
import Derived.Laws.CopyOwn
import Derived.Laws.MakeOwn
import Derived.OpenShut
import Derived.Deep.AppendLies
import Derived.Maps.AppendAt
namespace Go.Proofs.Ytidncajbedgplaa
open Go.RowKit

theorem Try.info5 : (Try.prog.info? 5).map (fun i => (i.zero, i.size, i.bytes)) = some (some (.int .u8 0), 1, 1) := by kernel_rfl

/-- A run of zeros. -/
def zeros (n : Nat) : List Value := List.replicate n (.int .u8 0)

theorem run_make5 (m c : Nat) (hc : m ≤ c) (h : c ≤ 281474976710656) (W : World) :
    (Instr.makeSlice 28 (.int .i64 (m : Int)) (.int .i64 (c : Int))).run Try.prog W = .ok (.slice (some ⟨W.heap.size, 0, none⟩) m c) (W.alloc (.cells (zeros c).toArray 5)) := by
  obtain ⟨i0, hi, hz0, hz1, hz2⟩ := info_parts Try.info5
  have hr := run_make (P := Try.prog) W 28 5 i0 (.int .u8 0) Try.underlying28 hi hz0 .i64 .i64 (m : Int) (c : Int) (by omega) (by omega) (by rw [hz2]; omega) (by omega)
  rw [hr]
  have e : madeCells (Value.int .u8 0).cells ((c : Int).toNat * i0.size) = (zeros c).toArray := by
    rw [hz1]
    apply Array.ext
    · simp [madeCells, zeros]
    · intro j h1 h2
      simp [madeCells, zeros, Value.cells, Nat.mod_one]
  rw [e]
  simp

theorem run_make5_0 (W : World) : (Instr.makeSlice 28 (.int .i64 0) (.int .i64 0)).run Try.prog W = .ok (.slice (some ⟨W.heap.size, 0, none⟩) 0 0) (W.alloc (.cells #[] 5)) := run_make5 0 0 (by omega) (by omega) W

theorem oneCell_ints (k : IntKind) (l : List Int) : ∀ v ∈ l.map (Value.int k), v.oneCell' = true := by
  intro v hv
  obtain ⟨x, _, rfl⟩ := List.mem_map.1 hv
  rfl

/-- copy of a row of bytes over the beginning of a block of bytes that is known whole. -/
theorem wpList_copy_row {w : World} {ops : Array Oper} {rest : List Oper} {o : Oper} {a : Act} {Q : Exit → Act → World → Prop} (hgd : o.guard = none) (d s : Operand)
    (ho : o.op = .call { callee := .builtin .copy, args := #[d, s], argTypes := #[28, 28] }) (g m dc sc : Nat) (A : Option Addr) (hd : a.eval d = .slice (some ⟨g, 0, none⟩) m dc) (hs : a.eval s = .slice A m sc)
    (B : Nat) (l : List Int) (hr : Row .u8 w B A m l) (cur : List Value) (hcur : m ≤ cur.length) (hg : Blk w g 5 cur.toArray)
    (h : ∀ w', Hid (Blk w' g 5 (l.map (Value.int .u8) ++ cur.drop m).toArray) → w.grownBy w' (some g) → wpList Try.prog ops Q rest (a.put o.dst (goInt m)) w') : wpList Try.prog ops Q (o :: rest) a w := by
  obtain ⟨i0, hi, hz0, hz1, hz2⟩ := info_parts Try.info5
  have hsz : (Try.prog.info? 5).map (·.size) = some 1 := by rw [hi]; simp [hz1]
  by_cases h0 : m = 0
  · subst h0
    refine wpList_copy_nothing hgd d s 28 28 ho 5 Try.underlying28 hsz _ _ _ _ _ _ hd hs rfl ?_
    have hl : l = [] := List.eq_nil_of_length_eq_zero hr.1
    subst hl
    exact h w (show Blk _ _ _ _ by simpa using hg) ⟨rfl, rfl, rfl, Nat.le_refl _, fun _ _ _ => rfl⟩
  · obtain ⟨b, off, rfl, hb, hc⟩ := hr.2 (by omega)
    have hlen := hr.1
    refine wpList_copy_own hgd d s 28 28 ho 5 Try.underlying28 hsz g 0 m dc ⟨b, off, none⟩ m sc hd hs cur.toArray 5 hg (l.map (Value.int .u8)) (by simp [hlen]) ?_ (by simp [hlen]; exact hcur) (oneCell_ints _ _) ?_
    · intro j v hv
      rw [List.getElem?_map] at hv
      have hj : j < m := by
        rcases Nat.lt_or_ge j m with hj | hj
        · exact hj
        · rw [List.getElem?_eq_none (by omega)] at hv; cases hv
      have := hc j hj
      rw [List.getD_eq_getElem?_getD] at this
      rw [List.getElem?_eq_getElem (by omega)] at hv this
      simp at hv this
      subst hv
      have e : (⟨b, off, none⟩ : Addr).add j = ⟨b, off + j, none⟩ := by
        unfold Addr.add
        split <;> simp_all
      rw [e]
      exact this
    · have h2 := h (w.setRow g (cur.toArray.toList.take 0 ++ (l.map (Value.int .u8) ++ cur.toArray.toList.drop (0 + (l.map (Value.int .u8)).length))).toArray)
        (by have := setRow_heap w g cur.toArray (cur.toArray.toList.take 0 ++ (l.map (Value.int .u8) ++ cur.toArray.toList.drop (0 + (l.map (Value.int .u8)).length))).toArray 5 _ hg
            have e : (cur.toArray.toList.take 0 ++ (l.map (Value.int .u8) ++ cur.toArray.toList.drop (0 + (l.map (Value.int .u8)).length))) = l.map (Value.int .u8) ++ cur.drop m := by simp [hlen]
            rw [e] at this ⊢
            exact this)
        ⟨rfl, rfl, rfl, by simp [World.setRow], fun k _ hk => setRow_other w g k _ (fun e => hk (by rw [e]))⟩
      have e3 : (l.map (Value.int .u8)).length = m := by simp [hlen]
      rw [e3] at h2 ⊢
      exact h2

theorem row_of_blk {w : World} {g : Nat} {l : List Int} {rest : List Value} (h : Blk w g 5 (l.map (Value.int .u8) ++ rest).toArray) : Row .u8 w w.heap.size (some ⟨g, 0, none⟩) l.length l := by
  refine ⟨rfl, fun _ => ⟨g, 0, rfl, h.lt, fun j hj => ?_⟩⟩
  rw [h.cell]
  simp [List.getElem?_append, hj]

theorem ret_int {k : IntKind} {a b : Int} (h : a = b) : Ending.returned (.int k a) = .returned (.int k b) := by rw [h]

/-- Each is an integer of 64 bits. -/
def I64 (l : List Int) : Prop := ∀ x ∈ l, -9223372036854775808 ≤ x ∧ x ≤ 9223372036854775807
theorem I64.getD {l : List Int} (h : I64 l) (k : Nat) : -9223372036854775808 ≤ l.getD k 0 ∧ l.getD k 0 ≤ 9223372036854775807 := by
  rw [List.getD_eq_getElem?_getD]
  cases hk : l[k]? with
  | none => simp
  | some x => exact h x (List.mem_of_getElem? hk)
theorem ret_bool {a b : Bool} (h : a = b) : Ending.returned (.bool a) = .returned (.bool b) := by rw [h]

/-- A slice of integers that came in: nil, or a row of 'cap' cells that hold the numbers 'zs', of which the first 'len' are its elements. -/
def IsRow (k : IntKind) (w : World) (a : Option Addr) (len cap : Nat) (zs : List Int) : Prop :=
  (a = none ∧ len = 0 ∧ cap = 0 ∧ zs = []) ∨
  ∃ x, a = some x ∧ len ≤ cap ∧ cap ≤ maxLen ∧ zs.length = cap ∧ (∀ i, i < zs.length → w.cell? (x.add i) = some (.int k (zs.getD i 0))) ∧ ∀ n ∈ zs, (Lit.int k n).wf = true

theorem row_of_is {k : IntKind} {w : World} {a : Option Addr} {len cap : Nat} {zs : List Int} (h : IsRow k w a len cap zs) :
    ∃ l, Row k w w.heap.size a len l ∧ (∀ n ∈ l, (Lit.int k n).wf = true) ∧ len ≤ cap ∧ len ≤ maxLen := by
  rcases h with ⟨rfl, rfl, rfl, rfl⟩ | ⟨x, rfl, hl, hm, hz, hc, hw⟩
  · exact ⟨[], Row.nil, (fun _ h => nomatch h), Nat.le_refl _, Nat.zero_le _⟩
  · refine ⟨zs.take len, ⟨by simp; omega, fun h => ?_⟩, fun n hn => hw n (List.mem_of_mem_take hn), hl, Nat.le_trans hl hm⟩
    obtain ⟨b, off, rfl, hc'⟩ := ints_at hc (by omega)
    refine ⟨b, off, rfl, World.block_lt_of_cell? w ⟨b, off + 0, none⟩ (hc' 0 (by omega)), fun j hj => ?_⟩
    have e : (zs.take len).getD j 0 = zs.getD j 0 := by
      simp only [List.getD_eq_getElem?_getD, List.getElem?_take, if_pos hj]
    rw [e]
    exact hc' j (by omega)

theorem byt_of_wf {l : List Int} (h : ∀ n ∈ l, (Lit.int .u8 n).wf = true) : Byt l := fun x hx => by
  have := bounds_u8 (h x hx)
  omega
theorem i64_of_wf {l : List Int} (h : ∀ n ∈ l, (Lit.int .i64 n).wf = true) : I64 l := fun x hx => by
  have := bounds_i64 (h x hx)
  omega

theorem run_append_row (w : World) (base : Nat) (v : Value) (n : Nat) (xs : List Value) (hown : w.ownsRow base 5 1 v n xs) (B : Nat) (A : Option Addr) (m c : Nat) (l : List Int) (hr : Row .u8 w B A m l)
    (hz : n + m ≤ 1099511627776) (hbase : base ≤ w.heap.size) (ty : TypeId) :
    ∃ v' w', (Builtin.append_ #[28, 28] ty #[v, .slice A m c]).run Try.prog w = .ok v' w' ∧ w'.ownsRow base 5 1 v' (n + m) (xs ++ l.map (Value.int .u8)) ∧ w.grownBy w' v.ownBlock ∧ (v'.ownBlock = v.ownBlock ∨ v'.ownBlock = some w.heap.size) := by
  obtain ⟨i0, hi, hz0, hz1, hz2⟩ := info_parts Try.info5
  cases A with
  | none =>
    have hm : m = 0 := by
      rcases Nat.eq_zero_or_pos m with h | h
      · exact h
      · obtain ⟨_, _, e, _⟩ := hr.2 h
        cases e
    subst hm
    have hl : l = [] := List.eq_nil_of_length_eq_zero hr.1
    subst hl
    refine ⟨v, w, ?_, by simpa using hown, ⟨rfl, rfl, rfl, Nat.le_refl _, fun _ _ _ => rfl⟩, .inl rfl⟩
    rcases hown.2 with ⟨rfl, rfl⟩ | ⟨g, cap, cur, rfl, _, _, hnc, _⟩
    · simp [Builtin.append_, run_underlying Try.underlying28, sizeOf, typeInfo, hi, Builtin.lenOf, Builtin.firstCells]
    · simp [Builtin.append_, run_underlying Try.underlying28, sizeOf, typeInfo, hi, Builtin.lenOf, Builtin.firstCells, hnc, storeCells]
  | some ad =>
    have hcells : ∀ j u, (l.map (Value.int .u8))[j]? = some u → w.cell? (ad.add j) = some u := by
      intro j u hu
      rw [List.getElem?_map] at hu
      have hl := hr.1
      have hj : j < m := by
        rcases Nat.lt_or_ge j m with hj | hj
        · exact hj
        · rw [List.getElem?_eq_none (by omega)] at hu; cases hu
      obtain ⟨b, o, e, _, hc⟩ := hr.2 (by omega)
      injection e with e
      subst e
      have h1 := hc j hj
      rw [List.getD_eq_getElem?_getD] at h1
      rw [List.getElem?_eq_getElem (by omega)] at hu h1
      simp at hu h1
      subst hu
      have e2 : (⟨b, o, none⟩ : Addr).add j = ⟨b, o + j, none⟩ := by
        unfold Addr.add
        split <;> simp_all
      rw [e2]
      exact h1
    obtain ⟨v', w', h1, h2, h3, _, h5⟩ := run_append_own_at (P := Try.prog) w base 28 ty 5 i0 (.int .u8 0) 1 1 Try.underlying28 hi hz0 hz1 hz2 rfl (by decide) v n xs hown ad m c (l.map (Value.int .u8)) (by simp [hr.1]) hcells (oneCell_ints _ _) (by unfold maxLen; omega) (by omega) hbase
    exact ⟨v', w', h1, h2, h3, h5⟩

theorem wpList_append_row {w : World} {ops : Array Oper} {rest : List Oper} {o : Oper} {a : Act} {Q : Exit → Act → World → Prop} (hgd : o.guard = none) (s x : Operand)
    (ho : o.op = .call { callee := .builtin .append, args := #[s, x], argTypes := #[28, 28] }) (base : Nat) (v : Value) (n : Nat) (xs : List Value) (hs : a.eval s = v) (hown : w.ownsRow base 5 1 v n xs)
    (B : Nat) (A : Option Addr) (m c : Nat) (l : List Int) (hx : a.eval x = .slice A m c) (hr : Row .u8 w B A m l) (hz : n + m ≤ 1099511627776) (hbase : base ≤ w.heap.size)
    (h : ∀ v' w', Hid (w'.ownsRow base 5 1 v' (n + m) (xs ++ l.map (Value.int .u8))) → Hid (w.grownBy w' v.ownBlock) → Hid (v'.ownBlock = v.ownBlock ∨ v'.ownBlock = some w.heap.size) → wpList Try.prog ops Q rest (a.put o.dst v') w') : wpList Try.prog ops Q (o :: rest) a w := by
  refine wpList_plain hgd fun K hK => ?_
  obtain ⟨v', w', hrun, h2, h3, h4⟩ := run_append_row w base v n xs hown B A m c l hr hz hbase o.type
  unfold Oper.wp execOp
  simp only [ho, resolve, invoke, builtin, Sem.run_bind, Sem.run_pure, Result.andThen_ok, List.map_toArray, List.map_cons, List.map_nil, hs, hx, hrun]
  exact hK _ _ (h v' w' h2 h3 h4)

/-- A row of the call's own reads as a row. -/
theorem row_of_own {w : World} {base : Nat} {v : Value} {n : Nat} {L : List Int} (h : w.ownsRow base 5 1 v n (L.map (Value.int .u8))) : ∃ A c, v = .slice A n c ∧ Row .u8 w w.heap.size A n L ∧ n ≤ c := by
  have hL : L.length = n := by have := h.1; simpa using this
  rcases h.2 with ⟨rfl, h0⟩ | ⟨g, cap, cur, rfl, hg, hh, hn, hm, hs, ht⟩
  · subst h0
    have : L = [] := List.eq_nil_of_length_eq_zero hL
    subst this
    exact ⟨_, _, rfl, Row.nil, Nat.le_refl _⟩
  · refine ⟨_, _, rfl, ⟨hL, fun _ => ⟨g, 0, rfl, (Blk.lt hh), fun j hj => ?_⟩⟩, hn⟩
    have hc := h.cells (g := g) rfl j (.int .u8 (L.getD j 0)) (by rw [List.getElem?_map, List.getD_eq_getElem?_getD, List.getElem?_eq_getElem (by omega)]; rfl)
    have e : (⟨g, 0, none⟩ : Addr).add j = ⟨g, 0 + j, none⟩ := by
      unfold Addr.add
      split <;> simp_all
    rw [e] at hc
    exact hc

theorem own_below {w w' : World} {base : Nat} {v : Value} {n : Nat} {xs : List Value} (h : w.ownsRow base 5 1 v n xs) (hb : Below w.heap.size w w') : w'.ownsRow base 5 1 v n xs :=
  h.kept (row := none) ⟨hb.os, hb.tape, hb.output, hb.size, fun k hk _ => hb.block k hk⟩ (by cases v.ownBlock <;> simp)

theorem Blk.setInt {w : World} {g : Nat} {t : TypeId} {l : List Int} (h : Blk w g t (l.map (Value.int .u8)).toArray) (k : Nat) (x : Int) : Blk (w.setCell ⟨g, k, none⟩ (.int .u8 x)) g t ((l.set k x).map (Value.int .u8)).toArray := by
  have := h.put k (.int .u8 x)
  rw [List.setIfInBounds_toArray] at this
  rwa [List.map_set]
theorem Blk.at {w : World} {g : Nat} {t : TypeId} {l : List Int} (h : Blk w g t (l.map (Value.int .u8)).toArray) (k : Nat) (hk : k < l.length) : w.cell? ⟨g, k, none⟩ = some (.int .u8 (l.getD k 0)) := by
  rw [h.cell, List.getElem?_toArray, List.getElem?_map, List.getD_eq_getElem?_getD, List.getElem?_eq_getElem hk]; rfl
theorem Blk.row {w : World} {g : Nat} {t : TypeId} {l : List Int} (h : Blk w g t (l.map (Value.int .u8)).toArray) : Row .u8 w w.heap.size (some ⟨g, 0, none⟩) l.length l :=
  ⟨rfl, fun _ => ⟨g, 0, rfl, h.lt, fun j hj => by rw [Nat.zero_add]; exact h.at j hj⟩⟩
section
variable {w : World} {g : Nat} {t : TypeId} {l : List Int} {rest : List Value} {q : IntKind}
theorem Blk.setR (h : Blk w g t (l.map (Value.int q) ++ rest).toArray) (k : Nat) (hk : k < l.length) (x : Int) : Blk (w.setCell ⟨g, k, none⟩ (.int q x)) g t ((l.set k x).map (Value.int q) ++ rest).toArray := by
  have := h.put k (.int q x)
  rw [List.setIfInBounds_toArray, List.set_append_left _ _ (by simpa using hk)] at this
  rwa [List.map_set]
theorem Blk.atR (h : Blk w g t (l.map (Value.int q) ++ rest).toArray) (k : Nat) (hk : k < l.length) : w.cell? ⟨g, k, none⟩ = some (.int q (l.getD k 0)) := by
  rw [h.cell, List.getElem?_toArray, List.getElem?_append_left (by simpa using hk), List.getElem?_map, List.getD_eq_getElem?_getD, List.getElem?_eq_getElem hk]; rfl
theorem Blk.rowR (h : Blk w g t (l.map (Value.int q) ++ rest).toArray) : Row q w w.heap.size (some ⟨g, 0, none⟩) l.length l :=
  ⟨rfl, fun _ => ⟨g, 0, rfl, h.lt, fun j hj => by rw [Nat.zero_add]; exact h.atR j hj⟩⟩
end
/-- A row of the call's own that has elements: its block. -/
theorem own_blk {w : World} {base : Nat} {t : TypeId} {v : Value} {n : Nat} {xs : List Value} (h : w.ownsRow base t 1 v n xs) (hn : 0 < n) : ∃ g c rest, v = .slice (some ⟨g, 0, none⟩) n c ∧ base ≤ g ∧ n ≤ c ∧ Blk w g t (xs ++ rest).toArray := by
  rcases h.2 with ⟨_, h0⟩ | ⟨g, cap, cur, rfl, hg, hh, hc, hm, hs, ht⟩
  · omega
  · refine ⟨g, cap, cur.toList.drop n, rfl, hg, hc, ?_⟩
    rw [Nat.mul_one] at ht
    rw [← ht, List.take_append_drop]
    exact hh
theorem row_two {w : World} (a b : Int) (t : TypeId) : Row .u8 (w.alloc (.cells #[.int .u8 a, .int .u8 b] t)) (w.heap.size + 1) (some ⟨w.heap.size, 0, none⟩) 2 [a, b] := by
  refine ⟨rfl, fun _ => ⟨_, _, rfl, by omega, fun j hj => ?_⟩⟩
  rw [(Blk.new w t _).cell]
  match j, hj with
  | 0, _ => rfl
  | 1, _ => rfl
end Go.Proofs.Ytidncajbedgplaa
