/- Words for memory that the proofs of package quad share: a row of integers that a slice leads to, a block that is known whole, and a goto ahead out of a scope. No conditions. · Plain facts on lists of bytes and the numbers that they are, the highest byte first. No program, no conditions. · Memory of bytes, as the proofs of all packages take it: make, copy and append of rows of bytes, nil let in, and a slice of integers that came in, read as a row. Conditions: what append puts together has at most 2^40 bytes. · Plain words for descriptions: a head, a link, and what may be of them. No program, no conditions. · The small calls of package lsa and of the reference that ask for bounds: within, mayBe, rightLink; in, Head. No conditions. · Memory of links: a slice of structs of four integers that reads as a list. No conditions. -/
import Derived.Below
import Derived.Laws.OwnMore
import Derived.Laws.Rows
import Derived.Deep.Draws
import Derived.ScopeJumps
import Derived.WalkMore
import Derived.Test.YtnnkcgbnhjkahaaProg
import Derived.WalkKit
import Derived.WalkLawsBesides
import Derived.Deep.QuietTactic
import Derived.BigQuiet
import Derived.Lib.Hide
import Derived.Laws.CopyOwn
import Derived.Laws.MakeOwn
import Derived.OpenShut
import Derived.Deep.AppendLies
import Derived.Maps.AppendAt
namespace Go.Proofs.Ytnnkcgbnhjkahaa
open Go.RowKit

/-- A goto ahead: at the goto the rest behind the label is walked from there. -/
theorem scope_fwd {P : Program} {a : Act} {w : World} {Q : Exit → Act → World → Prop} {c rest : Code} (l : Nat) (hf : findLabel c l = some rest)
    (h : c.wp P (Exit.jump l (fun a w => rest.wp P (Exit.noGoto Q) a w) Q) a w) : (Code.scope c).wp P Q a w := by
  refine wp_scope_jumps l (fun a w => rest.wp P (Exit.noGoto Q) a w) (fun _ _ => 0) hf h (fun a w hp => ?_)
  refine wp_mono hp fun e a w q => ?_
  cases e <;> first | exact q | exact q.elim

/-- The cells of block g are just cs, of element type t, none frozen. -/
def Blk (w : World) (g : Nat) (t : TypeId) (cs : Array Value) : Prop := w.heap[g]? = some (.cells cs t (0, 0))

section
variable {w w' : World} {g : Nat} {t : TypeId} {cs : Array Value}
theorem Blk.lt (h : Blk w g t cs) : g < w.heap.size := (Array.getElem?_eq_some_iff.1 h).1
theorem Blk.cell (h : Blk w g t cs) (i : Nat) : w.cell? ⟨g, i, none⟩ = cs[i]? := cell_of_row w g i cs t (0, 0) h
theorem Blk.frozen (h : Blk w g t cs) (i : Nat) : w.frozen? ⟨g, i, none⟩ = false := by
  unfold Blk at h
  simp [World.frozen?, h]
theorem Blk.new (w : World) (t : TypeId) (cs : Array Value) : Blk (w.alloc (.cells cs t)) w.heap.size t cs := heap_alloc_new w _
theorem Blk.drewN (h : Blk w g t cs) (n : Nat) : Blk (w.drewN n) g t cs := h
theorem Blk.drew (h : Blk w g t cs) : Blk w.drew g t cs := h
theorem Blk.alloc (h : Blk w g t cs) (o : Obj) : Blk (w.alloc o) g t cs := (Below.heap_alloc w o g h.lt).trans h
theorem Blk.put (h : Blk w g t cs) (i : Nat) (u : Value) : Blk (w.setCell ⟨g, i, none⟩ u) g t (cs.setIfInBounds i u) := by
  unfold Blk at h ⊢
  simp [World.setCell, Array.getElem?_modify, h]
theorem Blk.far (h : Blk w g t cs) {p : Addr} (hp : g ≠ p.block) (u : Value) : Blk (w.setCell p u) g t cs := (Below.heap_setCell w p u g hp).trans h
theorem Blk.below {B : Nat} (h : Blk w g t cs) (hb : Below B w w') (hg : g < B) : Blk w' g t cs := (hb.block g hg).trans h
end

/-- A new block, and then it alone is written: what was there is as it was. -/
theorem below_new {w w2 : World} {o : Obj} {z : Nat} (hg : (w.alloc o).grownBy w2 (some z)) (hz : w.heap.size ≤ z) : Below w.heap.size w w2 :=
  ((Below.refl _ _).alloc (Nat.le_refl _) _).grown hg (by simp) (fun k hk => by injection hk with hk; omega)

/-- A slice value '.slice A n c' whose elements are the integers l of kind k; what it leads to lies below block B. -/
def Row (k : IntKind) (w : World) (B : Nat) (A : Option Addr) (n : Nat) (l : List Int) : Prop :=
  l.length = n ∧ (0 < n → ∃ b o, A = some ⟨b, o, none⟩ ∧ b < B ∧ ∀ j, j < n → w.cell? ⟨b, o + j, none⟩ = some (.int k (l.getD j 0)))

section
variable {k : IntKind} {w w' : World} {B B' n : Nat} {A : Option Addr} {l : List Int}
theorem Row.nil : Row k w B A 0 [] := ⟨rfl, fun h => absurd h (by omega)⟩
theorem Row.keep (h : Row k w B A n l) (hk : ∀ p : Addr, p.block < B → w'.cell? p = w.cell? p) : Row k w' B A n l :=
  ⟨h.1, fun hn => by
    obtain ⟨b, o, e, hb, hc⟩ := h.2 hn
    exact ⟨b, o, e, hb, fun j hj => (hk _ hb).trans (hc j hj)⟩⟩
theorem Row.more (h : Row k w B A n l) (hB : B ≤ B') : Row k w B' A n l :=
  ⟨h.1, fun hn => by
    obtain ⟨b, o, e, hb, hc⟩ := h.2 hn
    exact ⟨b, o, e, by omega, hc⟩⟩
theorem Row.below (h : Row k w B A n l) (hb : Below B w w') : Row k w' B A n l := h.keep fun _ hp => hb.cell hp
theorem Row.drewN (h : Row k w B A n l) (m : Nat) : Row k (w.drewN m) B A n l := h
theorem Row.drew (h : Row k w B A n l) : Row k w.drew B A n l := h
theorem Row.far (h : Row k w B A n l) {p : Addr} (hp : ∀ b o, A = some ⟨b, o, none⟩ → b ≠ p.block) (u : Value) : Row k (w.setCell p u) B A n l :=
  ⟨h.1, fun hn => by
    obtain ⟨b, o, e, hb, hc⟩ := h.2 hn
    exact ⟨b, o, e, hb, fun j hj => (World.cell?_setCell_other w p _ u (fun q => by subst q; exact hp b o e rfl)).trans (hc j hj)⟩⟩
theorem Row.alloc (h : Row k w B A n l) (hB : B ≤ w.heap.size) (o : Obj) : Row k (w.alloc o) B A n l := h.keep fun p hp => World.cell?_alloc_lt w o p (by omega)
end

/-- The slice at A' has the m elements of the one at A (of n elements) from place a on, whatever memory holds. -/
def Cut (A : Option Addr) (n a m : Nat) (A' : Option Addr) : Prop := ∀ k W B l, Row k W B A n l → Row k W B A' m ((l.drop a).take m)
theorem cut_none (A : Option Addr) (n a : Nat) (A' : Option Addr) : Cut A n a 0 A' := fun _ _ _ _ _ => by
  simpa using Row.nil
theorem cut_some (A : Option Addr) (n a m : Nat) (h : a + m ≤ n) : Cut A n a m (A.map (·.add a)) := by
  intro k W B l hr
  refine ⟨by have := hr.1; simp; omega, fun hm => ?_⟩
  obtain ⟨b, o, rfl, hb, hc⟩ := hr.2 (by omega)
  refine ⟨b, o + a, ?_, hb, fun j hj => ?_⟩
  · simp [Addr.add]
  · have := hc (a + j) (by omega)
    rw [show o + a + j = o + (a + j) from by omega, this]
    congr 2
    have := hr.1
    simp only [List.getD_eq_getElem?_getD, List.getElem?_take, if_pos hj, List.getElem?_drop]
end Go.Proofs.Ytnnkcgbnhjkahaa
namespace Go.Proofs.Ytnnkcgbnhjkahaa

def hold (n : Int) : Int := if n < 1 then 1 else if 4 < n then 4 else n
theorem hold_lo (n : Int) : 1 ≤ hold n := by unfold hold; split <;> (try split) <;> omega
theorem hold_hi (n : Int) : hold n ≤ 4 := by unfold hold; split <;> (try split) <;> omega

/-- Each is a byte. -/
def Byt (l : List Int) : Prop := ∀ x ∈ l, 0 ≤ x ∧ x ≤ 255
theorem Byt.getD {l : List Int} (h : Byt l) (k : Nat) : 0 ≤ l.getD k 0 ∧ l.getD k 0 ≤ 255 := by
  rw [List.getD_eq_getElem?_getD]
  cases hk : l[k]? with
  | none => simp
  | some x => exact h x (List.mem_of_getElem? hk)
theorem Byt.nil : Byt [] := fun _ h => by cases h
theorem Byt.append {a b : List Int} (h : Byt a) (k : Byt b) : Byt (a ++ b) := fun x hx => by
  rcases List.mem_append.1 hx with hx | hx
  · exact h x hx
  · exact k x hx
theorem Byt.take {l : List Int} (h : Byt l) (k : Nat) : Byt (l.take k) := fun x hx => h x (List.mem_of_mem_take hx)
theorem Byt.drop {l : List Int} (h : Byt l) (k : Nat) : Byt (l.drop k) := fun x hx => h x (List.mem_of_mem_drop hx)

theorem Byt.set {l : List Int} (h : Byt l) (k : Nat) {y : Int} (h0 : 0 ≤ y) (h1 : y ≤ 255) : Byt (l.set k y) := fun x hx => by
  rcases List.mem_or_eq_of_mem_set hx with hx | rfl
  · exact h x hx
  · exact ⟨h0, h1⟩

/-- The number that bytes are. -/
def num (l : List Int) : Int := l.foldl (fun n x => 256 * n + x) 0
theorem num_snoc (l : List Int) (x : Int) : num (l ++ [x]) = 256 * num l + x := by simp [num]
theorem take_snoc (l : List Int) (k : Nat) (h : k < l.length) : l.take (k + 1) = l.take k ++ [l.getD k 0] := by
  rw [List.take_succ_eq_append_getElem h, List.getD_eq_getElem?_getD, List.getElem?_eq_getElem h]; rfl
theorem num_take (l : List Int) (k : Nat) (h : k < l.length) : num (l.take (k + 1)) = 256 * num (l.take k) + l.getD k 0 := by
  rw [take_snoc l k h, num_snoc]
theorem num_bd (l : List Int) (h : Byt l) : ∀ k, k ≤ l.length → 0 ≤ num (l.take k) ∧ num (l.take k) < 256 ^ k := by
  intro k
  induction k with
  | zero => intro _; simp [num]
  | succ k ih =>
    intro hk
    have := ih (by omega)
    have hb := h.getD k
    rw [num_take l k (by omega), Int.pow_succ]
    omega
theorem num_bd3 (l : List Int) (h : Byt l) (k : Nat) (hk : k ≤ 3) (hl : k ≤ l.length) : 0 ≤ num (l.take k) ∧ num (l.take k) ≤ 16777215 := by
  have hb := num_bd l h k hl
  have hp : (256 : Int) ^ k ≤ 256 ^ 3 := by
    match k, hk with
    | 0, _ => decide
    | 1, _ => decide
    | 2, _ => decide
    | 3, _ => decide
  have : (256 : Int) ^ 3 = 16777216 := by decide
  omega

/-- Byte j of a number, the lowest being 0: as it stands in a number of 64 bits that goes round. -/
def byteAt (n : Int) (j : Nat) : Int := n / 256 ^ j % 256
theorem byteAt_bd (n : Int) (j : Nat) : 0 ≤ byteAt n j ∧ byteAt n j ≤ 255 := by unfold byteAt; omega
/-- A number's lowest w bytes, the highest first. -/
def enc (n : Int) : Nat → List Int
  | 0 => []
  | w + 1 => byteAt n w :: enc n w
theorem enc_length (n : Int) (w : Nat) : (enc n w).length = w := by
  induction w with
  | zero => rfl
  | succ w ih => simp [enc, ih]
theorem enc_byt (n : Int) (w : Nat) : Byt (enc n w) := by
  induction w with
  | zero => exact Byt.nil
  | succ w ih =>
    intro x hx
    rcases List.mem_cons.1 hx with rfl | hx
    · exact byteAt_bd n w
    · exact ih x hx
theorem enc_getD (n : Int) (w j : Nat) (h : j < w) : (enc n w).getD j 0 = byteAt n (w - 1 - j) := by
  induction w generalizing j with
  | zero => omega
  | succ w ih =>
    cases j with
    | zero => simp [enc]
    | succ j =>
      have := ih j (by omega)
      simp only [enc, List.getD_cons_succ, this]
      congr 1
      omega
theorem num_enc (n : Int) (w : Nat) (h1 : 1 ≤ w) (h4 : w ≤ 4) : num (enc n w) = n % 256 ^ w := by
  match w, h1, h4 with
  | 1, _, _ => simp [enc, num, byteAt]
  | 2, _, _ => simp [enc, num, byteAt]; omega
  | 3, _, _ => simp [enc, num, byteAt]; omega
  | 4, _, _ => simp [enc, num, byteAt]; omega
/-- All numbers' bytes, one behind the other. -/
def encs (w : Nat) : List Int → List Int
  | [] => []
  | n :: l => enc n w ++ encs w l
theorem encs_append (w : Nat) (a b : List Int) : encs w (a ++ b) = encs w a ++ encs w b := by
  induction a with
  | nil => rfl
  | cons x a ih => simp [encs, ih]
theorem encs_length (w : Nat) (l : List Int) : (encs w l).length = l.length * w := by
  induction l with
  | nil => simp [encs]
  | cons x l ih => simp [encs, ih, enc_length, Nat.succ_mul, Nat.add_comm]
theorem encs_byt (w : Nat) (l : List Int) : Byt (encs w l) := by
  induction l with
  | nil => exact Byt.nil
  | cons x l ih => exact (enc_byt x w).append ih
theorem encs_snoc (w : Nat) (l : List Int) (k : Nat) (h : k < l.length) : encs w (l.take (k + 1)) = encs w (l.take k) ++ enc (l.getD k 0) w := by
  rw [take_snoc l k h, encs_append]; simp [encs]
/-- The bytes of u as a number of 64 bits. -/
theorem u64_byte (n : Int) (j : Nat) (h : j ≤ 3) : n % 18446744073709551616 / 256 ^ j % 256 = byteAt n j := by
  unfold byteAt
  match j, h with
  | 0, _ => simp
  | 1, _ => simp; omega
  | 2, _ => simp; omega
  | 3, _ => simp; omega
theorem u64_byte2 (n U : Int) (hU : U = n % 18446744073709551616) (r : Nat) (h0 : 0 < r) (h : r ≤ 4) : U / 2 ^ (8 * (r - 1)) % 256 = byteAt n (r - 1) := by
  subst hU
  rw [Int.pow_mul]
  exact u64_byte n (r - 1) (by omega)
theorem enc_take (n : Int) (m r : Nat) (h0 : 0 < r) (h : r ≤ m) : (enc n m).take (m - (r - 1)) = (enc n m).take (m - r) ++ [byteAt n (r - 1)] := by
  have e : m - (r - 1) = (m - r) + 1 := by omega
  rw [e, take_snoc _ _ (by rw [enc_length]; omega), enc_getD n m (m - r) (by omega)]
  congr 3
  omega
end Go.Proofs.Ytnnkcgbnhjkahaa
namespace Go.Proofs.Ytnnkcgbnhjkahaa
open Go.RowKit

theorem Try.info5 : (Try.prog.info? 5).map (fun i => (i.zero, i.size, i.bytes)) = some (some (.int .u8 0), 1, 1) := by kernel_rfl

/-- A run of zeros. -/
def zeros (n : Nat) : List Value := List.replicate n (.int .u8 0)

theorem run_make5 (m c : Nat) (hc : m ≤ c) (h : c ≤ 281474976710656) (W : World) :
    (Instr.makeSlice 98 (.int .i64 (m : Int)) (.int .i64 (c : Int))).run Try.prog W = .ok (.slice (some ⟨W.heap.size, 0, none⟩) m c) (W.alloc (.cells (zeros c).toArray 5)) := by
  obtain ⟨i0, hi, hz0, hz1, hz2⟩ := info_parts Try.info5
  have hr := run_make (P := Try.prog) W 98 5 i0 (.int .u8 0) Try.underlying98 hi hz0 .i64 .i64 (m : Int) (c : Int) (by omega) (by omega) (by rw [hz2]; omega) (by omega)
  rw [hr]
  have e : madeCells (Value.int .u8 0).cells ((c : Int).toNat * i0.size) = (zeros c).toArray := by
    rw [hz1]
    apply Array.ext
    · simp [madeCells, zeros]
    · intro j h1 h2
      simp [madeCells, zeros, Value.cells, Nat.mod_one]
  rw [e]
  simp

theorem oneCell_ints (k : IntKind) (l : List Int) : ∀ v ∈ l.map (Value.int k), v.oneCell' = true := by
  intro v hv
  obtain ⟨x, _, rfl⟩ := List.mem_map.1 hv
  rfl

/-- copy of a row of bytes over the beginning of a block of bytes that is known whole. -/
theorem wpList_copy_row {w : World} {ops : Array Oper} {rest : List Oper} {o : Oper} {a : Act} {Q : Exit → Act → World → Prop} (hgd : o.guard = none) (d s : Operand)
    (ho : o.op = .call { callee := .builtin .copy, args := #[d, s], argTypes := #[98, 98] }) (g m dc sc : Nat) (A : Option Addr) (hd : a.eval d = .slice (some ⟨g, 0, none⟩) m dc) (hs : a.eval s = .slice A m sc)
    (B : Nat) (l : List Int) (hr : Row .u8 w B A m l) (cur : List Value) (hcur : m ≤ cur.length) (hg : Blk w g 5 cur.toArray)
    (h : ∀ w', Hid (Blk w' g 5 (l.map (Value.int .u8) ++ cur.drop m).toArray) → w.grownBy w' (some g) → wpList Try.prog ops Q rest (a.put o.dst (goInt m)) w') : wpList Try.prog ops Q (o :: rest) a w := by
  obtain ⟨i0, hi, hz0, hz1, hz2⟩ := info_parts Try.info5
  have hsz : (Try.prog.info? 5).map (·.size) = some 1 := by rw [hi]; simp [hz1]
  by_cases h0 : m = 0
  · subst h0
    refine wpList_copy_nothing hgd d s 98 98 ho 5 Try.underlying98 hsz _ _ _ _ _ _ hd hs rfl ?_
    have hl : l = [] := List.eq_nil_of_length_eq_zero hr.1
    subst hl
    exact h w (show Blk _ _ _ _ by simpa using hg) ⟨rfl, rfl, rfl, Nat.le_refl _, fun _ _ _ => rfl⟩
  · obtain ⟨b, off, rfl, hb, hc⟩ := hr.2 (by omega)
    have hlen := hr.1
    refine wpList_copy_own hgd d s 98 98 ho 5 Try.underlying98 hsz g 0 m dc ⟨b, off, none⟩ m sc hd hs cur.toArray 5 hg (l.map (Value.int .u8)) (by simp [hlen]) ?_ (by simp [hlen]; exact hcur) (oneCell_ints _ _) ?_
    · intro j v hv
      rw [List.getElem?_map] at hv
      have hj : j < m := by
        rcases Nat.lt_or_ge j m with hj | hj
        · exact hj
        · rw [List.getElem?_eq_none (by omega)] at hv; cases hv
      have := hc j hj
      rw [List.getD_eq_getElem?_getD] at this
      rw [List.getElem?_eq_getElem (by omega)] at hv this
      simp at hv this
      subst hv
      have e : (⟨b, off, none⟩ : Addr).add j = ⟨b, off + j, none⟩ := by
        unfold Addr.add
        split <;> simp_all
      rw [e]
      exact this
    · have h2 := h (w.setRow g (cur.toArray.toList.take 0 ++ (l.map (Value.int .u8) ++ cur.toArray.toList.drop (0 + (l.map (Value.int .u8)).length))).toArray)
        (by have := setRow_heap w g cur.toArray (cur.toArray.toList.take 0 ++ (l.map (Value.int .u8) ++ cur.toArray.toList.drop (0 + (l.map (Value.int .u8)).length))).toArray 5 _ hg
            have e : (cur.toArray.toList.take 0 ++ (l.map (Value.int .u8) ++ cur.toArray.toList.drop (0 + (l.map (Value.int .u8)).length))) = l.map (Value.int .u8) ++ cur.drop m := by simp [hlen]
            rw [e] at this ⊢
            exact this)
        ⟨rfl, rfl, rfl, by simp [World.setRow], fun k _ hk => setRow_other w g k _ (fun e => hk (by rw [e]))⟩
      have e3 : (l.map (Value.int .u8)).length = m := by simp [hlen]
      rw [e3] at h2 ⊢
      exact h2

theorem row_of_blk {w : World} {g : Nat} {l : List Int} {rest : List Value} (h : Blk w g 5 (l.map (Value.int .u8) ++ rest).toArray) : Row .u8 w w.heap.size (some ⟨g, 0, none⟩) l.length l := by
  refine ⟨rfl, fun _ => ⟨g, 0, rfl, h.lt, fun j hj => ?_⟩⟩
  rw [h.cell]
  simp [List.getElem?_append, hj]

theorem ret_int {k : IntKind} {a b : Int} (h : a = b) : Ending.returned (.int k a) = .returned (.int k b) := by rw [h]

/-- Each is an integer of 64 bits. -/
def I64 (l : List Int) : Prop := ∀ x ∈ l, -9223372036854775808 ≤ x ∧ x ≤ 9223372036854775807
theorem I64.getD {l : List Int} (h : I64 l) (k : Nat) : -9223372036854775808 ≤ l.getD k 0 ∧ l.getD k 0 ≤ 9223372036854775807 := by
  rw [List.getD_eq_getElem?_getD]
  cases hk : l[k]? with
  | none => simp
  | some x => exact h x (List.mem_of_getElem? hk)
theorem ret_bool {a b : Bool} (h : a = b) : Ending.returned (.bool a) = .returned (.bool b) := by rw [h]

/-- A slice of integers that came in: nil, or a row of 'cap' cells that hold the numbers 'zs', of which the first 'len' are its elements. -/
def IsRow (k : IntKind) (w : World) (a : Option Addr) (len cap : Nat) (zs : List Int) : Prop :=
  (a = none ∧ len = 0 ∧ cap = 0 ∧ zs = []) ∨
  ∃ x, a = some x ∧ len ≤ cap ∧ cap ≤ maxLen ∧ zs.length = cap ∧ (∀ i, i < zs.length → w.cell? (x.add i) = some (.int k (zs.getD i 0))) ∧ ∀ n ∈ zs, (Lit.int k n).wf = true

theorem row_of_is {k : IntKind} {w : World} {a : Option Addr} {len cap : Nat} {zs : List Int} (h : IsRow k w a len cap zs) :
    ∃ l, Row k w w.heap.size a len l ∧ (∀ n ∈ l, (Lit.int k n).wf = true) ∧ len ≤ cap ∧ len ≤ maxLen := by
  rcases h with ⟨rfl, rfl, rfl, rfl⟩ | ⟨x, rfl, hl, hm, hz, hc, hw⟩
  · exact ⟨[], Row.nil, (fun _ h => nomatch h), Nat.le_refl _, Nat.zero_le _⟩
  · refine ⟨zs.take len, ⟨by simp; omega, fun h => ?_⟩, fun n hn => hw n (List.mem_of_mem_take hn), hl, Nat.le_trans hl hm⟩
    obtain ⟨b, off, rfl, hc'⟩ := ints_at hc (by omega)
    refine ⟨b, off, rfl, World.block_lt_of_cell? w ⟨b, off + 0, none⟩ (hc' 0 (by omega)), fun j hj => ?_⟩
    have e : (zs.take len).getD j 0 = zs.getD j 0 := by
      simp only [List.getD_eq_getElem?_getD, List.getElem?_take, if_pos hj]
    rw [e]
    exact hc' j (by omega)

theorem run_append_row (w : World) (base : Nat) (v : Value) (n : Nat) (xs : List Value) (hown : w.ownsRow base 5 1 v n xs) (B : Nat) (A : Option Addr) (m c : Nat) (l : List Int) (hr : Row .u8 w B A m l)
    (hz : n + m ≤ 1099511627776) (hbase : base ≤ w.heap.size) (ty : TypeId) :
    ∃ v' w', (Builtin.append_ #[98, 98] ty #[v, .slice A m c]).run Try.prog w = .ok v' w' ∧ w'.ownsRow base 5 1 v' (n + m) (xs ++ l.map (Value.int .u8)) ∧ w.grownBy w' v.ownBlock ∧ (v'.ownBlock = v.ownBlock ∨ v'.ownBlock = some w.heap.size) := by
  obtain ⟨i0, hi, hz0, hz1, hz2⟩ := info_parts Try.info5
  cases A with
  | none =>
    have hm : m = 0 := by
      rcases Nat.eq_zero_or_pos m with h | h
      · exact h
      · obtain ⟨_, _, e, _⟩ := hr.2 h
        cases e
    subst hm
    have hl : l = [] := List.eq_nil_of_length_eq_zero hr.1
    subst hl
    refine ⟨v, w, ?_, by simpa using hown, ⟨rfl, rfl, rfl, Nat.le_refl _, fun _ _ _ => rfl⟩, .inl rfl⟩
    rcases hown.2 with ⟨rfl, rfl⟩ | ⟨g, cap, cur, rfl, _, _, hnc, _⟩
    · simp [Builtin.append_, run_underlying Try.underlying98, sizeOf, typeInfo, hi, Builtin.lenOf, Builtin.firstCells]
    · simp [Builtin.append_, run_underlying Try.underlying98, sizeOf, typeInfo, hi, Builtin.lenOf, Builtin.firstCells, hnc, storeCells]
  | some ad =>
    have hcells : ∀ j u, (l.map (Value.int .u8))[j]? = some u → w.cell? (ad.add j) = some u := by
      intro j u hu
      rw [List.getElem?_map] at hu
      have hl := hr.1
      have hj : j < m := by
        rcases Nat.lt_or_ge j m with hj | hj
        · exact hj
        · rw [List.getElem?_eq_none (by omega)] at hu; cases hu
      obtain ⟨b, o, e, _, hc⟩ := hr.2 (by omega)
      cases e
      have h1 := hc j hj
      rw [List.getD_eq_getElem?_getD] at h1
      rw [List.getElem?_eq_getElem (by omega)] at hu h1
      simp at hu h1
      subst hu
      have e2 : (⟨b, o, none⟩ : Addr).add j = ⟨b, o + j, none⟩ := by
        unfold Addr.add
        split <;> simp_all
      rw [e2]
      exact h1
    obtain ⟨v', w', h1, h2, h3, _, h5⟩ := run_append_own_at (P := Try.prog) w base 98 ty 5 i0 (.int .u8 0) 1 1 Try.underlying98 hi hz0 hz1 hz2 rfl (by decide) v n xs hown ad m c (l.map (Value.int .u8)) (by simp [hr.1]) hcells (oneCell_ints _ _) (by unfold maxLen; omega) (by omega) hbase
    exact ⟨v', w', h1, h2, h3, h5⟩

theorem wpList_append_row {w : World} {ops : Array Oper} {rest : List Oper} {o : Oper} {a : Act} {Q : Exit → Act → World → Prop} (hgd : o.guard = none) (s x : Operand)
    (ho : o.op = .call { callee := .builtin .append, args := #[s, x], argTypes := #[98, 98] }) (base : Nat) (v : Value) (n : Nat) (xs : List Value) (hs : a.eval s = v) (hown : w.ownsRow base 5 1 v n xs)
    (B : Nat) (A : Option Addr) (m c : Nat) (l : List Int) (hx : a.eval x = .slice A m c) (hr : Row .u8 w B A m l) (hz : n + m ≤ 1099511627776) (hbase : base ≤ w.heap.size)
    (h : ∀ v' w', Hid (w'.ownsRow base 5 1 v' (n + m) (xs ++ l.map (Value.int .u8))) → Hid (w.grownBy w' v.ownBlock) → Hid (v'.ownBlock = v.ownBlock ∨ v'.ownBlock = some w.heap.size) → wpList Try.prog ops Q rest (a.put o.dst v') w') : wpList Try.prog ops Q (o :: rest) a w := by
  refine wpList_plain hgd fun K hK => ?_
  obtain ⟨v', w', hrun, h2, h3, h4⟩ := run_append_row w base v n xs hown B A m c l hr hz hbase o.type
  unfold Oper.wp execOp
  simp only [ho, resolve, invoke, builtin, Sem.run_bind, Sem.run_pure, Result.andThen_ok, List.map_toArray, List.map_cons, List.map_nil, hs, hx, hrun]
  exact hK _ _ (h v' w' h2 h3 h4)

theorem own_below {w w' : World} {base : Nat} {v : Value} {n : Nat} {xs : List Value} (h : w.ownsRow base 5 1 v n xs) (hb : Below w.heap.size w w') : w'.ownsRow base 5 1 v n xs :=
  h.kept (row := none) ⟨hb.os, hb.tape, hb.output, hb.size, fun k hk _ => hb.block k hk⟩ (by cases v.ownBlock <;> simp)

theorem Blk.setInt {w : World} {g : Nat} {t : TypeId} {l : List Int} (h : Blk w g t (l.map (Value.int .u8)).toArray) (k : Nat) (x : Int) : Blk (w.setCell ⟨g, k, none⟩ (.int .u8 x)) g t ((l.set k x).map (Value.int .u8)).toArray := by
  have := h.put k (.int .u8 x)
  rw [List.setIfInBounds_toArray] at this
  rwa [List.map_set]
theorem Blk.at {w : World} {g : Nat} {t : TypeId} {l : List Int} (h : Blk w g t (l.map (Value.int .u8)).toArray) (k : Nat) (hk : k < l.length) : w.cell? ⟨g, k, none⟩ = some (.int .u8 (l.getD k 0)) := by
  rw [h.cell, List.getElem?_toArray, List.getElem?_map, List.getD_eq_getElem?_getD, List.getElem?_eq_getElem hk]; rfl
theorem Blk.row {w : World} {g : Nat} {t : TypeId} {l : List Int} (h : Blk w g t (l.map (Value.int .u8)).toArray) : Row .u8 w w.heap.size (some ⟨g, 0, none⟩) l.length l :=
  ⟨rfl, fun _ => ⟨g, 0, rfl, h.lt, fun j hj => by rw [Nat.zero_add]; exact h.at j hj⟩⟩
section
variable {w : World} {g : Nat} {t : TypeId} {l : List Int} {rest : List Value} {q : IntKind}
theorem Blk.setR (h : Blk w g t (l.map (Value.int q) ++ rest).toArray) (k : Nat) (hk : k < l.length) (x : Int) : Blk (w.setCell ⟨g, k, none⟩ (.int q x)) g t ((l.set k x).map (Value.int q) ++ rest).toArray := by
  have := h.put k (.int q x)
  rw [List.setIfInBounds_toArray, List.set_append_left _ _ (by simpa using hk)] at this
  rwa [List.map_set]
theorem Blk.atR (h : Blk w g t (l.map (Value.int q) ++ rest).toArray) (k : Nat) (hk : k < l.length) : w.cell? ⟨g, k, none⟩ = some (.int q (l.getD k 0)) := by
  rw [h.cell, List.getElem?_toArray, List.getElem?_append_left (by simpa using hk), List.getElem?_map, List.getD_eq_getElem?_getD, List.getElem?_eq_getElem hk]; rfl
theorem Blk.rowR (h : Blk w g t (l.map (Value.int q) ++ rest).toArray) : Row q w w.heap.size (some ⟨g, 0, none⟩) l.length l :=
  ⟨rfl, fun _ => ⟨g, 0, rfl, h.lt, fun j hj => by rw [Nat.zero_add]; exact h.atR j hj⟩⟩
end
/-- A row of the call's own that has elements: its block. -/
theorem own_blk {w : World} {base : Nat} {t : TypeId} {v : Value} {n : Nat} {xs : List Value} (h : w.ownsRow base t 1 v n xs) (hn : 0 < n) : ∃ g c rest, v = .slice (some ⟨g, 0, none⟩) n c ∧ base ≤ g ∧ n ≤ c ∧ Blk w g t (xs ++ rest).toArray := by
  rcases h.2 with ⟨_, h0⟩ | ⟨g, cap, cur, rfl, hg, hh, hc, hm, hs, ht⟩
  · omega
  · refine ⟨g, cap, cur.toList.drop n, rfl, hg, hc, ?_⟩
    rw [Nat.mul_one] at ht
    rw [← ht, List.take_append_drop]
    exact hh
end Go.Proofs.Ytnnkcgbnhjkahaa
namespace Go.Proofs.Ytnnkcgbnhjkahaa

/-- Is n from a to b? -/
def inB (n a b : Int) : Bool := decide (a ≤ n) && decide (n ≤ b)
theorem inB_iff (n a b : Int) : inB n a b = true ↔ a ≤ n ∧ n ≤ b := by simp [inB]

/-- A head. -/
structure Hd where
  age : Int
  kind : Int
  id : Int
  adv : Int
  seq : Int
  sum : Int
  long : Int
/-- A link. -/
structure Lk where
  kind : Int
  id : Int
  data : Int
  cost : Int

/-- May a head be? -/
def headB (h : Hd) : Bool := inB h.age 0 60 && (inB h.kind 1 2 && (inB h.adv 1 15 && inB h.seq (-2147483647) 2147483647))
/-- May a link be? -/
def linkB (k : Lk) : Bool := inB k.kind 2 3 && (inB k.id 0 63 && (inB k.data 0 63 && inB k.cost 1 100))
/-- Do members rise, from above a on, up to 15? -/
def riseB : Int → List Int → Bool
  | _, [] => true
  | a, m :: l => inB m (a + 1) 15 && riseB m l
/-- Is a description of a router right, its head apart? -/
def routerB (h : Hd) (L : List Lk) (M : List Int) : Bool := decide (h.id = h.adv) && (decide (M.length = 0) && (decide (L.length ≤ 4) && L.all linkB))
/-- Is a description of a network right, its head apart? -/
def networkB (h : Hd) (L : List Lk) (M : List Int) : Bool := inB h.id 0 63 && (decide (L.length = 0) && (decide (0 < M.length) && riseB 0 M))
/-- Is a description right? -/
def rightB (h : Hd) (L : List Lk) (M : List Int) : Bool := headB h && (if h.kind = 1 then routerB h L M else networkB h L M)
end Go.Proofs.Ytnnkcgbnhjkahaa
namespace Go.Proofs.Ytnnkcgbnhjkahaa
open Go.RowKit

theorem within_any (n a b : Int) (w : World) : Calls Try.prog 91 #[.int .i64 n, .int .i64 a, .int .i64 b] w fun e w' => e = .returned (.bool (inB n a b)) ∧ w = w' := by
  by_cases h : a ≤ n
  · have HI := Lib.hid (show inB n a b = decide (n ≤ b) by simp [inB, h])
    go_enter Try.func91, Try.ntmps91
    go_wp2
    go_ret
    exact ⟨ret_bool HI.out.symm, rfl⟩
  · have HI := Lib.hid (show inB n a b = false by simp [inB, h])
    have hd : decide (a ≤ n) = false := by simpa using h
    go_enter Try.func91, Try.ntmps91
    go_wp2
    go_ret
    exact ⟨ret_bool HI.out.symm, rfl⟩

theorem refIn_any (n a b : Int) (w : World) : Calls Try.prog 55 #[.int .i64 n, .int .i64 a, .int .i64 b] w fun e w' => e = .returned (.bool (inB n a b)) ∧ w = w' := by
  by_cases h : a ≤ n
  · have HI := Lib.hid (show inB n a b = decide (n ≤ b) by simp [inB, h])
    go_enter Try.func55, Try.ntmps55
    go_wp2
    go_ret
    exact ⟨ret_bool HI.out.symm, rfl⟩
  · have HI := Lib.hid (show inB n a b = false by simp [inB, h])
    have hd : decide (a ≤ n) = false := by simpa using h
    go_enter Try.func55, Try.ntmps55
    go_wp2
    go_ret
    exact ⟨ret_bool HI.out.symm, rfl⟩

set_option maxRecDepth 4000 in
set_option maxHeartbeats 1000000 in
theorem mayBe_any (h : Hd) (w : World) : Calls Try.prog 64 #[.agg #[.int .i64 h.age, .int .i64 h.kind, .int .i64 h.id, .int .i64 h.adv, .int .i64 h.seq, .int .i64 h.sum, .int .i64 h.long]] w
    fun e w' => e = .returned (.bool (headB h)) ∧ Below w.heap.size w w' := by
  go_enter Try.func64, Try.ntmps64
  go_wp2_with fail
  refine (within_any _ _ _ _).mono ?_
  rintro e1 w1 ⟨rfl, rfl⟩
  cases h1 : inB h.age 0 60
  · go_wp2
    go_ret
    exact ⟨ret_bool (by simp [headB, *]), (Below.refl _ _).alloc (Nat.le_refl _) _⟩
  · skip
    go_wp2_with fail
    refine (within_any _ _ _ _).mono ?_
    rintro e1 w1 ⟨rfl, rfl⟩
    cases h2 : inB h.kind 1 2
    · go_wp2
      go_ret
      exact ⟨ret_bool (by simp [headB, *]), (Below.refl _ _).alloc (Nat.le_refl _) _⟩
    · skip
      go_wp2_with fail
      refine (within_any _ _ _ _).mono ?_
      rintro e1 w1 ⟨rfl, rfl⟩
      cases h3 : inB h.adv 1 15
      · go_wp2
        go_ret
        exact ⟨ret_bool (by simp [headB, *]), (Below.refl _ _).alloc (Nat.le_refl _) _⟩
      · skip
        go_wp2_with fail
        refine (within_any _ _ _ _).mono ?_
        rintro e1 w1 ⟨rfl, rfl⟩
        go_wp2
        go_ret
        exact ⟨ret_bool (by simp [headB, *]), (Below.refl _ _).alloc (Nat.le_refl _) _⟩

set_option maxRecDepth 4000 in
set_option maxHeartbeats 1000000 in
theorem refHead_any (h : Hd) (w : World) : Calls Try.prog 54 #[.agg #[.int .i64 h.age, .int .i64 h.kind, .int .i64 h.id, .int .i64 h.adv, .int .i64 h.seq, .int .i64 h.sum, .int .i64 h.long]] w
    fun e w' => e = .returned (.bool (headB h)) ∧ Below w.heap.size w w' := by
  go_enter Try.func54, Try.ntmps54
  go_wp2_with fail
  refine (refIn_any _ _ _ _).mono ?_
  rintro e1 w1 ⟨rfl, rfl⟩
  cases h1 : inB h.age 0 60
  · go_wp2
    go_ret
    exact ⟨ret_bool (by simp [headB, *]), (Below.refl _ _).alloc (Nat.le_refl _) _⟩
  · skip
    go_wp2_with fail
    refine (refIn_any _ _ _ _).mono ?_
    rintro e1 w1 ⟨rfl, rfl⟩
    cases h2 : inB h.kind 1 2
    · go_wp2
      go_ret
      exact ⟨ret_bool (by simp [headB, *]), (Below.refl _ _).alloc (Nat.le_refl _) _⟩
    · skip
      go_wp2_with fail
      refine (refIn_any _ _ _ _).mono ?_
      rintro e1 w1 ⟨rfl, rfl⟩
      cases h3 : inB h.adv 1 15
      · go_wp2
        go_ret
        exact ⟨ret_bool (by simp [headB, *]), (Below.refl _ _).alloc (Nat.le_refl _) _⟩
      · skip
        go_wp2_with fail
        refine (refIn_any _ _ _ _).mono ?_
        rintro e1 w1 ⟨rfl, rfl⟩
        go_wp2
        go_ret
        exact ⟨ret_bool (by simp [headB, *]), (Below.refl _ _).alloc (Nat.le_refl _) _⟩

set_option maxRecDepth 4000 in
set_option maxHeartbeats 1000000 in
theorem rightLink_any (k : Lk) (w : World) : Calls Try.prog 92 #[.agg #[.int .i64 k.kind, .int .i64 k.id, .int .i64 k.data, .int .i64 k.cost]] w
    fun e w' => e = .returned (.bool (linkB k)) ∧ Below w.heap.size w w' := by
  go_enter Try.func92, Try.ntmps92
  go_wp2_with fail
  refine (within_any _ _ _ _).mono ?_
  rintro e1 w1 ⟨rfl, rfl⟩
  cases h1 : inB k.kind 2 3
  · go_wp2
    go_ret
    exact ⟨ret_bool (by simp [linkB, *]), (Below.refl _ _).alloc (Nat.le_refl _) _⟩
  · skip
    go_wp2_with fail
    refine (within_any _ _ _ _).mono ?_
    rintro e1 w1 ⟨rfl, rfl⟩
    cases h2 : inB k.id 0 63
    · go_wp2
      go_ret
      exact ⟨ret_bool (by simp [linkB, *]), (Below.refl _ _).alloc (Nat.le_refl _) _⟩
    · skip
      go_wp2_with fail
      refine (within_any _ _ _ _).mono ?_
      rintro e1 w1 ⟨rfl, rfl⟩
      cases h3 : inB k.data 0 63
      · go_wp2
        go_ret
        exact ⟨ret_bool (by simp [linkB, *]), (Below.refl _ _).alloc (Nat.le_refl _) _⟩
      · skip
        go_wp2_with fail
        refine (within_any _ _ _ _).mono ?_
        rintro e1 w1 ⟨rfl, rfl⟩
        go_wp2
        go_ret
        exact ⟨ret_bool (by simp [linkB, *]), (Below.refl _ _).alloc (Nat.le_refl _) _⟩

end Go.Proofs.Ytnnkcgbnhjkahaa
namespace Go.Proofs.Ytnnkcgbnhjkahaa
open Go.RowKit

/-- From place p of block b on there lies the link k. -/
def LkAt (w : World) (b p : Nat) (k : Lk) : Prop :=
  w.cell? ⟨b, p, none⟩ = some (.int .i64 k.kind) ∧ w.cell? ⟨b, p + 1, none⟩ = some (.int .i64 k.id) ∧ w.cell? ⟨b, p + 2, none⟩ = some (.int .i64 k.data) ∧ w.cell? ⟨b, p + 3, none⟩ = some (.int .i64 k.cost)
theorem LkAt.keep {w w' : World} {b p : Nat} {k : Lk} (h : LkAt w b p k) (hk : ∀ q : Addr, q.block = b → w'.cell? q = w.cell? q) : LkAt w' b p k :=
  ⟨(hk _ rfl).trans h.1, (hk _ rfl).trans h.2.1, (hk _ rfl).trans h.2.2.1, (hk _ rfl).trans h.2.2.2⟩

/-- A slice value '.slice A n c' whose elements are the links L; what it leads to lies below block B. -/
def Lnk (w : World) (B : Nat) (A : Option Addr) (n : Nat) (L : List Lk) : Prop :=
  L.length = n ∧ (0 < n → ∃ b o, A = some ⟨b, o, none⟩ ∧ b < B ∧ ∀ j, j < n → LkAt w b (o + j * 4) (L.getD j ⟨0, 0, 0, 0⟩))
section
variable {w w' : World} {B B' n : Nat} {A : Option Addr} {L : List Lk}
theorem Lnk.nil : Lnk w B A 0 [] := ⟨rfl, fun h => absurd h (by omega)⟩
theorem Lnk.keep (h : Lnk w B A n L) (hk : ∀ p : Addr, p.block < B → w'.cell? p = w.cell? p) : Lnk w' B A n L :=
  ⟨h.1, fun hn => by
    obtain ⟨b, o, e, hb, hc⟩ := h.2 hn
    exact ⟨b, o, e, hb, fun j hj => (hc j hj).keep fun q hq => hk q (by omega)⟩⟩
theorem Lnk.more (h : Lnk w B A n L) (hB : B ≤ B') : Lnk w B' A n L :=
  ⟨h.1, fun hn => by
    obtain ⟨b, o, e, hb, hc⟩ := h.2 hn
    exact ⟨b, o, e, by omega, hc⟩⟩
theorem Lnk.below (h : Lnk w B A n L) (hb : Below B w w') : Lnk w' B A n L := h.keep fun _ hp => hb.cell hp
theorem Lnk.drewN (h : Lnk w B A n L) (m : Nat) : Lnk (w.drewN m) B A n L := h
theorem Lnk.alloc (h : Lnk w B A n L) (hB : B ≤ w.heap.size) (o : Obj) : Lnk (w.alloc o) B A n L := h.keep fun p hp => World.cell?_alloc_lt w o p (by omega)
end
theorem bcell {W w1 : World} (hb : Below W.heap.size W w1) : (∀ b o, b < W.heap.size → w1.cell? ⟨b, o, none⟩ = W.cell? ⟨b, o, none⟩) ∧ (∀ b o, b < W.heap.size → w1.frozen? ⟨b, o, none⟩ = W.frozen? ⟨b, o, none⟩) :=
  ⟨fun b o h => hb.cell (p := ⟨b, o, none⟩) h, fun b o h => hb.frozen (p := ⟨b, o, none⟩) h⟩
theorem all_snocL (f : Lk → Bool) (l : List Lk) (k : Nat) (h : k < l.length) (h1 : (l.take k).all f = true) (h2 : f (l.getD k ⟨0, 0, 0, 0⟩) = true) : (l.take (k + 1)).all f = true := by
  have e : l.getD k ⟨0, 0, 0, 0⟩ = l[k] := by rw [List.getD_eq_getElem?_getD, List.getElem?_eq_getElem h]; rfl
  rw [e] at h2
  rw [List.take_succ_eq_append_getElem h, List.all_append, h1, List.all_cons, h2]; rfl
theorem all_falseL (f : Lk → Bool) (l : List Lk) (k : Nat) (h : k < l.length) (h2 : f (l.getD k ⟨0, 0, 0, 0⟩) = false) : l.all f = false := by
  rw [List.all_eq_false]
  refine ⟨l.getD k ⟨0, 0, 0, 0⟩, ?_, by rw [h2]; decide⟩
  rw [List.getD_eq_getElem?_getD, List.getElem?_eq_getElem h]
  exact List.getElem_mem h
end Go.Proofs.Ytnnkcgbnhjkahaa
