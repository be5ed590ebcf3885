/- Plain facts on a description's bytes: the sum stands over what is behind the age. No program, no conditions. · The reference's Bytes: a description's bytes. Conditions: the description is right, at most 50 links and 50 members. · A reader as a whole: its bytes, and where it stands. Conditions: at most 2^40 bytes. · The call GetHead of package lsa. Conditions: the slice reads as bytes, at most 2^40 of them. · The call members of package lsa: a network's members, read to the end. Conditions: at most 2^20 bytes. · The call link of package lsa: one link, read. Conditions: its twelve bytes are there. -/
import Derived.Laws.FloatArith
import Derived.Laws.ComplexArith
import Derived.Deep.DeepCutAuto
import Derived.Deep.RegionLawGrows
import Derived.Test.YtfdfdmbnggpnbaaVab
import Derived.Test.YtfdfdmbnggpnbaaVaa
namespace Go.Proofs.Ytfdfdmbnggpnbaa

/-- The head with its length, and what stands behind it, before the sum is set. -/
def rawBytes (h : Hd) (L : List Lk) (M : List Int) (s : Int) : List Int := headBytes { h with sum := s, long := 20 + (bodyBytes h L M).length } ++ bodyBytes h L M
end Go.Proofs.Ytfdfdmbnggpnbaa
namespace Go.Proofs.Ytfdfdmbnggpnbaa
open Go.RowKit

/-- Block x is known whole, and the row v is not in it. -/
def Keep (w : World) (v : Value) (x : Nat) (t : TypeId) (cs : Array Value) : Prop := Blk w x t cs ∧ v.ownBlock ≠ some x
theorem Keep.below {w w' : World} {v : Value} {x : Nat} {t : TypeId} {cs : Array Value} (h : Keep w v x t cs) (hb : Below w.heap.size w w') : Keep w' v x t cs := ⟨h.1.below hb h.1.lt, h.2⟩
theorem Keep.alloc {w : World} {v : Value} {x : Nat} {t : TypeId} {cs : Array Value} (h : Keep w v x t cs) (o : Obj) : Keep (w.alloc o) v x t cs := ⟨h.1.alloc o, h.2⟩
/-- A row of the call's own, as a slice value. -/
theorem Acc.form {w0 w : World} {v : Value} {n : Nat} {L : List Int} (h : Acc w0 w v n L) : ∃ A c, v = .slice A n c ∧ n ≤ c ∧ c ≤ maxLen ∧ Row .u8 w w.heap.size A n L := by
  obtain ⟨A, c, h1, h2, h3, h4, _⟩ := h.putN
  injection h1 with h1
  exact ⟨A, c, h1, h2, h3, h4⟩
theorem Acc.some {w0 w : World} {v : Value} {n : Nat} {L : List Int} (h : Acc w0 w v n L) (hn : 0 < n) : ∃ g c, v = .slice (some ⟨g, 0, none⟩) n c ∧ n ≤ c ∧ c ≤ maxLen ∧ g < w.heap.size ∧ w0.heap.size ≤ g ∧ Row .u8 w w.heap.size (some ⟨g, 0, none⟩) n L := by
  obtain ⟨g, c, rest, rfl, hg, hc, hk⟩ := own_blk h.1 hn
  obtain ⟨A', c', h1, h2, h3, h4⟩ := h.form
  injection h1 with h1 _ h5
  subst h1 h5
  exact ⟨g, c, rfl, h2, h3, hk.lt, hg, h4⟩
/-- The first m of n. -/
theorem Row.head {k : IntKind} {w : World} {B n : Nat} {A : Option Addr} {l : List Int} (h : Row k w B A n l) (m : Nat) (hm : m ≤ n) : Row k w B A m (l.take m) :=
  ⟨by have := h.1; simp; omega, fun h0 => by
    obtain ⟨b, o, e, hb, hc⟩ := h.2 (by omega)
    refine ⟨b, o, e, hb, fun j hj => ?_⟩
    have := hc j (by omega)
    simpa [List.getElem?_take, hj] using this⟩
end Go.Proofs.Ytfdfdmbnggpnbaa
namespace Go.Proofs.Ytfdfdmbnggpnbaa
open Go.RowKit

/-- The number in the w bytes from place a on. -/
def wordAt (l : List Int) (a w : Nat) : Int := num ((l.drop a).take w)
/-- In block g there is a reader of the bytes l, at place a, without an error; its bytes lie in a block from base on. -/
def Rd (w : World) (base g : Nat) (l : List Int) (a : Nat) : Prop :=
  ∃ d c, Blk w g 169 #[.slice (some ⟨d, 0, none⟩) l.length c, .int .i64 a, .int .i64 0] ∧ Row .u8 w (d + 1) (some ⟨d, 0, none⟩) l.length l ∧ base ≤ d ∧ d < g ∧ l.length ≤ c ∧ c ≤ maxLen ∧ a ≤ l.length ∧ Byt l
section
variable {w w' : World} {base b g a : Nat} {l : List Int}
theorem Rd.lt (h : Rd w base g l a) : g < w.heap.size ∧ base ≤ g := by
  obtain ⟨d, c, h1, _, h3, h4, _⟩ := h
  exact ⟨h1.lt, by omega⟩
theorem Rd.below (h : Rd w base g l a) (hb : Below b w w') (hg : g < b) : Rd w' base g l a := by
  obtain ⟨d, c, h1, h2, h3, h4, h5⟩ := h
  exact ⟨d, c, h1.below hb hg, h2.below (hb.mono (by omega)), h3, h4, h5⟩
theorem Rd.alloc (h : Rd w base g l a) (o : Obj) : Rd (w.alloc o) base g l a := h.below ((Below.refl _ _).alloc (Nat.le_refl _) o) h.lt.1
theorem Rd.far (h : Rd w base g l a) {p : Addr} (hp : p.block < base ∨ g < p.block) (u : Value) : Rd (w.setCell p u) base g l a := by
  obtain ⟨d, c, h1, h2, h3, h4, h5⟩ := h
  refine ⟨d, c, h1.far (by omega) u, h2.far ?_ u, h3, h4, h5⟩
  intro b o e
  injection e with e
  injection e with e
  omega
end
theorem grown_of_below {w w1 : World} (h : Below w.heap.size w w1) (r : Option Nat) : w.grownBy w1 r := ⟨h.os, h.tape, h.output, h.size, fun k hk _ => h.block k hk⟩
theorem Blk.grown {w w1 : World} {g x : Nat} {t : TypeId} {cs : Array Value} (h : Blk w x t cs) (hg : w.grownBy w1 (some g)) (hne : x ≠ g) : Blk w1 x t cs :=
  (hg.block x h.lt (fun e => by injection e with e; exact hne e)).trans h
end Go.Proofs.Ytfdfdmbnggpnbaa
namespace Go.Proofs.Ytfdfdmbnggpnbaa
open Go.RowKit

/-- A number of 32 bits that goes round below 0. -/
def sgn (n : Int) : Int := if 2147483648 ≤ n then n - 4294967296 else n
/-- The head that twenty bytes tell. -/
def headOf (l : List Int) : Hd := ⟨wordAt l 0 2, wordAt l 3 1, wordAt l 4 4, wordAt l 8 4, sgn (wordAt l 12 4), wordAt l 16 2, wordAt l 18 2⟩
end Go.Proofs.Ytfdfdmbnggpnbaa
namespace Go.Proofs.Ytfdfdmbnggpnbaa
open Go.RowKit

/-- The first k words of four bytes. -/
def words (l : List Int) (k : Nat) : List Int := (List.range k).map fun j => wordAt l (4 * j) 4
end Go.Proofs.Ytfdfdmbnggpnbaa
namespace Go.Proofs.Ytfdfdmbnggpnbaa
open Go.RowKit

/-- The cells of links, one behind the other. -/
def lkCells : List Lk → List Value
  | [] => []
  | k :: l => .int .i64 k.kind :: .int .i64 k.id :: .int .i64 k.data :: .int .i64 k.cost :: lkCells l
theorem lkCells_get (l : List Lk) (j : Nat) (h : j < l.length) : (lkCells l)[j * 4]? = some (.int .i64 (l.getD j ⟨0, 0, 0, 0⟩).kind) ∧ (lkCells l)[j * 4 + 1]? = some (.int .i64 (l.getD j ⟨0, 0, 0, 0⟩).id) ∧ (lkCells l)[j * 4 + 2]? = some (.int .i64 (l.getD j ⟨0, 0, 0, 0⟩).data) ∧ (lkCells l)[j * 4 + 3]? = some (.int .i64 (l.getD j ⟨0, 0, 0, 0⟩).cost) := by
  induction l generalizing j with
  | nil => simp at h
  | cons x l ih =>
    cases j with
    | zero => simp [lkCells]
    | succ j =>
      have := ih j (by simpa using h)
      rw [show (j + 1) * 4 = j * 4 + 4 from by omega]
      simpa [lkCells] using this
/-- A row of links of the call's own reads as links. -/
theorem lnk_of_own {w : World} {base n : Nat} {v : Value} {L : List Lk} (h : w.ownsRow base 130 4 v n (lkCells L)) (hn : L.length = n) : ∃ A c, v = .slice A n c ∧ n ≤ c ∧ c ≤ maxLen ∧ Lnk w w.heap.size A n L := by
  rcases h.2 with ⟨rfl, rfl⟩ | ⟨g, cap, cur, rfl, hg, hh, hc, hm, hs, ht⟩
  · have : L = [] := List.eq_nil_of_length_eq_zero hn
    subst this
    exact ⟨_, _, rfl, Nat.le_refl _, by unfold maxLen; omega, Lnk.nil⟩
  · refine ⟨_, _, rfl, hc, hm, hn, fun _ => ⟨g, 0, rfl, Blk.lt hh, fun j hj => ?_⟩⟩
    have hcell : ∀ (p : Nat) (u : Value), (lkCells L)[p]? = some u → w.cell? ⟨g, 0 + p, none⟩ = some u := by
      intro p u hu
      have h1 := h.cells (g := g) rfl p u hu
      have e : (⟨g, 0, none⟩ : Addr).add p = ⟨g, 0 + p, none⟩ := by
        unfold Addr.add
        split <;> simp_all
      rwa [e] at h1
    obtain ⟨h0, h1, h2, h3⟩ := lkCells_get L j (by omega)
    exact ⟨hcell _ _ h0, hcell _ _ h1, hcell _ _ h2, hcell _ _ h3⟩
theorem row_of_ints {w : World} {base n : Nat} {v : Value} {M : List Int} (h : w.ownsRow base 3 1 v n (M.map (Value.int .i64))) (hn : M.length = n) : ∃ A c, v = .slice A n c ∧ n ≤ c ∧ c ≤ maxLen ∧ Row .i64 w w.heap.size A n M := by
  rcases h.2 with ⟨rfl, rfl⟩ | ⟨g, cap, cur, rfl, hg, hh, hc, hm, hs, ht⟩
  · have : M = [] := List.eq_nil_of_length_eq_zero hn
    subst this
    exact ⟨_, _, rfl, Nat.le_refl _, by unfold maxLen; omega, Row.nil⟩
  · refine ⟨_, _, rfl, hc, hm, hn, fun _ => ⟨g, 0, rfl, Blk.lt hh, fun j hj => ?_⟩⟩
    have hc := h.cells (g := g) rfl j (.int .i64 (M.getD j 0)) (by rw [List.getElem?_map, List.getD_eq_getElem?_getD, List.getElem?_eq_getElem (by omega)]; rfl)
    have e : (⟨g, 0, none⟩ : Addr).add j = ⟨g, 0 + j, none⟩ := by
      unfold Addr.add
      split <;> simp_all
    rw [e] at hc
    exact hc
end Go.Proofs.Ytfdfdmbnggpnbaa
