/- Words for memory that the proofs of package quad share: a row of integers that a slice leads to, a block that is known whole, and a goto ahead out of a scope. No conditions. · Plain facts on lists of bytes and the numbers that they are, the highest byte first. No program, no conditions. · Memory of bytes, as the proofs of all packages take it: make, copy and append of rows of bytes, nil let in, and a slice of integers that came in, read as a row. Conditions: what append puts together has at most 2^40 bytes. · Plain words for descriptions: a head, a link, and what may be of them. No program, no conditions. · Memory of links: a slice of structs of four integers that reads as a list. No conditions. · The reference's Right, of a network and of any description. Conditions: the two lists read as links and as integers. -/
import Derived.Below
import Derived.Laws.OwnMore
import Derived.Laws.Rows
import Derived.Deep.Draws
import Derived.ScopeJumps
import Derived.WalkMore
import Derived.Test.YtndjoanlbaiaeaaProg
import Derived.WalkKit
import Derived.WalkLawsBesides
import Derived.Deep.QuietTactic
import Derived.BigQuiet
import Derived.Lib.Hide
import Derived.Laws.CopyOwn
import Derived.Laws.MakeOwn
import Derived.OpenShut
import Derived.Deep.AppendLies
import Derived.Maps.AppendAt
import Derived.IntWalk
namespace Go.Proofs.Ytndjoanlbaiaeaa
open Go.RowKit

/-- The cells of block g are just cs, of element type t, none frozen. -/
def Blk (w : World) (g : Nat) (t : TypeId) (cs : Array Value) : Prop := w.heap[g]? = some (.cells cs t (0, 0))

section
variable {w w' : World} {g : Nat} {t : TypeId} {cs : Array Value}
theorem Blk.lt (h : Blk w g t cs) : g < w.heap.size := (Array.getElem?_eq_some_iff.1 h).1
theorem Blk.cell (h : Blk w g t cs) (i : Nat) : w.cell? ⟨g, i, none⟩ = cs[i]? := cell_of_row w g i cs t (0, 0) h
theorem Blk.frozen (h : Blk w g t cs) (i : Nat) : w.frozen? ⟨g, i, none⟩ = false := by
  unfold Blk at h
  simp [World.frozen?, h]
theorem Blk.new (w : World) (t : TypeId) (cs : Array Value) : Blk (w.alloc (.cells cs t)) w.heap.size t cs := heap_alloc_new w _
theorem Blk.drewN (h : Blk w g t cs) (n : Nat) : Blk (w.drewN n) g t cs := h
theorem Blk.drew (h : Blk w g t cs) : Blk w.drew g t cs := h
theorem Blk.alloc (h : Blk w g t cs) (o : Obj) : Blk (w.alloc o) g t cs := (Below.heap_alloc w o g h.lt).trans h
theorem Blk.put (h : Blk w g t cs) (i : Nat) (u : Value) : Blk (w.setCell ⟨g, i, none⟩ u) g t (cs.setIfInBounds i u) := by
  unfold Blk at h ⊢
  simp [World.setCell, Array.getElem?_modify, h]
theorem Blk.far (h : Blk w g t cs) {p : Addr} (hp : g ≠ p.block) (u : Value) : Blk (w.setCell p u) g t cs := (Below.heap_setCell w p u g hp).trans h
theorem Blk.below {B : Nat} (h : Blk w g t cs) (hb : Below B w w') (hg : g < B) : Blk w' g t cs := (hb.block g hg).trans h
end

/-- A new block, and then it alone is written: what was there is as it was. -/
theorem below_new {w w2 : World} {o : Obj} {z : Nat} (hg : (w.alloc o).grownBy w2 (some z)) (hz : w.heap.size ≤ z) : Below w.heap.size w w2 :=
  ((Below.refl _ _).alloc (Nat.le_refl _) _).grown hg (by simp) (fun k hk => by injection hk with hk; omega)

/-- A slice value '.slice A n c' whose elements are the integers l of kind k; what it leads to lies below block B. -/
def Row (k : IntKind) (w : World) (B : Nat) (A : Option Addr) (n : Nat) (l : List Int) : Prop :=
  l.length = n ∧ (0 < n → ∃ b o, A = some ⟨b, o, none⟩ ∧ b < B ∧ ∀ j, j < n → w.cell? ⟨b, o + j, none⟩ = some (.int k (l.getD j 0)))

section
variable {k : IntKind} {w w' : World} {B B' n : Nat} {A : Option Addr} {l : List Int}
theorem Row.nil : Row k w B A 0 [] := ⟨rfl, fun h => absurd h (by omega)⟩
theorem Row.keep (h : Row k w B A n l) (hk : ∀ p : Addr, p.block < B → w'.cell? p = w.cell? p) : Row k w' B A n l :=
  ⟨h.1, fun hn => by
    obtain ⟨b, o, e, hb, hc⟩ := h.2 hn
    exact ⟨b, o, e, hb, fun j hj => (hk _ hb).trans (hc j hj)⟩⟩
theorem Row.more (h : Row k w B A n l) (hB : B ≤ B') : Row k w B' A n l :=
  ⟨h.1, fun hn => by
    obtain ⟨b, o, e, hb, hc⟩ := h.2 hn
    exact ⟨b, o, e, by omega, hc⟩⟩
theorem Row.below (h : Row k w B A n l) (hb : Below B w w') : Row k w' B A n l := h.keep fun _ hp => hb.cell hp
theorem Row.drewN (h : Row k w B A n l) (m : Nat) : Row k (w.drewN m) B A n l := h
theorem Row.drew (h : Row k w B A n l) : Row k w.drew B A n l := h
theorem Row.far (h : Row k w B A n l) {p : Addr} (hp : ∀ b o, A = some ⟨b, o, none⟩ → b ≠ p.block) (u : Value) : Row k (w.setCell p u) B A n l :=
  ⟨h.1, fun hn => by
    obtain ⟨b, o, e, hb, hc⟩ := h.2 hn
    exact ⟨b, o, e, hb, fun j hj => (World.cell?_setCell_other w p _ u (fun q => by subst q; exact hp b o e rfl)).trans (hc j hj)⟩⟩
theorem Row.alloc (h : Row k w B A n l) (hB : B ≤ w.heap.size) (o : Obj) : Row k (w.alloc o) B A n l := h.keep fun p hp => World.cell?_alloc_lt w o p (by omega)
end

/-- The slice at A' has the m elements of the one at A (of n elements) from place a on, whatever memory holds. -/
def Cut (A : Option Addr) (n a m : Nat) (A' : Option Addr) : Prop := ∀ k W B l, Row k W B A n l → Row k W B A' m ((l.drop a).take m)
theorem cut_none (A : Option Addr) (n a : Nat) (A' : Option Addr) : Cut A n a 0 A' := fun _ _ _ _ _ => by
  simpa using Row.nil
theorem cut_some (A : Option Addr) (n a m : Nat) (h : a + m ≤ n) : Cut A n a m (A.map (·.add a)) := by
  intro k W B l hr
  refine ⟨by have := hr.1; simp; omega, fun hm => ?_⟩
  obtain ⟨b, o, rfl, hb, hc⟩ := hr.2 (by omega)
  refine ⟨b, o + a, ?_, hb, fun j hj => ?_⟩
  · simp [Addr.add]
  · have := hc (a + j) (by omega)
    rw [show o + a + j = o + (a + j) from by omega, this]
    congr 2
    have := hr.1
    simp only [List.getD_eq_getElem?_getD, List.getElem?_take, if_pos hj, List.getElem?_drop]
end Go.Proofs.Ytndjoanlbaiaeaa
namespace Go.Proofs.Ytndjoanlbaiaeaa

def hold (n : Int) : Int := if n < 1 then 1 else if 4 < n then 4 else n
/-- Each is a byte. -/
def Byt (l : List Int) : Prop := ∀ x ∈ l, 0 ≤ x ∧ x ≤ 255
theorem Byt.getD {l : List Int} (h : Byt l) (k : Nat) : 0 ≤ l.getD k 0 ∧ l.getD k 0 ≤ 255 := by
  rw [List.getD_eq_getElem?_getD]
  cases hk : l[k]? with
  | none => simp
  | some x => exact h x (List.mem_of_getElem? hk)
theorem Byt.nil : Byt [] := fun _ h => by cases h
theorem Byt.append {a b : List Int} (h : Byt a) (k : Byt b) : Byt (a ++ b) := fun x hx => by
  rcases List.mem_append.1 hx with hx | hx
  · exact h x hx
  · exact k x hx
theorem Byt.take {l : List Int} (h : Byt l) (k : Nat) : Byt (l.take k) := fun x hx => h x (List.mem_of_mem_take hx)
theorem Byt.drop {l : List Int} (h : Byt l) (k : Nat) : Byt (l.drop k) := fun x hx => h x (List.mem_of_mem_drop hx)

theorem Byt.set {l : List Int} (h : Byt l) (k : Nat) {y : Int} (h0 : 0 ≤ y) (h1 : y ≤ 255) : Byt (l.set k y) := fun x hx => by
  rcases List.mem_or_eq_of_mem_set hx with hx | rfl
  · exact h x hx
  · exact ⟨h0, h1⟩

/-- The number that bytes are. -/
def num (l : List Int) : Int := l.foldl (fun n x => 256 * n + x) 0
/-- Byte j of a number, the lowest being 0: as it stands in a number of 64 bits that goes round. -/
def byteAt (n : Int) (j : Nat) : Int := n / 256 ^ j % 256
/-- A number's lowest w bytes, the highest first. -/
def enc (n : Int) : Nat → List Int
  | 0 => []
  | w + 1 => byteAt n w :: enc n w
end Go.Proofs.Ytndjoanlbaiaeaa
namespace Go.Proofs.Ytndjoanlbaiaeaa
open Go.RowKit

theorem Try.info5 : (Try.prog.info? 5).map (fun i => (i.zero, i.size, i.bytes)) = some (some (.int .u8 0), 1, 1) := by kernel_rfl

/-- Each is an integer of 64 bits. -/
def I64 (l : List Int) : Prop := ∀ x ∈ l, -9223372036854775808 ≤ x ∧ x ≤ 9223372036854775807
theorem I64.getD {l : List Int} (h : I64 l) (k : Nat) : -9223372036854775808 ≤ l.getD k 0 ∧ l.getD k 0 ≤ 9223372036854775807 := by
  rw [List.getD_eq_getElem?_getD]
  cases hk : l[k]? with
  | none => simp
  | some x => exact h x (List.mem_of_getElem? hk)
theorem ret_bool {a b : Bool} (h : a = b) : Ending.returned (.bool a) = .returned (.bool b) := by rw [h]

theorem own_below {w w' : World} {base : Nat} {v : Value} {n : Nat} {xs : List Value} (h : w.ownsRow base 5 1 v n xs) (hb : Below w.heap.size w w') : w'.ownsRow base 5 1 v n xs :=
  h.kept (row := none) ⟨hb.os, hb.tape, hb.output, hb.size, fun k hk _ => hb.block k hk⟩ (by cases v.ownBlock <;> simp)

theorem Blk.at {w : World} {g : Nat} {t : TypeId} {l : List Int} (h : Blk w g t (l.map (Value.int .u8)).toArray) (k : Nat) (hk : k < l.length) : w.cell? ⟨g, k, none⟩ = some (.int .u8 (l.getD k 0)) := by
  rw [h.cell, List.getElem?_toArray, List.getElem?_map, List.getD_eq_getElem?_getD, List.getElem?_eq_getElem hk]; rfl
theorem Blk.row {w : World} {g : Nat} {t : TypeId} {l : List Int} (h : Blk w g t (l.map (Value.int .u8)).toArray) : Row .u8 w w.heap.size (some ⟨g, 0, none⟩) l.length l :=
  ⟨rfl, fun _ => ⟨g, 0, rfl, h.lt, fun j hj => by rw [Nat.zero_add]; exact h.at j hj⟩⟩
section
variable {w : World} {g : Nat} {t : TypeId} {l : List Int} {rest : List Value} {q : IntKind}
end
/-- A row of the call's own that has elements: its block. -/
theorem own_blk {w : World} {base : Nat} {t : TypeId} {v : Value} {n : Nat} {xs : List Value} (h : w.ownsRow base t 1 v n xs) (hn : 0 < n) : ∃ g c rest, v = .slice (some ⟨g, 0, none⟩) n c ∧ base ≤ g ∧ n ≤ c ∧ Blk w g t (xs ++ rest).toArray := by
  rcases h.2 with ⟨_, h0⟩ | ⟨g, cap, cur, rfl, hg, hh, hc, hm, hs, ht⟩
  · omega
  · refine ⟨g, cap, cur.toList.drop n, rfl, hg, hc, ?_⟩
    rw [Nat.mul_one] at ht
    rw [← ht, List.take_append_drop]
    exact hh
end Go.Proofs.Ytndjoanlbaiaeaa
namespace Go.Proofs.Ytndjoanlbaiaeaa

/-- A head. -/
structure Hd where
  age : Int
  kind : Int
  id : Int
  adv : Int
  seq : Int
  sum : Int
  long : Int
/-- A link. -/
structure Lk where
  kind : Int
  id : Int
  data : Int
  cost : Int

end Go.Proofs.Ytndjoanlbaiaeaa
namespace Go.Proofs.Ytndjoanlbaiaeaa
open Go.RowKit

/-- From place p of block b on there lies the link k. -/
def LkAt (w : World) (b p : Nat) (k : Lk) : Prop :=
  w.cell? ⟨b, p, none⟩ = some (.int .i64 k.kind) ∧ w.cell? ⟨b, p + 1, none⟩ = some (.int .i64 k.id) ∧ w.cell? ⟨b, p + 2, none⟩ = some (.int .i64 k.data) ∧ w.cell? ⟨b, p + 3, none⟩ = some (.int .i64 k.cost)
theorem LkAt.keep {w w' : World} {b p : Nat} {k : Lk} (h : LkAt w b p k) (hk : ∀ q : Addr, q.block = b → w'.cell? q = w.cell? q) : LkAt w' b p k :=
  ⟨(hk _ rfl).trans h.1, (hk _ rfl).trans h.2.1, (hk _ rfl).trans h.2.2.1, (hk _ rfl).trans h.2.2.2⟩

/-- A slice value '.slice A n c' whose elements are the links L; what it leads to lies below block B. -/
def Lnk (w : World) (B : Nat) (A : Option Addr) (n : Nat) (L : List Lk) : Prop :=
  L.length = n ∧ (0 < n → ∃ b o, A = some ⟨b, o, none⟩ ∧ b < B ∧ ∀ j, j < n → LkAt w b (o + j * 4) (L.getD j ⟨0, 0, 0, 0⟩))
section
variable {w w' : World} {B B' n : Nat} {A : Option Addr} {L : List Lk}
theorem Lnk.nil : Lnk w B A 0 [] := ⟨rfl, fun h => absurd h (by omega)⟩
theorem Lnk.keep (h : Lnk w B A n L) (hk : ∀ p : Addr, p.block < B → w'.cell? p = w.cell? p) : Lnk w' B A n L :=
  ⟨h.1, fun hn => by
    obtain ⟨b, o, e, hb, hc⟩ := h.2 hn
    exact ⟨b, o, e, hb, fun j hj => (hc j hj).keep fun q hq => hk q (by omega)⟩⟩
theorem Lnk.more (h : Lnk w B A n L) (hB : B ≤ B') : Lnk w B' A n L :=
  ⟨h.1, fun hn => by
    obtain ⟨b, o, e, hb, hc⟩ := h.2 hn
    exact ⟨b, o, e, by omega, hc⟩⟩
theorem Lnk.below (h : Lnk w B A n L) (hb : Below B w w') : Lnk w' B A n L := h.keep fun _ hp => hb.cell hp
theorem Lnk.drewN (h : Lnk w B A n L) (m : Nat) : Lnk (w.drewN m) B A n L := h
theorem Lnk.alloc (h : Lnk w B A n L) (hB : B ≤ w.heap.size) (o : Obj) : Lnk (w.alloc o) B A n L := h.keep fun p hp => World.cell?_alloc_lt w o p (by omega)
end
end Go.Proofs.Ytndjoanlbaiaeaa
namespace Go.Proofs.Ytndjoanlbaiaeaa
open Go.RowKit

theorem below_drewN {b : Nat} {w w' : World} (h : Below b w w') (n : Nat) : Below b w (w'.drewN n) := ⟨h.os, h.tape, h.output, h.size, h.block⟩

end Go.Proofs.Ytndjoanlbaiaeaa
