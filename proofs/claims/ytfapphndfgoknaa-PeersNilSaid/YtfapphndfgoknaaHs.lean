/- What came in: a Hello, acts. No conditions. -/
import Derived.Test.YtfapphndfgoknaaHe
namespace Go.Proofs.Ytfapphndfgoknaa
open Go.ChangeShapes Go.WideShapes Go.RowKit Go.Deep
set_option maxRecDepth 20000

theorem cells_int12 : Try.prog.cellsOf 3 = 1 := by kernel_rfl
theorem cells_u12 : Try.prog.cellsOf 5 = 1 := by kernel_rfl
theorem cells_ints12 : Try.prog.cellsOf 30 = 1 := by kernel_rfl
theorem cells_hl12 : Try.prog.cellsOf 32 = 6 := by kernel_rfl
theorem cells_act12 : Try.prog.cellsOf 34 = 10 := by kernel_rfl
/-- An act on both lists. -/
structure Ac where
  kind : Int
  id : Int
  st : Int
  on : Int
  h : Hl
  A : Option Addr
  n : Nat
  c : Nat
instance : Inhabited Ac := ⟨⟨0, 0, 0, 0, ⟨0, 0, 0, 0, 0, []⟩, none, 0, 0⟩⟩
def encAc (a : Ac) : List Value := [.int .i64 a.kind, .int .i64 a.id, .int .i64 a.st, .int .u8 a.on, .int .i64 a.h.every, .int .i64 a.h.dead, .int .i64 a.h.prio, .int .i64 a.h.dr, .int .i64 a.h.bdr, .slice a.A a.n a.c]
def AcAt (w : World) (B b p : Nat) (a : Ac) : Prop := ((0 ≤ a.on ∧ a.on ≤ 255) ∧ wfHl a.h ∧ a.n ≤ maxLen) ∧ Row .i64 w B a.A a.n a.h.seen ∧ b < B ∧ ∀ j v, (encAc a)[j]? = some v → w.cell? ⟨b, p + j, none⟩ = some v
theorem AcAt.move {w w' : World} {B b p : Nat} {a : Ac} (hk : ∀ q : Addr, q.block < B → w'.cell? q = w.cell? q) (h : AcAt w B b p a) : AcAt w' B b p a :=
  ⟨h.1, h.2.1.keep hk, h.2.2.1, fun j v hj => (hk _ h.2.2.1).trans (h.2.2.2 j v hj)⟩
def Acs (w : World) (B : Nat) (A : Option Addr) (n : Nat) (L : List Ac) : Prop := Arr 10 AcAt w B A n L
theorem Acs.below {w w' : World} {B n : Nat} {A : Option Addr} {L : List Ac} (h : Acs w B A n L) (hb : Below B w w') : Acs w' B A n L := Arr.move (fun _ _ _ _ h => AcAt.move (fun _ hp => hb.cell hp) h) (Nat.le_refl _) h
section
variable {H : Type} {enc : TypeId × Value → H} {w : World} {base : Nat} {held : Bool} {fuel : Nat}
theorem u8_cameB {c : Value} {y : Option (DataW H × List MemPlace)} {spare : Nat → Bool} (hy : y.isSome = true) (h : DataW.trod enc Try.prog w base spare held fuel 5 [c] = y) : ∃ z, c = .int .u8 z ∧ 0 ≤ z ∧ z ≤ 255 := by
  obtain ⟨x, rfl⟩ := Option.isSome_iff_exists.1 hy
  obtain ⟨z, hz, _, hw⟩ := DataW.trod_int Try.underlying5 h
  simp at hz
  have := bounds_u8 hw
  exact ⟨z, hz, by omega, by omega⟩
theorem ints_came12 {v : Value} {y : Option (DataW H × List MemPlace)} (hy : y.isSome = true) (h : DataW.trod enc Try.prog w base (fun _ => true) held fuel 30 [v] = y) : ∃ A n c L, v = .slice A n c ∧ Row .i64 w w.heap.size A n L ∧ n ≤ c ∧ c ≤ maxLen := by
  obtain ⟨x, rfl⟩ := Option.isSome_iff_exists.1 hy
  obtain ⟨A, n, c, L, e, h1, h3, h4⟩ := arr_came (v := v) (sz := 1) (P := fun w _ b o (z : Int) => w.cell? ⟨b, o, none⟩ = some (.int .i64 z)) 0 Try.underlying30 cells_int12 (by omega) (fun n a cs y hat htr hsp => by
    obtain ⟨z, hz, -⟩ := DataW.trod_int Try.underlying3 htr
    subst hz
    obtain ⟨b, o, spot⟩ := a
    obtain rfl : spot = none := hsp
    simp only [addr_add] at hat
    exact ⟨z, hat 0 (by omega)⟩) h
  refine ⟨A, n, c, L, e, ⟨h1.1, fun hn => ?_⟩, h3, h4⟩
  obtain ⟨b, o, e1, hb, hc⟩ := h1.2 hn
  refine ⟨b, o, e1, hb, fun j hj => ?_⟩
  have hl := h1.1
  have hx : L[j]? = some (L[j]'(by omega)) := List.getElem?_eq_getElem (by omega)
  have := hc j _ hx
  rw [Nat.mul_one] at this
  rw [this, List.getD_eq_getElem?_getD, hx]
  rfl
theorem hello_cameB {cs : List Value} {x : DataW H × List MemPlace} (h : DataW.trod enc Try.prog w base (fun _ => true) held fuel 32 cs = some x) :
    ∃ (h : Hl) (A : Option Addr) (n c : Nat), cs = #[.int .i64 h.every, .int .i64 h.dead, .int .i64 h.prio, .int .i64 h.dr, .int .i64 h.bdr, .slice A n c].toList ∧ wfHl h ∧ Row .i64 w w.heap.size A n h.seen ∧ n ≤ maxLen := by
  obtain ⟨xs, n, _, _, hcl, hlen, hg⟩ := DataW.trod_struct Try.underlying32 h
  rw [cells_hl12] at hcl
  have g0 : DataW.trod enc Try.prog w base (fun _ => true) held n 3 ((cs.drop 0).take (Try.prog.cellsOf 3)) = xs[0]? := hg 0 _ rfl
  have g1 : DataW.trod enc Try.prog w base (fun _ => true) held n 3 ((cs.drop 1).take (Try.prog.cellsOf 3)) = xs[1]? := hg 1 _ rfl
  have g2 : DataW.trod enc Try.prog w base (fun _ => true) held n 3 ((cs.drop 2).take (Try.prog.cellsOf 3)) = xs[2]? := hg 2 _ rfl
  have g3 : DataW.trod enc Try.prog w base (fun _ => true) held n 3 ((cs.drop 3).take (Try.prog.cellsOf 3)) = xs[3]? := hg 3 _ rfl
  have g4 : DataW.trod enc Try.prog w base (fun _ => true) held n 3 ((cs.drop 4).take (Try.prog.cellsOf 3)) = xs[4]? := hg 4 _ rfl
  have g5 : DataW.trod enc Try.prog w base (fun _ => true) held n 30 ((cs.drop 5).take (Try.prog.cellsOf 30)) = xs[5]? := hg 5 _ rfl
  rw [cells_int12] at g0 g1 g2 g3 g4
  rw [cells_ints12] at g5
  match cs, hcl, xs, hlen with
  | [c0, c1, c2, c3, c4, c5], _, [y0, y1, y2, y3, y4, y5], _ =>
    obtain ⟨z0, rfl, -⟩ := int_cameB rfl g0
    obtain ⟨z1, rfl, -⟩ := int_cameB rfl g1
    obtain ⟨z2, rfl, b2, b2'⟩ := int_cameB rfl g2
    obtain ⟨z3, rfl, b3, b3'⟩ := int_cameB rfl g3
    obtain ⟨z4, rfl, b4, b4'⟩ := int_cameB rfl g4
    obtain ⟨A, n1, e1, S, rfl, h1, h2, h3⟩ := ints_came12 (v := c5) rfl g5
    exact ⟨⟨z0, z1, z2, z3, z4, S⟩, A, n1, e1, rfl, ⟨⟨b2, b2'⟩, ⟨b3, b3'⟩, ⟨b4, b4'⟩⟩, h1, by omega⟩
theorem hello_is {v : Value} {d : DataW H} {p : List MemPlace} {r : Reach} {b0 : Nat} (hv : Value.okWide Try.prog w r b0 32 v) (h : DataW.Trod enc Try.prog w base (fun _ => true) held 32 v d p) :
    ∃ (h : Hl) (A : Option Addr) (n c : Nat), v = .agg #[.int .i64 h.every, .int .i64 h.dead, .int .i64 h.prio, .int .i64 h.dr, .int .i64 h.bdr, .slice A n c] ∧ wfHl h ∧ Row .i64 w w.heap.size A n h.seen ∧ n ≤ maxLen := by
  obtain ⟨cs, rfl, hsz⟩ := okWide_struct Try.underlying32 hv
  obtain ⟨l⟩ := cs
  obtain ⟨fuel, hf⟩ := h
  obtain ⟨h, A, n, c, e, h1, h2, h3⟩ := hello_cameB (cs := l) hf
  refine ⟨h, A, n, c, ?_, h1, h2, h3⟩
  rw [e]
theorem int_is {v : Value} {r : Reach} {b0 : Nat} (hv : Value.okWide Try.prog w r b0 3 v) : ∃ z : Int, v = .int .i64 z := by
  obtain ⟨z, rfl⟩ := okWide_int Try.underlying3 hv
  exact ⟨z, rfl⟩
theorem acs_came {v : Value} {x : DataW H × List MemPlace} (h : DataW.trod enc Try.prog w base (fun _ => true) held fuel 22 [v] = some x) :
    ∃ A n c L, v = .slice A n c ∧ Acs w w.heap.size A n L ∧ n ≤ c ∧ c ≤ maxLen := by
  refine arr_came (P := AcAt) default Try.underlying22 cells_act12 (by omega) ?_ h
  intro n a cs y hat htr hsp
  obtain ⟨xs, m, _, _, hcl, hlen, hg⟩ := DataW.trod_struct Try.underlying34 htr
  rw [cells_act12] at hcl
  have g0 : DataW.trod enc Try.prog w base (fun _ => true) held m 3 ((cs.drop 0).take (Try.prog.cellsOf 3)) = xs[0]? := hg 0 _ rfl
  have g1 : DataW.trod enc Try.prog w base (fun _ => true) held m 3 ((cs.drop 1).take (Try.prog.cellsOf 3)) = xs[1]? := hg 1 _ rfl
  have g2 : DataW.trod enc Try.prog w base (fun _ => true) held m 3 ((cs.drop 2).take (Try.prog.cellsOf 3)) = xs[2]? := hg 2 _ rfl
  have g3 : DataW.trod enc Try.prog w base (fun _ => true) held m 5 ((cs.drop 3).take (Try.prog.cellsOf 5)) = xs[3]? := hg 3 _ rfl
  have g4 : DataW.trod enc Try.prog w base (fun _ => true) held m 32 ((cs.drop 4).take (Try.prog.cellsOf 32)) = xs[4]? := hg 4 _ rfl
  rw [cells_int12] at g0 g1 g2
  rw [cells_u12] at g3
  rw [cells_hl12] at g4
  match cs, hcl, xs, hlen with
  | [c0, c1, c2, c3, c4, c5, c6, c7, c8, c9], _, [y0, y1, y2, y3, y4], _ =>
    obtain ⟨z0, rfl, -⟩ := int_cameB rfl g0
    obtain ⟨z1, rfl, -⟩ := int_cameB rfl g1
    obtain ⟨z2, rfl, -⟩ := int_cameB rfl g2
    obtain ⟨z3, rfl, b3, b3'⟩ := u8_cameB rfl g3
    obtain ⟨h, A, n1, e1, hh, hw, hR, hn⟩ := hello_cameB (show _ = some y4 from g4)
    simp at hh
    obtain ⟨rfl, rfl, rfl, rfl, rfl, rfl⟩ := hh
    obtain ⟨b, o, spot⟩ := a
    obtain rfl : spot = none := hsp
    simp only [addr_add] at hat
    have hbl : b < w.heap.size := World.block_lt_of_cell? w _ (hat 0 (by omega))
    refine ⟨⟨z0, z1, z2, z3, h, A, n1, e1⟩, ⟨⟨b3, b3'⟩, hw, hn⟩, hR, hbl, fun j v hj => ?_⟩
    have hj8 : j < 10 := (List.getElem?_eq_some_iff.1 hj).1
    exact (hat j hj8).trans hj
end
end Go.Proofs.Ytfapphndfgoknaa
