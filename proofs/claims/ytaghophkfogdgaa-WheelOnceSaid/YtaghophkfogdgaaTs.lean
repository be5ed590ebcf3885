/- Timers and acts that came in. No conditions. -/
import Derived.Test.YtaghophkfogdgaaTd
namespace Go.Proofs.Ytaghophkfogdgaa
open Go.ChangeShapes Go.WideShapes Go.RowKit Go.Deep
set_option maxRecDepth 20000

/-- An act on a wheel. -/
structure Ac where
  kind : Int
  tick : Int
  t : Tm
def wfAc (a : Ac) : Prop := inI a.kind ∧ inI a.tick ∧ wfTm a.t
def encAc (a : Ac) : List Value := [.int .i64 a.kind, .int .i64 a.tick, .int .i64 a.t.kind, .int .i64 a.t.lan, .int .i64 a.t.id, .int .i64 a.t.kk, .int .i64 a.t.ki, .int .i64 a.t.ka]
theorem cells_act8 : Try.prog.cellsOf 35 = 8 := by kernel_rfl
section
variable {H : Type} {enc : TypeId × Value → H} {w : World} {base : Nat} {held : Bool} {fuel : Nat}
theorem key_cameB {cs : List Value} {x : DataW H × List MemPlace} {spare : Nat → Bool} (h : DataW.trod enc Try.prog w base spare held fuel 31 cs = some x) :
    ∃ a b c : Int, cs = [.int .i64 a, .int .i64 b, .int .i64 c] ∧ inI a ∧ inI b ∧ inI c := by
  obtain ⟨xs, n, _, _, hcl, hlen, hg⟩ := DataW.trod_struct Try.underlying31 h
  rw [cells_key8] at hcl
  have g0 : DataW.trod enc Try.prog w base spare held n 3 ((cs.drop 0).take (Try.prog.cellsOf 3)) = xs[0]? := hg 0 _ rfl
  have g1 : DataW.trod enc Try.prog w base spare held n 3 ((cs.drop 1).take (Try.prog.cellsOf 3)) = xs[1]? := hg 1 _ rfl
  have g2 : DataW.trod enc Try.prog w base spare held n 3 ((cs.drop 2).take (Try.prog.cellsOf 3)) = xs[2]? := hg 2 _ rfl
  rw [cells_int8] at g0 g1 g2
  match cs, hcl, xs, hlen with
  | [c0, c1, c2], _, [y0, y1, y2], _ =>
    obtain ⟨z0, rfl, b0, b0'⟩ := int_cameB rfl g0
    obtain ⟨z1, rfl, b1, b1'⟩ := int_cameB rfl g1
    obtain ⟨z2, rfl, b2, b2'⟩ := int_cameB rfl g2
    exact ⟨z0, z1, z2, rfl, ⟨b0, b0'⟩, ⟨b1, b1'⟩, ⟨b2, b2'⟩⟩
theorem tm_cameB {cs : List Value} {x : DataW H × List MemPlace} {spare : Nat → Bool} (h : DataW.trod enc Try.prog w base spare held fuel 33 cs = some x) : ∃ t : Tm, cs = encTm t ∧ wfTm t := by
  obtain ⟨xs, n, _, _, hcl, hlen, hg⟩ := DataW.trod_struct Try.underlying33 h
  rw [cells_tm8] at hcl
  have g0 : DataW.trod enc Try.prog w base spare held n 3 ((cs.drop 0).take (Try.prog.cellsOf 3)) = xs[0]? := hg 0 _ rfl
  have g1 : DataW.trod enc Try.prog w base spare held n 3 ((cs.drop 1).take (Try.prog.cellsOf 3)) = xs[1]? := hg 1 _ rfl
  have g2 : DataW.trod enc Try.prog w base spare held n 3 ((cs.drop 2).take (Try.prog.cellsOf 3)) = xs[2]? := hg 2 _ rfl
  have g3 : DataW.trod enc Try.prog w base spare held n 31 ((cs.drop 3).take (Try.prog.cellsOf 31)) = xs[3]? := hg 3 _ rfl
  rw [cells_int8] at g0 g1 g2
  rw [cells_key8] at g3
  match cs, hcl, xs, hlen with
  | [c0, c1, c2, c3, c4, c5], _, [y0, y1, y2, y3], _ =>
    obtain ⟨z0, rfl, b0, b0'⟩ := int_cameB rfl g0
    obtain ⟨z1, rfl, b1, b1'⟩ := int_cameB rfl g1
    obtain ⟨z2, rfl, b2, b2'⟩ := int_cameB rfl g2
    obtain ⟨a, b, c, hh, h1, h2, h3⟩ := key_cameB g3
    simp at hh
    obtain ⟨rfl, rfl, rfl⟩ := hh
    exact ⟨⟨z0, z1, z2, a, b, c⟩, rfl, ⟨b0, b0'⟩, ⟨b1, b1'⟩, ⟨b2, b2'⟩, h1, h2, h3⟩
theorem tm_came {v : Value} {d : DataW H} {p : List MemPlace} {r : Reach} {b0 : Nat} {spare : Nat → Bool} (hv : Value.okWide Try.prog w r b0 33 v) (h : DataW.Trod enc Try.prog w base spare held 33 v d p) :
    ∃ t : Tm, v = .agg #[.int .i64 t.kind, .int .i64 t.lan, .int .i64 t.id, .int .i64 t.kk, .int .i64 t.ki, .int .i64 t.ka] ∧ wfTm t := by
  obtain ⟨cs, rfl, hsz⟩ := okWide_struct Try.underlying33 hv
  obtain ⟨l⟩ := cs
  obtain ⟨fuel, hf⟩ := h
  obtain ⟨t, hh, hw⟩ := tm_cameB hf
  refine ⟨t, ?_, hw⟩
  simp [Value.cells, encTm] at hh
  rw [hh]
/-- From place o of block b on there lies an act. -/
def AcAt (w : World) (B b o : Nat) (a : Ac) : Prop := wfAc a ∧ b < B ∧ w.rangeAt b o (encAc a)
theorem AcAt.move {w w' : World} {B B' b p : Nat} {a : Ac} (hk : ∀ q : Addr, q.block < B → w'.cell? q = w.cell? q) (hB : B ≤ B') (h : AcAt w B b p a) : AcAt w' B' b p a :=
  ⟨h.1, by have := h.2.1; omega, fun j v hj => (hk _ h.2.1).trans (h.2.2 j v hj)⟩
def Acs (w : World) (B : Nat) (A : Option Addr) (n : Nat) (L : List Ac) : Prop := Arr 8 AcAt w B A n L
theorem Acs.below {w w' : World} {B n : Nat} {A : Option Addr} {L : List Ac} (h : Acs w B A n L) (hb : Below B w w') : Acs w' B A n L := Arr.move (fun _ _ _ _ h => AcAt.move (fun _ hp => hb.cell hp) (Nat.le_refl _) h) (Nat.le_refl _) h
theorem acs_came {v : Value} {x : DataW H × List MemPlace} (h : DataW.trod enc Try.prog w base (fun _ => true) held fuel 22 [v] = some x) :
    ∃ A n c L, v = .slice A n c ∧ Acs w w.heap.size A n L ∧ n ≤ c ∧ c ≤ maxLen := by
  refine arr_came (P := AcAt) ⟨0, 0, default⟩ Try.underlying22 cells_act8 (by omega) ?_ h
  intro n a cs y hat htr hsp
  obtain ⟨xs, m, _, _, hcl, hlen, hg⟩ := DataW.trod_struct Try.underlying35 htr
  rw [cells_act8] at hcl
  have g0 : DataW.trod enc Try.prog w base (fun _ => true) held m 3 ((cs.drop 0).take (Try.prog.cellsOf 3)) = xs[0]? := hg 0 _ rfl
  have g1 : DataW.trod enc Try.prog w base (fun _ => true) held m 3 ((cs.drop 1).take (Try.prog.cellsOf 3)) = xs[1]? := hg 1 _ rfl
  have g2 : DataW.trod enc Try.prog w base (fun _ => true) held m 33 ((cs.drop 2).take (Try.prog.cellsOf 33)) = xs[2]? := hg 2 _ rfl
  rw [cells_int8] at g0 g1
  rw [cells_tm8] at g2
  match cs, hcl, xs, hlen with
  | [c0, c1, c2, c3, c4, c5, c6, c7], _, [y0, y1, y2], _ =>
    obtain ⟨z0, rfl, b0, b0'⟩ := int_cameB rfl g0
    obtain ⟨z1, rfl, b1, b1'⟩ := int_cameB rfl g1
    obtain ⟨t, hh, hw⟩ := tm_cameB g2
    simp [encTm] at hh
    obtain ⟨rfl, rfl, rfl, rfl, rfl, rfl⟩ := hh
    obtain ⟨b, o, spot⟩ := a
    obtain rfl : spot = none := hsp
    simp only [addr_add] at hat
    have hbl : b < w.heap.size := World.block_lt_of_cell? w _ (hat 0 (by omega))
    refine ⟨⟨z0, z1, t⟩, ⟨⟨b0, b0'⟩, ⟨b1, b1'⟩, hw⟩, hbl, fun j v hj => ?_⟩
    have hj8 : j < 8 := (List.getElem?_eq_some_iff.1 hj).1
    exact (hat j hj8).trans hj
end
end Go.Proofs.Ytaghophkfogdgaa
