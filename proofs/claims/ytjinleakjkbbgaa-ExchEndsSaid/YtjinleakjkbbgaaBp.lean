/- Pieces, arrays of integers and of lists, lists of booleans that came in. No conditions. -/
import Derived.Test.YtjinleakjkbbgaaBa
import Derived.Test.YtjinleakjkbbgaaUv
namespace Go.Proofs.Ytjinleakjkbbgaa
open Go.ChangeShapes Go.WideShapes Go.RowKit Go.Deep
set_option maxRecDepth 20000

theorem cellsDd14 : Try.prog.cellsOf 33 = 5 := by kernel_rfl
theorem cellsHds14 : Try.prog.cellsOf 31 = 1 := by kernel_rfl
theorem cellsB14 : Try.prog.cellsOf 4 = 1 := by kernel_rfl
theorem cellsI14 : Try.prog.cellsOf 3 = 1 := by kernel_rfl
theorem cells3_14 : Try.prog.cellsOf 22 = 3 := by kernel_rfl
theorem cells4_14 : Try.prog.cellsOf 38 = 4 := by kernel_rfl
theorem cells2_14 : Try.prog.cellsOf 39 = 2 := by kernel_rfl
theorem cellsLs14 : Try.prog.cellsOf 23 = 1 := by kernel_rfl
/-- From place p of block b on there lies a piece with so many heads. -/
def DdW (w : World) (_B b p : Nat) (d : Pc × Nat) : Prop := ∃ (A : Option Addr) (c : Nat), w.rangeAt b p [.bool d.1.init, .bool d.1.more, .bool d.1.master, .int .i64 d.1.seq, .slice A d.2 c] ∧ -9223372036854775808 ≤ d.1.seq ∧ d.1.seq ≤ 9223372036854775807 ∧ d.2 ≤ c ∧ c ≤ maxLen
def Dds (w : World) (B : Nat) (A : Option Addr) (n : Nat) (L : List (Pc × Nat)) : Prop := Arr 5 DdW w B A n L
/-- A list of booleans. -/
def Bls (w : World) (B : Nat) (A : Option Addr) (n : Nat) (L : List Bool) : Prop := Arr 1 (fun w _ b p (z : Bool) => w.cell? ⟨b, p, none⟩ = some (.bool z)) w B A n L
theorem Dds.below {w w' : World} {B n : Nat} {A : Option Addr} {L : List (Pc × Nat)} (h : Dds w B A n L) (hb : Below B w w') : Dds w' B A n L := by
  refine ⟨h.1, fun hn => ?_⟩
  obtain ⟨b, o, e, hbl, hat⟩ := h.2 hn
  refine ⟨b, o, e, hbl, fun j x hx => ?_⟩
  obtain ⟨A', c, hr, h1⟩ := hat j x hx
  exact ⟨A', c, fun i v hv => (hb.cell (p := ⟨b, _, none⟩) hbl).trans (hr i v hv), h1⟩
theorem Bls.below {w w' : World} {B n : Nat} {A : Option Addr} {L : List Bool} (h : Bls w B A n L) (hb : Below B w w') : Bls w' B A n L := by
  refine ⟨h.1, fun hn => ?_⟩
  obtain ⟨b, o, e, hbl, hat⟩ := h.2 hn
  exact ⟨b, o, e, hbl, fun j x hx => (hb.cell (p := ⟨b, _, none⟩) hbl).trans (hat j x hx)⟩
section
variable {H : Type} {enc : TypeId × Value → H} {w : World} {base : Nat} {held : Bool} {fuel : Nat}
theorem bool_came14 {c : Value} {y : Option (DataW H × List MemPlace)} {spare : Nat → Bool} (hy : y.isSome = true) (h : DataW.trod enc Try.prog w base spare held fuel 4 [c] = y) : ∃ z, c = .bool z := by
  obtain ⟨x, rfl⟩ := Option.isSome_iff_exists.1 hy
  obtain ⟨z, hz, _⟩ := DataW.trod_bool Try.underlying4 h
  simp at hz
  exact ⟨z, hz⟩
theorem dd_cameB {cs : List Value} {x : DataW H × List MemPlace} (h : DataW.trod enc Try.prog w base (fun _ => true) held fuel 33 cs = some x) :
    ∃ (p : Pc) (A : Option Addr) (n c : Nat), cs = [.bool p.init, .bool p.more, .bool p.master, .int .i64 p.seq, .slice A n c] ∧ -9223372036854775808 ≤ p.seq ∧ p.seq ≤ 9223372036854775807 ∧ n ≤ c ∧ c ≤ maxLen := by
  obtain ⟨xs, n, _, _, hcl, hlen, hg⟩ := DataW.trod_struct Try.underlying33 h
  rw [cellsDd14] at hcl
  have g0 : DataW.trod enc Try.prog w base (fun _ => true) held n 4 ((cs.drop 0).take (Try.prog.cellsOf 4)) = xs[0]? := hg 0 _ rfl
  have g1 : DataW.trod enc Try.prog w base (fun _ => true) held n 4 ((cs.drop 1).take (Try.prog.cellsOf 4)) = xs[1]? := hg 1 _ rfl
  have g2 : DataW.trod enc Try.prog w base (fun _ => true) held n 4 ((cs.drop 2).take (Try.prog.cellsOf 4)) = xs[2]? := hg 2 _ rfl
  have g3 : DataW.trod enc Try.prog w base (fun _ => true) held n 3 ((cs.drop 3).take (Try.prog.cellsOf 3)) = xs[3]? := hg 3 _ rfl
  have g4 : DataW.trod enc Try.prog w base (fun _ => true) held n 31 ((cs.drop 4).take (Try.prog.cellsOf 31)) = xs[4]? := hg 4 _ rfl
  rw [cellsB14] at g0 g1 g2
  rw [cellsI14] at g3
  rw [cellsHds14] at g4
  match cs, hcl, xs, hlen with
  | [c0, c1, c2, c3, c4], _, [y0, y1, y2, y3, y4], _ =>
    obtain ⟨z0, rfl⟩ := bool_came14 rfl g0
    obtain ⟨z1, rfl⟩ := bool_came14 rfl g1
    obtain ⟨z2, rfl⟩ := bool_came14 rfl g2
    obtain ⟨z3, rfl, h1, h2⟩ := int_cameB rfl g3
    obtain ⟨A, m, c, L, rfl, -, -, h4, h5⟩ := hds_came (v := c4) g4
    exact ⟨⟨z0, z1, z2, z3⟩, A, m, c, rfl, h1, h2, h4, h5⟩
theorem dd_is {v : Value} {d : DataW H} {p : List MemPlace} {r : Reach} {b0 : Nat} (hv : Value.okWide Try.prog w r b0 33 v) (h : DataW.Trod enc Try.prog w base (fun _ => true) held 33 v d p) :
    ∃ (p : Pc) (A : Option Addr) (n c : Nat), v = .agg #[.bool p.init, .bool p.more, .bool p.master, .int .i64 p.seq, .slice A n c] ∧ -9223372036854775808 ≤ p.seq ∧ p.seq ≤ 9223372036854775807 ∧ n ≤ c ∧ c ≤ maxLen := by
  obtain ⟨cs, rfl, hsz⟩ := okWide_struct Try.underlying33 hv
  obtain ⟨l⟩ := cs
  obtain ⟨fuel, hf⟩ := h
  obtain ⟨p, A, n, c, hh, hw⟩ := dd_cameB hf
  refine ⟨p, A, n, c, ?_, hw⟩
  simp [Value.cells] at hh
  rw [hh]
theorem dds_came {v : Value} {x : DataW H × List MemPlace} (h : DataW.trod enc Try.prog w base (fun _ => true) held fuel 24 [v] = some x) :
    ∃ A n c L, v = .slice A n c ∧ Dds w w.heap.size A n L ∧ n ≤ c ∧ c ≤ maxLen := by
  refine arr_came (P := DdW) (pc0, 0) Try.underlying24 cellsDd14 (by omega) ?_ h
  intro n a cs y hat htr hsp
  obtain ⟨p, A, m, c, rfl, h1⟩ := dd_cameB htr
  obtain ⟨b, o, spot⟩ := a
  obtain rfl : spot = none := hsp
  simp only [addr_add] at hat
  refine ⟨(p, m), A, c, fun j v hj => ?_, h1⟩
  have hj5 : j < 5 := (List.getElem?_eq_some_iff.1 hj).1
  exact (hat j hj5).trans hj
theorem bls_came {v : Value} {x : DataW H × List MemPlace} (h : DataW.trod enc Try.prog w base (fun _ => true) held fuel 40 [v] = some x) :
    ∃ A n c L, v = .slice A n c ∧ Bls w w.heap.size A n L ∧ n ≤ c ∧ c ≤ maxLen := by
  refine arr_came (P := fun w _ b p (z : Bool) => w.cell? ⟨b, p, none⟩ = some (.bool z)) false Try.underlying40 cellsB14 (by omega) ?_ h
  intro n a cs y hat htr hsp
  obtain ⟨z, hz, _⟩ := DataW.trod_bool Try.underlying4 htr
  subst hz
  obtain ⟨b, o, spot⟩ := a
  obtain rfl : spot = none := hsp
  simp only [addr_add] at hat
  exact ⟨z, hat 0 (by omega)⟩
theorem three_is {v : Value} {d : DataW H} {p : List MemPlace} {r : Reach} {b0 : Nat} {spare : Nat → Bool} (hv : Value.okWide Try.prog w r b0 22 v) (h : DataW.Trod enc Try.prog w base spare held 22 v d p) :
    ∃ a b c : Int, v = .agg #[.int .i64 a, .int .i64 b, .int .i64 c] := by
  obtain ⟨cs, rfl, _, _⟩ : ∃ cs, v = .agg cs ∧ cs.size = Try.prog.cellsOf 22 ∧ Row.okWide Try.prog w r b0 22 cs := by
    simpa [Value.okWide, Try.underlying22] using hv
  obtain ⟨l⟩ := cs
  obtain ⟨fuel, hf⟩ := h
  obtain ⟨xs, n, _, _, hcl, hlen, hg⟩ := DataW.trod_array Try.underlying22 hf
  rw [cells3_14] at hcl
  have g0 := hg 0 (by omega)
  have g1 := hg 1 (by omega)
  have g2 := hg 2 (by omega)
  rw [cellsI14] at g0 g1 g2
  simp only [Value.cells] at hcl g0 g1 g2
  match l, hcl, xs, hlen with
  | [c0, c1, c2], _, [y0, y1, y2], _ =>
    obtain ⟨z0, rfl, -, -⟩ := int_cameB rfl g0
    obtain ⟨z1, rfl, -, -⟩ := int_cameB rfl g1
    obtain ⟨z2, rfl, -, -⟩ := int_cameB rfl g2
    exact ⟨z0, z1, z2, rfl⟩
theorem four_is {v : Value} {d : DataW H} {p : List MemPlace} {r : Reach} {b0 : Nat} {spare : Nat → Bool} (hv : Value.okWide Try.prog w r b0 38 v) (h : DataW.Trod enc Try.prog w base spare held 38 v d p) :
    ∃ a b c e : Int, v = .agg #[.int .i64 a, .int .i64 b, .int .i64 c, .int .i64 e] := by
  obtain ⟨cs, rfl, _, _⟩ : ∃ cs, v = .agg cs ∧ cs.size = Try.prog.cellsOf 38 ∧ Row.okWide Try.prog w r b0 38 cs := by
    simpa [Value.okWide, Try.underlying38] using hv
  obtain ⟨l⟩ := cs
  obtain ⟨fuel, hf⟩ := h
  obtain ⟨xs, n, _, _, hcl, hlen, hg⟩ := DataW.trod_array Try.underlying38 hf
  rw [cells4_14] at hcl
  have g0 := hg 0 (by omega)
  have g1 := hg 1 (by omega)
  have g2 := hg 2 (by omega)
  have g3 := hg 3 (by omega)
  rw [cellsI14] at g0 g1 g2 g3
  simp only [Value.cells] at hcl g0 g1 g2 g3
  match l, hcl, xs, hlen with
  | [c0, c1, c2, c3], _, [y0, y1, y2, y3], _ =>
    obtain ⟨z0, rfl, -, -⟩ := int_cameB rfl g0
    obtain ⟨z1, rfl, -, -⟩ := int_cameB rfl g1
    obtain ⟨z2, rfl, -, -⟩ := int_cameB rfl g2
    obtain ⟨z3, rfl, -, -⟩ := int_cameB rfl g3
    exact ⟨z0, z1, z2, z3, rfl⟩
theorem both_is {v : Value} {d : DataW H} {p : List MemPlace} {r : Reach} {b0 : Nat} (hv : Value.okWide Try.prog w r b0 39 v) (h : DataW.Trod enc Try.prog w base (fun _ => true) held 39 v d p) :
    ∃ A n c S A' n' c' S', v = .agg #[.slice A n c, .slice A' n' c'] ∧ Las w w.heap.size A n S ∧ n ≤ maxLen ∧ Las w w.heap.size A' n' S' ∧ n' ≤ maxLen := by
  obtain ⟨cs, rfl, _, _⟩ : ∃ cs, v = .agg cs ∧ cs.size = Try.prog.cellsOf 39 ∧ Row.okWide Try.prog w r b0 39 cs := by
    simpa [Value.okWide, Try.underlying39] using hv
  obtain ⟨l⟩ := cs
  obtain ⟨fuel, hf⟩ := h
  obtain ⟨xs, n, _, _, hcl, hlen, hg⟩ := DataW.trod_array Try.underlying39 hf
  rw [cells2_14] at hcl
  have g0 := hg 0 (by omega)
  have g1 := hg 1 (by omega)
  rw [cellsLs14] at g0 g1
  simp only [Value.cells] at hcl g0 g1
  match l, hcl, xs, hlen with
  | [c0, c1], _, [y0, y1], _ =>
    obtain ⟨A, m, c, S, rfl, h1, h2, h3⟩ := las_came (v := c0) g0
    obtain ⟨A', m', c', S', rfl, h1', h2', h3'⟩ := las_came (v := c1) g1
    exact ⟨A, m, c, S, A', m', c', S', rfl, h1, by omega, h1', by omega⟩
end
end Go.Proofs.Ytjinleakjkbbgaa
