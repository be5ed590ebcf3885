/- What the new texts want of the old ones. No conditions. -/
import Derived.Test.YtnnkcgbnhjkahaaZTq
import Derived.Deep.Fields
import Derived.Deep.Slices
import Derived.OpenShut
namespace Go.Proofs.Ytnnkcgbnhjkahaa
section
open Go.ChangeShapes Go.WideShapes Go.RowKit Go.Deep
set_option maxRecDepth 20000
theorem Try.cells27 : Try.prog.cellsOf 62 = 9 := by kernel_rfl
section
variable {H : Type} {enc : TypeId × Value → H} {w : World} {base : Nat} {held : Bool} {fuel : Nat}
/-- Seven integers that came in are a head. -/
theorem head_came {cs : List Value} {x : DataW H × List MemPlace} {spare : Nat → Bool} (h : DataW.trod enc Try.prog w base spare held fuel 38 cs = some x) :
    ∃ h : Hd, cs = [.int .i64 h.age, .int .i64 h.kind, .int .i64 h.id, .int .i64 h.adv, .int .i64 h.seq, .int .i64 h.sum, .int .i64 h.long] := by
  obtain ⟨xs, n, _, _, hcl, hlen, hg⟩ := DataW.trod_struct Try.underlying38 h
  rw [Try.cells23] at hcl
  have g0 : DataW.trod enc Try.prog w base spare held n 3 ((cs.drop 0).take (Try.prog.cellsOf 3)) = xs[0]? := hg 0 _ rfl
  have g1 : DataW.trod enc Try.prog w base spare held n 3 ((cs.drop 1).take (Try.prog.cellsOf 3)) = xs[1]? := hg 1 _ rfl
  have g2 : DataW.trod enc Try.prog w base spare held n 3 ((cs.drop 2).take (Try.prog.cellsOf 3)) = xs[2]? := hg 2 _ rfl
  have g3 : DataW.trod enc Try.prog w base spare held n 3 ((cs.drop 3).take (Try.prog.cellsOf 3)) = xs[3]? := hg 3 _ rfl
  have g4 : DataW.trod enc Try.prog w base spare held n 3 ((cs.drop 4).take (Try.prog.cellsOf 3)) = xs[4]? := hg 4 _ rfl
  have g5 : DataW.trod enc Try.prog w base spare held n 3 ((cs.drop 5).take (Try.prog.cellsOf 3)) = xs[5]? := hg 5 _ rfl
  have g6 : DataW.trod enc Try.prog w base spare held n 3 ((cs.drop 6).take (Try.prog.cellsOf 3)) = xs[6]? := hg 6 _ rfl
  rw [Try.cells3] at g0 g1 g2 g3 g4 g5 g6
  match cs, hcl, xs, hlen with
  | [c0, c1, c2, c3, c4, c5, c6], _, [y0, y1, y2, y3, y4, y5, y6], _ =>
    obtain ⟨z0, rfl⟩ := int_came rfl g0
    obtain ⟨z1, rfl⟩ := int_came rfl g1
    obtain ⟨z2, rfl⟩ := int_came rfl g2
    obtain ⟨z3, rfl⟩ := int_came rfl g3
    obtain ⟨z4, rfl⟩ := int_came rfl g4
    obtain ⟨z5, rfl⟩ := int_came rfl g5
    obtain ⟨z6, rfl⟩ := int_came rfl g6
    exact ⟨⟨z0, z1, z2, z3, z4, z5, z6⟩, rfl⟩
/-- A description that came in. -/
theorem lsa_came {v : Value} {d : DataW H} {p : List MemPlace} {r : Reach} {b0 : Nat} (hv : Value.okWide Try.prog w r b0 62 v) (h : DataW.Trod enc Try.prog w base (fun _ => true) held 62 v d p) :
    ∃ (h : Hd) (A A' : Option Addr) (n c n' c' : Nat) (L : List Lk) (M : List Int), v = .agg #[.int .i64 h.age, .int .i64 h.kind, .int .i64 h.id, .int .i64 h.adv, .int .i64 h.seq, .int .i64 h.sum, .int .i64 h.long, .slice A n c, .slice A' n' c'] ∧
      Lnk w w.heap.size A n L ∧ n ≤ maxLen ∧ Row .i64 w w.heap.size A' n' M ∧ n' ≤ maxLen := by
  obtain ⟨cs, rfl, hsz⟩ := okWide_struct Try.underlying62 hv
  obtain ⟨l⟩ := cs
  obtain ⟨fuel, hf⟩ := h
  obtain ⟨xs, n, _, _, hcl, hlen, hg⟩ := DataW.trod_struct Try.underlying62 hf
  rw [Try.cells27] at hsz
  have g0 : DataW.trod enc Try.prog w base (fun _ => true) held n 38 ((l.drop 0).take (Try.prog.cellsOf 38)) = xs[0]? := hg 0 _ rfl
  have g1 : DataW.trod enc Try.prog w base (fun _ => true) held n 59 ((l.drop 7).take (Try.prog.cellsOf 59)) = xs[1]? := hg 1 _ rfl
  have g2 : DataW.trod enc Try.prog w base (fun _ => true) held n 60 ((l.drop 8).take (Try.prog.cellsOf 60)) = xs[2]? := hg 2 _ rfl
  rw [Try.cells23] at g0
  rw [Try.cells24] at g1
  rw [Try.cells25] at g2
  match l, hsz, xs, hlen with
  | [c0, c1, c2, c3, c4, c5, c6, c7, c8], _, [y0, y1, y2], _ =>
    obtain ⟨h, hh⟩ := head_came g0
    obtain ⟨A, n1, e1, L, hL, h1, h2, h3⟩ := lnk_came (v := c7) g1
    obtain ⟨A', n2, e2, M, hM, h4, h5, h6⟩ := ints_came (v := c8) g2
    simp at hh
    obtain ⟨rfl, rfl, rfl, rfl, rfl, rfl, rfl⟩ := hh
    subst hL hM
    exact ⟨h, A, A', n1, e1, n2, e2, L, M, rfl, h1, by omega, h4, by omega⟩
end
end
end Go.Proofs.Ytnnkcgbnhjkahaa
