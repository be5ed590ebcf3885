/- What came in: integers, lists of them, a router on a network. No conditions. -/
import Derived.Test.YtohfoopagbajnaaDoorNk
namespace Go.Proofs.YtohfoopagbajnaaDoor
open Go.ChangeShapes Go.WideShapes Go.RowKit Go.Deep
section
variable {H : Type} {enc : TypeId × Value → H} {w : World} {base : Nat} {held : Bool}
theorem int_is {v : Value} {r : Reach} {b0 : Nat} (hv : Value.okWide Tryd.prog w r b0 3 v) : ∃ z : Int, v = .int .i64 z := by
  obtain ⟨z, rfl⟩ := okWide_int Tryd.underlying3 hv
  exact ⟨z, rfl⟩
theorem if_is {v : Value} {d : DataW H} {p : List MemPlace} {r : Reach} {b0 : Nat} {spare : Nat → Bool} (hv : Value.okWide Tryd.prog w r b0 31 v) (h : DataW.Trod enc Tryd.prog w base spare held 31 v d p) :
    ∃ i : If, v = .agg #[.int .i64 i.self, .int .i64 i.prio, .int .i64 i.state, .int .i64 i.dr, .int .i64 i.bdr] := by
  obtain ⟨cs, rfl, hsz⟩ := okWide_struct Tryd.underlying31 hv
  obtain ⟨l⟩ := cs
  obtain ⟨fuel, hf⟩ := h
  obtain ⟨xs, n, _, _, hcl, hlen, hg⟩ := DataW.trod_struct Tryd.underlying31 hf
  rw [Tryd.cells31n] at hsz
  have g0 : DataW.trod enc Tryd.prog w base spare held n 3 ((l.drop 0).take (Tryd.prog.cellsOf 3)) = xs[0]? := hg 0 _ rfl
  have g1 : DataW.trod enc Tryd.prog w base spare held n 3 ((l.drop 1).take (Tryd.prog.cellsOf 3)) = xs[1]? := hg 1 _ rfl
  have g2 : DataW.trod enc Tryd.prog w base spare held n 3 ((l.drop 2).take (Tryd.prog.cellsOf 3)) = xs[2]? := hg 2 _ rfl
  have g3 : DataW.trod enc Tryd.prog w base spare held n 3 ((l.drop 3).take (Tryd.prog.cellsOf 3)) = xs[3]? := hg 3 _ rfl
  have g4 : DataW.trod enc Tryd.prog w base spare held n 3 ((l.drop 4).take (Tryd.prog.cellsOf 3)) = xs[4]? := hg 4 _ rfl
  rw [Tryd.cells3n] at g0 g1 g2 g3 g4
  match l, hsz, xs, hlen with
  | [c0, c1, c2, c3, c4], _, [y0, y1, y2, y3, y4], _ =>
    obtain ⟨z0, rfl⟩ := int_came rfl g0
    obtain ⟨z1, rfl⟩ := int_came rfl g1
    obtain ⟨z2, rfl⟩ := int_came rfl g2
    obtain ⟨z3, rfl⟩ := int_came rfl g3
    obtain ⟨z4, rfl⟩ := int_came rfl g4
    exact ⟨⟨z0, z1, z2, z3, z4⟩, rfl⟩
theorem ints_came {v : Value} {d : DataW H} {p : List MemPlace} (h : DataW.Trod enc Tryd.prog w base (fun _ => true) held 27 v d p) (hv : ∃ A n c, v = .slice A n c) : ∃ A n c L, v = .slice A n c ∧ Row .i64 w w.heap.size A n L ∧ n ≤ c ∧ c ≤ maxLen := by
  obtain ⟨A, n, c, rfl⟩ := hv
  obtain ⟨fuel, hf⟩ := h
  obtain ⟨A2, n2, c2, L, e, h1, h3, h4⟩ := arr_came (v := .slice A n c) (sz := 1) (P := fun w _ b o (z : Int) => w.cell? ⟨b, o, none⟩ = some (.int .i64 z)) 0 Tryd.underlying27 Tryd.cells3n (by omega) (fun n a cs y hat htr hsp => by
    obtain ⟨z, hz, -⟩ := DataW.trod_int Tryd.underlying3 htr
    subst hz
    obtain ⟨b, o, spot⟩ := a
    obtain rfl : spot = none := hsp
    simp only [addr_add] at hat
    exact ⟨z, hat 0 (by omega)⟩) hf
  injection e with e1 e2 e3
  subst e1 e2 e3
  refine ⟨A, n, c, L, rfl, ⟨h1.1, fun hn => ?_⟩, h3, h4⟩
  obtain ⟨b, o, e1, hb, hc⟩ := h1.2 hn
  refine ⟨b, o, e1, hb, fun j hj => ?_⟩
  have hl := h1.1
  have hx : L[j]? = some (L[j]'(by omega)) := List.getElem?_eq_getElem (by omega)
  have := hc j _ hx
  rw [Nat.mul_one] at this
  rw [this, List.getD_eq_getElem?_getD, hx]
  rfl
end
end Go.Proofs.YtohfoopagbajnaaDoor
