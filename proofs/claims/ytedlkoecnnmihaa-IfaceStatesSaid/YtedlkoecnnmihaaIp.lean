/- A router on a network, a candidate, and lists of candidates that came in. No conditions. -/
import Derived.Test.YtedlkoecnnmihaaIr
import Derived.Test.YtedlkoecnnmihaaIe
namespace Go.Proofs.Ytedlkoecnnmihaa
open Go.ChangeShapes Go.WideShapes Go.RowKit Go.Deep
section
variable {H : Type} {enc : TypeId × Value → H} {w : World} {base : Nat} {held : Bool} {fuel : Nat}
theorem Try.cells23i : Try.prog.cellsOf 23 = 5 := by kernel_rfl
theorem if_is {v : Value} {d : DataW H} {p : List MemPlace} {r : Reach} {b0 : Nat} {spare : Nat → Bool} (hv : Value.okWide Try.prog w r b0 23 v) (h : DataW.Trod enc Try.prog w base spare held 23 v d p) :
    ∃ i : If, v = .agg #[.int .i64 i.self, .int .i64 i.prio, .int .i64 i.state, .int .i64 i.dr, .int .i64 i.bdr] ∧ wf64 i.state := by
  obtain ⟨cs, rfl, hsz⟩ := okWide_struct Try.underlying23 hv
  obtain ⟨l⟩ := cs
  obtain ⟨fuel, hf⟩ := h
  obtain ⟨xs, n, _, _, hcl, hlen, hg⟩ := DataW.trod_struct Try.underlying23 hf
  rw [Try.cells23i] at hsz
  have g0 : DataW.trod enc Try.prog w base spare held n 3 ((l.drop 0).take (Try.prog.cellsOf 3)) = xs[0]? := hg 0 _ rfl
  have g1 : DataW.trod enc Try.prog w base spare held n 3 ((l.drop 1).take (Try.prog.cellsOf 3)) = xs[1]? := hg 1 _ rfl
  have g2 : DataW.trod enc Try.prog w base spare held n 3 ((l.drop 2).take (Try.prog.cellsOf 3)) = xs[2]? := hg 2 _ rfl
  have g3 : DataW.trod enc Try.prog w base spare held n 3 ((l.drop 3).take (Try.prog.cellsOf 3)) = xs[3]? := hg 3 _ rfl
  have g4 : DataW.trod enc Try.prog w base spare held n 3 ((l.drop 4).take (Try.prog.cellsOf 3)) = xs[4]? := hg 4 _ rfl
  rw [Try.cells3] at g0 g1 g2 g3 g4
  match l, hsz, xs, hlen with
  | [c0, c1, c2, c3, c4], _, [y0, y1, y2, y3, y4], _ =>
    obtain ⟨z0, rfl⟩ := int_came rfl g0
    obtain ⟨z1, rfl⟩ := int_came rfl g1
    obtain ⟨z2, rfl, hb⟩ := int_cameB rfl g2
    obtain ⟨z3, rfl⟩ := int_came rfl g3
    obtain ⟨z4, rfl⟩ := int_came rfl g4
    exact ⟨⟨z0, z1, z2, z3, z4⟩, rfl, hb⟩
theorem cand_is {v : Value} {d : DataW H} {p : List MemPlace} {r : Reach} {b0 : Nat} {spare : Nat → Bool} (hv : Value.okWide Try.prog w r b0 31 v) (h : DataW.Trod enc Try.prog w base spare held 31 v d p) :
    ∃ c : Cd, v = .agg #[.int .i64 c.id, .int .i64 c.prio, .int .i64 c.dr, .int .i64 c.bdr] := by
  obtain ⟨cs, rfl, hsz⟩ := okWide_struct Try.underlying31 hv
  obtain ⟨l⟩ := cs
  obtain ⟨fuel, hf⟩ := h
  obtain ⟨c, hc, _⟩ := cand_came hf
  refine ⟨c, ?_⟩
  simp [Value.cells] at hc
  rw [hc]
theorem cdsOf_came {v : Value} {d : DataW H} {p : List MemPlace} (h : DataW.Trod enc Try.prog w base (fun _ => true) held 24 v d p) (hv : ∃ A n c, v = .slice A n c) : ∃ A n c L, v = .slice A n c ∧ Cds w w.heap.size A n L ∧ n ≤ c ∧ c ≤ maxLen := by
  obtain ⟨A, n, c, rfl⟩ := hv
  obtain ⟨fuel, hf⟩ := h
  obtain ⟨A2, n2, c2, L, e, h1, h2, h3, h4⟩ := cds_came (v := .slice A n c) hf
  injection e with e1 e2 e3
  subst e1 e2 e3
  exact ⟨A, n, c, L, rfl, h1, h3, h4⟩
theorem int_is {v : Value} {d : DataW H} {p : List MemPlace} {r : Reach} {b0 : Nat} {spare : Nat → Bool} (hv : Value.okWide Try.prog w r b0 3 v) (h : DataW.Trod enc Try.prog w base spare held 3 v d p) : ∃ z : Int, v = .int .i64 z ∧ wf64 z := by
  obtain ⟨z, rfl⟩ := okWide_int Try.underlying3 hv
  obtain ⟨fuel, hf⟩ := h
  obtain ⟨z2, e, hb⟩ := int_cameB (y := some (d, p)) rfl (c := .int .i64 z) hf
  injection e with _ e
  subst e
  exact ⟨z, rfl, hb⟩
end
end Go.Proofs.Ytedlkoecnnmihaa
