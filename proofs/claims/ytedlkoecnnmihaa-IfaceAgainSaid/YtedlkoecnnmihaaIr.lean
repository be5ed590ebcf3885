/- Candidates that came in. No conditions. -/
import Derived.Test.YtedlkoecnnmihaaEp
import Derived.Test.YtedlkoecnnmihaaEm
import Derived.OpenShut
namespace Go.Proofs.Ytedlkoecnnmihaa
open Go.ChangeShapes Go.WideShapes Go.RowKit Go.Deep
section
variable {H : Type} {enc : TypeId × Value → H} {w : World} {base : Nat} {held : Bool} {fuel : Nat}
theorem Try.cells3 : Try.prog.cellsOf 3 = 1 := by kernel_rfl
theorem Try.cells33 : Try.prog.cellsOf 31 = 4 := by kernel_rfl
def CdB (x : Cd) : Prop := (-9223372036854775808 ≤ x.id ∧ x.id ≤ 9223372036854775807) ∧ -9223372036854775808 ≤ x.prio ∧ x.prio ≤ 9223372036854775807
/-- Four integers that came in are a candidate. -/
theorem cand_came {cs : List Value} {x : DataW H × List MemPlace} {spare : Nat → Bool} (h : DataW.trod enc Try.prog w base spare held fuel 31 cs = some x) :
    ∃ h : Cd, cs = [.int .i64 h.id, .int .i64 h.prio, .int .i64 h.dr, .int .i64 h.bdr] ∧ CdB h := by
  obtain ⟨xs, n, _, _, hcl, hlen, hg⟩ := DataW.trod_struct Try.underlying31 h
  rw [Try.cells33] at hcl
  have g0 : DataW.trod enc Try.prog w base spare held n 3 ((cs.drop 0).take (Try.prog.cellsOf 3)) = xs[0]? := hg 0 _ rfl
  have g1 : DataW.trod enc Try.prog w base spare held n 3 ((cs.drop 1).take (Try.prog.cellsOf 3)) = xs[1]? := hg 1 _ rfl
  have g2 : DataW.trod enc Try.prog w base spare held n 3 ((cs.drop 2).take (Try.prog.cellsOf 3)) = xs[2]? := hg 2 _ rfl
  have g3 : DataW.trod enc Try.prog w base spare held n 3 ((cs.drop 3).take (Try.prog.cellsOf 3)) = xs[3]? := hg 3 _ rfl
  rw [Try.cells3] at g0 g1 g2 g3
  match cs, hcl, xs, hlen with
  | [c0, c1, c2, c3], _, [y0, y1, y2, y3], _ =>
    obtain ⟨z0, rfl, hb⟩ := int_cameB rfl g0
    obtain ⟨z1, rfl, hb1⟩ := int_cameB rfl g1
    obtain ⟨z2, rfl⟩ := int_came rfl g2
    obtain ⟨z3, rfl⟩ := int_came rfl g3
    exact ⟨⟨z0, z1, z2, z3⟩, rfl, hb, hb1⟩
theorem cds_came {v : Value} {x : DataW H × List MemPlace} (h : DataW.trod enc Try.prog w base (fun _ => true) held fuel 24 [v] = some x) :
    ∃ A n c L, v = .slice A n c ∧ Cds w w.heap.size A n L ∧ (∀ x ∈ L, CdB x) ∧ n ≤ c ∧ c ≤ maxLen := by
  have h9 := arr_came (sz := 4) (P := fun w B b o x => CdAt w B b o x ∧ CdB x) (⟨0, 0, 0, 0⟩ : Cd) Try.underlying24 Try.cells33 (by omega) ?_ h
  · obtain ⟨A, n, c, L, e, h1, h2, h3⟩ := h9
    refine ⟨A, n, c, L, e, ⟨h1.1, fun hn => ?_⟩, fun x hx => ?_, h2, h3⟩
    · obtain ⟨b, o, e1, e2, e3⟩ := h1.2 hn
      exact ⟨b, o, e1, e2, fun j x hj => (e3 j x hj).1⟩
    · obtain ⟨j, hj⟩ := List.getElem?_of_mem hx
      have hl := (List.getElem?_eq_some_iff.1 hj).1
      obtain ⟨b, o, e1, e2, e3⟩ := h1.2 (by have := h1.1; omega)
      exact (e3 j x hj).2
  · intro n a cs y hat htr hsp
    obtain ⟨k, rfl, hb⟩ := cand_came htr
    obtain ⟨b, o, spot⟩ := a
    obtain rfl : spot = none := hsp
    simp only [addr_add] at hat
    exact ⟨k, ⟨hat 0 (by omega), hat 1 (by omega), hat 2 (by omega), hat 3 (by omega)⟩, hb⟩
end

end Go.Proofs.Ytedlkoecnnmihaa
