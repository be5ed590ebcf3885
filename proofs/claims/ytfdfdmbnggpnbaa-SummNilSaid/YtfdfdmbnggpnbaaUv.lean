/- Heads, lists of heads and of descriptions that came in. No conditions. -/
import Derived.Test.YtfdfdmbnggpnbaaBzj
import Derived.Test.YtfdfdmbnggpnbaaJas
import Derived.Test.YtfdfdmbnggpnbaaJat
namespace Go.Proofs.Ytfdfdmbnggpnbaa
open Go.ChangeShapes Go.WideShapes Go.RowKit Go.Deep
set_option maxRecDepth 20000

theorem Try.cellsHd13 : Try.prog.cellsOf 43 = 7 := by kernel_rfl
section
variable {H : Type} {enc : TypeId × Value → H} {w : World} {base : Nat} {held : Bool} {fuel : Nat}
theorem hd_cameB {v : Value} {d : DataW H} {p : List MemPlace} {r : Reach} {b0 : Nat} {spare : Nat → Bool} (hv : Value.okWide Try.prog w r b0 43 v) (h : DataW.Trod enc Try.prog w base spare held 43 v d p) : ∃ h : Hd, v = .agg #[.int .i64 h.age, .int .i64 h.kind, .int .i64 h.id, .int .i64 h.adv, .int .i64 h.seq, .int .i64 h.sum, .int .i64 h.long] ∧ wfKy (keyH h) := by
  obtain ⟨cs, rfl, hsz⟩ := okWide_struct Try.underlying43 hv
  obtain ⟨l⟩ := cs
  obtain ⟨fuel, hf⟩ := h
  obtain ⟨h, hh, hw⟩ := head_cameB hf
  refine ⟨h, ?_, hw⟩
  simp [Value.cells] at hh
  rw [hh]
theorem las_came {v : Value} {x : DataW H × List MemPlace} (h : DataW.trod enc Try.prog w base (fun _ => true) held fuel 22 [v] = some x) :
    ∃ A n c L, v = .slice A n c ∧ Las w w.heap.size A n L ∧ n ≤ c ∧ c ≤ maxLen := by
  refine arr_came (P := LaAt) ⟨⟨0, 0, 0, 0, 0, 0, 0⟩, [], []⟩ Try.underlying22 Try.cellsLsa7 (by omega) ?_ h
  intro n a cs y hat htr hsp
  obtain ⟨hd, A, A', n1, e1, n2, e2, L, M, rfl, h1, h2, h3, h4, hw⟩ := la_cameB htr
  obtain ⟨b, o, spot⟩ := a
  obtain rfl : spot = none := hsp
  simp only [addr_add] at hat
  exact ⟨⟨hd, L, M⟩, ⟨hat 0 (by omega), hat 1 (by omega), hat 2 (by omega), hat 3 (by omega), hat 4 (by omega), hat 5 (by omega), hat 6 (by omega)⟩, A, n1, e1, A', n2, e2, hat 7 (by omega), hat 8 (by omega), h1, h3, h2, h4⟩
/-- From place p of block b on there lies a head with a key of 64 bits. -/
def HdW (w : World) (B b p : Nat) (h : Hd) : Prop := HdAt w B b p h ∧ wfKy (keyH h)
theorem hds_came {v : Value} {x : DataW H × List MemPlace} (h : DataW.trod enc Try.prog w base (fun _ => true) held fuel 27 [v] = some x) :
    ∃ A n c L, v = .slice A n c ∧ Hds w w.heap.size A n L ∧ (∀ h ∈ L, wfKy (keyH h)) ∧ n ≤ c ∧ c ≤ maxLen := by
  obtain ⟨A, n, c, L, rfl, hA, hc, hm⟩ := arr_came (P := HdW) ⟨0, 0, 0, 0, 0, 0, 0⟩ Try.underlying27 Try.cellsHd13 (by omega) (fun n a cs y hat htr hsp => by
    obtain ⟨hd, rfl, hw⟩ := head_cameB htr
    obtain ⟨b, o, spot⟩ := a
    obtain rfl : spot = none := hsp
    simp only [addr_add] at hat
    exact ⟨hd, ⟨hat 0 (by omega), hat 1 (by omega), hat 2 (by omega), hat 3 (by omega), hat 4 (by omega), hat 5 (by omega), hat 6 (by omega)⟩, hw⟩) h
  refine ⟨A, n, c, L, rfl, ⟨hA.1, fun hn => by
    obtain ⟨b, o, e, hb, hat⟩ := hA.2 hn
    exact ⟨b, o, e, hb, fun j x hx => (hat j x hx).1⟩⟩, fun h hh => ?_, hc, hm⟩
  obtain ⟨j, hj⟩ := List.getElem?_of_mem hh
  have hjl := (List.getElem?_eq_some_iff.1 hj).1
  obtain ⟨b, o, e, hb, hat⟩ := hA.2 (by have := hA.1; omega)
  exact (hat j h hj).2
end
end Go.Proofs.Ytfdfdmbnggpnbaa
