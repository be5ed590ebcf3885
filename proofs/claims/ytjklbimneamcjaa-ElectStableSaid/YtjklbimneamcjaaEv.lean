/- Two bytes that came in. No conditions. -/
import Derived.Test.YtjklbimneamcjaaEr
namespace Go.Proofs.Ytjklbimneamcjaa
open Go.ChangeShapes Go.WideShapes Go.RowKit Go.Deep
theorem cells_two : Try.prog.cellsOf 37 = 2 := by kernel_rfl
theorem cells_one : Try.prog.cellsOf 5 = 1 := by kernel_rfl
section
variable {H : Type} {enc : TypeId × Value → H} {w : World} {base : Nat} {held : Bool} {fuel : Nat}
theorem byte_came {c : Value} {y : Option (DataW H × List MemPlace)} {spare : Nat → Bool} (hy : y.isSome = true) (h : DataW.trod enc Try.prog w base spare held fuel 5 [c] = y) : ∃ z : Nat, c = .int .u8 (z : Int) ∧ z ≤ 255 := by
  obtain ⟨x, rfl⟩ := Option.isSome_iff_exists.1 hy
  obtain ⟨z, hz, _, hw⟩ := DataW.trod_int Try.underlying5 h
  simp at hz
  have := bounds_u8 hw
  refine ⟨z.toNat, ?_, by omega⟩
  rw [hz, Int.toNat_of_nonneg (by omega)]
theorem two_came {cs : List Value} {x : DataW H × List MemPlace} {spare : Nat → Bool} (h : DataW.trod enc Try.prog w base spare held fuel 37 cs = some x) :
    ∃ an bn : Nat, cs = [.int .u8 (an : Int), .int .u8 (bn : Int)] ∧ an ≤ 255 ∧ bn ≤ 255 := by
  obtain ⟨xs, n, _, _, hcl, hlen, hg⟩ := DataW.trod_array Try.underlying37 h
  rw [cells_two] at hcl
  have g0 : DataW.trod enc Try.prog w base spare held n 5 ((cs.drop 0).take (Try.prog.cellsOf 5)) = xs[0]? := by
    have := hg 0 (by omega)
    rwa [Nat.zero_mul] at this
  have g1 : DataW.trod enc Try.prog w base spare held n 5 ((cs.drop 1).take (Try.prog.cellsOf 5)) = xs[1]? := by
    have := hg 1 (by omega)
    rwa [Nat.one_mul, cells_one] at this
  rw [cells_one] at g0 g1
  match cs, hcl, xs, hlen with
  | [c0, c1], _, [y0, y1], _ =>
    obtain ⟨z0, rfl, h0⟩ := byte_came rfl g0
    obtain ⟨z1, rfl, h1⟩ := byte_came rfl g1
    exact ⟨z0, z1, rfl, h0, h1⟩
theorem two_is {v : Value} {d : DataW H} {p : List MemPlace} {r : Reach} {b0 : Nat} {spare : Nat → Bool} (hv : Value.okWide Try.prog w r b0 37 v) (h : DataW.Trod enc Try.prog w base spare held 37 v d p) :
    ∃ an bn : Nat, v = .agg #[.int .u8 (an : Int), .int .u8 (bn : Int)] ∧ an ≤ 255 ∧ bn ≤ 255 := by
  obtain ⟨cs, rfl, _, _⟩ : ∃ cs, v = .agg cs ∧ cs.size = Try.prog.cellsOf 37 ∧ Row.okWide Try.prog w r b0 37 cs := by
    simpa [Value.okWide, Try.underlying37] using hv
  obtain ⟨l⟩ := cs
  obtain ⟨fuel, hf⟩ := h
  obtain ⟨an, bn, hl, h1, h2⟩ := two_came hf
  refine ⟨an, bn, ?_, h1, h2⟩
  simp [Value.cells] at hl
  rw [hl]
end
end Go.Proofs.Ytjklbimneamcjaa
