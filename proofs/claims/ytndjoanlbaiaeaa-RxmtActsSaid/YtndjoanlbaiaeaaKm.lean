/- Integers, keys, pairs, lists of pairs, and acts that came in. No conditions. -/
import Derived.Test.YtndjoanlbaiaeaaKl
import Derived.Test.YtndjoanlbaiaeaaJak
import Derived.OpenShut
namespace Go.Proofs.Ytndjoanlbaiaeaa
open Go.ChangeShapes Go.WideShapes Go.RowKit Go.Deep
set_option maxRecDepth 20000

theorem cellsPr16 : Try.prog.cellsOf 47 = 2 := by kernel_rfl
theorem cellsAct16 : Try.prog.cellsOf 32 = 4 := by kernel_rfl
theorem cellsKys16 : Try.prog.cellsOf 30 = 1 := by kernel_rfl
/-- From place p of block b on there lies a pair. -/
def PrAt (w : World) (_B b p : Nat) (x : Int × Int) : Prop := w.cell? ⟨b, p, none⟩ = some (.int .i64 x.1) ∧ w.cell? ⟨b, p + 1, none⟩ = some (.int .i64 x.2) ∧ wfN x
def Prs (w : World) (B : Nat) (A : Option Addr) (n : Nat) (L : List (Int × Int)) : Prop := Arr 2 PrAt w B A n L
theorem Prs.below {w w' : World} {B n : Nat} {A : Option Addr} {L : List (Int × Int)} (h : Prs w B A n L) (hw : Below B w w') : Prs w' B A n L := by
  refine ⟨h.1, fun hn => ?_⟩
  obtain ⟨b, o, e, hb, hat⟩ := h.2 hn
  refine ⟨b, o, e, hb, fun j x hx => ?_⟩
  obtain ⟨h1, h2, h3⟩ := hat j x hx
  exact ⟨(hw.cell (p := ⟨b, _, none⟩) hb).trans h1, (hw.cell (p := ⟨b, _, none⟩) hb).trans h2, h3⟩
/-- What an act is. -/
structure Ac16 where
  kind : Int
  n : Int × Int
  L : List Ky
def AcAt16 (w : World) (B b p : Nat) (a : Ac16) : Prop :=
  w.cell? ⟨b, p, none⟩ = some (.int .i64 a.kind) ∧ w.cell? ⟨b, p + 1, none⟩ = some (.int .i64 a.n.1) ∧ w.cell? ⟨b, p + 2, none⟩ = some (.int .i64 a.n.2) ∧ (∃ A n c, w.cell? ⟨b, p + 3, none⟩ = some (.slice A n c) ∧ Kys w B A n a.L ∧ n ≤ c ∧ c ≤ maxLen) ∧ (∀ k ∈ a.L, wfKy k) ∧ wfN a.n
def Acs16 (w : World) (B : Nat) (A : Option Addr) (n : Nat) (L : List Ac16) : Prop := Arr 4 AcAt16 w B A n L
theorem Acs16.below {w w' : World} {B n : Nat} {A : Option Addr} {L : List Ac16} (h : Acs16 w B A n L) (hw : Below B w w') : Acs16 w' B A n L := by
  refine ⟨h.1, fun hn => ?_⟩
  obtain ⟨b, o, e, hb, hat⟩ := h.2 hn
  refine ⟨b, o, e, hb, fun j x hx => ?_⟩
  obtain ⟨h1, h2, h3, ⟨A', n', c', h4, h5, h6, h7⟩, h8, h9⟩ := hat j x hx
  exact ⟨(hw.cell (p := ⟨b, _, none⟩) hb).trans h1, (hw.cell (p := ⟨b, _, none⟩) hb).trans h2, (hw.cell (p := ⟨b, _, none⟩) hb).trans h3, ⟨A', n', c', (hw.cell (p := ⟨b, _, none⟩) hb).trans h4, h5.below hw, h6, h7⟩, h8, h9⟩
section
variable {H : Type} {enc : TypeId × Value → H} {w : World} {base : Nat} {held : Bool} {fuel : Nat}
theorem int_is {v : Value} {d : DataW H} {p : List MemPlace} {r : Reach} {b0 : Nat} {spare : Nat → Bool} (hv : Value.okWide Try.prog w r b0 3 v) (h : DataW.Trod enc Try.prog w base spare held 3 v d p) : ∃ z, v = .int .i64 z ∧ in64 z := by
  obtain ⟨z, rfl⟩ := okWide_int Try.underlying3 hv
  obtain ⟨fuel, hf⟩ := h
  obtain ⟨z', hz, _, hw⟩ := DataW.trod_int Try.underlying3 hf
  simp [Value.cells] at hz
  subst hz
  have := bounds_i64 hw
  exact ⟨z, rfl, by unfold in64; omega⟩
theorem key_is {v : Value} {d : DataW H} {p : List MemPlace} {r : Reach} {b0 : Nat} {spare : Nat → Bool} (hv : Value.okWide Try.prog w r b0 34 v) (h : DataW.Trod enc Try.prog w base spare held 34 v d p) : ∃ k : Ky, v = .agg #[.int .i64 k.kind, .int .i64 k.id, .int .i64 k.adv] ∧ wfKy k := by
  obtain ⟨cs, rfl, hsz⟩ := okWide_struct Try.underlying34 hv
  obtain ⟨l⟩ := cs
  obtain ⟨fuel, hf⟩ := h
  obtain ⟨k, hh, hw⟩ := key_came15 hf
  refine ⟨k, ?_, hw⟩
  simp [Value.cells] at hh
  rw [hh]
theorem pair_came {cs : List Value} {x : DataW H × List MemPlace} {spare : Nat → Bool} (h : DataW.trod enc Try.prog w base spare held fuel 47 cs = some x) : ∃ n : Int × Int, cs = [.int .i64 n.1, .int .i64 n.2] ∧ wfN n := by
  obtain ⟨xs, m, _, _, hcl, hlen, hel⟩ := DataW.trod_array Try.underlying47 h
  rw [cellsPr16] at hcl
  have g0 : DataW.trod enc Try.prog w base spare held m 3 ((cs.drop (0 * Try.prog.cellsOf 3)).take (Try.prog.cellsOf 3)) = xs[0]? := hel 0 (by omega)
  have g1 : DataW.trod enc Try.prog w base spare held m 3 ((cs.drop (1 * Try.prog.cellsOf 3)).take (Try.prog.cellsOf 3)) = xs[1]? := hel 1 (by omega)
  rw [Try.cells3] at g0 g1
  match cs, hcl, xs, hlen with
  | [c0, c1], _, [y0, y1], _ =>
    obtain ⟨z0, rfl, b0, b0'⟩ := int_cameB rfl g0
    obtain ⟨z1, rfl, b1, b1'⟩ := int_cameB rfl g1
    exact ⟨(z0, z1), rfl, ⟨b0, b0'⟩, b1, b1'⟩
theorem pair_is {v : Value} {d : DataW H} {p : List MemPlace} {r : Reach} {b0 : Nat} {spare : Nat → Bool} (hv : Value.okWide Try.prog w r b0 47 v) (h : DataW.Trod enc Try.prog w base spare held 47 v d p) : ∃ n : Int × Int, v = .agg #[.int .i64 n.1, .int .i64 n.2] ∧ wfN n := by
  obtain ⟨cs, rfl, _, _⟩ : ∃ cs, v = .agg cs ∧ cs.size = Try.prog.cellsOf 47 ∧ Row.okWide Try.prog w r b0 47 cs := by
    simpa [Value.okWide, Try.underlying47] using hv
  obtain ⟨l⟩ := cs
  obtain ⟨fuel, hf⟩ := h
  obtain ⟨n, hl, h1⟩ := pair_came hf
  refine ⟨n, ?_, h1⟩
  simp [Value.cells] at hl
  rw [hl]
theorem prs_came {v : Value} {x : DataW H × List MemPlace} (h : DataW.trod enc Try.prog w base (fun _ => true) held fuel 49 [v] = some x) :
    ∃ A n c L, v = .slice A n c ∧ Prs w w.heap.size A n L ∧ n ≤ c ∧ c ≤ maxLen := by
  refine arr_came (P := PrAt) (0, 0) Try.underlying49 cellsPr16 (by omega) ?_ h
  intro n a cs y hat htr hsp
  obtain ⟨k, rfl, hw⟩ := pair_came htr
  obtain ⟨b, o, spot⟩ := a
  obtain rfl : spot = none := hsp
  simp only [addr_add] at hat
  exact ⟨k, hat 0 (by omega), hat 1 (by omega), hw⟩
theorem acs_came16 {v : Value} {x : DataW H × List MemPlace} (h : DataW.trod enc Try.prog w base (fun _ => true) held fuel 22 [v] = some x) :
    ∃ A n c L, v = .slice A n c ∧ Acs16 w w.heap.size A n L ∧ n ≤ c ∧ c ≤ maxLen := by
  refine arr_came (P := AcAt16) ⟨0, (0, 0), []⟩ Try.underlying22 cellsAct16 (by omega) ?_ h
  intro n a cs y hat htr hsp
  obtain ⟨xs, m, _, _, hcl, hlen, hg⟩ := DataW.trod_struct Try.underlying32 htr
  rw [cellsAct16] at hcl
  have g0 : DataW.trod enc Try.prog w base (fun _ => true) held m 3 ((cs.drop 0).take (Try.prog.cellsOf 3)) = xs[0]? := hg 0 _ rfl
  have g1 : DataW.trod enc Try.prog w base (fun _ => true) held m 3 ((cs.drop 1).take (Try.prog.cellsOf 3)) = xs[1]? := hg 1 _ rfl
  have g2 : DataW.trod enc Try.prog w base (fun _ => true) held m 3 ((cs.drop 2).take (Try.prog.cellsOf 3)) = xs[2]? := hg 2 _ rfl
  have g3 : DataW.trod enc Try.prog w base (fun _ => true) held m 30 ((cs.drop 3).take (Try.prog.cellsOf 30)) = xs[3]? := hg 3 _ rfl
  rw [Try.cells3] at g0 g1 g2
  rw [cellsKys16] at g3
  match cs, hcl, xs, hlen with
  | [c0, c1, c2, c3], _, [y0, y1, y2, y3], _ =>
    obtain ⟨z0, rfl, b0, b0'⟩ := int_cameB rfl g0
    obtain ⟨z1, rfl, b1, b1'⟩ := int_cameB rfl g1
    obtain ⟨z2, rfl, b2, b2'⟩ := int_cameB rfl g2
    obtain ⟨A, n1, e1, L, rfl, ⟨h1, h2⟩, h3, h4⟩ := kys_came15 (v := c3) (show _ = some y3 from g3)
    obtain ⟨b, o, spot⟩ := a
    obtain rfl : spot = none := hsp
    simp only [addr_add] at hat
    exact ⟨⟨z0, (z1, z2), L⟩, hat 0 (by omega), hat 1 (by omega), hat 2 (by omega), ⟨A, n1, e1, hat 3 (by omega), h1, h3, h4⟩, h2, ⟨b1, b1'⟩, b2, b2'⟩
end
end Go.Proofs.Ytndjoanlbaiaeaa
