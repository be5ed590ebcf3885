/- The walk of the statement IfaceStates; lists of candidates in a list. No conditions. -/
import Derived.Test.YtedlkoecnnmihaaIo
import Derived.Test.YtedlkoecnnmihaaIp
namespace Go.Proofs.Ytedlkoecnnmihaa
open Go.ChangeShapes Go.WideShapes Go.RowKit Go.Deep
/-- A list of candidates, as a value. -/
structure Rw where
  a : Option Addr
  n : Nat
  c : Nat
  L : List Cd
def RwAt (w : World) (B b o : Nat) (x : Rw) : Prop := w.cell? ⟨b, o, none⟩ = some (.slice x.a x.n x.c) ∧ Cds w B x.a x.n x.L
def Rws (w : World) (B : Nat) (A : Option Addr) (n : Nat) (R : List Rw) : Prop := Arr 1 RwAt w B A n R
theorem Rws.below {w w' : World} {B n : Nat} {A : Option Addr} {R : List Rw} (h : Rws w B A n R) (hb : Below B w w') : Rws w' B A n R :=
  Arr.move (fun _ _ _ hbB hx => ⟨(hb.cell hbB).trans hx.1, hx.2.below hb⟩) (Nat.le_refl _) h
theorem Try.cells24r : Try.prog.cellsOf 24 = 1 := by kernel_rfl
theorem rws_came {H : Type} {enc : TypeId × Value → H} {w : World} {base : Nat} {held : Bool} {v : Value} {d : DataW H} {p : List MemPlace} (h : DataW.Trod enc Try.prog w base (fun _ => true) held 34 v d p) (hv : ∃ A n c, v = .slice A n c) : ∃ A n c R, v = .slice A n c ∧ Rws w w.heap.size A n R ∧ n ≤ c ∧ c ≤ maxLen := by
  obtain ⟨A, n, c, rfl⟩ := hv
  obtain ⟨fuel, hf⟩ := h
  obtain ⟨A2, n2, c2, L, e, h2⟩ := arr_came (sz := 1) (P := RwAt) (⟨none, 0, 0, []⟩ : Rw) Try.underlying34 Try.cells24r (by omega) (fun n a cs y hat htr hsp => by
    obtain ⟨v2, rfl⟩ : ∃ v2, cs = [v2] := by
      rcases open_slice Try.underlying24 htr with ⟨e, -⟩ | ⟨_, _, _, _, _, _, _, e, -⟩
      · exact ⟨_, e⟩
      · exact ⟨_, e⟩
    obtain ⟨A3, n3, c3, L3, e3, h3, -, -, -⟩ := cds_came htr
    subst e3
    obtain ⟨b, o, spot⟩ := a
    obtain rfl : spot = none := hsp
    simp only [addr_add] at hat
    exact ⟨⟨A3, n3, c3, L3⟩, hat 0 (by omega), h3⟩) hf
  injection e with e1 e2 e3
  subst e1 e2 e3
  exact ⟨A, n, c, L, rfl, h2⟩
end Go.Proofs.Ytedlkoecnnmihaa