/- Keys, and acts, that came in. No conditions. -/
import Derived.Test.YtnnkcgbnhjkahaaAz
import Derived.Test.YtnnkcgbnhjkahaaJar
namespace Go.Proofs.Ytnnkcgbnhjkahaa
open Go.ChangeShapes Go.WideShapes Go.RowKit Go.Deep
set_option maxRecDepth 20000

theorem cellsKy15 : Try.prog.cellsOf 47 = 3 := by kernel_rfl
theorem cellsAct15 : Try.prog.cellsOf 31 = 2 := by kernel_rfl
theorem cellsHds15 : Try.prog.cellsOf 27 = 1 := by kernel_rfl
/-- What an act is: what is done, with which heads. -/
structure Ac15 where
  kind : Int
  L : List Hd
/-- From place p of block b on there lies an act. -/
def AcAt15 (w : World) (B b p : Nat) (a : Ac15) : Prop :=
  w.cell? ⟨b, p, none⟩ = some (.int .i64 a.kind) ∧ ∃ A n c, w.cell? ⟨b, p + 1, none⟩ = some (.slice A n c) ∧ Hds w B A n a.L ∧ (∀ h ∈ a.L, wfKy (keyH h)) ∧ n ≤ c ∧ c ≤ maxLen
def Acs15 (w : World) (B : Nat) (A : Option Addr) (n : Nat) (L : List Ac15) : Prop := Arr 2 AcAt15 w B A n L
theorem AcAt15.below {w w' : World} {B b p : Nat} {a : Ac15} (h : AcAt15 w B b p a) (hb : b < B) (hw : Below B w w') : AcAt15 w' B b p a := by
  obtain ⟨h1, A, n, c, h2, h3, h4, h5, h6⟩ := h
  exact ⟨(hw.cell (p := ⟨b, p, none⟩) hb).trans h1, A, n, c, (hw.cell (p := ⟨b, p + 1, none⟩) hb).trans h2, h3.below hw, h4, h5, h6⟩
theorem Acs15.below {w w' : World} {B n : Nat} {A : Option Addr} {L : List Ac15} (h : Acs15 w B A n L) (hw : Below B w w') : Acs15 w' B A n L := by
  refine ⟨h.1, fun hn => ?_⟩
  obtain ⟨b, o, e, hb, hat⟩ := h.2 hn
  exact ⟨b, o, e, hb, fun j x hx => (hat j x hx).below hb hw⟩
section
variable {H : Type} {enc : TypeId × Value → H} {w : World} {base : Nat} {held : Bool} {fuel : Nat}
theorem key_came15 {cs : List Value} {x : DataW H × List MemPlace} {spare : Nat → Bool} (h : DataW.trod enc Try.prog w base spare held fuel 47 cs = some x) :
    ∃ k : Ky, cs = [.int .i64 k.kind, .int .i64 k.id, .int .i64 k.adv] ∧ wfKy k := by
  obtain ⟨xs, n, _, _, hcl, hlen, hg⟩ := DataW.trod_struct Try.underlying47 h
  rw [cellsKy15] at hcl
  have g0 : DataW.trod enc Try.prog w base spare held n 3 ((cs.drop 0).take (Try.prog.cellsOf 3)) = xs[0]? := hg 0 _ rfl
  have g1 : DataW.trod enc Try.prog w base spare held n 3 ((cs.drop 1).take (Try.prog.cellsOf 3)) = xs[1]? := hg 1 _ rfl
  have g2 : DataW.trod enc Try.prog w base spare held n 3 ((cs.drop 2).take (Try.prog.cellsOf 3)) = xs[2]? := hg 2 _ rfl
  rw [Try.cells3] at g0 g1 g2
  match cs, hcl, xs, hlen with
  | [c0, c1, c2], _, [y0, y1, y2], _ =>
    obtain ⟨z0, rfl, b0, b0'⟩ := int_cameB rfl g0
    obtain ⟨z1, rfl, b1, b1'⟩ := int_cameB rfl g1
    obtain ⟨z2, rfl, b2, b2'⟩ := int_cameB rfl g2
    exact ⟨⟨z0, z1, z2⟩, rfl, ⟨b0, b0'⟩, ⟨b1, b1'⟩, b2, b2'⟩
/-- From place p of block b on there lies a key of 64 bits. -/
def KyW15 (w : World) (B b p : Nat) (k : Ky) : Prop := KyAt w B b p k ∧ wfKy k
theorem kys_came15 {v : Value} {x : DataW H × List MemPlace} (h : DataW.trod enc Try.prog w base (fun _ => true) held fuel 42 [v] = some x) :
    ∃ A n c L, v = .slice A n c ∧ (Kys w w.heap.size A n L ∧ ∀ k ∈ L, wfKy k) ∧ n ≤ c ∧ c ≤ maxLen := by
  obtain ⟨A, n, c, L, rfl, hA, hc, hm⟩ := arr_came (P := KyW15) ⟨0, 0, 0⟩ Try.underlying42 cellsKy15 (by omega) (fun n a cs y hat htr hsp => by
    obtain ⟨k, rfl, hw⟩ := key_came15 htr
    obtain ⟨b, o, spot⟩ := a
    obtain rfl : spot = none := hsp
    simp only [addr_add] at hat
    exact ⟨k, ⟨hat 0 (by omega), hat 1 (by omega), hat 2 (by omega), hw.2.1.1, hw.2.1.2⟩, hw⟩) h
  refine ⟨A, n, c, L, rfl, ⟨⟨hA.1, fun hn => by
    obtain ⟨b, o, e, hb, hat⟩ := hA.2 hn
    exact ⟨b, o, e, hb, fun j x hx => (hat j x hx).1⟩⟩, fun k hk => ?_⟩, hc, hm⟩
  obtain ⟨j, hj⟩ := List.getElem?_of_mem hk
  have hjl := (List.getElem?_eq_some_iff.1 hj).1
  obtain ⟨b, o, e, hb, hat⟩ := hA.2 (by have := hA.1; omega)
  exact (hat j k hj).2
theorem acs_came15 {v : Value} {x : DataW H × List MemPlace} (h : DataW.trod enc Try.prog w base (fun _ => true) held fuel 22 [v] = some x) :
    ∃ A n c L, v = .slice A n c ∧ Acs15 w w.heap.size A n L ∧ n ≤ c ∧ c ≤ maxLen := by
  refine arr_came (P := AcAt15) ⟨0, []⟩ Try.underlying22 cellsAct15 (by omega) ?_ h
  intro n a cs y hat htr hsp
  obtain ⟨xs, m, _, _, hcl, hlen, hg⟩ := DataW.trod_struct Try.underlying31 htr
  rw [cellsAct15] at hcl
  have g0 : DataW.trod enc Try.prog w base (fun _ => true) held m 3 ((cs.drop 0).take (Try.prog.cellsOf 3)) = xs[0]? := hg 0 _ rfl
  have g1 : DataW.trod enc Try.prog w base (fun _ => true) held m 27 ((cs.drop 1).take (Try.prog.cellsOf 27)) = xs[1]? := hg 1 _ rfl
  rw [Try.cells3] at g0
  rw [cellsHds15] at g1
  match cs, hcl, xs, hlen with
  | [c0, c1], _, [y0, y1], _ =>
    obtain ⟨z0, rfl⟩ := int_came rfl g0
    obtain ⟨A, n1, e1, L, rfl, h1, h2, h3, h4⟩ := hds_came (v := c1) (show _ = some y1 from g1)
    obtain ⟨b, o, spot⟩ := a
    obtain rfl : spot = none := hsp
    simp only [addr_add] at hat
    exact ⟨⟨z0, L⟩, hat 0 (by omega), A, n1, e1, hat 1 (by omega), h1, h2, h3, h4⟩
end
end Go.Proofs.Ytnnkcgbnhjkahaa
