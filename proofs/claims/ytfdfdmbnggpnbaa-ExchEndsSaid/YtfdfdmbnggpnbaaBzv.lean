/- What the new texts want of the old ones. No conditions. -/
import Derived.Test.YtfdfdmbnggpnbaaZ2
import Derived.BigQuiet
import Derived.Deep.AppendLies
import Derived.Deep.Fields
import Derived.Deep.QuietTactic
import Derived.Deep.RegionHeld3
import Derived.Deep.Slices
import Derived.Laws.CopyOwn
import Derived.Laws.MakeOwn
import Derived.Lib.Hide
import Derived.Maps.AppendAt
import Derived.OpenShut
import Derived.WalkKit
import Derived.WalkLawsBesides
namespace Go.Proofs.Ytfdfdmbnggpnbaa
section
open Go.RowKit
/-- A slice of integers that came in: nil, or a row of 'cap' cells that hold the numbers 'zs', of which the first 'len' are its elements. -/
def IsRow (k : IntKind) (w : World) (a : Option Addr) (len cap : Nat) (zs : List Int) : Prop :=
  (a = none ∧ len = 0 ∧ cap = 0 ∧ zs = []) ∨
  ∃ x, a = some x ∧ len ≤ cap ∧ cap ≤ maxLen ∧ zs.length = cap ∧ (∀ i, i < zs.length → w.cell? (x.add i) = some (.int k (zs.getD i 0))) ∧ ∀ n ∈ zs, (Lit.int k n).wf = true

theorem row_of_is {k : IntKind} {w : World} {a : Option Addr} {len cap : Nat} {zs : List Int} (h : IsRow k w a len cap zs) :
    ∃ l, Row k w w.heap.size a len l ∧ (∀ n ∈ l, (Lit.int k n).wf = true) ∧ len ≤ cap ∧ len ≤ maxLen := by
  rcases h with ⟨rfl, rfl, rfl, rfl⟩ | ⟨x, rfl, hl, hm, hz, hc, hw⟩
  · exact ⟨[], Row.nil, (fun _ h => nomatch h), Nat.le_refl _, Nat.zero_le _⟩
  · refine ⟨zs.take len, ⟨by simp; omega, fun h => ?_⟩, fun n hn => hw n (List.mem_of_mem_take hn), hl, Nat.le_trans hl hm⟩
    obtain ⟨b, off, rfl, hc'⟩ := ints_at hc (by omega)
    refine ⟨b, off, rfl, World.block_lt_of_cell? w ⟨b, off + 0, none⟩ (hc' 0 (by omega)), fun j hj => ?_⟩
    have e : (zs.take len).getD j 0 = zs.getD j 0 := by
      simp only [List.getD_eq_getElem?_getD, List.getElem?_take, if_pos hj]
    rw [e]
    exact hc' j (by omega)

section
variable {w : World} {g : Nat} {t : TypeId} {l : List Int} {rest : List Value} {q : IntKind}
end
end
section
open Go.ChangeShapes Go.WideShapes Go.RowKit Go.Deep
set_option maxRecDepth 20000
theorem Try.cells3 : Try.prog.cellsOf 3 = 1 := by kernel_rfl
theorem Try.cells23 : Try.prog.cellsOf 43 = 7 := by kernel_rfl
theorem Try.cells24 : Try.prog.cellsOf 75 = 1 := by kernel_rfl
theorem Try.cells25 : Try.prog.cellsOf 76 = 1 := by kernel_rfl
theorem Try.cells53 : Try.prog.cellsOf 130 = 4 := by kernel_rfl

section
variable {H : Type} {enc : TypeId × Value → H} {w : World} {base : Nat} {held : Bool} {fuel : Nat}
theorem int_came {c : Value} {y : Option (DataW H × List MemPlace)} {spare : Nat → Bool} (hy : y.isSome = true) (h : DataW.trod enc Try.prog w base spare held fuel 3 [c] = y) : ∃ z, c = .int .i64 z := by
  obtain ⟨x, rfl⟩ := Option.isSome_iff_exists.1 hy
  obtain ⟨z, hz, _⟩ := DataW.trod_int Try.underlying3 h
  simp at hz
  exact ⟨z, hz⟩
/-- Four integers that came in are a link. -/
theorem link_came {cs : List Value} {x : DataW H × List MemPlace} {spare : Nat → Bool} (h : DataW.trod enc Try.prog w base spare held fuel 130 cs = some x) :
    ∃ k : Lk, cs = [.int .i64 k.kind, .int .i64 k.id, .int .i64 k.data, .int .i64 k.cost] := by
  obtain ⟨xs, n, _, _, hcl, hlen, hg⟩ := DataW.trod_struct Try.underlying130 h
  rw [Try.cells53] at hcl
  have g0 : DataW.trod enc Try.prog w base spare held n 3 ((cs.drop 0).take (Try.prog.cellsOf 3)) = xs[0]? := hg 0 _ rfl
  have g1 : DataW.trod enc Try.prog w base spare held n 3 ((cs.drop 1).take (Try.prog.cellsOf 3)) = xs[1]? := hg 1 _ rfl
  have g2 : DataW.trod enc Try.prog w base spare held n 3 ((cs.drop 2).take (Try.prog.cellsOf 3)) = xs[2]? := hg 2 _ rfl
  have g3 : DataW.trod enc Try.prog w base spare held n 3 ((cs.drop 3).take (Try.prog.cellsOf 3)) = xs[3]? := hg 3 _ rfl
  rw [Try.cells3] at g0 g1 g2 g3
  match cs, hcl, xs, hlen with
  | [c0, c1, c2, c3], _, [y0, y1, y2, y3], _ =>
    obtain ⟨z0, rfl⟩ := int_came rfl g0
    obtain ⟨z1, rfl⟩ := int_came rfl g1
    obtain ⟨z2, rfl⟩ := int_came rfl g2
    obtain ⟨z3, rfl⟩ := int_came rfl g3
    exact ⟨⟨z0, z1, z2, z3⟩, rfl⟩
/-- A slice of links that came in. -/
theorem lnk_came {v : Value} {x : DataW H × List MemPlace} (h : DataW.trod enc Try.prog w base (fun _ => true) held fuel 75 [v] = some x) :
    ∃ A n c L, v = .slice A n c ∧ Lnk w w.heap.size A n L ∧ n ≤ c ∧ c ≤ maxLen := by
  rcases open_slice Try.underlying75 h with ⟨hcs, _⟩ | ⟨a, len, cap, m, n, D, Pl, hcs, _, hl, hm, hmm, _, hi⟩
  · simp at hcs
    subst hcs
    exact ⟨none, 0, 0, [], rfl, Lnk.nil, Nat.le_refl _, by unfold maxLen; omega⟩
  · simp at hcs
    subst hcs
    simp at hmm
    subst hmm
    rw [Try.cells53] at hi
    have hk : ∀ i, i < m → ∃ k : Lk, w.cell? (a.add (i * 4)) = some (.int .i64 k.kind) ∧ w.cell? ((a.add (i * 4)).add 1) = some (.int .i64 k.id) ∧ w.cell? ((a.add (i * 4)).add 2) = some (.int .i64 k.data) ∧ w.cell? ((a.add (i * 4)).add 3) = some (.int .i64 k.cost) := by
      intro i him
      obtain ⟨cs', hc, ht⟩ := hi i him
      obtain ⟨_, hcl, hat⟩ := World.cells?_some hc
      obtain ⟨k, rfl⟩ := link_came ht
      refine ⟨k, ?_, hat 1 (by omega), hat 2 (by omega), hat 3 (by omega)⟩
      have h0 := hat 0 (by omega)
      have e : (a.add (i * 4)).add 0 = a.add (i * 4) := by
        unfold Addr.add
        split <;> simp_all
      rw [e] at h0
      exact h0
    obtain ⟨F, hF⟩ : ∃ F : Nat → Lk, ∀ i, i < m → w.cell? (a.add (i * 4)) = some (.int .i64 (F i).kind) ∧ w.cell? ((a.add (i * 4)).add 1) = some (.int .i64 (F i).id) ∧ w.cell? ((a.add (i * 4)).add 2) = some (.int .i64 (F i).data) ∧ w.cell? ((a.add (i * 4)).add 3) = some (.int .i64 (F i).cost) := by
      refine ⟨fun i => if hi : i < m then Classical.choose (hk i hi) else ⟨0, 0, 0, 0⟩, fun i him => ?_⟩
      simp only [him, dif_pos]
      exact Classical.choose_spec (hk i him)
    refine ⟨some a, len, m, (List.range len).map F, rfl, ⟨by simp, fun hn => ?_⟩, hl, hm⟩
    obtain ⟨b, o, spot⟩ := a
    have hspot : spot = none := by simpa [Addr.add] using World.cell?_spot (hF 0 (by omega)).1
    subst hspot
    refine ⟨b, o, rfl, World.block_lt_of_cell? w _ (hF 0 (by omega)).1, fun j hj => ?_⟩
    have e : ((List.range len).map F).getD j ⟨0, 0, 0, 0⟩ = F j := by
      rw [List.getD_eq_getElem?_getD, List.getElem?_map, List.getElem?_range hj]; rfl
    rw [e]
    obtain ⟨h0, h1, h2, h3⟩ := hF j (by omega)
    simp only [addr_add] at h0 h1 h2 h3
    exact ⟨h0, h1, h2, h3⟩
/-- A slice of integers that came in. -/
theorem ints_came {v : Value} {x : DataW H × List MemPlace} (h : DataW.trod enc Try.prog w base (fun _ => true) held fuel 76 [v] = some x) :
    ∃ A n c M, v = .slice A n c ∧ Row .i64 w w.heap.size A n M ∧ n ≤ c ∧ c ≤ maxLen := by
  rcases open_ints Try.underlying76 Try.underlying3 Try.cells3 h with ⟨hcs, _⟩ | ⟨x', l, c, zs, hcs, _, hl, hm, hz, _, hcell, hwz⟩
  · simp at hcs
    subst hcs
    exact ⟨none, 0, 0, [], rfl, Row.nil, Nat.le_refl _, by unfold maxLen; omega⟩
  · simp at hcs
    subst hcs
    obtain ⟨M, h1, _, h3, _⟩ := row_of_is (k := .i64) (w := w) (a := some x') (len := l) (cap := c) (zs := zs) (.inr ⟨x', rfl, hl, hm, by simpa using hz, hcell, hwz⟩)
    exact ⟨some x', l, c, M, rfl, h1, hl, hm⟩
end
end
section
open Go.ChangeShapes Go.WideShapes Go.RowKit Go.Deep
set_option maxRecDepth 20000
section
variable {H : Type} {enc : TypeId × Value → H} {w : World} {base : Nat} {held : Bool} {fuel : Nat}
theorem int_cameB {c : Value} {y : Option (DataW H × List MemPlace)} {spare : Nat → Bool} (hy : y.isSome = true) (h : DataW.trod enc Try.prog w base spare held fuel 3 [c] = y) : ∃ z, c = .int .i64 z ∧ -9223372036854775808 ≤ z ∧ z ≤ 9223372036854775807 := by
  obtain ⟨x, rfl⟩ := Option.isSome_iff_exists.1 hy
  obtain ⟨z, hz, _, hw⟩ := DataW.trod_int Try.underlying3 h
  simp at hz
  have := bounds_i64 hw
  exact ⟨z, hz, by omega, by omega⟩
/-- A slice of structs that came in. -/
theorem arr_came {α : Type} {sz t te : Nat} {P : World → Nat → Nat → Nat → α → Prop} {v : Value} {x : DataW H × List MemPlace} (d0 : α) (ht : Try.prog.underlying t = some (.slice te)) (hsz : Try.prog.cellsOf te = sz) (hpos : 0 < sz)
    (hP : ∀ (n : Nat) (a : Addr) (cs : List Value) (y : DataW H × List MemPlace), (∀ i, i < sz → w.cell? (a.add i) = cs[i]?) → DataW.trod enc Try.prog w base (fun _ => true) held n te cs = some y → a.spot = none → ∃ k, P w w.heap.size a.block a.off k)
    (h : DataW.trod enc Try.prog w base (fun _ => true) held fuel t [v] = some x) :
    ∃ A n c L, v = .slice A n c ∧ Arr sz P w w.heap.size A n L ∧ n ≤ c ∧ c ≤ maxLen := by
  rcases open_slice ht h with ⟨hcs, _⟩ | ⟨a, len, cap, m, n, D, Pl, hcs, _, hl, hm, hmm, _, hi⟩
  · simp at hcs
    subst hcs
    exact ⟨none, 0, 0, [], rfl, Arr.nil, Nat.le_refl _, by unfold maxLen; omega⟩
  · simp at hcs
    subst hcs
    simp at hmm
    subst hmm
    rw [hsz] at hi
    have hk : ∀ i, i < m → (a.add (i * sz)).spot = none ∧ (a.add (i * sz)).block < w.heap.size ∧ ∃ k, P w w.heap.size (a.add (i * sz)).block (a.add (i * sz)).off k := by
      intro i him
      obtain ⟨cs', hc, htr⟩ := hi i him
      obtain ⟨_, hcl, hat⟩ := World.cells?_some hc
      have h0 := hat 0 hpos
      have e : (a.add (i * sz)).add 0 = a.add (i * sz) := by
        unfold Addr.add
        split <;> simp_all
      rw [e] at h0
      rw [List.getElem?_eq_getElem (by omega)] at h0
      have hsp := World.cell?_spot h0
      exact ⟨hsp, World.block_lt_of_cell? w _ h0, hP _ _ _ _ hat htr hsp⟩
    have hsp : 0 < m → a.spot = none := fun h0 => by simpa [Addr.add] using (hk 0 h0).1
    obtain ⟨F, hF⟩ : ∃ F : Nat → α, ∀ i, i < m → P w w.heap.size (a.add (i * sz)).block (a.add (i * sz)).off (F i) := by
      refine ⟨fun i => if hi : i < m then Classical.choose (hk i hi).2.2 else d0, fun i him => ?_⟩
      simp only [him, dif_pos]
      exact Classical.choose_spec (hk i him).2.2
    refine ⟨some a, len, m, (List.range len).map F, rfl, ⟨by simp, fun hn => ?_⟩, hl, hm⟩
    obtain ⟨b, o, spot⟩ := a
    have hspot : spot = none := hsp (by omega)
    subst hspot
    have hb := (hk 0 (by omega)).2.1
    simp only [addr_add] at hb hF
    refine ⟨b, o, rfl, hb, fun j y hy => ?_⟩
    rw [List.getElem?_map] at hy
    have hj : j < len := by
      rcases Nat.lt_or_ge j len with h | h
      · exact h
      · rw [List.getElem?_eq_none (by simpa using h)] at hy
        cases hy
    rw [List.getElem?_range hj] at hy
    obtain rfl : F j = y := by simpa using hy
    exact hF j (by omega)
end
end
section
open Go.ChangeShapes Go.WideShapes Go.RowKit Go.Deep
set_option maxRecDepth 20000
theorem Try.cellsLsa7 : Try.prog.cellsOf 78 = 9 := by kernel_rfl
section
variable {H : Type} {enc : TypeId × Value → H} {w : World} {base : Nat} {held : Bool} {fuel : Nat}
/-- Seven integers that came in are a head, with a key of 64 bits. -/
theorem head_cameB {cs : List Value} {x : DataW H × List MemPlace} {spare : Nat → Bool} (h : DataW.trod enc Try.prog w base spare held fuel 43 cs = some x) :
    ∃ h : Hd, cs = [.int .i64 h.age, .int .i64 h.kind, .int .i64 h.id, .int .i64 h.adv, .int .i64 h.seq, .int .i64 h.sum, .int .i64 h.long] ∧ wfKy (keyH h) := by
  obtain ⟨xs, n, _, _, hcl, hlen, hg⟩ := DataW.trod_struct Try.underlying43 h
  rw [Try.cells23] at hcl
  have g0 : DataW.trod enc Try.prog w base spare held n 3 ((cs.drop 0).take (Try.prog.cellsOf 3)) = xs[0]? := hg 0 _ rfl
  have g1 : DataW.trod enc Try.prog w base spare held n 3 ((cs.drop 1).take (Try.prog.cellsOf 3)) = xs[1]? := hg 1 _ rfl
  have g2 : DataW.trod enc Try.prog w base spare held n 3 ((cs.drop 2).take (Try.prog.cellsOf 3)) = xs[2]? := hg 2 _ rfl
  have g3 : DataW.trod enc Try.prog w base spare held n 3 ((cs.drop 3).take (Try.prog.cellsOf 3)) = xs[3]? := hg 3 _ rfl
  have g4 : DataW.trod enc Try.prog w base spare held n 3 ((cs.drop 4).take (Try.prog.cellsOf 3)) = xs[4]? := hg 4 _ rfl
  have g5 : DataW.trod enc Try.prog w base spare held n 3 ((cs.drop 5).take (Try.prog.cellsOf 3)) = xs[5]? := hg 5 _ rfl
  have g6 : DataW.trod enc Try.prog w base spare held n 3 ((cs.drop 6).take (Try.prog.cellsOf 3)) = xs[6]? := hg 6 _ rfl
  rw [Try.cells3] at g0 g1 g2 g3 g4 g5 g6
  match cs, hcl, xs, hlen with
  | [c0, c1, c2, c3, c4, c5, c6], _, [y0, y1, y2, y3, y4, y5, y6], _ =>
    obtain ⟨z0, rfl⟩ := int_came rfl g0
    obtain ⟨z1, rfl, b1, b1'⟩ := int_cameB rfl g1
    obtain ⟨z2, rfl, b2, b2'⟩ := int_cameB rfl g2
    obtain ⟨z3, rfl, b3, b3'⟩ := int_cameB rfl g3
    obtain ⟨z4, rfl⟩ := int_came rfl g4
    obtain ⟨z5, rfl⟩ := int_came rfl g5
    obtain ⟨z6, rfl⟩ := int_came rfl g6
    exact ⟨⟨z0, z1, z2, z3, z4, z5, z6⟩, rfl, ⟨b1, b1'⟩, ⟨b2, b2'⟩, b3, b3'⟩
theorem la_cameB {cs : List Value} {x : DataW H × List MemPlace} (h : DataW.trod enc Try.prog w base (fun _ => true) held fuel 78 cs = some x) :
    ∃ (h : Hd) (A A' : Option Addr) (n c n' c' : Nat) (L : List Lk) (M : List Int), cs = [.int .i64 h.age, .int .i64 h.kind, .int .i64 h.id, .int .i64 h.adv, .int .i64 h.seq, .int .i64 h.sum, .int .i64 h.long, .slice A n c, .slice A' n' c'] ∧
      Lnk w w.heap.size A n L ∧ n ≤ maxLen ∧ Row .i64 w w.heap.size A' n' M ∧ n' ≤ maxLen ∧ wfKy (keyH h) := by
  obtain ⟨xs, n, _, _, hcl, hlen, hg⟩ := DataW.trod_struct Try.underlying78 h
  rw [Try.cellsLsa7] at hcl
  have g0 : DataW.trod enc Try.prog w base (fun _ => true) held n 43 ((cs.drop 0).take (Try.prog.cellsOf 43)) = xs[0]? := hg 0 _ rfl
  have g1 : DataW.trod enc Try.prog w base (fun _ => true) held n 75 ((cs.drop 7).take (Try.prog.cellsOf 75)) = xs[1]? := hg 1 _ rfl
  have g2 : DataW.trod enc Try.prog w base (fun _ => true) held n 76 ((cs.drop 8).take (Try.prog.cellsOf 76)) = xs[2]? := hg 2 _ rfl
  rw [Try.cells23] at g0
  rw [Try.cells24] at g1
  rw [Try.cells25] at g2
  match cs, hcl, xs, hlen with
  | [c0, c1, c2, c3, c4, c5, c6, c7, c8], _, [y0, y1, y2], _ =>
    obtain ⟨hd, hh, hw⟩ := head_cameB g0
    obtain ⟨A, n1, e1, L, hL, h1, h2, h3⟩ := lnk_came (v := c7) g1
    obtain ⟨A', n2, e2, M, hM, h4, h5, h6⟩ := ints_came (v := c8) g2
    simp at hh
    obtain ⟨rfl, rfl, rfl, rfl, rfl, rfl, rfl⟩ := hh
    subst hL hM
    exact ⟨hd, A, A', n1, e1, n2, e2, L, M, rfl, h1, by omega, h4, by omega, hw⟩
end

end
section
open Go.ChangeShapes Go.WideShapes Go.RowKit Go.Deep
set_option maxRecDepth 20000
theorem Try.cellsHd13 : Try.prog.cellsOf 43 = 7 := by kernel_rfl
section
variable {H : Type} {enc : TypeId × Value → H} {w : World} {base : Nat} {held : Bool} {fuel : Nat}
theorem las_came {v : Value} {x : DataW H × List MemPlace} (h : DataW.trod enc Try.prog w base (fun _ => true) held fuel 22 [v] = some x) :
    ∃ A n c L, v = .slice A n c ∧ Las w w.heap.size A n L ∧ n ≤ c ∧ c ≤ maxLen := by
  refine arr_came (P := LaAt) ⟨⟨0, 0, 0, 0, 0, 0, 0⟩, [], []⟩ Try.underlying22 Try.cellsLsa7 (by omega) ?_ h
  intro n a cs y hat htr hsp
  obtain ⟨hd, A, A', n1, e1, n2, e2, L, M, rfl, h1, h2, h3, h4, hw⟩ := la_cameB htr
  obtain ⟨b, o, spot⟩ := a
  obtain rfl : spot = none := hsp
  simp only [addr_add] at hat
  exact ⟨⟨hd, L, M⟩, ⟨hat 0 (by omega), hat 1 (by omega), hat 2 (by omega), hat 3 (by omega), hat 4 (by omega), hat 5 (by omega), hat 6 (by omega)⟩, A, n1, e1, A', n2, e2, hat 7 (by omega), hat 8 (by omega), h1, h3, h2, h4⟩
/-- From place p of block b on there lies a head with a key of 64 bits. -/
def HdW (w : World) (B b p : Nat) (h : Hd) : Prop := HdAt w B b p h ∧ wfKy (keyH h)
theorem hds_came {v : Value} {x : DataW H × List MemPlace} (h : DataW.trod enc Try.prog w base (fun _ => true) held fuel 27 [v] = some x) :
    ∃ A n c L, v = .slice A n c ∧ Hds w w.heap.size A n L ∧ (∀ h ∈ L, wfKy (keyH h)) ∧ n ≤ c ∧ c ≤ maxLen := by
  obtain ⟨A, n, c, L, rfl, hA, hc, hm⟩ := arr_came (P := HdW) ⟨0, 0, 0, 0, 0, 0, 0⟩ Try.underlying27 Try.cellsHd13 (by omega) (fun n a cs y hat htr hsp => by
    obtain ⟨hd, rfl, hw⟩ := head_cameB htr
    obtain ⟨b, o, spot⟩ := a
    obtain rfl : spot = none := hsp
    simp only [addr_add] at hat
    exact ⟨hd, ⟨hat 0 (by omega), hat 1 (by omega), hat 2 (by omega), hat 3 (by omega), hat 4 (by omega), hat 5 (by omega), hat 6 (by omega)⟩, hw⟩) h
  refine ⟨A, n, c, L, rfl, ⟨hA.1, fun hn => by
    obtain ⟨b, o, e, hb, hat⟩ := hA.2 hn
    exact ⟨b, o, e, hb, fun j x hx => (hat j x hx).1⟩⟩, fun h hh => ?_, hc, hm⟩
  obtain ⟨j, hj⟩ := List.getElem?_of_mem hh
  have hjl := (List.getElem?_eq_some_iff.1 hj).1
  obtain ⟨b, o, e, hb, hat⟩ := hA.2 (by have := hA.1; omega)
  exact (hat j h hj).2
end
end
section
open Go.RowKit Go.Lib Go.Sort Go.Deep
section
variable {w : World} {F : Nat → Prop} {p : Nat} {x : Ex}
end
/-- Of no exchange. -/
theorem agreedN (w : World) : Calls Try.prog 39 #[.pointer none] w fun e w' => e = .returned (.bool false) ∧ w' = w := by
  go_enter Try.func39, Try.ntmps39
  go_wp2
  go_ret
  exact ⟨rfl, rfl⟩
theorem leadsN (w : World) : Calls Try.prog 36 #[.pointer none] w fun e w' => e = .returned (.bool false) ∧ w' = w := by
  go_enter Try.func36, Try.ntmps36
  go_wp2
  go_ret
  exact ⟨rfl, rfl⟩
theorem doneN (w : World) : Calls Try.prog 35 #[.pointer none] w fun e w' => e = .returned (.bool false) ∧ w' = w := by
  go_enter Try.func35, Try.ntmps35
  go_wp2
  go_ret
  exact ⟨rfl, rfl⟩
theorem seqN (w : World) : Calls Try.prog 40 #[.pointer none] w fun e w' => e = .returned (.int .i64 0) ∧ w' = w := by
  go_enter Try.func40, Try.ntmps40
  go_wp2
  go_ret
  exact ⟨rfl, rfl⟩
theorem sayN (w : World) : Calls Try.prog 37 #[.pointer none] w fun e w' => e = .returned (.tuple #[.agg #[.bool false, .bool false, .bool false, .int .i64 0, .slice none 0 0], .bool false]) ∧ Below w.heap.size w w' := by
  go_enter Try.func37, Try.ntmps37
  go_wp2
  refine bodyPost_ret (v := .tuple #[.agg #[.bool false, .bool false, .bool false, .int .i64 0, .slice none 0 0], .bool false]) (by simp [results, Try.results37, go_sem, *]) rfl ?_
  exact ⟨rfl, (Below.refl _ _).alloc (Nat.le_refl _) _⟩
theorem hearN (v1 v2 v3 v4 v5 : Value) (A : Option Addr) (n c : Nat) (w : World) : Calls Try.prog 30 #[.pointer none, .agg #[v1, v2, v3, v4, v5], .slice A n c] w fun e w' => e = .returned (.int .i64 0) ∧ Below w.heap.size w w' := by
  go_enter Try.func30, Try.ntmps30
  go_wp2
  go_ret
  exact ⟨rfl, (Below.refl _ _).alloc (Nat.le_refl _) _⟩
end
section
open Go.ChangeShapes Go.WideShapes Go.RowKit Go.Deep
set_option maxRecDepth 20000
theorem cellsDd14 : Try.prog.cellsOf 53 = 5 := by kernel_rfl
theorem cellsHds14 : Try.prog.cellsOf 27 = 1 := by kernel_rfl
theorem cellsB14 : Try.prog.cellsOf 4 = 1 := by kernel_rfl
theorem cellsI14 : Try.prog.cellsOf 3 = 1 := by kernel_rfl
theorem cells3_14 : Try.prog.cellsOf 46 = 3 := by kernel_rfl
theorem cells4_14 : Try.prog.cellsOf 58 = 4 := by kernel_rfl
theorem cells2_14 : Try.prog.cellsOf 59 = 2 := by kernel_rfl
theorem cellsLs14 : Try.prog.cellsOf 22 = 1 := by kernel_rfl
section
variable {H : Type} {enc : TypeId × Value → H} {w : World} {base : Nat} {held : Bool} {fuel : Nat}
theorem bool_came14 {c : Value} {y : Option (DataW H × List MemPlace)} {spare : Nat → Bool} (hy : y.isSome = true) (h : DataW.trod enc Try.prog w base spare held fuel 4 [c] = y) : ∃ z, c = .bool z := by
  obtain ⟨x, rfl⟩ := Option.isSome_iff_exists.1 hy
  obtain ⟨z, hz, _⟩ := DataW.trod_bool Try.underlying4 h
  simp at hz
  exact ⟨z, hz⟩
theorem dd_cameB {cs : List Value} {x : DataW H × List MemPlace} (h : DataW.trod enc Try.prog w base (fun _ => true) held fuel 53 cs = some x) :
    ∃ (p : Pc) (A : Option Addr) (n c : Nat), cs = [.bool p.init, .bool p.more, .bool p.master, .int .i64 p.seq, .slice A n c] ∧ -9223372036854775808 ≤ p.seq ∧ p.seq ≤ 9223372036854775807 ∧ n ≤ c ∧ c ≤ maxLen := by
  obtain ⟨xs, n, _, _, hcl, hlen, hg⟩ := DataW.trod_struct Try.underlying53 h
  rw [cellsDd14] at hcl
  have g0 : DataW.trod enc Try.prog w base (fun _ => true) held n 4 ((cs.drop 0).take (Try.prog.cellsOf 4)) = xs[0]? := hg 0 _ rfl
  have g1 : DataW.trod enc Try.prog w base (fun _ => true) held n 4 ((cs.drop 1).take (Try.prog.cellsOf 4)) = xs[1]? := hg 1 _ rfl
  have g2 : DataW.trod enc Try.prog w base (fun _ => true) held n 4 ((cs.drop 2).take (Try.prog.cellsOf 4)) = xs[2]? := hg 2 _ rfl
  have g3 : DataW.trod enc Try.prog w base (fun _ => true) held n 3 ((cs.drop 3).take (Try.prog.cellsOf 3)) = xs[3]? := hg 3 _ rfl
  have g4 : DataW.trod enc Try.prog w base (fun _ => true) held n 27 ((cs.drop 4).take (Try.prog.cellsOf 27)) = xs[4]? := hg 4 _ rfl
  rw [cellsB14] at g0 g1 g2
  rw [cellsI14] at g3
  rw [cellsHds14] at g4
  match cs, hcl, xs, hlen with
  | [c0, c1, c2, c3, c4], _, [y0, y1, y2, y3, y4], _ =>
    obtain ⟨z0, rfl⟩ := bool_came14 rfl g0
    obtain ⟨z1, rfl⟩ := bool_came14 rfl g1
    obtain ⟨z2, rfl⟩ := bool_came14 rfl g2
    obtain ⟨z3, rfl, h1, h2⟩ := int_cameB rfl g3
    obtain ⟨A, m, c, L, rfl, -, -, h4, h5⟩ := hds_came (v := c4) g4
    exact ⟨⟨z0, z1, z2, z3⟩, A, m, c, rfl, h1, h2, h4, h5⟩
theorem dd_is {v : Value} {d : DataW H} {p : List MemPlace} {r : Reach} {b0 : Nat} (hv : Value.okWide Try.prog w r b0 53 v) (h : DataW.Trod enc Try.prog w base (fun _ => true) held 53 v d p) :
    ∃ (p : Pc) (A : Option Addr) (n c : Nat), v = .agg #[.bool p.init, .bool p.more, .bool p.master, .int .i64 p.seq, .slice A n c] ∧ -9223372036854775808 ≤ p.seq ∧ p.seq ≤ 9223372036854775807 ∧ n ≤ c ∧ c ≤ maxLen := by
  obtain ⟨cs, rfl, hsz⟩ := okWide_struct Try.underlying53 hv
  obtain ⟨l⟩ := cs
  obtain ⟨fuel, hf⟩ := h
  obtain ⟨p, A, n, c, hh, hw⟩ := dd_cameB hf
  refine ⟨p, A, n, c, ?_, hw⟩
  simp [Value.cells] at hh
  rw [hh]
theorem dds_came {v : Value} {x : DataW H × List MemPlace} (h : DataW.trod enc Try.prog w base (fun _ => true) held fuel 47 [v] = some x) :
    ∃ A n c L, v = .slice A n c ∧ Dds w w.heap.size A n L ∧ n ≤ c ∧ c ≤ maxLen := by
  refine arr_came (P := DdW) (pc0, 0) Try.underlying47 cellsDd14 (by omega) ?_ h
  intro n a cs y hat htr hsp
  obtain ⟨p, A, m, c, rfl, h1⟩ := dd_cameB htr
  obtain ⟨b, o, spot⟩ := a
  obtain rfl : spot = none := hsp
  simp only [addr_add] at hat
  refine ⟨(p, m), A, c, fun j v hj => ?_, h1⟩
  have hj5 : j < 5 := (List.getElem?_eq_some_iff.1 hj).1
  exact (hat j hj5).trans hj
theorem bls_came {v : Value} {x : DataW H × List MemPlace} (h : DataW.trod enc Try.prog w base (fun _ => true) held fuel 60 [v] = some x) :
    ∃ A n c L, v = .slice A n c ∧ Bls w w.heap.size A n L ∧ n ≤ c ∧ c ≤ maxLen := by
  refine arr_came (P := fun w _ b p (z : Bool) => w.cell? ⟨b, p, none⟩ = some (.bool z)) false Try.underlying60 cellsB14 (by omega) ?_ h
  intro n a cs y hat htr hsp
  obtain ⟨z, hz, _⟩ := DataW.trod_bool Try.underlying4 htr
  subst hz
  obtain ⟨b, o, spot⟩ := a
  obtain rfl : spot = none := hsp
  simp only [addr_add] at hat
  exact ⟨z, hat 0 (by omega)⟩
theorem three_is {v : Value} {d : DataW H} {p : List MemPlace} {r : Reach} {b0 : Nat} {spare : Nat → Bool} (hv : Value.okWide Try.prog w r b0 46 v) (h : DataW.Trod enc Try.prog w base spare held 46 v d p) :
    ∃ a b c : Int, v = .agg #[.int .i64 a, .int .i64 b, .int .i64 c] := by
  obtain ⟨cs, rfl, _, _⟩ : ∃ cs, v = .agg cs ∧ cs.size = Try.prog.cellsOf 46 ∧ Row.okWide Try.prog w r b0 46 cs := by
    simpa [Value.okWide, Try.underlying46] using hv
  obtain ⟨l⟩ := cs
  obtain ⟨fuel, hf⟩ := h
  obtain ⟨xs, n, _, _, hcl, hlen, hg⟩ := DataW.trod_array Try.underlying46 hf
  rw [cells3_14] at hcl
  have g0 := hg 0 (by omega)
  have g1 := hg 1 (by omega)
  have g2 := hg 2 (by omega)
  rw [cellsI14] at g0 g1 g2
  simp only [Value.cells] at hcl g0 g1 g2
  match l, hcl, xs, hlen with
  | [c0, c1, c2], _, [y0, y1, y2], _ =>
    obtain ⟨z0, rfl, -, -⟩ := int_cameB rfl g0
    obtain ⟨z1, rfl, -, -⟩ := int_cameB rfl g1
    obtain ⟨z2, rfl, -, -⟩ := int_cameB rfl g2
    exact ⟨z0, z1, z2, rfl⟩
theorem four_is {v : Value} {d : DataW H} {p : List MemPlace} {r : Reach} {b0 : Nat} {spare : Nat → Bool} (hv : Value.okWide Try.prog w r b0 58 v) (h : DataW.Trod enc Try.prog w base spare held 58 v d p) :
    ∃ a b c e : Int, v = .agg #[.int .i64 a, .int .i64 b, .int .i64 c, .int .i64 e] := by
  obtain ⟨cs, rfl, _, _⟩ : ∃ cs, v = .agg cs ∧ cs.size = Try.prog.cellsOf 58 ∧ Row.okWide Try.prog w r b0 58 cs := by
    simpa [Value.okWide, Try.underlying58] using hv
  obtain ⟨l⟩ := cs
  obtain ⟨fuel, hf⟩ := h
  obtain ⟨xs, n, _, _, hcl, hlen, hg⟩ := DataW.trod_array Try.underlying58 hf
  rw [cells4_14] at hcl
  have g0 := hg 0 (by omega)
  have g1 := hg 1 (by omega)
  have g2 := hg 2 (by omega)
  have g3 := hg 3 (by omega)
  rw [cellsI14] at g0 g1 g2 g3
  simp only [Value.cells] at hcl g0 g1 g2 g3
  match l, hcl, xs, hlen with
  | [c0, c1, c2, c3], _, [y0, y1, y2, y3], _ =>
    obtain ⟨z0, rfl, -, -⟩ := int_cameB rfl g0
    obtain ⟨z1, rfl, -, -⟩ := int_cameB rfl g1
    obtain ⟨z2, rfl, -, -⟩ := int_cameB rfl g2
    obtain ⟨z3, rfl, -, -⟩ := int_cameB rfl g3
    exact ⟨z0, z1, z2, z3, rfl⟩
theorem both_is {v : Value} {d : DataW H} {p : List MemPlace} {r : Reach} {b0 : Nat} (hv : Value.okWide Try.prog w r b0 59 v) (h : DataW.Trod enc Try.prog w base (fun _ => true) held 59 v d p) :
    ∃ A n c S A' n' c' S', v = .agg #[.slice A n c, .slice A' n' c'] ∧ Las w w.heap.size A n S ∧ n ≤ maxLen ∧ Las w w.heap.size A' n' S' ∧ n' ≤ maxLen := by
  obtain ⟨cs, rfl, _, _⟩ : ∃ cs, v = .agg cs ∧ cs.size = Try.prog.cellsOf 59 ∧ Row.okWide Try.prog w r b0 59 cs := by
    simpa [Value.okWide, Try.underlying59] using hv
  obtain ⟨l⟩ := cs
  obtain ⟨fuel, hf⟩ := h
  obtain ⟨xs, n, _, _, hcl, hlen, hg⟩ := DataW.trod_array Try.underlying59 hf
  rw [cells2_14] at hcl
  have g0 := hg 0 (by omega)
  have g1 := hg 1 (by omega)
  rw [cellsLs14] at g0 g1
  simp only [Value.cells] at hcl g0 g1
  match l, hcl, xs, hlen with
  | [c0, c1], _, [y0, y1], _ =>
    obtain ⟨A, m, c, S, rfl, h1, h2, h3⟩ := las_came (v := c0) g0
    obtain ⟨A', m', c', S', rfl, h1', h2', h3'⟩ := las_came (v := c1) g1
    exact ⟨A, m, c, S, A', m', c', S', rfl, h1, by omega, h1', by omega⟩
end
end
end Go.Proofs.Ytfdfdmbnggpnbaa
