/- The program's Tick. Conditions: what the words say. · A head, and a description, that came in, opened. No conditions. · Integers with their bounds, and slices of structs, that came in. No conditions. · Acts that came in, and whether they are more than a statement takes. No conditions. · The walk of the statement DbActs, of any database that does what it must. Conditions: the slice reads as acts. -/
import Derived.Deep.Slices
import Derived.Deep.Fields
import Derived.OpenShut
import Derived.Test.YtjinleakjkbbgaaJai
import Derived.Test.YtjinleakjkbbgaaJaf
import Derived.Test.YtjinleakjkbbgaaJae
import Derived.Test.YtjinleakjkbbgaaJaa
import Derived.Test.YtjinleakjkbbgaaJag
import Derived.Test.YtjinleakjkbbgaaJah
namespace Go.Proofs.Ytjinleakjkbbgaa
open Go.RowKit

/-- How far a tick is: behind j keys. -/
def TickIs (w w1 wr : World) (lo b : Nat) (S : List La) (F : Nat → Prop) (j : Nat) : Prop :=
  ∃ (R : List Rc) (T : List La), MapIs wr b R ∧ All2 (RcIs w lo) R T ∧ T.Perm (tickUp S j) ∧ (∀ r ∈ R, ∀ q, rcFoot r q → F q) ∧ Chg (fun q => q = b) w1 wr
theorem TickIs.below {w w1 wr w2 : World} {lo b : Nat} {S : List La} {F : Nat → Prop} {j : Nat} (h : TickIs w w1 wr lo b S F j) (hb : Below wr.heap.size wr w2) : TickIs w w1 w2 lo b S F j := by
  obtain ⟨R, T, h1, h2, h3, h4, h5⟩ := h
  exact ⟨R, T, h1.below hb h1.lt, h2, h3, h4, h5.below hb⟩
/-- An append to the list of keys leaves it. -/
theorem TickIs.grown {w w1 w5 w6 : World} {lo b base m : Nat} {S : List La} {F : Nat → Prop} {j : Nat} {t : TypeId} {size : Nat} {v : Value} {xs : List Value} {o : Obj} (h : TickIs w w1 w5 lo b S F j) (ho : w5.ownsRow base t size v m xs) (hb : w1.heap.size ≤ base) (hg : (w5.alloc o).grownBy w6 v.ownBlock) : TickIs w w1 w6 lo b S F j := by
  obtain ⟨R, T, h1, h2, h3, h4, h5⟩ := h
  have hc : Chg (fun q => v.ownBlock = some q) w5 w6 := (Chg.of_below (F := fun q => v.ownBlock = some q) ((Below.refl w5.heap.size w5).alloc (Nat.le_refl _) o)).trans (Chg.of_grown hg (fun q hq => hq)) (fun q hq => .inl hq)
  exact ⟨R, T, h1.chg hc (own_ne_map h1 ho), h2, h3, h4, h5.trans hc (fun q hq => .inr (Nat.le_trans hb (ho.lt q hq).1))⟩
end Go.Proofs.Ytjinleakjkbbgaa
namespace Go.Proofs.Ytjinleakjkbbgaa
open Go.ChangeShapes Go.WideShapes Go.RowKit Go.Deep
set_option maxRecDepth 20000

theorem Try.cells3 : Try.prog.cellsOf 3 = 1 := by kernel_rfl
theorem Try.cells23 : Try.prog.cellsOf 58 = 7 := by kernel_rfl
theorem Try.cells24 : Try.prog.cellsOf 59 = 1 := by kernel_rfl
theorem Try.cells25 : Try.prog.cellsOf 60 = 1 := by kernel_rfl
theorem Try.cells53 : Try.prog.cellsOf 114 = 4 := by kernel_rfl

section
variable {H : Type} {enc : TypeId × Value → H} {w : World} {base : Nat} {held : Bool} {fuel : Nat}
theorem int_came {c : Value} {y : Option (DataW H × List MemPlace)} {spare : Nat → Bool} (hy : y.isSome = true) (h : DataW.trod enc Try.prog w base spare held fuel 3 [c] = y) : ∃ z, c = .int .i64 z := by
  obtain ⟨x, rfl⟩ := Option.isSome_iff_exists.1 hy
  obtain ⟨z, hz, _⟩ := DataW.trod_int Try.underlying3 h
  simp at hz
  exact ⟨z, hz⟩
/-- Four integers that came in are a link. -/
theorem link_came {cs : List Value} {x : DataW H × List MemPlace} {spare : Nat → Bool} (h : DataW.trod enc Try.prog w base spare held fuel 114 cs = some x) :
    ∃ k : Lk, cs = [.int .i64 k.kind, .int .i64 k.id, .int .i64 k.data, .int .i64 k.cost] := by
  obtain ⟨xs, n, _, _, hcl, hlen, hg⟩ := DataW.trod_struct Try.underlying114 h
  rw [Try.cells53] at hcl
  have g0 : DataW.trod enc Try.prog w base spare held n 3 ((cs.drop 0).take (Try.prog.cellsOf 3)) = xs[0]? := hg 0 _ rfl
  have g1 : DataW.trod enc Try.prog w base spare held n 3 ((cs.drop 1).take (Try.prog.cellsOf 3)) = xs[1]? := hg 1 _ rfl
  have g2 : DataW.trod enc Try.prog w base spare held n 3 ((cs.drop 2).take (Try.prog.cellsOf 3)) = xs[2]? := hg 2 _ rfl
  have g3 : DataW.trod enc Try.prog w base spare held n 3 ((cs.drop 3).take (Try.prog.cellsOf 3)) = xs[3]? := hg 3 _ rfl
  rw [Try.cells3] at g0 g1 g2 g3
  match cs, hcl, xs, hlen with
  | [c0, c1, c2, c3], _, [y0, y1, y2, y3], _ =>
    obtain ⟨z0, rfl⟩ := int_came rfl g0
    obtain ⟨z1, rfl⟩ := int_came rfl g1
    obtain ⟨z2, rfl⟩ := int_came rfl g2
    obtain ⟨z3, rfl⟩ := int_came rfl g3
    exact ⟨⟨z0, z1, z2, z3⟩, rfl⟩
/-- A slice of links that came in. -/
theorem lnk_came {v : Value} {x : DataW H × List MemPlace} (h : DataW.trod enc Try.prog w base (fun _ => true) held fuel 59 [v] = some x) :
    ∃ A n c L, v = .slice A n c ∧ Lnk w w.heap.size A n L ∧ n ≤ c ∧ c ≤ maxLen := by
  rcases open_slice Try.underlying59 h with ⟨hcs, _⟩ | ⟨a, len, cap, m, n, D, Pl, hcs, _, hl, hm, hmm, _, hi⟩
  · simp at hcs
    subst hcs
    exact ⟨none, 0, 0, [], rfl, Lnk.nil, Nat.le_refl _, by unfold maxLen; omega⟩
  · simp at hcs
    subst hcs
    simp at hmm
    subst hmm
    rw [Try.cells53] at hi
    have hk : ∀ i, i < m → ∃ k : Lk, w.cell? (a.add (i * 4)) = some (.int .i64 k.kind) ∧ w.cell? ((a.add (i * 4)).add 1) = some (.int .i64 k.id) ∧ w.cell? ((a.add (i * 4)).add 2) = some (.int .i64 k.data) ∧ w.cell? ((a.add (i * 4)).add 3) = some (.int .i64 k.cost) := by
      intro i him
      obtain ⟨cs', hc, ht⟩ := hi i him
      obtain ⟨_, hcl, hat⟩ := World.cells?_some hc
      obtain ⟨k, rfl⟩ := link_came ht
      refine ⟨k, ?_, hat 1 (by omega), hat 2 (by omega), hat 3 (by omega)⟩
      have h0 := hat 0 (by omega)
      have e : (a.add (i * 4)).add 0 = a.add (i * 4) := by
        unfold Addr.add
        split <;> simp_all
      rw [e] at h0
      exact h0
    obtain ⟨F, hF⟩ : ∃ F : Nat → Lk, ∀ i, i < m → w.cell? (a.add (i * 4)) = some (.int .i64 (F i).kind) ∧ w.cell? ((a.add (i * 4)).add 1) = some (.int .i64 (F i).id) ∧ w.cell? ((a.add (i * 4)).add 2) = some (.int .i64 (F i).data) ∧ w.cell? ((a.add (i * 4)).add 3) = some (.int .i64 (F i).cost) := by
      refine ⟨fun i => if hi : i < m then Classical.choose (hk i hi) else ⟨0, 0, 0, 0⟩, fun i him => ?_⟩
      simp only [him, dif_pos]
      exact Classical.choose_spec (hk i him)
    refine ⟨some a, len, m, (List.range len).map F, rfl, ⟨by simp, fun hn => ?_⟩, hl, hm⟩
    obtain ⟨b, o, spot⟩ := a
    have hspot : spot = none := by simpa [Addr.add] using World.cell?_spot (hF 0 (by omega)).1
    subst hspot
    refine ⟨b, o, rfl, World.block_lt_of_cell? w _ (hF 0 (by omega)).1, fun j hj => ?_⟩
    have e : ((List.range len).map F).getD j ⟨0, 0, 0, 0⟩ = F j := by
      rw [List.getD_eq_getElem?_getD, List.getElem?_map, List.getElem?_range hj]; rfl
    rw [e]
    obtain ⟨h0, h1, h2, h3⟩ := hF j (by omega)
    simp only [addr_add] at h0 h1 h2 h3
    exact ⟨h0, h1, h2, h3⟩
/-- A slice of integers that came in. -/
theorem ints_came {v : Value} {x : DataW H × List MemPlace} (h : DataW.trod enc Try.prog w base (fun _ => true) held fuel 60 [v] = some x) :
    ∃ A n c M, v = .slice A n c ∧ Row .i64 w w.heap.size A n M ∧ n ≤ c ∧ c ≤ maxLen := by
  rcases open_ints Try.underlying60 Try.underlying3 Try.cells3 h with ⟨hcs, _⟩ | ⟨x', l, c, zs, hcs, _, hl, hm, hz, _, hcell, hwz⟩
  · simp at hcs
    subst hcs
    exact ⟨none, 0, 0, [], rfl, Row.nil, Nat.le_refl _, by unfold maxLen; omega⟩
  · simp at hcs
    subst hcs
    obtain ⟨M, h1, _, h3, _⟩ := row_of_is (k := .i64) (w := w) (a := some x') (len := l) (cap := c) (zs := zs) (.inr ⟨x', rfl, hl, hm, by simpa using hz, hcell, hwz⟩)
    exact ⟨some x', l, c, M, rfl, h1, hl, hm⟩
end
end Go.Proofs.Ytjinleakjkbbgaa
namespace Go.Proofs.Ytjinleakjkbbgaa
open Go.ChangeShapes Go.WideShapes Go.RowKit Go.Deep
set_option maxRecDepth 20000

section
variable {H : Type} {enc : TypeId × Value → H} {w : World} {base : Nat} {held : Bool} {fuel : Nat}
theorem int_cameB {c : Value} {y : Option (DataW H × List MemPlace)} {spare : Nat → Bool} (hy : y.isSome = true) (h : DataW.trod enc Try.prog w base spare held fuel 3 [c] = y) : ∃ z, c = .int .i64 z ∧ -9223372036854775808 ≤ z ∧ z ≤ 9223372036854775807 := by
  obtain ⟨x, rfl⟩ := Option.isSome_iff_exists.1 hy
  obtain ⟨z, hz, _, hw⟩ := DataW.trod_int Try.underlying3 h
  simp at hz
  have := bounds_i64 hw
  exact ⟨z, hz, by omega, by omega⟩
/-- A slice of structs that came in. -/
theorem arr_came {α : Type} {sz t te : Nat} {P : World → Nat → Nat → Nat → α → Prop} {v : Value} {x : DataW H × List MemPlace} (d0 : α) (ht : Try.prog.underlying t = some (.slice te)) (hsz : Try.prog.cellsOf te = sz) (hpos : 0 < sz)
    (hP : ∀ (n : Nat) (a : Addr) (cs : List Value) (y : DataW H × List MemPlace), (∀ i, i < sz → w.cell? (a.add i) = cs[i]?) → DataW.trod enc Try.prog w base (fun _ => true) held n te cs = some y → a.spot = none → ∃ k, P w w.heap.size a.block a.off k)
    (h : DataW.trod enc Try.prog w base (fun _ => true) held fuel t [v] = some x) :
    ∃ A n c L, v = .slice A n c ∧ Arr sz P w w.heap.size A n L ∧ n ≤ c ∧ c ≤ maxLen := by
  rcases open_slice ht h with ⟨hcs, _⟩ | ⟨a, len, cap, m, n, D, Pl, hcs, _, hl, hm, hmm, _, hi⟩
  · simp at hcs
    subst hcs
    exact ⟨none, 0, 0, [], rfl, Arr.nil, Nat.le_refl _, by unfold maxLen; omega⟩
  · simp at hcs
    subst hcs
    simp at hmm
    subst hmm
    rw [hsz] at hi
    have hk : ∀ i, i < m → (a.add (i * sz)).spot = none ∧ (a.add (i * sz)).block < w.heap.size ∧ ∃ k, P w w.heap.size (a.add (i * sz)).block (a.add (i * sz)).off k := by
      intro i him
      obtain ⟨cs', hc, htr⟩ := hi i him
      obtain ⟨_, hcl, hat⟩ := World.cells?_some hc
      have h0 := hat 0 hpos
      have e : (a.add (i * sz)).add 0 = a.add (i * sz) := by
        unfold Addr.add
        split <;> simp_all
      rw [e] at h0
      rw [List.getElem?_eq_getElem (by omega)] at h0
      have hsp := World.cell?_spot h0
      exact ⟨hsp, World.block_lt_of_cell? w _ h0, hP _ _ _ _ hat htr hsp⟩
    have hsp : 0 < m → a.spot = none := fun h0 => by simpa [Addr.add] using (hk 0 h0).1
    obtain ⟨F, hF⟩ : ∃ F : Nat → α, ∀ i, i < m → P w w.heap.size (a.add (i * sz)).block (a.add (i * sz)).off (F i) := by
      refine ⟨fun i => if hi : i < m then Classical.choose (hk i hi).2.2 else d0, fun i him => ?_⟩
      simp only [him, dif_pos]
      exact Classical.choose_spec (hk i him).2.2
    refine ⟨some a, len, m, (List.range len).map F, rfl, ⟨by simp, fun hn => ?_⟩, hl, hm⟩
    obtain ⟨b, o, spot⟩ := a
    have hspot : spot = none := hsp (by omega)
    subst hspot
    have hb := (hk 0 (by omega)).2.1
    simp only [addr_add] at hb hF
    refine ⟨b, o, rfl, hb, fun j y hy => ?_⟩
    rw [List.getElem?_map] at hy
    have hj : j < len := by
      rcases Nat.lt_or_ge j len with h | h
      · exact h
      · rw [List.getElem?_eq_none (by simpa using h)] at hy
        cases hy
    rw [List.getElem?_range hj] at hy
    obtain rfl : F j = y := by simpa using hy
    exact hF j (by omega)
end
end Go.Proofs.Ytjinleakjkbbgaa
namespace Go.Proofs.Ytjinleakjkbbgaa
open Go.ChangeShapes Go.WideShapes Go.RowKit Go.Deep
set_option maxRecDepth 20000

/-- An act on a database. -/
structure Ac where
  kind : Int
  x : La
/-- From place p of block b on there lies an act. -/
def AcAt (w : World) (B b p : Nat) (a : Ac) : Prop :=
  wfKy (kyL a.x) ∧ ∃ (A : Option Addr) (n c : Nat) (A' : Option Addr) (n' c' : Nat), w.rangeAt b p [.int .i64 a.kind, .int .i64 a.x.h.age, .int .i64 a.x.h.kind, .int .i64 a.x.h.id, .int .i64 a.x.h.adv, .int .i64 a.x.h.seq, .int .i64 a.x.h.sum, .int .i64 a.x.h.long, .slice A n c, .slice A' n' c'] ∧ Lnk w B A n a.x.L ∧ Row .i64 w B A' n' a.x.M ∧ n ≤ maxLen ∧ n' ≤ maxLen
theorem range_move {w w' : World} {b p : Nat} {cs : List Value} (h : w.rangeAt b p cs) (hk : ∀ o, w'.cell? ⟨b, o, none⟩ = w.cell? ⟨b, o, none⟩) : w'.rangeAt b p cs := fun j v hj => (hk _).trans (h j v hj)
theorem AcAt.move {w w' : World} {B B' b p : Nat} {a : Ac} (hk : ∀ q : Addr, q.block < B → w'.cell? q = w.cell? q) (hB : B ≤ B') (hb : b < B) (h : AcAt w B b p a) : AcAt w' B' b p a := by
  obtain ⟨h0, A, n, c, A', n', c', h1, h2, h3, h4⟩ := h
  exact ⟨h0, A, n, c, A', n', c', range_move h1 (fun o => hk ⟨b, o, none⟩ hb), (h2.keep hk).more hB, (h3.keep hk).more hB, h4⟩
def Acs (w : World) (B : Nat) (A : Option Addr) (n : Nat) (L : List Ac) : Prop := Arr 10 AcAt w B A n L
theorem Acs.below {w w' : World} {B n : Nat} {A : Option Addr} {L : List Ac} (h : Acs w B A n L) (hb : Below B w w') : Acs w' B A n L := Arr.move (fun _ _ _ hlt h => AcAt.move (fun _ hp => hb.cell hp) (Nat.le_refl _) hlt h) (Nat.le_refl _) h

theorem Try.cellsLsa7 : Try.prog.cellsOf 62 = 9 := by kernel_rfl
section
variable {H : Type} {enc : TypeId × Value → H} {w : World} {base : Nat} {held : Bool} {fuel : Nat}
/-- Seven integers that came in are a head, with a key of 64 bits. -/
theorem head_cameB {cs : List Value} {x : DataW H × List MemPlace} {spare : Nat → Bool} (h : DataW.trod enc Try.prog w base spare held fuel 58 cs = some x) :
    ∃ h : Hd, cs = [.int .i64 h.age, .int .i64 h.kind, .int .i64 h.id, .int .i64 h.adv, .int .i64 h.seq, .int .i64 h.sum, .int .i64 h.long] ∧ wfKy (keyH h) := by
  obtain ⟨xs, n, _, _, hcl, hlen, hg⟩ := DataW.trod_struct Try.underlying58 h
  rw [Try.cells23] at hcl
  have g0 : DataW.trod enc Try.prog w base spare held n 3 ((cs.drop 0).take (Try.prog.cellsOf 3)) = xs[0]? := hg 0 _ rfl
  have g1 : DataW.trod enc Try.prog w base spare held n 3 ((cs.drop 1).take (Try.prog.cellsOf 3)) = xs[1]? := hg 1 _ rfl
  have g2 : DataW.trod enc Try.prog w base spare held n 3 ((cs.drop 2).take (Try.prog.cellsOf 3)) = xs[2]? := hg 2 _ rfl
  have g3 : DataW.trod enc Try.prog w base spare held n 3 ((cs.drop 3).take (Try.prog.cellsOf 3)) = xs[3]? := hg 3 _ rfl
  have g4 : DataW.trod enc Try.prog w base spare held n 3 ((cs.drop 4).take (Try.prog.cellsOf 3)) = xs[4]? := hg 4 _ rfl
  have g5 : DataW.trod enc Try.prog w base spare held n 3 ((cs.drop 5).take (Try.prog.cellsOf 3)) = xs[5]? := hg 5 _ rfl
  have g6 : DataW.trod enc Try.prog w base spare held n 3 ((cs.drop 6).take (Try.prog.cellsOf 3)) = xs[6]? := hg 6 _ rfl
  rw [Try.cells3] at g0 g1 g2 g3 g4 g5 g6
  match cs, hcl, xs, hlen with
  | [c0, c1, c2, c3, c4, c5, c6], _, [y0, y1, y2, y3, y4, y5, y6], _ =>
    obtain ⟨z0, rfl⟩ := int_came rfl g0
    obtain ⟨z1, rfl, b1, b1'⟩ := int_cameB rfl g1
    obtain ⟨z2, rfl, b2, b2'⟩ := int_cameB rfl g2
    obtain ⟨z3, rfl, b3, b3'⟩ := int_cameB rfl g3
    obtain ⟨z4, rfl⟩ := int_came rfl g4
    obtain ⟨z5, rfl⟩ := int_came rfl g5
    obtain ⟨z6, rfl⟩ := int_came rfl g6
    exact ⟨⟨z0, z1, z2, z3, z4, z5, z6⟩, rfl, ⟨b1, b1'⟩, ⟨b2, b2'⟩, b3, b3'⟩
theorem la_cameB {cs : List Value} {x : DataW H × List MemPlace} (h : DataW.trod enc Try.prog w base (fun _ => true) held fuel 62 cs = some x) :
    ∃ (h : Hd) (A A' : Option Addr) (n c n' c' : Nat) (L : List Lk) (M : List Int), cs = [.int .i64 h.age, .int .i64 h.kind, .int .i64 h.id, .int .i64 h.adv, .int .i64 h.seq, .int .i64 h.sum, .int .i64 h.long, .slice A n c, .slice A' n' c'] ∧
      Lnk w w.heap.size A n L ∧ n ≤ maxLen ∧ Row .i64 w w.heap.size A' n' M ∧ n' ≤ maxLen ∧ wfKy (keyH h) := by
  obtain ⟨xs, n, _, _, hcl, hlen, hg⟩ := DataW.trod_struct Try.underlying62 h
  rw [Try.cellsLsa7] at hcl
  have g0 : DataW.trod enc Try.prog w base (fun _ => true) held n 58 ((cs.drop 0).take (Try.prog.cellsOf 58)) = xs[0]? := hg 0 _ rfl
  have g1 : DataW.trod enc Try.prog w base (fun _ => true) held n 59 ((cs.drop 7).take (Try.prog.cellsOf 59)) = xs[1]? := hg 1 _ rfl
  have g2 : DataW.trod enc Try.prog w base (fun _ => true) held n 60 ((cs.drop 8).take (Try.prog.cellsOf 60)) = xs[2]? := hg 2 _ rfl
  rw [Try.cells23] at g0
  rw [Try.cells24] at g1
  rw [Try.cells25] at g2
  match cs, hcl, xs, hlen with
  | [c0, c1, c2, c3, c4, c5, c6, c7, c8], _, [y0, y1, y2], _ =>
    obtain ⟨hd, hh, hw⟩ := head_cameB g0
    obtain ⟨A, n1, e1, L, hL, h1, h2, h3⟩ := lnk_came (v := c7) g1
    obtain ⟨A', n2, e2, M, hM, h4, h5, h6⟩ := ints_came (v := c8) g2
    simp at hh
    obtain ⟨rfl, rfl, rfl, rfl, rfl, rfl, rfl⟩ := hh
    subst hL hM
    exact ⟨hd, A, A', n1, e1, n2, e2, L, M, rfl, h1, by omega, h4, by omega, hw⟩
end

end Go.Proofs.Ytjinleakjkbbgaa
namespace Go.Proofs.Ytjinleakjkbbgaa
open Go.RowKit

theorem la_range {w : World} {B b p : Nat} {h : Hd} {A A' : Option Addr} {n c n' c' : Nat} (hh : HdAt w B b p h) (h7 : w.cell? ⟨b, p + 7, none⟩ = some (.slice A n c)) (h8 : w.cell? ⟨b, p + 8, none⟩ = some (.slice A' n' c')) : w.rangeAt b p [.int .i64 h.age, .int .i64 h.kind, .int .i64 h.id, .int .i64 h.adv, .int .i64 h.seq, .int .i64 h.sum, .int .i64 h.long, .slice A n c, .slice A' n' c'] := by
  obtain ⟨h0, h1, h2, h3, h4, h5, h6⟩ := hh
  intro j v hj
  match j, hj with
  | 0, hj => cases hj; exact h0
  | 1, hj => cases hj; exact h1
  | 2, hj => cases hj; exact h2
  | 3, hj => cases hj; exact h3
  | 4, hj => cases hj; exact h4
  | 5, hj => cases hj; exact h5
  | 6, hj => cases hj; exact h6
  | 7, hj => cases hj; exact h7
  | 8, hj => cases hj; exact h8
theorem blk_range7 {w : World} {g : Nat} {t : TypeId} {cs : Array Value} (h : Blk w g t cs) : w.rangeAt g 0 cs.toList := fun j v hj => by
  have := h.cell j
  rw [Nat.zero_add, this]
  simpa using hj
end Go.Proofs.Ytjinleakjkbbgaa
