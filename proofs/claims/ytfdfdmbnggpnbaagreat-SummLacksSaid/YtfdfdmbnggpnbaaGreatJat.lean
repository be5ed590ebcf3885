/- Integers with their bounds, and slices of structs, that came in. No conditions. · Acts that came in, and whether they are more than a statement takes. No conditions. · The walk of the statement DbActs, of any database that does what it must. Conditions: the slice reads as acts. · A description that is gone; appends of one head, of one key; New. Conditions: what the words say; at most 100 descriptions. · Which of two heads is newer: the program's, and the reference's. Conditions: ages from 0 to 60. · A summary in memory; its piece, Piece, More, Step; a summary that is not there. Conditions: what the words say; at most 1000 heads. -/
import Derived.Deep.Slices
import Derived.Deep.Fields
import Derived.OpenShut
import Derived.WalkKit
import Derived.WalkLawsBesides
import Derived.Deep.QuietTactic
import Derived.BigQuiet
import Derived.Lib.Hide
import Derived.Deep.MidRow
import Derived.IntWalk
import Derived.Test.YtfdfdmbnggpnbaaGreatJas
import Derived.Test.YtfdfdmbnggpnbaaGreatJaj
import Derived.Test.YtfdfdmbnggpnbaaGreatJal
import Derived.Test.YtfdfdmbnggpnbaaGreatJao
namespace Go.Proofs.YtfdfdmbnggpnbaaGreat
open Go.ChangeShapes Go.WideShapes Go.RowKit Go.Deep
set_option maxRecDepth 20000

section
variable {H : Type} {enc : TypeId × Value → H} {w : World} {base : Nat} {held : Bool} {fuel : Nat}
theorem int_cameB {c : Value} {y : Option (DataW H × List MemPlace)} {spare : Nat → Bool} (hy : y.isSome = true) (h : DataW.trod enc Tryz.prog w base spare held fuel 3 [c] = y) : ∃ z, c = .int .i64 z ∧ -9223372036854775808 ≤ z ∧ z ≤ 9223372036854775807 := by
  obtain ⟨x, rfl⟩ := Option.isSome_iff_exists.1 hy
  obtain ⟨z, hz, _, hw⟩ := DataW.trod_int Tryz.underlying3 h
  simp at hz
  have := bounds_i64 hw
  exact ⟨z, hz, by omega, by omega⟩
/-- A slice of structs that came in. -/
theorem arr_came {α : Type} {sz t te : Nat} {P : World → Nat → Nat → Nat → α → Prop} {v : Value} {x : DataW H × List MemPlace} (d0 : α) (ht : Tryz.prog.underlying t = some (.slice te)) (hsz : Tryz.prog.cellsOf te = sz) (hpos : 0 < sz)
    (hP : ∀ (n : Nat) (a : Addr) (cs : List Value) (y : DataW H × List MemPlace), (∀ i, i < sz → w.cell? (a.add i) = cs[i]?) → DataW.trod enc Tryz.prog w base (fun _ => true) held n te cs = some y → a.spot = none → ∃ k, P w w.heap.size a.block a.off k)
    (h : DataW.trod enc Tryz.prog w base (fun _ => true) held fuel t [v] = some x) :
    ∃ A n c L, v = .slice A n c ∧ Arr sz P w w.heap.size A n L ∧ n ≤ c ∧ c ≤ maxLen := by
  rcases open_slice ht h with ⟨hcs, _⟩ | ⟨a, len, cap, m, n, D, Pl, hcs, _, hl, hm, hmm, _, hi⟩
  · simp at hcs
    subst hcs
    exact ⟨none, 0, 0, [], rfl, Arr.nil, Nat.le_refl _, by unfold maxLen; omega⟩
  · simp at hcs
    subst hcs
    simp at hmm
    subst hmm
    rw [hsz] at hi
    have hk : ∀ i, i < m → (a.add (i * sz)).spot = none ∧ (a.add (i * sz)).block < w.heap.size ∧ ∃ k, P w w.heap.size (a.add (i * sz)).block (a.add (i * sz)).off k := by
      intro i him
      obtain ⟨cs', hc, htr⟩ := hi i him
      obtain ⟨_, hcl, hat⟩ := World.cells?_some hc
      have h0 := hat 0 hpos
      have e : (a.add (i * sz)).add 0 = a.add (i * sz) := by
        unfold Addr.add
        split <;> simp_all
      rw [e] at h0
      rw [List.getElem?_eq_getElem (by omega)] at h0
      have hsp := World.cell?_spot h0
      exact ⟨hsp, World.block_lt_of_cell? w _ h0, hP _ _ _ _ hat htr hsp⟩
    have hsp : 0 < m → a.spot = none := fun h0 => by simpa [Addr.add] using (hk 0 h0).1
    obtain ⟨F, hF⟩ : ∃ F : Nat → α, ∀ i, i < m → P w w.heap.size (a.add (i * sz)).block (a.add (i * sz)).off (F i) := by
      refine ⟨fun i => if hi : i < m then Classical.choose (hk i hi).2.2 else d0, fun i him => ?_⟩
      simp only [him, dif_pos]
      exact Classical.choose_spec (hk i him).2.2
    refine ⟨some a, len, m, (List.range len).map F, rfl, ⟨by simp, fun hn => ?_⟩, hl, hm⟩
    obtain ⟨b, o, spot⟩ := a
    have hspot : spot = none := hsp (by omega)
    subst hspot
    have hb := (hk 0 (by omega)).2.1
    simp only [addr_add] at hb hF
    refine ⟨b, o, rfl, hb, fun j y hy => ?_⟩
    rw [List.getElem?_map] at hy
    have hj : j < len := by
      rcases Nat.lt_or_ge j len with h | h
      · exact h
      · rw [List.getElem?_eq_none (by simpa using h)] at hy
        cases hy
    rw [List.getElem?_range hj] at hy
    obtain rfl : F j = y := by simpa using hy
    exact hF j (by omega)
end
end Go.Proofs.YtfdfdmbnggpnbaaGreat
namespace Go.Proofs.YtfdfdmbnggpnbaaGreat
open Go.ChangeShapes Go.WideShapes Go.RowKit Go.Deep
set_option maxRecDepth 20000

/-- An act on a database. -/
structure Ac where
  kind : Int
  x : La
/-- From place p of block b on there lies an act. -/
def AcAt (w : World) (B b p : Nat) (a : Ac) : Prop :=
  wfKy (kyL a.x) ∧ ∃ (A : Option Addr) (n c : Nat) (A' : Option Addr) (n' c' : Nat), w.rangeAt b p [.int .i64 a.kind, .int .i64 a.x.h.age, .int .i64 a.x.h.kind, .int .i64 a.x.h.id, .int .i64 a.x.h.adv, .int .i64 a.x.h.seq, .int .i64 a.x.h.sum, .int .i64 a.x.h.long, .slice A n c, .slice A' n' c'] ∧ Lnk w B A n a.x.L ∧ Row .i64 w B A' n' a.x.M ∧ n ≤ maxLen ∧ n' ≤ maxLen
theorem range_move {w w' : World} {b p : Nat} {cs : List Value} (h : w.rangeAt b p cs) (hk : ∀ o, w'.cell? ⟨b, o, none⟩ = w.cell? ⟨b, o, none⟩) : w'.rangeAt b p cs := fun j v hj => (hk _).trans (h j v hj)
theorem AcAt.move {w w' : World} {B B' b p : Nat} {a : Ac} (hk : ∀ q : Addr, q.block < B → w'.cell? q = w.cell? q) (hB : B ≤ B') (hb : b < B) (h : AcAt w B b p a) : AcAt w' B' b p a := by
  obtain ⟨h0, A, n, c, A', n', c', h1, h2, h3, h4⟩ := h
  exact ⟨h0, A, n, c, A', n', c', range_move h1 (fun o => hk ⟨b, o, none⟩ hb), (h2.keep hk).more hB, (h3.keep hk).more hB, h4⟩
def Acs (w : World) (B : Nat) (A : Option Addr) (n : Nat) (L : List Ac) : Prop := Arr 10 AcAt w B A n L
theorem Acs.below {w w' : World} {B n : Nat} {A : Option Addr} {L : List Ac} (h : Acs w B A n L) (hb : Below B w w') : Acs w' B A n L := Arr.move (fun _ _ _ hlt h => AcAt.move (fun _ hp => hb.cell hp) (Nat.le_refl _) hlt h) (Nat.le_refl _) h

theorem Tryz.cellsLsa7 : Tryz.prog.cellsOf 44 = 9 := by kernel_rfl
section
variable {H : Type} {enc : TypeId × Value → H} {w : World} {base : Nat} {held : Bool} {fuel : Nat}
/-- Seven integers that came in are a head, with a key of 64 bits. -/
theorem head_cameB {cs : List Value} {x : DataW H × List MemPlace} {spare : Nat → Bool} (h : DataW.trod enc Tryz.prog w base spare held fuel 40 cs = some x) :
    ∃ h : Hd, cs = [.int .i64 h.age, .int .i64 h.kind, .int .i64 h.id, .int .i64 h.adv, .int .i64 h.seq, .int .i64 h.sum, .int .i64 h.long] ∧ wfKy (keyH h) := by
  obtain ⟨xs, n, _, _, hcl, hlen, hg⟩ := DataW.trod_struct Tryz.underlying40 h
  rw [Tryz.cells23] at hcl
  have g0 : DataW.trod enc Tryz.prog w base spare held n 3 ((cs.drop 0).take (Tryz.prog.cellsOf 3)) = xs[0]? := hg 0 _ rfl
  have g1 : DataW.trod enc Tryz.prog w base spare held n 3 ((cs.drop 1).take (Tryz.prog.cellsOf 3)) = xs[1]? := hg 1 _ rfl
  have g2 : DataW.trod enc Tryz.prog w base spare held n 3 ((cs.drop 2).take (Tryz.prog.cellsOf 3)) = xs[2]? := hg 2 _ rfl
  have g3 : DataW.trod enc Tryz.prog w base spare held n 3 ((cs.drop 3).take (Tryz.prog.cellsOf 3)) = xs[3]? := hg 3 _ rfl
  have g4 : DataW.trod enc Tryz.prog w base spare held n 3 ((cs.drop 4).take (Tryz.prog.cellsOf 3)) = xs[4]? := hg 4 _ rfl
  have g5 : DataW.trod enc Tryz.prog w base spare held n 3 ((cs.drop 5).take (Tryz.prog.cellsOf 3)) = xs[5]? := hg 5 _ rfl
  have g6 : DataW.trod enc Tryz.prog w base spare held n 3 ((cs.drop 6).take (Tryz.prog.cellsOf 3)) = xs[6]? := hg 6 _ rfl
  rw [Tryz.cells3] at g0 g1 g2 g3 g4 g5 g6
  match cs, hcl, xs, hlen with
  | [c0, c1, c2, c3, c4, c5, c6], _, [y0, y1, y2, y3, y4, y5, y6], _ =>
    obtain ⟨z0, rfl⟩ := int_came rfl g0
    obtain ⟨z1, rfl, b1, b1'⟩ := int_cameB rfl g1
    obtain ⟨z2, rfl, b2, b2'⟩ := int_cameB rfl g2
    obtain ⟨z3, rfl, b3, b3'⟩ := int_cameB rfl g3
    obtain ⟨z4, rfl⟩ := int_came rfl g4
    obtain ⟨z5, rfl⟩ := int_came rfl g5
    obtain ⟨z6, rfl⟩ := int_came rfl g6
    exact ⟨⟨z0, z1, z2, z3, z4, z5, z6⟩, rfl, ⟨b1, b1'⟩, ⟨b2, b2'⟩, b3, b3'⟩
theorem la_cameB {cs : List Value} {x : DataW H × List MemPlace} (h : DataW.trod enc Tryz.prog w base (fun _ => true) held fuel 44 cs = some x) :
    ∃ (h : Hd) (A A' : Option Addr) (n c n' c' : Nat) (L : List Lk) (M : List Int), cs = [.int .i64 h.age, .int .i64 h.kind, .int .i64 h.id, .int .i64 h.adv, .int .i64 h.seq, .int .i64 h.sum, .int .i64 h.long, .slice A n c, .slice A' n' c'] ∧
      Lnk w w.heap.size A n L ∧ n ≤ maxLen ∧ Row .i64 w w.heap.size A' n' M ∧ n' ≤ maxLen ∧ wfKy (keyH h) := by
  obtain ⟨xs, n, _, _, hcl, hlen, hg⟩ := DataW.trod_struct Tryz.underlying44 h
  rw [Tryz.cellsLsa7] at hcl
  have g0 : DataW.trod enc Tryz.prog w base (fun _ => true) held n 40 ((cs.drop 0).take (Tryz.prog.cellsOf 40)) = xs[0]? := hg 0 _ rfl
  have g1 : DataW.trod enc Tryz.prog w base (fun _ => true) held n 41 ((cs.drop 7).take (Tryz.prog.cellsOf 41)) = xs[1]? := hg 1 _ rfl
  have g2 : DataW.trod enc Tryz.prog w base (fun _ => true) held n 42 ((cs.drop 8).take (Tryz.prog.cellsOf 42)) = xs[2]? := hg 2 _ rfl
  rw [Tryz.cells23] at g0
  rw [Tryz.cells24] at g1
  rw [Tryz.cells25] at g2
  match cs, hcl, xs, hlen with
  | [c0, c1, c2, c3, c4, c5, c6, c7, c8], _, [y0, y1, y2], _ =>
    obtain ⟨hd, hh, hw⟩ := head_cameB g0
    obtain ⟨A, n1, e1, L, hL, h1, h2, h3⟩ := lnk_came (v := c7) g1
    obtain ⟨A', n2, e2, M, hM, h4, h5, h6⟩ := ints_came (v := c8) g2
    simp at hh
    obtain ⟨rfl, rfl, rfl, rfl, rfl, rfl, rfl⟩ := hh
    subst hL hM
    exact ⟨hd, A, A', n1, e1, n2, e2, L, M, rfl, h1, by omega, h4, by omega, hw⟩
end

end Go.Proofs.YtfdfdmbnggpnbaaGreat
namespace Go.Proofs.YtfdfdmbnggpnbaaGreat
open Go.RowKit

theorem RefDb.low {w : World} {lo lo' g : Nat} {room : Int} {S : List La} {F : Nat → Prop} (h : RefDb w lo g room S F) (hl : lo' ≤ lo) : RefDb w lo' g room S F := by
  obtain ⟨A, n, c, R, hB, hlo, hO, hA, h1, h2, h3, h4, hF⟩ := h
  exact ⟨A, n, c, R, hB, by omega, own_low hO hl, all2_imp hA (fun r _ x hx => hx.mono hl), h1, h2, h3, h4, hF⟩
theorem RefDb.sort {w : World} {lo g : Nat} {room : Int} {S : List La} {F : Nat → Prop} (h : RefDb w lo g room S F) : SortL S := by
  obtain ⟨A, n, c, R, hB, hlo, hO, hA, h1, h2, h3, h4, hF⟩ := h
  exact h1
theorem RefDb.right {w : World} {lo g : Nat} {room : Int} {S : List La} {F : Nat → Prop} (h : RefDb w lo g room S F) : ∀ x ∈ S, rightB x.h x.L x.M = true := by
  obtain ⟨A, n, c, R, hB, hlo, hO, hA, h1, h2, h3, h4, hF⟩ := h
  exact h4
theorem la_range {w : World} {B b p : Nat} {h : Hd} {A A' : Option Addr} {n c n' c' : Nat} (hh : HdAt w B b p h) (h7 : w.cell? ⟨b, p + 7, none⟩ = some (.slice A n c)) (h8 : w.cell? ⟨b, p + 8, none⟩ = some (.slice A' n' c')) : w.rangeAt b p [.int .i64 h.age, .int .i64 h.kind, .int .i64 h.id, .int .i64 h.adv, .int .i64 h.seq, .int .i64 h.sum, .int .i64 h.long, .slice A n c, .slice A' n' c'] := by
  obtain ⟨h0, h1, h2, h3, h4, h5, h6⟩ := hh
  intro j v hj
  match j, hj with
  | 0, hj => cases hj; exact h0
  | 1, hj => cases hj; exact h1
  | 2, hj => cases hj; exact h2
  | 3, hj => cases hj; exact h3
  | 4, hj => cases hj; exact h4
  | 5, hj => cases hj; exact h5
  | 6, hj => cases hj; exact h6
  | 7, hj => cases hj; exact h7
  | 8, hj => cases hj; exact h8
theorem blk_range7 {w : World} {g : Nat} {t : TypeId} {cs : Array Value} (h : Blk w g t cs) : w.rangeAt g 0 cs.toList := fun j v hj => by
  have := h.cell j
  rw [Nat.zero_add, this]
  simpa using hj
end Go.Proofs.YtfdfdmbnggpnbaaGreat
namespace Go.Proofs.YtfdfdmbnggpnbaaGreat
open Go.RowKit Go.Lib Go.Sort

/-- Is a description of the greatest age? -/
def goneB (x : La) : Bool := x.h.age == 60
/-- The heads that are told, in the order in which they came. -/
def toldL (S : List La) : List Hd := (S.filter fun x => !goneB x).map La.h
/-- The keys of those that are gone, in the order in which they came. -/
def goneK (S : List La) : List Ky := (S.filter goneB).map kyL
theorem toldL_snoc (S : List La) (x : La) : toldL (S ++ [x]) = if goneB x = true then toldL S else toldL S ++ [x.h] := by
  unfold toldL
  rw [List.filter_append, List.map_append]
  cases h : goneB x <;> simp [h]
theorem goneK_snoc (S : List La) (x : La) : goneK (S ++ [x]) = if goneB x = true then goneK S ++ [kyL x] else goneK S := by
  unfold goneK
  rw [List.filter_append, List.map_append]
  cases h : goneB x <;> simp [h]
theorem infoHd : (Tryz.prog.info? 40).map (fun i => (i.zero, i.size, i.bytes)) = some (some (.agg #[.int .i64 0, .int .i64 0, .int .i64 0, .int .i64 0, .int .i64 0, .int .i64 0, .int .i64 0]), 7, 56) := by kernel_rfl
theorem infoKy : (Tryz.prog.info? 48).map (fun i => (i.zero, i.size, i.bytes)) = some (some (.agg #[.int .i64 0, .int .i64 0, .int .i64 0]), 3, 24) := by kernel_rfl
theorem HdAt.range {w : World} {B b p : Nat} {h : Hd} (hh : HdAt w B b p h) : w.rangeAt b p (encHd h) := by
  obtain ⟨h0, h1, h2, h3, h4, h5, h6⟩ := hh
  intro j v hj
  match j, hj with
  | 0, hj => cases hj; exact h0
  | 1, hj => cases hj; exact h1
  | 2, hj => cases hj; exact h2
  | 3, hj => cases hj; exact h3
  | 4, hj => cases hj; exact h4
  | 5, hj => cases hj; exact h5
  | 6, hj => cases hj; exact h6
theorem wpList_app_hd {wb : World} {ops : Array Oper} {rest : List Oper} {o : Oper} {a : Act} {Q : Exit → Act → World → Prop} (hgd : o.guard = none) (s x : Operand) (ho : o.op = .call { callee := .builtin .append, args := #[s, x], argTypes := #[23, 23] })
    {base n c : Nat} {A : Option Addr} {L : List Hd} (y : Hd) (hs : a.eval s = .slice A n c) (hx : a.eval x = .slice (some ⟨wb.heap.size, 0, none⟩) 1 1) (hown : wb.ownsRow base 40 7 (.slice A n c) n (cellsBy encHd L)) (hn : n ≤ 1000) (hbase : base ≤ wb.heap.size)
    (h : ∀ A' c' w', Hid (w'.ownsRow base 40 7 (.slice A' (n + 1) c') (n + 1) (cellsBy encHd (L ++ [y]))) → Hid (Below base wb w') → wpList Tryz.prog ops Q rest (a.put o.dst (.slice A' (n + 1) c')) w') : wpList Tryz.prog ops Q (o :: rest) a (wb.alloc (.cells #[.int .i64 y.age, .int .i64 y.kind, .int .i64 y.id, .int .i64 y.adv, .int .i64 y.seq, .int .i64 y.sum, .int .i64 y.long] 40)) := by
  refine wpList_append_any hgd s x 23 40 (.agg #[.int .i64 0, .int .i64 0, .int .i64 0, .int .i64 0, .int .i64 0, .int .i64 0, .int .i64 0]) 7 56 Tryz.underlying23 infoHd rfl (by decide) (by decide) ho base (.slice A n c) n (cellsBy encHd L) hs (hown.alloc _) (some ⟨wb.heap.size, 0, none⟩) 1 1 (encHd y) hx rfl (fun h => by cases h) (news_new wb 40 (encHd y)) (encHd_ones y) (by omega) (by simp; omega) ?_
  intro v2 w2 ho2 hg2
  obtain ⟨A2, c2, rfl⟩ := own_slice ho2.out
  refine h A2 c2 w2 (Lib.hid (by rw [by_append, by_one]; exact ho2.out)) (Lib.hid ?_)
  exact ((Below.refl base wb).alloc hbase _).trans (own_keeps7 (hown.alloc _) hg2.out (by simp; omega))
theorem wpList_app_ky {wb : World} {ops : Array Oper} {rest : List Oper} {o : Oper} {a : Act} {Q : Exit → Act → World → Prop} (hgd : o.guard = none) (s x : Operand) (ho : o.op = .call { callee := .builtin .append, args := #[s, x], argTypes := #[53, 53] })
    {base n c : Nat} {A : Option Addr} {L : List Ky} (y : Ky) (hs : a.eval s = .slice A n c) (hx : a.eval x = .slice (some ⟨wb.heap.size, 0, none⟩) 1 1) (hown : wb.ownsRow base 48 3 (.slice A n c) n (kyCells L)) (hn : n ≤ 1000) (hbase : base ≤ wb.heap.size)
    (h : ∀ A' c' w', Hid (w'.ownsRow base 48 3 (.slice A' (n + 1) c') (n + 1) (kyCells (L ++ [y]))) → Hid (Below base wb w') → wpList Tryz.prog ops Q rest (a.put o.dst (.slice A' (n + 1) c')) w') : wpList Tryz.prog ops Q (o :: rest) a (wb.alloc (.cells #[.int .i64 y.kind, .int .i64 y.id, .int .i64 y.adv] 48)) := by
  refine wpList_append_any hgd s x 53 48 (.agg #[.int .i64 0, .int .i64 0, .int .i64 0]) 3 24 Tryz.underlying53 infoKy rfl (by decide) (by decide) ho base (.slice A n c) n (kyCells L) hs (hown.alloc _) (some ⟨wb.heap.size, 0, none⟩) 1 1 [.int .i64 y.kind, .int .i64 y.id, .int .i64 y.adv] hx rfl (fun h => by cases h) (news_new wb 48 [.int .i64 y.kind, .int .i64 y.id, .int .i64 y.adv]) (fun u hu => kyCells_ones [y] u (by simpa [kyCells] using hu)) (by omega) (by simp; omega) ?_
  intro v2 w2 ho2 hg2
  obtain ⟨A2, c2, rfl⟩ := own_slice ho2.out
  refine h A2 c2 w2 (Lib.hid ?_) (Lib.hid ?_)
  · rw [kyCells_append, show kyCells [y] = [.int .i64 y.kind, .int .i64 y.id, .int .i64 y.adv] by simp [kyCells]]
    exact ho2.out
  · exact ((Below.refl base wb).alloc hbase _).trans (own_keeps7 (hown.alloc _) hg2.out (by simp; omega))

set_option maxRecDepth 8000 in
set_option maxHeartbeats 2000000 in
theorem gone_any (x : La) (A A' : Option Addr) (n c n' c' : Nat) (w : World) : Calls Tryz.prog 29 #[.agg #[.int .i64 x.h.age, .int .i64 x.h.kind, .int .i64 x.h.id, .int .i64 x.h.adv, .int .i64 x.h.seq, .int .i64 x.h.sum, .int .i64 x.h.long, .slice A n c, .slice A' n' c']] w fun e w' => e = .returned (.bool (goneB x)) ∧ Below w.heap.size w w' := by
  have B0 := Lib.hid ((Below.refl w.heap.size w).alloc (Nat.le_refl _) (.cells #[.int .i64 x.h.age, .int .i64 x.h.kind, .int .i64 x.h.id, .int .i64 x.h.adv, .int .i64 x.h.seq, .int .i64 x.h.sum, .int .i64 x.h.long, .slice A n c, .slice A' n' c'] 44))
  have K0 := Lib.hid (Blk.new w 44 #[.int .i64 x.h.age, .int .i64 x.h.kind, .int .i64 x.h.id, .int .i64 x.h.adv, .int .i64 x.h.seq, .int .i64 x.h.sum, .int .i64 x.h.long, .slice A n c, .slice A' n' c'])
  obtain ⟨o0, o1, o2, o3, o4, o5, o6, o7, o8⟩ := K0.out.nine
  go_enter Tryz.func29, Tryz.ntmps29
  go_wp2
  go_ret
  exact ⟨rfl, B0.out⟩
/-- A summary, new. -/
theorem las_item {w : World} {B n k : Nat} {A : Option Addr} {S : List La} (h : Las w B A n S) (hk : k < n) : ∃ (b o : Nat) (x : La) (A1 : Option Addr) (n1 c1 : Nat) (A2 : Option Addr) (n2 c2 : Nat), A = some ⟨b, o, none⟩ ∧ b < B ∧ S[k]? = some x ∧
    w.rangeAt b (o + k * 9) [.int .i64 x.h.age, .int .i64 x.h.kind, .int .i64 x.h.id, .int .i64 x.h.adv, .int .i64 x.h.seq, .int .i64 x.h.sum, .int .i64 x.h.long, .slice A1 n1 c1, .slice A2 n2 c2] ∧ Lnk w B A1 n1 x.L ∧ Row .i64 w B A2 n2 x.M ∧ n1 ≤ maxLen ∧ n2 ≤ maxLen := by
  obtain ⟨b, o, x, rfl, hb, hx, hh, A1, n1, c1, A2, n2, c2, h7, h8, h9, h10, h11, h12⟩ := Arr.at h hk
  exact ⟨b, o, x, A1, n1, c1, A2, n2, c2, rfl, hb, hx, la_range hh h7 h8, h9, h10, h11, h12⟩
theorem head_range {w : World} {g : Nat} {t : TypeId} {x : La} {A A' : Option Addr} {n c n' c' : Nat} (h : Blk w g t #[.int .i64 x.h.age, .int .i64 x.h.kind, .int .i64 x.h.id, .int .i64 x.h.adv, .int .i64 x.h.seq, .int .i64 x.h.sum, .int .i64 x.h.long, .slice A n c, .slice A' n' c']) : w.rangeAt g 0 (encHd x.h) := by
  obtain ⟨h0, h1, h2, h3, h4, h5, h6, -, -⟩ := h.nine
  exact HdAt.range (B := 0) ⟨h0, h1, h2, h3, h4, h5, h6⟩
/-- What New leaves: a summary's block, and its row of heads. -/
def NewQ (S : List La) (w : World) (e : Ending) (w' : World) : Prop :=
  ∃ (p : Nat) (A : Option Addr) (n c : Nat) (K : List Hd), e = .returned (.pointer (some ⟨p, 0, none⟩)) ∧ Below w.heap.size w w' ∧ w.heap.size ≤ p ∧ Blk w' p 69 #[.slice A n c] ∧ w'.ownsRow w.heap.size 40 7 (.slice A n c) n (cellsBy encHd K) ∧ Ord lessH K ∧ Stab lessH (toldL S) K
set_option maxRecDepth 8000 in
set_option maxHeartbeats 4000000 in
theorem new_any {w : World} {A : Option Addr} {n c : Nat} {S : List La} {B : Nat} (hS : Las w B A n S) (hB : B ≤ w.heap.size) (hn : n ≤ 100) : Calls Tryz.prog 12 #[.slice A n c] w (NewQ S w) := by
  generalize hQ : NewQ S w = Q
  have HQ := Lib.hid hQ
  have HS := Lib.hid hS
  have O0 := Lib.hid (World.ownsRow_nil w w.heap.size 40 7)
  have B0 := Lib.hid (Below.refl w.heap.size w)
  clear hQ hS
  go_enter Tryz.func12, Tryz.ntmps12
  go_wp2_with fail
  go_loopw [3, 8] (fun s3 s8 wr => ∃ (k m c' : Nat) (A' : Option Addr), s8 = .int .i64 k ∧ s3 = .slice A' m c' ∧ k ≤ n ∧ m ≤ k ∧ Hid (wr.ownsRow w.heap.size 40 7 (.slice A' m c') m (cellsBy encHd (toldL (S.take k)))) ∧ Hid (Below w.heap.size w wr)) (fun _ s8 _ => n - (intOf s8).toNat)
  case atStart => exact ⟨0, 0, 0, none, rfl, rfl, Nat.zero_le _, Nat.le_refl _, Lib.hid (by simpa [toldL, cellsBy] using O0.out), B0⟩
  case round =>
    clear O0 B0
    obtain ⟨k, m, c', A', rfl, rfl, hk, hmk, OW, BW⟩ := hrel
    by_cases hlt : k < n
    · have hlt' : (k : Int) < (n : Int) := by omega
      obtain ⟨b, o, x, A1, n1, c1, A2, n2, c2, rfl, hb, hx, hr, -, -, -, -⟩ := las_item (HS.out.below (BW.out.mono hB)) hlt
      have HR := Lib.hid hr
      have HX := Lib.hid hx
      have hz := BW.out.size
      have BX := Lib.hid (BW.out.alloc hz (.cells #[.int .i64 x.h.age, .int .i64 x.h.kind, .int .i64 x.h.id, .int .i64 x.h.adv, .int .i64 x.h.seq, .int .i64 x.h.sum, .int .i64 x.h.long, .slice A1 n1 c1, .slice A2 n2 c2] 44))
      have KX := Lib.hid (Blk.new wr 44 #[.int .i64 x.h.age, .int .i64 x.h.kind, .int .i64 x.h.id, .int .i64 x.h.adv, .int .i64 x.h.seq, .int .i64 x.h.sum, .int .i64 x.h.long, .slice A1 n1 c1, .slice A2 n2 c2])
      have OX := Lib.hid (OW.out.alloc (.cells #[.int .i64 x.h.age, .int .i64 x.h.kind, .int .i64 x.h.id, .int .i64 x.h.adv, .int .i64 x.h.seq, .int .i64 x.h.sum, .int .i64 x.h.long, .slice A1 n1 c1, .slice A2 n2 c2] 44))
      have RX := Lib.hid (blk_range7 KX.out)
      clear hr hx OW BW
      go_wp2_with (first | refine wpList_load_row 44 _ _ (by rfl) (.tmp 10) rfl (by rfl) HR.out Tryz.underlying44 rfl (by kernel_rfl) ?_ | (refine wpList_load_row 44 _ _ (by rfl) (.tmp 5) rfl (by rfl) RX.out Tryz.underlying44 rfl (by kernel_rfl) ?_))
      refine (gone_any x A1 A2 n1 c1 n2 c2 _).mono ?_
      rintro e1 w1 ⟨rfl, hb1⟩
      generalize wr.alloc (.cells #[.int .i64 x.h.age, .int .i64 x.h.kind, .int .i64 x.h.id, .int .i64 x.h.adv, .int .i64 x.h.seq, .int .i64 x.h.sum, .int .i64 x.h.long, .slice A1 n1 c1, .slice A2 n2 c2] 44) = wx at *
      generalize wr.heap.size = X at *
      have hzx := BX.out.size
      have B1 := Lib.hid (BX.out.trans (hb1.mono hzx))
      have K1 := Lib.hid (KX.out.below hb1 KX.out.lt)
      have O1 := Lib.hid (own_chg OX.out (Chg.of_below (F := fun _ => False) hb1) (fun _ _ hf => hf))
      have hz1 := B1.out.size
      have R1 := Lib.hid (show w1.rangeAt X 0 [.int .i64 x.h.age, .int .i64 x.h.kind, .int .i64 x.h.id, .int .i64 x.h.adv, .int .i64 x.h.seq, .int .i64 x.h.sum, .int .i64 x.h.long] from head_range K1.out)
      have HT := Lib.hid (toldL_snoc (S.take k) x)
      rw [← take_snocA S k x HX.out] at HT
      clear hb1 BX KX OX RX hzx K1 HR HX
      cases hg : goneB x
      · have HT2 := Lib.hid (show toldL (S.take (k + 1)) = toldL (S.take k) ++ [x.h] by
          have := HT.out
          rwa [hg, if_neg (by decide)] at this)
        clear HT hg
        go_wp2_with (first | refine wpList_load_row 40 _ _ (by rfl) (.tmp 16) rfl (by rfl) R1.out Tryz.underlying40 rfl (by kernel_rfl) ?_ | (at_builtin; refine wpList_app_hd rfl (.tmp 15) (.tmp 18) rfl x.h (by rfl) (by rfl) O1.out (by omega) hz1 ?_; intro A3 c3 w3 HO3 HB3))
        have O3 := Lib.hid (show w3.ownsRow w.heap.size 40 7 (.slice A3 (m + 1) c3) (m + 1) (cellsBy encHd (toldL (S.take (k + 1)))) by rw [HT2.out]; exact HO3.out)
        have B3 := Lib.hid (B1.out.trans HB3.out)
        clear HO3 HB3 O1 B1 R1 HT2
        go_roundw
        case rel => exact ⟨k + 1, m + 1, c3, A3, by go_num, by first | rfl | go_num, by omega, by omega, O3, B3⟩
        case measure => simp [intOf]; omega
      · have HT2 := Lib.hid (show toldL (S.take (k + 1)) = toldL (S.take k) by
          have := HT.out
          rwa [hg, if_pos rfl] at this)
        clear HT hg
        have O3 := Lib.hid (show w1.ownsRow w.heap.size 40 7 (.slice A' m c') m (cellsBy encHd (toldL (S.take (k + 1)))) by rw [HT2.out]; exact O1.out)
        clear R1 O1 HT2
        go_wp2
        go_roundw
        case rel => exact ⟨k + 1, m, c', A', by go_num, rfl, by omega, by omega, O3, B1⟩
        case measure => simp [intOf]; omega
    · have hlt' : ¬ (k : Int) < (n : Int) := by omega
      have HT := Lib.hid (show toldL (S.take k) = toldL S by
        rw [List.take_of_length_le (by have := HS.out.1; omega)])
      rw [HT.out] at OW
      clear HT
      go_wp2_with (go_at_call 30; refine (sort_heads OW.out (by omega)).mono ?_; rintro e1 w1 ⟨rfl, ⟨K, hk1, hk2, hk3⟩, hgr⟩)
      have hz := BW.out.size
      have B1 := BW.out.trans (own_keeps7 OW.out hgr hz)
      have B2 := B1.alloc B1.size (.cells #[.slice A' m c'] 69)
      have hz1 := B1.size
      show Q (.returned (.pointer (some ⟨w1.heap.size, 0, none⟩))) _
      rw [← HQ.out]
      exact ⟨w1.heap.size, A', m, c', K, rfl, B2, hz1, Blk.new w1 69 _, hk3.alloc _, hk1, hk2⟩
end Go.Proofs.YtfdfdmbnggpnbaaGreat
namespace Go.Proofs.YtfdfdmbnggpnbaaGreat
/-- Is an age from 0 to 60? -/
def ageB (h : Hd) : Bool := decide (0 ≤ h.age) && decide (h.age ≤ 60)
theorem ageB_iff (h : Hd) : ageB h = true ↔ 0 ≤ h.age ∧ h.age ≤ 60 := by simp [ageB]
/-- Which of two numbers is greater: -1, 0, 1. -/
def cmpI (a b : Int) : Int := if a < b then -1 else if b < a then 1 else 0
/-- Which of two ages is of the newer one. -/
def frI (a b : Int) : Int :=
  if a = 60 ∧ b ≠ 60 then 1 else if b = 60 ∧ a ≠ 60 then -1 else if a + 6 < b then 1 else if b + 6 < a then -1 else 0
/-- Which of two heads is newer. -/
def nw (a b : Hd) : Int := if a.seq ≠ b.seq then cmpI a.seq b.seq else if a.sum ≠ b.sum then cmpI a.sum b.sum else frI a.age b.age

theorem cmpI_flip (a b : Int) : cmpI b a = -cmpI a b := by
  unfold cmpI
  repeat' split
  all_goals omega
theorem frI_flip (a b : Int) : frI b a = -frI a b := by
  unfold frI
  repeat' split
  all_goals omega
theorem nw_flip (a b : Hd) : nw b a = -nw a b := by
  unfold nw
  by_cases h : a.seq = b.seq
  · by_cases h2 : a.sum = b.sum
    · rw [if_neg (by simp [h]), if_neg (by simp [h2]), if_neg (by simp [h]), if_neg (by simp [h2]), frI_flip]
    · rw [if_neg (by simp [h]), if_pos (fun e => h2 e.symm), if_neg (by simp [h]), if_pos h2, cmpI_flip]
  · rw [if_pos (fun e => h e.symm), if_pos h, cmpI_flip]
theorem nw_self (a : Hd) : nw a a = 0 := by
  have := nw_flip a a
  omega
theorem cmpI_one (a b : Int) : cmpI a b = 1 ↔ b < a := by
  unfold cmpI
  repeat' split
  all_goals omega
open Go.RowKit

theorem isNaN_no (x : Int) (w : World) : Calls Tryz.prog 66 #[.int .i64 x] w fun e w' => e = .returned (.bool false) ∧ w = w' := by
  have hd : (x != x) = false := by simp
  go_enter Tryz.func66, Tryz.ntmps66
  go_wp2
  go_ret
  exact ⟨rfl, rfl⟩

set_option maxHeartbeats 1000000 in
theorem compare_any (a b : Int) (w : World) : Calls Tryz.prog 46 #[.int .i64 a, .int .i64 b] w fun e w' => e = .returned (.int .i64 (cmpI a b)) ∧ w = w' := by
  generalize hv : cmpI a b = v
  have HV := Lib.hid hv
  clear hv
  go_enter Tryz.func46, Tryz.ntmps46
  go_wp2_with fail
  refine (isNaN_no _ _).mono ?_
  rintro e1 w1 ⟨rfl, rfl⟩
  go_wp2_with fail
  refine (isNaN_no _ _).mono ?_
  rintro e2 w2 ⟨rfl, rfl⟩
  by_cases h : a < b
  · obtain rfl : v = -1 := by rw [← HV.out, cmpI, if_pos h]
    go_wp2
    go_ret
    exact ⟨rfl, rfl⟩
  · by_cases h2 : b < a
    · obtain rfl : v = 1 := by rw [← HV.out, cmpI, if_neg h, if_pos h2]
      go_wp2
      go_ret
      exact ⟨rfl, rfl⟩
    · obtain rfl : v = 0 := by rw [← HV.out, cmpI, if_neg h, if_neg h2]
      go_wp2
      go_ret
      exact ⟨rfl, rfl⟩

theorem far_any (a b : Int) (w : World) (ha : 0 ≤ a) (ha' : a ≤ 60) (hb : 0 ≤ b) (hb' : b ≤ 60) : Calls Tryz.prog 48 #[.int .i64 a, .int .i64 b] w fun e w' => e = .returned (.bool (decide (a + 6 < b))) ∧ w = w' := by
  by_cases h : a < b
  · have HI := Lib.hid (show decide (a + 6 < b) = decide (6 < b - a) by rw [decide_eq_decide]; omega)
    go_enter Tryz.func48, Tryz.ntmps48
    go_wp2
    go_ret
    exact ⟨ret_bool HI.out.symm, rfl⟩
  · have HI := Lib.hid (show decide (a + 6 < b) = false by simp; omega)
    go_enter Tryz.func48, Tryz.ntmps48
    go_wp2
    go_ret
    exact ⟨ret_bool HI.out.symm, rfl⟩

/-- Are ages more than 6 apart? -/
def farB (a b : Int) : Bool := decide (a + 6 < b) || decide (b + 6 < a)
set_option maxHeartbeats 1000000 in
theorem apart_any (a b : Int) (w : World) (ha : 0 ≤ a) (ha' : a ≤ 60) (hb : 0 ≤ b) (hb' : b ≤ 60) : Calls Tryz.prog 67 #[.int .i64 a, .int .i64 b] w fun e w' => e = .returned (.bool (farB a b)) ∧ w = w' := by
  generalize hv : farB a b = v
  have HV := Lib.hid hv
  clear hv
  go_enter Tryz.func67, Tryz.ntmps67
  go_wp2
  all_goals (go_ret; exact ⟨ret_bool (a := decide (6 < max a b - min a b)) (by rw [← HV.out, farB, Bool.eq_iff_iff]; simp; omega), rfl⟩)
theorem farB_no {a b : Int} (h : farB a b = false) : ¬ a + 6 < b ∧ ¬ b + 6 < a := by
  unfold farB at h
  rw [Bool.or_eq_false_iff, decide_eq_false_iff_not, decide_eq_false_iff_not] at h
  exact h
theorem farB_yes {a b : Int} (h : farB a b = true) : a + 6 < b ∨ b + 6 < a := by
  unfold farB at h
  rw [Bool.or_eq_true, decide_eq_true_iff, decide_eq_true_iff] at h
  exact h
theorem frI_far {a b : Int} (h1 : a ≠ 60) (h2 : b ≠ 60) (h : farB a b = true) : cmpI b a = frI a b := by
  have := farB_yes h
  unfold frI cmpI
  repeat' split
  all_goals omega
theorem frI_near {a b : Int} (h1 : a ≠ 60) (h2 : b ≠ 60) (h : farB a b = false) : frI a b = 0 := by
  have := farB_no h
  unfold frI
  repeat' split
  all_goals omega

set_option maxHeartbeats 2000000 in
theorem fresher_any (a b : Int) (w : World) (ha : 0 ≤ a) (ha' : a ≤ 60) (hb : 0 ≤ b) (hb' : b ≤ 60) : Calls Tryz.prog 47 #[.int .i64 a, .int .i64 b] w fun e w' => e = .returned (.int .i64 (frI a b)) ∧ w = w' := by
  generalize hv : frI a b = v
  have HV := Lib.hid hv
  clear hv
  go_enter Tryz.func47, Tryz.ntmps47
  by_cases h1 : a = 60
  · subst h1
    by_cases h2 : b = 60
    · subst h2
      obtain rfl : v = 0 := HV.out.symm
      go_wp2_with fail
      refine (apart_any _ _ _ (by omega) (by omega) (by omega) (by omega)).mono ?_
      rintro e1 w1 ⟨rfl, rfl⟩
      have hf : farB 60 60 = false := rfl
      rw [hf]
      go_wp2
      go_ret
      exact ⟨rfl, rfl⟩
    · obtain rfl : v = 1 := by rw [← HV.out, frI, if_pos ⟨rfl, h2⟩]
      go_wp2
      go_ret
      exact ⟨rfl, rfl⟩
  · by_cases h2 : b = 60
    · subst h2
      obtain rfl : v = -1 := by rw [← HV.out, frI, if_neg (by simp), if_pos ⟨rfl, h1⟩]
      go_wp2
      go_ret
      exact ⟨rfl, rfl⟩
    · go_wp2_with fail
      refine (apart_any _ _ _ ha ha' hb hb').mono ?_
      rintro e1 w1 ⟨rfl, rfl⟩
      cases hf : farB a b
      · obtain rfl : v = 0 := by rw [← HV.out, frI_near h1 h2 hf]
        go_wp2
        go_ret
        exact ⟨rfl, rfl⟩
      · have HC := Lib.hid (show cmpI b a = v by rw [← HV.out, frI_far h1 h2 hf])
        go_wp2_with fail
        refine (compare_any _ _ _).mono ?_
        rintro e2 w2 ⟨rfl, rfl⟩
        rw [HC.out]
        go_wp2
        go_ret
        exact ⟨rfl, rfl⟩

set_option maxRecDepth 8000 in
set_option maxHeartbeats 4000000 in
theorem newer_any (a b : Hd) (w : World) (ha : ageB a = true) (hb : ageB b = true) : Calls Tryz.prog 25 #[.agg #[.int .i64 a.age, .int .i64 a.kind, .int .i64 a.id, .int .i64 a.adv, .int .i64 a.seq, .int .i64 a.sum, .int .i64 a.long], .agg #[.int .i64 b.age, .int .i64 b.kind, .int .i64 b.id, .int .i64 b.adv, .int .i64 b.seq, .int .i64 b.sum, .int .i64 b.long]] w
    fun e w' => e = .returned (.int .i64 (nw a b)) ∧ Below w.heap.size w w' := by
  rw [ageB_iff] at ha hb
  obtain ⟨a1, a2⟩ := ha
  obtain ⟨b1, b2⟩ := hb
  generalize hv : nw a b = v
  have HV := Lib.hid hv
  clear hv
  have B0 := Lib.hid (((Below.refl w.heap.size w).alloc (Nat.le_refl _) (.cells #[.int .i64 a.age, .int .i64 a.kind, .int .i64 a.id, .int .i64 a.adv, .int .i64 a.seq, .int .i64 a.sum, .int .i64 a.long] 40)).alloc (by simp) (.cells #[.int .i64 b.age, .int .i64 b.kind, .int .i64 b.id, .int .i64 b.adv, .int .i64 b.seq, .int .i64 b.sum, .int .i64 b.long] 40))
  go_enter Tryz.func25, Tryz.ntmps25
  by_cases h1 : a.seq = b.seq
  · have d1 : (a.seq != b.seq) = false := by simp [h1]
    by_cases h2 : a.sum = b.sum
    · have d2 : (a.sum != b.sum) = false := by simp [h2]
      have HC := Lib.hid (show frI a.age b.age = v by rw [← HV.out, nw, if_neg (by simp [h1]), if_neg (by simp [h2])])
      clear h1 h2
      go_wp2_with fail
      refine (fresher_any _ _ _ a1 a2 b1 b2).mono ?_
      rintro e2 w2 ⟨rfl, rfl⟩
      rw [HC.out]
      go_wp2
      go_ret
      exact ⟨rfl, B0.out⟩
    · have d2 : (a.sum != b.sum) = true := by simp [h2]
      have HC := Lib.hid (show cmpI a.sum b.sum = v by rw [← HV.out, nw, if_neg (by simp [h1]), if_pos h2])
      clear h1 h2
      go_wp2_with fail
      refine (compare_any _ _ _).mono ?_
      rintro e2 w2 ⟨rfl, rfl⟩
      rw [HC.out]
      go_wp2
      go_ret
      exact ⟨rfl, B0.out⟩
  · have d1 : (a.seq != b.seq) = true := by simp [h1]
    have HC := Lib.hid (show cmpI a.seq b.seq = v by rw [← HV.out, nw, if_pos h1])
    clear h1
    go_wp2_with fail
    refine (compare_any _ _ _).mono ?_
    rintro e2 w2 ⟨rfl, rfl⟩
    rw [HC.out]
    go_wp2
    go_ret
    exact ⟨rfl, B0.out⟩

end Go.Proofs.YtfdfdmbnggpnbaaGreat
namespace Go.Proofs.YtfdfdmbnggpnbaaGreat
open Go.RowKit Go.Lib Go.Sort

theorem HdAt.onto {w w' : World} {B B' b p : Nat} {h : Hd} (hk : ∀ o, w'.cell? ⟨b, o, none⟩ = w.cell? ⟨b, o, none⟩) (hh : HdAt w B b p h) : HdAt w' B' b p h :=
  ⟨(hk _).trans hh.1, (hk _).trans hh.2.1, (hk _).trans hh.2.2.1, (hk _).trans hh.2.2.2.1, (hk _).trans hh.2.2.2.2.1, (hk _).trans hh.2.2.2.2.2.1, (hk _).trans hh.2.2.2.2.2.2⟩
/-- A summary whose heads left are K: its block p, and the row that it leads to, on blocks of F. -/
structure SumAt (w : World) (F : Nat → Prop) (p : Nat) (A : Option Addr) (n c : Nat) (K : List Hd) : Prop where
  blk : Blk w p 69 #[.slice A n c]
  fp : F p
  len : K.length = n
  cap : n ≤ c
  big : c ≤ maxLen
  row : 0 < n → ∃ g o, A = some ⟨g, o, none⟩ ∧ F g ∧ g ≠ p ∧ g < w.heap.size ∧ ∀ j h, K[j]? = some h → HdAt w 0 g (o + j * 7) h
section
variable {w w' : World} {F F' : Nat → Prop} {p : Nat} {A : Option Addr} {n c : Nat} {K : List Hd}
theorem SumAt.move (h : SumAt w F p A n c K) (hk : ∀ q, F q → q < w.heap.size → w'.heap[q]? = w.heap[q]?) (hz : w.heap.size ≤ w'.heap.size) : SumAt w' F p A n c K :=
  ⟨(hk p h.fp h.blk.lt).trans h.blk, h.fp, h.len, h.cap, h.big, fun hn => by
    obtain ⟨g, o, e, hg, hne, hlt, hc⟩ := h.row hn
    exact ⟨g, o, e, hg, hne, by omega, fun j x hx => HdAt.onto (fun o => World.cell?_of_block (a := ⟨g, o, none⟩) (hk g hg hlt)) (hc j x hx)⟩⟩
theorem SumAt.chg (h : SumAt w F p A n c K) (hc : Chg F' w w') (hF : ∀ q, F q → ¬ F' q) : SumAt w' F p A n c K := h.move (fun q hq hl => hc.block q hl (hF q hq)) hc.size
theorem SumAt.below (h : SumAt w F p A n c K) (hb : Below w.heap.size w w') : SumAt w' F p A n c K := h.move (fun q _ hl => hb.block q hl) hb.size
theorem SumAt.drewN (h : SumAt w F p A n c K) (q : Nat) : SumAt (w.drewN q) F p A n c K := h.move (fun _ _ _ => rfl) (Nat.le_refl _)
theorem SumAt.hds (h : SumAt w F p A n c K) : Hds w w.heap.size A n K :=
  ⟨h.len, fun hn => by
    obtain ⟨g, o, e, -, -, hlt, hc⟩ := h.row hn
    exact ⟨g, o, e, hlt, fun j x hx => HdAt.onto (fun _ => rfl) (hc j x hx)⟩⟩
end
/-- What New leaves is a summary. -/
theorem sum_new {w w' : World} {p : Nat} {A : Option Addr} {n c : Nat} {K : List Hd} (hp : w.heap.size ≤ p) (hB : Blk w' p 69 #[.slice A n c]) (hO : w'.ownsRow w.heap.size 40 7 (.slice A n c) n (cellsBy encHd K)) : SumAt w' (fun q => w.heap.size ≤ q ∧ q < w'.heap.size) p A n c K := by
  have hl := own_lenH encHd_len (by omega) hO
  have hne := own_ne_blk hO hB (by decide)
  rcases hO.2 with ⟨hv, hn⟩ | ⟨g, cap, cur, hv, hb, hg, h1, h2, h3, h4⟩
  · injection hv with e1 e2 e3
    exact ⟨hB, ⟨hp, hB.lt⟩, hl, by omega, by unfold maxLen; omega, fun h0 => by omega⟩
  · cases hv
    have hgl := (Array.getElem?_eq_some_iff.1 hg).1
    refine ⟨hB, ⟨hp, hB.lt⟩, hl, h1, h2, fun h0 => ⟨g, 0, rfl, ⟨hb, hgl⟩, fun e => hne (by rw [e]; rfl), hgl, fun j x hx => ?_⟩⟩
    obtain ⟨g', e, -, -, -, -, hc⟩ := own_item encHd_len (by omega) hO hx
    injection e with e
    injection e with e
    subst e
    rw [Nat.zero_add]
    exact ⟨hc 0 (by omega), hc 1 (by omega), hc 2 (by omega), hc 3 (by omega), hc 4 (by omega), hc 5 (by omega), hc 6 (by omega)⟩
/-- Rows of heads, read: their cells; the first m of them; those behind the first m. -/
theorem Hds.cells {w : World} {B n : Nat} {A : Option Addr} {L : List Hd} (h : Hds w B A n L) : (A = none → n = 0) ∧ ∀ ad, A = some ad → ∀ j u, (cellsBy encHd L)[j]? = some u → w.cell? (ad.add j) = some u := by
  constructor
  · intro e
    rcases Nat.eq_zero_or_pos n with h0 | h0
    · exact h0
    · obtain ⟨_, _, e2, _⟩ := h.2 h0
      rw [e] at e2
      cases e2
  · intro ad e j u hu
    have hj : j < L.length * 7 := by
      rcases Nat.lt_or_ge j (L.length * 7) with hj | hj
      · exact hj
      · rw [List.getElem?_eq_none (by rw [by_length encHd_len]; exact hj)] at hu
        cases hu
    have hn := h.1
    obtain ⟨b, o, e2, _, hc⟩ := h.2 (by omega)
    rw [e] at e2
    injection e2 with e2
    subst e2
    have hx : L[j / 7]? = some (L[j / 7]'(by omega)) := List.getElem?_eq_getElem (by omega)
    have hr := HdAt.range (hc _ _ hx)
    have hb := by_at encHd_len L _ _ hx (j % 7) (by omega)
    rw [show j / 7 * 7 + j % 7 = j from by omega, hu] at hb
    rw [addr_add, show o + j = o + j / 7 * 7 + j % 7 by omega]
    exact hr (j % 7) u hb.symm
theorem Hds.take {w : World} {B n : Nat} {A : Option Addr} {L : List Hd} (h : Hds w B A n L) (m : Nat) (hm : m ≤ n) : Hds w B A m (L.take m) :=
  ⟨by rw [List.length_take, h.1]; omega, fun h0 => by
    obtain ⟨b, o, e, hb, hc⟩ := h.2 (by omega)
    refine ⟨b, o, e, hb, fun j x hx => hc j x ?_⟩
    rw [List.getElem?_take] at hx
    split at hx
    · exact hx
    · cases hx⟩
set_option maxRecDepth 8000 in
set_option maxHeartbeats 2000000 in
theorem piece_any {w : World} {F : Nat → Prop} {p : Nat} {A : Option Addr} {n c : Nat} {K : List Hd} (h : SumAt w F p A n c K) (hn : n ≤ 1000) :
    Calls Tryz.prog 34 #[.pointer (some ⟨p, 0, none⟩)] w fun e w' => e = .returned (.slice A (min n 3) c) ∧ ∃ q, w' = w.drewN q := by
  have c0 : w.cell? ⟨p, 0, none⟩ = some (.slice A n c) := h.blk.cell 0
  have hpl := h.blk.lt
  have hcap := h.cap
  have hbig := h.big
  unfold maxLen at hbig
  have HNIL := Lib.hid h.hds.cells.1
  clear h
  clear HNIL
  rcases Nat.lt_or_ge n 3 with h3 | h3
  · rw [show min n 3 = n by omega]
    have hmin : min (n : Int) 3 = (n : Int) := by omega
    go_enter Tryz.func34, Tryz.ntmps34
    go_wp2_with fail
    go_quiet (fail)
    go_wp2
    go_ret
    exact ⟨rfl, nq, rfl⟩
  · rw [show min n 3 = 3 by omega]
    have hmin : min (n : Int) 3 = 3 := by omega
    go_enter Tryz.func34, Tryz.ntmps34
    go_wp2_with fail
    go_quiet (fail)
    go_wp2
    go_ret
    exact ⟨rfl, nq, rfl⟩
/-- What Piece answers: a row of the call's own. -/
def PieceQ (K : List Hd) (w : World) (e : Ending) (w' : World) : Prop :=
  ∃ (A : Option Addr) (m c : Nat), e = .returned (.slice A m c) ∧ Below w.heap.size w w' ∧ w'.ownsRow w.heap.size 40 7 (.slice A m c) m (cellsBy encHd (K.take 3))
set_option maxRecDepth 8000 in
set_option maxHeartbeats 2000000 in
theorem pieceP_of {w : World} {u : Value} {A : Option Addr} {m c : Nat} {L : List Hd} (hc : Calls Tryz.prog 34 #[u] w fun e w' => e = .returned (.slice A m c) ∧ ∃ q, w' = w.drewN q) (hL : Hds w w.heap.size A m L) (hm : m ≤ 1000) :
    Calls Tryz.prog 14 #[u] w fun e w' => ∃ (A' : Option Addr) (m' c' : Nat), e = .returned (.slice A' m' c') ∧ Below w.heap.size w w' ∧ w'.ownsRow w.heap.size 40 7 (.slice A' m' c') m' (cellsBy encHd L) := by
  have HC := Lib.hid hc
  have HL := Lib.hid hL
  clear hc hL
  go_enter Tryz.func14, Tryz.ntmps14
  go_wp2_with fail
  refine HC.out.mono ?_
  rintro e1 w1 ⟨rfl, q, rfl⟩
  have HL1 := Lib.hid (show (A = none → m = 0) ∧ ∀ ad, A = some ad → ∀ j u, (cellsBy encHd L)[j]? = some u → (w.drewN q).cell? (ad.add j) = some u from HL.out.cells)
  have hln := HL.out.1
  have B1 := Lib.hid (⟨rfl, rfl, rfl, Nat.le_refl _, fun _ _ => rfl⟩ : Below w.heap.size w (w.drewN q))
  have hz : (w.drewN q).heap.size = w.heap.size := rfl
  have HZ := Lib.hid hz
  clear hz
  generalize w.drewN q = w1 at *
  go_wp2_with (at_builtin; refine wpList_append_any rfl (.const (.slice none 0 0)) (.tmp 4) 23 40 (.agg #[.int .i64 0, .int .i64 0, .int .i64 0, .int .i64 0, .int .i64 0, .int .i64 0, .int .i64 0]) 7 56 Tryz.underlying23 infoHd rfl (by decide) (by decide) rfl w1.heap.size (.slice none 0 0) 0 [] (by rfl) (by exact World.ownsRow_nil _ _ _ _) A m c (cellsBy encHd L) (by rfl) (by rw [by_length encHd_len, hln]) HL1.out.1 HL1.out.2 (by_ones encHd_ones L) (by omega) (Nat.le_refl _) ?_; intro v2 w2 ho2 hg2)
  obtain ⟨A2, c2, rfl⟩ := own_slice ho2.out
  have ho3 := ho2.out
  rw [Nat.zero_add] at ho3 ⊢
  rw [List.nil_append] at ho3
  have hb : Below w.heap.size w w2 := B1.out.trans (own_keeps7 (World.ownsRow_nil w1 w.heap.size 40 7) hg2.out (by rw [HZ.out]; exact Nat.le_refl _))
  rw [HZ.out] at ho3
  have HO := Lib.hid ho3
  have HB := Lib.hid hb
  clear ho2 hg2 ho3 hb
  go_wp2
  go_ret
  exact ⟨A2, m, c2, rfl, HB.out, HO.out⟩
theorem pieceP_any {w : World} {F : Nat → Prop} {p : Nat} {A : Option Addr} {n c : Nat} {K : List Hd} (h : SumAt w F p A n c K) (hn : n ≤ 1000) : Calls Tryz.prog 14 #[.pointer (some ⟨p, 0, none⟩)] w (PieceQ K w) := by
  refine pieceP_of (L := K.take 3) (piece_any h hn) ?_ (by omega)
  have h1 := h.hds.take (min n 3) (by omega)
  rwa [show K.take (min n 3) = K.take 3 by rw [← h.len, Nat.min_comm, List.take_eq_take_iff]; omega] at h1
set_option maxRecDepth 8000 in
set_option maxHeartbeats 2000000 in
theorem more_any {w : World} {F : Nat → Prop} {p : Nat} {A : Option Addr} {n c : Nat} {K : List Hd} (h : SumAt w F p A n c K) (hn : n ≤ 1000) :
    Calls Tryz.prog 35 #[.pointer (some ⟨p, 0, none⟩)] w fun e w' => e = .returned (.bool (decide (3 < n))) ∧ ∃ q, w' = w.drewN q := by
  have c0 : w.cell? ⟨p, 0, none⟩ = some (.slice A n c) := h.blk.cell 0
  have hpl := h.blk.lt
  have pc := fun q => Calls.quiet_of (piece_any (h.drewN q) hn)
  obtain ⟨m, hm⟩ : ∃ m, min n 3 = m := ⟨_, rfl⟩
  rw [hm] at pc
  obtain ⟨b, hb⟩ : ∃ b, decide (3 < n) = b := ⟨_, rfl⟩
  rw [hb]
  have HD := Lib.hid (show decide (m < n) = b by
    rw [← hb]
    by_cases h3 : 3 < n
    · simp [h3]
      omega
    · simp [h3]
      omega)
  clear h hm hb
  go_enter Tryz.func35, Tryz.ntmps35
  go_wp2_with fail
  go_quiet (first | (go_at_call 34; with_reducible exact pc _))
  go_wp2
  go_ret
  exact ⟨by rw [← HD.out]; rfl, nq, rfl⟩
set_option maxRecDepth 8000 in
set_option maxHeartbeats 4000000 in
theorem step_any {w : World} {F : Nat → Prop} {p : Nat} {A : Option Addr} {n c : Nat} {K : List Hd} (h : SumAt w F p A n c K) (hn : n ≤ 1000) :
    Calls Tryz.prog 15 #[.pointer (some ⟨p, 0, none⟩)] w fun e w' => e = .returned (.bool (decide (3 < n))) ∧ ∃ A' n' c', SumAt w' F p A' n' c' (K.drop 3) ∧ Chg (fun q => q = p) w w' := by
  have HS := Lib.hid h
  obtain ⟨b, hb⟩ : ∃ b, decide (3 < n) = b := ⟨_, rfl⟩
  rw [hb]
  have HB := Lib.hid hb
  clear h hb
  go_enter Tryz.func15, Tryz.ntmps15
  go_wp2_with fail
  refine (more_any HS.out hn).mono ?_
  rintro e1 w1 ⟨rfl, q1, rfl⟩
  rw [HB.out]
  have S1 := Lib.hid (HS.out.drewN q1)
  have B1 := Lib.hid (⟨rfl, rfl, rfl, Nat.le_refl _, fun _ _ => rfl⟩ : Below w.heap.size w (w.drewN q1))
  clear HS
  generalize w.drewN q1 = w1 at *
  go_wp2_with fail
  have c0 : w1.cell? ⟨p, 0, none⟩ = some (.slice A n c) := S1.out.blk.cell 0
  have f0 := S1.out.blk.frozen 0
  have hpl := S1.out.blk.lt
  have hcap := S1.out.cap
  have hbig := S1.out.big
  unfold maxLen at hbig
  have c0q := fun n' os => Go.cell_grown (n := n') (os := os) (a := ⟨p, 0, none⟩) hpl c0
  have pc : ∀ n' os, Calls Tryz.prog 34 #[.pointer (some ⟨p, 0, none⟩)] (Go.Sort.grow (w1.drewN n') os) fun e w'' => e = .returned (.slice A (min n 3) c) ∧ ∃ pp : GrownBy, w'' = Go.Sort.grow (w1.drewN pp.n) pp.os := fun n' os => by
    refine Calls.grown_of ((piece_any (S1.out.move (w' := Go.Sort.grow (w1.drewN n') os) (fun q _ hq => heap_grow_old _ _ (by exact hq)) (by rw [Go.Sort.size_grow]; exact Nat.le_add_right _ _)) hn).mono ?_)
    rintro e w' ⟨rfl, q, rfl⟩
    exact ⟨rfl, q, #[], by rw [grow_empty]⟩
  obtain ⟨m, hm⟩ : ∃ m, min n 3 = m := ⟨_, rfl⟩
  rw [hm] at pc
  have hm1 : m ≤ n := by omega
  have HM := Lib.hid hm
  clear hm
  refine region_grown_tail 11 (by kernel_rfl) (by kernel_rfl) ?_
  simp only [List.take_succ_cons, List.take_zero, List.drop_succ_cons, List.drop_zero]
  repeat (quiet_step (first | (go_at_call 34; with_reducible exact pc _ _)))
  refine wpQuiet_nil ?_
  intro _ hw'
  obtain ⟨⟨nq, osq⟩, hw''⟩ := hw'
  subst hw''
  dsimp only
  obtain ⟨A', hA⟩ : ∃ A', (if c = m then A else Option.map (fun x => x.add (m * 7)) A) = A' := ⟨_, rfl⟩
  rw [hA]
  have HA := Lib.hid hA
  have S2 := Lib.hid (S1.out.move (w' := Go.Sort.grow (w1.drewN nq) osq) (fun q _ hq => heap_grow_old _ _ (by exact hq)) (by rw [Go.Sort.size_grow]; exact Nat.le_add_right _ _))
  have C2 := Lib.hid (show Chg (fun q => q = p) w1 (Go.Sort.grow (w1.drewN nq) osq) from ⟨rfl, rfl, rfl, by rw [Go.Sort.size_grow]; exact Nat.le_add_right _ _, fun q hq _ => heap_grow_old _ _ (by exact hq)⟩)
  clear hA S1 c0 f0 hpl c0q pc
  generalize Go.Sort.grow (w1.drewN nq) osq = w2 at *
  clear nq osq
  have c0 : w2.cell? ⟨p, 0, none⟩ = some (.slice A n c) := S2.out.blk.cell 0
  have f0 := S2.out.blk.frozen 0
  have K3 := S2.out.blk.put 0 (.slice A' (n - m) (c - m))
  simp only [List.setIfInBounds_toArray, List.set_cons_zero] at K3
  have C3 : Chg (fun q => q = p) w2 (w2.setCell ⟨p, 0, none⟩ (.slice A' (n - m) (c - m))) := ⟨rfl, rfl, rfl, by simp, fun q hq hne => Below.heap_setCell _ _ _ _ hne⟩
  have HK := Lib.hid K3
  have HC := Lib.hid C3
  clear K3 C3
  go_wp2
  go_ret
  refine ⟨rfl, A', n - m, c - m, ⟨HK.out, S2.out.fp, ?_, by omega, by unfold maxLen; omega, fun h0 => ?_⟩, ?_⟩
  · have := S2.out.len
    have := HM.out
    rw [List.length_drop]
    omega
  · have hm3 : m = 3 := by have := HM.out; omega
    subst hm3
    obtain ⟨g, o, e, hg, hne, hlt, hc⟩ := S2.out.row (by omega)
    refine ⟨g, o + 21, ?_, hg, hne, by simpa using hlt, fun j x hx => ?_⟩
    · rw [← HA.out, if_neg (by omega), e, Option.map_some, addr_add]
    · rw [List.getElem?_drop] at hx
      have h1 := hc _ x hx
      rw [show o + (3 + j) * 7 = o + 21 + j * 7 by omega] at h1
      exact HdAt.onto (fun o' => World.cell?_of_block (a := ⟨g, o', none⟩) (Below.heap_setCell _ _ _ _ hne)) h1
  · exact (Chg.of_below (F := fun q => q = p) B1.out).trans (C2.out.trans HC.out (fun k hk => .inl hk)) (fun k hk => .inl hk)
end Go.Proofs.YtfdfdmbnggpnbaaGreat
