/- Acts that came in, and whether they are more than a statement takes. No conditions. · The walk of the statement DbActs, of any database that does what it must. Conditions: the slice reads as acts. · A description that is gone; appends of one head, of one key; New. Conditions: what the words say; at most 100 descriptions. · A summary in memory; its piece, Piece, More, Step; a summary that is not there. Conditions: what the words say; at most 1000 heads. · Keys and heads compared by ==; rows written over; the library's Compact of a row of keys. Conditions: what the words say; at most 1000 keys. · Which of two heads is newer: the program's, and the reference's. Conditions: ages from 0 to 60. -/
import Derived.Deep.QuietTactic
import Derived.Laws.StructEq
import Derived.ChangeKeysEq
import Derived.Lib.SlicesCompact
import Derived.Lib.SliceRun
import Derived.WalkKit
import Derived.WalkLawsBesides
import Derived.BigQuiet
import Derived.Lib.Hide
import Derived.OpenShut
import Derived.Deep.MidRow
import Derived.Deep.Slices
import Derived.Deep.Fields
import Derived.IntWalk
import Derived.Test.YtnnkcgbnhjkahaaJap
import Derived.Test.YtnnkcgbnhjkahaaJam
import Derived.Test.YtnnkcgbnhjkahaaJao
namespace Go.Proofs.Ytnnkcgbnhjkahaa
open Go.ChangeShapes Go.WideShapes Go.RowKit Go.Deep
set_option maxRecDepth 20000

/-- An act on a database. -/
structure Ac where
  kind : Int
  x : La
/-- From place p of block b on there lies an act. -/
def AcAt (w : World) (B b p : Nat) (a : Ac) : Prop :=
  wfKy (kyL a.x) ∧ ∃ (A : Option Addr) (n c : Nat) (A' : Option Addr) (n' c' : Nat), w.rangeAt b p [.int .i64 a.kind, .int .i64 a.x.h.age, .int .i64 a.x.h.kind, .int .i64 a.x.h.id, .int .i64 a.x.h.adv, .int .i64 a.x.h.seq, .int .i64 a.x.h.sum, .int .i64 a.x.h.long, .slice A n c, .slice A' n' c'] ∧ Lnk w B A n a.x.L ∧ Row .i64 w B A' n' a.x.M ∧ n ≤ maxLen ∧ n' ≤ maxLen
theorem range_move {w w' : World} {b p : Nat} {cs : List Value} (h : w.rangeAt b p cs) (hk : ∀ o, w'.cell? ⟨b, o, none⟩ = w.cell? ⟨b, o, none⟩) : w'.rangeAt b p cs := fun j v hj => (hk _).trans (h j v hj)
theorem AcAt.move {w w' : World} {B B' b p : Nat} {a : Ac} (hk : ∀ q : Addr, q.block < B → w'.cell? q = w.cell? q) (hB : B ≤ B') (hb : b < B) (h : AcAt w B b p a) : AcAt w' B' b p a := by
  obtain ⟨h0, A, n, c, A', n', c', h1, h2, h3, h4⟩ := h
  exact ⟨h0, A, n, c, A', n', c', range_move h1 (fun o => hk ⟨b, o, none⟩ hb), (h2.keep hk).more hB, (h3.keep hk).more hB, h4⟩
def Acs (w : World) (B : Nat) (A : Option Addr) (n : Nat) (L : List Ac) : Prop := Arr 10 AcAt w B A n L
theorem Acs.below {w w' : World} {B n : Nat} {A : Option Addr} {L : List Ac} (h : Acs w B A n L) (hb : Below B w w') : Acs w' B A n L := Arr.move (fun _ _ _ hlt h => AcAt.move (fun _ hp => hb.cell hp) (Nat.le_refl _) hlt h) (Nat.le_refl _) h

theorem Try.cellsLsa7 : Try.prog.cellsOf 62 = 9 := by kernel_rfl
section
variable {H : Type} {enc : TypeId × Value → H} {w : World} {base : Nat} {held : Bool} {fuel : Nat}
/-- Seven integers that came in are a head, with a key of 64 bits. -/
theorem head_cameB {cs : List Value} {x : DataW H × List MemPlace} {spare : Nat → Bool} (h : DataW.trod enc Try.prog w base spare held fuel 38 cs = some x) :
    ∃ h : Hd, cs = [.int .i64 h.age, .int .i64 h.kind, .int .i64 h.id, .int .i64 h.adv, .int .i64 h.seq, .int .i64 h.sum, .int .i64 h.long] ∧ wfKy (keyH h) := by
  obtain ⟨xs, n, _, _, hcl, hlen, hg⟩ := DataW.trod_struct Try.underlying38 h
  rw [Try.cells23] at hcl
  have g0 : DataW.trod enc Try.prog w base spare held n 3 ((cs.drop 0).take (Try.prog.cellsOf 3)) = xs[0]? := hg 0 _ rfl
  have g1 : DataW.trod enc Try.prog w base spare held n 3 ((cs.drop 1).take (Try.prog.cellsOf 3)) = xs[1]? := hg 1 _ rfl
  have g2 : DataW.trod enc Try.prog w base spare held n 3 ((cs.drop 2).take (Try.prog.cellsOf 3)) = xs[2]? := hg 2 _ rfl
  have g3 : DataW.trod enc Try.prog w base spare held n 3 ((cs.drop 3).take (Try.prog.cellsOf 3)) = xs[3]? := hg 3 _ rfl
  have g4 : DataW.trod enc Try.prog w base spare held n 3 ((cs.drop 4).take (Try.prog.cellsOf 3)) = xs[4]? := hg 4 _ rfl
  have g5 : DataW.trod enc Try.prog w base spare held n 3 ((cs.drop 5).take (Try.prog.cellsOf 3)) = xs[5]? := hg 5 _ rfl
  have g6 : DataW.trod enc Try.prog w base spare held n 3 ((cs.drop 6).take (Try.prog.cellsOf 3)) = xs[6]? := hg 6 _ rfl
  rw [Try.cells3] at g0 g1 g2 g3 g4 g5 g6
  match cs, hcl, xs, hlen with
  | [c0, c1, c2, c3, c4, c5, c6], _, [y0, y1, y2, y3, y4, y5, y6], _ =>
    obtain ⟨z0, rfl⟩ := int_came rfl g0
    obtain ⟨z1, rfl, b1, b1'⟩ := int_cameB rfl g1
    obtain ⟨z2, rfl, b2, b2'⟩ := int_cameB rfl g2
    obtain ⟨z3, rfl, b3, b3'⟩ := int_cameB rfl g3
    obtain ⟨z4, rfl⟩ := int_came rfl g4
    obtain ⟨z5, rfl⟩ := int_came rfl g5
    obtain ⟨z6, rfl⟩ := int_came rfl g6
    exact ⟨⟨z0, z1, z2, z3, z4, z5, z6⟩, rfl, ⟨b1, b1'⟩, ⟨b2, b2'⟩, b3, b3'⟩
theorem la_cameB {cs : List Value} {x : DataW H × List MemPlace} (h : DataW.trod enc Try.prog w base (fun _ => true) held fuel 62 cs = some x) :
    ∃ (h : Hd) (A A' : Option Addr) (n c n' c' : Nat) (L : List Lk) (M : List Int), cs = [.int .i64 h.age, .int .i64 h.kind, .int .i64 h.id, .int .i64 h.adv, .int .i64 h.seq, .int .i64 h.sum, .int .i64 h.long, .slice A n c, .slice A' n' c'] ∧
      Lnk w w.heap.size A n L ∧ n ≤ maxLen ∧ Row .i64 w w.heap.size A' n' M ∧ n' ≤ maxLen ∧ wfKy (keyH h) := by
  obtain ⟨xs, n, _, _, hcl, hlen, hg⟩ := DataW.trod_struct Try.underlying62 h
  rw [Try.cellsLsa7] at hcl
  have g0 : DataW.trod enc Try.prog w base (fun _ => true) held n 38 ((cs.drop 0).take (Try.prog.cellsOf 38)) = xs[0]? := hg 0 _ rfl
  have g1 : DataW.trod enc Try.prog w base (fun _ => true) held n 59 ((cs.drop 7).take (Try.prog.cellsOf 59)) = xs[1]? := hg 1 _ rfl
  have g2 : DataW.trod enc Try.prog w base (fun _ => true) held n 60 ((cs.drop 8).take (Try.prog.cellsOf 60)) = xs[2]? := hg 2 _ rfl
  rw [Try.cells23] at g0
  rw [Try.cells24] at g1
  rw [Try.cells25] at g2
  match cs, hcl, xs, hlen with
  | [c0, c1, c2, c3, c4, c5, c6, c7, c8], _, [y0, y1, y2], _ =>
    obtain ⟨hd, hh, hw⟩ := head_cameB g0
    obtain ⟨A, n1, e1, L, hL, h1, h2, h3⟩ := lnk_came (v := c7) g1
    obtain ⟨A', n2, e2, M, hM, h4, h5, h6⟩ := ints_came (v := c8) g2
    simp at hh
    obtain ⟨rfl, rfl, rfl, rfl, rfl, rfl, rfl⟩ := hh
    subst hL hM
    exact ⟨hd, A, A', n1, e1, n2, e2, L, M, rfl, h1, by omega, h4, by omega, hw⟩
end

end Go.Proofs.Ytnnkcgbnhjkahaa
namespace Go.Proofs.Ytnnkcgbnhjkahaa
open Go.RowKit

theorem RefDb.sort {w : World} {lo g : Nat} {room : Int} {S : List La} {F : Nat → Prop} (h : RefDb w lo g room S F) : SortL S := by
  obtain ⟨A, n, c, R, hB, hlo, hO, hA, h1, h2, h3, h4, hF⟩ := h
  exact h1
theorem RefDb.right {w : World} {lo g : Nat} {room : Int} {S : List La} {F : Nat → Prop} (h : RefDb w lo g room S F) : ∀ x ∈ S, rightB x.h x.L x.M = true := by
  obtain ⟨A, n, c, R, hB, hlo, hO, hA, h1, h2, h3, h4, hF⟩ := h
  exact h4
theorem la_range {w : World} {B b p : Nat} {h : Hd} {A A' : Option Addr} {n c n' c' : Nat} (hh : HdAt w B b p h) (h7 : w.cell? ⟨b, p + 7, none⟩ = some (.slice A n c)) (h8 : w.cell? ⟨b, p + 8, none⟩ = some (.slice A' n' c')) : w.rangeAt b p [.int .i64 h.age, .int .i64 h.kind, .int .i64 h.id, .int .i64 h.adv, .int .i64 h.seq, .int .i64 h.sum, .int .i64 h.long, .slice A n c, .slice A' n' c'] := by
  obtain ⟨h0, h1, h2, h3, h4, h5, h6⟩ := hh
  intro j v hj
  match j, hj with
  | 0, hj => cases hj; exact h0
  | 1, hj => cases hj; exact h1
  | 2, hj => cases hj; exact h2
  | 3, hj => cases hj; exact h3
  | 4, hj => cases hj; exact h4
  | 5, hj => cases hj; exact h5
  | 6, hj => cases hj; exact h6
  | 7, hj => cases hj; exact h7
  | 8, hj => cases hj; exact h8
theorem blk_range7 {w : World} {g : Nat} {t : TypeId} {cs : Array Value} (h : Blk w g t cs) : w.rangeAt g 0 cs.toList := fun j v hj => by
  have := h.cell j
  rw [Nat.zero_add, this]
  simpa using hj
end Go.Proofs.Ytnnkcgbnhjkahaa
namespace Go.Proofs.Ytnnkcgbnhjkahaa
open Go.RowKit Go.Lib Go.Sort

/-- Is a description of the greatest age? -/
def goneB (x : La) : Bool := x.h.age == 60
/-- The heads that are told, in the order in which they came. -/
def toldL (S : List La) : List Hd := (S.filter fun x => !goneB x).map La.h
theorem infoHd : (Try.prog.info? 38).map (fun i => (i.zero, i.size, i.bytes)) = some (some (.agg #[.int .i64 0, .int .i64 0, .int .i64 0, .int .i64 0, .int .i64 0, .int .i64 0, .int .i64 0]), 7, 56) := by kernel_rfl
theorem HdAt.range {w : World} {B b p : Nat} {h : Hd} (hh : HdAt w B b p h) : w.rangeAt b p (encHd h) := by
  obtain ⟨h0, h1, h2, h3, h4, h5, h6⟩ := hh
  intro j v hj
  match j, hj with
  | 0, hj => cases hj; exact h0
  | 1, hj => cases hj; exact h1
  | 2, hj => cases hj; exact h2
  | 3, hj => cases hj; exact h3
  | 4, hj => cases hj; exact h4
  | 5, hj => cases hj; exact h5
  | 6, hj => cases hj; exact h6
/-- A summary, new. -/
theorem las_item {w : World} {B n k : Nat} {A : Option Addr} {S : List La} (h : Las w B A n S) (hk : k < n) : ∃ (b o : Nat) (x : La) (A1 : Option Addr) (n1 c1 : Nat) (A2 : Option Addr) (n2 c2 : Nat), A = some ⟨b, o, none⟩ ∧ b < B ∧ S[k]? = some x ∧
    w.rangeAt b (o + k * 9) [.int .i64 x.h.age, .int .i64 x.h.kind, .int .i64 x.h.id, .int .i64 x.h.adv, .int .i64 x.h.seq, .int .i64 x.h.sum, .int .i64 x.h.long, .slice A1 n1 c1, .slice A2 n2 c2] ∧ Lnk w B A1 n1 x.L ∧ Row .i64 w B A2 n2 x.M ∧ n1 ≤ maxLen ∧ n2 ≤ maxLen := by
  obtain ⟨b, o, x, rfl, hb, hx, hh, A1, n1, c1, A2, n2, c2, h7, h8, h9, h10, h11, h12⟩ := Arr.at h hk
  exact ⟨b, o, x, A1, n1, c1, A2, n2, c2, rfl, hb, hx, la_range hh h7 h8, h9, h10, h11, h12⟩
theorem head_range {w : World} {g : Nat} {t : TypeId} {x : La} {A A' : Option Addr} {n c n' c' : Nat} (h : Blk w g t #[.int .i64 x.h.age, .int .i64 x.h.kind, .int .i64 x.h.id, .int .i64 x.h.adv, .int .i64 x.h.seq, .int .i64 x.h.sum, .int .i64 x.h.long, .slice A n c, .slice A' n' c']) : w.rangeAt g 0 (encHd x.h) := by
  obtain ⟨h0, h1, h2, h3, h4, h5, h6, -, -⟩ := h.nine
  exact HdAt.range (B := 0) ⟨h0, h1, h2, h3, h4, h5, h6⟩
end Go.Proofs.Ytnnkcgbnhjkahaa
namespace Go.Proofs.Ytnnkcgbnhjkahaa
open Go.RowKit Go.Lib Go.Sort

section
variable {w w' : World} {F F' : Nat → Prop} {p : Nat} {A : Option Addr} {n c : Nat} {K : List Hd}
end
/-- Rows of heads, read: their cells; the first m of them; those behind the first m. -/
theorem Hds.cells {w : World} {B n : Nat} {A : Option Addr} {L : List Hd} (h : Hds w B A n L) : (A = none → n = 0) ∧ ∀ ad, A = some ad → ∀ j u, (cellsBy encHd L)[j]? = some u → w.cell? (ad.add j) = some u := by
  constructor
  · intro e
    rcases Nat.eq_zero_or_pos n with h0 | h0
    · exact h0
    · obtain ⟨_, _, e2, _⟩ := h.2 h0
      rw [e] at e2
      cases e2
  · intro ad e j u hu
    have hj : j < L.length * 7 := by
      rcases Nat.lt_or_ge j (L.length * 7) with hj | hj
      · exact hj
      · rw [List.getElem?_eq_none (by rw [by_length encHd_len]; exact hj)] at hu
        cases hu
    have hn := h.1
    obtain ⟨b, o, e2, _, hc⟩ := h.2 (by omega)
    rw [e] at e2
    injection e2 with e2
    subst e2
    have hx : L[j / 7]? = some (L[j / 7]'(by omega)) := List.getElem?_eq_getElem (by omega)
    have hr := HdAt.range (hc _ _ hx)
    have hb := by_at encHd_len L _ _ hx (j % 7) (by omega)
    rw [show j / 7 * 7 + j % 7 = j from by omega, hu] at hb
    rw [addr_add, show o + j = o + j / 7 * 7 + j % 7 by omega]
    exact hr (j % 7) u hb.symm
theorem Hds.take {w : World} {B n : Nat} {A : Option Addr} {L : List Hd} (h : Hds w B A n L) (m : Nat) (hm : m ≤ n) : Hds w B A m (L.take m) :=
  ⟨by rw [List.length_take, h.1]; omega, fun h0 => by
    obtain ⟨b, o, e, hb, hc⟩ := h.2 (by omega)
    refine ⟨b, o, e, hb, fun j x hx => hc j x ?_⟩
    rw [List.getElem?_take] at hx
    split at hx
    · exact hx
    · cases hx⟩
end Go.Proofs.Ytnnkcgbnhjkahaa
namespace Go.Proofs.Ytnnkcgbnhjkahaa
open Go.RowKit Go.Lib Go.Sort Go.Deep

theorem underKy : Try.prog.underlying 47 = some (.struct (Try.prog.fieldsOf 47)) := by kernel_rfl
theorem stoodKy : Try.prog.stoodInHeld 47 = false := by kernel_rfl
theorem underHd : Try.prog.underlying 38 = some (.struct (Try.prog.fieldsOf 38)) := by kernel_rfl
theorem stoodHd : Try.prog.stoodInHeld 38 = false := by kernel_rfl
theorem plainI : Try.prog.plainKey 3 = true := by kernel_rfl
theorem eqIntK (W : World) (a b : Int) : (Op.equalIn (9998 + 1) 3 (.int .i64 a) (.int .i64 b)).run Try.prog W = .ok (a == b) W := run_equalIn_int W 9998 _ .i64 .i64 a b Try.underlying3
theorem equalKy (x y : Ky) (W : World) : (Op.equalIn 10000 47 (.agg #[.int .i64 x.kind, .int .i64 x.id, .int .i64 x.adv]) (.agg #[.int .i64 y.kind, .int .i64 y.id, .int .i64 y.adv])).run Try.prog W = .ok (sameKy x y) W := by
  have q0 : ∀ z : Ky, (part 3 #[.int .i64 z.kind, .int .i64 z.id, .int .i64 z.adv] 0).run Try.prog W = .ok (.int .i64 z.kind) W := fun z => run_part_plain W plainI rfl
  have q1 : ∀ z : Ky, (part 3 #[.int .i64 z.kind, .int .i64 z.id, .int .i64 z.adv] 1).run Try.prog W = .ok (.int .i64 z.id) W := fun z => run_part_plain W plainI rfl
  have q2 : ∀ z : Ky, (part 3 #[.int .i64 z.kind, .int .i64 z.id, .int .i64 z.adv] 2).run Try.prog W = .ok (.int .i64 z.adv) W := fun z => run_part_plain W plainI rfl
  rw [show (10000 : Nat) = 9998 + 1 + 1 from rfl, run_equalIn_struct W (9998 + 1) _ _ _ underKy stoodKy]
  simp [Program.fieldsOf, Try.underlying47, Op.eqFields, q0, q1, q2, eqIntK]
  clear q0 q1 q2
  unfold sameKy
  by_cases h1 : x.kind = y.kind
  · by_cases h2 : x.id = y.id
    · by_cases h3 : x.adv = y.adv <;> simp [h1, h2, h3]
    · simp [h1, h2]
  · simp [h1]
theorem equalHd (x y : Hd) (W : World) : (Op.equalIn 10000 38 (.agg #[.int .i64 x.age, .int .i64 x.kind, .int .i64 x.id, .int .i64 x.adv, .int .i64 x.seq, .int .i64 x.sum, .int .i64 x.long]) (.agg #[.int .i64 y.age, .int .i64 y.kind, .int .i64 y.id, .int .i64 y.adv, .int .i64 y.seq, .int .i64 y.sum, .int .i64 y.long])).run Try.prog W = .ok (sameHd x y) W := by
  have q0 : ∀ z : Hd, (part 3 #[.int .i64 z.age, .int .i64 z.kind, .int .i64 z.id, .int .i64 z.adv, .int .i64 z.seq, .int .i64 z.sum, .int .i64 z.long] 0).run Try.prog W = .ok (.int .i64 z.age) W := fun z => run_part_plain W plainI rfl
  have q1 : ∀ z : Hd, (part 3 #[.int .i64 z.age, .int .i64 z.kind, .int .i64 z.id, .int .i64 z.adv, .int .i64 z.seq, .int .i64 z.sum, .int .i64 z.long] 1).run Try.prog W = .ok (.int .i64 z.kind) W := fun z => run_part_plain W plainI rfl
  have q2 : ∀ z : Hd, (part 3 #[.int .i64 z.age, .int .i64 z.kind, .int .i64 z.id, .int .i64 z.adv, .int .i64 z.seq, .int .i64 z.sum, .int .i64 z.long] 2).run Try.prog W = .ok (.int .i64 z.id) W := fun z => run_part_plain W plainI rfl
  have q3 : ∀ z : Hd, (part 3 #[.int .i64 z.age, .int .i64 z.kind, .int .i64 z.id, .int .i64 z.adv, .int .i64 z.seq, .int .i64 z.sum, .int .i64 z.long] 3).run Try.prog W = .ok (.int .i64 z.adv) W := fun z => run_part_plain W plainI rfl
  have q4 : ∀ z : Hd, (part 3 #[.int .i64 z.age, .int .i64 z.kind, .int .i64 z.id, .int .i64 z.adv, .int .i64 z.seq, .int .i64 z.sum, .int .i64 z.long] 4).run Try.prog W = .ok (.int .i64 z.seq) W := fun z => run_part_plain W plainI rfl
  have q5 : ∀ z : Hd, (part 3 #[.int .i64 z.age, .int .i64 z.kind, .int .i64 z.id, .int .i64 z.adv, .int .i64 z.seq, .int .i64 z.sum, .int .i64 z.long] 5).run Try.prog W = .ok (.int .i64 z.sum) W := fun z => run_part_plain W plainI rfl
  have q6 : ∀ z : Hd, (part 3 #[.int .i64 z.age, .int .i64 z.kind, .int .i64 z.id, .int .i64 z.adv, .int .i64 z.seq, .int .i64 z.sum, .int .i64 z.long] 6).run Try.prog W = .ok (.int .i64 z.long) W := fun z => run_part_plain W plainI rfl
  rw [show (10000 : Nat) = 9998 + 1 + 1 from rfl, run_equalIn_struct W (9998 + 1) _ _ _ underHd stoodHd]
  simp [Program.fieldsOf, Try.underlying38, Op.eqFields, q0, q1, q2, q3, q4, q5, q6, eqIntK]
  clear q0 q1 q2 q3 q4 q5 q6
  unfold sameHd
  by_cases h1 : x.age = y.age
  · by_cases h2 : x.kind = y.kind
    · by_cases h3 : x.id = y.id
      · by_cases h4 : x.adv = y.adv
        · by_cases h5 : x.seq = y.seq
          · by_cases h6 : x.sum = y.sum
            · by_cases h7 : x.long = y.long <;> simp [h1, h2, h3, h4, h5, h6, h7]
            · simp [h1, h2, h3, h4, h5, h6]
          · simp [h1, h2, h3, h4, h5]
        · simp [h1, h2, h3, h4]
      · simp [h1, h2, h3]
    · simp [h1, h2]
  · simp [h1]
instance : DecidableEq Ky := fun a b => decidable_of_iff _ (sameKy_iff a b)
instance : DecidableEq Hd := fun a b => decidable_of_iff _ (sameHd_iff a b)
theorem sameKy_dec (a b : Ky) : sameKy a b = decide (a = b) := by
  cases h : sameKy a b
  · exact (decide_eq_false fun e => by rw [(sameKy_iff _ _).2 e] at h; cases h).symm
  · exact (decide_eq_true ((sameKy_iff _ _).1 h)).symm

theorem own_setH {w : World} {base n size b c : Nat} {t : TypeId} {xs : List Value} (h : w.ownsRow base t size (.slice (some ⟨b, 0, none⟩) n c) n xs) (p : Nat) (u : Value) :
    (w.setCell ⟨b, p, none⟩ u).ownsRow base t size (.slice (some ⟨b, 0, none⟩) n c) n (xs.set p u) := by
  refine ⟨by rw [List.length_set]; exact h.1, ?_⟩
  rcases h.2 with ⟨hv, _⟩ | ⟨g, cap, cur, hv, hb, hg, h1, h2, h3, h4⟩
  · cases hv
  · injection hv with e1 e2 e3
    injection e1 with e1
    injection e1 with e1
    subst e1 e3
    have hB : Blk w b t cur := hg
    refine .inr ⟨b, c, cur.setIfInBounds p u, rfl, hb, hB.put p u, h1, h2, by simpa using h3, ?_⟩
    rw [← h4]
    simp [List.take_set]
def setAll : List Value → Nat → List Value → List Value
  | xs, _, [] => xs
  | xs, p, v :: r => setAll (xs.set p v) (p + 1) r
theorem own_setCells {b c n size base : Nat} {t : TypeId} : ∀ (vs : List Value) (p : Nat) (w : World) (xs : List Value), w.ownsRow base t size (.slice (some ⟨b, 0, none⟩) n c) n xs → (w.setCells b p vs).ownsRow base t size (.slice (some ⟨b, 0, none⟩) n c) n (setAll xs p vs)
  | [], _, _, _, h => h
  | v :: r, p, _, _, h => own_setCells r (p + 1) _ _ (own_setH h p v)
theorem setAll_take : ∀ (vs xs : List Value) (p m : Nat), m ≤ p → (setAll xs p vs).take m = xs.take m
  | [], _, _, _, _ => rfl
  | v :: r, xs, p, m, h => by
    unfold setAll
    rw [setAll_take r _ (p + 1) m (by omega), List.take_set_of_le h]
theorem chg_setCells (g : Nat) : ∀ (vs : List Value) (p : Nat) (w : World), Chg (fun q => q = g) w (w.setCells g p vs)
  | [], _, w => Chg.refl _ w
  | v :: r, p, w => by
    have h1 : Chg (fun q => q = g) w (w.setCell ⟨g, p, none⟩ v) := ⟨rfl, rfl, rfl, by simp, fun q hq hne => Below.heap_setCell _ _ _ _ hne⟩
    exact h1.trans (chg_setCells g r (p + 1) _) (fun _ h => .inl h)
theorem ky_set : ∀ (M : List Ky) (k : Nat) (y : Ky), k < M.length → kyCells (M.set k y) = (((kyCells M).set (k * 3) (.int .i64 y.kind)).set (k * 3 + 1) (.int .i64 y.id)).set (k * 3 + 2) (.int .i64 y.adv)
  | [], k, y, h => by simp at h
  | x :: M, 0, y, _ => by simp [kyCells_cons]
  | x :: M, k + 1, y, h => by
    have ih := ky_set M k y (by simpa using h)
    rw [List.set_cons_succ, kyCells_cons, ih, kyCells_cons]
    rw [show (k + 1) * 3 = k * 3 + 1 + 1 + 1 by omega]
    simp only [List.cons_append, List.nil_append, List.set_cons_succ]
/-- A row of keys of the call's own, item j of it. -/
theorem own_kyH {w : World} {base n c : Nat} {A : Option Addr} {K : List Ky} (h : w.ownsRow base 47 3 (.slice A n c) n (kyCells K)) {j : Nat} {k : Ky} (hj : K[j]? = some k) :
    ∃ g, A = some ⟨g, 0, none⟩ ∧ base ≤ g ∧ g < w.heap.size ∧ n ≤ c ∧ c ≤ maxLen ∧ w.cell? ⟨g, j * 3, none⟩ = some (.int .i64 k.kind) ∧ w.cell? ⟨g, j * 3 + 1, none⟩ = some (.int .i64 k.id) ∧ w.cell? ⟨g, j * 3 + 2, none⟩ = some (.int .i64 k.adv) := by
  have hl := h.1
  rw [kyCells_length] at hl
  have hjl := (List.getElem?_eq_some_iff.1 hj).1
  rcases h.2 with ⟨_, hn⟩ | ⟨g, cap, cur, hv, hb, hg, h1, h2, h3, h4⟩
  · omega
  · cases hv
    have hB : Blk w g 47 cur := hg
    have hc : ∀ i, i < 3 → w.cell? ⟨g, j * 3 + i, none⟩ = [Value.int .i64 k.kind, .int .i64 k.id, .int .i64 k.adv][i]? := fun i hi => by
      rw [hB.cell, ← kyCells_at K j k hj i hi, ← h4, List.getElem?_take, if_pos (by omega)]
      simp
    exact ⟨g, rfl, hb, (Array.getElem?_eq_some_iff.1 hg).1, h1, h2, hc 0 (by omega), hc 1 (by omega), hc 2 (by omega)⟩
theorem own_cutK {w : World} {base n c m g : Nat} {t : TypeId} {size : Nat} {xs : List Value} (h : w.ownsRow base t size (.slice (some ⟨g, 0, none⟩) n c) n xs) (hm : m ≤ n) : w.ownsRow base t size (.slice (some ⟨g, 0, none⟩) m c) m (xs.take (m * size)) := by
  have hms : m * size ≤ n * size := Nat.mul_le_mul_right _ hm
  refine ⟨by rw [List.length_take, h.1]; omega, ?_⟩
  rcases h.2 with ⟨hv, _⟩ | ⟨g', cap, cur, hv, hb, hg, h1, h2, h3, h4⟩
  · cases hv
  · cases hv
    refine .inr ⟨g, c, cur, rfl, hb, hg, by omega, h2, h3, ?_⟩
    rw [← h4, List.take_take, Nat.min_eq_left hms]
theorem zeros_ky (n : Nat) : (Builtin.zeroCells (Value.agg #[.int .i64 0, .int .i64 0, .int .i64 0]).cells n).toList = List.replicate (n * 3) (.int .i64 0) := by
  apply List.ext_getElem
  · simp [Builtin.zeroCells, Value.cells]
  · intro i h1 h2
    have hi : i % 3 = 0 ∨ i % 3 = 1 ∨ i % 3 = 2 := by omega
    simp [Builtin.zeroCells, Value.cells]
    rcases hi with h | h | h <;> rw [h] <;> rfl
/-- 'clear' of a part of a row of keys. -/
theorem run_clear_ky {w : World} {base n c g : Nat} {xs : List Value} (h : w.ownsRow base 47 3 (.slice (some ⟨g, 0, none⟩) n c) n xs) (kk c2 : Nat) (ty : TypeId) (hk : kk < n) :
    (Builtin.clear_ #[42] ty #[.slice (some ⟨g, kk * 3, none⟩) (n - kk) c2]).run Try.prog w = .ok (.tuple #[]) (w.setCells g (kk * 3) (List.replicate ((n - kk) * 3) (.int .i64 0))) := by
  rcases h.2 with ⟨hv, _⟩ | ⟨g', cap, cur, hv, hb, hg, h1, h2, h3, h4⟩
  · cases hv
  · cases hv
    have hB : Blk w g 47 cur := hg
    have hst := run_storeCells_cells (P := Try.prog) g (kk * 3) (List.replicate ((n - kk) * 3) (Value.int .i64 0)) 0 w (fun j hj => by
      rw [List.length_replicate] at hj
      rw [hB.cell, Nat.add_zero, Array.getElem?_eq_getElem (show kk * 3 + j < cur.size by omega)]
      rfl) (fun j _ => hB.frozen _) (fun v hv => by rw [List.eq_of_mem_replicate hv]; rfl)
    rw [Nat.add_zero] at hst
    obtain ⟨m, hm⟩ : ∃ m, n - kk = m + 1 := ⟨n - kk - 1, by omega⟩
    rw [hm] at hst ⊢
    simp [Builtin.clear_, run_underlying Try.underlying42, zeros_ky, hst]
end Go.Proofs.Ytnnkcgbnhjkahaa
namespace Go.Proofs.Ytnnkcgbnhjkahaa
/-- Is an age from 0 to 60? -/
def ageB (h : Hd) : Bool := decide (0 ≤ h.age) && decide (h.age ≤ 60)
theorem ageB_iff (h : Hd) : ageB h = true ↔ 0 ≤ h.age ∧ h.age ≤ 60 := by simp [ageB]
/-- Which of two numbers is greater: -1, 0, 1. -/
def cmpI (a b : Int) : Int := if a < b then -1 else if b < a then 1 else 0
/-- Which of two ages is of the newer one. -/
def frI (a b : Int) : Int :=
  if a = 60 ∧ b ≠ 60 then 1 else if b = 60 ∧ a ≠ 60 then -1 else if a + 6 < b then 1 else if b + 6 < a then -1 else 0
/-- Which of two heads is newer. -/
def nw (a b : Hd) : Int := if a.seq ≠ b.seq then cmpI a.seq b.seq else if a.sum ≠ b.sum then cmpI a.sum b.sum else frI a.age b.age

theorem cmpI_flip (a b : Int) : cmpI b a = -cmpI a b := by
  unfold cmpI
  repeat' split
  all_goals omega
theorem frI_flip (a b : Int) : frI b a = -frI a b := by
  unfold frI
  repeat' split
  all_goals omega
theorem nw_flip (a b : Hd) : nw b a = -nw a b := by
  unfold nw
  by_cases h : a.seq = b.seq
  · by_cases h2 : a.sum = b.sum
    · rw [if_neg (by simp [h]), if_neg (by simp [h2]), if_neg (by simp [h]), if_neg (by simp [h2]), frI_flip]
    · rw [if_neg (by simp [h]), if_pos (fun e => h2 e.symm), if_neg (by simp [h]), if_pos h2, cmpI_flip]
  · rw [if_pos (fun e => h e.symm), if_pos h, cmpI_flip]
theorem nw_self (a : Hd) : nw a a = 0 := by
  have := nw_flip a a
  omega
theorem cmpI_one (a b : Int) : cmpI a b = 1 ↔ b < a := by
  unfold cmpI
  repeat' split
  all_goals omega
theorem frI_one {a b : Int} (ha : 0 ≤ a) (ha' : a ≤ 60) (hb : 0 ≤ b) (hb' : b ≤ 60) : frI a b = 1 ↔ (a = 60 ∧ b ≠ 60) ∨ (b ≠ 60 ∧ a + 6 < b) := by
  unfold frI
  repeat' split
  all_goals omega
theorem nw_one {a b : Hd} (ha : ageB a = true) (hb : ageB b = true) :
    nw a b = 1 ↔ b.seq < a.seq ∨ (a.seq = b.seq ∧ (b.sum < a.sum ∨ (a.sum = b.sum ∧ ((a.age = 60 ∧ b.age ≠ 60) ∨ (b.age ≠ 60 ∧ a.age + 6 < b.age))))) := by
  rw [ageB_iff] at ha hb
  unfold nw
  by_cases h : a.seq = b.seq
  · by_cases h2 : a.sum = b.sum
    · rw [if_neg (by simp [h]), if_neg (by simp [h2]), frI_one ha.1 ha.2 hb.1 hb.2]
      omega
    · rw [if_neg (by simp [h]), if_pos h2, cmpI_one]
      omega
  · rw [if_pos h, cmpI_one]
    omega
theorem nw_trans {a b c : Hd} (ha : ageB a = true) (hb : ageB b = true) (hc : ageB c = true) (h1 : nw a b = 1) (h2 : nw b c = 1) : nw a c = 1 := by
  rw [nw_one ha hb] at h1
  rw [nw_one hb hc] at h2
  rw [nw_one ha hc]
  rw [ageB_iff] at ha hb hc
  omega
theorem nw_seq {a b : Hd} (h : b.seq < a.seq) : nw a b = 1 := by
  unfold nw
  rw [if_pos (by omega), cmpI_one]
  exact h
theorem nw_three (a b : Hd) : nw a b = 1 ∨ nw a b = 0 ∨ nw a b = -1 := by
  unfold nw cmpI frI
  repeat' split
  all_goals omega

open Go.RowKit

theorem isNaN_no (x : Int) (w : World) : Calls Try.prog 78 #[.int .i64 x] w fun e w' => e = .returned (.bool false) ∧ w = w' := by
  have hd : (x != x) = false := by simp
  go_enter Try.func78, Try.ntmps78
  go_wp2
  go_ret
  exact ⟨rfl, rfl⟩

set_option maxHeartbeats 1000000 in
theorem compare_any (a b : Int) (w : World) : Calls Try.prog 58 #[.int .i64 a, .int .i64 b] w fun e w' => e = .returned (.int .i64 (cmpI a b)) ∧ w = w' := by
  generalize hv : cmpI a b = v
  have HV := Lib.hid hv
  clear hv
  go_enter Try.func58, Try.ntmps58
  go_wp2_with fail
  refine (isNaN_no _ _).mono ?_
  rintro e1 w1 ⟨rfl, rfl⟩
  go_wp2_with fail
  refine (isNaN_no _ _).mono ?_
  rintro e2 w2 ⟨rfl, rfl⟩
  by_cases h : a < b
  · obtain rfl : v = -1 := by rw [← HV.out, cmpI, if_pos h]
    go_wp2
    go_ret
    exact ⟨rfl, rfl⟩
  · by_cases h2 : b < a
    · obtain rfl : v = 1 := by rw [← HV.out, cmpI, if_neg h, if_pos h2]
      go_wp2
      go_ret
      exact ⟨rfl, rfl⟩
    · obtain rfl : v = 0 := by rw [← HV.out, cmpI, if_neg h, if_neg h2]
      go_wp2
      go_ret
      exact ⟨rfl, rfl⟩

theorem far_any (a b : Int) (w : World) (ha : 0 ≤ a) (ha' : a ≤ 60) (hb : 0 ≤ b) (hb' : b ≤ 60) : Calls Try.prog 60 #[.int .i64 a, .int .i64 b] w fun e w' => e = .returned (.bool (decide (a + 6 < b))) ∧ w = w' := by
  by_cases h : a < b
  · have HI := Lib.hid (show decide (a + 6 < b) = decide (6 < b - a) by rw [decide_eq_decide]; omega)
    go_enter Try.func60, Try.ntmps60
    go_wp2
    go_ret
    exact ⟨ret_bool HI.out.symm, rfl⟩
  · have HI := Lib.hid (show decide (a + 6 < b) = false by simp; omega)
    go_enter Try.func60, Try.ntmps60
    go_wp2
    go_ret
    exact ⟨ret_bool HI.out.symm, rfl⟩

/-- Are ages more than 6 apart? -/
def farB (a b : Int) : Bool := decide (a + 6 < b) || decide (b + 6 < a)
set_option maxHeartbeats 1000000 in
theorem apart_any (a b : Int) (w : World) (ha : 0 ≤ a) (ha' : a ≤ 60) (hb : 0 ≤ b) (hb' : b ≤ 60) : Calls Try.prog 79 #[.int .i64 a, .int .i64 b] w fun e w' => e = .returned (.bool (farB a b)) ∧ w = w' := by
  generalize hv : farB a b = v
  have HV := Lib.hid hv
  clear hv
  go_enter Try.func79, Try.ntmps79
  go_wp2
  all_goals (go_ret; exact ⟨ret_bool (a := decide (6 < max a b - min a b)) (by rw [← HV.out, farB, Bool.eq_iff_iff]; simp; omega), rfl⟩)
theorem farB_no {a b : Int} (h : farB a b = false) : ¬ a + 6 < b ∧ ¬ b + 6 < a := by
  unfold farB at h
  rw [Bool.or_eq_false_iff, decide_eq_false_iff_not, decide_eq_false_iff_not] at h
  exact h
theorem farB_yes {a b : Int} (h : farB a b = true) : a + 6 < b ∨ b + 6 < a := by
  unfold farB at h
  rw [Bool.or_eq_true, decide_eq_true_iff, decide_eq_true_iff] at h
  exact h
theorem frI_far {a b : Int} (h1 : a ≠ 60) (h2 : b ≠ 60) (h : farB a b = true) : cmpI b a = frI a b := by
  have := farB_yes h
  unfold frI cmpI
  repeat' split
  all_goals omega
theorem frI_near {a b : Int} (h1 : a ≠ 60) (h2 : b ≠ 60) (h : farB a b = false) : frI a b = 0 := by
  have := farB_no h
  unfold frI
  repeat' split
  all_goals omega

set_option maxHeartbeats 2000000 in
theorem fresher_any (a b : Int) (w : World) (ha : 0 ≤ a) (ha' : a ≤ 60) (hb : 0 ≤ b) (hb' : b ≤ 60) : Calls Try.prog 59 #[.int .i64 a, .int .i64 b] w fun e w' => e = .returned (.int .i64 (frI a b)) ∧ w = w' := by
  generalize hv : frI a b = v
  have HV := Lib.hid hv
  clear hv
  go_enter Try.func59, Try.ntmps59
  by_cases h1 : a = 60
  · subst h1
    by_cases h2 : b = 60
    · subst h2
      obtain rfl : v = 0 := HV.out.symm
      go_wp2_with fail
      refine (apart_any _ _ _ (by omega) (by omega) (by omega) (by omega)).mono ?_
      rintro e1 w1 ⟨rfl, rfl⟩
      have hf : farB 60 60 = false := rfl
      rw [hf]
      go_wp2
      go_ret
      exact ⟨rfl, rfl⟩
    · obtain rfl : v = 1 := by rw [← HV.out, frI, if_pos ⟨rfl, h2⟩]
      go_wp2
      go_ret
      exact ⟨rfl, rfl⟩
  · by_cases h2 : b = 60
    · subst h2
      obtain rfl : v = -1 := by rw [← HV.out, frI, if_neg (by simp), if_pos ⟨rfl, h1⟩]
      go_wp2
      go_ret
      exact ⟨rfl, rfl⟩
    · go_wp2_with fail
      refine (apart_any _ _ _ ha ha' hb hb').mono ?_
      rintro e1 w1 ⟨rfl, rfl⟩
      cases hf : farB a b
      · obtain rfl : v = 0 := by rw [← HV.out, frI_near h1 h2 hf]
        go_wp2
        go_ret
        exact ⟨rfl, rfl⟩
      · have HC := Lib.hid (show cmpI b a = v by rw [← HV.out, frI_far h1 h2 hf])
        go_wp2_with fail
        refine (compare_any _ _ _).mono ?_
        rintro e2 w2 ⟨rfl, rfl⟩
        rw [HC.out]
        go_wp2
        go_ret
        exact ⟨rfl, rfl⟩

set_option maxRecDepth 8000 in
set_option maxHeartbeats 4000000 in
theorem newer_any (a b : Hd) (w : World) (ha : ageB a = true) (hb : ageB b = true) : Calls Try.prog 39 #[.agg #[.int .i64 a.age, .int .i64 a.kind, .int .i64 a.id, .int .i64 a.adv, .int .i64 a.seq, .int .i64 a.sum, .int .i64 a.long], .agg #[.int .i64 b.age, .int .i64 b.kind, .int .i64 b.id, .int .i64 b.adv, .int .i64 b.seq, .int .i64 b.sum, .int .i64 b.long]] w
    fun e w' => e = .returned (.int .i64 (nw a b)) ∧ Below w.heap.size w w' := by
  rw [ageB_iff] at ha hb
  obtain ⟨a1, a2⟩ := ha
  obtain ⟨b1, b2⟩ := hb
  generalize hv : nw a b = v
  have HV := Lib.hid hv
  clear hv
  have B0 := Lib.hid (((Below.refl w.heap.size w).alloc (Nat.le_refl _) (.cells #[.int .i64 a.age, .int .i64 a.kind, .int .i64 a.id, .int .i64 a.adv, .int .i64 a.seq, .int .i64 a.sum, .int .i64 a.long] 38)).alloc (by simp) (.cells #[.int .i64 b.age, .int .i64 b.kind, .int .i64 b.id, .int .i64 b.adv, .int .i64 b.seq, .int .i64 b.sum, .int .i64 b.long] 38))
  go_enter Try.func39, Try.ntmps39
  by_cases h1 : a.seq = b.seq
  · have d1 : (a.seq != b.seq) = false := by simp [h1]
    by_cases h2 : a.sum = b.sum
    · have d2 : (a.sum != b.sum) = false := by simp [h2]
      have HC := Lib.hid (show frI a.age b.age = v by rw [← HV.out, nw, if_neg (by simp [h1]), if_neg (by simp [h2])])
      clear h1 h2
      go_wp2_with fail
      refine (fresher_any _ _ _ a1 a2 b1 b2).mono ?_
      rintro e2 w2 ⟨rfl, rfl⟩
      rw [HC.out]
      go_wp2
      go_ret
      exact ⟨rfl, B0.out⟩
    · have d2 : (a.sum != b.sum) = true := by simp [h2]
      have HC := Lib.hid (show cmpI a.sum b.sum = v by rw [← HV.out, nw, if_neg (by simp [h1]), if_pos h2])
      clear h1 h2
      go_wp2_with fail
      refine (compare_any _ _ _).mono ?_
      rintro e2 w2 ⟨rfl, rfl⟩
      rw [HC.out]
      go_wp2
      go_ret
      exact ⟨rfl, B0.out⟩
  · have d1 : (a.seq != b.seq) = true := by simp [h1]
    have HC := Lib.hid (show cmpI a.seq b.seq = v by rw [← HV.out, nw, if_pos h1])
    clear h1
    go_wp2_with fail
    refine (compare_any _ _ _).mono ?_
    rintro e2 w2 ⟨rfl, rfl⟩
    rw [HC.out]
    go_wp2
    go_ret
    exact ⟨rfl, B0.out⟩

set_option maxRecDepth 8000 in
set_option maxHeartbeats 4000000 in
theorem refNewer_any (a b : Hd) (w : World) (ha : ageB a = true) (hb : ageB b = true) : Calls Try.prog 41 #[.agg #[.int .i64 a.age, .int .i64 a.kind, .int .i64 a.id, .int .i64 a.adv, .int .i64 a.seq, .int .i64 a.sum, .int .i64 a.long], .agg #[.int .i64 b.age, .int .i64 b.kind, .int .i64 b.id, .int .i64 b.adv, .int .i64 b.seq, .int .i64 b.sum, .int .i64 b.long]] w
    fun e w' => e = .returned (.int .i64 (nw a b)) ∧ Below w.heap.size w w' := by
  rw [ageB_iff] at ha hb
  obtain ⟨a1, a2⟩ := ha
  obtain ⟨b1, b2⟩ := hb
  generalize hv : nw a b = v
  have HV := Lib.hid hv
  clear hv
  have B0 := Lib.hid (((Below.refl w.heap.size w).alloc (Nat.le_refl _) (.cells #[.int .i64 a.age, .int .i64 a.kind, .int .i64 a.id, .int .i64 a.adv, .int .i64 a.seq, .int .i64 a.sum, .int .i64 a.long] 38)).alloc (by simp) (.cells #[.int .i64 b.age, .int .i64 b.kind, .int .i64 b.id, .int .i64 b.adv, .int .i64 b.seq, .int .i64 b.sum, .int .i64 b.long] 38))
  go_enter Try.func41, Try.ntmps41
  by_cases h1 : a.seq = b.seq
  · have d1 : (a.seq != b.seq) = false := by simp [h1]
    by_cases h2 : a.sum = b.sum
    · have d2 : (a.sum != b.sum) = false := by simp [h2]
      have HC := Lib.hid (show frI a.age b.age = v by rw [← HV.out, nw, if_neg (by simp [h1]), if_neg (by simp [h2])])
      clear h1 h2
      by_cases h3 : a.age = 60
      · have d3 : (a.age == 60) = true := by simp [h3]
        have d3' : (a.age != 60) = false := by simp [h3]
        by_cases h4 : b.age = 60
        · have d4 : (b.age == 60) = true := by simp [h4]
          have d4' : (b.age != 60) = false := by simp [h4]
          obtain rfl : v = 0 := by rw [← HC.out, h3, h4]; rfl
          have HF := Lib.hid (show decide (a.age + 6 < b.age) = false by simp; omega)
          have HF2 := Lib.hid (show decide (b.age + 6 < a.age) = false by simp; omega)
          clear h3 h4
          go_wp2_with fail
          refine (far_any _ _ _ a1 a2 b1 b2).mono ?_
          rintro e2 w2 ⟨rfl, rfl⟩
          rw [HF.out]
          go_wp2_with fail
          refine (far_any _ _ _ b1 b2 a1 a2).mono ?_
          rintro e2 w2 ⟨rfl, rfl⟩
          rw [HF2.out]
          go_wp2
          go_ret
          exact ⟨rfl, B0.out⟩
        · have d4 : (b.age == 60) = false := by simp [h4]
          have d4' : (b.age != 60) = true := by simp [h4]
          obtain rfl : v = 1 := by rw [← HC.out, frI, if_pos ⟨h3, h4⟩]
          clear h3 h4
          go_wp2
          go_ret
          exact ⟨rfl, B0.out⟩
      · have d3 : (a.age == 60) = false := by simp [h3]
        have d3' : (a.age != 60) = true := by simp [h3]
        by_cases h4 : b.age = 60
        · have d4 : (b.age == 60) = true := by simp [h4]
          obtain rfl : v = -1 := by rw [← HC.out, frI, if_neg (by omega), if_pos ⟨h4, h3⟩]
          clear h3 h4
          go_wp2
          go_ret
          exact ⟨rfl, B0.out⟩
        · have d4 : (b.age == 60) = false := by simp [h4]
          have H3 := Lib.hid h3
          have H4 := Lib.hid h4
          clear h3 h4
          go_wp2_with fail
          refine (far_any _ _ _ a1 a2 b1 b2).mono ?_
          rintro e2 w2 ⟨rfl, rfl⟩
          by_cases h5 : a.age + 6 < b.age
          · rw [decide_eq_true h5]
            obtain rfl : v = 1 := by rw [← HC.out, frI, if_neg (fun e => H3.out e.1), if_neg (fun e => H4.out e.1), if_pos h5]
            go_wp2
            go_ret
            exact ⟨rfl, B0.out⟩
          · rw [decide_eq_false h5]
            go_wp2_with fail
            refine (far_any _ _ _ b1 b2 a1 a2).mono ?_
            rintro e2 w2 ⟨rfl, rfl⟩
            by_cases h6 : b.age + 6 < a.age
            · rw [decide_eq_true h6]
              obtain rfl : v = -1 := by rw [← HC.out, frI, if_neg (fun e => H3.out e.1), if_neg (fun e => H4.out e.1), if_neg (by omega), if_pos h6]
              go_wp2
              go_ret
              exact ⟨rfl, B0.out⟩
            · rw [decide_eq_false h6]
              obtain rfl : v = 0 := by rw [← HC.out, frI, if_neg (fun e => H3.out e.1), if_neg (fun e => H4.out e.1), if_neg (by omega), if_neg (by omega)]
              go_wp2
              go_ret
              exact ⟨rfl, B0.out⟩
    · have d2 : (a.sum != b.sum) = true := by simp [h2]
      have HC := Lib.hid (show cmpI a.sum b.sum = v by rw [← HV.out, nw, if_neg (by simp [h1]), if_pos h2])
      clear h1
      by_cases h3 : b.sum < a.sum
      · obtain rfl : v = 1 := by rw [← HC.out, cmpI_one]; exact h3
        go_wp2
        go_ret
        exact ⟨rfl, B0.out⟩
      · obtain rfl : v = -1 := by rw [← HC.out, cmpI, if_pos (by omega)]
        go_wp2
        go_ret
        exact ⟨rfl, B0.out⟩
  · have d1 : (a.seq != b.seq) = true := by simp [h1]
    have HC := Lib.hid (show cmpI a.seq b.seq = v by rw [← HV.out, nw, if_pos h1])
    by_cases h3 : b.seq < a.seq
    · obtain rfl : v = 1 := by rw [← HC.out, cmpI_one]; exact h3
      go_wp2
      go_ret
      exact ⟨rfl, B0.out⟩
    · obtain rfl : v = -1 := by rw [← HC.out, cmpI, if_pos (by omega)]
      go_wp2
      go_ret
      exact ⟨rfl, B0.out⟩
end Go.Proofs.Ytnnkcgbnhjkahaa
