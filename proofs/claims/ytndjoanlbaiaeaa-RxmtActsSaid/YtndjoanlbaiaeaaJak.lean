/- The program's Ask of what is wanted. Conditions: at most 100000 heads. · A head, and a description, that came in, opened. No conditions. · Integers with their bounds, and slices of structs, that came in. No conditions. · Keys, and acts, that came in. No conditions. · The program's Answer: the descriptions of keys, as a database has them. Conditions: at most 1000 keys, of 64 bits. · The walk of the statement WantsNil. Conditions: a key of 64 bits. -/
import Derived.Sort.Lot0
import Derived.Sort.LotA
import Derived.StillTailTactics
import Derived.Deep.DeepCutAuto
import Derived.WalkKit
import Derived.WalkLawsBesides
import Derived.Deep.QuietTactic
import Derived.BigQuiet
import Derived.Lib.Hide
import Derived.OpenShut
import Derived.Deep.MidRow
import Derived.Deep.Slices
import Derived.Deep.Fields
import Derived.IntWalk
import Derived.Test.YtndjoanlbaiaeaaChecked
import Derived.Test.YtndjoanlbaiaeaaJai
import Derived.Test.YtndjoanlbaiaeaaJah
import Derived.Test.YtndjoanlbaiaeaaJaj
import Derived.Test.YtndjoanlbaiaeaaJaf
import Derived.Test.YtndjoanlbaiaeaaJae
import Derived.Test.YtndjoanlbaiaeaaJaa
import Derived.Test.YtndjoanlbaiaeaaJag
namespace Go.Proofs.Ytndjoanlbaiaeaa
open Go.RowKit Go.Lib Go.Sort Go.Deep

theorem own_capA {w : World} {base n c size : Nat} {t : TypeId} {A : Option Addr} {xs : List Value} (h : w.ownsRow base t size (.slice A n c) n xs) : n ≤ c ∧ c ≤ maxLen := by
  rcases h.2 with ⟨hv, hn⟩ | ⟨g, cap, cur, hv, hb, hg, h1, h2, h3⟩
  · injection hv with e1 e2 e3
    subst e2 e3
    exact ⟨Nat.le_refl _, Nat.zero_le _⟩
  · cases hv
    exact ⟨h1, h2⟩
theorem infoKy : (Try.prog.info? 34).map (fun i => (i.zero, i.size, i.bytes)) = some (some (.agg #[.int .i64 0, .int .i64 0, .int .i64 0]), 3, 24) := by kernel_rfl
theorem wpList_app_kyW {wb : World} {ops : Array Oper} {rest : List Oper} {o : Oper} {a : Act} {Q : Exit → Act → World → Prop} (hgd : o.guard = none) (s x : Operand) (ho : o.op = .call { callee := .builtin .append, args := #[s, x], argTypes := #[30, 30] })
    {base n c : Nat} {A : Option Addr} {L : List Ky} (y : Ky) (hs : a.eval s = .slice A n c) (hx : a.eval x = .slice (some ⟨wb.heap.size, 0, none⟩) 1 1) (hown : wb.ownsRow base 34 3 (.slice A n c) n (kyCells L)) (hn : n ≤ 1000) (hbase : base ≤ wb.heap.size)
    (h : ∀ A' c' w', Hid (w'.ownsRow base 34 3 (.slice A' (n + 1) c') (n + 1) (kyCells (L ++ [y]))) → Hid (Below base wb w') → wpList Try.prog ops Q rest (a.put o.dst (.slice A' (n + 1) c')) w') : wpList Try.prog ops Q (o :: rest) a (wb.alloc (.cells #[.int .i64 y.kind, .int .i64 y.id, .int .i64 y.adv] 34)) := by
  refine wpList_append_any hgd s x 30 34 (.agg #[.int .i64 0, .int .i64 0, .int .i64 0]) 3 24 Try.underlying30 infoKy rfl (by decide) (by decide) ho base (.slice A n c) n (kyCells L) hs (hown.alloc _) (some ⟨wb.heap.size, 0, none⟩) 1 1 [.int .i64 y.kind, .int .i64 y.id, .int .i64 y.adv] hx rfl (fun h => by cases h) (news_new wb 34 [.int .i64 y.kind, .int .i64 y.id, .int .i64 y.adv]) (fun u hu => kyCells_ones [y] u (by simpa [kyCells] using hu)) (by omega) (by simp; omega) ?_
  intro v2 w2 ho2 hg2
  obtain ⟨A2, c2, rfl⟩ := own_slice ho2.out
  refine h A2 c2 w2 (Lib.hid ?_) (Lib.hid ?_)
  · rw [kyCells_append, show kyCells [y] = [.int .i64 y.kind, .int .i64 y.id, .int .i64 y.adv] by simp [kyCells]]
    exact ho2.out
  · exact ((Below.refl base wb).alloc hbase _).trans (own_keeps7 (hown.alloc _) hg2.out (by simp; omega))

end Go.Proofs.Ytndjoanlbaiaeaa
namespace Go.Proofs.Ytndjoanlbaiaeaa
open Go.ChangeShapes Go.WideShapes Go.RowKit Go.Deep
set_option maxRecDepth 20000

theorem Try.cells3 : Try.prog.cellsOf 3 = 1 := by kernel_rfl
section
variable {H : Type} {enc : TypeId × Value → H} {w : World} {base : Nat} {held : Bool} {fuel : Nat}
end
end Go.Proofs.Ytndjoanlbaiaeaa
namespace Go.Proofs.Ytndjoanlbaiaeaa
open Go.ChangeShapes Go.WideShapes Go.RowKit Go.Deep
set_option maxRecDepth 20000

section
variable {H : Type} {enc : TypeId × Value → H} {w : World} {base : Nat} {held : Bool} {fuel : Nat}
theorem int_cameB {c : Value} {y : Option (DataW H × List MemPlace)} {spare : Nat → Bool} (hy : y.isSome = true) (h : DataW.trod enc Try.prog w base spare held fuel 3 [c] = y) : ∃ z, c = .int .i64 z ∧ -9223372036854775808 ≤ z ∧ z ≤ 9223372036854775807 := by
  obtain ⟨x, rfl⟩ := Option.isSome_iff_exists.1 hy
  obtain ⟨z, hz, _, hw⟩ := DataW.trod_int Try.underlying3 h
  simp at hz
  have := bounds_i64 hw
  exact ⟨z, hz, by omega, by omega⟩
/-- A slice of structs that came in. -/
theorem arr_came {α : Type} {sz t te : Nat} {P : World → Nat → Nat → Nat → α → Prop} {v : Value} {x : DataW H × List MemPlace} (d0 : α) (ht : Try.prog.underlying t = some (.slice te)) (hsz : Try.prog.cellsOf te = sz) (hpos : 0 < sz)
    (hP : ∀ (n : Nat) (a : Addr) (cs : List Value) (y : DataW H × List MemPlace), (∀ i, i < sz → w.cell? (a.add i) = cs[i]?) → DataW.trod enc Try.prog w base (fun _ => true) held n te cs = some y → a.spot = none → ∃ k, P w w.heap.size a.block a.off k)
    (h : DataW.trod enc Try.prog w base (fun _ => true) held fuel t [v] = some x) :
    ∃ A n c L, v = .slice A n c ∧ Arr sz P w w.heap.size A n L ∧ n ≤ c ∧ c ≤ maxLen := by
  rcases open_slice ht h with ⟨hcs, _⟩ | ⟨a, len, cap, m, n, D, Pl, hcs, _, hl, hm, hmm, _, hi⟩
  · simp at hcs
    subst hcs
    exact ⟨none, 0, 0, [], rfl, Arr.nil, Nat.le_refl _, by unfold maxLen; omega⟩
  · simp at hcs
    subst hcs
    simp at hmm
    subst hmm
    rw [hsz] at hi
    have hk : ∀ i, i < m → (a.add (i * sz)).spot = none ∧ (a.add (i * sz)).block < w.heap.size ∧ ∃ k, P w w.heap.size (a.add (i * sz)).block (a.add (i * sz)).off k := by
      intro i him
      obtain ⟨cs', hc, htr⟩ := hi i him
      obtain ⟨_, hcl, hat⟩ := World.cells?_some hc
      have h0 := hat 0 hpos
      have e : (a.add (i * sz)).add 0 = a.add (i * sz) := by
        unfold Addr.add
        split <;> simp_all
      rw [e] at h0
      rw [List.getElem?_eq_getElem (by omega)] at h0
      have hsp := World.cell?_spot h0
      exact ⟨hsp, World.block_lt_of_cell? w _ h0, hP _ _ _ _ hat htr hsp⟩
    have hsp : 0 < m → a.spot = none := fun h0 => by simpa [Addr.add] using (hk 0 h0).1
    obtain ⟨F, hF⟩ : ∃ F : Nat → α, ∀ i, i < m → P w w.heap.size (a.add (i * sz)).block (a.add (i * sz)).off (F i) := by
      refine ⟨fun i => if hi : i < m then Classical.choose (hk i hi).2.2 else d0, fun i him => ?_⟩
      simp only [him, dif_pos]
      exact Classical.choose_spec (hk i him).2.2
    refine ⟨some a, len, m, (List.range len).map F, rfl, ⟨by simp, fun hn => ?_⟩, hl, hm⟩
    obtain ⟨b, o, spot⟩ := a
    have hspot : spot = none := hsp (by omega)
    subst hspot
    have hb := (hk 0 (by omega)).2.1
    simp only [addr_add] at hb hF
    refine ⟨b, o, rfl, hb, fun j y hy => ?_⟩
    rw [List.getElem?_map] at hy
    have hj : j < len := by
      rcases Nat.lt_or_ge j len with h | h
      · exact h
      · rw [List.getElem?_eq_none (by simpa using h)] at hy
        cases hy
    rw [List.getElem?_range hj] at hy
    obtain rfl : F j = y := by simpa using hy
    exact hF j (by omega)
end
end Go.Proofs.Ytndjoanlbaiaeaa
namespace Go.Proofs.Ytndjoanlbaiaeaa
open Go.ChangeShapes Go.WideShapes Go.RowKit Go.Deep
set_option maxRecDepth 20000

theorem cellsKy15 : Try.prog.cellsOf 34 = 3 := by kernel_rfl
/-- What an act is: what is done, with which heads. -/
structure Ac15 where
  kind : Int
  L : List Hd
/-- From place p of block b on there lies an act. -/
def AcAt15 (w : World) (B b p : Nat) (a : Ac15) : Prop :=
  w.cell? ⟨b, p, none⟩ = some (.int .i64 a.kind) ∧ ∃ A n c, w.cell? ⟨b, p + 1, none⟩ = some (.slice A n c) ∧ Hds w B A n a.L ∧ (∀ h ∈ a.L, wfKy (keyH h)) ∧ n ≤ c ∧ c ≤ maxLen
def Acs15 (w : World) (B : Nat) (A : Option Addr) (n : Nat) (L : List Ac15) : Prop := Arr 2 AcAt15 w B A n L
theorem AcAt15.below {w w' : World} {B b p : Nat} {a : Ac15} (h : AcAt15 w B b p a) (hb : b < B) (hw : Below B w w') : AcAt15 w' B b p a := by
  obtain ⟨h1, A, n, c, h2, h3, h4, h5, h6⟩ := h
  exact ⟨(hw.cell (p := ⟨b, p, none⟩) hb).trans h1, A, n, c, (hw.cell (p := ⟨b, p + 1, none⟩) hb).trans h2, h3.below hw, h4, h5, h6⟩
theorem Acs15.below {w w' : World} {B n : Nat} {A : Option Addr} {L : List Ac15} (h : Acs15 w B A n L) (hw : Below B w w') : Acs15 w' B A n L := by
  refine ⟨h.1, fun hn => ?_⟩
  obtain ⟨b, o, e, hb, hat⟩ := h.2 hn
  exact ⟨b, o, e, hb, fun j x hx => (hat j x hx).below hb hw⟩
section
variable {H : Type} {enc : TypeId × Value → H} {w : World} {base : Nat} {held : Bool} {fuel : Nat}
theorem key_came15 {cs : List Value} {x : DataW H × List MemPlace} {spare : Nat → Bool} (h : DataW.trod enc Try.prog w base spare held fuel 34 cs = some x) :
    ∃ k : Ky, cs = [.int .i64 k.kind, .int .i64 k.id, .int .i64 k.adv] ∧ wfKy k := by
  obtain ⟨xs, n, _, _, hcl, hlen, hg⟩ := DataW.trod_struct Try.underlying34 h
  rw [cellsKy15] at hcl
  have g0 : DataW.trod enc Try.prog w base spare held n 3 ((cs.drop 0).take (Try.prog.cellsOf 3)) = xs[0]? := hg 0 _ rfl
  have g1 : DataW.trod enc Try.prog w base spare held n 3 ((cs.drop 1).take (Try.prog.cellsOf 3)) = xs[1]? := hg 1 _ rfl
  have g2 : DataW.trod enc Try.prog w base spare held n 3 ((cs.drop 2).take (Try.prog.cellsOf 3)) = xs[2]? := hg 2 _ rfl
  rw [Try.cells3] at g0 g1 g2
  match cs, hcl, xs, hlen with
  | [c0, c1, c2], _, [y0, y1, y2], _ =>
    obtain ⟨z0, rfl, b0, b0'⟩ := int_cameB rfl g0
    obtain ⟨z1, rfl, b1, b1'⟩ := int_cameB rfl g1
    obtain ⟨z2, rfl, b2, b2'⟩ := int_cameB rfl g2
    exact ⟨⟨z0, z1, z2⟩, rfl, ⟨b0, b0'⟩, ⟨b1, b1'⟩, b2, b2'⟩
/-- From place p of block b on there lies a key of 64 bits. -/
def KyW15 (w : World) (B b p : Nat) (k : Ky) : Prop := KyAt w B b p k ∧ wfKy k
theorem kys_came15 {v : Value} {x : DataW H × List MemPlace} (h : DataW.trod enc Try.prog w base (fun _ => true) held fuel 30 [v] = some x) :
    ∃ A n c L, v = .slice A n c ∧ (Kys w w.heap.size A n L ∧ ∀ k ∈ L, wfKy k) ∧ n ≤ c ∧ c ≤ maxLen := by
  obtain ⟨A, n, c, L, rfl, hA, hc, hm⟩ := arr_came (P := KyW15) ⟨0, 0, 0⟩ Try.underlying30 cellsKy15 (by omega) (fun n a cs y hat htr hsp => by
    obtain ⟨k, rfl, hw⟩ := key_came15 htr
    obtain ⟨b, o, spot⟩ := a
    obtain rfl : spot = none := hsp
    simp only [addr_add] at hat
    exact ⟨k, ⟨hat 0 (by omega), hat 1 (by omega), hat 2 (by omega), hw.2.1.1, hw.2.1.2⟩, hw⟩) h
  refine ⟨A, n, c, L, rfl, ⟨⟨hA.1, fun hn => by
    obtain ⟨b, o, e, hb, hat⟩ := hA.2 hn
    exact ⟨b, o, e, hb, fun j x hx => (hat j x hx).1⟩⟩, fun k hk => ?_⟩, hc, hm⟩
  obtain ⟨j, hj⟩ := List.getElem?_of_mem hk
  have hjl := (List.getElem?_eq_some_iff.1 hj).1
  obtain ⟨b, o, e, hb, hat⟩ := hA.2 (by have := hA.1; omega)
  exact (hat j k hj).2
end
end Go.Proofs.Ytndjoanlbaiaeaa
namespace Go.Proofs.Ytndjoanlbaiaeaa
open Go.RowKit Go.Lib Go.Sort Go.Deep

/-- A list of keys, item k of it. -/
theorem kys_item {w : World} {B n k : Nat} {A : Option Addr} {K : List Ky} (h : Kys w B A n K) (hk : k < n) : ∃ (b o : Nat) (x : Ky), A = some ⟨b, o, none⟩ ∧ b < B ∧ K[k]? = some x ∧ w.cell? ⟨b, o + k * 3, none⟩ = some (.int .i64 x.kind) ∧ w.cell? ⟨b, o + k * 3 + 1, none⟩ = some (.int .i64 x.id) ∧ w.cell? ⟨b, o + k * 3 + 2, none⟩ = some (.int .i64 x.adv) := by
  obtain ⟨b, o, x, rfl, hb, hx, hh⟩ := Arr.at h hk
  exact ⟨b, o, x, rfl, hb, hx, hh.1, hh.2.1, hh.2.2.1⟩
end Go.Proofs.Ytndjoanlbaiaeaa
namespace Go.Proofs.Ytndjoanlbaiaeaa
open Go.RowKit Go.Lib Go.Sort Go.Deep

theorem kys_one (w : World) (k : Ky) (hk : wfKy k) : Kys (w.alloc (.cells #[.int .i64 k.kind, .int .i64 k.id, .int .i64 k.adv] 34)) (w.heap.size + 1) (some ⟨w.heap.size, 0, none⟩) 1 [k] := by
  refine ⟨rfl, fun _ => ⟨w.heap.size, 0, rfl, Nat.lt_succ_self _, fun j x hx => ?_⟩⟩
  have hj : j = 0 := by
    have := (List.getElem?_eq_some_iff.1 hx).1
    simp at this
    exact this
  subst hj
  injection hx with hx
  subst hx
  obtain ⟨k0, k1, k2⟩ := (Blk.new w 34 #[.int .i64 k.kind, .int .i64 k.id, .int .i64 k.adv]).three
  exact ⟨k0, k1, k2, hk.2.1.1, hk.2.1.2⟩
theorem kys_none (w : World) : Kys w 0 none 0 [] := ⟨rfl, fun h => absurd h (by omega)⟩
end Go.Proofs.Ytndjoanlbaiaeaa
