/- The reference's num, signed, headOf and GetHead. Conditions: the slice reads as bytes. · A head, and a description, that came in, opened. No conditions. · A packet that came in, opened. No conditions. · The reference's Fill. Conditions: the slice reads as bytes, at most 2^40 of them, and the place may be filled. -/
import Derived.Deep.Slices
import Derived.Deep.Fields
import Derived.OpenShut
import Derived.Test.YtekhgkkgmkodmaaGreatJai
import Derived.Test.YtekhgkkgmkodmaaGreatJaj
import Derived.Test.YtekhgkkgmkodmaaGreatJak
import Derived.Test.YtekhgkkgmkodmaaGreatJam
import Derived.Test.YtekhgkkgmkodmaaGreatJal
namespace Go.Proofs.YtekhgkkgmkodmaaGreat
open Go.RowKit

/-- What the reference's Get and GetHead answer. -/
def GotR (w : World) (h : Hd) (L : List Lk) (M : List Int) (e : Int) (x : Ending) (w' : World) : Prop :=
  ∃ A n c A' n' c', x = .returned (.agg #[.int .i64 h.age, .int .i64 h.kind, .int .i64 h.id, .int .i64 h.adv, .int .i64 h.seq, .int .i64 h.sum, .int .i64 h.long, .slice A n c, .slice A' n' c', .int .i64 e]) ∧ w'.ownsRow w.heap.size 86 4 (.slice A n c) n (lkCells L) ∧ L.length = n ∧ w'.ownsRow w.heap.size 3 1 (.slice A' n' c') n' (M.map (Value.int .i64)) ∧ M.length = n' ∧ Below w.heap.size w w'
theorem gotR_head {w w' : World} {h : Hd} {e : Int} (hb : Below w.heap.size w w') : GotR w h [] [] e (.returned (.agg #[.int .i64 h.age, .int .i64 h.kind, .int .i64 h.id, .int .i64 h.adv, .int .i64 h.seq, .int .i64 h.sum, .int .i64 h.long, .slice none 0 0, .slice none 0 0, .int .i64 e])) w' :=
  ⟨none, 0, 0, none, 0, 0, rfl, World.ownsRow_nil _ _ _ _, rfl, World.ownsRow_nil _ _ _ _, rfl, hb⟩

theorem Blk.ten {w : World} {g : Nat} {t : TypeId} {a0 a1 a2 a3 a4 a5 a6 a7 a8 a9 : Value} (h : Blk w g t #[a0, a1, a2, a3, a4, a5, a6, a7, a8, a9]) :
    w.cell? ⟨g, 0, none⟩ = some a0 ∧ w.cell? ⟨g, 1, none⟩ = some a1 ∧ w.cell? ⟨g, 2, none⟩ = some a2 ∧ w.cell? ⟨g, 3, none⟩ = some a3 ∧ w.cell? ⟨g, 4, none⟩ = some a4 ∧ w.cell? ⟨g, 5, none⟩ = some a5 ∧ w.cell? ⟨g, 6, none⟩ = some a6 ∧ w.cell? ⟨g, 7, none⟩ = some a7 ∧ w.cell? ⟨g, 8, none⟩ = some a8 ∧ w.cell? ⟨g, 9, none⟩ = some a9 :=
  ⟨h.cell 0, h.cell 1, h.cell 2, h.cell 3, h.cell 4, h.cell 5, h.cell 6, h.cell 7, h.cell 8, h.cell 9⟩
theorem Blk.tenF {w : World} {g : Nat} {t : TypeId} {cs : Array Value} (h : Blk w g t cs) :
    w.frozen? ⟨g, 0, none⟩ = false ∧ w.frozen? ⟨g, 1, none⟩ = false ∧ w.frozen? ⟨g, 2, none⟩ = false ∧ w.frozen? ⟨g, 3, none⟩ = false ∧ w.frozen? ⟨g, 4, none⟩ = false ∧ w.frozen? ⟨g, 5, none⟩ = false ∧ w.frozen? ⟨g, 6, none⟩ = false ∧ w.frozen? ⟨g, 7, none⟩ = false ∧ w.frozen? ⟨g, 8, none⟩ = false ∧ w.frozen? ⟨g, 9, none⟩ = false :=
  ⟨h.frozen 0, h.frozen 1, h.frozen 2, h.frozen 3, h.frozen 4, h.frozen 5, h.frozen 6, h.frozen 7, h.frozen 8, h.frozen 9⟩

end Go.Proofs.YtekhgkkgmkodmaaGreat
namespace Go.Proofs.YtekhgkkgmkodmaaGreat
open Go.ChangeShapes Go.WideShapes Go.RowKit Go.Deep
set_option maxRecDepth 20000

theorem Tryz.cells3 : Tryz.prog.cellsOf 3 = 1 := by kernel_rfl
theorem Tryz.cells23 : Tryz.prog.cellsOf 44 = 7 := by kernel_rfl
theorem Tryz.cells24 : Tryz.prog.cellsOf 45 = 1 := by kernel_rfl
theorem Tryz.cells25 : Tryz.prog.cellsOf 22 = 1 := by kernel_rfl
theorem Tryz.cells27 : Tryz.prog.cellsOf 47 = 9 := by kernel_rfl
theorem Tryz.cells53 : Tryz.prog.cellsOf 86 = 4 := by kernel_rfl

section
variable {H : Type} {enc : TypeId × Value → H} {w : World} {base : Nat} {held : Bool} {fuel : Nat}
theorem int_came {c : Value} {y : Option (DataW H × List MemPlace)} {spare : Nat → Bool} (hy : y.isSome = true) (h : DataW.trod enc Tryz.prog w base spare held fuel 3 [c] = y) : ∃ z, c = .int .i64 z := by
  obtain ⟨x, rfl⟩ := Option.isSome_iff_exists.1 hy
  obtain ⟨z, hz, _⟩ := DataW.trod_int Tryz.underlying3 h
  simp at hz
  exact ⟨z, hz⟩
/-- Seven integers that came in are a head. -/
theorem head_came {cs : List Value} {x : DataW H × List MemPlace} {spare : Nat → Bool} (h : DataW.trod enc Tryz.prog w base spare held fuel 44 cs = some x) :
    ∃ h : Hd, cs = [.int .i64 h.age, .int .i64 h.kind, .int .i64 h.id, .int .i64 h.adv, .int .i64 h.seq, .int .i64 h.sum, .int .i64 h.long] := by
  obtain ⟨xs, n, _, _, hcl, hlen, hg⟩ := DataW.trod_struct Tryz.underlying44 h
  rw [Tryz.cells23] at hcl
  have g0 : DataW.trod enc Tryz.prog w base spare held n 3 ((cs.drop 0).take (Tryz.prog.cellsOf 3)) = xs[0]? := hg 0 _ rfl
  have g1 : DataW.trod enc Tryz.prog w base spare held n 3 ((cs.drop 1).take (Tryz.prog.cellsOf 3)) = xs[1]? := hg 1 _ rfl
  have g2 : DataW.trod enc Tryz.prog w base spare held n 3 ((cs.drop 2).take (Tryz.prog.cellsOf 3)) = xs[2]? := hg 2 _ rfl
  have g3 : DataW.trod enc Tryz.prog w base spare held n 3 ((cs.drop 3).take (Tryz.prog.cellsOf 3)) = xs[3]? := hg 3 _ rfl
  have g4 : DataW.trod enc Tryz.prog w base spare held n 3 ((cs.drop 4).take (Tryz.prog.cellsOf 3)) = xs[4]? := hg 4 _ rfl
  have g5 : DataW.trod enc Tryz.prog w base spare held n 3 ((cs.drop 5).take (Tryz.prog.cellsOf 3)) = xs[5]? := hg 5 _ rfl
  have g6 : DataW.trod enc Tryz.prog w base spare held n 3 ((cs.drop 6).take (Tryz.prog.cellsOf 3)) = xs[6]? := hg 6 _ rfl
  rw [Tryz.cells3] at g0 g1 g2 g3 g4 g5 g6
  match cs, hcl, xs, hlen with
  | [c0, c1, c2, c3, c4, c5, c6], _, [y0, y1, y2, y3, y4, y5, y6], _ =>
    obtain ⟨z0, rfl⟩ := int_came rfl g0
    obtain ⟨z1, rfl⟩ := int_came rfl g1
    obtain ⟨z2, rfl⟩ := int_came rfl g2
    obtain ⟨z3, rfl⟩ := int_came rfl g3
    obtain ⟨z4, rfl⟩ := int_came rfl g4
    obtain ⟨z5, rfl⟩ := int_came rfl g5
    obtain ⟨z6, rfl⟩ := int_came rfl g6
    exact ⟨⟨z0, z1, z2, z3, z4, z5, z6⟩, rfl⟩
/-- Four integers that came in are a link. -/
theorem link_came {cs : List Value} {x : DataW H × List MemPlace} {spare : Nat → Bool} (h : DataW.trod enc Tryz.prog w base spare held fuel 86 cs = some x) :
    ∃ k : Lk, cs = [.int .i64 k.kind, .int .i64 k.id, .int .i64 k.data, .int .i64 k.cost] := by
  obtain ⟨xs, n, _, _, hcl, hlen, hg⟩ := DataW.trod_struct Tryz.underlying86 h
  rw [Tryz.cells53] at hcl
  have g0 : DataW.trod enc Tryz.prog w base spare held n 3 ((cs.drop 0).take (Tryz.prog.cellsOf 3)) = xs[0]? := hg 0 _ rfl
  have g1 : DataW.trod enc Tryz.prog w base spare held n 3 ((cs.drop 1).take (Tryz.prog.cellsOf 3)) = xs[1]? := hg 1 _ rfl
  have g2 : DataW.trod enc Tryz.prog w base spare held n 3 ((cs.drop 2).take (Tryz.prog.cellsOf 3)) = xs[2]? := hg 2 _ rfl
  have g3 : DataW.trod enc Tryz.prog w base spare held n 3 ((cs.drop 3).take (Tryz.prog.cellsOf 3)) = xs[3]? := hg 3 _ rfl
  rw [Tryz.cells3] at g0 g1 g2 g3
  match cs, hcl, xs, hlen with
  | [c0, c1, c2, c3], _, [y0, y1, y2, y3], _ =>
    obtain ⟨z0, rfl⟩ := int_came rfl g0
    obtain ⟨z1, rfl⟩ := int_came rfl g1
    obtain ⟨z2, rfl⟩ := int_came rfl g2
    obtain ⟨z3, rfl⟩ := int_came rfl g3
    exact ⟨⟨z0, z1, z2, z3⟩, rfl⟩
/-- A slice of links that came in. -/
theorem lnk_came {v : Value} {x : DataW H × List MemPlace} (h : DataW.trod enc Tryz.prog w base (fun _ => true) held fuel 45 [v] = some x) :
    ∃ A n c L, v = .slice A n c ∧ Lnk w w.heap.size A n L ∧ n ≤ c ∧ c ≤ maxLen := by
  rcases open_slice Tryz.underlying45 h with ⟨hcs, _⟩ | ⟨a, len, cap, m, n, D, Pl, hcs, _, hl, hm, hmm, _, hi⟩
  · simp at hcs
    subst hcs
    exact ⟨none, 0, 0, [], rfl, Lnk.nil, Nat.le_refl _, by unfold maxLen; omega⟩
  · simp at hcs
    subst hcs
    simp at hmm
    subst hmm
    rw [Tryz.cells53] at hi
    have hk : ∀ i, i < m → ∃ k : Lk, w.cell? (a.add (i * 4)) = some (.int .i64 k.kind) ∧ w.cell? ((a.add (i * 4)).add 1) = some (.int .i64 k.id) ∧ w.cell? ((a.add (i * 4)).add 2) = some (.int .i64 k.data) ∧ w.cell? ((a.add (i * 4)).add 3) = some (.int .i64 k.cost) := by
      intro i him
      obtain ⟨cs', hc, ht⟩ := hi i him
      obtain ⟨_, hcl, hat⟩ := World.cells?_some hc
      obtain ⟨k, rfl⟩ := link_came ht
      refine ⟨k, ?_, hat 1 (by omega), hat 2 (by omega), hat 3 (by omega)⟩
      have h0 := hat 0 (by omega)
      have e : (a.add (i * 4)).add 0 = a.add (i * 4) := by
        unfold Addr.add
        split <;> simp_all
      rw [e] at h0
      exact h0
    obtain ⟨F, hF⟩ : ∃ F : Nat → Lk, ∀ i, i < m → w.cell? (a.add (i * 4)) = some (.int .i64 (F i).kind) ∧ w.cell? ((a.add (i * 4)).add 1) = some (.int .i64 (F i).id) ∧ w.cell? ((a.add (i * 4)).add 2) = some (.int .i64 (F i).data) ∧ w.cell? ((a.add (i * 4)).add 3) = some (.int .i64 (F i).cost) := by
      refine ⟨fun i => if hi : i < m then Classical.choose (hk i hi) else ⟨0, 0, 0, 0⟩, fun i him => ?_⟩
      simp only [him, dif_pos]
      exact Classical.choose_spec (hk i him)
    refine ⟨some a, len, m, (List.range len).map F, rfl, ⟨by simp, fun hn => ?_⟩, hl, hm⟩
    obtain ⟨b, o, spot⟩ := a
    have hspot : spot = none := by simpa [Addr.add] using World.cell?_spot (hF 0 (by omega)).1
    subst hspot
    refine ⟨b, o, rfl, World.block_lt_of_cell? w _ (hF 0 (by omega)).1, fun j hj => ?_⟩
    have e : ((List.range len).map F).getD j ⟨0, 0, 0, 0⟩ = F j := by
      rw [List.getD_eq_getElem?_getD, List.getElem?_map, List.getElem?_range hj]; rfl
    rw [e]
    obtain ⟨h0, h1, h2, h3⟩ := hF j (by omega)
    simp only [addr_add] at h0 h1 h2 h3
    exact ⟨h0, h1, h2, h3⟩
/-- A slice of integers that came in. -/
theorem ints_came {v : Value} {x : DataW H × List MemPlace} (h : DataW.trod enc Tryz.prog w base (fun _ => true) held fuel 22 [v] = some x) :
    ∃ A n c M, v = .slice A n c ∧ Row .i64 w w.heap.size A n M ∧ n ≤ c ∧ c ≤ maxLen := by
  rcases open_ints Tryz.underlying22 Tryz.underlying3 Tryz.cells3 h with ⟨hcs, _⟩ | ⟨x', l, c, zs, hcs, _, hl, hm, hz, _, hcell, hwz⟩
  · simp at hcs
    subst hcs
    exact ⟨none, 0, 0, [], rfl, Row.nil, Nat.le_refl _, by unfold maxLen; omega⟩
  · simp at hcs
    subst hcs
    obtain ⟨M, h1, _, h3, _⟩ := row_of_is (k := .i64) (w := w) (a := some x') (len := l) (cap := c) (zs := zs) (.inr ⟨x', rfl, hl, hm, by simpa using hz, hcell, hwz⟩)
    exact ⟨some x', l, c, M, rfl, h1, hl, hm⟩
/-- A description that came in. -/
theorem lsa_came {v : Value} {d : DataW H} {p : List MemPlace} {r : Reach} {b0 : Nat} (hv : Value.okWide Tryz.prog w r b0 47 v) (h : DataW.Trod enc Tryz.prog w base (fun _ => true) held 47 v d p) :
    ∃ (h : Hd) (A A' : Option Addr) (n c n' c' : Nat) (L : List Lk) (M : List Int), v = .agg #[.int .i64 h.age, .int .i64 h.kind, .int .i64 h.id, .int .i64 h.adv, .int .i64 h.seq, .int .i64 h.sum, .int .i64 h.long, .slice A n c, .slice A' n' c'] ∧
      Lnk w w.heap.size A n L ∧ n ≤ maxLen ∧ Row .i64 w w.heap.size A' n' M ∧ n' ≤ maxLen := by
  obtain ⟨cs, rfl, hsz⟩ := okWide_struct Tryz.underlying47 hv
  obtain ⟨l⟩ := cs
  obtain ⟨fuel, hf⟩ := h
  obtain ⟨xs, n, _, _, hcl, hlen, hg⟩ := DataW.trod_struct Tryz.underlying47 hf
  rw [Tryz.cells27] at hsz
  have g0 : DataW.trod enc Tryz.prog w base (fun _ => true) held n 44 ((l.drop 0).take (Tryz.prog.cellsOf 44)) = xs[0]? := hg 0 _ rfl
  have g1 : DataW.trod enc Tryz.prog w base (fun _ => true) held n 45 ((l.drop 7).take (Tryz.prog.cellsOf 45)) = xs[1]? := hg 1 _ rfl
  have g2 : DataW.trod enc Tryz.prog w base (fun _ => true) held n 22 ((l.drop 8).take (Tryz.prog.cellsOf 22)) = xs[2]? := hg 2 _ rfl
  rw [Tryz.cells23] at g0
  rw [Tryz.cells24] at g1
  rw [Tryz.cells25] at g2
  match l, hsz, xs, hlen with
  | [c0, c1, c2, c3, c4, c5, c6, c7, c8], _, [y0, y1, y2], _ =>
    obtain ⟨h, hh⟩ := head_came g0
    obtain ⟨A, n1, e1, L, hL, h1, h2, h3⟩ := lnk_came (v := c7) g1
    obtain ⟨A', n2, e2, M, hM, h4, h5, h6⟩ := ints_came (v := c8) g2
    simp at hh
    obtain ⟨rfl, rfl, rfl, rfl, rfl, rfl, rfl⟩ := hh
    subst hL hM
    exact ⟨h, A, A', n1, e1, n2, e2, L, M, rfl, h1, by omega, h4, by omega⟩
theorem hd_came {v : Value} {d : DataW H} {p : List MemPlace} {r : Reach} {b0 : Nat} {spare : Nat → Bool} (hv : Value.okWide Tryz.prog w r b0 44 v) (h : DataW.Trod enc Tryz.prog w base spare held 44 v d p) :
    ∃ h : Hd, v = .agg #[.int .i64 h.age, .int .i64 h.kind, .int .i64 h.id, .int .i64 h.adv, .int .i64 h.seq, .int .i64 h.sum, .int .i64 h.long] := by
  obtain ⟨cs, rfl, hsz⟩ := okWide_struct Tryz.underlying44 hv
  obtain ⟨l⟩ := cs
  obtain ⟨fuel, hf⟩ := h
  obtain ⟨h, hh⟩ := head_came hf
  refine ⟨h, ?_⟩
  simp [Value.cells] at hh
  rw [hh]
end
end Go.Proofs.YtekhgkkgmkodmaaGreat
namespace Go.Proofs.YtekhgkkgmkodmaaGreat
open Go.ChangeShapes Go.WideShapes Go.RowKit Go.Deep
set_option maxRecDepth 20000

theorem Tryz.cellsBool : Tryz.prog.cellsOf 4 = 1 := by kernel_rfl
theorem Tryz.cellsKey : Tryz.prog.cellsOf 56 = 3 := by kernel_rfl
theorem Tryz.cellsHello : Tryz.prog.cellsOf 24 = 6 := by kernel_rfl
theorem Tryz.cellsDd : Tryz.prog.cellsOf 27 = 5 := by kernel_rfl
theorem Tryz.cellsHeads : Tryz.prog.cellsOf 25 = 1 := by kernel_rfl
theorem Tryz.cellsKeys : Tryz.prog.cellsOf 28 = 1 := by kernel_rfl
theorem Tryz.cellsLsas : Tryz.prog.cellsOf 29 = 1 := by kernel_rfl
theorem Tryz.cellsPkt : Tryz.prog.cellsOf 31 = 16 := by kernel_rfl

section
variable {H : Type} {enc : TypeId × Value → H} {w : World} {base : Nat} {held : Bool} {fuel : Nat}
theorem int_cameB {c : Value} {y : Option (DataW H × List MemPlace)} {spare : Nat → Bool} (hy : y.isSome = true) (h : DataW.trod enc Tryz.prog w base spare held fuel 3 [c] = y) : ∃ z, c = .int .i64 z ∧ -9223372036854775808 ≤ z ∧ z ≤ 9223372036854775807 := by
  obtain ⟨x, rfl⟩ := Option.isSome_iff_exists.1 hy
  obtain ⟨z, hz, _, hw⟩ := DataW.trod_int Tryz.underlying3 h
  simp at hz
  have := bounds_i64 hw
  exact ⟨z, hz, by omega, by omega⟩
theorem bool_came {c : Value} {y : Option (DataW H × List MemPlace)} {spare : Nat → Bool} (hy : y.isSome = true) (h : DataW.trod enc Tryz.prog w base spare held fuel 4 [c] = y) : ∃ z, c = .bool z := by
  obtain ⟨x, rfl⟩ := Option.isSome_iff_exists.1 hy
  obtain ⟨z, hz, _⟩ := DataW.trod_bool Tryz.underlying4 h
  simp at hz
  exact ⟨z, hz⟩
/-- Three integers that came in are a key. -/
theorem key_came {cs : List Value} {x : DataW H × List MemPlace} {spare : Nat → Bool} (h : DataW.trod enc Tryz.prog w base spare held fuel 56 cs = some x) :
    ∃ k : Ky, cs = [.int .i64 k.kind, .int .i64 k.id, .int .i64 k.adv] ∧ -9223372036854775808 ≤ k.id ∧ k.id ≤ 9223372036854775807 := by
  obtain ⟨xs, n, _, _, hcl, hlen, hg⟩ := DataW.trod_struct Tryz.underlying56 h
  rw [Tryz.cellsKey] at hcl
  have g0 : DataW.trod enc Tryz.prog w base spare held n 3 ((cs.drop 0).take (Tryz.prog.cellsOf 3)) = xs[0]? := hg 0 _ rfl
  have g1 : DataW.trod enc Tryz.prog w base spare held n 3 ((cs.drop 1).take (Tryz.prog.cellsOf 3)) = xs[1]? := hg 1 _ rfl
  have g2 : DataW.trod enc Tryz.prog w base spare held n 3 ((cs.drop 2).take (Tryz.prog.cellsOf 3)) = xs[2]? := hg 2 _ rfl
  rw [Tryz.cells3] at g0 g1 g2
  match cs, hcl, xs, hlen with
  | [c0, c1, c2], _, [y0, y1, y2], _ =>
    obtain ⟨z0, rfl⟩ := int_came rfl g0
    obtain ⟨z1, rfl, hb1, hb2⟩ := int_cameB rfl g1
    obtain ⟨z2, rfl⟩ := int_came rfl g2
    exact ⟨⟨z0, z1, z2⟩, rfl, hb1, hb2⟩
/-- A slice of structs that came in. -/
theorem arr_came {α : Type} {sz t te : Nat} {P : World → Nat → Nat → Nat → α → Prop} {v : Value} {x : DataW H × List MemPlace} (d0 : α) (ht : Tryz.prog.underlying t = some (.slice te)) (hsz : Tryz.prog.cellsOf te = sz) (hpos : 0 < sz)
    (hP : ∀ (n : Nat) (a : Addr) (cs : List Value) (y : DataW H × List MemPlace), (∀ i, i < sz → w.cell? (a.add i) = cs[i]?) → DataW.trod enc Tryz.prog w base (fun _ => true) held n te cs = some y → a.spot = none → ∃ k, P w w.heap.size a.block a.off k)
    (h : DataW.trod enc Tryz.prog w base (fun _ => true) held fuel t [v] = some x) :
    ∃ A n c L, v = .slice A n c ∧ Arr sz P w w.heap.size A n L ∧ n ≤ c ∧ c ≤ maxLen := by
  rcases open_slice ht h with ⟨hcs, _⟩ | ⟨a, len, cap, m, n, D, Pl, hcs, _, hl, hm, hmm, _, hi⟩
  · simp at hcs
    subst hcs
    exact ⟨none, 0, 0, [], rfl, Arr.nil, Nat.le_refl _, by unfold maxLen; omega⟩
  · simp at hcs
    subst hcs
    simp at hmm
    subst hmm
    rw [hsz] at hi
    have hk : ∀ i, i < m → (a.add (i * sz)).spot = none ∧ (a.add (i * sz)).block < w.heap.size ∧ ∃ k, P w w.heap.size (a.add (i * sz)).block (a.add (i * sz)).off k := by
      intro i him
      obtain ⟨cs', hc, htr⟩ := hi i him
      obtain ⟨_, hcl, hat⟩ := World.cells?_some hc
      have h0 := hat 0 hpos
      have e : (a.add (i * sz)).add 0 = a.add (i * sz) := by
        unfold Addr.add
        split <;> simp_all
      rw [e] at h0
      rw [List.getElem?_eq_getElem (by omega)] at h0
      have hsp := World.cell?_spot h0
      exact ⟨hsp, World.block_lt_of_cell? w _ h0, hP _ _ _ _ hat htr hsp⟩
    have hsp : 0 < m → a.spot = none := fun h0 => by simpa [Addr.add] using (hk 0 h0).1
    obtain ⟨F, hF⟩ : ∃ F : Nat → α, ∀ i, i < m → P w w.heap.size (a.add (i * sz)).block (a.add (i * sz)).off (F i) := by
      refine ⟨fun i => if hi : i < m then Classical.choose (hk i hi).2.2 else d0, fun i him => ?_⟩
      simp only [him, dif_pos]
      exact Classical.choose_spec (hk i him).2.2
    refine ⟨some a, len, m, (List.range len).map F, rfl, ⟨by simp, fun hn => ?_⟩, hl, hm⟩
    obtain ⟨b, o, spot⟩ := a
    have hspot : spot = none := hsp (by omega)
    subst hspot
    have hb := (hk 0 (by omega)).2.1
    simp only [addr_add] at hb hF
    refine ⟨b, o, rfl, hb, fun j y hy => ?_⟩
    rw [List.getElem?_map] at hy
    have hj : j < len := by
      rcases Nat.lt_or_ge j len with h | h
      · exact h
      · rw [List.getElem?_eq_none (by simpa using h)] at hy
        cases hy
    rw [List.getElem?_range hj] at hy
    obtain rfl : F j = y := by simpa using hy
    exact hF j (by omega)
theorem hds_came {v : Value} {x : DataW H × List MemPlace} (h : DataW.trod enc Tryz.prog w base (fun _ => true) held fuel 25 [v] = some x) :
    ∃ A n c L, v = .slice A n c ∧ Hds w w.heap.size A n L ∧ n ≤ c ∧ c ≤ maxLen := by
  refine arr_came (P := HdAt) zeroHd Tryz.underlying25 Tryz.cells23 (by omega) ?_ h
  intro n a cs y hat htr hsp
  obtain ⟨k, rfl⟩ := head_came htr
  obtain ⟨b, o, spot⟩ := a
  obtain rfl : spot = none := hsp
  simp only [addr_add] at hat
  exact ⟨k, hat 0 (by omega), hat 1 (by omega), hat 2 (by omega), hat 3 (by omega), hat 4 (by omega), hat 5 (by omega), hat 6 (by omega)⟩
theorem kys_came {v : Value} {x : DataW H × List MemPlace} (h : DataW.trod enc Tryz.prog w base (fun _ => true) held fuel 28 [v] = some x) :
    ∃ A n c L, v = .slice A n c ∧ Kys w w.heap.size A n L ∧ n ≤ c ∧ c ≤ maxLen := by
  refine arr_came (P := KyAt) ⟨0, 0, 0⟩ Tryz.underlying28 Tryz.cellsKey (by omega) ?_ h
  intro n a cs y hat htr hsp
  obtain ⟨k, rfl, hb1, hb2⟩ := key_came htr
  obtain ⟨b, o, spot⟩ := a
  obtain rfl : spot = none := hsp
  simp only [addr_add] at hat
  exact ⟨k, hat 0 (by omega), hat 1 (by omega), hat 2 (by omega), hb1, hb2⟩
/-- The nine cells of a description that came in. -/
theorem la_came {cs : List Value} {x : DataW H × List MemPlace} (h : DataW.trod enc Tryz.prog w base (fun _ => true) held fuel 47 cs = some x) :
    ∃ (h : Hd) (A A' : Option Addr) (n c n' c' : Nat) (L : List Lk) (M : List Int), cs = [.int .i64 h.age, .int .i64 h.kind, .int .i64 h.id, .int .i64 h.adv, .int .i64 h.seq, .int .i64 h.sum, .int .i64 h.long, .slice A n c, .slice A' n' c'] ∧
      Lnk w w.heap.size A n L ∧ n ≤ maxLen ∧ Row .i64 w w.heap.size A' n' M ∧ n' ≤ maxLen := by
  obtain ⟨xs, n, _, _, hcl, hlen, hg⟩ := DataW.trod_struct Tryz.underlying47 h
  rw [Tryz.cells27] at hcl
  have g0 : DataW.trod enc Tryz.prog w base (fun _ => true) held n 44 ((cs.drop 0).take (Tryz.prog.cellsOf 44)) = xs[0]? := hg 0 _ rfl
  have g1 : DataW.trod enc Tryz.prog w base (fun _ => true) held n 45 ((cs.drop 7).take (Tryz.prog.cellsOf 45)) = xs[1]? := hg 1 _ rfl
  have g2 : DataW.trod enc Tryz.prog w base (fun _ => true) held n 22 ((cs.drop 8).take (Tryz.prog.cellsOf 22)) = xs[2]? := hg 2 _ rfl
  rw [Tryz.cells23] at g0
  rw [Tryz.cells24] at g1
  rw [Tryz.cells25] at g2
  match cs, hcl, xs, hlen with
  | [c0, c1, c2, c3, c4, c5, c6, c7, c8], _, [y0, y1, y2], _ =>
    obtain ⟨k, hh⟩ := head_came g0
    obtain ⟨A, n1, e1, L, hL, h1, h2, h3⟩ := lnk_came (v := c7) g1
    obtain ⟨A', n2, e2, M, hM, h4, h5, h6⟩ := ints_came (v := c8) g2
    simp at hh
    obtain ⟨rfl, rfl, rfl, rfl, rfl, rfl, rfl⟩ := hh
    subst hL hM
    exact ⟨k, A, A', n1, e1, n2, e2, L, M, rfl, h1, by omega, h4, by omega⟩
theorem las_came {v : Value} {x : DataW H × List MemPlace} (h : DataW.trod enc Tryz.prog w base (fun _ => true) held fuel 29 [v] = some x) :
    ∃ A n c L, v = .slice A n c ∧ Las w w.heap.size A n L ∧ n ≤ c ∧ c ≤ maxLen := by
  refine arr_came (P := LaAt) ⟨zeroHd, [], []⟩ Tryz.underlying29 Tryz.cells27 (by omega) ?_ h
  intro n a cs y hat htr hsp
  obtain ⟨k, A, A', n1, e1, n2, e2, L, M, rfl, h1, h2, h3, h4⟩ := la_came htr
  obtain ⟨b, o, spot⟩ := a
  obtain rfl : spot = none := hsp
  simp only [addr_add] at hat
  exact ⟨⟨k, L, M⟩, ⟨hat 0 (by omega), hat 1 (by omega), hat 2 (by omega), hat 3 (by omega), hat 4 (by omega), hat 5 (by omega), hat 6 (by omega)⟩, A, n1, e1, A', n2, e2, hat 7 (by omega), hat 8 (by omega), h1, h3, h2, h4⟩
theorem hello_came {cs : List Value} {x : DataW H × List MemPlace} (h : DataW.trod enc Tryz.prog w base (fun _ => true) held fuel 24 cs = some x) :
    ∃ (a b c d e : Int) (A : Option Addr) (n m : Nat) (S : List Int), cs = [.int .i64 a, .int .i64 b, .int .i64 c, .int .i64 d, .int .i64 e, .slice A n m] ∧ Row .i64 w w.heap.size A n S ∧ n ≤ maxLen := by
  obtain ⟨xs, n, _, _, hcl, hlen, hg⟩ := DataW.trod_struct Tryz.underlying24 h
  rw [Tryz.cellsHello] at hcl
  have g0 : DataW.trod enc Tryz.prog w base (fun _ => true) held n 3 ((cs.drop 0).take (Tryz.prog.cellsOf 3)) = xs[0]? := hg 0 _ rfl
  have g1 : DataW.trod enc Tryz.prog w base (fun _ => true) held n 3 ((cs.drop 1).take (Tryz.prog.cellsOf 3)) = xs[1]? := hg 1 _ rfl
  have g2 : DataW.trod enc Tryz.prog w base (fun _ => true) held n 3 ((cs.drop 2).take (Tryz.prog.cellsOf 3)) = xs[2]? := hg 2 _ rfl
  have g3 : DataW.trod enc Tryz.prog w base (fun _ => true) held n 3 ((cs.drop 3).take (Tryz.prog.cellsOf 3)) = xs[3]? := hg 3 _ rfl
  have g4 : DataW.trod enc Tryz.prog w base (fun _ => true) held n 3 ((cs.drop 4).take (Tryz.prog.cellsOf 3)) = xs[4]? := hg 4 _ rfl
  have g5 : DataW.trod enc Tryz.prog w base (fun _ => true) held n 22 ((cs.drop 5).take (Tryz.prog.cellsOf 22)) = xs[5]? := hg 5 _ rfl
  rw [Tryz.cells3] at g0 g1 g2 g3 g4
  rw [Tryz.cells25] at g5
  match cs, hcl, xs, hlen with
  | [c0, c1, c2, c3, c4, c5], _, [y0, y1, y2, y3, y4, y5], _ =>
    obtain ⟨z0, rfl⟩ := int_came rfl g0
    obtain ⟨z1, rfl⟩ := int_came rfl g1
    obtain ⟨z2, rfl⟩ := int_came rfl g2
    obtain ⟨z3, rfl⟩ := int_came rfl g3
    obtain ⟨z4, rfl⟩ := int_came rfl g4
    obtain ⟨A, n1, e1, S, rfl, h1, h2, h3⟩ := ints_came (v := c5) g5
    exact ⟨z0, z1, z2, z3, z4, A, n1, e1, S, rfl, h1, by omega⟩
theorem dd_came {cs : List Value} {x : DataW H × List MemPlace} (h : DataW.trod enc Tryz.prog w base (fun _ => true) held fuel 27 cs = some x) :
    ∃ (a b c : Bool) (d : Int) (A : Option Addr) (n m : Nat) (S : List Hd), cs = [.bool a, .bool b, .bool c, .int .i64 d, .slice A n m] ∧ Hds w w.heap.size A n S ∧ n ≤ maxLen ∧ -9223372036854775808 ≤ d ∧ d ≤ 9223372036854775807 := by
  obtain ⟨xs, n, _, _, hcl, hlen, hg⟩ := DataW.trod_struct Tryz.underlying27 h
  rw [Tryz.cellsDd] at hcl
  have g0 : DataW.trod enc Tryz.prog w base (fun _ => true) held n 4 ((cs.drop 0).take (Tryz.prog.cellsOf 4)) = xs[0]? := hg 0 _ rfl
  have g1 : DataW.trod enc Tryz.prog w base (fun _ => true) held n 4 ((cs.drop 1).take (Tryz.prog.cellsOf 4)) = xs[1]? := hg 1 _ rfl
  have g2 : DataW.trod enc Tryz.prog w base (fun _ => true) held n 4 ((cs.drop 2).take (Tryz.prog.cellsOf 4)) = xs[2]? := hg 2 _ rfl
  have g3 : DataW.trod enc Tryz.prog w base (fun _ => true) held n 3 ((cs.drop 3).take (Tryz.prog.cellsOf 3)) = xs[3]? := hg 3 _ rfl
  have g4 : DataW.trod enc Tryz.prog w base (fun _ => true) held n 25 ((cs.drop 4).take (Tryz.prog.cellsOf 25)) = xs[4]? := hg 4 _ rfl
  rw [Tryz.cellsBool] at g0 g1 g2
  rw [Tryz.cells3] at g3
  rw [Tryz.cellsHeads] at g4
  match cs, hcl, xs, hlen with
  | [c0, c1, c2, c3, c4], _, [y0, y1, y2, y3, y4], _ =>
    obtain ⟨z0, rfl⟩ := bool_came rfl g0
    obtain ⟨z1, rfl⟩ := bool_came rfl g1
    obtain ⟨z2, rfl⟩ := bool_came rfl g2
    obtain ⟨z3, rfl, hb1, hb2⟩ := int_cameB rfl g3
    obtain ⟨A, n1, e1, S, rfl, h1, h2, h3⟩ := hds_came (v := c4) g4
    exact ⟨z0, z1, z2, z3, A, n1, e1, S, rfl, h1, by omega, hb1, hb2⟩
/-- A packet that came in. -/
theorem pkt_came {v : Value} {d : DataW H} {p : List MemPlace} {r : Reach} {b0 : Nat} (hv : Value.okWide Tryz.prog w r b0 31 v) (h : DataW.Trod enc Tryz.prog w base (fun _ => true) held 31 v d p) :
    ∃ (q : Pv) (l : Pl), v = .agg #[.int .i64 q.kind, .int .i64 q.sender, .int .i64 q.every, .int .i64 q.dead, .int .i64 q.prio, .int .i64 q.dr, .int .i64 q.bdr, .slice q.seen.a q.seen.n q.seen.c, .bool q.ini, .bool q.mor, .bool q.mas, .int .i64 q.seq, .slice q.heads.a q.heads.n q.heads.c, .slice q.wants.a q.wants.n q.wants.c, .slice q.lsas.a q.lsas.n q.lsas.c, .slice q.acks.a q.acks.n q.acks.c] ∧ PkIn w w.heap.size q l ∧ PkSm q := by
  obtain ⟨cs, rfl, hsz⟩ := okWide_struct Tryz.underlying31 hv
  obtain ⟨l⟩ := cs
  obtain ⟨fuel, hf⟩ := h
  obtain ⟨xs, n, _, _, hcl, hlen, hg⟩ := DataW.trod_struct Tryz.underlying31 hf
  rw [Tryz.cellsPkt] at hsz
  have g0 : DataW.trod enc Tryz.prog w base (fun _ => true) held n 3 ((l.drop 0).take (Tryz.prog.cellsOf 3)) = xs[0]? := hg 0 _ rfl
  have g1 : DataW.trod enc Tryz.prog w base (fun _ => true) held n 3 ((l.drop 1).take (Tryz.prog.cellsOf 3)) = xs[1]? := hg 1 _ rfl
  have g2 : DataW.trod enc Tryz.prog w base (fun _ => true) held n 24 ((l.drop 2).take (Tryz.prog.cellsOf 24)) = xs[2]? := hg 2 _ rfl
  have g3 : DataW.trod enc Tryz.prog w base (fun _ => true) held n 27 ((l.drop 8).take (Tryz.prog.cellsOf 27)) = xs[3]? := hg 3 _ rfl
  have g4 : DataW.trod enc Tryz.prog w base (fun _ => true) held n 28 ((l.drop 13).take (Tryz.prog.cellsOf 28)) = xs[4]? := hg 4 _ rfl
  have g5 : DataW.trod enc Tryz.prog w base (fun _ => true) held n 29 ((l.drop 14).take (Tryz.prog.cellsOf 29)) = xs[5]? := hg 5 _ rfl
  have g6 : DataW.trod enc Tryz.prog w base (fun _ => true) held n 25 ((l.drop 15).take (Tryz.prog.cellsOf 25)) = xs[6]? := hg 6 _ rfl
  rw [Tryz.cells3] at g0 g1
  rw [Tryz.cellsHello] at g2
  rw [Tryz.cellsDd] at g3
  rw [Tryz.cellsKeys] at g4
  rw [Tryz.cellsLsas] at g5
  rw [Tryz.cellsHeads] at g6
  match l, hsz, xs, hlen with
  | [c0, c1, c2, c3, c4, c5, c6, c7, c8, c9, c10, c11, c12, c13, c14, c15], _, [y0, y1, y2, y3, y4, y5, y6], _ =>
    obtain ⟨z0, rfl⟩ := int_came rfl g0
    obtain ⟨z1, rfl⟩ := int_came rfl g1
    obtain ⟨z2, z3, z4, z5, z6, A7, n7, m7, S, hh, hS, hn7⟩ := hello_came g2
    obtain ⟨b8, b9, b10, z11, A12, n12, m12, HS, hh2, hHS, hn12, hb1, hb2⟩ := dd_came g3
    obtain ⟨A13, n13, m13, K, rfl, hK, h131, h132⟩ := kys_came (v := c13) g4
    obtain ⟨A14, n14, m14, L, rfl, hL, h141, h142⟩ := las_came (v := c14) g5
    obtain ⟨A15, n15, m15, G, rfl, hG, h151, h152⟩ := hds_came (v := c15) g6
    simp at hh hh2
    obtain ⟨rfl, rfl, rfl, rfl, rfl, rfl⟩ := hh
    obtain ⟨rfl, rfl, rfl, rfl, rfl⟩ := hh2
    exact ⟨⟨z0, z1, z2, z3, z4, z5, z6, ⟨A7, n7, m7⟩, b8, b9, b10, z11, ⟨A12, n12, m12⟩, ⟨A13, n13, m13⟩, ⟨A14, n14, m14⟩, ⟨A15, n15, m15⟩⟩, ⟨S, HS, K, L, G⟩, rfl, ⟨hS, hHS, hK, hL, hG⟩, hn7, hn12, by show n13 ≤ _; omega, by show n14 ≤ _; omega, by show n15 ≤ _; omega, hb1, hb2⟩
end
end Go.Proofs.YtekhgkkgmkodmaaGreat
namespace Go.Proofs.YtekhgkkgmkodmaaGreat
open Go.RowKit

set_option maxRecDepth 4000 in
set_option maxHeartbeats 2000000 in
theorem refFill_ok (A : Option Addr) (n c B : Nat) (k : Nat) (l : List Int) (w : World) (hr : Row .u8 w B A n l) (hby : Byt l) (hn : n ≤ 1099511627776) (hk2 : k + 2 ≤ n) :
    Calls Tryz.prog 39 #[.slice A n c, .int .i64 (k : Int)] w fun e w' => (∃ A' c', e = .returned (.slice A' n c') ∧ Row .u8 w' w'.heap.size A' n (fillL l k)) ∧ Below w.heap.size w w' := by
  generalize hQ : (fun (e : Ending) (w' : World) => (∃ A' c', e = .returned (.slice A' n c') ∧ Row .u8 w' w'.heap.size A' n (fillL l k)) ∧ Below w.heap.size w w') = Q
  have HQ := Lib.hid hQ
  have HR := Lib.hid hr
  have HY := Lib.hid hby
  have HL := Lib.hid hr.1
  clear hr hby hQ
  go_enter Tryz.func39, Tryz.ntmps39
  go_upto_region 3 with (at_builtin; refine wpList_append_row rfl (.tmp 7) (.tmp 8) rfl w.heap.size (.slice none 0 0) 0 [] (by rfl) (by exact World.ownsRow_nil w _ _ _) B A n c l (by rfl) (by exact HR.out) (by omega) (by simp) ?_; intro v2 w2 ho2 hg2 hl2)
  have o2 := ho2.out
  rw [Nat.zero_add, List.nil_append] at o2
  obtain ⟨g, c2, rest, rfl, hbg, hnc, hk⟩ := own_blk o2 (by omega)
  have hb2 : Below w.heap.size w w2 := (Below.refl _ _).grown hg2.out (Nat.le_refl _) (fun k hk => by cases hk)
  have hlen := HL.out
  have hc0 := hk.atR k (by omega)
  have hc1 := hk.atR (k + 1) (by omega)
  have hf0 := hk.frozen k
  have hf1 := hk.frozen (k + 1)
  have HK := Lib.hid (show Blk ((w2.setCell ⟨g, k, none⟩ (.int .u8 0)).setCell ⟨g, k + 1, none⟩ (.int .u8 0)) g 5 ((zeroed l k).map (Value.int .u8) ++ rest).toArray from (hk.setR k (by omega) 0).setR (k + 1) (by simp; omega) 0)
  have HB3 := Lib.hid (show Below w.heap.size w ((w2.setCell ⟨g, k, none⟩ (.int .u8 0)).setCell ⟨g, k + 1, none⟩ (.int .u8 0)) from (hb2.setCell hbg _).setCell hbg _)
  clear hk hlen hb2 o2 hl2 hg2 ho2
  go_upto_region 5 with fail
  clear hc0 hc1 hf0 hf1
  generalize (w2.setCell ⟨g, k, none⟩ (.int .u8 0)).setCell ⟨g, k + 1, none⟩ (.int .u8 0) = w3 at *
  have hr3 := HK.out.rowR
  rw [zeroed_length, HL.out] at hr3
  have HR3 := Lib.hid hr3
  clear hr3
  go_wp2_with fail
  refine (refOf_any _ n c2 w3.heap.size (zeroed l k) _ HR3.out (zeroed_byt HY.out k) hn).mono ?_
  rintro e2 w4 ⟨rfl, rfl⟩
  have hs := sumOf_bd (zeroed l k)
  have HF : Hid (∀ x, x = sumOf (zeroed l k) → fillL l k = ((zeroed l k).set k (x / 256)).set (k + 1) (x % 256)) := fun x hx => by rw [hx]; rfl
  generalize hx : sumOf (zeroed l k) = x at *
  have HF2 := Lib.hid (HF.out x rfl)
  have hz := zeroed_length l k
  rw [HL.out] at hz
  generalize zeroed l k = z at *
  have hc0 := HK.out.atR k (by omega)
  have hc1 := HK.out.atR (k + 1) (by omega)
  have hf0 := HK.out.frozen k
  have hf1 := HK.out.frozen (k + 1)
  have HK4 := Lib.hid ((HK.out.setR k (by omega) (x / 256)).setR (k + 1) (by simp; omega) (x % 256))
  have HB5 := Lib.hid ((HB3.out.setCell (p := ⟨g, k, none⟩) hbg (.int .u8 (x / 256))).setCell (p := ⟨g, k + 1, none⟩) hbg (.int .u8 (x % 256)))
  clear hx HF
  have hr5 := HK4.out.rowR
  rw [← HF2.out, fillL_length, HL.out] at hr5
  have HR5 := Lib.hid hr5
  clear hr5 hz
  go_wp2
  rw [← HQ.out]
  exact ⟨⟨_, _, rfl, HR5.out⟩, HB5.out⟩
end Go.Proofs.YtekhgkkgmkodmaaGreat
