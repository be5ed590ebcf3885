/- Heads that came in, opened. No conditions. -/
import Derived.Test.YtfeomijblgaocaaOm
namespace Go.Proofs.Ytfeomijblgaocaa
open Go.ChangeShapes Go.WideShapes Go.RowKit Go.Deep
set_option maxRecDepth 20000

theorem Blk.new1 (w : World) (o : Obj) (t : TypeId) (cs : Array Value) : Blk ((w.alloc o).alloc (.cells cs t)) (w.heap.size + 1) t cs := by
  have := Blk.new (w.alloc o) t cs
  simpa using this
theorem Blk.new2 (w : World) (o o2 : Obj) (t : TypeId) (cs : Array Value) : Blk (((w.alloc o).alloc o2).alloc (.cells cs t)) (w.heap.size + 2) t cs := by
  have := Blk.new ((w.alloc o).alloc o2) t cs
  simpa using this
theorem Try.cells3 : Try.prog.cellsOf 3 = 1 := by kernel_rfl
theorem Try.cells23 : Try.prog.cellsOf 23 = 7 := by kernel_rfl

section
variable {H : Type} {enc : TypeId × Value → H} {w : World} {base : Nat} {held : Bool} {fuel : Nat}
theorem int_came {c : Value} {y : Option (DataW H × List MemPlace)} {spare : Nat → Bool} (hy : y.isSome = true) (h : DataW.trod enc Try.prog w base spare held fuel 3 [c] = y) : ∃ z, c = .int .i64 z := by
  obtain ⟨x, rfl⟩ := Option.isSome_iff_exists.1 hy
  obtain ⟨z, hz, _⟩ := DataW.trod_int Try.underlying3 h
  simp at hz
  exact ⟨z, hz⟩
/-- Seven integers that came in are a head. -/
theorem head_came {cs : List Value} {x : DataW H × List MemPlace} {spare : Nat → Bool} (h : DataW.trod enc Try.prog w base spare held fuel 23 cs = some x) :
    ∃ h : Hd, cs = [.int .i64 h.age, .int .i64 h.kind, .int .i64 h.id, .int .i64 h.adv, .int .i64 h.seq, .int .i64 h.sum, .int .i64 h.long] := by
  obtain ⟨xs, n, _, _, hcl, hlen, hg⟩ := DataW.trod_struct Try.underlying23 h
  rw [Try.cells23] at hcl
  have g0 : DataW.trod enc Try.prog w base spare held n 3 ((cs.drop 0).take (Try.prog.cellsOf 3)) = xs[0]? := hg 0 _ rfl
  have g1 : DataW.trod enc Try.prog w base spare held n 3 ((cs.drop 1).take (Try.prog.cellsOf 3)) = xs[1]? := hg 1 _ rfl
  have g2 : DataW.trod enc Try.prog w base spare held n 3 ((cs.drop 2).take (Try.prog.cellsOf 3)) = xs[2]? := hg 2 _ rfl
  have g3 : DataW.trod enc Try.prog w base spare held n 3 ((cs.drop 3).take (Try.prog.cellsOf 3)) = xs[3]? := hg 3 _ rfl
  have g4 : DataW.trod enc Try.prog w base spare held n 3 ((cs.drop 4).take (Try.prog.cellsOf 3)) = xs[4]? := hg 4 _ rfl
  have g5 : DataW.trod enc Try.prog w base spare held n 3 ((cs.drop 5).take (Try.prog.cellsOf 3)) = xs[5]? := hg 5 _ rfl
  have g6 : DataW.trod enc Try.prog w base spare held n 3 ((cs.drop 6).take (Try.prog.cellsOf 3)) = xs[6]? := hg 6 _ rfl
  rw [Try.cells3] at g0 g1 g2 g3 g4 g5 g6
  match cs, hcl, xs, hlen with
  | [c0, c1, c2, c3, c4, c5, c6], _, [y0, y1, y2, y3, y4, y5, y6], _ =>
    obtain ⟨z0, rfl⟩ := int_came rfl g0
    obtain ⟨z1, rfl⟩ := int_came rfl g1
    obtain ⟨z2, rfl⟩ := int_came rfl g2
    obtain ⟨z3, rfl⟩ := int_came rfl g3
    obtain ⟨z4, rfl⟩ := int_came rfl g4
    obtain ⟨z5, rfl⟩ := int_came rfl g5
    obtain ⟨z6, rfl⟩ := int_came rfl g6
    exact ⟨⟨z0, z1, z2, z3, z4, z5, z6⟩, rfl⟩
theorem hd_came {v : Value} {d : DataW H} {p : List MemPlace} {r : Reach} {b0 : Nat} {spare : Nat → Bool} (hv : Value.okWide Try.prog w r b0 23 v) (h : DataW.Trod enc Try.prog w base spare held 23 v d p) :
    ∃ h : Hd, v = .agg #[.int .i64 h.age, .int .i64 h.kind, .int .i64 h.id, .int .i64 h.adv, .int .i64 h.seq, .int .i64 h.sum, .int .i64 h.long] := by
  obtain ⟨cs, rfl, hsz⟩ := okWide_struct Try.underlying23 hv
  obtain ⟨l⟩ := cs
  obtain ⟨fuel, hf⟩ := h
  obtain ⟨h, hh⟩ := head_came hf
  refine ⟨h, ?_⟩
  simp [Value.cells] at hh
  rw [hh]
/-- A slice of structs that came in. -/
theorem arr_came {α : Type} {sz t te : Nat} {P : World → Nat → Nat → Nat → α → Prop} {v : Value} {x : DataW H × List MemPlace} (d0 : α) (ht : Try.prog.underlying t = some (.slice te)) (hsz : Try.prog.cellsOf te = sz) (hpos : 0 < sz)
    (hP : ∀ (n : Nat) (a : Addr) (cs : List Value) (y : DataW H × List MemPlace), (∀ i, i < sz → w.cell? (a.add i) = cs[i]?) → DataW.trod enc Try.prog w base (fun _ => true) held n te cs = some y → a.spot = none → ∃ k, P w w.heap.size a.block a.off k)
    (h : DataW.trod enc Try.prog w base (fun _ => true) held fuel t [v] = some x) :
    ∃ A n c L, v = .slice A n c ∧ Arr sz P w w.heap.size A n L ∧ n ≤ c ∧ c ≤ maxLen := by
  rcases open_slice ht h with ⟨hcs, _⟩ | ⟨a, len, cap, m, n, D, Pl, hcs, _, hl, hm, hmm, _, hi⟩
  · simp at hcs
    subst hcs
    exact ⟨none, 0, 0, [], rfl, Arr.nil, Nat.le_refl _, by unfold maxLen; omega⟩
  · simp at hcs
    subst hcs
    simp at hmm
    subst hmm
    rw [hsz] at hi
    have hk : ∀ i, i < m → (a.add (i * sz)).spot = none ∧ (a.add (i * sz)).block < w.heap.size ∧ ∃ k, P w w.heap.size (a.add (i * sz)).block (a.add (i * sz)).off k := by
      intro i him
      obtain ⟨cs', hc, htr⟩ := hi i him
      obtain ⟨_, hcl, hat⟩ := World.cells?_some hc
      have h0 := hat 0 hpos
      have e : (a.add (i * sz)).add 0 = a.add (i * sz) := by
        unfold Addr.add
        split <;> simp_all
      rw [e] at h0
      rw [List.getElem?_eq_getElem (by omega)] at h0
      have hsp := World.cell?_spot h0
      exact ⟨hsp, World.block_lt_of_cell? w _ h0, hP _ _ _ _ hat htr hsp⟩
    have hsp : 0 < m → a.spot = none := fun h0 => by simpa [Addr.add] using (hk 0 h0).1
    obtain ⟨F, hF⟩ : ∃ F : Nat → α, ∀ i, i < m → P w w.heap.size (a.add (i * sz)).block (a.add (i * sz)).off (F i) := by
      refine ⟨fun i => if hi : i < m then Classical.choose (hk i hi).2.2 else d0, fun i him => ?_⟩
      simp only [him, dif_pos]
      exact Classical.choose_spec (hk i him).2.2
    refine ⟨some a, len, m, (List.range len).map F, rfl, ⟨by simp, fun hn => ?_⟩, hl, hm⟩
    obtain ⟨b, o, spot⟩ := a
    have hspot : spot = none := hsp (by omega)
    subst hspot
    have hb := (hk 0 (by omega)).2.1
    simp only [addr_add] at hb hF
    refine ⟨b, o, rfl, hb, fun j y hy => ?_⟩
    rw [List.getElem?_map] at hy
    have hj : j < len := by
      rcases Nat.lt_or_ge j len with h | h
      · exact h
      · rw [List.getElem?_eq_none (by simpa using h)] at hy
        cases hy
    rw [List.getElem?_range hj] at hy
    obtain rfl : F j = y := by simpa using hy
    exact hF j (by omega)
theorem hds_came {v : Value} {x : DataW H × List MemPlace} (h : DataW.trod enc Try.prog w base (fun _ => true) held fuel 28 [v] = some x) :
    ∃ A n c L, v = .slice A n c ∧ Hds w w.heap.size A n L ∧ n ≤ c ∧ c ≤ maxLen := by
  refine arr_came (P := HdAt) ⟨0, 0, 0, 0, 0, 0, 0⟩ Try.underlying28 Try.cells23 (by omega) ?_ h
  intro n a cs y hat htr hsp
  obtain ⟨k, rfl⟩ := head_came htr
  obtain ⟨b, o, spot⟩ := a
  obtain rfl : spot = none := hsp
  simp only [addr_add] at hat
  exact ⟨k, hat 0 (by omega), hat 1 (by omega), hat 2 (by omega), hat 3 (by omega), hat 4 (by omega), hat 5 (by omega), hat 6 (by omega)⟩
end
end Go.Proofs.Ytfeomijblgaocaa
