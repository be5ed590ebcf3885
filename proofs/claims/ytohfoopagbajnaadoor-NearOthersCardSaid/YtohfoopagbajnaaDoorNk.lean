/- The table as the row's condition lays it; what came in. No conditions. -/
import Derived.Test.YtohfoopagbajnaaDoorNb
import Derived.Test.YtohfoopagbajnaaDoorNf
import Derived.Test.YtohfoopagbajnaaDoorRows
import Derived.LaidMore
import Derived.MakeChecks
namespace Go.Proofs.YtohfoopagbajnaaDoor
open Go.ChangeShapes Go.WideShapes Go.RowKit Go.Deep
theorem Tryd.cells3n : Tryd.prog.cellsOf 3 = 1 := by kernel_rfl
theorem Tryd.cells34n : Tryd.prog.cellsOf 34 = 5 := by kernel_rfl
theorem Tryd.cells35n : Tryd.prog.cellsOf 35 = 50 := by kernel_rfl
theorem Tryd.cells31n : Tryd.prog.cellsOf 31 = 5 := by kernel_rfl
def litMv {H : Type} (m : Mv) : DataW H := .agg [.lit (.int .i64 m.least), .lit (.int .i64 m.most), .lit (.int .i64 m.event), .lit (.int .i64 m.adj), .lit (.int .i64 m.apart)]
theorem laid_is {H : Type} : (Rows.laid_syndic_near_moves : DataW H) = .agg (mvs.map litMv) := rfl
section
variable {H : Type} {enc : TypeId × Value → H} {w : World} {base : Nat} {held : Bool} {fuel : Nat} {sp : Nat → Bool}
theorem mv_cells {m : Mv} {cs : List Value} {p : List MemPlace} (h : DataW.trod enc Tryd.prog w base sp held fuel 34 cs = some (litMv m, p)) : cs = encMv m := by
  obtain ⟨xs, n, _, hx, hcl, hlen, hg⟩ := DataW.trod_struct Tryd.underlying34 h
  rw [Tryd.cells34n] at hcl
  have g0 : DataW.trod enc Tryd.prog w base sp held n 3 ((cs.drop 0).take (Tryd.prog.cellsOf 3)) = xs[0]? := hg 0 _ rfl
  have g1 : DataW.trod enc Tryd.prog w base sp held n 3 ((cs.drop 1).take (Tryd.prog.cellsOf 3)) = xs[1]? := hg 1 _ rfl
  have g2 : DataW.trod enc Tryd.prog w base sp held n 3 ((cs.drop 2).take (Tryd.prog.cellsOf 3)) = xs[2]? := hg 2 _ rfl
  have g3 : DataW.trod enc Tryd.prog w base sp held n 3 ((cs.drop 3).take (Tryd.prog.cellsOf 3)) = xs[3]? := hg 3 _ rfl
  have g4 : DataW.trod enc Tryd.prog w base sp held n 3 ((cs.drop 4).take (Tryd.prog.cellsOf 3)) = xs[4]? := hg 4 _ rfl
  rw [Tryd.cells3n] at g0 g1 g2 g3 g4
  match cs, hcl, xs, hlen with
  | [c0, c1, c2, c3, c4], _, [y0, y1, y2, y3, y4], _ =>
    obtain ⟨z0, e0, f0, -⟩ := DataW.trod_int Tryd.underlying3 (show _ = some y0 from g0)
    obtain ⟨z1, e1, f1, -⟩ := DataW.trod_int Tryd.underlying3 (show _ = some y1 from g1)
    obtain ⟨z2, e2, f2, -⟩ := DataW.trod_int Tryd.underlying3 (show _ = some y2 from g2)
    obtain ⟨z3, e3, f3, -⟩ := DataW.trod_int Tryd.underlying3 (show _ = some y3 from g3)
    obtain ⟨z4, e4, f4, -⟩ := DataW.trod_int Tryd.underlying3 (show _ = some y4 from g4)
    subst f0 f1 f2 f3 f4
    simp [litMv] at hx
    simp at e0 e1 e2 e3 e4
    obtain ⟨⟨h0, h1, h2, h3, h4⟩, -⟩ := hx
    simp [encMv, e0, e1, e2, e3, e4, h0, h1, h2, h3, h4]
theorem tab_cells {cs : List Value} {p : List MemPlace} (h : DataW.trod enc Tryd.prog w base sp held fuel 35 cs = some (.agg (mvs.map litMv), p)) : cs = tblL := by
  obtain ⟨xs, n, _, hx, hcl, hlen, hg⟩ := DataW.trod_array Tryd.underlying35 h
  rw [Tryd.cells35n] at hcl
  rw [Tryd.cells34n] at hg
  have hmap : xs.map (·.1) = mvs.map litMv := by
    have := congrArg Prod.fst hx
    simpa using this.symm
  have hrow : ∀ i m, mvs[i]? = some m → (cs.drop (i * 5)).take 5 = encMv m := fun i m hm => by
    have hi : i < 10 := by simpa [mvs] using (List.getElem?_eq_some_iff.1 hm).1
    have hxi : xs[i]? = some (xs[i]'(by omega)) := List.getElem?_eq_getElem (by omega)
    have h1 := hg i hi
    rw [hxi] at h1
    have h2 : (xs.map (·.1))[i]? = (mvs.map litMv)[i]? := by rw [hmap]
    rw [List.getElem?_map, List.getElem?_map, hxi, hm] at h2
    simp only [Option.map_some, Option.some.injEq] at h2
    exact mv_cells (m := m) (p := (xs[i]'(by omega)).2) (by rw [h1, ← h2])
  apply List.ext_getElem?
  intro j
  by_cases hj : j < 50
  · obtain ⟨m, hm⟩ : ∃ m, mvs[j / 5]? = some m := ⟨mvs[j / 5]'(by simp [mvs]; omega), List.getElem?_eq_getElem _⟩
    have h1 := congrArg (·[j % 5]?) (hrow (j / 5) m hm)
    simp only [List.getElem?_take, List.getElem?_drop, if_pos (show j % 5 < 5 by omega), show j / 5 * 5 + j % 5 = j from by omega] at h1
    rw [h1]
    have h2 : ∀ i : Fin 10, ∀ k : Fin 5, ((mvs[i.val]?).map encMv).bind (·[k.val]?) = tblL[i.val * 5 + k.val]? := by
      intro ⟨i, hi⟩ ⟨k, hk⟩
      match i, k, hi, hk with
      | 0, 0, _, _ => rfl
      | 0, 1, _, _ => rfl
      | 0, 2, _, _ => rfl
      | 0, 3, _, _ => rfl
      | 0, 4, _, _ => rfl
      | 1, 0, _, _ => rfl
      | 1, 1, _, _ => rfl
      | 1, 2, _, _ => rfl
      | 1, 3, _, _ => rfl
      | 1, 4, _, _ => rfl
      | 2, 0, _, _ => rfl
      | 2, 1, _, _ => rfl
      | 2, 2, _, _ => rfl
      | 2, 3, _, _ => rfl
      | 2, 4, _, _ => rfl
      | 3, 0, _, _ => rfl
      | 3, 1, _, _ => rfl
      | 3, 2, _, _ => rfl
      | 3, 3, _, _ => rfl
      | 3, 4, _, _ => rfl
      | 4, 0, _, _ => rfl
      | 4, 1, _, _ => rfl
      | 4, 2, _, _ => rfl
      | 4, 3, _, _ => rfl
      | 4, 4, _, _ => rfl
      | 5, 0, _, _ => rfl
      | 5, 1, _, _ => rfl
      | 5, 2, _, _ => rfl
      | 5, 3, _, _ => rfl
      | 5, 4, _, _ => rfl
      | 6, 0, _, _ => rfl
      | 6, 1, _, _ => rfl
      | 6, 2, _, _ => rfl
      | 6, 3, _, _ => rfl
      | 6, 4, _, _ => rfl
      | 7, 0, _, _ => rfl
      | 7, 1, _, _ => rfl
      | 7, 2, _, _ => rfl
      | 7, 3, _, _ => rfl
      | 7, 4, _, _ => rfl
      | 8, 0, _, _ => rfl
      | 8, 1, _, _ => rfl
      | 8, 2, _, _ => rfl
      | 8, 3, _, _ => rfl
      | 8, 4, _, _ => rfl
      | 9, 0, _, _ => rfl
      | 9, 1, _, _ => rfl
      | 9, 2, _, _ => rfl
      | 9, 3, _, _ => rfl
      | 9, 4, _, _ => rfl
    have h3 := h2 ⟨j / 5, by omega⟩ ⟨j % 5, by omega⟩
    simp only [hm, Option.map_some, Option.bind_some, show j / 5 * 5 + j % 5 = j from by omega] at h3
    exact h3
  · rw [List.getElem?_eq_none (by omega), List.getElem?_eq_none (by rw [tblL_len]; omega)]
end
theorem lt_of_cell {W : World} {b o : Nat} (h : (W.cell? ⟨b, o, none⟩).isSome = true) : b < W.heap.size := by
  apply Decidable.byContradiction
  intro hb
  have : W.heap[b]? = none := Array.getElem?_eq_none (by omega)
  unfold World.cell? at h
  simp [this] at h
theorem tab_of_laid {W : World} (h : laidMetH Tryd.prog [("syndic/near.moves", Rows.laid_syndic_near_moves)] W) : Tab W := by
  rw [MakeChecks.laidMetH_plain _ _ _ (by kernel_rfl)] at h
  obtain ⟨ps, ⟨g, t, cs, f, p, q, hg, ht, hv, hd, -⟩, -⟩ := h
  have gg : Tryd.prog.globalNamed "syndic/near.moves" = some 0 := by kernel_rfl
  have tt : (Tryd.prog.globals[0]?).map (·.type) = some 35 := by kernel_rfl
  obtain rfl := Option.some.inj (gg.symm.trans hg)
  obtain rfl := Option.some.inj (tt.symm.trans ht)
  have hc := tab_cells hd
  have hat := World.var?_cell hg hv
  refine ⟨fun j v hj => ?_, ?_⟩
  · rw [Nat.zero_add, hat j, ← Array.getElem?_toList, hc]
    exact hj
  · have h0 := hat 0
    rw [← Array.getElem?_toList, hc] at h0
    have h1 : (tblL[0]?).isSome = true := by rfl
    rw [← h0] at h1
    exact lt_of_cell h1
end Go.Proofs.YtohfoopagbajnaaDoor
