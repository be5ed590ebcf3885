/- The statements' example of a summary. No conditions. -/
import Derived.Test.YtiibefgdlmjdgaaGreatUo
namespace Go.Proofs.YtiibefgdlmjdgaaGreat
open Go.RowKit Go.Lib Go.Sort Go.Deep

/-- A description that is but a head. -/
def la0 (h : Hd) : La := ⟨h, [], []⟩
def exA : Hd := ⟨0, 1, 1, 1, 0, 0, 0⟩
def exB : Hd := ⟨60, 1, 2, 2, 0, 0, 0⟩
theorem las_two {w : World} {X : Nat} (h1 h2 : Hd) (hB : Blk w X 44 #[.int .i64 h1.age, .int .i64 h1.kind, .int .i64 h1.id, .int .i64 h1.adv, .int .i64 h1.seq, .int .i64 h1.sum, .int .i64 h1.long, .slice none 0 0, .slice none 0 0, .int .i64 h2.age, .int .i64 h2.kind, .int .i64 h2.id, .int .i64 h2.adv, .int .i64 h2.seq, .int .i64 h2.sum, .int .i64 h2.long, .slice none 0 0, .slice none 0 0]) : Las w (X + 1) (some ⟨X, 0, none⟩) 2 [la0 h1, la0 h2] := by
  refine ⟨rfl, fun _ => ⟨X, 0, rfl, Nat.lt_succ_self X, fun j x hx => ?_⟩⟩
  match j, hx with
  | 0, hx =>
    injection hx with hx
    subst hx
    exact ⟨⟨hB.cell 0, hB.cell 1, hB.cell 2, hB.cell 3, hB.cell 4, hB.cell 5, hB.cell 6⟩, none, 0, 0, none, 0, 0, hB.cell 7, hB.cell 8, Lnk.nil, Row.nil, Nat.zero_le _, Nat.zero_le _⟩
  | 1, hx =>
    injection hx with hx
    subst hx
    exact ⟨⟨hB.cell 9, hB.cell 10, hB.cell 11, hB.cell 12, hB.cell 13, hB.cell 14, hB.cell 15⟩, none, 0, 0, none, 0, 0, hB.cell 16, hB.cell 17, Lnk.nil, Row.nil, Nat.zero_le _, Nat.zero_le _⟩
theorem ex_told : toldL [la0 exB, la0 exA] = [exA] := by
  unfold toldL
  rw [List.filter_cons_of_neg (by show ¬ (!((60 : Int) == 60)) = true; decide), List.filter_cons_of_pos (by show (!((0 : Int) == 60)) = true; decide)]
  rfl
theorem ex_gone : (goneL [la0 exA, la0 exB]).length = 1 := by
  have h : goneK [la0 exA, la0 exB] = [kyL (la0 exB)] := by
    unfold goneK
    rw [List.filter_cons_of_neg (by show ¬ ((0 : Int) == 60) = true; decide), List.filter_cons_of_pos (by show ((60 : Int) == 60) = true; decide)]
    rfl
  unfold goneL
  rw [h, List.mergeSort_singleton, dedup_short (fun j hj => keeps_lt_one _ j (by simpa using hj))]
  rfl
theorem keepS {w0 w' : World} (hb : Below w0.heap.size w0 w') : Below w0.heap.size w0 w' ∧ (∀ b o, b < w0.heap.size → w'.cell? ⟨b, o, none⟩ = w0.cell? ⟨b, o, none⟩) :=
  ⟨hb, fun b o h => hb.cell (p := ⟨b, o, none⟩) h⟩
theorem ord_one (x : Hd) : Ord lessH [x] := by simp [Ord]
set_option maxRecDepth 20000 in
set_option maxHeartbeats 8000000 in
theorem wakes_any (w : World) : Calls Tryz.prog 5 #[] w fun e w' => e = .returned (.bool true) ∧ Below w.heap.size w w' := by
  go_enter Tryz.func5, Tryz.ntmps5
  have B0 := Lib.hid ((((Below.refl w.heap.size w).alloc (Nat.le_refl _) (.cells #[.int .i64 0, .int .i64 1, .int .i64 1, .int .i64 1, .int .i64 0, .int .i64 0, .int .i64 0, .slice none 0 0, .slice none 0 0] 44)).alloc (by simp) (.cells #[.int .i64 60, .int .i64 1, .int .i64 2, .int .i64 2, .int .i64 0, .int .i64 0, .int .i64 0, .slice none 0 0, .slice none 0 0] 44)).alloc (by simp; omega) (.cells #[.int .i64 60, .int .i64 1, .int .i64 2, .int .i64 2, .int .i64 0, .int .i64 0, .int .i64 0, .slice none 0 0, .slice none 0 0, .int .i64 0, .int .i64 1, .int .i64 1, .int .i64 1, .int .i64 0, .int .i64 0, .int .i64 0, .slice none 0 0, .slice none 0 0] 44))
  have KA := Lib.hid (((Blk.new w 44 #[.int .i64 0, .int .i64 1, .int .i64 1, .int .i64 1, .int .i64 0, .int .i64 0, .int .i64 0, .slice none 0 0, .slice none 0 0]).alloc (.cells #[.int .i64 60, .int .i64 1, .int .i64 2, .int .i64 2, .int .i64 0, .int .i64 0, .int .i64 0, .slice none 0 0, .slice none 0 0] 44)).alloc (.cells #[.int .i64 60, .int .i64 1, .int .i64 2, .int .i64 2, .int .i64 0, .int .i64 0, .int .i64 0, .slice none 0 0, .slice none 0 0, .int .i64 0, .int .i64 1, .int .i64 1, .int .i64 1, .int .i64 0, .int .i64 0, .int .i64 0, .slice none 0 0, .slice none 0 0] 44))
  have KB := Lib.hid ((Blk.new (w.alloc (.cells #[.int .i64 0, .int .i64 1, .int .i64 1, .int .i64 1, .int .i64 0, .int .i64 0, .int .i64 0, .slice none 0 0, .slice none 0 0] 44)) 44 #[.int .i64 60, .int .i64 1, .int .i64 2, .int .i64 2, .int .i64 0, .int .i64 0, .int .i64 0, .slice none 0 0, .slice none 0 0]).alloc (.cells #[.int .i64 60, .int .i64 1, .int .i64 2, .int .i64 2, .int .i64 0, .int .i64 0, .int .i64 0, .slice none 0 0, .slice none 0 0, .int .i64 0, .int .i64 1, .int .i64 1, .int .i64 1, .int .i64 0, .int .i64 0, .int .i64 0, .slice none 0 0, .slice none 0 0] 44))
  have KC := Lib.hid (Blk.new ((w.alloc (.cells #[.int .i64 0, .int .i64 1, .int .i64 1, .int .i64 1, .int .i64 0, .int .i64 0, .int .i64 0, .slice none 0 0, .slice none 0 0] 44)).alloc (.cells #[.int .i64 60, .int .i64 1, .int .i64 2, .int .i64 2, .int .i64 0, .int .i64 0, .int .i64 0, .slice none 0 0, .slice none 0 0] 44)) 44 #[.int .i64 60, .int .i64 1, .int .i64 2, .int .i64 2, .int .i64 0, .int .i64 0, .int .i64 0, .slice none 0 0, .slice none 0 0, .int .i64 0, .int .i64 1, .int .i64 1, .int .i64 1, .int .i64 0, .int .i64 0, .int .i64 0, .slice none 0 0, .slice none 0 0])
  rw [show (w.alloc (.cells #[.int .i64 0, .int .i64 1, .int .i64 1, .int .i64 1, .int .i64 0, .int .i64 0, .int .i64 0, .slice none 0 0, .slice none 0 0] 44)).heap.size = w.heap.size + 1 by simp] at KB
  rw [show ((w.alloc (.cells #[.int .i64 0, .int .i64 1, .int .i64 1, .int .i64 1, .int .i64 0, .int .i64 0, .int .i64 0, .slice none 0 0, .slice none 0 0] 44)).alloc (.cells #[.int .i64 60, .int .i64 1, .int .i64 2, .int .i64 2, .int .i64 0, .int .i64 0, .int .i64 0, .slice none 0 0, .slice none 0 0] 44)).heap.size = w.heap.size + 1 + 1 by simp] at KC
  go_wp2_with fail
  generalize ((w.alloc (.cells #[.int .i64 0, .int .i64 1, .int .i64 1, .int .i64 1, .int .i64 0, .int .i64 0, .int .i64 0, .slice none 0 0, .slice none 0 0] 44)).alloc (.cells #[.int .i64 60, .int .i64 1, .int .i64 2, .int .i64 2, .int .i64 0, .int .i64 0, .int .i64 0, .slice none 0 0, .slice none 0 0] 44)).alloc (.cells #[.int .i64 60, .int .i64 1, .int .i64 2, .int .i64 2, .int .i64 0, .int .i64 0, .int .i64 0, .slice none 0 0, .slice none 0 0, .int .i64 0, .int .i64 1, .int .i64 1, .int .i64 1, .int .i64 0, .int .i64 0, .int .i64 0, .slice none 0 0, .slice none 0 0] 44) = w0 at *
  have hz0 := B0.out.size
  refine (new_any (las_two exB exA KC.out) (by have := KC.out.lt; omega) (by omega)).mono ?_
  rintro e1 w1 ⟨p, A, n, c, K, rfl, hb1, hp1, hbl, hrow, hord, hst⟩
  rw [ex_told] at hst
  have hK := stab_unique swo_less (ord_one exA) hord hst
  subst hK
  have SM := Lib.hid (sum_new hp1 hbl hrow)
  have hn1 : n = 1 := by have := SM.out.len; simpa using this.symm
  subst hn1
  have KA1 := Lib.hid (KA.out.below hb1 KA.out.lt)
  have KB1 := Lib.hid (KB.out.below hb1 KB.out.lt)
  have B1 := Lib.hid (B0.out.trans (hb1.mono hz0))
  clear hb1 hp1 hbl hrow hord hst KA KB KC B0 hz0
  go_wp2_with fail
  refine (pieceP_any SM.out (by omega)).mono ?_
  rintro e2 w2 ⟨A3, m3, c3, rfl, hb2, hrow⟩
  have hm3 : m3 = 1 := by have := own_lenH encHd_len (by omega) hrow; simpa using this.symm
  subst hm3
  obtain ⟨g3, rfl, -, hg3, hc1, hc2, hat⟩ := own_item encHd_len (by omega) hrow (j := 0) (x := exA) rfl
  have KA2 := Lib.hid (KA1.out.below hb2 KA1.out.lt)
  have KB2 := Lib.hid (KB1.out.below hb2 KB1.out.lt)
  have B2 := Lib.hid (B1.out.trans (hb2.mono B1.out.size))
  unfold maxLen at hc2
  clear hb2 hrow KA1 KB1 B1 SM
  go_wp2_with fail
  have x0 : w2.cell? ⟨g3, 0, none⟩ = some (.int .i64 0) := hat 0 (by omega)
  have x1 : w2.cell? ⟨g3, 1, none⟩ = some (.int .i64 1) := hat 1 (by omega)
  have x2 : w2.cell? ⟨g3, 2, none⟩ = some (.int .i64 1) := hat 2 (by omega)
  have x3 : w2.cell? ⟨g3, 3, none⟩ = some (.int .i64 1) := hat 3 (by omega)
  have x4 : w2.cell? ⟨g3, 4, none⟩ = some (.int .i64 0) := hat 4 (by omega)
  have x5 : w2.cell? ⟨g3, 5, none⟩ = some (.int .i64 0) := hat 5 (by omega)
  have x6 : w2.cell? ⟨g3, 6, none⟩ = some (.int .i64 0) := hat 6 (by omega)
  obtain ⟨a0, a1, a2, a3, a4, a5, a6, a7, a8⟩ := KA2.out.nine
  obtain ⟨b0, b1, b2, b3, b4, b5, b6, b7, b8⟩ := KB2.out.nine
  have hla := KA2.out.lt
  have hlb := KB2.out.lt
  have hz2 := B2.out.size
  have eH : ∀ W, (Op.equalIn 10000 40 (.agg #[.int .i64 0, .int .i64 1, .int .i64 1, .int .i64 1, .int .i64 0, .int .i64 0, .int .i64 0]) (.agg #[.int .i64 0, .int .i64 1, .int .i64 1, .int .i64 1, .int .i64 0, .int .i64 0, .int .i64 0])).run Tryz.prog W = .ok true W := fun W => by
    have := equalHd exA exA W
    rwa [show sameHd exA exA = true from (sameHd_iff _ _).2 rfl] at this
  have BR : Below w2.heap.size w2 w2.drew := ⟨rfl, rfl, rfl, Nat.le_refl _, fun _ _ => rfl⟩
  have BR2 := BR.alloc (Nat.le_refl _) (.cells #[.int .i64 0, .int .i64 1, .int .i64 1, .int .i64 1, .int .i64 0, .int .i64 0, .int .i64 0, .slice none 0 0, .slice none 0 0, .int .i64 60, .int .i64 1, .int .i64 2, .int .i64 2, .int .i64 0, .int .i64 0, .int .i64 0, .slice none 0 0, .slice none 0 0] 44)
  have L2 := Lib.hid (las_two exA exB (Blk.new w2.drew 44 #[.int .i64 0, .int .i64 1, .int .i64 1, .int .i64 1, .int .i64 0, .int .i64 0, .int .i64 0, .slice none 0 0, .slice none 0 0, .int .i64 60, .int .i64 1, .int .i64 2, .int .i64 2, .int .i64 0, .int .i64 0, .int .i64 0, .slice none 0 0, .slice none 0 0]))
  have HZL := Lib.hid (Nat.succ_le_of_lt (Blk.new w2.drew 44 #[.int .i64 0, .int .i64 1, .int .i64 1, .int .i64 1, .int .i64 0, .int .i64 0, .int .i64 0, .slice none 0 0, .slice none 0 0, .int .i64 60, .int .i64 1, .int .i64 2, .int .i64 2, .int .i64 0, .int .i64 0, .int .i64 0, .slice none 0 0, .slice none 0 0]).lt)
  have BR2d : Below w2.heap.size w2 (w2.alloc (.cells #[.int .i64 0, .int .i64 1, .int .i64 1, .int .i64 1, .int .i64 0, .int .i64 0, .int .i64 0, .slice none 0 0, .slice none 0 0, .int .i64 60, .int .i64 1, .int .i64 2, .int .i64 2, .int .i64 0, .int .i64 0, .int .i64 0, .slice none 0 0, .slice none 0 0] 44)).drew := BR2
  clear hat
  go_region_held3 (fun w' => Below w2.heap.size w2 w' ∧ (∀ b o, b < w2.heap.size → w'.cell? ⟨b, o, none⟩ = w2.cell? ⟨b, o, none⟩)) ((refine keepS ?_; first | with_reducible exact BR | with_reducible exact BR2 | with_reducible exact BR2d | with_reducible exact BR3)) (first | (go_at_call 20; refine (goneS_any L2.out HZL.out (by omega)).mono ?_; rintro e3 w3 ⟨A4, m4, c4, rfl, hb3, hrow4⟩; have BR3 := BR2.trans (hb3.mono BR2.size); obtain rfl : m4 = 1 := by (have := hrow4.1; rw [kyCells_length, ex_gone] at this; omega)))
  all_goals (go_wp2; go_ret; exact ⟨rfl, B2.out.trans (BR3.mono hz2)⟩)
end Go.Proofs.YtiibefgdlmjdgaaGreat
