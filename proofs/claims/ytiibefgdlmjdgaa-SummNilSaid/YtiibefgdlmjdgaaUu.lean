/- The walk of the statement SummNil. Conditions: a key of 64 bits. -/
import Derived.Test.YtiibefgdlmjdgaaUt
import Derived.Test.YtiibefgdlmjdgaaUp
namespace Go.Proofs.Ytiibefgdlmjdgaa
open Go.RowKit Go.Lib Go.Sort Go.Deep

theorem lacks_nil_one (h : Hd) : lacksL [] [h] = [h] := rfl
set_option maxRecDepth 20000 in
set_option maxHeartbeats 8000000 in
theorem nil_walk (h : Hd) (hk : wfKy (keyH h)) (w : World) : Calls Try.prog 8 #[.agg #[.int .i64 h.age, .int .i64 h.kind, .int .i64 h.id, .int .i64 h.adv, .int .i64 h.seq, .int .i64 h.sum, .int .i64 h.long]] w fun e w' => e = .returned (.bool true) ∧ Below w.heap.size w w' := by
  have B0 := Lib.hid ((Below.refl w.heap.size w).alloc (Nat.le_refl _) (.cells #[.int .i64 h.age, .int .i64 h.kind, .int .i64 h.id, .int .i64 h.adv, .int .i64 h.seq, .int .i64 h.sum, .int .i64 h.long] 30))
  have K0 := Lib.hid (Blk.new w 30 #[.int .i64 h.age, .int .i64 h.kind, .int .i64 h.id, .int .i64 h.adv, .int .i64 h.seq, .int .i64 h.sum, .int .i64 h.long])
  have HK := Lib.hid hk
  clear hk
  go_enter Try.func8, Try.ntmps8
  go_wp2_with fail
  refine (wakes_any _).mono ?_
  rintro e1 w1 ⟨rfl, hb1⟩
  generalize w.alloc (.cells #[.int .i64 h.age, .int .i64 h.kind, .int .i64 h.id, .int .i64 h.adv, .int .i64 h.seq, .int .i64 h.sum, .int .i64 h.long] 30) = w0 at *
  have hz0 := B0.out.size
  have B1 := Lib.hid (B0.out.trans (hb1.mono hz0))
  have K1 := Lib.hid (K0.out.below hb1 K0.out.lt)
  have R1 := Lib.hid (show w1.rangeAt w.heap.size 0 [.int .i64 h.age, .int .i64 h.kind, .int .i64 h.id, .int .i64 h.adv, .int .i64 h.seq, .int .i64 h.sum, .int .i64 h.long] from blk_range7 K1.out)
  have hz1 := B1.out.size
  have B2 := Lib.hid (B1.out.alloc hz1 (.cells #[.int .i64 h.age, .int .i64 h.kind, .int .i64 h.id, .int .i64 h.adv, .int .i64 h.seq, .int .i64 h.sum, .int .i64 h.long] 30))
  have K2 := Lib.hid (K1.out.alloc (.cells #[.int .i64 h.age, .int .i64 h.kind, .int .i64 h.id, .int .i64 h.adv, .int .i64 h.seq, .int .i64 h.sum, .int .i64 h.long] 30))
  have L2 := Lib.hid (show Hds (w1.alloc (.cells #[.int .i64 h.age, .int .i64 h.kind, .int .i64 h.id, .int .i64 h.adv, .int .i64 h.seq, .int .i64 h.sum, .int .i64 h.long] 30)) (w1.heap.size + 1) (some ⟨w1.heap.size, 0, none⟩) 1 [h] from ⟨rfl, fun _ => ⟨w1.heap.size, 0, rfl, Nat.lt_succ_self _, fun j x hx => by
    have hj : j = 0 := by
      have := (List.getElem?_eq_some_iff.1 hx).1
      simpa using this
    subst hj
    injection hx with hx
    subst hx
    have hB := Blk.new w1 30 #[.int .i64 h.age, .int .i64 h.kind, .int .i64 h.id, .int .i64 h.adv, .int .i64 h.seq, .int .i64 h.sum, .int .i64 h.long]
    exact ⟨hB.cell 0, hB.cell 1, hB.cell 2, hB.cell 3, hB.cell 4, hB.cell 5, hB.cell 6⟩⟩⟩)
  clear hb1 B0 K0 hz0 B1 K1
  go_wp2_with (refine wpList_load_row 30 _ _ (by rfl) (.tmp 1) rfl (by rfl) R1.out Try.underlying30 rfl (by kernel_rfl) ?_)
  refine (lacksS_any (v := .pointer none) (S := []) (F := fun _ => False) (.inl ⟨rfl, rfl⟩) L2.out (by simp) (by omega) (fun x hx => by
    rw [List.mem_singleton] at hx
    rw [hx]
    exact HK.out) (fun x _ y hy => by simp [getL] at hy) (fun i j g x hij hi hj => by
    have := (List.getElem?_eq_some_iff.1 hj).1
    simp at this
    omega)).mono ?_
  rintro e2 w2 ⟨A, m, c, rfl, hb2, hrow⟩
  rw [lacks_nil_one] at hrow
  have hm : m = 1 := by have := own_lenH encHd_len (by omega) hrow; simpa using this.symm
  subst hm
  obtain ⟨g, rfl, -, hgl, hc1, hc2, hat⟩ := own_item encHd_len (by omega) hrow (j := 0) (x := h) rfl
  have B3 := Lib.hid (B2.out.trans (hb2.mono B2.out.size))
  have K3 := Lib.hid (K2.out.below hb2 K2.out.lt)
  unfold maxLen at hc2
  clear hb2 hrow B2 K2 R1 L2 hz1
  go_wp2_with fail
  have x0 : w2.cell? ⟨g, 0, none⟩ = some (.int .i64 h.age) := hat 0 (by omega)
  have x1 : w2.cell? ⟨g, 1, none⟩ = some (.int .i64 h.kind) := hat 1 (by omega)
  have x2 : w2.cell? ⟨g, 2, none⟩ = some (.int .i64 h.id) := hat 2 (by omega)
  have x3 : w2.cell? ⟨g, 3, none⟩ = some (.int .i64 h.adv) := hat 3 (by omega)
  have x4 : w2.cell? ⟨g, 4, none⟩ = some (.int .i64 h.seq) := hat 4 (by omega)
  have x5 : w2.cell? ⟨g, 5, none⟩ = some (.int .i64 h.sum) := hat 5 (by omega)
  have x6 : w2.cell? ⟨g, 6, none⟩ = some (.int .i64 h.long) := hat 6 (by omega)
  obtain ⟨a0, a1, a2, a3, a4, a5, a6⟩ := K3.out.sevenH
  have hla := K3.out.lt
  have hz3 := B3.out.size
  have eH : ∀ W, (Op.equalIn 10000 30 (.agg #[.int .i64 h.age, .int .i64 h.kind, .int .i64 h.id, .int .i64 h.adv, .int .i64 h.seq, .int .i64 h.sum, .int .i64 h.long]) (.agg #[.int .i64 h.age, .int .i64 h.kind, .int .i64 h.id, .int .i64 h.adv, .int .i64 h.seq, .int .i64 h.sum, .int .i64 h.long])).run Try.prog W = .ok true W := fun W => by
    have := equalHd h h W
    rwa [show sameHd h h = true from (sameHd_iff _ _).2 rfl] at this
  have BR : Below w2.heap.size w2 w2.drew := ⟨rfl, rfl, rfl, Nat.le_refl _, fun _ _ => rfl⟩
  clear hat
  go_region_held3 (fun w' => Below w2.heap.size w2 w' ∧ (∀ b o, b < w2.heap.size → w'.cell? ⟨b, o, none⟩ = w2.cell? ⟨b, o, none⟩)) ((refine keepW ?_; first | with_reducible exact BR | with_reducible exact BR3 | with_reducible exact BR4)) (first | (go_at_call 34; refine (pieceP_nil _).mono ?_; rintro e3 w3 ⟨A3, m3, c3, rfl, hb3, hrow3⟩; have BR3 := BR.trans (show Below w2.heap.size w2.drew w3 from hb3); obtain rfl : m3 = 0 := by (have := own_lenH encHd_len (by omega) hrow3; simpa using this.symm)) | (go_at_call 35; refine (more_nil _).mono ?_; rintro e4 w4 ⟨rfl, q4, rfl⟩; have BR4 := BR3.trans (⟨rfl, rfl, rfl, Nat.le_refl _, fun _ _ => rfl⟩ : Below w2.heap.size w3 (w3.drewN q4))) | (go_at_call 36; refine (step_nil _).mono ?_; rintro e5 w5 ⟨rfl, rfl⟩))
  all_goals (go_wp2; go_ret; exact ⟨rfl, B3.out.trans (BR4.mono hz3)⟩)
end Go.Proofs.Ytiibefgdlmjdgaa
