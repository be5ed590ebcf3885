/- The walk of the statement WantsNil. Conditions: a key of 64 bits. -/
import Derived.Test.YtnnkcgbnhjkahaaAk
namespace Go.Proofs.Ytnnkcgbnhjkahaa
open Go.RowKit Go.Lib Go.Sort Go.Deep

theorem kys_one (w : World) (k : Ky) (hk : wfKy k) : Kys (w.alloc (.cells #[.int .i64 k.kind, .int .i64 k.id, .int .i64 k.adv] 47)) (w.heap.size + 1) (some ⟨w.heap.size, 0, none⟩) 1 [k] := by
  refine ⟨rfl, fun _ => ⟨w.heap.size, 0, rfl, Nat.lt_succ_self _, fun j x hx => ?_⟩⟩
  have hj : j = 0 := by
    have := (List.getElem?_eq_some_iff.1 hx).1
    simp at this
    exact this
  subst hj
  injection hx with hx
  subst hx
  obtain ⟨k0, k1, k2⟩ := (Blk.new w 47 #[.int .i64 k.kind, .int .i64 k.id, .int .i64 k.adv]).three
  exact ⟨k0, k1, k2, hk.2.1.1, hk.2.1.2⟩
theorem kys_none (w : World) : Kys w 0 none 0 [] := ⟨rfl, fun h => absurd h (by omega)⟩
set_option maxRecDepth 20000 in
set_option maxHeartbeats 16000000 in
theorem nil15_walk (h : Hd) (w : World) (hk : wfKy (keyH h)) : Calls Try.prog 7 #[.agg #[.int .i64 h.age, .int .i64 h.kind, .int .i64 h.id, .int .i64 h.adv, .int .i64 h.seq, .int .i64 h.sum, .int .i64 h.long]] w fun e w' => e = .returned (.bool true) ∧ Below w.heap.size w w' := by
  have HK := Lib.hid hk
  have B0 := Lib.hid ((Below.refl w.heap.size w).alloc (Nat.le_refl _) (.cells #[.int .i64 h.age, .int .i64 h.kind, .int .i64 h.id, .int .i64 h.adv, .int .i64 h.seq, .int .i64 h.sum, .int .i64 h.long] 38))
  have K0 := Lib.hid (Blk.new w 38 #[.int .i64 h.age, .int .i64 h.kind, .int .i64 h.id, .int .i64 h.adv, .int .i64 h.seq, .int .i64 h.sum, .int .i64 h.long])
  clear hk
  go_enter Try.func7, Try.ntmps7
  go_wp2_with fail
  refine (wakes_any _).mono ?_
  rintro e1 w1 ⟨rfl, hb1⟩
  have B1 := Lib.hid (B0.out.trans (hb1.mono B0.out.size))
  have K1 := Lib.hid (K0.out.below hb1 K0.out.lt)
  clear hb1 K0 B0
  have R1 := Lib.hid (blk_range7 K1.out)
  go_wp2_with (refine wpList_load_row 38 _ _ (by rfl) (.tmp 1) rfl (by rfl) R1.out Try.underlying38 rfl (by kernel_rfl) ?_)
  refine (keyOf_any h _).mono ?_
  rintro e2 w2 ⟨rfl, hb2⟩
  have B2 := Lib.hid (B1.out.trans (hb2.mono B1.out.size))
  have K2 := Lib.hid (K1.out.below hb2 K1.out.lt)
  clear hb2 K1 B1 R1
  go_wp2_with fail
  refine (get_wnil (keyH h) _).mono ?_
  rintro e3 w3 ⟨rfl, hb3⟩
  have B3 := Lib.hid ((B2.out.trans (hb3.mono B2.out.size)).alloc (B2.out.trans (hb3.mono B2.out.size)).size (.cells #[.int .i64 0, .int .i64 0, .int .i64 0, .int .i64 0, .int .i64 0, .int .i64 0, .int .i64 0] 38))
  have K3 := Lib.hid ((K2.out.below hb3 K2.out.lt).alloc (.cells #[.int .i64 0, .int .i64 0, .int .i64 0, .int .i64 0, .int .i64 0, .int .i64 0, .int .i64 0] 38))
  have R3 := Lib.hid (blk_range7 K3.out)
  clear hb3 K2 B2
  go_wp2_with (refine wpList_load_row 38 _ _ (by rfl) (.tmp 1) rfl (by rfl) R3.out Try.underlying38 rfl (by kernel_rfl) ?_)
  generalize w3.alloc (.cells #[.int .i64 0, .int .i64 0, .int .i64 0, .int .i64 0, .int .i64 0, .int .i64 0, .int .i64 0] 38) = w4 at *
  refine (keyOf_any h _).mono ?_
  rintro e5 w5 ⟨rfl, hb5⟩
  have B5 := Lib.hid (B3.out.trans (hb5.mono B3.out.size))
  have K5 := Lib.hid (K3.out.below hb5 K3.out.lt)
  clear hb5 K3 B3 R3
  have Y6 := Lib.hid (kys_one w5 (keyH h) HK.out)
  have B6 := Lib.hid (B5.out.alloc B5.out.size (.cells #[.int .i64 h.kind, .int .i64 h.id, .int .i64 h.adv] 47))
  have K6 := Lib.hid (K5.out.alloc (.cells #[.int .i64 h.kind, .int .i64 h.id, .int .i64 h.adv] 47))
  clear K5 B5
  go_wp2_with fail
  refine (answer_any (S := []) (F := fun _ => False) (K := [keyH h]) (B := w5.heap.size + 1) (.inl ⟨rfl, rfl⟩) Y6.out (by simp) (by omega) (fun k hk => by rw [List.mem_singleton.1 hk]; exact HK.out)).mono ?_
  rintro e7 w7 ⟨hb7, hA7⟩
  obtain rfl : e7 = .returned (.tuple #[.slice none 0 0, .bool false]) := by
    rcases hA7 with ⟨-, e⟩ | ⟨_, _, _, _, hne, -⟩
    · exact e
    · exact absurd rfl (hne (keyH h) List.mem_cons_self)
  clear hA7
  have B7 := Lib.hid (B6.out.trans (hb7.mono B6.out.size))
  have K7 := Lib.hid (K6.out.below hb7 K6.out.lt)
  clear hb7 K6 B6 Y6
  go_wp2_with fail
  refine (answer_any (S := []) (F := fun _ => False) (K := []) (B := 0) (.inl ⟨rfl, rfl⟩) (kys_none w7) (Nat.zero_le _) (by omega) (fun k hk => by cases hk)).mono ?_
  rintro e8 w8 ⟨hb8, ⟨⟨_, hm, _⟩, -⟩ | ⟨A8, n8, c8, R8, -, rfl, ho8, ha8⟩⟩
  · cases hm
  have hn8 : n8 = 0 := by
    have h1 := ho8.1
    have h2 := ha8.1
    rw [rcCells_length, h2] at h1
    simp [gotL] at h1
    omega
  subst hn8
  have B8 := Lib.hid (B7.out.trans (hb8.mono B7.out.size))
  have K8 := Lib.hid (K7.out.below hb8 K7.out.lt)
  clear hb8 K7 B7 ha8 ho8
  have R8 := Lib.hid (blk_range7 K8.out)
  go_wp2_with (refine wpList_load_row 38 _ _ (by rfl) (.tmp 1) rfl (by rfl) R8.out Try.underlying38 rfl (by kernel_rfl) ?_)
  have B9 := Lib.hid (B8.out.alloc B8.out.size (.cells #[.int .i64 h.age, .int .i64 h.kind, .int .i64 h.id, .int .i64 h.adv, .int .i64 h.seq, .int .i64 h.sum, .int .i64 h.long] 38))
  have R9 := Lib.hid (blk_range7 (K8.out.alloc (.cells #[.int .i64 h.age, .int .i64 h.kind, .int .i64 h.id, .int .i64 h.adv, .int .i64 h.seq, .int .i64 h.sum, .int .i64 h.long] 38)))
  clear K8 B8 R8
  refine (add_wnil _ _ _ _).mono ?_
  rintro e9 w9 ⟨rfl, rfl⟩
  generalize w8.alloc (.cells #[.int .i64 h.age, .int .i64 h.kind, .int .i64 h.id, .int .i64 h.adv, .int .i64 h.seq, .int .i64 h.sum, .int .i64 h.long] 38) = w9 at *
  go_wp2_with fail
  refine (all_wnil _).mono ?_
  rintro e10 w10 ⟨rfl, rfl⟩
  go_wp2_with fail
  refine (ask_wnil _).mono ?_
  rintro e10 w10 ⟨rfl, rfl⟩
  go_wp2_with fail
  refine (clear_wnil _).mono ?_
  rintro e10 w10 ⟨rfl, rfl⟩
  go_wp2_with fail
  refine (len_wnil _).mono ?_
  rintro e10 w10 ⟨rfl, rfl⟩
  go_wp2_with (refine wpList_load_row 38 _ _ (by rfl) (.tmp 1) rfl (by rfl) R9.out Try.underlying38 rfl (by kernel_rfl) ?_)
  refine (take_wnil h _).mono ?_
  rintro e11 w11 ⟨rfl, hb11⟩
  have B11 := Lib.hid (B9.out.trans (hb11.mono B9.out.size))
  go_wp2
  go_ret
  exact ⟨rfl, B11.out⟩
end Go.Proofs.Ytnnkcgbnhjkahaa
