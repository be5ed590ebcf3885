/- The program's Take of what is wanted. Conditions: keys of 64 bits, ages from 0 to 60. -/
import Derived.Test.YtnnkcgbnhjkahaaAe
import Derived.Test.YtnnkcgbnhjkahaaJar
namespace Go.Proofs.Ytnnkcgbnhjkahaa
open Go.RowKit Go.Lib Go.Sort Go.Deep

theorem takeE_none {S : List Hd} {h : Hd} (hg : getH S (keyH h) = none) : takeE S h = 6 ∧ takeS S h = S := by
  unfold takeE takeS
  rw [hg]
  exact ⟨rfl, rfl⟩
theorem takeE_some {S : List Hd} {h y : Hd} (hg : getH S (keyH h) = some y) : (0 < nw y h → takeE S h = 8 ∧ takeS S h = S) ∧ (¬ 0 < nw y h → takeE S h = 0 ∧ takeS S h = restH S (keyH h)) := by
  unfold takeE takeS
  rw [hg]
  exact ⟨fun hn => ⟨if_pos hn, if_pos hn⟩, fun hn => ⟨if_neg hn, if_neg hn⟩⟩
set_option maxHeartbeats 4000000 in
theorem take_wnil (h : Hd) (w : World) : Calls Try.prog 13 #[.pointer none, .agg #[.int .i64 h.age, .int .i64 h.kind, .int .i64 h.id, .int .i64 h.adv, .int .i64 h.seq, .int .i64 h.sum, .int .i64 h.long]] w fun e w' => e = .returned (.int .i64 6) ∧ Below w.heap.size w w' := by
  have B0 := Lib.hid ((Below.refl w.heap.size w).alloc (Nat.le_refl _) (.cells #[.int .i64 h.age, .int .i64 h.kind, .int .i64 h.id, .int .i64 h.adv, .int .i64 h.seq, .int .i64 h.sum, .int .i64 h.long] 38))
  have K0 := Lib.hid (Blk.new w 38 #[.int .i64 h.age, .int .i64 h.kind, .int .i64 h.id, .int .i64 h.adv, .int .i64 h.seq, .int .i64 h.sum, .int .i64 h.long])
  have R0 := Lib.hid (blk_range7 K0.out)
  go_enter Try.func13, Try.ntmps13
  go_wp2_with (refine wpList_load_row 38 _ _ (by rfl) (.tmp 3) rfl (by rfl) R0.out Try.underlying38 rfl (by kernel_rfl) ?_)
  refine (keyOf_any h _).mono ?_
  rintro e1 w1 ⟨rfl, hb1⟩
  have B1 := Lib.hid (B0.out.trans (hb1.mono B0.out.size))
  clear hb1 K0 R0
  obtain ⟨k0, k1, k2⟩ := (Blk.new w1 47 #[.int .i64 h.kind, .int .i64 h.id, .int .i64 h.adv]).three
  have B2 := Lib.hid (B1.out.alloc B1.out.size (.cells #[.int .i64 h.kind, .int .i64 h.id, .int .i64 h.adv] 47))
  go_wp2_with fail
  refine (get_wnil (keyH h) _).mono ?_
  rintro e2 w2 ⟨rfl, hb2⟩
  have B3 := Lib.hid ((B2.out.trans (hb2.mono B2.out.size)).alloc (B2.out.trans (hb2.mono B2.out.size)).size (.cells #[.int .i64 0, .int .i64 0, .int .i64 0, .int .i64 0, .int .i64 0, .int .i64 0, .int .i64 0] 38))
  clear hb2 k0 k1 k2
  go_wp2
  go_ret
  exact ⟨rfl, B3.out⟩
set_option maxRecDepth 8000 in
set_option maxHeartbeats 8000000 in
theorem take_w {w : World} {p b : Nat} {S : List Hd} (h : PwIs w p b S) (x : Hd) (hk : wfKy (keyH x)) (hx : ageB x = true) (hS : ∀ y ∈ S, ageB y = true) :
    Calls Try.prog 13 #[.pointer (some ⟨p, 0, none⟩), .agg #[.int .i64 x.age, .int .i64 x.kind, .int .i64 x.id, .int .i64 x.adv, .int .i64 x.seq, .int .i64 x.sum, .int .i64 x.long]] w fun e w' => e = .returned (.int .i64 (takeE S x)) ∧ PwIs w' p b (takeS S x) ∧ Chg (fun q => q = b) w w' := by
  generalize hQ : (fun (e : Ending) (w' : World) => e = .returned (.int .i64 (takeE S x)) ∧ PwIs w' p b (takeS S x) ∧ Chg (fun q => q = b) w w') = Q
  have HQ := Lib.hid hQ
  have HP := Lib.hid h
  have HS := Lib.hid hS
  have HK := Lib.hid hk
  have HX := Lib.hid hx
  have B0 := Lib.hid ((Below.refl w.heap.size w).alloc (Nat.le_refl _) (.cells #[.int .i64 x.age, .int .i64 x.kind, .int .i64 x.id, .int .i64 x.adv, .int .i64 x.seq, .int .i64 x.sum, .int .i64 x.long] 38))
  have K0 := Lib.hid (Blk.new w 38 #[.int .i64 x.age, .int .i64 x.kind, .int .i64 x.id, .int .i64 x.adv, .int .i64 x.seq, .int .i64 x.sum, .int .i64 x.long])
  have R0 := Lib.hid (blk_range7 K0.out)
  clear hQ h hS hk hx
  go_enter Try.func13, Try.ntmps13
  go_wp2_with (refine wpList_load_row 38 _ _ (by rfl) (.tmp 3) rfl (by rfl) R0.out Try.underlying38 rfl (by kernel_rfl) ?_)
  refine (keyOf_any x _).mono ?_
  rintro e1 w1 ⟨rfl, hb1⟩
  have K1 := Lib.hid (K0.out.below hb1 K0.out.lt)
  have B1 := Lib.hid (B0.out.trans (hb1.mono B0.out.size))
  clear hb1 K0 R0 B0
  have Y2 := Lib.hid (Blk.new w1 47 #[.int .i64 x.kind, .int .i64 x.id, .int .i64 x.adv])
  have K2 := Lib.hid (K1.out.alloc (.cells #[.int .i64 x.kind, .int .i64 x.id, .int .i64 x.adv] 47))
  have B2 := Lib.hid (B1.out.alloc B1.out.size (.cells #[.int .i64 x.kind, .int .i64 x.id, .int .i64 x.adv] 47))
  have P2 := Lib.hid (HP.out.below B2.out)
  obtain ⟨k0, k1, k2⟩ := Y2.out.three
  clear K1 B1
  go_wp2_with fail
  refine (get_w P2.out (keyH x) HK.out).mono ?_
  rintro e3 w3 ⟨⟨r0, hwho, rfl⟩, hb3⟩
  clear k0 k1 k2
  have Y3 := Lib.hid (Y2.out.below hb3 Y2.out.lt)
  have K3 := Lib.hid (K2.out.below hb3 K2.out.lt)
  have B3 := Lib.hid (B2.out.trans (hb3.mono B2.out.size))
  have HY := Lib.hid (show w1.heap.size < w3.heap.size from Y3.out.lt)
  clear hb3 Y2 K2 B2 P2
  generalize w1.heap.size = y1 at *
  have Y4 := Lib.hid (Y3.out.alloc (.cells #[.int .i64 r0.age, .int .i64 r0.kind, .int .i64 r0.id, .int .i64 r0.adv, .int .i64 r0.seq, .int .i64 r0.sum, .int .i64 r0.long] 38))
  have K4 := Lib.hid (K3.out.alloc (.cells #[.int .i64 r0.age, .int .i64 r0.kind, .int .i64 r0.id, .int .i64 r0.adv, .int .i64 r0.seq, .int .i64 r0.sum, .int .i64 r0.long] 38))
  have B4 := Lib.hid (B3.out.alloc B3.out.size (.cells #[.int .i64 r0.age, .int .i64 r0.kind, .int .i64 r0.id, .int .i64 r0.adv, .int .i64 r0.seq, .int .i64 r0.sum, .int .i64 r0.long] 38))
  have J4 := Lib.hid (Blk.new w3 38 #[.int .i64 r0.age, .int .i64 r0.kind, .int .i64 r0.id, .int .i64 r0.adv, .int .i64 r0.seq, .int .i64 r0.sum, .int .i64 r0.long])
  have RX4 := Lib.hid (blk_range7 K4.out)
  have RJ4 := Lib.hid (blk_range7 J4.out)
  clear Y3 K3 B3
  rcases hwho with ⟨hno, rfl⟩ | hsome
  · rw [hno]
    have HT := Lib.hid (takeE_none hno)
    clear hno
    go_wp2
    show Q (.returned (.int .i64 6)) _
    rw [← HQ.out]
    exact ⟨by rw [HT.out.1], by rw [HT.out.2]; exact HP.out.below B4.out, Chg.of_below B4.out⟩
  · rw [hsome]
    have HT := Lib.hid (takeE_some hsome)
    have HAR := Lib.hid (HS.out r0 (getH_some hsome).1)
    clear hsome
    go_wp2_with (first | refine wpList_load_row 38 _ _ (by rfl) (.tmp 6) rfl (by rfl) RJ4.out Try.underlying38 rfl (by kernel_rfl) ?_ | refine wpList_load_row 38 _ _ (by rfl) (.tmp 3) rfl (by rfl) RX4.out Try.underlying38 rfl (by kernel_rfl) ?_)
    refine (newer_any r0 x _ HAR.out HX.out).mono ?_
    rintro e5 w5 ⟨rfl, hb5⟩
    have Y5 := Lib.hid (Y4.out.below hb5 Y4.out.lt)
    have B5 := Lib.hid (B4.out.trans (hb5.mono B4.out.size))
    clear hb5 RX4 RJ4 J4 K4 Y4 B4
    obtain ⟨d, hd⟩ : ∃ d, nw r0 x = d := ⟨_, rfl⟩
    rw [hd] at HT ⊢
    clear hd
    by_cases hd : 0 < d
    · have HT2 := Lib.hid (HT.out.1 (by omega))
      go_wp2
      show Q (.returned (.int .i64 8)) _
      rw [← HQ.out]
      exact ⟨by rw [HT2.out.1], by rw [HT2.out.2]; exact HP.out.below B5.out, Chg.of_below B5.out⟩
    · have HT2 := Lib.hid (HT.out.2 (by omega))
      have P5 := HP.out.below B5.out
      obtain ⟨hB, ⟨R, hM, hP⟩, hs⟩ := P5
      have HM := Lib.hid hM
      have HB := Lib.hid hB
      have HPM := Lib.hid hP
      have HSR := Lib.hid hs
      have c0 := hB.cell 0
      simp at c0
      obtain ⟨k0, k1, k2⟩ := Y5.out.three
      clear hB hM hP hs HT
      go_wp2_with fail
      go_still_tail 5, (by kernel_rfl)
      change wpList _ _ _ _ _ w5.drew
      have M1 := Lib.hid HM.out.drew
      go_wp2_with (at_delete; refine wpList_deleteHm (k := keyH x) rfl _ _ rfl rfl rfl M1.out HK.out ?_; intro w6 hm6 hturn; have M6 := Lib.hid hm6; have T6 := Lib.hid (chg_of_turned hturn); clear hm6 hturn)
      go_wp2
      show Q (.returned (.int .i64 0)) w6
      rw [← HQ.out]
      have hc5 : Chg (fun _ => False) w w5.drew := Chg.of_below (B5.out.trans ⟨rfl, rfl, rfl, Nat.le_refl _, fun _ _ => rfl⟩)
      have hc6 : Chg (fun q => q = b) w w6 := Chg.trans ⟨hc5.os, hc5.tape, hc5.output, hc5.size, fun q hq hn => hc5.block q hq (fun hf => hf)⟩ T6.out (fun q hq => .inl hq)
      refine ⟨by rw [HT2.out.1], ?_, hc6⟩
      rw [HT2.out.2]
      exact ⟨HP.out.1.chg hc6 HP.out.ne, ⟨_, M6.out, restH_perm HPM.out _⟩, sort_restH HSR.out _⟩
end Go.Proofs.Ytnnkcgbnhjkahaa
