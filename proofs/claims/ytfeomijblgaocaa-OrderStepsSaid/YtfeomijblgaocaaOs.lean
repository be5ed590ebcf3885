/- The walk of the statement OrderSteps. Conditions: the two numbers are of 8 and of 16 bits. -/
import Derived.Test.YtfeomijblgaocaaOd
import Derived.Test.YtfeomijblgaocaaOw
import Derived.Deep.DeepCutAuto
namespace Go.Proofs.Ytfeomijblgaocaa
open Go.RowKit

/-- Two copies of a head in memory of their own. -/
def Two (w0 wx : World) (h : Hd) (p q : Nat) : Prop :=
  Blk wx p 23 #[.int .i64 h.age, .int .i64 h.kind, .int .i64 h.id, .int .i64 h.adv, .int .i64 h.seq, .int .i64 h.sum, .int .i64 h.long] ∧ Blk wx q 23 #[.int .i64 h.age, .int .i64 h.kind, .int .i64 h.id, .int .i64 h.adv, .int .i64 h.seq, .int .i64 h.sum, .int .i64 h.long] ∧ p ≠ q ∧ w0.heap.size ≤ p ∧ w0.heap.size ≤ q ∧ Below w0.heap.size w0 wx

theorem two_a (w : World) (h : Hd) : Two w ((w.alloc (.cells #[.int .i64 h.age, .int .i64 h.kind, .int .i64 h.id, .int .i64 h.adv, .int .i64 h.seq, .int .i64 h.sum, .int .i64 h.long] 23)).alloc (.cells #[.int .i64 h.age, .int .i64 h.kind, .int .i64 h.id, .int .i64 h.adv, .int .i64 h.seq, .int .i64 h.sum, .int .i64 h.long] 23)).drew h w.heap.size (w.heap.size + 1) :=
  ⟨((Blk.new w 23 #[.int .i64 h.age, .int .i64 h.kind, .int .i64 h.id, .int .i64 h.adv, .int .i64 h.seq, .int .i64 h.sum, .int .i64 h.long]).alloc (.cells #[.int .i64 h.age, .int .i64 h.kind, .int .i64 h.id, .int .i64 h.adv, .int .i64 h.seq, .int .i64 h.sum, .int .i64 h.long] 23)).drew, (Blk.new1 w (.cells #[.int .i64 h.age, .int .i64 h.kind, .int .i64 h.id, .int .i64 h.adv, .int .i64 h.seq, .int .i64 h.sum, .int .i64 h.long] 23) 23 #[.int .i64 h.age, .int .i64 h.kind, .int .i64 h.id, .int .i64 h.adv, .int .i64 h.seq, .int .i64 h.sum, .int .i64 h.long]).drew, by omega, by omega, by omega, below_drewN (((Below.refl w.heap.size w).alloc (Nat.le_refl _) _).alloc (by simp) _) 1⟩
theorem two_b (w : World) (h : Hd) : Two w ((w.alloc (.cells #[.int .i64 h.age, .int .i64 h.kind, .int .i64 h.id, .int .i64 h.adv, .int .i64 h.seq, .int .i64 h.sum, .int .i64 h.long] 23)).alloc (.cells #[.int .i64 h.age, .int .i64 h.kind, .int .i64 h.id, .int .i64 h.adv, .int .i64 h.seq, .int .i64 h.sum, .int .i64 h.long] 23)).drew h (w.heap.size + 1) w.heap.size := by
  obtain ⟨a, b, c, d, e, f⟩ := two_a w h
  exact ⟨b, a, fun x => c x.symm, e, d, f⟩

set_option maxRecDepth 100000 in
set_option maxHeartbeats 8000000 in
theorem steps_walk (h : Hd) (z1 z2 : Int) (w : World) (ha0 : 0 ≤ z1) (ha1 : z1 ≤ 255) (hs0 : 0 ≤ z2) (hs1 : z2 ≤ 65535) : Calls Try.prog 5 #[.agg #[.int .i64 h.age, .int .i64 h.kind, .int .i64 h.id, .int .i64 h.adv, .int .i64 h.seq, .int .i64 h.sum, .int .i64 h.long], .int .u8 z1, .int .u16 z2] w fun e w' => e = .returned (.bool true) ∧ Below w.heap.size w w' := by
  have KA := Lib.hid (Blk.new w 23 #[.int .i64 h.age, .int .i64 h.kind, .int .i64 h.id, .int .i64 h.adv, .int .i64 h.seq, .int .i64 h.sum, .int .i64 h.long])
  have B0 := Lib.hid ((Below.refl w.heap.size w).alloc (Nat.le_refl _) (.cells #[.int .i64 h.age, .int .i64 h.kind, .int .i64 h.id, .int .i64 h.adv, .int .i64 h.seq, .int .i64 h.sum, .int .i64 h.long] 23))
  go_enter Try.func5, Try.ntmps5
  go_wp2_with fail
  refine (wakes_any _).mono ?_
  rintro e1 w1 ⟨rfl, hb1⟩
  have hlA := KA.out.lt
  have KA1 := Lib.hid (KA.out.below hb1 hlA)
  have B1 := Lib.hid (B0.out.trans (hb1.mono (by simp)))
  have hlA1 := KA1.out.lt
  clear hb1 KA B0 hlA
  go_wp2_with (refine wpList_load_head (by rfl) (.tmp 3) rfl (by rfl) KA1.out ?_)
  refine (may_any (some ⟨w1.heap.size, 0, none⟩) 1 1 [h] (w1.heap.size + 1) _ (hds_block [h] (Blk.new w1 23 _)) (by simp) (by unfold maxLen; omega)).mono ?_
  rintro e2 w2 ⟨rfl, hb2⟩
  have hsz1 := B1.out.size
  have BN := Below.alloc (Below.refl w1.heap.size w1) (Nat.le_refl _) (.cells (hdsCells [h]).toArray 23)
  have hb12 := BN.trans (hb2.mono (by simp))
  have B2 := Lib.hid (B1.out.trans (hb12.mono hsz1))
  have KA2 := Lib.hid (KA1.out.below hb12 hlA1)
  clear BN hb12 hb2 KA1 B1 hlA1
  cases hall : [h].all ageB
  · go_wp2
    go_ret
    exact ⟨rfl, B2.out⟩
  have HG := Lib.hid (show ageB h = true by simpa using hall)
  clear hall
  have hlA2 := KA2.out.lt
  have hsz2 := B2.out.size
  obtain ⟨k0, k1, k2, k3, k4, k5, k6⟩ := KA2.out.seven
  by_cases hq1 : 2147483647 ≤ h.seq
  · have d1 : decide (2147483647 ≤ h.seq) = true := by simpa using hq1
    go_wp2
    go_ret
    exact ⟨rfl, B2.out⟩
  have d1 : decide (2147483647 ≤ h.seq) = false := by simpa using hq1
  by_cases hq2 : h.seq < -2147483647
  · have d2 : decide (h.seq < -2147483647) = true := by simpa using hq2
    go_wp2
    go_ret
    exact ⟨rfl, B2.out⟩
  have d2 : decide (h.seq < -2147483647) = false := by simpa using hq2
  go_upto_region 5 with fail
  go_cut [7, 8] (fun s7 s8 wx => ∃ p q : Nat, s7 = .pointer (some ⟨p, 0, none⟩) ∧ s8 = .pointer (some ⟨q, 0, none⟩) ∧ Hid (Two w2 wx h p q))
  case first =>
    go_region
    · go_wp2_with fail
      go_meet
      exact ⟨_, _, rfl, rfl, Lib.hid (two_a w2 h)⟩
    · go_wp2_with fail
      go_meet
      exact ⟨_, _, rfl, rfl, Lib.hid (two_b w2 h)⟩
  case rest =>
    obtain ⟨p, q, rfl, rfl, HT⟩ := hcut
    have KA3 := Lib.hid (KA2.out.below HT.out.2.2.2.2.2 hlA2)
    have B3 := Lib.hid (B2.out.trans (HT.out.2.2.2.2.2.mono hsz2))
    have hsz3 := B3.out.size
    have hlA3 := KA3.out.lt
    have hp : w.heap.size < p := by have := HT.out.2.2.2.1; omega
    have hq : w.heap.size < q := by have := HT.out.2.2.2.2.1; omega
    have hpq := HT.out.2.2.1
    have hlp := HT.out.1.lt
    have hlq := HT.out.2.1.lt
    clear k0 k1 k2 k3 k4 k5 k6
    obtain ⟨k0, k1, k2, k3, k4, k5, k6⟩ := KA3.out.seven
    obtain ⟨p0, p1, p2, p3, p4, p5, p6⟩ := HT.out.1.seven
    obtain ⟨q0, q1, q2, q3, q4, q5, q6⟩ := HT.out.2.1.seven
    have f4 := HT.out.1.frozen 4
    have f0 := HT.out.1.frozen 0
    have f5 := HT.out.1.frozen 5
    have g0 := HT.out.2.1.frozen 0
    have hr0 : 0 ≤ z1 % 61 := by omega
    have hr1 : z1 % 61 ≤ 60 := by omega
    go_upto_region 8 with fail
    generalize z1 % 61 = r at *
    have KP := Lib.hid (show Blk ((((wc.setCell ⟨p, 4, none⟩ (.int .i64 (h.seq + 1))).setCell ⟨p, 0, none⟩ (.int .i64 r)).setCell ⟨p, 5, none⟩ (.int .i64 z2)).setCell ⟨q, 0, none⟩ (.int .i64 60)) p 23 #[.int .i64 r, .int .i64 h.kind, .int .i64 h.id, .int .i64 h.adv, .int .i64 (h.seq + 1), .int .i64 z2, .int .i64 h.long] by
      have h9 := (((HT.out.1.put 4 (.int .i64 (h.seq + 1))).put 0 (.int .i64 r)).put 5 (.int .i64 z2)).far (p := ⟨q, 0, none⟩) hpq (.int .i64 60)
      simp only [List.setIfInBounds_toArray, List.set_cons_zero, List.set_cons_succ] at h9
      exact h9)
    have KQ := Lib.hid (show Blk ((((wc.setCell ⟨p, 4, none⟩ (.int .i64 (h.seq + 1))).setCell ⟨p, 0, none⟩ (.int .i64 r)).setCell ⟨p, 5, none⟩ (.int .i64 z2)).setCell ⟨q, 0, none⟩ (.int .i64 60)) q 23 #[.int .i64 60, .int .i64 h.kind, .int .i64 h.id, .int .i64 h.adv, .int .i64 h.seq, .int .i64 h.sum, .int .i64 h.long] by
      have h9 := (((HT.out.2.1.far (p := ⟨p, 4, none⟩) hpq.symm (.int .i64 (h.seq + 1))).far (p := ⟨p, 0, none⟩) hpq.symm (.int .i64 r)).far (p := ⟨p, 5, none⟩) hpq.symm (.int .i64 z2)).put 0 (.int .i64 60)
      simp only [List.setIfInBounds_toArray, List.set_cons_zero] at h9
      exact h9)
    have KA := Lib.hid (((((KA3.out.far (p := ⟨p, 4, none⟩) (by simp; omega) (.int .i64 (h.seq + 1))).far (p := ⟨p, 0, none⟩) (by simp; omega) (.int .i64 r)).far (p := ⟨p, 5, none⟩) (by simp; omega) (.int .i64 z2)).far (p := ⟨q, 0, none⟩) (by simp; omega) (.int .i64 60)))
    have B4 := Lib.hid (((((B3.out.setCell (p := ⟨p, 4, none⟩) (by simp; omega) (.int .i64 (h.seq + 1))).setCell (p := ⟨p, 0, none⟩) (by simp; omega) (.int .i64 r)).setCell (p := ⟨p, 5, none⟩) (by simp; omega) (.int .i64 z2)).setCell (p := ⟨q, 0, none⟩) (by simp; omega) (.int .i64 60)))
    generalize (((wc.setCell ⟨p, 4, none⟩ (.int .i64 (h.seq + 1))).setCell ⟨p, 0, none⟩ (.int .i64 r)).setCell ⟨p, 5, none⟩ (.int .i64 z2)).setCell ⟨q, 0, none⟩ (.int .i64 60) = w4 at *
    clear k0 k1 k2 k3 k4 k5 k6 p0 p1 p2 p3 p4 p5 p6 q0 q1 q2 q3 q4 q5 q6 f4 f0 f5 g0 KA2 B2 KA3 B3 HT
    have HGX := Lib.hid (show ageB ⟨r, h.kind, h.id, h.adv, h.seq + 1, z2, h.long⟩ = true by rw [ageB_iff]; exact ⟨hr0, hr1⟩)
    have HGQ := Lib.hid (show ageB ⟨60, h.kind, h.id, h.adv, h.seq, h.sum, h.long⟩ = true from rfl)
    have hl4 := KA.out.lt
    have hp4 := KP.out.lt
    have hq4 := KQ.out.lt
    have hs4 := B4.out.size
    go_wp2_with (first | (refine wpList_load_head (h := ⟨r, h.kind, h.id, h.adv, h.seq + 1, z2, h.long⟩) (by rfl) (.tmp 7) rfl (by rfl) KP.out ?_) | (refine wpList_load_head (by rfl) (.tmp 3) rfl (by rfl) KA.out ?_) | (refine wpList_load_head (h := ⟨60, h.kind, h.id, h.adv, h.seq, h.sum, h.long⟩) (by rfl) (.tmp 8) rfl (by rfl) KQ.out ?_))
    refine (newer_any ⟨r, h.kind, h.id, h.adv, h.seq + 1, z2, h.long⟩ h _ HGX.out HG.out).mono ?_
    rintro e5 w5 ⟨rfl, hb5⟩
    rw [nw_seq (a := ⟨r, h.kind, h.id, h.adv, h.seq + 1, z2, h.long⟩) (b := h) (show h.seq < h.seq + 1 by omega)]
    have KA5 := Lib.hid (KA.out.below hb5 hl4)
    have KP5 := Lib.hid (KP.out.below hb5 hp4)
    have KQ5 := Lib.hid (KQ.out.below hb5 hq4)
    have B5 := Lib.hid (B4.out.trans (hb5.mono hs4))
    have hs5 := B5.out.size
    clear hb5 KA KP KQ B4
    obtain ⟨k0, k1, k2, k3, k4, k5, k6⟩ := KA5.out.seven
    by_cases h60 : h.age = 60
    · have d6 : (h.age == 60) = true := by simp [h60]
      clear h60
      go_wp2_with (first | (refine wpList_load_head (h := ⟨r, h.kind, h.id, h.adv, h.seq + 1, z2, h.long⟩) (by rfl) (.tmp 7) rfl (by rfl) KP5.out ?_) | (refine wpList_load_head (by rfl) (.tmp 3) rfl (by rfl) KA5.out ?_) | (refine wpList_load_head (h := ⟨60, h.kind, h.id, h.adv, h.seq, h.sum, h.long⟩) (by rfl) (.tmp 8) rfl (by rfl) KQ5.out ?_))
      go_ret
      exact ⟨rfl, B5.out⟩
    · have d6 : (h.age == 60) = false := by simp [h60]
      have HN := Lib.hid (show nw ⟨60, h.kind, h.id, h.adv, h.seq, h.sum, h.long⟩ h = 1 by
        rw [nw_one rfl HG.out]
        exact .inr ⟨rfl, .inr ⟨rfl, .inl ⟨rfl, h60⟩⟩⟩)
      clear h60
      go_wp2_with (first | (refine wpList_load_head (h := ⟨r, h.kind, h.id, h.adv, h.seq + 1, z2, h.long⟩) (by rfl) (.tmp 7) rfl (by rfl) KP5.out ?_) | (refine wpList_load_head (by rfl) (.tmp 3) rfl (by rfl) KA5.out ?_) | (refine wpList_load_head (h := ⟨60, h.kind, h.id, h.adv, h.seq, h.sum, h.long⟩) (by rfl) (.tmp 8) rfl (by rfl) KQ5.out ?_))
      refine (newer_any ⟨60, h.kind, h.id, h.adv, h.seq, h.sum, h.long⟩ h _ HGQ.out HG.out).mono ?_
      rintro e6 w6 ⟨rfl, hb6⟩
      rw [HN.out]
      have B6 := Lib.hid (B5.out.trans (hb6.mono hs5))
      clear hb6
      go_wp2
      go_ret
      exact ⟨rfl, B6.out⟩
end Go.Proofs.Ytfeomijblgaocaa
