/- The reference of packets: which packets are right: Hellos and acknowledgements. Conditions: the lists read as such. -/
import Derived.Test.YtekhgkkgmkodmaaGreatRc0
namespace Go.Proofs.YtekhgkkgmkodmaaGreat
open Go.RowKit

set_option maxRecDepth 8000 in
set_option maxHeartbeats 8000000 in
theorem r5Right_hello (v : Pv) (l : Pl) (B : Nat) (w : World) (h : PkIn w B v l) (hs : PkSm v) (hB : B ≤ w.heap.size) (hk : v.kind = 1) (hsd : inB v.sender 1 15 = true) :
    Calls Tryz.prog 7 #[.agg #[.int .i64 1, .int .i64 v.sender, .int .i64 v.every, .int .i64 v.dead, .int .i64 v.prio, .int .i64 v.dr, .int .i64 v.bdr, .slice v.seen.a v.seen.n v.seen.c, .bool v.ini, .bool v.mor, .bool v.mas, .int .i64 v.seq, .slice v.heads.a v.heads.n v.heads.c, .slice v.wants.a v.wants.n v.wants.c, .slice v.lsas.a v.lsas.n v.lsas.c, .slice v.acks.a v.acks.n v.acks.c]] w fun x w' => x = .returned (.bool (rightP v l)) ∧ Below w.heap.size w w' := by
  have K0 := Lib.hid (Blk.new w 31 #[.int .i64 1, .int .i64 v.sender, .int .i64 v.every, .int .i64 v.dead, .int .i64 v.prio, .int .i64 v.dr, .int .i64 v.bdr, .slice v.seen.a v.seen.n v.seen.c, .bool v.ini, .bool v.mor, .bool v.mas, .int .i64 v.seq, .slice v.heads.a v.heads.n v.heads.c, .slice v.wants.a v.wants.n v.wants.c, .slice v.lsas.a v.lsas.n v.lsas.c, .slice v.acks.a v.acks.n v.acks.c])
  have B0 := Lib.hid ((Below.refl w.heap.size w).alloc (Nat.le_refl _) (.cells #[.int .i64 1, .int .i64 v.sender, .int .i64 v.every, .int .i64 v.dead, .int .i64 v.prio, .int .i64 v.dr, .int .i64 v.bdr, .slice v.seen.a v.seen.n v.seen.c, .bool v.ini, .bool v.mor, .bool v.mas, .int .i64 v.seq, .slice v.heads.a v.heads.n v.heads.c, .slice v.wants.a v.wants.n v.wants.c, .slice v.lsas.a v.lsas.n v.lsas.c, .slice v.acks.a v.acks.n v.acks.c] 31))
  have HS := Lib.hid hs
  obtain ⟨m1, m2, m3, m4, m5, -, -⟩ := hs
  unfold maxLen at m1 m2 m3 m4 m5
  have HP := Lib.hid (h.below (B0.out.mono hB))
  have N1 := Lib.hid (show l.seen.length = v.seen.n from h.1.1)
  have N2 := Lib.hid (show l.heads.length = v.heads.n from h.2.1.1)
  have N3 := Lib.hid (show l.wants.length = v.wants.n from h.2.2.1.1)
  have N4 := Lib.hid (show l.lsas.length = v.lsas.n from h.2.2.2.1.1)
  have N5 := Lib.hid (show l.acks.length = v.acks.n from h.2.2.2.2.1)
  have HK := Lib.hid hk
  have HSD := Lib.hid hsd
  have hs0 : B ≤ (w.alloc (.cells #[.int .i64 1, .int .i64 v.sender, .int .i64 v.every, .int .i64 v.dead, .int .i64 v.prio, .int .i64 v.dr, .int .i64 v.bdr, .slice v.seen.a v.seen.n v.seen.c, .bool v.ini, .bool v.mor, .bool v.mas, .int .i64 v.seq, .slice v.heads.a v.heads.n v.heads.c, .slice v.wants.a v.wants.n v.wants.c, .slice v.lsas.a v.lsas.n v.lsas.c, .slice v.acks.a v.acks.n v.acks.c] 31)).heap.size := by simp; omega
  have hz0 : w.heap.size ≤ (w.alloc (.cells #[.int .i64 1, .int .i64 v.sender, .int .i64 v.every, .int .i64 v.dead, .int .i64 v.prio, .int .i64 v.dr, .int .i64 v.bdr, .slice v.seen.a v.seen.n v.seen.c, .bool v.ini, .bool v.mor, .bool v.mas, .int .i64 v.seq, .slice v.heads.a v.heads.n v.heads.c, .slice v.wants.a v.wants.n v.wants.c, .slice v.lsas.a v.lsas.n v.lsas.c, .slice v.acks.a v.acks.n v.acks.c] 31)).heap.size := by simp
  clear h hk hsd
  go_enter Tryz.func7, Tryz.ntmps7
  go_upto_region 1 with fail
  have hlt0 := K0.out.lt
  generalize w.alloc (.cells #[.int .i64 1, .int .i64 v.sender, .int .i64 v.every, .int .i64 v.dead, .int .i64 v.prio, .int .i64 v.dr, .int .i64 v.bdr, .slice v.seen.a v.seen.n v.seen.c, .bool v.ini, .bool v.mor, .bool v.mas, .int .i64 v.seq, .slice v.heads.a v.heads.n v.heads.c, .slice v.wants.a v.wants.n v.wants.c, .slice v.lsas.a v.lsas.n v.lsas.c, .slice v.acks.a v.acks.n v.acks.c] 31) = w0 at *
  obtain ⟨a0, a1, a2, a3, a4, a5, a6, a7, a8, a9, a10, a11, a12, a13, a14, a15⟩ := K0.out.sixteen
  have C0 := Lib.hid (Below.refl w0.heap.size w0)
  go_wp2_with fail
  refine (r5In_is 1 1 5 true _ rfl).mono ?_
  rintro e1 w1 ⟨rfl, rfl⟩
  go_wp2_with fail
  refine (r5In_is v.sender 1 15 true _ HSD.out).mono ?_
  rintro e2 w2 ⟨rfl, rfl⟩
  go_wp2_with fail
  refine (r5NoDd_any v.ini v.mor v.mas v.seq v.heads.a v.heads.n v.heads.c l.heads _ N2.out HS.out.2.1).mono ?_
  rintro e4 w4 ⟨rfl, hb4⟩
  have C4 := Lib.hid (C0.out.trans (hb4.mono C0.out.size))
  clear hb4 a0 a1 a2 a3 a4 a5 a6 a7 a8 a9 a10 a11 a12 a13 a14 a15
  obtain ⟨a0, a1, a2, a3, a4, a5, a6, a7, a8, a9, a10, a11, a12, a13, a14, a15⟩ := (K0.out.below C4.out hlt0).sixteen
  cases z2 : zeroD v.ini v.mor v.mas v.seq l.heads
  · have HE := Lib.hid (right_noD (by rw [HK.out]; decide) z2)
    go_wp2
    go_ret
    exact ⟨ret_bool HE.out.symm, B0.out.trans (C4.out.mono hz0)⟩
  have Z2 := Lib.hid z2
  clear z2
  by_cases z3 : 0 < v.wants.n
  · have HE := Lib.hid (right_noW (v := v) (l := l) (by rw [HK.out]; decide) (by rw [N3.out]; exact z3))
    go_wp2
    go_ret
    exact ⟨ret_bool HE.out.symm, B0.out.trans (C4.out.mono hz0)⟩
  by_cases z4 : 0 < v.lsas.n
  · have HE := Lib.hid (right_noL (v := v) (l := l) (by rw [HK.out]; decide) (by rw [N4.out]; exact z4))
    go_wp2
    go_ret
    exact ⟨ret_bool HE.out.symm, B0.out.trans (C4.out.mono hz0)⟩
  by_cases z5 : 0 < v.acks.n
  · have HE := Lib.hid (right_noA (v := v) (l := l) (by rw [HK.out]; decide) (by rw [N5.out]; exact z5))
    go_wp2
    go_ret
    exact ⟨ret_bool HE.out.symm, B0.out.trans (C4.out.mono hz0)⟩
  have HE0 := Lib.hid (show rightP v l = helloB v.every v.dead v.prio v.dr v.bdr l.seen by
    rw [right_part HSD.out (.inl HK.out) (.inr Z2.out) (.inr (by rw [N3.out]; omega)) (.inr (by rw [N4.out]; omega)) (.inr (by rw [N5.out]; omega))]
    unfold partB
    rw [if_pos HK.out])
  have HPc := Lib.hid (HP.out.below (C4.out.mono hs0))
  have hsz := C4.out.size
  have BW := Lib.hid (B0.out.trans (C4.out.mono hz0))
  go_wp2_with fail
  refine (r5Hello_any v.every v.dead v.prio v.dr v.bdr v.seen.a v.seen.n v.seen.c B l.seen _ HPc.out.1 (by omega) HS.out.1).mono ?_
  rintro e5 w5 ⟨rfl, hb5⟩
  have BW5 := Lib.hid (BW.out.trans (hb5.mono BW.out.size))
  clear hb5
  generalize (helloB v.every v.dead v.prio v.dr v.bdr l.seen) = y at *
  go_wp2
  go_ret
  exact ⟨ret_bool HE0.out.symm, BW5.out⟩

set_option maxRecDepth 8000 in
set_option maxHeartbeats 8000000 in
theorem r5Right_ack (v : Pv) (l : Pl) (B : Nat) (w : World) (h : PkIn w B v l) (hs : PkSm v) (hB : B ≤ w.heap.size) (hk : v.kind = 5) (hsd : inB v.sender 1 15 = true) :
    Calls Tryz.prog 7 #[.agg #[.int .i64 5, .int .i64 v.sender, .int .i64 v.every, .int .i64 v.dead, .int .i64 v.prio, .int .i64 v.dr, .int .i64 v.bdr, .slice v.seen.a v.seen.n v.seen.c, .bool v.ini, .bool v.mor, .bool v.mas, .int .i64 v.seq, .slice v.heads.a v.heads.n v.heads.c, .slice v.wants.a v.wants.n v.wants.c, .slice v.lsas.a v.lsas.n v.lsas.c, .slice v.acks.a v.acks.n v.acks.c]] w fun x w' => x = .returned (.bool (rightP v l)) ∧ Below w.heap.size w w' := by
  have K0 := Lib.hid (Blk.new w 31 #[.int .i64 5, .int .i64 v.sender, .int .i64 v.every, .int .i64 v.dead, .int .i64 v.prio, .int .i64 v.dr, .int .i64 v.bdr, .slice v.seen.a v.seen.n v.seen.c, .bool v.ini, .bool v.mor, .bool v.mas, .int .i64 v.seq, .slice v.heads.a v.heads.n v.heads.c, .slice v.wants.a v.wants.n v.wants.c, .slice v.lsas.a v.lsas.n v.lsas.c, .slice v.acks.a v.acks.n v.acks.c])
  have B0 := Lib.hid ((Below.refl w.heap.size w).alloc (Nat.le_refl _) (.cells #[.int .i64 5, .int .i64 v.sender, .int .i64 v.every, .int .i64 v.dead, .int .i64 v.prio, .int .i64 v.dr, .int .i64 v.bdr, .slice v.seen.a v.seen.n v.seen.c, .bool v.ini, .bool v.mor, .bool v.mas, .int .i64 v.seq, .slice v.heads.a v.heads.n v.heads.c, .slice v.wants.a v.wants.n v.wants.c, .slice v.lsas.a v.lsas.n v.lsas.c, .slice v.acks.a v.acks.n v.acks.c] 31))
  have HS := Lib.hid hs
  obtain ⟨m1, m2, m3, m4, m5, -, -⟩ := hs
  unfold maxLen at m1 m2 m3 m4 m5
  have HP := Lib.hid (h.below (B0.out.mono hB))
  have N1 := Lib.hid (show l.seen.length = v.seen.n from h.1.1)
  have N2 := Lib.hid (show l.heads.length = v.heads.n from h.2.1.1)
  have N3 := Lib.hid (show l.wants.length = v.wants.n from h.2.2.1.1)
  have N4 := Lib.hid (show l.lsas.length = v.lsas.n from h.2.2.2.1.1)
  have N5 := Lib.hid (show l.acks.length = v.acks.n from h.2.2.2.2.1)
  have HK := Lib.hid hk
  have HSD := Lib.hid hsd
  have hs0 : B ≤ (w.alloc (.cells #[.int .i64 5, .int .i64 v.sender, .int .i64 v.every, .int .i64 v.dead, .int .i64 v.prio, .int .i64 v.dr, .int .i64 v.bdr, .slice v.seen.a v.seen.n v.seen.c, .bool v.ini, .bool v.mor, .bool v.mas, .int .i64 v.seq, .slice v.heads.a v.heads.n v.heads.c, .slice v.wants.a v.wants.n v.wants.c, .slice v.lsas.a v.lsas.n v.lsas.c, .slice v.acks.a v.acks.n v.acks.c] 31)).heap.size := by simp; omega
  have hz0 : w.heap.size ≤ (w.alloc (.cells #[.int .i64 5, .int .i64 v.sender, .int .i64 v.every, .int .i64 v.dead, .int .i64 v.prio, .int .i64 v.dr, .int .i64 v.bdr, .slice v.seen.a v.seen.n v.seen.c, .bool v.ini, .bool v.mor, .bool v.mas, .int .i64 v.seq, .slice v.heads.a v.heads.n v.heads.c, .slice v.wants.a v.wants.n v.wants.c, .slice v.lsas.a v.lsas.n v.lsas.c, .slice v.acks.a v.acks.n v.acks.c] 31)).heap.size := by simp
  clear h hk hsd
  go_enter Tryz.func7, Tryz.ntmps7
  go_upto_region 1 with fail
  have hlt0 := K0.out.lt
  generalize w.alloc (.cells #[.int .i64 5, .int .i64 v.sender, .int .i64 v.every, .int .i64 v.dead, .int .i64 v.prio, .int .i64 v.dr, .int .i64 v.bdr, .slice v.seen.a v.seen.n v.seen.c, .bool v.ini, .bool v.mor, .bool v.mas, .int .i64 v.seq, .slice v.heads.a v.heads.n v.heads.c, .slice v.wants.a v.wants.n v.wants.c, .slice v.lsas.a v.lsas.n v.lsas.c, .slice v.acks.a v.acks.n v.acks.c] 31) = w0 at *
  obtain ⟨a0, a1, a2, a3, a4, a5, a6, a7, a8, a9, a10, a11, a12, a13, a14, a15⟩ := K0.out.sixteen
  have C0 := Lib.hid (Below.refl w0.heap.size w0)
  go_wp2_with fail
  refine (r5In_is 5 1 5 true _ rfl).mono ?_
  rintro e1 w1 ⟨rfl, rfl⟩
  go_wp2_with fail
  refine (r5In_is v.sender 1 15 true _ HSD.out).mono ?_
  rintro e2 w2 ⟨rfl, rfl⟩
  go_wp2_with fail
  refine (r5NoHello_any v.every v.dead v.prio v.dr v.bdr v.seen.a v.seen.n v.seen.c l.seen _ N1.out HS.out.1).mono ?_
  rintro e3 w3 ⟨rfl, hb3⟩
  have C3 := Lib.hid (C0.out.trans (hb3.mono C0.out.size))
  clear hb3 a0 a1 a2 a3 a4 a5 a6 a7 a8 a9 a10 a11 a12 a13 a14 a15
  obtain ⟨a0, a1, a2, a3, a4, a5, a6, a7, a8, a9, a10, a11, a12, a13, a14, a15⟩ := (K0.out.below C3.out hlt0).sixteen
  cases z1 : zeroH v.every v.dead v.prio v.dr v.bdr l.seen
  · have HE := Lib.hid (right_noH (by rw [HK.out]; decide) z1)
    go_wp2
    go_ret
    exact ⟨ret_bool HE.out.symm, B0.out.trans (C3.out.mono hz0)⟩
  have Z1 := Lib.hid z1
  clear z1
  go_wp2_with fail
  refine (r5NoDd_any v.ini v.mor v.mas v.seq v.heads.a v.heads.n v.heads.c l.heads _ N2.out HS.out.2.1).mono ?_
  rintro e4 w4 ⟨rfl, hb4⟩
  have C4 := Lib.hid (C3.out.trans (hb4.mono C3.out.size))
  clear hb4 a0 a1 a2 a3 a4 a5 a6 a7 a8 a9 a10 a11 a12 a13 a14 a15
  obtain ⟨a0, a1, a2, a3, a4, a5, a6, a7, a8, a9, a10, a11, a12, a13, a14, a15⟩ := (K0.out.below C4.out hlt0).sixteen
  cases z2 : zeroD v.ini v.mor v.mas v.seq l.heads
  · have HE := Lib.hid (right_noD (by rw [HK.out]; decide) z2)
    go_wp2
    go_ret
    exact ⟨ret_bool HE.out.symm, B0.out.trans (C4.out.mono hz0)⟩
  have Z2 := Lib.hid z2
  clear z2
  by_cases z3 : 0 < v.wants.n
  · have HE := Lib.hid (right_noW (v := v) (l := l) (by rw [HK.out]; decide) (by rw [N3.out]; exact z3))
    go_wp2
    go_ret
    exact ⟨ret_bool HE.out.symm, B0.out.trans (C4.out.mono hz0)⟩
  by_cases z4 : 0 < v.lsas.n
  · have HE := Lib.hid (right_noL (v := v) (l := l) (by rw [HK.out]; decide) (by rw [N4.out]; exact z4))
    go_wp2
    go_ret
    exact ⟨ret_bool HE.out.symm, B0.out.trans (C4.out.mono hz0)⟩
  have HE0 := Lib.hid (show rightP v l = pieceB 1 hdB l.acks by
    rw [right_part HSD.out (.inr Z1.out) (.inr Z2.out) (.inr (by rw [N3.out]; omega)) (.inr (by rw [N4.out]; omega)) (.inl HK.out)]
    unfold partB
    rw [if_neg (by rw [HK.out]; decide)]; rw [if_neg (by rw [HK.out]; decide)]; rw [if_neg (by rw [HK.out]; decide)]; rw [if_neg (by rw [HK.out]; decide)]; rw [if_pos HK.out])
  have HPc := Lib.hid (HP.out.below (C4.out.mono hs0))
  have hsz := C4.out.size
  have BW := Lib.hid (B0.out.trans (C4.out.mono hz0))
  by_cases hn0 : 0 < v.acks.n
  rotate_left 1
  · have HE := Lib.hid (show rightP v l = false by
      rw [HE0.out]
      unfold pieceB
      rw [N5.out, show v.acks.n = 0 by omega]
      rfl)
    go_wp2
    go_ret
    exact ⟨ret_bool HE.out.symm, BW.out⟩
  have HE := Lib.hid (show rightP v l = (l.acks.all hdB && decide (l.acks.length ≤ 3)) by
    rw [HE0.out]
    unfold pieceB
    rw [Bool.and_comm]
    congr 1
    rw [Bool.eq_iff_iff, inB_iff]
    simp only [decide_eq_true_eq]
    have := N5.out
    omega)
  go_wp2_with fail
  refine (r5Heads_any v.acks.a v.acks.n v.acks.c B l.acks _ HPc.out.2.2.2.2 (by omega) HS.out.2.2.2.2.1).mono ?_
  rintro e5 w5 ⟨rfl, hb5⟩
  have BW5 := Lib.hid (BW.out.trans (hb5.mono BW.out.size))
  clear hb5
  generalize (l.acks.all hdB && decide (l.acks.length ≤ 3)) = y at *
  go_wp2
  go_ret
  exact ⟨ret_bool HE.out.symm, BW5.out⟩

end Go.Proofs.YtekhgkkgmkodmaaGreat
