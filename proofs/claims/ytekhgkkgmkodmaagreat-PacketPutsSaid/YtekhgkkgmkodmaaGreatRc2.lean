/- The reference of packets: which packets are right: exchanges. Conditions: the lists read as such. -/
import Derived.Test.YtekhgkkgmkodmaaGreatRc0
namespace Go.Proofs.YtekhgkkgmkodmaaGreat
open Go.RowKit

set_option maxRecDepth 8000 in
set_option maxHeartbeats 8000000 in
theorem r5Right_dd (v : Pv) (l : Pl) (B : Nat) (w : World) (h : PkIn w B v l) (hs : PkSm v) (hB : B ≤ w.heap.size) (hk : v.kind = 2) (hsd : inB v.sender 1 15 = true) :
    Calls Tryz.prog 7 #[.agg #[.int .i64 2, .int .i64 v.sender, .int .i64 v.every, .int .i64 v.dead, .int .i64 v.prio, .int .i64 v.dr, .int .i64 v.bdr, .slice v.seen.a v.seen.n v.seen.c, .bool v.ini, .bool v.mor, .bool v.mas, .int .i64 v.seq, .slice v.heads.a v.heads.n v.heads.c, .slice v.wants.a v.wants.n v.wants.c, .slice v.lsas.a v.lsas.n v.lsas.c, .slice v.acks.a v.acks.n v.acks.c]] w fun x w' => x = .returned (.bool (rightP v l)) ∧ Below w.heap.size w w' := by
  have K0 := Lib.hid (Blk.new w 31 #[.int .i64 2, .int .i64 v.sender, .int .i64 v.every, .int .i64 v.dead, .int .i64 v.prio, .int .i64 v.dr, .int .i64 v.bdr, .slice v.seen.a v.seen.n v.seen.c, .bool v.ini, .bool v.mor, .bool v.mas, .int .i64 v.seq, .slice v.heads.a v.heads.n v.heads.c, .slice v.wants.a v.wants.n v.wants.c, .slice v.lsas.a v.lsas.n v.lsas.c, .slice v.acks.a v.acks.n v.acks.c])
  have B0 := Lib.hid ((Below.refl w.heap.size w).alloc (Nat.le_refl _) (.cells #[.int .i64 2, .int .i64 v.sender, .int .i64 v.every, .int .i64 v.dead, .int .i64 v.prio, .int .i64 v.dr, .int .i64 v.bdr, .slice v.seen.a v.seen.n v.seen.c, .bool v.ini, .bool v.mor, .bool v.mas, .int .i64 v.seq, .slice v.heads.a v.heads.n v.heads.c, .slice v.wants.a v.wants.n v.wants.c, .slice v.lsas.a v.lsas.n v.lsas.c, .slice v.acks.a v.acks.n v.acks.c] 31))
  have HS := Lib.hid hs
  obtain ⟨m1, m2, m3, m4, m5, -, -⟩ := hs
  unfold maxLen at m1 m2 m3 m4 m5
  have HP := Lib.hid (h.below (B0.out.mono hB))
  have N1 := Lib.hid (show l.seen.length = v.seen.n from h.1.1)
  have N2 := Lib.hid (show l.heads.length = v.heads.n from h.2.1.1)
  have N3 := Lib.hid (show l.wants.length = v.wants.n from h.2.2.1.1)
  have N4 := Lib.hid (show l.lsas.length = v.lsas.n from h.2.2.2.1.1)
  have N5 := Lib.hid (show l.acks.length = v.acks.n from h.2.2.2.2.1)
  have HK := Lib.hid hk
  have HSD := Lib.hid hsd
  have hs0 : B ≤ (w.alloc (.cells #[.int .i64 2, .int .i64 v.sender, .int .i64 v.every, .int .i64 v.dead, .int .i64 v.prio, .int .i64 v.dr, .int .i64 v.bdr, .slice v.seen.a v.seen.n v.seen.c, .bool v.ini, .bool v.mor, .bool v.mas, .int .i64 v.seq, .slice v.heads.a v.heads.n v.heads.c, .slice v.wants.a v.wants.n v.wants.c, .slice v.lsas.a v.lsas.n v.lsas.c, .slice v.acks.a v.acks.n v.acks.c] 31)).heap.size := by simp; omega
  have hz0 : w.heap.size ≤ (w.alloc (.cells #[.int .i64 2, .int .i64 v.sender, .int .i64 v.every, .int .i64 v.dead, .int .i64 v.prio, .int .i64 v.dr, .int .i64 v.bdr, .slice v.seen.a v.seen.n v.seen.c, .bool v.ini, .bool v.mor, .bool v.mas, .int .i64 v.seq, .slice v.heads.a v.heads.n v.heads.c, .slice v.wants.a v.wants.n v.wants.c, .slice v.lsas.a v.lsas.n v.lsas.c, .slice v.acks.a v.acks.n v.acks.c] 31)).heap.size := by simp
  clear h hk hsd
  go_enter Tryz.func7, Tryz.ntmps7
  go_upto_region 1 with fail
  have hlt0 := K0.out.lt
  generalize w.alloc (.cells #[.int .i64 2, .int .i64 v.sender, .int .i64 v.every, .int .i64 v.dead, .int .i64 v.prio, .int .i64 v.dr, .int .i64 v.bdr, .slice v.seen.a v.seen.n v.seen.c, .bool v.ini, .bool v.mor, .bool v.mas, .int .i64 v.seq, .slice v.heads.a v.heads.n v.heads.c, .slice v.wants.a v.wants.n v.wants.c, .slice v.lsas.a v.lsas.n v.lsas.c, .slice v.acks.a v.acks.n v.acks.c] 31) = w0 at *
  obtain ⟨a0, a1, a2, a3, a4, a5, a6, a7, a8, a9, a10, a11, a12, a13, a14, a15⟩ := K0.out.sixteen
  have C0 := Lib.hid (Below.refl w0.heap.size w0)
  go_wp2_with fail
  refine (r5In_is 2 1 5 true _ rfl).mono ?_
  rintro e1 w1 ⟨rfl, rfl⟩
  go_wp2_with fail
  refine (r5In_is v.sender 1 15 true _ HSD.out).mono ?_
  rintro e2 w2 ⟨rfl, rfl⟩
  go_wp2_with fail
  refine (r5NoHello_any v.every v.dead v.prio v.dr v.bdr v.seen.a v.seen.n v.seen.c l.seen _ N1.out HS.out.1).mono ?_
  rintro e3 w3 ⟨rfl, hb3⟩
  have C3 := Lib.hid (C0.out.trans (hb3.mono C0.out.size))
  clear hb3 a0 a1 a2 a3 a4 a5 a6 a7 a8 a9 a10 a11 a12 a13 a14 a15
  obtain ⟨a0, a1, a2, a3, a4, a5, a6, a7, a8, a9, a10, a11, a12, a13, a14, a15⟩ := (K0.out.below C3.out hlt0).sixteen
  cases z1 : zeroH v.every v.dead v.prio v.dr v.bdr l.seen
  · have HE := Lib.hid (right_noH (by rw [HK.out]; decide) z1)
    go_wp2
    go_ret
    exact ⟨ret_bool HE.out.symm, B0.out.trans (C3.out.mono hz0)⟩
  have Z1 := Lib.hid z1
  clear z1
  by_cases z3 : 0 < v.wants.n
  · have HE := Lib.hid (right_noW (v := v) (l := l) (by rw [HK.out]; decide) (by rw [N3.out]; exact z3))
    go_wp2
    go_ret
    exact ⟨ret_bool HE.out.symm, B0.out.trans (C3.out.mono hz0)⟩
  by_cases z4 : 0 < v.lsas.n
  · have HE := Lib.hid (right_noL (v := v) (l := l) (by rw [HK.out]; decide) (by rw [N4.out]; exact z4))
    go_wp2
    go_ret
    exact ⟨ret_bool HE.out.symm, B0.out.trans (C3.out.mono hz0)⟩
  by_cases z5 : 0 < v.acks.n
  · have HE := Lib.hid (right_noA (v := v) (l := l) (by rw [HK.out]; decide) (by rw [N5.out]; exact z5))
    go_wp2
    go_ret
    exact ⟨ret_bool HE.out.symm, B0.out.trans (C3.out.mono hz0)⟩
  have HE0 := Lib.hid (show rightP v l = ddB v.ini v.mor v.mas v.seq l.heads by
    rw [right_part HSD.out (.inr Z1.out) (.inl HK.out) (.inr (by rw [N3.out]; omega)) (.inr (by rw [N4.out]; omega)) (.inr (by rw [N5.out]; omega))]
    unfold partB
    rw [if_neg (by rw [HK.out]; decide)]; rw [if_pos HK.out])
  have HPc := Lib.hid (HP.out.below (C3.out.mono hs0))
  have hsz := C3.out.size
  have BW := Lib.hid (B0.out.trans (C3.out.mono hz0))
  have KD := Lib.hid (Blk.new w3 27 #[.bool v.ini, .bool v.mor, .bool v.mas, .int .i64 v.seq, .slice v.heads.a v.heads.n v.heads.c])
  have BA := Lib.hid (BW.out.alloc BW.out.size (.cells #[.bool v.ini, .bool v.mor, .bool v.mas, .int .i64 v.seq, .slice v.heads.a v.heads.n v.heads.c] 27))
  have HPd := Lib.hid (HPc.out.2.1.alloc (by omega) (.cells #[.bool v.ini, .bool v.mor, .bool v.mas, .int .i64 v.seq, .slice v.heads.a v.heads.n v.heads.c] 27))
  go_wp2_with fail
  refine (r5In_any _ _ _ _).mono ?_
  rintro e4 w4 ⟨rfl, rfl⟩
  cases q1 : inB v.seq 0 4294967295
  · have HE := Lib.hid (show rightP v l = false by rw [HE0.out, dd_parts, q1]; simp)
    go_wp2
    go_ret
    exact ⟨ret_bool HE.out.symm, BA.out⟩
  have Q1 := Lib.hid q1
  clear q1
  go_wp2_with fail
  refine (r5Heads_any v.heads.a v.heads.n v.heads.c B l.heads _ HPd.out (by simp; omega) HS.out.2.1).mono ?_
  rintro e5 w5 ⟨rfl, hb5⟩
  have KD5 := Lib.hid (KD.out.below hb5 KD.out.lt)
  have BW5 := Lib.hid (BA.out.trans (hb5.mono BA.out.size))
  clear hb5 a0 a1 a2 a3 a4 a5 a6 a7 a8 a9 a10 a11 a12 a13 a14 a15
  cases q2 : (l.heads.all hdB && decide (l.heads.length ≤ 3))
  · have HE := Lib.hid (show rightP v l = false by rw [HE0.out, dd_parts, q2]; simp)
    go_wp2
    go_ret
    exact ⟨ret_bool HE.out.symm, BW5.out⟩
  have Q2 := Lib.hid q2
  clear q2
  obtain ⟨d0, d1, d2, d3, d4⟩ := KD5.out.five
  cases hi : v.ini
  · rw [hi] at d0
    have HE := Lib.hid (show rightP v l = true by rw [HE0.out, dd_parts, Q1.out, Q2.out, hi]; rfl)
    go_wp2
    go_ret
    exact ⟨ret_bool HE.out.symm, BW5.out⟩
  rw [hi] at d0
  cases hm : v.mor
  · rw [hm] at d1
    have HE := Lib.hid (show rightP v l = false by rw [HE0.out, dd_parts, Q1.out, Q2.out, hi, hm]; rfl)
    go_wp2
    go_ret
    exact ⟨ret_bool HE.out.symm, BW5.out⟩
  rw [hm] at d1
  cases ha : v.mas
  · rw [ha] at d2
    have HE := Lib.hid (show rightP v l = false by rw [HE0.out, dd_parts, Q1.out, Q2.out, hi, hm, ha]; rfl)
    go_wp2
    go_ret
    exact ⟨ret_bool HE.out.symm, BW5.out⟩
  rw [ha] at d2
  by_cases hz : v.heads.n = 0
  · have HE := Lib.hid (show rightP v l = true by rw [HE0.out, dd_parts, Q1.out, Q2.out, hi, hm, ha, N2.out, hz]; rfl)
    have hzi : ((v.heads.n : Int) == 0) = true := by simp [hz]
    clear hz
    go_wp2
    go_ret
    exact ⟨ret_bool HE.out.symm, BW5.out⟩
  · have HE := Lib.hid (show rightP v l = false by rw [HE0.out, dd_parts, Q1.out, Q2.out, hi, hm, ha, N2.out, decide_eq_false hz]; rfl)
    have hzi : ((v.heads.n : Int) == 0) = false := by simp; omega
    clear hz
    go_wp2
    go_ret
    exact ⟨ret_bool HE.out.symm, BW5.out⟩

end Go.Proofs.YtekhgkkgmkodmaaGreat
