/- The reference of packets: which packets are right: wants. Conditions: the lists read as such. -/
import Derived.Test.YtekhgkkgmkodmaaGreatRc0
namespace Go.Proofs.YtekhgkkgmkodmaaGreat
open Go.RowKit

set_option maxRecDepth 8000 in
set_option maxHeartbeats 8000000 in
theorem r5Right_want (v : Pv) (l : Pl) (B : Nat) (w : World) (h : PkIn w B v l) (hs : PkSm v) (hB : B ≤ w.heap.size) (hk : v.kind = 3) (hsd : inB v.sender 1 15 = true) :
    Calls Tryz.prog 7 #[.agg #[.int .i64 3, .int .i64 v.sender, .int .i64 v.every, .int .i64 v.dead, .int .i64 v.prio, .int .i64 v.dr, .int .i64 v.bdr, .slice v.seen.a v.seen.n v.seen.c, .bool v.ini, .bool v.mor, .bool v.mas, .int .i64 v.seq, .slice v.heads.a v.heads.n v.heads.c, .slice v.wants.a v.wants.n v.wants.c, .slice v.lsas.a v.lsas.n v.lsas.c, .slice v.acks.a v.acks.n v.acks.c]] w fun x w' => x = .returned (.bool (rightP v l)) ∧ Below w.heap.size w w' := by
  have K0 := Lib.hid (Blk.new w 31 #[.int .i64 3, .int .i64 v.sender, .int .i64 v.every, .int .i64 v.dead, .int .i64 v.prio, .int .i64 v.dr, .int .i64 v.bdr, .slice v.seen.a v.seen.n v.seen.c, .bool v.ini, .bool v.mor, .bool v.mas, .int .i64 v.seq, .slice v.heads.a v.heads.n v.heads.c, .slice v.wants.a v.wants.n v.wants.c, .slice v.lsas.a v.lsas.n v.lsas.c, .slice v.acks.a v.acks.n v.acks.c])
  have B0 := Lib.hid ((Below.refl w.heap.size w).alloc (Nat.le_refl _) (.cells #[.int .i64 3, .int .i64 v.sender, .int .i64 v.every, .int .i64 v.dead, .int .i64 v.prio, .int .i64 v.dr, .int .i64 v.bdr, .slice v.seen.a v.seen.n v.seen.c, .bool v.ini, .bool v.mor, .bool v.mas, .int .i64 v.seq, .slice v.heads.a v.heads.n v.heads.c, .slice v.wants.a v.wants.n v.wants.c, .slice v.lsas.a v.lsas.n v.lsas.c, .slice v.acks.a v.acks.n v.acks.c] 31))
  have HS := Lib.hid hs
  obtain ⟨m1, m2, m3, m4, m5, -, -⟩ := hs
  unfold maxLen at m1 m2 m3 m4 m5
  have HP := Lib.hid (h.below (B0.out.mono hB))
  have N1 := Lib.hid (show l.seen.length = v.seen.n from h.1.1)
  have N2 := Lib.hid (show l.heads.length = v.heads.n from h.2.1.1)
  have N3 := Lib.hid (show l.wants.length = v.wants.n from h.2.2.1.1)
  have N4 := Lib.hid (show l.lsas.length = v.lsas.n from h.2.2.2.1.1)
  have N5 := Lib.hid (show l.acks.length = v.acks.n from h.2.2.2.2.1)
  have HK := Lib.hid hk
  have HSD := Lib.hid hsd
  have hs0 : B ≤ (w.alloc (.cells #[.int .i64 3, .int .i64 v.sender, .int .i64 v.every, .int .i64 v.dead, .int .i64 v.prio, .int .i64 v.dr, .int .i64 v.bdr, .slice v.seen.a v.seen.n v.seen.c, .bool v.ini, .bool v.mor, .bool v.mas, .int .i64 v.seq, .slice v.heads.a v.heads.n v.heads.c, .slice v.wants.a v.wants.n v.wants.c, .slice v.lsas.a v.lsas.n v.lsas.c, .slice v.acks.a v.acks.n v.acks.c] 31)).heap.size := by simp; omega
  have hz0 : w.heap.size ≤ (w.alloc (.cells #[.int .i64 3, .int .i64 v.sender, .int .i64 v.every, .int .i64 v.dead, .int .i64 v.prio, .int .i64 v.dr, .int .i64 v.bdr, .slice v.seen.a v.seen.n v.seen.c, .bool v.ini, .bool v.mor, .bool v.mas, .int .i64 v.seq, .slice v.heads.a v.heads.n v.heads.c, .slice v.wants.a v.wants.n v.wants.c, .slice v.lsas.a v.lsas.n v.lsas.c, .slice v.acks.a v.acks.n v.acks.c] 31)).heap.size := by simp
  clear h hk hsd
  go_enter Tryz.func7, Tryz.ntmps7
  go_upto_region 1 with fail
  have hlt0 := K0.out.lt
  generalize w.alloc (.cells #[.int .i64 3, .int .i64 v.sender, .int .i64 v.every, .int .i64 v.dead, .int .i64 v.prio, .int .i64 v.dr, .int .i64 v.bdr, .slice v.seen.a v.seen.n v.seen.c, .bool v.ini, .bool v.mor, .bool v.mas, .int .i64 v.seq, .slice v.heads.a v.heads.n v.heads.c, .slice v.wants.a v.wants.n v.wants.c, .slice v.lsas.a v.lsas.n v.lsas.c, .slice v.acks.a v.acks.n v.acks.c] 31) = w0 at *
  obtain ⟨a0, a1, a2, a3, a4, a5, a6, a7, a8, a9, a10, a11, a12, a13, a14, a15⟩ := K0.out.sixteen
  have C0 := Lib.hid (Below.refl w0.heap.size w0)
  go_wp2_with fail
  refine (r5In_is 3 1 5 true _ rfl).mono ?_
  rintro e1 w1 ⟨rfl, rfl⟩
  go_wp2_with fail
  refine (r5In_is v.sender 1 15 true _ HSD.out).mono ?_
  rintro e2 w2 ⟨rfl, rfl⟩
  go_wp2_with fail
  refine (r5NoHello_any v.every v.dead v.prio v.dr v.bdr v.seen.a v.seen.n v.seen.c l.seen _ N1.out HS.out.1).mono ?_
  rintro e3 w3 ⟨rfl, hb3⟩
  have C3 := Lib.hid (C0.out.trans (hb3.mono C0.out.size))
  clear hb3 a0 a1 a2 a3 a4 a5 a6 a7 a8 a9 a10 a11 a12 a13 a14 a15
  obtain ⟨a0, a1, a2, a3, a4, a5, a6, a7, a8, a9, a10, a11, a12, a13, a14, a15⟩ := (K0.out.below C3.out hlt0).sixteen
  cases z1 : zeroH v.every v.dead v.prio v.dr v.bdr l.seen
  · have HE := Lib.hid (right_noH (by rw [HK.out]; decide) z1)
    go_wp2
    go_ret
    exact ⟨ret_bool HE.out.symm, B0.out.trans (C3.out.mono hz0)⟩
  have Z1 := Lib.hid z1
  clear z1
  go_wp2_with fail
  refine (r5NoDd_any v.ini v.mor v.mas v.seq v.heads.a v.heads.n v.heads.c l.heads _ N2.out HS.out.2.1).mono ?_
  rintro e4 w4 ⟨rfl, hb4⟩
  have C4 := Lib.hid (C3.out.trans (hb4.mono C3.out.size))
  clear hb4 a0 a1 a2 a3 a4 a5 a6 a7 a8 a9 a10 a11 a12 a13 a14 a15
  obtain ⟨a0, a1, a2, a3, a4, a5, a6, a7, a8, a9, a10, a11, a12, a13, a14, a15⟩ := (K0.out.below C4.out hlt0).sixteen
  cases z2 : zeroD v.ini v.mor v.mas v.seq l.heads
  · have HE := Lib.hid (right_noD (by rw [HK.out]; decide) z2)
    go_wp2
    go_ret
    exact ⟨ret_bool HE.out.symm, B0.out.trans (C4.out.mono hz0)⟩
  have Z2 := Lib.hid z2
  clear z2
  by_cases z4 : 0 < v.lsas.n
  · have HE := Lib.hid (right_noL (v := v) (l := l) (by rw [HK.out]; decide) (by rw [N4.out]; exact z4))
    go_wp2
    go_ret
    exact ⟨ret_bool HE.out.symm, B0.out.trans (C4.out.mono hz0)⟩
  by_cases z5 : 0 < v.acks.n
  · have HE := Lib.hid (right_noA (v := v) (l := l) (by rw [HK.out]; decide) (by rw [N5.out]; exact z5))
    go_wp2
    go_ret
    exact ⟨ret_bool HE.out.symm, B0.out.trans (C4.out.mono hz0)⟩
  have HE0 := Lib.hid (show rightP v l = pieceB 1 keyB l.wants by
    rw [right_part HSD.out (.inr Z1.out) (.inr Z2.out) (.inl HK.out) (.inr (by rw [N4.out]; omega)) (.inr (by rw [N5.out]; omega))]
    unfold partB
    rw [if_neg (by rw [HK.out]; decide)]; rw [if_neg (by rw [HK.out]; decide)]; rw [if_pos HK.out])
  have HPc := Lib.hid (HP.out.below (C4.out.mono hs0))
  have hsz := C4.out.size
  have BW := Lib.hid (B0.out.trans (C4.out.mono hz0))
  go_wp2_with fail
  clear a0 a1 a2 a3 a4 a5 a6 a7 a8 a9 a10 a11 a12 a13 a14 a15
  go_loopw [4] (fun i wr => ∃ k : Nat, k ≤ v.wants.n ∧ i = .int .i64 k ∧ Hid (Below w4.heap.size w4 wr) ∧ Hid ((l.wants.take k).all keyB = true)) (fun i _ => v.wants.n - (intOf i).toNat)
  case atStart => exact ⟨0, Nat.zero_le _, rfl, Lib.hid (Below.refl _ _), Lib.hid rfl⟩
  case round =>
    obtain ⟨k, hk, rfl, hb, hall⟩ := hrel
    have hsz2 := hb.out.size
    obtain ⟨a0, a1, a2, a3, a4, a5, a6, a7, a8, a9, a10, a11, a12, a13, a14, a15⟩ := ((K0.out.below C4.out hlt0).below hb.out (by omega)).sixteen
    clear a0 a1 a2 a3 a4 a5 a6 a7 a8 a9 a10 a11 a12 a14 a15
    have BF := Lib.hid (BW.out.trans (hb.out.mono BW.out.size))
    by_cases hlt : k < v.wants.n
    · obtain ⟨b, o, x, e9, hbb, hx, hat⟩ := Arr.at (HPc.out.2.2.1.below (hb.out.mono (by omega))) hlt
      have E9 := Lib.hid e9
      clear e9
      rw [E9.out] at a13
      have HX := Lib.hid hx
      have HNO : Hid (keyB x = false → rightP v l = false) := Lib.hid (fun h => by rw [HE0.out]; unfold pieceB; rw [allA_false _ _ k _ hx h, Bool.and_false])
      obtain ⟨k0, k1, k2, hi0, hi1⟩ := hat
      have BG := Lib.hid (BF.out.alloc BF.out.size (.cells #[.int .i64 x.kind, .int .i64 x.id, .int .i64 x.adv] 56))
      have HG := Lib.hid (hb.out.alloc hsz2 (.cells #[.int .i64 x.kind, .int .i64 x.id, .int .i64 x.adv] 56))
      clear hx hi0 hi1
      go_wp2_with fail
      refine (r5In_any _ _ _ _).mono ?_
      rintro e5 w5 ⟨rfl, rfl⟩
      cases q1 : inB x.kind 1 2
      · have HE := Lib.hid (HNO.out (by rw [keyB_is, q1]; rfl))
        go_wp2
        go_ret
        exact ⟨ret_bool HE.out.symm, BG.out⟩
      go_wp2_with fail
      refine (r5In_any _ _ _ _).mono ?_
      rintro e6 w6 ⟨rfl, rfl⟩
      cases q2 : inB x.id 0 4294967295
      · have HE := Lib.hid (HNO.out (by rw [keyB_is, q1, q2]; rfl))
        go_wp2
        go_ret
        exact ⟨ret_bool HE.out.symm, BG.out⟩
      go_wp2_with fail
      refine (r5In_any _ _ _ _).mono ?_
      rintro e7 w7 ⟨rfl, rfl⟩
      cases q3 : inB x.adv 1 15
      · have HE := Lib.hid (HNO.out (by rw [keyB_is, q1, q2, q3]; rfl))
        go_wp2
        go_ret
        exact ⟨ret_bool HE.out.symm, BG.out⟩
      have HYES := Lib.hid (show keyB x = true by rw [keyB_is, q1, q2, q3]; rfl)
      go_wp2
      go_roundw
      case rel => exact ⟨k + 1, by omega, by go_num, HG, Lib.hid (allA_snoc _ _ _ _ HX.out hall.out HYES.out)⟩
      case measure => simp [intOf]; omega
    · have h2 := hall.out
      rw [List.take_of_length_le (by rw [N3.out]; omega)] at h2
      have HE := Lib.hid (show rightP v l = inB (v.wants.n : Int) 1 3 by rw [HE0.out]; unfold pieceB; rw [h2, N3.out, Bool.and_true])
      go_wp2_with fail
      refine (r5In_any _ _ _ _).mono ?_
      rintro e5 w5 ⟨rfl, rfl⟩
      generalize inB (v.wants.n : Int) 1 3 = y at *
      go_wp2
      go_ret
      exact ⟨ret_bool HE.out.symm, BF.out⟩

end Go.Proofs.YtekhgkkgmkodmaaGreat
