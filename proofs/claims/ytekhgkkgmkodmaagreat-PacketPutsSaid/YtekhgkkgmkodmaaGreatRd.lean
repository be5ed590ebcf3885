/- The reference of packets: which packets are right: updates, and all. Conditions: the lists read as such. -/
import Derived.Test.YtekhgkkgmkodmaaGreatRc0
import Derived.Test.YtekhgkkgmkodmaaGreatJae
namespace Go.Proofs.YtekhgkkgmkodmaaGreat
open Go.RowKit

theorem refLsaBytes_any (h : Hd) (L : List Lk) (M : List Int) (A A' : Option Addr) (n c n' c' B m : Nat) (w : World) (hL : Lnk w B A n L) (hM : Row .i64 w B A' n' M) (hB : B ≤ w.heap.size) (hr : rightB h L M = true) (hm : (lsaBytes h L M).length = m) :
    Calls Tryz.prog 23 #[.agg #[.int .i64 h.age, .int .i64 h.kind, .int .i64 h.id, .int .i64 h.adv, .int .i64 h.seq, .int .i64 h.sum, .int .i64 h.long, .slice A n c, .slice A' n' c']] w (PutA w (lsaBytes h L M) m) := by
  obtain ⟨_, h2, _, _, _, h6, h7⟩ := right_facts hr
  by_cases hk : h.kind = 1
  · obtain ⟨e1, e2, _⟩ := h6 hk
    exact refLsaBytes_rt h L M A A' n c n' c' B m w hL hM.1 hB (by have := hL.1; omega) (by rw [← hM.1, e1]; rfl) (by simp [hk]) hm
  · obtain ⟨e1, e2⟩ := h7 (by omega)
    exact refLsaBytes_net h L M A A' n c n' c' B m w hL.1 hM hB (by rw [← hL.1, e1]; rfl) (by have := rise_len M 0 e2 (by omega); have := hM.1; omega) (by simp [hk]) hm
theorem sum_piece (h : Hd) (L : List Lk) (M : List Int) : ((lsaBytes h L M).drop 16).take 2 = sumBytes h L M := by
  obtain ⟨X, Y, _, _, _, _, h5, h6⟩ := fill_parts h L M
  have e : lsaBytes h L M = (enc h.age 2 ++ midBytes h) ++ (X :: Y :: (enc (20 + ((bodyBytes h L M).length : Int)) 2 ++ bodyBytes h L M)) := by
    unfold lsaBytes
    rw [raw_take, h6, List.append_assoc]
  have hl : (enc h.age 2 ++ midBytes h).length = 16 := by rw [List.length_append, enc_length, midBytes_length]
  rw [e, List.drop_left' hl, h5]
  rfl
theorem laB_is (x : La) (m : Nat) (hm : (lsaBytes x.h x.L x.M).length = m) : laB x = (rightB x.h x.L x.M && (decide (x.h.long = (m : Int)) && decide (x.h.sum = num (((lsaBytes x.h x.L x.M).drop 16).take 2)))) := by
  obtain ⟨h, L, M⟩ := x
  dsimp only at hm ⊢
  rw [sum_piece]
  unfold laB
  dsimp only
  congr 1
  have hb := lsaBytes_length h L M
  rw [Bool.eq_iff_iff, sameHd_iff]
  simp only [Bool.and_eq_true, decide_eq_true_eq]
  constructor
  · intro e
    have e1 := congrArg Hd.long e
    have e2 := congrArg Hd.sum e
    have e3 : (sealHd h L M).long = 20 + ((bodyBytes h L M).length : Int) := rfl
    exact ⟨by omega, e2⟩
  · rintro ⟨h1, h2⟩
    have e1 : lsaSum h L M = h.sum := h2.symm
    have e2 : 20 + ((bodyBytes h L M).length : Int) = h.long := by omega
    unfold sealHd
    rw [e1, e2]

set_option maxRecDepth 8000 in
set_option maxHeartbeats 8000000 in
theorem r5Right_update (v : Pv) (l : Pl) (B : Nat) (w : World) (h : PkIn w B v l) (hs : PkSm v) (hB : B ≤ w.heap.size) (hk : v.kind = 4) (hsd : inB v.sender 1 15 = true) :
    Calls Tryz.prog 7 #[.agg #[.int .i64 4, .int .i64 v.sender, .int .i64 v.every, .int .i64 v.dead, .int .i64 v.prio, .int .i64 v.dr, .int .i64 v.bdr, .slice v.seen.a v.seen.n v.seen.c, .bool v.ini, .bool v.mor, .bool v.mas, .int .i64 v.seq, .slice v.heads.a v.heads.n v.heads.c, .slice v.wants.a v.wants.n v.wants.c, .slice v.lsas.a v.lsas.n v.lsas.c, .slice v.acks.a v.acks.n v.acks.c]] w fun x w' => x = .returned (.bool (rightP v l)) ∧ Below w.heap.size w w' := by
  have K0 := Lib.hid (Blk.new w 31 #[.int .i64 4, .int .i64 v.sender, .int .i64 v.every, .int .i64 v.dead, .int .i64 v.prio, .int .i64 v.dr, .int .i64 v.bdr, .slice v.seen.a v.seen.n v.seen.c, .bool v.ini, .bool v.mor, .bool v.mas, .int .i64 v.seq, .slice v.heads.a v.heads.n v.heads.c, .slice v.wants.a v.wants.n v.wants.c, .slice v.lsas.a v.lsas.n v.lsas.c, .slice v.acks.a v.acks.n v.acks.c])
  have B0 := Lib.hid ((Below.refl w.heap.size w).alloc (Nat.le_refl _) (.cells #[.int .i64 4, .int .i64 v.sender, .int .i64 v.every, .int .i64 v.dead, .int .i64 v.prio, .int .i64 v.dr, .int .i64 v.bdr, .slice v.seen.a v.seen.n v.seen.c, .bool v.ini, .bool v.mor, .bool v.mas, .int .i64 v.seq, .slice v.heads.a v.heads.n v.heads.c, .slice v.wants.a v.wants.n v.wants.c, .slice v.lsas.a v.lsas.n v.lsas.c, .slice v.acks.a v.acks.n v.acks.c] 31))
  have HS := Lib.hid hs
  obtain ⟨m1, m2, m3, m4, m5, -, -⟩ := hs
  unfold maxLen at m1 m2 m3 m4 m5
  have HP := Lib.hid (h.below (B0.out.mono hB))
  have N1 := Lib.hid (show l.seen.length = v.seen.n from h.1.1)
  have N2 := Lib.hid (show l.heads.length = v.heads.n from h.2.1.1)
  have N3 := Lib.hid (show l.wants.length = v.wants.n from h.2.2.1.1)
  have N4 := Lib.hid (show l.lsas.length = v.lsas.n from h.2.2.2.1.1)
  have N5 := Lib.hid (show l.acks.length = v.acks.n from h.2.2.2.2.1)
  have HK := Lib.hid hk
  have HSD := Lib.hid hsd
  have hs0 : B ≤ (w.alloc (.cells #[.int .i64 4, .int .i64 v.sender, .int .i64 v.every, .int .i64 v.dead, .int .i64 v.prio, .int .i64 v.dr, .int .i64 v.bdr, .slice v.seen.a v.seen.n v.seen.c, .bool v.ini, .bool v.mor, .bool v.mas, .int .i64 v.seq, .slice v.heads.a v.heads.n v.heads.c, .slice v.wants.a v.wants.n v.wants.c, .slice v.lsas.a v.lsas.n v.lsas.c, .slice v.acks.a v.acks.n v.acks.c] 31)).heap.size := by simp; omega
  have hz0 : w.heap.size ≤ (w.alloc (.cells #[.int .i64 4, .int .i64 v.sender, .int .i64 v.every, .int .i64 v.dead, .int .i64 v.prio, .int .i64 v.dr, .int .i64 v.bdr, .slice v.seen.a v.seen.n v.seen.c, .bool v.ini, .bool v.mor, .bool v.mas, .int .i64 v.seq, .slice v.heads.a v.heads.n v.heads.c, .slice v.wants.a v.wants.n v.wants.c, .slice v.lsas.a v.lsas.n v.lsas.c, .slice v.acks.a v.acks.n v.acks.c] 31)).heap.size := by simp
  clear h hk hsd
  go_enter Tryz.func7, Tryz.ntmps7
  go_upto_region 1 with fail
  have hlt0 := K0.out.lt
  generalize w.alloc (.cells #[.int .i64 4, .int .i64 v.sender, .int .i64 v.every, .int .i64 v.dead, .int .i64 v.prio, .int .i64 v.dr, .int .i64 v.bdr, .slice v.seen.a v.seen.n v.seen.c, .bool v.ini, .bool v.mor, .bool v.mas, .int .i64 v.seq, .slice v.heads.a v.heads.n v.heads.c, .slice v.wants.a v.wants.n v.wants.c, .slice v.lsas.a v.lsas.n v.lsas.c, .slice v.acks.a v.acks.n v.acks.c] 31) = w0 at *
  obtain ⟨a0, a1, a2, a3, a4, a5, a6, a7, a8, a9, a10, a11, a12, a13, a14, a15⟩ := K0.out.sixteen
  have C0 := Lib.hid (Below.refl w0.heap.size w0)
  go_wp2_with fail
  refine (r5In_is 4 1 5 true _ rfl).mono ?_
  rintro e1 w1 ⟨rfl, rfl⟩
  go_wp2_with fail
  refine (r5In_is v.sender 1 15 true _ HSD.out).mono ?_
  rintro e2 w2 ⟨rfl, rfl⟩
  go_wp2_with fail
  refine (r5NoHello_any v.every v.dead v.prio v.dr v.bdr v.seen.a v.seen.n v.seen.c l.seen _ N1.out HS.out.1).mono ?_
  rintro e3 w3 ⟨rfl, hb3⟩
  have C3 := Lib.hid (C0.out.trans (hb3.mono C0.out.size))
  clear hb3 a0 a1 a2 a3 a4 a5 a6 a7 a8 a9 a10 a11 a12 a13 a14 a15
  obtain ⟨a0, a1, a2, a3, a4, a5, a6, a7, a8, a9, a10, a11, a12, a13, a14, a15⟩ := (K0.out.below C3.out hlt0).sixteen
  cases z1 : zeroH v.every v.dead v.prio v.dr v.bdr l.seen
  · have HE := Lib.hid (right_noH (by rw [HK.out]; decide) z1)
    go_wp2
    go_ret
    exact ⟨ret_bool HE.out.symm, B0.out.trans (C3.out.mono hz0)⟩
  have Z1 := Lib.hid z1
  clear z1
  go_wp2_with fail
  refine (r5NoDd_any v.ini v.mor v.mas v.seq v.heads.a v.heads.n v.heads.c l.heads _ N2.out HS.out.2.1).mono ?_
  rintro e4 w4 ⟨rfl, hb4⟩
  have C4 := Lib.hid (C3.out.trans (hb4.mono C3.out.size))
  clear hb4 a0 a1 a2 a3 a4 a5 a6 a7 a8 a9 a10 a11 a12 a13 a14 a15
  obtain ⟨a0, a1, a2, a3, a4, a5, a6, a7, a8, a9, a10, a11, a12, a13, a14, a15⟩ := (K0.out.below C4.out hlt0).sixteen
  cases z2 : zeroD v.ini v.mor v.mas v.seq l.heads
  · have HE := Lib.hid (right_noD (by rw [HK.out]; decide) z2)
    go_wp2
    go_ret
    exact ⟨ret_bool HE.out.symm, B0.out.trans (C4.out.mono hz0)⟩
  have Z2 := Lib.hid z2
  clear z2
  by_cases z3 : 0 < v.wants.n
  · have HE := Lib.hid (right_noW (v := v) (l := l) (by rw [HK.out]; decide) (by rw [N3.out]; exact z3))
    go_wp2
    go_ret
    exact ⟨ret_bool HE.out.symm, B0.out.trans (C4.out.mono hz0)⟩
  by_cases z5 : 0 < v.acks.n
  · have HE := Lib.hid (right_noA (v := v) (l := l) (by rw [HK.out]; decide) (by rw [N5.out]; exact z5))
    go_wp2
    go_ret
    exact ⟨ret_bool HE.out.symm, B0.out.trans (C4.out.mono hz0)⟩
  have HE0 := Lib.hid (show rightP v l = pieceB 1 laB l.lsas by
    rw [right_part HSD.out (.inr Z1.out) (.inr Z2.out) (.inr (by rw [N3.out]; omega)) (.inl HK.out) (.inr (by rw [N5.out]; omega))]
    unfold partB
    rw [if_neg (by rw [HK.out]; decide)]; rw [if_neg (by rw [HK.out]; decide)]; rw [if_neg (by rw [HK.out]; decide)]; rw [if_pos HK.out])
  have HPc := Lib.hid (HP.out.below (C4.out.mono hs0))
  have hsz := C4.out.size
  have BW := Lib.hid (B0.out.trans (C4.out.mono hz0))
  go_wp2_with fail
  clear a0 a1 a2 a3 a4 a5 a6 a7 a8 a9 a10 a11 a12 a13 a14 a15
  go_loopw [6] (fun i wr => ∃ k : Nat, k ≤ v.lsas.n ∧ i = .int .i64 k ∧ Hid (Below w4.heap.size w4 wr) ∧ Hid ((l.lsas.take k).all laB = true)) (fun i _ => v.lsas.n - (intOf i).toNat)
  case atStart => exact ⟨0, Nat.zero_le _, rfl, Lib.hid (Below.refl _ _), Lib.hid rfl⟩
  case round =>
    obtain ⟨k, hk, rfl, hb, hall⟩ := hrel
    have hsz2 := hb.out.size
    have K1 := Lib.hid ((K0.out.below C4.out hlt0).below hb.out (by omega))
    have hlt1 := K1.out.lt
    have BF := Lib.hid (BW.out.trans (hb.out.mono BW.out.size))
    by_cases hlt : k < v.lsas.n
    · obtain ⟨b, o, x, e9, hbb, hx, hat⟩ := Arr.at (HPc.out.2.2.2.1.below (hb.out.mono (by omega))) hlt
      obtain ⟨m, hm⟩ : ∃ m, (lsaBytes x.h x.L x.M).length = m := ⟨_, rfl⟩
      have Hm := Lib.hid hm
      have hm20 : 20 ≤ m := by have := lsaBytes_length x.h x.L x.M; omega
      have HX := Lib.hid hx
      have HNO : Hid (laB x = false → rightP v l = false) := Lib.hid (fun h => by rw [HE0.out]; unfold pieceB; rw [allA_false _ _ k _ hx h, Bool.and_false])
      have HAT := Lib.hid hat
      have E9 := Lib.hid e9
      clear e9
      obtain ⟨a0, a1, a2, a3, a4, a5, a6, a7, a8, a9, a10, a11, a12, a13, a14, a15⟩ := K1.out.sixteen
      clear a0 a1 a2 a3 a4 a5 a6 a7 a8 a9 a10 a11 a12 a13 a15
      rw [E9.out] at a14
      obtain ⟨⟨k0, k1, k2, k3, k4, k5, k6⟩, A1, n1, c1, A2, n2, c2, k7, k8, hL, hM, hn1, hn2⟩ := hat
      have HL := Lib.hid hL
      have HM := Lib.hid hM
      have HN1 := Lib.hid hn1
      have HN2 := Lib.hid hn2
      clear hx hL hM hm hn1 hn2
      go_wp2_with fail
      refine (refRight_any x.h x.L x.M A1 A2 n1 c1 n2 c2 B _ HL.out HM.out (by omega) HN1.out HN2.out).mono ?_
      rintro e5 w5 ⟨rfl, hb5⟩
      have K5 := Lib.hid (K1.out.below hb5 hlt1)
      have HAT5 := Lib.hid (HAT.out.move (fun q hq => hb5.cell (by omega)) (Nat.le_refl _) hbb)
      have G5 := Lib.hid (hb.out.trans (hb5.mono hsz2))
      have hsz5 := hb5.size
      clear hb5 k0 k1 k2 k3 k4 k5 k6 k7 k8 HL HM HN1 HN2 HAT a14
      cases q1 : rightB x.h x.L x.M
      · have HE := Lib.hid (HNO.out (by rw [laB_is x m Hm.out, q1]; rfl))
        go_wp2
        go_ret
        exact ⟨ret_bool HE.out.symm, BW.out.trans (G5.out.mono BW.out.size)⟩
      have Q1 := Lib.hid q1
      clear q1
      obtain ⟨a0, a1, a2, a3, a4, a5, a6, a7, a8, a9, a10, a11, a12, a13, a14, a15⟩ := K5.out.sixteen
      clear a0 a1 a2 a3 a4 a5 a6 a7 a8 a9 a10 a11 a12 a13 a15
      rw [E9.out] at a14
      obtain ⟨⟨k0, k1, k2, k3, k4, k5, k6⟩, A1, n1, c1, A2, n2, c2, k7, k8, hL, hM, hn1, hn2⟩ := HAT5.out
      have HL := Lib.hid hL
      have HM := Lib.hid hM
      clear hL hM hn1 hn2
      go_wp2_with fail
      refine (refLsaBytes_any x.h x.L x.M A1 A2 n1 c1 n2 c2 B m _ HL.out HM.out (by omega) Q1.out Hm.out).mono ?_
      rintro e6 w6 ⟨v6, rfl, ha6⟩
      obtain ⟨g6, c6, rfl, hc6, hm6, hg6, hg6', hr6⟩ := ha6.some (by omega)
      unfold maxLen at hm6
      have hb6 := ha6.2
      have R6 := Lib.hid hr6
      have K6 := Lib.hid (K5.out.below hb6 (by omega))
      have HAT6 := Lib.hid (HAT5.out.move (fun q hq => hb6.cell (by omega)) (Nat.le_refl _) hbb)
      have G6 := Lib.hid (G5.out.trans (hb6.mono (by omega)))
      have hsz6 := hb6.size
      clear hb6 ha6 hr6 k0 k1 k2 k3 k4 k5 k6 k7 k8 HL HM HAT5 K5 a14 G5
      obtain ⟨a0, a1, a2, a3, a4, a5, a6, a7, a8, a9, a10, a11, a12, a13, a14, a15⟩ := K6.out.sixteen
      clear a0 a1 a2 a3 a4 a5 a6 a7 a8 a9 a10 a11 a12 a13 a15
      rw [E9.out] at a14
      obtain ⟨⟨k0, k1, k2, k3, k4, k5, k6⟩, A1, n1, c1, A2, n2, c2, k7, k8, hL, hM, hn1, hn2⟩ := HAT6.out
      have KH := Lib.hid (Blk.new w6 44 #[.int .i64 x.h.age, .int .i64 x.h.kind, .int .i64 x.h.id, .int .i64 x.h.adv, .int .i64 x.h.seq, .int .i64 x.h.sum, .int .i64 x.h.long])
      have G7 := Lib.hid (G6.out.alloc (by omega) (.cells #[.int .i64 x.h.age, .int .i64 x.h.kind, .int .i64 x.h.id, .int .i64 x.h.adv, .int .i64 x.h.seq, .int .i64 x.h.sum, .int .i64 x.h.long] 44))
      have hr7 := (cut_some _ _ 16 2 (by omega) _ _ _ _ R6.out)
      have R7 := Lib.hid (show Row .u8 (w6.alloc (.cells #[.int .i64 x.h.age, .int .i64 x.h.kind, .int .i64 x.h.id, .int .i64 x.h.adv, .int .i64 x.h.seq, .int .i64 x.h.sum, .int .i64 x.h.long] 44)) w6.heap.size (some ⟨g6, 16, none⟩) 2 (((lsaBytes x.h x.L x.M).drop 16).take 2) from hr7.alloc (Nat.le_refl _) _)
      have BY := Lib.hid (((lsaBytes_byt x.h x.L x.M).drop 16).take 2)
      clear hL hM hn1 hn2 k7 k8 hr7 R6 G6 K6 HAT6
      go_upto_region 27 with fail
      generalize w6.alloc (.cells #[.int .i64 x.h.age, .int .i64 x.h.kind, .int .i64 x.h.id, .int .i64 x.h.adv, .int .i64 x.h.seq, .int .i64 x.h.sum, .int .i64 x.h.long] 44) = w7 at *
      clear k0 k1 k2 k3 k4 k5 k6 a14
      obtain ⟨f0, f1, f2, f3, f4, f5, f6⟩ := KH.out.seven
      have HLA := Lib.hid (laB_is x m Hm.out)
      have BX := Lib.hid (fun j => below_drewN (BW.out.trans (G7.out.mono BW.out.size)) j)
      by_cases q2 : x.h.long = (m : Int)
      · have hd2 : (x.h.long != (m : Int)) = false := by simp [q2]
        by_cases q3 : x.h.sum = num (((lsaBytes x.h x.L x.M).drop 16).take 2)
        · have HYES := Lib.hid (show laB x = true by rw [HLA.out, Q1.out, decide_eq_true q2, decide_eq_true q3]; rfl)
          clear q2
          generalize hz : ((lsaBytes x.h x.L x.M).drop 16).take 2 = z at *
          have hd3 : (x.h.sum != num z) = false := by simp [q3]
          clear hz q3
          generalize x.h.sum = xs at *
          generalize x.h.long = xl at *
          go_wp2_with fail
          go_quiet ((go_at_call 24; exact quiet_left (number_any _ 2 _ _ _ _ (R7.out.drewN _) BY.out (by omega))))
          go_wp2
          go_roundw
          case rel => exact ⟨k + 1, by omega, by go_num, Lib.hid (below_drewN G7.out _), Lib.hid (allA_snoc _ _ _ _ HX.out hall.out HYES.out)⟩
          case measure => simp [intOf]; omega
        · have HE := Lib.hid (HNO.out (by rw [HLA.out, Q1.out, decide_eq_false q3, Bool.and_false]; rfl))
          clear q2
          generalize hz : ((lsaBytes x.h x.L x.M).drop 16).take 2 = z at *
          have hd3 : (x.h.sum != num z) = true := by simp [q3]
          clear hz q3
          generalize x.h.sum = xs at *
          generalize x.h.long = xl at *
          go_wp2_with fail
          go_quiet ((go_at_call 24; exact quiet_left (number_any _ 2 _ _ _ _ (R7.out.drewN _) BY.out (by omega))))
          go_wp2
          go_ret
          exact ⟨ret_bool HE.out.symm, BX.out _⟩
      · have hd2 : (x.h.long != (m : Int)) = true := by simp [q2]
        have HE := Lib.hid (HNO.out (by rw [HLA.out, Q1.out, decide_eq_false q2]; rfl))
        clear q2
        go_wp2_with fail
        go_quiet (fail)
        go_wp2
        go_ret
        exact ⟨ret_bool HE.out.symm, BX.out _⟩
    · have h2 := hall.out
      rw [List.take_of_length_le (by rw [N4.out]; omega)] at h2
      have HE := Lib.hid (show rightP v l = inB (v.lsas.n : Int) 1 3 by rw [HE0.out]; unfold pieceB; rw [h2, N4.out, Bool.and_true])
      obtain ⟨a0, a1, a2, a3, a4, a5, a6, a7, a8, a9, a10, a11, a12, a13, a14, a15⟩ := K1.out.sixteen
      go_wp2_with fail
      refine (r5In_any _ _ _ _).mono ?_
      rintro e5 w5 ⟨rfl, rfl⟩
      generalize inB (v.lsas.n : Int) 1 3 = y at *
      go_wp2
      go_ret
      exact ⟨ret_bool HE.out.symm, BF.out⟩

end Go.Proofs.YtekhgkkgmkodmaaGreat
