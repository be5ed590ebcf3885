/- The reference's election of a router. Conditions: numbers unlike, from 1 on; at most 1,000,000 others. -/
import Derived.Test.YtedlkoecnnmihaaIj
namespace Go.Proofs.Ytedlkoecnnmihaa
open Go.RowKit
theorem vote_back {i : If} {L : List Cd} (ha : ApartC (ownI i :: L)) : ApartC (L ++ [ownI i]) ∧ elecC (L ++ [ownI i]) i.self = elecC (ownI i :: L) i.self := by
  have hp : (ownI i :: L).Perm (L ++ [ownI i]) := (List.perm_append_singleton (ownI i) L).symm
  exact ⟨ha.perm hp, elecC_perm ha hp i.self⟩
theorem cells_back (i : If) (L : List Cd) : cellsBy encCd L ++ encCd (ownI i) = cellsBy encCd (L ++ [ownI i]) := by simp [cellsBy]

set_option maxRecDepth 8000 in
set_option maxHeartbeats 8000000 in
theorem rvote_any {w : World} {B n c : Nat} {A : Option Addr} {L : List Cd} (i : If) (hs : Cds w B A n L) (hB : B ≤ w.heap.size) (hn : n ≤ 1000000) (ha : ApartC (ownI i :: L)) :
    Calls Try.prog 15 #[.agg #[.int .i64 i.self, .int .i64 i.prio, .int .i64 i.state, .int .i64 i.dr, .int .i64 i.bdr], .slice A n c] w fun r w' => r = .returned (.agg #[.int .i64 (voteI i L).self, .int .i64 (voteI i L).prio, .int .i64 (voteI i L).state, .int .i64 (voteI i L).dr, .int .i64 (voteI i L).bdr]) ∧ Below w.heap.size w w' := by
  have HP := Lib.hid (hs.more hB)
  have HLEN := Lib.hid hs.1
  have HAP := Lib.hid (vote_back ha).1
  obtain ⟨d, hd⟩ : ∃ d, d = (elecC (ownI i :: L) i.self).1 := ⟨_, rfl⟩
  obtain ⟨b, hb⟩ : ∃ b, b = (elecC (ownI i :: L) i.self).2 := ⟨_, rfl⟩
  have HEL := Lib.hid (fun (W : World) (A' : Option Addr) (n' c' : Nat) (h : Cds W W.heap.size A' n' (L ++ [ownI i])) (h2 : n' < 1048576) => show Calls Try.prog 23 #[.int .i64 i.self, .slice A' n' c'] W fun e w' => e = .returned (.agg #[.int .i64 d, .int .i64 b]) ∧ Below W.heap.size W w' by
    have := relect_any (c := c') i.self h (Nat.le_refl _) HAP.out h2
    rw [(vote_back ha).2, ← hd, ← hb] at this
    exact this)
  have HV := Lib.hid (show voteI i L = afterI i (d, b) by rw [voteI, hd, hb])
  rw [HV.out]
  simp only [afterI]
  clear hd hb HV hs hB ha
  generalize hst : (if d = i.self then 4 else if b = i.self then 3 else 2 : Int) = st
  have HST := Lib.hid hst
  clear hst
  have B0 := Lib.hid (below_new2 w (.cells #[.int .i64 i.self, .int .i64 i.prio, .int .i64 i.state, .int .i64 i.dr, .int .i64 i.bdr] 23) (.cells #[.int .i64 0, .int .i64 0, .int .i64 0, .int .i64 0, .int .i64 0] 23))
  have K0 := Lib.hid (blk_new07 w #[.int .i64 i.self, .int .i64 i.prio, .int .i64 i.state, .int .i64 i.dr, .int .i64 i.bdr] 23 (.cells #[.int .i64 0, .int .i64 0, .int .i64 0, .int .i64 0, .int .i64 0] 23))
  have R0 := Lib.hid (blk_new1 w (.cells #[.int .i64 i.self, .int .i64 i.prio, .int .i64 i.state, .int .i64 i.dr, .int .i64 i.bdr] 23) 23 #[.int .i64 0, .int .i64 0, .int .i64 0, .int .i64 0, .int .i64 0])
  have O0 := Lib.hid (World.ownsRow_nil ((w.alloc (.cells #[.int .i64 i.self, .int .i64 i.prio, .int .i64 i.state, .int .i64 i.dr, .int .i64 i.bdr] 23)).alloc (.cells #[.int .i64 0, .int .i64 0, .int .i64 0, .int .i64 0, .int .i64 0] 23)) ((w.alloc (.cells #[.int .i64 i.self, .int .i64 i.prio, .int .i64 i.state, .int .i64 i.dr, .int .i64 i.bdr] 23)).alloc (.cells #[.int .i64 0, .int .i64 0, .int .i64 0, .int .i64 0, .int .i64 0] 23)).heap.size 31 4)
  have P0 := Lib.hid (HP.out.below B0.out)
  obtain ⟨k0, k1, k2, k3, k4⟩ := K0.out.five
  go_enter Try.func15, Try.ntmps15
  have hk0 := K0.out.lt
  have hr0 := R0.out.lt
  have hsl0 : ((w.alloc (.cells #[.int .i64 i.self, .int .i64 i.prio, .int .i64 i.state, .int .i64 i.dr, .int .i64 i.bdr] 23)).alloc (.cells #[.int .i64 0, .int .i64 0, .int .i64 0, .int .i64 0, .int .i64 0] 23)).heap.size ≤ ((w.alloc (.cells #[.int .i64 i.self, .int .i64 i.prio, .int .i64 i.state, .int .i64 i.dr, .int .i64 i.bdr] 23)).alloc (.cells #[.int .i64 0, .int .i64 0, .int .i64 0, .int .i64 0, .int .i64 0] 23)).heap.size := Nat.le_refl _
  have HEQ := HLEN.out
  clear k0 k1 k2 k3 k4
  go_wp2_with (first | (at_builtin; refine wpList_append_any rfl (.tmp 7) (.tmp 8) 24 31 (.agg #[.int .i64 0, .int .i64 0, .int .i64 0, .int .i64 0]) 4 32 Try.underlying24 Try.infoCand rfl (by decide) (by decide) rfl ((w.alloc (.cells #[.int .i64 i.self, .int .i64 i.prio, .int .i64 i.state, .int .i64 i.dr, .int .i64 i.bdr] 23)).alloc (.cells #[.int .i64 0, .int .i64 0, .int .i64 0, .int .i64 0, .int .i64 0] 23)).heap.size (.slice none 0 0) 0 [] (by rfl) O0.out A n c (cellsBy encCd L) (by rfl) (by rw [by_length encCd_len, HLEN.out]) P0.out.cells.1 P0.out.cells.2 (by_ones encCd_ones L) (by omega) hsl0 ?_; intro v1 w1 ho1 hg1; obtain ⟨A1, c1, rfl⟩ := own_slice ho1.out; have O1 := Lib.hid (show w1.ownsRow ((w.alloc (.cells #[.int .i64 i.self, .int .i64 i.prio, .int .i64 i.state, .int .i64 i.dr, .int .i64 i.bdr] 23)).alloc (.cells #[.int .i64 0, .int .i64 0, .int .i64 0, .int .i64 0, .int .i64 0] 23)).heap.size 31 4 (.slice A1 n c1) n (cellsBy encCd L) by simpa using ho1.out); have HB1 := Lib.hid (show Below ((w.alloc (.cells #[.int .i64 i.self, .int .i64 i.prio, .int .i64 i.state, .int .i64 i.dr, .int .i64 i.bdr] 23)).alloc (.cells #[.int .i64 0, .int .i64 0, .int .i64 0, .int .i64 0, .int .i64 0] 23)).heap.size ((w.alloc (.cells #[.int .i64 i.self, .int .i64 i.prio, .int .i64 i.state, .int .i64 i.dr, .int .i64 i.bdr] 23)).alloc (.cells #[.int .i64 0, .int .i64 0, .int .i64 0, .int .i64 0, .int .i64 0] 23)) w1 from own_keeps7 O0.out hg1.out hsl0); have K1 := Lib.hid (K0.out.below HB1.out hk0); obtain ⟨k0, k1, k2, k3, k4⟩ := K1.out.five; have hsl1 := Nat.le_trans HB1.out.size (show w1.heap.size ≤ (w1.alloc (.cells #[.int .i64 i.self, .int .i64 i.prio, .int .i64 i.dr, .int .i64 i.bdr] 31)).heap.size by simp)) | (at_builtin; refine wpList_append_any rfl (.tmp 10) (.tmp 20) 24 31 (.agg #[.int .i64 0, .int .i64 0, .int .i64 0, .int .i64 0]) 4 32 Try.underlying24 Try.infoCand rfl (by decide) (by decide) rfl ((w.alloc (.cells #[.int .i64 i.self, .int .i64 i.prio, .int .i64 i.state, .int .i64 i.dr, .int .i64 i.bdr] 23)).alloc (.cells #[.int .i64 0, .int .i64 0, .int .i64 0, .int .i64 0, .int .i64 0] 23)).heap.size (.slice A1 n c1) n (cellsBy encCd L) (by rfl) (O1.out.alloc _) (some ⟨w1.heap.size, 0, none⟩) 1 1 (encCd (ownI i)) (by rfl) (by rfl) (fun h => by cases h) (news_new w1 31 (encCd (ownI i))) (encCd_ones (ownI i)) (by omega) hsl1 ?_; intro v2 w2 ho2 hg2; obtain ⟨A2, c2, rfl⟩ := own_slice ho2.out; have HB2 := Lib.hid (show Below ((w.alloc (.cells #[.int .i64 i.self, .int .i64 i.prio, .int .i64 i.state, .int .i64 i.dr, .int .i64 i.bdr] 23)).alloc (.cells #[.int .i64 0, .int .i64 0, .int .i64 0, .int .i64 0, .int .i64 0] 23)).heap.size ((w.alloc (.cells #[.int .i64 i.self, .int .i64 i.prio, .int .i64 i.state, .int .i64 i.dr, .int .i64 i.bdr] 23)).alloc (.cells #[.int .i64 0, .int .i64 0, .int .i64 0, .int .i64 0, .int .i64 0] 23)) w2 from (HB1.out.alloc (Nat.le_trans HB1.out.size (Nat.le_refl _)) (.cells #[.int .i64 i.self, .int .i64 i.prio, .int .i64 i.dr, .int .i64 i.bdr] 31)).trans (own_keeps7 (O1.out.alloc _) hg2.out hsl1)); have K2 := Lib.hid (K0.out.below HB2.out hk0); obtain ⟨j0, j1, j2, j3, j4⟩ := K2.out.five))
  have P2 := Lib.hid (own_cds (L := L ++ [ownI i]) (show w2.ownsRow ((w.alloc (.cells #[.int .i64 i.self, .int .i64 i.prio, .int .i64 i.state, .int .i64 i.dr, .int .i64 i.bdr] 23)).alloc (.cells #[.int .i64 0, .int .i64 0, .int .i64 0, .int .i64 0, .int .i64 0] 23)).heap.size 31 4 (.slice A2 (n + 1) c2) (n + 1) (cellsBy encCd (L ++ [ownI i])) by rw [← cells_back]; exact ho2.out))
  have R2 := Lib.hid (R0.out.below HB2.out hr0)
  have B2 := Lib.hid (B0.out.trans (HB2.out.mono (by simp; omega)))
  clear ho1 hg1 ho2 hg2 O1 HB1 HB2 K1 hsl0 hsl1 O0 P0 B0 R0 K0 k0 k1 k2 k3 k4 hk0 hr0 HEQ
  generalize hr : w.heap.size + 1 = r at *
  generalize hp : w.heap.size = p at *
  have hk2 := K2.out.lt
  have hr2 := R2.out.lt
  have hn2 : n + 1 < 1048576 := by omega
  refine (HEL.out _ _ _ _ P2.out hn2).mono ?_
  rintro e3 w3 ⟨rfl, hb3⟩
  have K3 := Lib.hid (K2.out.below hb3 hk2)
  have R3 := Lib.hid (R2.out.below hb3 hr2)
  have B3 := Lib.hid (B2.out.trans (hb3.mono (by omega)))
  have hk3 := K3.out.lt
  have hr3 := R3.out.lt
  clear hb3 K2 R2 B2 hk2 hr2 P2 j0 j1 j2 j3 j4 hn2
  have B4 := Lib.hid (B3.out.alloc (by omega) (.cells #[.int .i64 d, .int .i64 b] 50))
  have N4 := Lib.hid (Blk.new w3 50 #[.int .i64 d, .int .i64 b])
  have K4 := Lib.hid (K3.out.alloc (.cells #[.int .i64 d, .int .i64 b] 50))
  have R4 := Lib.hid (R3.out.alloc (.cells #[.int .i64 d, .int .i64 b] 50))
  go_upto_region 5 with fail
  generalize hz : w3.heap.size = z at *
  generalize w3.alloc (.cells #[.int .i64 d, .int .i64 b] 50) = w4 at *
  have hpz : z ≠ p := by omega
  have hrp : r ≠ p := by omega
  clear K3 R3 B3 hk3 hr3
  obtain ⟨k0, k1, k2, k3, k4⟩ := K4.out.five
  obtain ⟨z0, z1, z2, z3, z4⟩ := K4.out.thaw
  have n0 := N4.out.cell 0
  have n1 := N4.out.cell 1
  simp at n0 n1
  go_upto_region 6 with fail
  have K5 := Lib.hid (K4.out.put 3 (.int .i64 d))
  have N5 := Lib.hid (N4.out.far (p := ⟨p, 3, none⟩) hpz (.int .i64 d))
  have R5 := Lib.hid (R4.out.far (p := ⟨p, 3, none⟩) hrp (.int .i64 d))
  have B5 := Lib.hid (B4.out.setCell (p := ⟨p, 3, none⟩) (Nat.le_refl p) (.int .i64 d))
  simp only [List.setIfInBounds_toArray, List.set_cons_zero, List.set_cons_succ] at K5
  clear k0 k1 k2 k3 k4 z0 z1 z2 z3 z4 n0 n1 K4 N4 R4 B4
  generalize w4.setCell ⟨p, 3, none⟩ (.int .i64 d) = w5 at *
  obtain ⟨k0, k1, k2, k3, k4⟩ := K5.out.five
  obtain ⟨z0, z1, z2, z3, z4⟩ := K5.out.thaw
  have n0 := N5.out.cell 0
  have n1 := N5.out.cell 1
  simp at n0 n1
  go_upto_region 7 with fail
  have K6 := Lib.hid (K5.out.put 4 (.int .i64 b))
  have N6 := Lib.hid (N5.out.far (p := ⟨p, 4, none⟩) hpz (.int .i64 b))
  have R6 := Lib.hid (R5.out.far (p := ⟨p, 4, none⟩) hrp (.int .i64 b))
  have B6 := Lib.hid (B5.out.setCell (p := ⟨p, 4, none⟩) (Nat.le_refl p) (.int .i64 b))
  simp only [List.setIfInBounds_toArray, List.set_cons_zero, List.set_cons_succ] at K6
  clear k0 k1 k2 k3 k4 z0 z1 z2 z3 z4 n0 n1 K5 N5 R5 B5
  generalize w5.setCell ⟨p, 4, none⟩ (.int .i64 b) = w6 at *
  obtain ⟨k0, k1, k2, k3, k4⟩ := K6.out.five
  obtain ⟨z0, z1, z2, z3, z4⟩ := K6.out.thaw
  have n0 := N6.out.cell 0
  have n1 := N6.out.cell 1
  simp at n0 n1
  go_upto_region 8 with fail
  have K7 := Lib.hid (K6.out.put 2 (.int .i64 2))
  have N7 := Lib.hid (N6.out.far (p := ⟨p, 2, none⟩) hpz (.int .i64 2))
  have R7 := Lib.hid (R6.out.far (p := ⟨p, 2, none⟩) hrp (.int .i64 2))
  have B7 := Lib.hid (B6.out.setCell (p := ⟨p, 2, none⟩) (Nat.le_refl p) (.int .i64 2))
  simp only [List.setIfInBounds_toArray, List.set_cons_zero, List.set_cons_succ] at K7
  clear k0 k1 k2 k3 k4 z0 z1 z2 z3 z4 n0 n1 K6 N6 R6 B6
  generalize w6.setCell ⟨p, 2, none⟩ (.int .i64 2) = w7 at *

  have hwr : p ≤ r := by omega
  by_cases hbb : b = i.self
  · have db : (b == i.self) = true := by simp [hbb]

    obtain ⟨k0, k1, k2, k3, k4⟩ := K7.out.five
    obtain ⟨z0, z1, z2, z3, z4⟩ := K7.out.thaw
    have n0 := N7.out.cell 0
    have n1 := N7.out.cell 1
    simp at n0 n1
    go_upto_region 10 with fail
    have K8 := Lib.hid (K7.out.put 2 (.int .i64 3))
    have N8 := Lib.hid (N7.out.far (p := ⟨p, 2, none⟩) hpz (.int .i64 3))
    have R8 := Lib.hid (R7.out.far (p := ⟨p, 2, none⟩) hrp (.int .i64 3))
    have B8 := Lib.hid (B7.out.setCell (p := ⟨p, 2, none⟩) (Nat.le_refl p) (.int .i64 3))
    simp only [List.setIfInBounds_toArray, List.set_cons_zero, List.set_cons_succ] at K8
    clear k0 k1 k2 k3 k4 z0 z1 z2 z3 z4 n0 n1 K7 N7 R7 B7
    generalize w7.setCell ⟨p, 2, none⟩ (.int .i64 3) = w8 at *

    by_cases hdd : d = i.self
    · have dd : (d == i.self) = true := by simp [hdd]
      have HF := Lib.hid (show Ending.returned (.agg #[.int .i64 i.self, .int .i64 i.prio, .int .i64 4, .int .i64 d, .int .i64 b]) = .returned (.agg #[.int .i64 i.self, .int .i64 i.prio, .int .i64 st, .int .i64 d, .int .i64 b]) by rw [← HST.out, if_pos hdd])
      clear hdd hbb db

      obtain ⟨k0, k1, k2, k3, k4⟩ := K8.out.five
      obtain ⟨z0, z1, z2, z3, z4⟩ := K8.out.thaw
      have n0 := N8.out.cell 0
      have n1 := N8.out.cell 1
      simp at n0 n1
      go_upto_region 12 with fail
      have K9 := Lib.hid (K8.out.put 2 (.int .i64 4))
      have N9 := Lib.hid (N8.out.far (p := ⟨p, 2, none⟩) hpz (.int .i64 4))
      have R9 := Lib.hid (R8.out.far (p := ⟨p, 2, none⟩) hrp (.int .i64 4))
      have B9 := Lib.hid (B8.out.setCell (p := ⟨p, 2, none⟩) (Nat.le_refl p) (.int .i64 4))
      simp only [List.setIfInBounds_toArray, List.set_cons_zero, List.set_cons_succ] at K9
      clear k0 k1 k2 k3 k4 z0 z1 z2 z3 z4 n0 n1 K8 N8 R8 B8
      generalize w8.setCell ⟨p, 2, none⟩ (.int .i64 4) = w9 at *

      clear dd
      obtain ⟨k0, k1, k2, k3, k4⟩ := K9.out.five
      obtain ⟨z0, z1, z2, z3, z4⟩ := K9.out.thaw
      have n0 := N9.out.cell 0
      have n1 := N9.out.cell 1
      simp at n0 n1
      obtain ⟨j0, j1, j2, j3, j4⟩ := R9.out.five
      obtain ⟨x0, x1, x2, x3, x4⟩ := R9.out.thaw
      go_wp2_with fail
      have KF := blk_put5 (v0 := .int .i64 i.self) (v1 := .int .i64 i.prio) (v2 := .int .i64 4) (v3 := .int .i64 d) (v4 := .int .i64 b) R9.out
      have BF := below_put5 (v0 := .int .i64 i.self) (v1 := .int .i64 i.prio) (v2 := .int .i64 4) (v3 := .int .i64 d) (v4 := .int .i64 b) B9.out hwr
      clear k0 k1 k2 k3 k4 z0 z1 z2 z3 z4 n0 n1 j0 j1 j2 j3 j4 x0 x1 x2 x3 x4
      generalize (((((w9.setCell ⟨r, 0, none⟩ (.int .i64 i.self)).setCell ⟨r, 1, none⟩ (.int .i64 i.prio)).setCell ⟨r, 2, none⟩ (.int .i64 4)).setCell ⟨r, 3, none⟩ (.int .i64 d)).setCell ⟨r, 4, none⟩ (.int .i64 b)) = wz at *
      obtain ⟨k0, k1, k2, k3, k4⟩ := KF.five
      refine bodyPost_ret (v := .agg #[.int .i64 i.self, .int .i64 i.prio, .int .i64 4, .int .i64 d, .int .i64 b]) (by simp [results, Try.results15, go_sem, *]) rfl ?_
      exact ⟨HF.out, hp ▸ BF⟩

    · have dd : (d == i.self) = false := by simp [hdd]
      have HF := Lib.hid (show Ending.returned (.agg #[.int .i64 i.self, .int .i64 i.prio, .int .i64 3, .int .i64 d, .int .i64 b]) = .returned (.agg #[.int .i64 i.self, .int .i64 i.prio, .int .i64 st, .int .i64 d, .int .i64 b]) by rw [← HST.out, if_neg hdd, if_pos hbb])
      clear hdd hbb db

      obtain ⟨k0, k1, k2, k3, k4⟩ := K8.out.five
      obtain ⟨z0, z1, z2, z3, z4⟩ := K8.out.thaw
      have n0 := N8.out.cell 0
      have n1 := N8.out.cell 1
      simp at n0 n1
      obtain ⟨j0, j1, j2, j3, j4⟩ := R8.out.five
      obtain ⟨x0, x1, x2, x3, x4⟩ := R8.out.thaw
      go_wp2_with fail
      have KF := blk_put5 (v0 := .int .i64 i.self) (v1 := .int .i64 i.prio) (v2 := .int .i64 3) (v3 := .int .i64 d) (v4 := .int .i64 b) R8.out
      have BF := below_put5 (v0 := .int .i64 i.self) (v1 := .int .i64 i.prio) (v2 := .int .i64 3) (v3 := .int .i64 d) (v4 := .int .i64 b) B8.out hwr
      clear k0 k1 k2 k3 k4 z0 z1 z2 z3 z4 n0 n1 j0 j1 j2 j3 j4 x0 x1 x2 x3 x4
      generalize (((((w8.setCell ⟨r, 0, none⟩ (.int .i64 i.self)).setCell ⟨r, 1, none⟩ (.int .i64 i.prio)).setCell ⟨r, 2, none⟩ (.int .i64 3)).setCell ⟨r, 3, none⟩ (.int .i64 d)).setCell ⟨r, 4, none⟩ (.int .i64 b)) = wz at *
      obtain ⟨k0, k1, k2, k3, k4⟩ := KF.five
      refine bodyPost_ret (v := .agg #[.int .i64 i.self, .int .i64 i.prio, .int .i64 3, .int .i64 d, .int .i64 b]) (by simp [results, Try.results15, go_sem, *]) rfl ?_
      exact ⟨HF.out, hp ▸ BF⟩

  
  · have db : (b == i.self) = false := by simp [hbb]

    by_cases hdd : d = i.self
    · have dd : (d == i.self) = true := by simp [hdd]
      have HF := Lib.hid (show Ending.returned (.agg #[.int .i64 i.self, .int .i64 i.prio, .int .i64 4, .int .i64 d, .int .i64 b]) = .returned (.agg #[.int .i64 i.self, .int .i64 i.prio, .int .i64 st, .int .i64 d, .int .i64 b]) by rw [← HST.out, if_pos hdd])
      clear hdd hbb 

      obtain ⟨k0, k1, k2, k3, k4⟩ := K7.out.five
      obtain ⟨z0, z1, z2, z3, z4⟩ := K7.out.thaw
      have n0 := N7.out.cell 0
      have n1 := N7.out.cell 1
      simp at n0 n1
      go_upto_region 12 with fail
      have K8 := Lib.hid (K7.out.put 2 (.int .i64 4))
      have N8 := Lib.hid (N7.out.far (p := ⟨p, 2, none⟩) hpz (.int .i64 4))
      have R8 := Lib.hid (R7.out.far (p := ⟨p, 2, none⟩) hrp (.int .i64 4))
      have B8 := Lib.hid (B7.out.setCell (p := ⟨p, 2, none⟩) (Nat.le_refl p) (.int .i64 4))
      simp only [List.setIfInBounds_toArray, List.set_cons_zero, List.set_cons_succ] at K8
      clear k0 k1 k2 k3 k4 z0 z1 z2 z3 z4 n0 n1 K7 N7 R7 B7
      generalize w7.setCell ⟨p, 2, none⟩ (.int .i64 4) = w8 at *

      clear dd
      obtain ⟨k0, k1, k2, k3, k4⟩ := K8.out.five
      obtain ⟨z0, z1, z2, z3, z4⟩ := K8.out.thaw
      have n0 := N8.out.cell 0
      have n1 := N8.out.cell 1
      simp at n0 n1
      obtain ⟨j0, j1, j2, j3, j4⟩ := R8.out.five
      obtain ⟨x0, x1, x2, x3, x4⟩ := R8.out.thaw
      go_wp2_with fail
      have KF := blk_put5 (v0 := .int .i64 i.self) (v1 := .int .i64 i.prio) (v2 := .int .i64 4) (v3 := .int .i64 d) (v4 := .int .i64 b) R8.out
      have BF := below_put5 (v0 := .int .i64 i.self) (v1 := .int .i64 i.prio) (v2 := .int .i64 4) (v3 := .int .i64 d) (v4 := .int .i64 b) B8.out hwr
      clear k0 k1 k2 k3 k4 z0 z1 z2 z3 z4 n0 n1 j0 j1 j2 j3 j4 x0 x1 x2 x3 x4
      generalize (((((w8.setCell ⟨r, 0, none⟩ (.int .i64 i.self)).setCell ⟨r, 1, none⟩ (.int .i64 i.prio)).setCell ⟨r, 2, none⟩ (.int .i64 4)).setCell ⟨r, 3, none⟩ (.int .i64 d)).setCell ⟨r, 4, none⟩ (.int .i64 b)) = wz at *
      obtain ⟨k0, k1, k2, k3, k4⟩ := KF.five
      refine bodyPost_ret (v := .agg #[.int .i64 i.self, .int .i64 i.prio, .int .i64 4, .int .i64 d, .int .i64 b]) (by simp [results, Try.results15, go_sem, *]) rfl ?_
      exact ⟨HF.out, hp ▸ BF⟩

    · have dd : (d == i.self) = false := by simp [hdd]
      have HF := Lib.hid (show Ending.returned (.agg #[.int .i64 i.self, .int .i64 i.prio, .int .i64 2, .int .i64 d, .int .i64 b]) = .returned (.agg #[.int .i64 i.self, .int .i64 i.prio, .int .i64 st, .int .i64 d, .int .i64 b]) by rw [← HST.out, if_neg hdd, if_neg hbb])
      clear hdd hbb 

      obtain ⟨k0, k1, k2, k3, k4⟩ := K7.out.five
      obtain ⟨z0, z1, z2, z3, z4⟩ := K7.out.thaw
      have n0 := N7.out.cell 0
      have n1 := N7.out.cell 1
      simp at n0 n1
      obtain ⟨j0, j1, j2, j3, j4⟩ := R7.out.five
      obtain ⟨x0, x1, x2, x3, x4⟩ := R7.out.thaw
      go_wp2_with fail
      have KF := blk_put5 (v0 := .int .i64 i.self) (v1 := .int .i64 i.prio) (v2 := .int .i64 2) (v3 := .int .i64 d) (v4 := .int .i64 b) R7.out
      have BF := below_put5 (v0 := .int .i64 i.self) (v1 := .int .i64 i.prio) (v2 := .int .i64 2) (v3 := .int .i64 d) (v4 := .int .i64 b) B7.out hwr
      clear k0 k1 k2 k3 k4 z0 z1 z2 z3 z4 n0 n1 j0 j1 j2 j3 j4 x0 x1 x2 x3 x4
      generalize (((((w7.setCell ⟨r, 0, none⟩ (.int .i64 i.self)).setCell ⟨r, 1, none⟩ (.int .i64 i.prio)).setCell ⟨r, 2, none⟩ (.int .i64 2)).setCell ⟨r, 3, none⟩ (.int .i64 d)).setCell ⟨r, 4, none⟩ (.int .i64 b)) = wz at *
      obtain ⟨k0, k1, k2, k3, k4⟩ := KF.five
      refine bodyPost_ret (v := .agg #[.int .i64 i.self, .int .i64 i.prio, .int .i64 2, .int .i64 d, .int .i64 b]) (by simp [results, Try.results15, go_sem, *]) rfl ?_
      exact ⟨HF.out, hp ▸ BF⟩

end Go.Proofs.Ytedlkoecnnmihaa