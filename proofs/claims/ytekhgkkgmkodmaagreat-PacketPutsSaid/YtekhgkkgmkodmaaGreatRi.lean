/- The reference of packets: whether packets are alike, of two that have the same parts. Conditions: the lists read as such. -/
import Derived.Test.YtekhgkkgmkodmaaGreatRh
import Derived.Test.YtekhgkkgmkodmaaGreatJbd
namespace Go.Proofs.YtekhgkkgmkodmaaGreat
open Go.RowKit

theorem same_body {v v2 : Pv} (h : SameN v2 v) (l : Pl) : bodyBs v2 l = bodyBs v l := by
  obtain ⟨h1, h2, h3, h4, h5, h6, h7, h8, h9, h10, h11⟩ := h
  unfold bodyBs
  rw [h1, h3, h4, h5, h6, h7, h8, h9, h10, h11]
theorem same_bytes {v v2 : Pv} (h : SameN v2 v) (l : Pl) : pktBytes v2 l = pktBytes v l := by
  unfold pktBytes pktBs headP
  rw [same_body h l, h.1, h.2.1]

set_option maxRecDepth 8000 in
set_option maxHeartbeats 8000000 in
theorem r5Ages_yes (v v2 : Pv) (B B2 n : Nat) (L : List La) (w : World) (h1 : Las w B v.lsas.a n L) (h2 : Las w B2 v2.lsas.a n L) (hn1 : v.lsas.n = n) (hn2 : v2.lsas.n = n) (hB : B ≤ w.heap.size) (hB2 : B2 ≤ w.heap.size) (hn : n ≤ maxLen) :
    Calls Tryz.prog 40 #[.agg #[.int .i64 v.kind, .int .i64 v.sender, .int .i64 v.every, .int .i64 v.dead, .int .i64 v.prio, .int .i64 v.dr, .int .i64 v.bdr, .slice v.seen.a v.seen.n v.seen.c, .bool v.ini, .bool v.mor, .bool v.mas, .int .i64 v.seq, .slice v.heads.a v.heads.n v.heads.c, .slice v.wants.a v.wants.n v.wants.c, .slice v.lsas.a v.lsas.n v.lsas.c, .slice v.acks.a v.acks.n v.acks.c], .agg #[.int .i64 v2.kind, .int .i64 v2.sender, .int .i64 v2.every, .int .i64 v2.dead, .int .i64 v2.prio, .int .i64 v2.dr, .int .i64 v2.bdr, .slice v2.seen.a v2.seen.n v2.seen.c, .bool v2.ini, .bool v2.mor, .bool v2.mas, .int .i64 v2.seq, .slice v2.heads.a v2.heads.n v2.heads.c, .slice v2.wants.a v2.wants.n v2.wants.c, .slice v2.lsas.a v2.lsas.n v2.lsas.c, .slice v2.acks.a v2.acks.n v2.acks.c]] w fun x w' => x = .returned (.bool true) ∧ Below w.heap.size w w' := by
  have K1 := Lib.hid ((Blk.new w 31 #[.int .i64 v.kind, .int .i64 v.sender, .int .i64 v.every, .int .i64 v.dead, .int .i64 v.prio, .int .i64 v.dr, .int .i64 v.bdr, .slice v.seen.a v.seen.n v.seen.c, .bool v.ini, .bool v.mor, .bool v.mas, .int .i64 v.seq, .slice v.heads.a v.heads.n v.heads.c, .slice v.wants.a v.wants.n v.wants.c, .slice v.lsas.a v.lsas.n v.lsas.c, .slice v.acks.a v.acks.n v.acks.c]).alloc (.cells #[.int .i64 v2.kind, .int .i64 v2.sender, .int .i64 v2.every, .int .i64 v2.dead, .int .i64 v2.prio, .int .i64 v2.dr, .int .i64 v2.bdr, .slice v2.seen.a v2.seen.n v2.seen.c, .bool v2.ini, .bool v2.mor, .bool v2.mas, .int .i64 v2.seq, .slice v2.heads.a v2.heads.n v2.heads.c, .slice v2.wants.a v2.wants.n v2.wants.c, .slice v2.lsas.a v2.lsas.n v2.lsas.c, .slice v2.acks.a v2.acks.n v2.acks.c] 31))
  have K2 := Lib.hid (blk_new1 w (.cells #[.int .i64 v.kind, .int .i64 v.sender, .int .i64 v.every, .int .i64 v.dead, .int .i64 v.prio, .int .i64 v.dr, .int .i64 v.bdr, .slice v.seen.a v.seen.n v.seen.c, .bool v.ini, .bool v.mor, .bool v.mas, .int .i64 v.seq, .slice v.heads.a v.heads.n v.heads.c, .slice v.wants.a v.wants.n v.wants.c, .slice v.lsas.a v.lsas.n v.lsas.c, .slice v.acks.a v.acks.n v.acks.c] 31) 31 #[.int .i64 v2.kind, .int .i64 v2.sender, .int .i64 v2.every, .int .i64 v2.dead, .int .i64 v2.prio, .int .i64 v2.dr, .int .i64 v2.bdr, .slice v2.seen.a v2.seen.n v2.seen.c, .bool v2.ini, .bool v2.mor, .bool v2.mas, .int .i64 v2.seq, .slice v2.heads.a v2.heads.n v2.heads.c, .slice v2.wants.a v2.wants.n v2.wants.c, .slice v2.lsas.a v2.lsas.n v2.lsas.c, .slice v2.acks.a v2.acks.n v2.acks.c])
  have B0 := Lib.hid (((Below.refl w.heap.size w).alloc (Nat.le_refl _) (.cells #[.int .i64 v.kind, .int .i64 v.sender, .int .i64 v.every, .int .i64 v.dead, .int .i64 v.prio, .int .i64 v.dr, .int .i64 v.bdr, .slice v.seen.a v.seen.n v.seen.c, .bool v.ini, .bool v.mor, .bool v.mas, .int .i64 v.seq, .slice v.heads.a v.heads.n v.heads.c, .slice v.wants.a v.wants.n v.wants.c, .slice v.lsas.a v.lsas.n v.lsas.c, .slice v.acks.a v.acks.n v.acks.c] 31)).alloc (by simp) (.cells #[.int .i64 v2.kind, .int .i64 v2.sender, .int .i64 v2.every, .int .i64 v2.dead, .int .i64 v2.prio, .int .i64 v2.dr, .int .i64 v2.bdr, .slice v2.seen.a v2.seen.n v2.seen.c, .bool v2.ini, .bool v2.mor, .bool v2.mas, .int .i64 v2.seq, .slice v2.heads.a v2.heads.n v2.heads.c, .slice v2.wants.a v2.wants.n v2.wants.c, .slice v2.lsas.a v2.lsas.n v2.lsas.c, .slice v2.acks.a v2.acks.n v2.acks.c] 31))
  have HR := Lib.hid (h1.below (B0.out.mono hB))
  have HR' := Lib.hid (h2.below (B0.out.mono hB2))
  have HNN := Lib.hid (And.intro hn1 hn2)
  have hsz : w.heap.size + 2 = ((w.alloc (.cells #[.int .i64 v.kind, .int .i64 v.sender, .int .i64 v.every, .int .i64 v.dead, .int .i64 v.prio, .int .i64 v.dr, .int .i64 v.bdr, .slice v.seen.a v.seen.n v.seen.c, .bool v.ini, .bool v.mor, .bool v.mas, .int .i64 v.seq, .slice v.heads.a v.heads.n v.heads.c, .slice v.wants.a v.wants.n v.wants.c, .slice v.lsas.a v.lsas.n v.lsas.c, .slice v.acks.a v.acks.n v.acks.c] 31)).alloc (.cells #[.int .i64 v2.kind, .int .i64 v2.sender, .int .i64 v2.every, .int .i64 v2.dead, .int .i64 v2.prio, .int .i64 v2.dr, .int .i64 v2.bdr, .slice v2.seen.a v2.seen.n v2.seen.c, .bool v2.ini, .bool v2.mor, .bool v2.mas, .int .i64 v2.seq, .slice v2.heads.a v2.heads.n v2.heads.c, .slice v2.wants.a v2.wants.n v2.wants.c, .slice v2.lsas.a v2.lsas.n v2.lsas.c, .slice v2.acks.a v2.acks.n v2.acks.c] 31)).heap.size := by simp
  unfold maxLen at hn
  clear h1 h2 hn1 hn2
  go_enter Tryz.func40, Tryz.ntmps40
  go_upto_region 1 with fail
  generalize (w.alloc (.cells #[.int .i64 v.kind, .int .i64 v.sender, .int .i64 v.every, .int .i64 v.dead, .int .i64 v.prio, .int .i64 v.dr, .int .i64 v.bdr, .slice v.seen.a v.seen.n v.seen.c, .bool v.ini, .bool v.mor, .bool v.mas, .int .i64 v.seq, .slice v.heads.a v.heads.n v.heads.c, .slice v.wants.a v.wants.n v.wants.c, .slice v.lsas.a v.lsas.n v.lsas.c, .slice v.acks.a v.acks.n v.acks.c] 31)).alloc (.cells #[.int .i64 v2.kind, .int .i64 v2.sender, .int .i64 v2.every, .int .i64 v2.dead, .int .i64 v2.prio, .int .i64 v2.dr, .int .i64 v2.bdr, .slice v2.seen.a v2.seen.n v2.seen.c, .bool v2.ini, .bool v2.mor, .bool v2.mas, .int .i64 v2.seq, .slice v2.heads.a v2.heads.n v2.heads.c, .slice v2.wants.a v2.wants.n v2.wants.c, .slice v2.lsas.a v2.lsas.n v2.lsas.c, .slice v2.acks.a v2.acks.n v2.acks.c] 31) = w0 at *
  have hl1 := K1.out.lt
  have hl2 := K2.out.lt
  go_wp2_with fail
  go_loopw [5] (fun i wr => ∃ k : Nat, k ≤ n ∧ i = .int .i64 k ∧ Hid (Below w0.heap.size w0 wr)) (fun i _ => n - (intOf i).toNat)
  case atStart => exact ⟨0, Nat.zero_le _, rfl, Lib.hid (Below.refl _ _)⟩
  case round =>
    obtain ⟨k, hk, rfl, hb⟩ := hrel
    have hszr := hb.out.size
    obtain ⟨a0, a1, a2, a3, a4, a5, a6, a7, a8, a9, a10, a11, a12, a13, a14, a15⟩ := (K1.out.below hb.out hl1).sixteen
    obtain ⟨b0, b1, b2, b3, b4, b5, b6, b7, b8, b9, b10, b11, b12, b13, b14, b15⟩ := (K2.out.below hb.out hl2).sixteen
    clear a0 a1 a2 a3 a4 a5 a6 a7 a8 a9 a10 a11 a12 a13 a15 b0 b1 b2 b3 b4 b5 b6 b7 b8 b9 b10 b11 b12 b13 b15
    rw [HNN.out.1] at a14
    rw [HNN.out.2] at b14
    by_cases hlt : k < n
    · obtain ⟨b, o, x, e9, hbb, hx, hat⟩ := Arr.at (HR.out.below (hb.out.mono (by omega))) hlt
      obtain ⟨b', o', y, e8, hbb', hy, hat'⟩ := Arr.at (HR'.out.below (hb.out.mono (by omega))) hlt
      obtain rfl : x = y := by rw [hx] at hy; exact Option.some.inj hy
      have E9 := Lib.hid e9
      clear e9
      rw [E9.out] at a14
      have E8 := Lib.hid e8
      clear e8
      rw [E8.out] at b14
      obtain ⟨⟨x0, x1, x2, x3, x4, x5, x6⟩, Ax, nx, cx, Ax', nx', cx', x7, x8, hLx, hMx, hnx, hnx'⟩ := hat
      obtain ⟨⟨y0, y1, y2, y3, y4, y5, y6⟩, Ay, ny, cy, Ay', ny', cy', y7, y8, hLy, hMy, hny, hny'⟩ := hat'
      obtain rfl : nx = ny := hLx.1.symm.trans hLy.1
      obtain rfl : nx' = ny' := hMx.1.symm.trans hMy.1
      have HLx := Lib.hid hLx
      have HMx := Lib.hid hMx
      have HLy := Lib.hid hLy
      have HMy := Lib.hid hMy
      have HNx := Lib.hid hnx
      have HNx' := Lib.hid hnx'
      have HBr := Lib.hid (show B ≤ wr.heap.size ∧ B2 ≤ wr.heap.size by omega)
      have BR := (Below.refl wr.heap.size wr)
      clear hx hy hLx hMx hLy hMy hny hny' hnx hnx'
      have hlt' : (k : Int) < n := by omega
      have p1 : w.heap.size < wr.heap.size := by omega
      have p2 : w.heap.size + 1 < wr.heap.size := by omega
      have p3 : b < wr.heap.size := by omega
      have p4 : b' < wr.heap.size := by omega
      have BF := Lib.hid (B0.out.trans (hb.out.mono B0.out.size))
      go_wp2_with fail
      go_region_held3 (fun w' => Below wr.heap.size wr w' ∧ (∀ b o, b < wr.heap.size → w'.cell? ⟨b, o, none⟩ = wr.cell? ⟨b, o, none⟩)) ((refine keepW ?_; first | with_reducible exact hB2q | with_reducible exact BR | with_reducible exact ⟨rfl, rfl, rfl, Nat.le_refl _, fun _ _ => rfl⟩))
        ((go_at_call 73; refine (refSame_yes x.h x.L x.M Ax Ax' Ay Ay' nx cx nx' cx' cy cy' B B2 _ (HLx.out.below (Below.mono (And.left ‹_›) HBr.out.1)) (HMx.out.below (Below.mono (And.left ‹_›) HBr.out.1)) (HLy.out.below (Below.mono (And.left ‹_›) HBr.out.2)) (HMy.out.below (Below.mono (And.left ‹_›) HBr.out.2)) (Nat.le_trans HBr.out.1 (Below.size (And.left ‹_›))) (Nat.le_trans HBr.out.2 (Below.size (And.left ‹_›))) HNx.out HNx'.out).mono ?_; rintro ea wa ⟨rfl, hba⟩; have hB2q := Below.trans (And.left ‹_›) (hba.mono (Below.size (And.left ‹_›)))))
      have HB3 := Lib.hid (hb.out.trans (hB2q.mono hszr))
      go_wp2
      go_roundw
      case rel => exact ⟨k + 1, by omega, by go_num, HB3⟩
      case measure => simp [intOf]; omega
    · go_wp2
      go_ret
      exact ⟨rfl, B0.out.trans (hb.out.mono (by omega))⟩

end Go.Proofs.YtekhgkkgmkodmaaGreat
