/- The reference of packets: Same, of two that have the same parts. Conditions: the lists read as such. -/
import Derived.Test.YtekhgkkgmkodmaaGreatRi
import Derived.Test.YtekhgkkgmkodmaaGreatRi2
import Derived.Test.YtekhgkkgmkodmaaGreatLd
namespace Go.Proofs.YtekhgkkgmkodmaaGreat
open Go.RowKit

set_option maxRecDepth 8000 in
set_option maxHeartbeats 8000000 in
theorem r5Same_core (kd sd : Int) (c2 c3 c4 c5 c6 c7 c8 c9 c10 c11 c12 c13 c14 c15 d2 d3 d4 d5 d6 d7 d8 d9 d10 d11 d12 d13 d14 d15 : Value) (P : List Int) (n : Nat) (hn : n ≤ maxLen) (w : World)
    (hr1 : ∀ W, Below w.heap.size w W → Calls Tryz.prog 7 #[.agg #[.int .i64 kd, .int .i64 sd, c2, c3, c4, c5, c6, c7, c8, c9, c10, c11, c12, c13, c14, c15]] W fun x w' => x = .returned (.bool true) ∧ Below W.heap.size W w')
    (hr2 : ∀ W, Below w.heap.size w W → Calls Tryz.prog 7 #[.agg #[.int .i64 kd, .int .i64 sd, d2, d3, d4, d5, d6, d7, d8, d9, d10, d11, d12, d13, d14, d15]] W fun x w' => x = .returned (.bool true) ∧ Below W.heap.size W w')
    (hb1 : ∀ W, Below w.heap.size w W → Calls Tryz.prog 11 #[.agg #[.int .i64 kd, .int .i64 sd, c2, c3, c4, c5, c6, c7, c8, c9, c10, c11, c12, c13, c14, c15]] W (BtsR W P n))
    (hb2 : ∀ W, Below w.heap.size w W → Calls Tryz.prog 11 #[.agg #[.int .i64 kd, .int .i64 sd, d2, d3, d4, d5, d6, d7, d8, d9, d10, d11, d12, d13, d14, d15]] W (BtsR W P n))
    (ha : ∀ W, Below w.heap.size w W → Calls Tryz.prog 40 #[.agg #[.int .i64 kd, .int .i64 sd, c2, c3, c4, c5, c6, c7, c8, c9, c10, c11, c12, c13, c14, c15], .agg #[.int .i64 kd, .int .i64 sd, d2, d3, d4, d5, d6, d7, d8, d9, d10, d11, d12, d13, d14, d15]] W fun x w' => x = .returned (.bool true) ∧ Below W.heap.size W w') :
    Calls Tryz.prog 12 #[.agg #[.int .i64 kd, .int .i64 sd, c2, c3, c4, c5, c6, c7, c8, c9, c10, c11, c12, c13, c14, c15], .agg #[.int .i64 kd, .int .i64 sd, d2, d3, d4, d5, d6, d7, d8, d9, d10, d11, d12, d13, d14, d15]] w fun x w' => x = .returned (.bool true) ∧ Below w.heap.size w w' := by
  have K1 := Lib.hid ((Blk.new w 31 #[.int .i64 kd, .int .i64 sd, c2, c3, c4, c5, c6, c7, c8, c9, c10, c11, c12, c13, c14, c15]).alloc (.cells #[.int .i64 kd, .int .i64 sd, d2, d3, d4, d5, d6, d7, d8, d9, d10, d11, d12, d13, d14, d15] 31))
  have K2 := Lib.hid (blk_new1 w (.cells #[.int .i64 kd, .int .i64 sd, c2, c3, c4, c5, c6, c7, c8, c9, c10, c11, c12, c13, c14, c15] 31) 31 #[.int .i64 kd, .int .i64 sd, d2, d3, d4, d5, d6, d7, d8, d9, d10, d11, d12, d13, d14, d15])
  have B0 := Lib.hid (((Below.refl w.heap.size w).alloc (Nat.le_refl _) (.cells #[.int .i64 kd, .int .i64 sd, c2, c3, c4, c5, c6, c7, c8, c9, c10, c11, c12, c13, c14, c15] 31)).alloc (by simp) (.cells #[.int .i64 kd, .int .i64 sd, d2, d3, d4, d5, d6, d7, d8, d9, d10, d11, d12, d13, d14, d15] 31))
  have HR1 := Lib.hid hr1
  have HR2 := Lib.hid hr2
  have HB1 := Lib.hid hb1
  have HB2 := Lib.hid hb2
  have HA := Lib.hid ha
  have HN := Lib.hid hn
  have hsz : w.heap.size + 2 = ((w.alloc (.cells #[.int .i64 kd, .int .i64 sd, c2, c3, c4, c5, c6, c7, c8, c9, c10, c11, c12, c13, c14, c15] 31)).alloc (.cells #[.int .i64 kd, .int .i64 sd, d2, d3, d4, d5, d6, d7, d8, d9, d10, d11, d12, d13, d14, d15] 31)).heap.size := by simp
  clear hr1 hr2 hb1 hb2 ha hn
  go_enter Tryz.func12, Tryz.ntmps12
  go_upto_region 1 with fail
  generalize (w.alloc (.cells #[.int .i64 kd, .int .i64 sd, c2, c3, c4, c5, c6, c7, c8, c9, c10, c11, c12, c13, c14, c15] 31)).alloc (.cells #[.int .i64 kd, .int .i64 sd, d2, d3, d4, d5, d6, d7, d8, d9, d10, d11, d12, d13, d14, d15] 31) = w0 at *
  have hl1 := K1.out.lt
  have hl2 := K2.out.lt
  have hs0 := B0.out.size
  go_wp2_with (refine wpList_load_pkt (by rfl) (.tmp 2) rfl (by rfl) K1.out ?_)
  refine (HR1.out _ B0.out).mono ?_
  rintro e1 w1 ⟨rfl, hb1⟩
  have D1 := Lib.hid hb1
  clear hb1
  have hq1 := D1.out.size
  go_wp2_with (refine wpList_load_pkt (by rfl) (.tmp 3) rfl (by rfl) (K2.out.below D1.out hl2) ?_)
  refine (HR2.out _ (B0.out.trans (D1.out.mono hs0))).mono ?_
  rintro e2 w2 ⟨rfl, hb2⟩
  have D2 := Lib.hid (D1.out.trans (hb2.mono hq1))
  clear hb2 D1
  obtain ⟨b0, b1, b2, b3, b4, b5, b6, b7, b8, b9, b10, b11, b12, b13, b14, b15⟩ := (K2.out.below D2.out hl2).sixteen
  obtain ⟨a0, a1, a2, a3, a4, a5, a6, a7, a8, a9, a10, a11, a12, a13, a14, a15⟩ := (K1.out.below D2.out hl1).sixteen
  have hq2 := D2.out.size
  go_upto_region 6 with fail
  have BF := Lib.hid (B0.out.trans (D2.out.mono hs0))
  have hz2 : w.heap.size ≤ w2.heap.size := by omega
  have X1 := Lib.hid (K1.out.below D2.out hl1)
  have X2 := Lib.hid (K2.out.below D2.out hl2)
  clear a0 a1 a2 a3 a4 a5 a6 a7 a8 a9 a10 a11 a12 a13 a14 a15 b0 b1 b2 b3 b4 b5 b6 b7 b8 b9 b10 b11 b12 b13 b14 b15 K1 K2 B0 D2 HR1 HR2 hl1 hl2 hs0 hq1 hq2 hsz
  refine r5Same_last kd sd c2 c3 c4 c5 c6 c7 c8 c9 c10 c11 c12 c13 c14 c15 d2 d3 d4 d5 d6 d7 d8 d9 d10 d11 d12 d13 d14 d15 P n HN.out X1.out X2.out (fun W hW => HB1.out W (BF.out.trans (hW.mono hz2))) (fun W hW => HB2.out W (BF.out.trans (hW.mono hz2))) (fun W hW => HA.out W (BF.out.trans (hW.mono hz2))) ?_
  intro y40 y41 y42 y43 y44 y45 y46 y47 y48 y49 wF hF
  go_wp2
  go_ret
  exact ⟨rfl, BF.out.trans (hF.mono hz2)⟩
theorem r5Same_yes (v v2 : Pv) (l : Pl) (B B2 : Nat) (w : World) (h : PkIn w B v l) (h2 : PkIn w B2 v2 l) (hs : PkSm v) (hs2 : PkSm v2) (hB : B ≤ w.heap.size) (hB2 : B2 ≤ w.heap.size) (hr : rightP v l = true) (hr2 : rightP v2 l = true) (hn : SameN v2 v) :
    Calls Tryz.prog 12 #[.agg #[.int .i64 v.kind, .int .i64 v.sender, .int .i64 v.every, .int .i64 v.dead, .int .i64 v.prio, .int .i64 v.dr, .int .i64 v.bdr, .slice v.seen.a v.seen.n v.seen.c, .bool v.ini, .bool v.mor, .bool v.mas, .int .i64 v.seq, .slice v.heads.a v.heads.n v.heads.c, .slice v.wants.a v.wants.n v.wants.c, .slice v.lsas.a v.lsas.n v.lsas.c, .slice v.acks.a v.acks.n v.acks.c], .agg #[.int .i64 v2.kind, .int .i64 v2.sender, .int .i64 v2.every, .int .i64 v2.dead, .int .i64 v2.prio, .int .i64 v2.dr, .int .i64 v2.bdr, .slice v2.seen.a v2.seen.n v2.seen.c, .bool v2.ini, .bool v2.mor, .bool v2.mas, .int .i64 v2.seq, .slice v2.heads.a v2.heads.n v2.heads.c, .slice v2.wants.a v2.wants.n v2.wants.c, .slice v2.lsas.a v2.lsas.n v2.lsas.c, .slice v2.acks.a v2.acks.n v2.acks.c]] w fun x w' => x = .returned (.bool true) ∧ Below w.heap.size w w' := by
  obtain ⟨m, hm⟩ : ∃ m, (bodyBs v l).length = m := ⟨_, rfl⟩
  have hm2 : (bodyBs v2 l).length = m := by rw [same_body hn l]; exact hm
  have hm300 : m ≤ 300 := by have := (body_len (right_parts hr).2.2).1; omega
  have hl : v2.lsas.n = v.lsas.n := h2.2.2.2.1.1.symm.trans h.2.2.2.1.1
  have q1 : ∀ W, Below w.heap.size w W → Calls Tryz.prog 7 #[.agg #[.int .i64 v.kind, .int .i64 v.sender, .int .i64 v.every, .int .i64 v.dead, .int .i64 v.prio, .int .i64 v.dr, .int .i64 v.bdr, .slice v.seen.a v.seen.n v.seen.c, .bool v.ini, .bool v.mor, .bool v.mas, .int .i64 v.seq, .slice v.heads.a v.heads.n v.heads.c, .slice v.wants.a v.wants.n v.wants.c, .slice v.lsas.a v.lsas.n v.lsas.c, .slice v.acks.a v.acks.n v.acks.c]] W fun x w' => x = .returned (.bool true) ∧ Below W.heap.size W w' := fun W hb => by
    have := r5Right_any v l B W (h.below (hb.mono hB)) hs (Nat.le_trans hB hb.size)
    rw [hr] at this
    exact this
  have q2 : ∀ W, Below w.heap.size w W → Calls Tryz.prog 7 #[.agg #[.int .i64 v2.kind, .int .i64 v2.sender, .int .i64 v2.every, .int .i64 v2.dead, .int .i64 v2.prio, .int .i64 v2.dr, .int .i64 v2.bdr, .slice v2.seen.a v2.seen.n v2.seen.c, .bool v2.ini, .bool v2.mor, .bool v2.mas, .int .i64 v2.seq, .slice v2.heads.a v2.heads.n v2.heads.c, .slice v2.wants.a v2.wants.n v2.wants.c, .slice v2.lsas.a v2.lsas.n v2.lsas.c, .slice v2.acks.a v2.acks.n v2.acks.c]] W fun x w' => x = .returned (.bool true) ∧ Below W.heap.size W w' := fun W hb => by
    have := r5Right_any v2 l B2 W (h2.below (hb.mono hB2)) hs2 (Nat.le_trans hB2 hb.size)
    rw [hr2] at this
    exact this
  have q3 : ∀ W, Below w.heap.size w W → Calls Tryz.prog 11 #[.agg #[.int .i64 v.kind, .int .i64 v.sender, .int .i64 v.every, .int .i64 v.dead, .int .i64 v.prio, .int .i64 v.dr, .int .i64 v.bdr, .slice v.seen.a v.seen.n v.seen.c, .bool v.ini, .bool v.mor, .bool v.mas, .int .i64 v.seq, .slice v.heads.a v.heads.n v.heads.c, .slice v.wants.a v.wants.n v.wants.c, .slice v.lsas.a v.lsas.n v.lsas.c, .slice v.acks.a v.acks.n v.acks.c]] W (BtsR W (pktBytes v l) (24 + m)) := fun W hb =>
    r5Bytes_any v l B m W (h.below (hb.mono hB)) (Nat.le_trans hB hb.size) hr hm
  have q4 : ∀ W, Below w.heap.size w W → Calls Tryz.prog 11 #[.agg #[.int .i64 v2.kind, .int .i64 v2.sender, .int .i64 v2.every, .int .i64 v2.dead, .int .i64 v2.prio, .int .i64 v2.dr, .int .i64 v2.bdr, .slice v2.seen.a v2.seen.n v2.seen.c, .bool v2.ini, .bool v2.mor, .bool v2.mas, .int .i64 v2.seq, .slice v2.heads.a v2.heads.n v2.heads.c, .slice v2.wants.a v2.wants.n v2.wants.c, .slice v2.lsas.a v2.lsas.n v2.lsas.c, .slice v2.acks.a v2.acks.n v2.acks.c]] W (BtsR W (pktBytes v l) (24 + m)) := fun W hb => by
    have := r5Bytes_any v2 l B2 m W (h2.below (hb.mono hB2)) (Nat.le_trans hB2 hb.size) hr2 hm2
    rw [same_bytes hn l] at this
    exact this
  have q5 : ∀ W, Below w.heap.size w W → Calls Tryz.prog 40 #[.agg #[.int .i64 v.kind, .int .i64 v.sender, .int .i64 v.every, .int .i64 v.dead, .int .i64 v.prio, .int .i64 v.dr, .int .i64 v.bdr, .slice v.seen.a v.seen.n v.seen.c, .bool v.ini, .bool v.mor, .bool v.mas, .int .i64 v.seq, .slice v.heads.a v.heads.n v.heads.c, .slice v.wants.a v.wants.n v.wants.c, .slice v.lsas.a v.lsas.n v.lsas.c, .slice v.acks.a v.acks.n v.acks.c], .agg #[.int .i64 v2.kind, .int .i64 v2.sender, .int .i64 v2.every, .int .i64 v2.dead, .int .i64 v2.prio, .int .i64 v2.dr, .int .i64 v2.bdr, .slice v2.seen.a v2.seen.n v2.seen.c, .bool v2.ini, .bool v2.mor, .bool v2.mas, .int .i64 v2.seq, .slice v2.heads.a v2.heads.n v2.heads.c, .slice v2.wants.a v2.wants.n v2.wants.c, .slice v2.lsas.a v2.lsas.n v2.lsas.c, .slice v2.acks.a v2.acks.n v2.acks.c]] W fun x w' => x = .returned (.bool true) ∧ Below W.heap.size W w' := fun W hb =>
    r5Ages_yes v v2 B B2 v.lsas.n l.lsas W (h.below (hb.mono hB)).2.2.2.1 (by have := (h2.below (hb.mono hB2)).2.2.2.1; rw [hl] at this; exact this) rfl hl (Nat.le_trans hB hb.size) (Nat.le_trans hB2 hb.size) hs.2.2.2.1
  have e1 := hn.1
  have e2 := hn.2.1
  rw [e1, e2] at q2 q4 q5
  rw [e1, e2]
  exact r5Same_core v.kind v.sender _ _ _ _ _ _ _ _ _ _ _ _ _ _ _ _ _ _ _ _ _ _ _ _ _ _ _ _ (pktBytes v l) (24 + m) (by unfold maxLen; omega) w q1 q2 q3 q4 q5
end Go.Proofs.YtekhgkkgmkodmaaGreat
