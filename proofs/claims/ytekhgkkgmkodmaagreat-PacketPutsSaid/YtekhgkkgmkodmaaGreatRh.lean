/- The reference of packets: a packet's bytes. Conditions: the packet is right. -/
import Derived.Test.YtekhgkkgmkodmaaGreatRg5
import Derived.Test.YtekhgkkgmkodmaaGreatJbf
namespace Go.Proofs.YtekhgkkgmkodmaaGreat
open Go.RowKit

/-- Bytes written out are a row of the call's own. -/
theorem acc_lit (w : World) (zs : List Int) (n : Nat) (hn : zs.length = n) (hle : n ≤ maxLen) : Acc w (w.alloc (.cells (zs.map (Value.int .u8)).toArray 5)) (.slice (some ⟨w.heap.size, 0, none⟩) n n) n zs := by
  refine ⟨⟨by simp [hn], .inr ⟨w.heap.size, n, (zs.map (Value.int .u8)).toArray, rfl, Nat.le_refl _, heap_alloc_new w _, Nat.le_refl _, hle, by simp [hn], ?_⟩⟩, (Below.refl _ _).alloc (Nat.le_refl _) _⟩
  rw [Nat.mul_one]
  exact List.take_of_length_le (by simp [hn])
/-- What Bytes answers. -/
def BtsR (w : World) (L : List Int) (n : Nat) (x : Ending) (w' : World) : Prop := ∃ A c, x = .returned (.slice A n c) ∧ Row .u8 w' w'.heap.size A n L ∧ Below w.heap.size w w'
theorem six16 : ([0, 0, 0, 0, 0, 0, 0, 0, 0, 0, 0, 0, 0, 0, 0, 0] : List Int) = enc 0 4 ++ (enc 0 2 ++ (enc 0 2 ++ (enc 0 4 ++ enc 0 4))) := by decide

set_option maxRecDepth 8000 in
set_option maxHeartbeats 8000000 in
theorem r5Bytes_any (v : Pv) (l : Pl) (B m : Nat) (w : World) (h : PkIn w B v l) (hB : B ≤ w.heap.size) (hr : rightP v l = true) (hm : (bodyBs v l).length = m) :
    Calls Tryz.prog 11 #[.agg #[.int .i64 v.kind, .int .i64 v.sender, .int .i64 v.every, .int .i64 v.dead, .int .i64 v.prio, .int .i64 v.dr, .int .i64 v.bdr, .slice v.seen.a v.seen.n v.seen.c, .bool v.ini, .bool v.mor, .bool v.mas, .int .i64 v.seq, .slice v.heads.a v.heads.n v.heads.c, .slice v.wants.a v.wants.n v.wants.c, .slice v.lsas.a v.lsas.n v.lsas.c, .slice v.acks.a v.acks.n v.acks.c]] w (BtsR w (pktBytes v l) (24 + m)) := by
  generalize hQ : BtsR w (pktBytes v l) (24 + m) = Q
  have HQ := Lib.hid hQ
  have K0 := Lib.hid (Blk.new w 31 #[.int .i64 v.kind, .int .i64 v.sender, .int .i64 v.every, .int .i64 v.dead, .int .i64 v.prio, .int .i64 v.dr, .int .i64 v.bdr, .slice v.seen.a v.seen.n v.seen.c, .bool v.ini, .bool v.mor, .bool v.mas, .int .i64 v.seq, .slice v.heads.a v.heads.n v.heads.c, .slice v.wants.a v.wants.n v.wants.c, .slice v.lsas.a v.lsas.n v.lsas.c, .slice v.acks.a v.acks.n v.acks.c])
  have B0 := Lib.hid ((Below.refl w.heap.size w).alloc (Nat.le_refl _) (.cells #[.int .i64 v.kind, .int .i64 v.sender, .int .i64 v.every, .int .i64 v.dead, .int .i64 v.prio, .int .i64 v.dr, .int .i64 v.bdr, .slice v.seen.a v.seen.n v.seen.c, .bool v.ini, .bool v.mor, .bool v.mas, .int .i64 v.seq, .slice v.heads.a v.heads.n v.heads.c, .slice v.wants.a v.wants.n v.wants.c, .slice v.lsas.a v.lsas.n v.lsas.c, .slice v.acks.a v.acks.n v.acks.c] 31))
  have HP := Lib.hid (h.below (B0.out.mono hB))
  have HR := Lib.hid hr
  have Hm := Lib.hid hm
  have hm2 := body_len (right_parts hr).2.2
  rw [hm] at hm2
  obtain ⟨hm300, hmev⟩ := hm2
  have HEV := Lib.hid hmev
  have HT := Lib.hid (show headP v m ++ bodyBs v l = pktBs v l by unfold pktBs; rw [hm])
  have HH := Lib.hid (show [2, v.kind % 256] ++ enc (24 + (m : Int)) 2 ++ enc v.sender 4 ++ [0, 0, 0, 0, 0, 0, 0, 0, 0, 0, 0, 0, 0, 0, 0, 0] = headP v m by
    rw [six16]
    unfold headP
    simp [enc_one])
  have hs0 : B ≤ (w.alloc (.cells #[.int .i64 v.kind, .int .i64 v.sender, .int .i64 v.every, .int .i64 v.dead, .int .i64 v.prio, .int .i64 v.dr, .int .i64 v.bdr, .slice v.seen.a v.seen.n v.seen.c, .bool v.ini, .bool v.mor, .bool v.mas, .int .i64 v.seq, .slice v.heads.a v.heads.n v.heads.c, .slice v.wants.a v.wants.n v.wants.c, .slice v.lsas.a v.lsas.n v.lsas.c, .slice v.acks.a v.acks.n v.acks.c] 31)).heap.size := by simp; omega
  have hz0 : w.heap.size ≤ (w.alloc (.cells #[.int .i64 v.kind, .int .i64 v.sender, .int .i64 v.every, .int .i64 v.dead, .int .i64 v.prio, .int .i64 v.dr, .int .i64 v.bdr, .slice v.seen.a v.seen.n v.seen.c, .bool v.ini, .bool v.mor, .bool v.mas, .int .i64 v.seq, .slice v.heads.a v.heads.n v.heads.c, .slice v.wants.a v.wants.n v.wants.c, .slice v.lsas.a v.lsas.n v.lsas.c, .slice v.acks.a v.acks.n v.acks.c] 31)).heap.size := by simp
  clear h hr hm hQ hmev
  go_enter Tryz.func11, Tryz.ntmps11
  go_upto_region 1 with fail
  have hlt0 := K0.out.lt
  generalize w.alloc (.cells #[.int .i64 v.kind, .int .i64 v.sender, .int .i64 v.every, .int .i64 v.dead, .int .i64 v.prio, .int .i64 v.dr, .int .i64 v.bdr, .slice v.seen.a v.seen.n v.seen.c, .bool v.ini, .bool v.mor, .bool v.mas, .int .i64 v.seq, .slice v.heads.a v.heads.n v.heads.c, .slice v.wants.a v.wants.n v.wants.c, .slice v.lsas.a v.lsas.n v.lsas.c, .slice v.acks.a v.acks.n v.acks.c] 31) = w0 at *
  obtain ⟨a0, a1, a2, a3, a4, a5, a6, a7, a8, a9, a10, a11, a12, a13, a14, a15⟩ := K0.out.sixteen
  go_wp2_with fail
  refine (r5Body_any v l B m _ HP.out hs0 HR.out Hm.out).mono ?_
  rintro e1 w1 ⟨v1, rfl, ha1⟩
  obtain ⟨A1, c1, rfl, hc1, hm1, hr1⟩ := ha1.form
  have R1 := Lib.hid hr1
  have B1 := Lib.hid (B0.out.trans (ha1.2.mono hz0))
  have K1 := Lib.hid (K0.out.below ha1.2 hlt0)
  clear hr1 ha1 a0 a1 a2 a3 a4 a5 a6 a7 a8 a9 a10 a11 a12 a13 a14 a15 K0 B0 HP
  obtain ⟨a0, a1, a2, a3, a4, a5, a6, a7, a8, a9, a10, a11, a12, a13, a14, a15⟩ := K1.out.sixteen
  have hw : IntKind.i64.wrap (24 + (m : Int)) = 24 + (m : Int) := IntWalk.i64_in _ (by omega)
  have CL := Lib.hid (acc_lit w1 [2, v.kind % 256] 2 rfl (by unfold maxLen; omega))
  go_upto_region 3 with fail
  clear a0 a1 a2 a3 a4 a5 a6 a7 a8 a9 a10 a11 a12 a13 a14 a15
  go_wp2_with fail
  refine (r5Put_acc w1 _ 2 2 4 (24 + (m : Int)) 2 _ _ CL.out rfl rfl (by omega)).mono ?_
  rintro e3 w3 ⟨v3, rfl, ha3⟩
  have C3 := Lib.hid ha3
  clear ha3
  obtain ⟨a0, a1, a2, a3, a4, a5, a6, a7, a8, a9, a10, a11, a12, a13, a14, a15⟩ := (C3.out.blk K1.out).sixteen
  go_wp2_with fail
  refine (r5Put_acc w1 _ 4 4 8 v.sender 4 _ _ C3.out rfl rfl (by omega)).mono ?_
  rintro e4 w4 ⟨v4, rfl, ha4⟩
  have C4 := Lib.hid ha4
  clear ha4 a0 a1 a2 a3 a4 a5 a6 a7 a8 a9 a10 a11 a12 a13 a14 a15
  go_upto_region 6 with (at_builtin; refine wpList_append_acc rfl (.tmp 20) (.tmp 21) rfl w1 v4 8 _ (by rfl) (by exact C4.out.alloc _) _ _ 16 16 [0, 0, 0, 0, 0, 0, 0, 0, 0, 0, 0, 0, 0, 0, 0, 0] (by rfl) (by exact row_at w4 [0, 0, 0, 0, 0, 0, 0, 0, 0, 0, 0, 0, 0, 0, 0, 0] 5 .u8 _ _ rfl rfl) 24 (by rfl) (by omega) ?_; intro v5 w5 ha5)
  rw [HH.out] at ha5
  have R5 := Lib.hid ((R1.out.below ha5.out.2).more ha5.out.2.size)
  go_upto_region 7 with (at_builtin; refine wpList_append_acc rfl (.tmp 23) (.tmp 24) rfl w1 v5 24 _ (by rfl) (by exact ha5.out) _ A1 m c1 (bodyBs v l) (by rfl) (by exact R5.out) (24 + m) (by rfl) (by omega) ?_; intro v6 w6 ha6)
  rw [HT.out] at ha6
  obtain ⟨A6, c6, rfl, hc6, hm6, hr6⟩ := ha6.out.form
  have R6 := Lib.hid hr6
  have B6 := Lib.hid (B1.out.trans (ha6.out.2.mono B1.out.size))
  have hmod : (24 + (m : Int)) % 2 = 0 := by have := HEV.out; omega
  clear hr6 ha6 ha5 R5 R1 C4 CL
  go_wp2_with fail
  have hf := refFill_ok A6 (24 + m) c6 w6.heap.size 12 _ w6 R6.out (pktBs_byt v l) (by omega) (by omega)
  rw [show ((12 : Nat) : Int) = 12 from rfl] at hf
  refine hf.mono ?_
  clear hf
  rintro e7 w7 ⟨⟨A7, c7, rfl, hr7⟩, hb7⟩
  have R7 := Lib.hid hr7
  have B7 := Lib.hid (B6.out.trans (hb7.mono B6.out.size))
  clear hr7 hb7
  go_wp2
  rw [← HQ.out]
  exact ⟨_, _, rfl, R7.out, B7.out⟩
end Go.Proofs.YtekhgkkgmkodmaaGreat
