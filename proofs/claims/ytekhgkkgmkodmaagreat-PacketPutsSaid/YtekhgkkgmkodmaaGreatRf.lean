/- The reference of packets: the bytes of what a packet has, of Hellos. Conditions: the packet is right. -/
import Derived.Test.YtekhgkkgmkodmaaGreatRf0
namespace Go.Proofs.YtekhgkkgmkodmaaGreat
open Go.RowKit

set_option maxRecDepth 8000 in
set_option maxHeartbeats 8000000 in
theorem r5Body_hello (v : Pv) (l : Pl) (B m : Nat) (w : World) (h : PkIn w B v l) (hB : B ≤ w.heap.size) (hr : rightP v l = true) (hk : v.kind = 1) (hm : (bodyBs v l).length = m) :
    Calls Tryz.prog 37 #[.agg #[.int .i64 1, .int .i64 v.sender, .int .i64 v.every, .int .i64 v.dead, .int .i64 v.prio, .int .i64 v.dr, .int .i64 v.bdr, .slice v.seen.a v.seen.n v.seen.c, .bool v.ini, .bool v.mor, .bool v.mas, .int .i64 v.seq, .slice v.heads.a v.heads.n v.heads.c, .slice v.wants.a v.wants.n v.wants.c, .slice v.lsas.a v.lsas.n v.lsas.c, .slice v.acks.a v.acks.n v.acks.c]] w (PutA w (bodyBs v l) m) := by
  generalize hQ : PutA w (bodyBs v l) m = Q
  have HQ := Lib.hid hQ
  have K0 := Lib.hid (Blk.new w 31 #[.int .i64 1, .int .i64 v.sender, .int .i64 v.every, .int .i64 v.dead, .int .i64 v.prio, .int .i64 v.dr, .int .i64 v.bdr, .slice v.seen.a v.seen.n v.seen.c, .bool v.ini, .bool v.mor, .bool v.mas, .int .i64 v.seq, .slice v.heads.a v.heads.n v.heads.c, .slice v.wants.a v.wants.n v.wants.c, .slice v.lsas.a v.lsas.n v.lsas.c, .slice v.acks.a v.acks.n v.acks.c])
  have B0 := Lib.hid ((Below.refl w.heap.size w).alloc (Nat.le_refl _) (.cells #[.int .i64 1, .int .i64 v.sender, .int .i64 v.every, .int .i64 v.dead, .int .i64 v.prio, .int .i64 v.dr, .int .i64 v.bdr, .slice v.seen.a v.seen.n v.seen.c, .bool v.ini, .bool v.mor, .bool v.mas, .int .i64 v.seq, .slice v.heads.a v.heads.n v.heads.c, .slice v.wants.a v.wants.n v.wants.c, .slice v.lsas.a v.lsas.n v.lsas.c, .slice v.acks.a v.acks.n v.acks.c] 31))
  have HP := Lib.hid (h.below (B0.out.mono hB))
  have N1 := Lib.hid (show l.seen.length = v.seen.n from h.1.1)
  have N2 := Lib.hid (show l.heads.length = v.heads.n from h.2.1.1)
  have N3 := Lib.hid (show l.wants.length = v.wants.n from h.2.2.1.1)
  have N4 := Lib.hid (show l.lsas.length = v.lsas.n from h.2.2.2.1.1)
  have N5 := Lib.hid (show l.acks.length = v.acks.n from h.2.2.2.2.1)
  have HK := Lib.hid hk
  have Hm := Lib.hid hm
  have HRT := Lib.hid hr
  have hq := (right_parts hr).2.2
  unfold partB at hq
  rw [if_pos hk] at hq
  have hlen := hello_len hq
  have HV := Lib.hid (show bodyBs v l = helloBs v.every v.dead v.prio v.dr v.bdr l.seen by unfold bodyBs; rw [if_pos hk])
  have hn15 : v.seen.n ≤ 15 := by have := h.1.1; omega
  have hm16 : m = 16 + v.seen.n * 4 := by
    have h1 := h.1.1
    rw [← hm, HV.out]
    simp only [helloBs, List.length_append, enc_length, encs_length]
    omega
  clear hq hlen
  have hs0 : B ≤ (w.alloc (.cells #[.int .i64 1, .int .i64 v.sender, .int .i64 v.every, .int .i64 v.dead, .int .i64 v.prio, .int .i64 v.dr, .int .i64 v.bdr, .slice v.seen.a v.seen.n v.seen.c, .bool v.ini, .bool v.mor, .bool v.mas, .int .i64 v.seq, .slice v.heads.a v.heads.n v.heads.c, .slice v.wants.a v.wants.n v.wants.c, .slice v.lsas.a v.lsas.n v.lsas.c, .slice v.acks.a v.acks.n v.acks.c] 31)).heap.size := by simp; omega
  have hz0 : w.heap.size ≤ (w.alloc (.cells #[.int .i64 1, .int .i64 v.sender, .int .i64 v.every, .int .i64 v.dead, .int .i64 v.prio, .int .i64 v.dr, .int .i64 v.bdr, .slice v.seen.a v.seen.n v.seen.c, .bool v.ini, .bool v.mor, .bool v.mas, .int .i64 v.seq, .slice v.heads.a v.heads.n v.heads.c, .slice v.wants.a v.wants.n v.wants.c, .slice v.lsas.a v.lsas.n v.lsas.c, .slice v.acks.a v.acks.n v.acks.c] 31)).heap.size := by simp
  clear h hk hr hm hQ
  go_enter Tryz.func37, Tryz.ntmps37
  go_upto_region 1 with fail
  have hlt0 := K0.out.lt
  generalize w.alloc (.cells #[.int .i64 1, .int .i64 v.sender, .int .i64 v.every, .int .i64 v.dead, .int .i64 v.prio, .int .i64 v.dr, .int .i64 v.bdr, .slice v.seen.a v.seen.n v.seen.c, .bool v.ini, .bool v.mor, .bool v.mas, .int .i64 v.seq, .slice v.heads.a v.heads.n v.heads.c, .slice v.wants.a v.wants.n v.wants.c, .slice v.lsas.a v.lsas.n v.lsas.c, .slice v.acks.a v.acks.n v.acks.c] 31) = w0 at *
  obtain ⟨a0, a1, a2, a3, a4, a5, a6, a7, a8, a9, a10, a11, a12, a13, a14, a15⟩ := K0.out.sixteen
  have KH := Lib.hid (Blk.new w0 24 #[.int .i64 v.every, .int .i64 v.dead, .int .i64 v.prio, .int .i64 v.dr, .int .i64 v.bdr, .slice v.seen.a v.seen.n v.seen.c])
  have B1 := Lib.hid (B0.out.alloc hz0 (.cells #[.int .i64 v.every, .int .i64 v.dead, .int .i64 v.prio, .int .i64 v.dr, .int .i64 v.bdr, .slice v.seen.a v.seen.n v.seen.c] 24))
  have HSN := Lib.hid (HP.out.1.alloc hs0 (.cells #[.int .i64 v.every, .int .i64 v.dead, .int .i64 v.prio, .int .i64 v.dr, .int .i64 v.bdr, .slice v.seen.a v.seen.n v.seen.c] 24))
  have hs1 : B ≤ (w0.alloc (.cells #[.int .i64 v.every, .int .i64 v.dead, .int .i64 v.prio, .int .i64 v.dr, .int .i64 v.bdr, .slice v.seen.a v.seen.n v.seen.c] 24)).heap.size := by simp; omega
  go_upto_region 4 with fail
  have hlt1 := KH.out.lt
  generalize w0.alloc (.cells #[.int .i64 v.every, .int .i64 v.dead, .int .i64 v.prio, .int .i64 v.dr, .int .i64 v.bdr, .slice v.seen.a v.seen.n v.seen.c] 24) = w1 at *
  clear a0 a1 a2 a3 a4 a5 a6 a7 a8 a9 a10 a11 a12 a13 a14 a15 HP K0 B0 hlt0
  obtain ⟨k0, k1, k2, k3, k4, k5⟩ := KH.out.six
  have C0 := Lib.hid (Acc.nil (Below.refl w1.heap.size w1))
  go_wp2_with fail
  refine (r5Put_acc w1 _ 0 2 2 v.every 2 [] _ C0.out rfl rfl (by omega)).mono ?_
  rintro e2 w2 ⟨v2, rfl, ha2⟩
  have C2 := Lib.hid ha2
  clear ha2 k0 k1 k2 k3 k4 k5
  obtain ⟨k0, k1, k2, k3, k4, k5⟩ := (C2.out.blk KH.out).six
  go_upto_region 6 with (at_builtin; refine wpList_append_acc rfl (.tmp 18) (.tmp 22) rfl w1 v2 2 _ (by rfl) (by exact C2.out.alloc _) _ _ 2 2 [0, v.prio % 256] (by rfl) (by exact row_at w2 [0, v.prio % 256] 5 .u8 _ _ rfl rfl) 4 (by rfl) (by omega) ?_; intro v3 w3 ha3)
  clear k0 k1 k2 k3 k4 k5
  obtain ⟨k0, k1, k2, k3, k4, k5⟩ := (ha3.out.blk KH.out).six
  go_wp2_with fail
  refine (r5Put_acc w1 _ 4 4 8 v.dead 4 _ _ ha3.out rfl rfl (by omega)).mono ?_
  rintro e4 w4 ⟨v4, rfl, ha4⟩
  have C4 := Lib.hid ha4
  clear ha4 k0 k1 k2 k3 k4 k5
  obtain ⟨k0, k1, k2, k3, k4, k5⟩ := (C4.out.blk KH.out).six
  go_wp2_with fail
  refine (r5Put_acc w1 _ 8 4 12 v.dr 4 _ _ C4.out rfl rfl (by omega)).mono ?_
  rintro e5 w5 ⟨v5, rfl, ha5⟩
  have C5 := Lib.hid ha5
  clear ha5 k0 k1 k2 k3 k4 k5
  obtain ⟨k0, k1, k2, k3, k4, k5⟩ := (C5.out.blk KH.out).six
  go_wp2_with fail
  refine (r5Put_acc w1 _ 12 4 16 v.bdr 4 _ _ C5.out rfl rfl (by omega)).mono ?_
  rintro e6 w6 ⟨v6, rfl, ha6⟩
  have C6 := Lib.hid ha6
  clear ha6 k0 k1 k2 k3 k4 k5
  obtain ⟨k0, k1, k2, k3, k4, k5⟩ := (C6.out.blk KH.out).six
  have HH := Lib.hid (show helloBs v.every v.dead v.prio v.dr v.bdr l.seen = ([] ++ enc v.every 2 ++ [0, v.prio % 256] ++ enc v.dead 4 ++ enc v.dr 4 ++ enc v.bdr 4) ++ encs 4 l.seen by simp [helloBs, enc_one])
  generalize ([] ++ enc v.every 2 ++ [0, v.prio % 256] ++ enc v.dead 4 ++ enc v.dr 4 ++ enc v.bdr 4) = L0 at *
  go_wp2_with fail
  clear k0 k1 k2 k3 k4 k5
  go_loopw [3, 5] (fun b i wr => ∃ k : Nat, k ≤ v.seen.n ∧ i = .int .i64 k ∧ Hid (Acc w1 wr b (16 + k * 4) (L0 ++ encs 4 (l.seen.take k)))) (fun _ i _ => v.seen.n - (intOf i).toNat)
  case atStart => exact ⟨0, Nat.zero_le _, rfl, Lib.hid (by simpa [encs] using C6.out)⟩
  case round =>
    clear C6
    obtain ⟨k, hk, rfl, ha⟩ := hrel
    obtain ⟨k0, k1, k2, k3, k4, k5⟩ := (ha.out.blk KH.out).six
    clear k0 k1 k2 k3 k4
    by_cases hlt : k < v.seen.n
    · obtain ⟨b, o, e9, hbb, hc⟩ := (HSN.out.below (ha.out.2.mono hs1)).2 (by omega)
      have E9 := Lib.hid e9
      clear e9
      rw [E9.out] at k5
      have c0 := hc k hlt
      clear hc
      have HSC := Lib.hid (encs_snoc 4 l.seen k (by rw [N1.out]; exact hlt))
      generalize l.seen.getD k 0 = y at *
      go_wp2_with fail
      refine (r5Put_acc w1 _ (16 + k * 4) 4 (16 + (k + 1) * 4) y 4 _ _ ha.out rfl (by omega) (by omega)).mono ?_
      rintro e7 w7 ⟨v7, rfl, ha7⟩
      rw [List.append_assoc, ← HSC.out] at ha7
      have C7 := Lib.hid ha7
      clear ha7
      go_wp2_with fail
      go_roundw
      case rel => exact ⟨k + 1, by omega, by go_num, C7⟩
      case measure => simp [intOf]; omega
    · obtain rfl : k = v.seen.n := by omega
      have h1 := ha.out
      rw [List.take_of_length_le (by rw [N1.out]; omega), ← HH.out, ← HV.out, ← hm16] at h1
      have H1 := Lib.hid (h1.lower B1.out)
      clear h1
      go_wp2
      rw [← HQ.out]
      exact ⟨_, rfl, H1.out⟩

end Go.Proofs.YtekhgkkgmkodmaaGreat
