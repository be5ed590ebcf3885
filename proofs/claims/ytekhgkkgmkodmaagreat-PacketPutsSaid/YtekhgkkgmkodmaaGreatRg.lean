/- The reference of packets: the bytes of what a packet has, of wants and acknowledgements. Conditions: the packet is right. -/
import Derived.Test.YtekhgkkgmkodmaaGreatRf0
namespace Go.Proofs.YtekhgkkgmkodmaaGreat
open Go.RowKit

set_option maxRecDepth 8000 in
set_option maxHeartbeats 8000000 in
theorem r5Body_want (v : Pv) (l : Pl) (B m : Nat) (w : World) (h : PkIn w B v l) (hB : B ≤ w.heap.size) (hr : rightP v l = true) (hk : v.kind = 3) (hm : (bodyBs v l).length = m) :
    Calls Tryz.prog 37 #[.agg #[.int .i64 3, .int .i64 v.sender, .int .i64 v.every, .int .i64 v.dead, .int .i64 v.prio, .int .i64 v.dr, .int .i64 v.bdr, .slice v.seen.a v.seen.n v.seen.c, .bool v.ini, .bool v.mor, .bool v.mas, .int .i64 v.seq, .slice v.heads.a v.heads.n v.heads.c, .slice v.wants.a v.wants.n v.wants.c, .slice v.lsas.a v.lsas.n v.lsas.c, .slice v.acks.a v.acks.n v.acks.c]] w (PutA w (bodyBs v l) m) := by
  generalize hQ : PutA w (bodyBs v l) m = Q
  have HQ := Lib.hid hQ
  have K0 := Lib.hid (Blk.new w 31 #[.int .i64 3, .int .i64 v.sender, .int .i64 v.every, .int .i64 v.dead, .int .i64 v.prio, .int .i64 v.dr, .int .i64 v.bdr, .slice v.seen.a v.seen.n v.seen.c, .bool v.ini, .bool v.mor, .bool v.mas, .int .i64 v.seq, .slice v.heads.a v.heads.n v.heads.c, .slice v.wants.a v.wants.n v.wants.c, .slice v.lsas.a v.lsas.n v.lsas.c, .slice v.acks.a v.acks.n v.acks.c])
  have B0 := Lib.hid ((Below.refl w.heap.size w).alloc (Nat.le_refl _) (.cells #[.int .i64 3, .int .i64 v.sender, .int .i64 v.every, .int .i64 v.dead, .int .i64 v.prio, .int .i64 v.dr, .int .i64 v.bdr, .slice v.seen.a v.seen.n v.seen.c, .bool v.ini, .bool v.mor, .bool v.mas, .int .i64 v.seq, .slice v.heads.a v.heads.n v.heads.c, .slice v.wants.a v.wants.n v.wants.c, .slice v.lsas.a v.lsas.n v.lsas.c, .slice v.acks.a v.acks.n v.acks.c] 31))
  have HP := Lib.hid (h.below (B0.out.mono hB))
  have N1 := Lib.hid (show l.seen.length = v.seen.n from h.1.1)
  have N2 := Lib.hid (show l.heads.length = v.heads.n from h.2.1.1)
  have N3 := Lib.hid (show l.wants.length = v.wants.n from h.2.2.1.1)
  have N4 := Lib.hid (show l.lsas.length = v.lsas.n from h.2.2.2.1.1)
  have N5 := Lib.hid (show l.acks.length = v.acks.n from h.2.2.2.2.1)
  have HK := Lib.hid hk
  have Hm := Lib.hid hm
  have HRT := Lib.hid hr
  have hq := (right_parts hr).2.2
  unfold partB at hq
  rw [if_neg (by rw [hk]; decide), if_neg (by rw [hk]; decide), if_pos hk] at hq
  have hlen := piece_len hq
  have HV := Lib.hid (show bodyBs v l = keysBs l.wants by unfold bodyBs; rw [if_neg (by rw [hk]; decide), if_neg (by rw [hk]; decide), if_pos hk])
  have hn3 : v.wants.n ≤ 3 := by have := h.2.2.1.1; omega
  have hm12 : m = v.wants.n * 12 := by
    have h1 := h.2.2.1.1
    rw [← hm, HV.out, keysBs_length]
    omega
  have hz5 : v.acks.n = 0 := by
    have h1 := h.2.2.2.2.1
    have := (right_lens hr).2.2 (by rw [hk]; decide)
    omega
  have HZ5 := Lib.hid hz5
  clear hz5
  clear hq hlen
  have hs0 : B ≤ (w.alloc (.cells #[.int .i64 3, .int .i64 v.sender, .int .i64 v.every, .int .i64 v.dead, .int .i64 v.prio, .int .i64 v.dr, .int .i64 v.bdr, .slice v.seen.a v.seen.n v.seen.c, .bool v.ini, .bool v.mor, .bool v.mas, .int .i64 v.seq, .slice v.heads.a v.heads.n v.heads.c, .slice v.wants.a v.wants.n v.wants.c, .slice v.lsas.a v.lsas.n v.lsas.c, .slice v.acks.a v.acks.n v.acks.c] 31)).heap.size := by simp; omega
  have hz0 : w.heap.size ≤ (w.alloc (.cells #[.int .i64 3, .int .i64 v.sender, .int .i64 v.every, .int .i64 v.dead, .int .i64 v.prio, .int .i64 v.dr, .int .i64 v.bdr, .slice v.seen.a v.seen.n v.seen.c, .bool v.ini, .bool v.mor, .bool v.mas, .int .i64 v.seq, .slice v.heads.a v.heads.n v.heads.c, .slice v.wants.a v.wants.n v.wants.c, .slice v.lsas.a v.lsas.n v.lsas.c, .slice v.acks.a v.acks.n v.acks.c] 31)).heap.size := by simp
  clear h hk hr hm hQ
  go_enter Tryz.func37, Tryz.ntmps37
  go_upto_region 1 with fail
  have hlt0 := K0.out.lt
  generalize w.alloc (.cells #[.int .i64 3, .int .i64 v.sender, .int .i64 v.every, .int .i64 v.dead, .int .i64 v.prio, .int .i64 v.dr, .int .i64 v.bdr, .slice v.seen.a v.seen.n v.seen.c, .bool v.ini, .bool v.mor, .bool v.mas, .int .i64 v.seq, .slice v.heads.a v.heads.n v.heads.c, .slice v.wants.a v.wants.n v.wants.c, .slice v.lsas.a v.lsas.n v.lsas.c, .slice v.acks.a v.acks.n v.acks.c] 31) = w0 at *
  obtain ⟨a0, a1, a2, a3, a4, a5, a6, a7, a8, a9, a10, a11, a12, a13, a14, a15⟩ := K0.out.sixteen
  rw [HZ5.out] at a15
  go_wp2_with fail
  clear a0 a1 a2 a3 a4 a5 a6 a7 a8 a9 a10 a11 a12 a13 a14 a15
  go_loopw [3, 7] (fun b i wr => ∃ k : Nat, k ≤ v.wants.n ∧ i = .int .i64 k ∧ Hid (Acc w0 wr b (k * 12) (keysBs (l.wants.take k)))) (fun _ i _ => v.wants.n - (intOf i).toNat)
  case atStart => exact ⟨0, Nat.zero_le _, rfl, Lib.hid (Acc.nil (Below.refl _ _))⟩
  case round =>
    obtain ⟨k, hk, rfl, ha⟩ := hrel
    obtain ⟨a0, a1, a2, a3, a4, a5, a6, a7, a8, a9, a10, a11, a12, a13, a14, a15⟩ := (ha.out.blk K0.out).sixteen
    rw [HZ5.out] at a15
    clear a1 a2 a3 a4 a5 a6 a7 a8 a9 a10 a11 a12 a14
    have hszr := ha.out.2.size
    by_cases hlt : k < v.wants.n
    · obtain ⟨b, o, x, e9, hbb, hx, hat⟩ := Arr.at HP.out.2.2.1 hlt
      have E9 := Lib.hid e9
      clear e9
      rw [E9.out] at a13
      have HX := Lib.hid (show keysBs (l.wants.take (k + 1)) = keysBs (l.wants.take k) ++ enc x.kind 4 ++ enc x.id 4 ++ enc x.adv 4 by rw [take_snocA _ _ _ hx, keysBs_append]; simp [keysBs, keyBs])
      have HAT := Lib.hid hat
      obtain ⟨k0, k1, k2, -, -⟩ := HAT.out.move (B' := B) (fun q hq => ha.out.2.cell (by omega)) hbb
      clear hx hat a0 a15
      go_wp2_with fail
      refine (r5Put_acc w0 _ (k * 12) 4 (k * 12 + 4) x.kind 4 _ _ ha.out rfl (by omega) (by omega)).mono ?_
      rintro e2 w2 ⟨v2, rfl, ha2⟩
      have C2 := Lib.hid ha2
      clear ha2 k0 k1 k2 a13
      obtain ⟨k0, k1, k2, -, -⟩ := HAT.out.move (B' := B) (fun q hq => C2.out.2.cell (by omega)) hbb
      obtain ⟨a0, a1, a2, a3, a4, a5, a6, a7, a8, a9, a10, a11, a12, a13, a14, a15⟩ := (C2.out.blk K0.out).sixteen
      clear a0 a1 a2 a3 a4 a5 a6 a7 a8 a9 a10 a11 a12 a14 a15
      rw [E9.out] at a13
      go_wp2_with fail
      refine (r5Put_acc w0 _ (k * 12 + 4) 4 (k * 12 + 8) x.id 4 _ _ C2.out rfl (by omega) (by omega)).mono ?_
      rintro e3 w3 ⟨v3, rfl, ha3⟩
      have C3 := Lib.hid ha3
      clear ha3 k0 k1 k2 a13
      obtain ⟨k0, k1, k2, -, -⟩ := HAT.out.move (B' := B) (fun q hq => C3.out.2.cell (by omega)) hbb
      obtain ⟨a0, a1, a2, a3, a4, a5, a6, a7, a8, a9, a10, a11, a12, a13, a14, a15⟩ := (C3.out.blk K0.out).sixteen
      clear a0 a1 a2 a3 a4 a5 a6 a7 a8 a9 a10 a11 a12 a14 a15
      rw [E9.out] at a13
      go_wp2_with fail
      refine (r5Put_acc w0 _ (k * 12 + 8) 4 ((k + 1) * 12) x.adv 4 _ _ C3.out rfl (by omega) (by omega)).mono ?_
      rintro e4 w4 ⟨v4, rfl, ha4⟩
      have C4 := Lib.hid ha4
      clear ha4 k0 k1 k2 a13
      rw [← HX.out] at C4
      go_wp2_with fail
      go_roundw
      case rel => exact ⟨k + 1, by omega, by go_num, C4⟩
      case measure => simp [intOf]; omega
    · obtain rfl : k = v.wants.n := by omega
      have h1 := ha.out
      rw [List.take_of_length_le (by rw [N3.out]; omega)] at h1
      have H1 := Lib.hid h1
      clear h1 ha
      go_wp2_with fail
      refine (r5All_any v.acks.a 0 v.acks.c B [] _ Arr.nil (by omega) (by omega)).mono ?_
      rintro e8 w8 ⟨v8, rfl, ha8⟩
      obtain ⟨A8, c8, rfl, hc8, hm8, hr8⟩ := ha8.form
      have R8 := Lib.hid hr8
      have C8 := Lib.hid (H1.out.below ha8.2)
      clear hr8 ha8
      go_wp2_with (at_builtin; refine wpList_append_acc rfl (.tmp 138) (.tmp 141) rfl w0 _ (v.wants.n * 12) _ (by rfl) (by exact C8.out) _ A8 (0 * 20) c8 (headsBs []) (by rfl) (by exact R8.out) m (by omega) (by omega) ?_; intro v9 w9 ha9)
      rw [← HQ.out]
      have h9 := ha9.out.lower B0.out
      rw [show keysBs l.wants ++ headsBs [] = bodyBs v l by rw [HV.out]; simp [headsBs]] at h9
      exact ⟨_, rfl, h9⟩

set_option maxRecDepth 8000 in
set_option maxHeartbeats 8000000 in
theorem r5Body_ack (v : Pv) (l : Pl) (B m : Nat) (w : World) (h : PkIn w B v l) (hB : B ≤ w.heap.size) (hr : rightP v l = true) (hk : v.kind = 5) (hm : (bodyBs v l).length = m) :
    Calls Tryz.prog 37 #[.agg #[.int .i64 5, .int .i64 v.sender, .int .i64 v.every, .int .i64 v.dead, .int .i64 v.prio, .int .i64 v.dr, .int .i64 v.bdr, .slice v.seen.a v.seen.n v.seen.c, .bool v.ini, .bool v.mor, .bool v.mas, .int .i64 v.seq, .slice v.heads.a v.heads.n v.heads.c, .slice v.wants.a v.wants.n v.wants.c, .slice v.lsas.a v.lsas.n v.lsas.c, .slice v.acks.a v.acks.n v.acks.c]] w (PutA w (bodyBs v l) m) := by
  generalize hQ : PutA w (bodyBs v l) m = Q
  have HQ := Lib.hid hQ
  have K0 := Lib.hid (Blk.new w 31 #[.int .i64 5, .int .i64 v.sender, .int .i64 v.every, .int .i64 v.dead, .int .i64 v.prio, .int .i64 v.dr, .int .i64 v.bdr, .slice v.seen.a v.seen.n v.seen.c, .bool v.ini, .bool v.mor, .bool v.mas, .int .i64 v.seq, .slice v.heads.a v.heads.n v.heads.c, .slice v.wants.a v.wants.n v.wants.c, .slice v.lsas.a v.lsas.n v.lsas.c, .slice v.acks.a v.acks.n v.acks.c])
  have B0 := Lib.hid ((Below.refl w.heap.size w).alloc (Nat.le_refl _) (.cells #[.int .i64 5, .int .i64 v.sender, .int .i64 v.every, .int .i64 v.dead, .int .i64 v.prio, .int .i64 v.dr, .int .i64 v.bdr, .slice v.seen.a v.seen.n v.seen.c, .bool v.ini, .bool v.mor, .bool v.mas, .int .i64 v.seq, .slice v.heads.a v.heads.n v.heads.c, .slice v.wants.a v.wants.n v.wants.c, .slice v.lsas.a v.lsas.n v.lsas.c, .slice v.acks.a v.acks.n v.acks.c] 31))
  have HP := Lib.hid (h.below (B0.out.mono hB))
  have N1 := Lib.hid (show l.seen.length = v.seen.n from h.1.1)
  have N2 := Lib.hid (show l.heads.length = v.heads.n from h.2.1.1)
  have N3 := Lib.hid (show l.wants.length = v.wants.n from h.2.2.1.1)
  have N4 := Lib.hid (show l.lsas.length = v.lsas.n from h.2.2.2.1.1)
  have N5 := Lib.hid (show l.acks.length = v.acks.n from h.2.2.2.2.1)
  have HK := Lib.hid hk
  have Hm := Lib.hid hm
  have HRT := Lib.hid hr
  have hq := (right_parts hr).2.2
  unfold partB at hq
  rw [if_neg (by rw [hk]; decide), if_neg (by rw [hk]; decide), if_neg (by rw [hk]; decide), if_neg (by rw [hk]; decide), if_pos hk] at hq
  have hlen := piece_len hq
  have HV := Lib.hid (show bodyBs v l = headsBs l.acks by unfold bodyBs; rw [if_neg (by rw [hk]; decide), if_neg (by rw [hk]; decide), if_neg (by rw [hk]; decide), if_neg (by rw [hk]; decide)])
  have hn3 : v.acks.n ≤ 3 := by have := h.2.2.2.2.1; omega
  have hm20 : m = v.acks.n * 20 := by
    have h1 := h.2.2.2.2.1
    rw [← hm, HV.out, headsBs_length]
    omega
  have hz3 : v.wants.n = 0 := by
    have h1 := h.2.2.1.1
    have := (right_lens hr).1 (by rw [hk]; decide)
    omega
  have HZ3 := Lib.hid hz3
  clear hz3
  clear hq hlen
  have hs0 : B ≤ (w.alloc (.cells #[.int .i64 5, .int .i64 v.sender, .int .i64 v.every, .int .i64 v.dead, .int .i64 v.prio, .int .i64 v.dr, .int .i64 v.bdr, .slice v.seen.a v.seen.n v.seen.c, .bool v.ini, .bool v.mor, .bool v.mas, .int .i64 v.seq, .slice v.heads.a v.heads.n v.heads.c, .slice v.wants.a v.wants.n v.wants.c, .slice v.lsas.a v.lsas.n v.lsas.c, .slice v.acks.a v.acks.n v.acks.c] 31)).heap.size := by simp; omega
  have hz0 : w.heap.size ≤ (w.alloc (.cells #[.int .i64 5, .int .i64 v.sender, .int .i64 v.every, .int .i64 v.dead, .int .i64 v.prio, .int .i64 v.dr, .int .i64 v.bdr, .slice v.seen.a v.seen.n v.seen.c, .bool v.ini, .bool v.mor, .bool v.mas, .int .i64 v.seq, .slice v.heads.a v.heads.n v.heads.c, .slice v.wants.a v.wants.n v.wants.c, .slice v.lsas.a v.lsas.n v.lsas.c, .slice v.acks.a v.acks.n v.acks.c] 31)).heap.size := by simp
  clear h hk hr hm hQ
  go_enter Tryz.func37, Tryz.ntmps37
  go_upto_region 1 with fail
  have hlt0 := K0.out.lt
  generalize w.alloc (.cells #[.int .i64 5, .int .i64 v.sender, .int .i64 v.every, .int .i64 v.dead, .int .i64 v.prio, .int .i64 v.dr, .int .i64 v.bdr, .slice v.seen.a v.seen.n v.seen.c, .bool v.ini, .bool v.mor, .bool v.mas, .int .i64 v.seq, .slice v.heads.a v.heads.n v.heads.c, .slice v.wants.a v.wants.n v.wants.c, .slice v.lsas.a v.lsas.n v.lsas.c, .slice v.acks.a v.acks.n v.acks.c] 31) = w0 at *
  obtain ⟨a0, a1, a2, a3, a4, a5, a6, a7, a8, a9, a10, a11, a12, a13, a14, a15⟩ := K0.out.sixteen
  rw [HZ3.out] at a13
  go_wp2_with fail
  clear a0 a1 a2 a3 a4 a5 a6 a7 a8 a9 a10 a11 a12 a13 a14 a15
  go_loopw [3, 7] (fun b i wr => b = .slice none 0 0 ∧ i = .int .i64 0 ∧ wr = w0) (fun _ _ _ => 0)
  case atStart => exact ⟨rfl, rfl, rfl⟩
  case round =>
    obtain ⟨rfl, rfl, h9⟩ := hrel
    have h9' := h9.symm
    clear h9
    subst h9'
    obtain ⟨a0, a1, a2, a3, a4, a5, a6, a7, a8, a9, a10, a11, a12, a13, a14, a15⟩ := K0.out.sixteen
    rw [HZ3.out] at a13
    clear a1 a2 a3 a4 a5 a6 a7 a8 a9 a10 a11 a12 a14
    go_wp2_with fail
    refine (r5All_any v.acks.a v.acks.n v.acks.c B l.acks _ HP.out.2.2.2.2 (by omega) (by omega)).mono ?_
    rintro e8 w8 ⟨v8, rfl, ha8⟩
    obtain ⟨A8, c8, rfl, hc8, hm8, hr8⟩ := ha8.form
    have R8 := Lib.hid hr8
    have C8 := Lib.hid ((Acc.nil (Below.refl w0.heap.size w0)).below ha8.2)
    clear hr8 ha8 a0 a13 a15
    go_wp2_with (at_builtin; refine wpList_append_acc rfl (.tmp 138) (.tmp 141) rfl w0 (.slice none 0 0) 0 [] (by rfl) (by exact C8.out) _ A8 (v.acks.n * 20) c8 (headsBs l.acks) (by rfl) (by exact R8.out) m (by omega) (by omega) ?_; intro v9 w9 ha9)
    rw [← HQ.out]
    have h9 := ha9.out.lower B0.out
    rw [show [] ++ headsBs l.acks = bodyBs v l by rw [HV.out]; rfl] at h9
    exact ⟨_, rfl, h9⟩

end Go.Proofs.YtekhgkkgmkodmaaGreat
