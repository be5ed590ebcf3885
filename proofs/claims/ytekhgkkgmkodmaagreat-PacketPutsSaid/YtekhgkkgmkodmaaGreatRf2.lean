/- The reference of packets: the bytes of what a packet has, of exchanges. Conditions: the packet is right. -/
import Derived.Test.YtekhgkkgmkodmaaGreatRf0
namespace Go.Proofs.YtekhgkkgmkodmaaGreat
open Go.RowKit

set_option maxRecDepth 8000 in
set_option maxHeartbeats 8000000 in
theorem r5Body_dd (v : Pv) (l : Pl) (B m : Nat) (w : World) (h : PkIn w B v l) (hB : B ≤ w.heap.size) (hr : rightP v l = true) (hk : v.kind = 2) (hm : (bodyBs v l).length = m) :
    Calls Tryz.prog 37 #[.agg #[.int .i64 2, .int .i64 v.sender, .int .i64 v.every, .int .i64 v.dead, .int .i64 v.prio, .int .i64 v.dr, .int .i64 v.bdr, .slice v.seen.a v.seen.n v.seen.c, .bool v.ini, .bool v.mor, .bool v.mas, .int .i64 v.seq, .slice v.heads.a v.heads.n v.heads.c, .slice v.wants.a v.wants.n v.wants.c, .slice v.lsas.a v.lsas.n v.lsas.c, .slice v.acks.a v.acks.n v.acks.c]] w (PutA w (bodyBs v l) m) := by
  generalize hQ : PutA w (bodyBs v l) m = Q
  have HQ := Lib.hid hQ
  have K0 := Lib.hid (Blk.new w 31 #[.int .i64 2, .int .i64 v.sender, .int .i64 v.every, .int .i64 v.dead, .int .i64 v.prio, .int .i64 v.dr, .int .i64 v.bdr, .slice v.seen.a v.seen.n v.seen.c, .bool v.ini, .bool v.mor, .bool v.mas, .int .i64 v.seq, .slice v.heads.a v.heads.n v.heads.c, .slice v.wants.a v.wants.n v.wants.c, .slice v.lsas.a v.lsas.n v.lsas.c, .slice v.acks.a v.acks.n v.acks.c])
  have B0 := Lib.hid ((Below.refl w.heap.size w).alloc (Nat.le_refl _) (.cells #[.int .i64 2, .int .i64 v.sender, .int .i64 v.every, .int .i64 v.dead, .int .i64 v.prio, .int .i64 v.dr, .int .i64 v.bdr, .slice v.seen.a v.seen.n v.seen.c, .bool v.ini, .bool v.mor, .bool v.mas, .int .i64 v.seq, .slice v.heads.a v.heads.n v.heads.c, .slice v.wants.a v.wants.n v.wants.c, .slice v.lsas.a v.lsas.n v.lsas.c, .slice v.acks.a v.acks.n v.acks.c] 31))
  have HP := Lib.hid (h.below (B0.out.mono hB))
  have N1 := Lib.hid (show l.seen.length = v.seen.n from h.1.1)
  have N2 := Lib.hid (show l.heads.length = v.heads.n from h.2.1.1)
  have N3 := Lib.hid (show l.wants.length = v.wants.n from h.2.2.1.1)
  have N4 := Lib.hid (show l.lsas.length = v.lsas.n from h.2.2.2.1.1)
  have N5 := Lib.hid (show l.acks.length = v.acks.n from h.2.2.2.2.1)
  have HK := Lib.hid hk
  have Hm := Lib.hid hm
  have HRT := Lib.hid hr
  have hq := (right_parts hr).2.2
  unfold partB at hq
  rw [if_neg (by rw [hk]; decide), if_pos hk] at hq
  have hlen := piece_len (dd_piece hq)
  have HV := Lib.hid (show bodyBs v l = ddBs v.ini v.mor v.mas v.seq l.heads by unfold bodyBs; rw [if_neg (by rw [hk]; decide), if_pos hk])
  have hn3 : v.heads.n ≤ 3 := by have := h.2.1.1; omega
  have hm8 : m = 8 + v.heads.n * 20 := by
    have h1 := h.2.1.1
    rw [← hm, HV.out]
    simp only [ddBs, List.length_append, enc_length, headsBs_length]
    omega
  clear hq hlen
  have hs0 : B ≤ (w.alloc (.cells #[.int .i64 2, .int .i64 v.sender, .int .i64 v.every, .int .i64 v.dead, .int .i64 v.prio, .int .i64 v.dr, .int .i64 v.bdr, .slice v.seen.a v.seen.n v.seen.c, .bool v.ini, .bool v.mor, .bool v.mas, .int .i64 v.seq, .slice v.heads.a v.heads.n v.heads.c, .slice v.wants.a v.wants.n v.wants.c, .slice v.lsas.a v.lsas.n v.lsas.c, .slice v.acks.a v.acks.n v.acks.c] 31)).heap.size := by simp; omega
  have hz0 : w.heap.size ≤ (w.alloc (.cells #[.int .i64 2, .int .i64 v.sender, .int .i64 v.every, .int .i64 v.dead, .int .i64 v.prio, .int .i64 v.dr, .int .i64 v.bdr, .slice v.seen.a v.seen.n v.seen.c, .bool v.ini, .bool v.mor, .bool v.mas, .int .i64 v.seq, .slice v.heads.a v.heads.n v.heads.c, .slice v.wants.a v.wants.n v.wants.c, .slice v.lsas.a v.lsas.n v.lsas.c, .slice v.acks.a v.acks.n v.acks.c] 31)).heap.size := by simp
  clear h hk hr hm hQ
  go_enter Tryz.func37, Tryz.ntmps37
  go_upto_region 1 with fail
  have hlt0 := K0.out.lt
  generalize w.alloc (.cells #[.int .i64 2, .int .i64 v.sender, .int .i64 v.every, .int .i64 v.dead, .int .i64 v.prio, .int .i64 v.dr, .int .i64 v.bdr, .slice v.seen.a v.seen.n v.seen.c, .bool v.ini, .bool v.mor, .bool v.mas, .int .i64 v.seq, .slice v.heads.a v.heads.n v.heads.c, .slice v.wants.a v.wants.n v.wants.c, .slice v.lsas.a v.lsas.n v.lsas.c, .slice v.acks.a v.acks.n v.acks.c] 31) = w0 at *
  obtain ⟨a0, a1, a2, a3, a4, a5, a6, a7, a8, a9, a10, a11, a12, a13, a14, a15⟩ := K0.out.sixteen
  have C0 := Lib.hid (Acc.nil (Below.refl w0.heap.size w0))
  cases hi : v.ini <;> cases hmo : v.mor <;> cases hms : v.mas
  · rw [hi] at a8
    rw [hmo] at a9
    rw [hms] at a10
    have HVV := Lib.hid (show ([] ++ [0, 0, 0, 0] : List Int) ++ enc v.seq 4 ++ headsBs l.heads = bodyBs v l by rw [HV.out, hi, hmo, hms]; simp [ddBs, flagN, enc, byteAt])
    clear hi hmo hms
    go_upto_region 23 with (at_builtin; refine wpList_append_acc rfl (.tmp 69) (.tmp 71) rfl w0 (.slice none 0 0) 0 [] (by rfl) (by exact C0.out.alloc _) _ _ 4 4 [0, 0, 0, 0] (by rfl) (by exact row_at w0 [0, 0, 0, 0] 5 .u8 _ _ rfl rfl) 4 (by rfl) (by omega) ?_; intro v1 w1 ha1)
    clear a0 a1 a2 a3 a4 a5 a6 a7 a8 a9 a10 a11 a12 a13 a14 a15
    obtain ⟨a0, a1, a2, a3, a4, a5, a6, a7, a8, a9, a10, a11, a12, a13, a14, a15⟩ := (ha1.out.blk K0.out).sixteen
    go_wp2_with fail
    refine (r5Put_acc w0 _ 4 4 8 v.seq 4 _ _ ha1.out rfl rfl (by omega)).mono ?_
    rintro e2 w2 ⟨v2, rfl, ha2⟩
    have C2 := Lib.hid ha2
    have hsz2 := ha2.2.size
    clear ha2 a0 a1 a2 a3 a4 a5 a6 a7 a8 a9 a10 a11 a12 a13 a14 a15 ha1
    obtain ⟨a0, a1, a2, a3, a4, a5, a6, a7, a8, a9, a10, a11, a12, a13, a14, a15⟩ := (C2.out.blk K0.out).sixteen
    go_wp2_with fail
    refine (r5All_any v.heads.a v.heads.n v.heads.c B l.heads _ (HP.out.2.1.below (C2.out.2.mono hs0)) (by omega) (by omega)).mono ?_
    rintro e3 w3 ⟨v3, rfl, ha3⟩
    obtain ⟨A3, c3, rfl, hc3, hm3, hr3⟩ := ha3.form
    have R3 := Lib.hid hr3
    have C3 := Lib.hid (C2.out.below ha3.2)
    clear hr3 ha3 a0 a1 a2 a3 a4 a5 a6 a7 a8 a9 a10 a11 a12 a13 a14 a15
    go_wp2_with (at_builtin; refine wpList_append_acc rfl (.tmp 78) (.tmp 82) rfl w0 v2 8 _ (by rfl) (by exact C3.out) _ A3 (v.heads.n * 20) c3 (headsBs l.heads) (by rfl) (by exact R3.out) m (by omega) (by omega) ?_; intro v4 w4 ha4)
    rw [HVV.out] at ha4
    rw [← HQ.out]
    exact ⟨_, rfl, ha4.out.lower B0.out⟩
  · rw [hi] at a8
    rw [hmo] at a9
    rw [hms] at a10
    have HVV := Lib.hid (show ([] ++ [0, 0, 0, 1] : List Int) ++ enc v.seq 4 ++ headsBs l.heads = bodyBs v l by rw [HV.out, hi, hmo, hms]; simp [ddBs, flagN, enc, byteAt])
    clear hi hmo hms
    go_upto_region 23 with (at_builtin; refine wpList_append_acc rfl (.tmp 69) (.tmp 71) rfl w0 (.slice none 0 0) 0 [] (by rfl) (by exact C0.out.alloc _) _ _ 4 4 [0, 0, 0, 1] (by rfl) (by exact row_at w0 [0, 0, 0, 1] 5 .u8 _ _ rfl rfl) 4 (by rfl) (by omega) ?_; intro v1 w1 ha1)
    clear a0 a1 a2 a3 a4 a5 a6 a7 a8 a9 a10 a11 a12 a13 a14 a15
    obtain ⟨a0, a1, a2, a3, a4, a5, a6, a7, a8, a9, a10, a11, a12, a13, a14, a15⟩ := (ha1.out.blk K0.out).sixteen
    go_wp2_with fail
    refine (r5Put_acc w0 _ 4 4 8 v.seq 4 _ _ ha1.out rfl rfl (by omega)).mono ?_
    rintro e2 w2 ⟨v2, rfl, ha2⟩
    have C2 := Lib.hid ha2
    have hsz2 := ha2.2.size
    clear ha2 a0 a1 a2 a3 a4 a5 a6 a7 a8 a9 a10 a11 a12 a13 a14 a15 ha1
    obtain ⟨a0, a1, a2, a3, a4, a5, a6, a7, a8, a9, a10, a11, a12, a13, a14, a15⟩ := (C2.out.blk K0.out).sixteen
    go_wp2_with fail
    refine (r5All_any v.heads.a v.heads.n v.heads.c B l.heads _ (HP.out.2.1.below (C2.out.2.mono hs0)) (by omega) (by omega)).mono ?_
    rintro e3 w3 ⟨v3, rfl, ha3⟩
    obtain ⟨A3, c3, rfl, hc3, hm3, hr3⟩ := ha3.form
    have R3 := Lib.hid hr3
    have C3 := Lib.hid (C2.out.below ha3.2)
    clear hr3 ha3 a0 a1 a2 a3 a4 a5 a6 a7 a8 a9 a10 a11 a12 a13 a14 a15
    go_wp2_with (at_builtin; refine wpList_append_acc rfl (.tmp 78) (.tmp 82) rfl w0 v2 8 _ (by rfl) (by exact C3.out) _ A3 (v.heads.n * 20) c3 (headsBs l.heads) (by rfl) (by exact R3.out) m (by omega) (by omega) ?_; intro v4 w4 ha4)
    rw [HVV.out] at ha4
    rw [← HQ.out]
    exact ⟨_, rfl, ha4.out.lower B0.out⟩
  · rw [hi] at a8
    rw [hmo] at a9
    rw [hms] at a10
    have HVV := Lib.hid (show ([] ++ [0, 0, 0, 2] : List Int) ++ enc v.seq 4 ++ headsBs l.heads = bodyBs v l by rw [HV.out, hi, hmo, hms]; simp [ddBs, flagN, enc, byteAt])
    clear hi hmo hms
    go_upto_region 23 with (at_builtin; refine wpList_append_acc rfl (.tmp 69) (.tmp 71) rfl w0 (.slice none 0 0) 0 [] (by rfl) (by exact C0.out.alloc _) _ _ 4 4 [0, 0, 0, 2] (by rfl) (by exact row_at w0 [0, 0, 0, 2] 5 .u8 _ _ rfl rfl) 4 (by rfl) (by omega) ?_; intro v1 w1 ha1)
    clear a0 a1 a2 a3 a4 a5 a6 a7 a8 a9 a10 a11 a12 a13 a14 a15
    obtain ⟨a0, a1, a2, a3, a4, a5, a6, a7, a8, a9, a10, a11, a12, a13, a14, a15⟩ := (ha1.out.blk K0.out).sixteen
    go_wp2_with fail
    refine (r5Put_acc w0 _ 4 4 8 v.seq 4 _ _ ha1.out rfl rfl (by omega)).mono ?_
    rintro e2 w2 ⟨v2, rfl, ha2⟩
    have C2 := Lib.hid ha2
    have hsz2 := ha2.2.size
    clear ha2 a0 a1 a2 a3 a4 a5 a6 a7 a8 a9 a10 a11 a12 a13 a14 a15 ha1
    obtain ⟨a0, a1, a2, a3, a4, a5, a6, a7, a8, a9, a10, a11, a12, a13, a14, a15⟩ := (C2.out.blk K0.out).sixteen
    go_wp2_with fail
    refine (r5All_any v.heads.a v.heads.n v.heads.c B l.heads _ (HP.out.2.1.below (C2.out.2.mono hs0)) (by omega) (by omega)).mono ?_
    rintro e3 w3 ⟨v3, rfl, ha3⟩
    obtain ⟨A3, c3, rfl, hc3, hm3, hr3⟩ := ha3.form
    have R3 := Lib.hid hr3
    have C3 := Lib.hid (C2.out.below ha3.2)
    clear hr3 ha3 a0 a1 a2 a3 a4 a5 a6 a7 a8 a9 a10 a11 a12 a13 a14 a15
    go_wp2_with (at_builtin; refine wpList_append_acc rfl (.tmp 78) (.tmp 82) rfl w0 v2 8 _ (by rfl) (by exact C3.out) _ A3 (v.heads.n * 20) c3 (headsBs l.heads) (by rfl) (by exact R3.out) m (by omega) (by omega) ?_; intro v4 w4 ha4)
    rw [HVV.out] at ha4
    rw [← HQ.out]
    exact ⟨_, rfl, ha4.out.lower B0.out⟩
  · rw [hi] at a8
    rw [hmo] at a9
    rw [hms] at a10
    have HVV := Lib.hid (show ([] ++ [0, 0, 0, 3] : List Int) ++ enc v.seq 4 ++ headsBs l.heads = bodyBs v l by rw [HV.out, hi, hmo, hms]; simp [ddBs, flagN, enc, byteAt])
    clear hi hmo hms
    go_upto_region 23 with (at_builtin; refine wpList_append_acc rfl (.tmp 69) (.tmp 71) rfl w0 (.slice none 0 0) 0 [] (by rfl) (by exact C0.out.alloc _) _ _ 4 4 [0, 0, 0, 3] (by rfl) (by exact row_at w0 [0, 0, 0, 3] 5 .u8 _ _ rfl rfl) 4 (by rfl) (by omega) ?_; intro v1 w1 ha1)
    clear a0 a1 a2 a3 a4 a5 a6 a7 a8 a9 a10 a11 a12 a13 a14 a15
    obtain ⟨a0, a1, a2, a3, a4, a5, a6, a7, a8, a9, a10, a11, a12, a13, a14, a15⟩ := (ha1.out.blk K0.out).sixteen
    go_wp2_with fail
    refine (r5Put_acc w0 _ 4 4 8 v.seq 4 _ _ ha1.out rfl rfl (by omega)).mono ?_
    rintro e2 w2 ⟨v2, rfl, ha2⟩
    have C2 := Lib.hid ha2
    have hsz2 := ha2.2.size
    clear ha2 a0 a1 a2 a3 a4 a5 a6 a7 a8 a9 a10 a11 a12 a13 a14 a15 ha1
    obtain ⟨a0, a1, a2, a3, a4, a5, a6, a7, a8, a9, a10, a11, a12, a13, a14, a15⟩ := (C2.out.blk K0.out).sixteen
    go_wp2_with fail
    refine (r5All_any v.heads.a v.heads.n v.heads.c B l.heads _ (HP.out.2.1.below (C2.out.2.mono hs0)) (by omega) (by omega)).mono ?_
    rintro e3 w3 ⟨v3, rfl, ha3⟩
    obtain ⟨A3, c3, rfl, hc3, hm3, hr3⟩ := ha3.form
    have R3 := Lib.hid hr3
    have C3 := Lib.hid (C2.out.below ha3.2)
    clear hr3 ha3 a0 a1 a2 a3 a4 a5 a6 a7 a8 a9 a10 a11 a12 a13 a14 a15
    go_wp2_with (at_builtin; refine wpList_append_acc rfl (.tmp 78) (.tmp 82) rfl w0 v2 8 _ (by rfl) (by exact C3.out) _ A3 (v.heads.n * 20) c3 (headsBs l.heads) (by rfl) (by exact R3.out) m (by omega) (by omega) ?_; intro v4 w4 ha4)
    rw [HVV.out] at ha4
    rw [← HQ.out]
    exact ⟨_, rfl, ha4.out.lower B0.out⟩
  · rw [hi] at a8
    rw [hmo] at a9
    rw [hms] at a10
    have HVV := Lib.hid (show ([] ++ [0, 0, 0, 4] : List Int) ++ enc v.seq 4 ++ headsBs l.heads = bodyBs v l by rw [HV.out, hi, hmo, hms]; simp [ddBs, flagN, enc, byteAt])
    clear hi hmo hms
    go_upto_region 23 with (at_builtin; refine wpList_append_acc rfl (.tmp 69) (.tmp 71) rfl w0 (.slice none 0 0) 0 [] (by rfl) (by exact C0.out.alloc _) _ _ 4 4 [0, 0, 0, 4] (by rfl) (by exact row_at w0 [0, 0, 0, 4] 5 .u8 _ _ rfl rfl) 4 (by rfl) (by omega) ?_; intro v1 w1 ha1)
    clear a0 a1 a2 a3 a4 a5 a6 a7 a8 a9 a10 a11 a12 a13 a14 a15
    obtain ⟨a0, a1, a2, a3, a4, a5, a6, a7, a8, a9, a10, a11, a12, a13, a14, a15⟩ := (ha1.out.blk K0.out).sixteen
    go_wp2_with fail
    refine (r5Put_acc w0 _ 4 4 8 v.seq 4 _ _ ha1.out rfl rfl (by omega)).mono ?_
    rintro e2 w2 ⟨v2, rfl, ha2⟩
    have C2 := Lib.hid ha2
    have hsz2 := ha2.2.size
    clear ha2 a0 a1 a2 a3 a4 a5 a6 a7 a8 a9 a10 a11 a12 a13 a14 a15 ha1
    obtain ⟨a0, a1, a2, a3, a4, a5, a6, a7, a8, a9, a10, a11, a12, a13, a14, a15⟩ := (C2.out.blk K0.out).sixteen
    go_wp2_with fail
    refine (r5All_any v.heads.a v.heads.n v.heads.c B l.heads _ (HP.out.2.1.below (C2.out.2.mono hs0)) (by omega) (by omega)).mono ?_
    rintro e3 w3 ⟨v3, rfl, ha3⟩
    obtain ⟨A3, c3, rfl, hc3, hm3, hr3⟩ := ha3.form
    have R3 := Lib.hid hr3
    have C3 := Lib.hid (C2.out.below ha3.2)
    clear hr3 ha3 a0 a1 a2 a3 a4 a5 a6 a7 a8 a9 a10 a11 a12 a13 a14 a15
    go_wp2_with (at_builtin; refine wpList_append_acc rfl (.tmp 78) (.tmp 82) rfl w0 v2 8 _ (by rfl) (by exact C3.out) _ A3 (v.heads.n * 20) c3 (headsBs l.heads) (by rfl) (by exact R3.out) m (by omega) (by omega) ?_; intro v4 w4 ha4)
    rw [HVV.out] at ha4
    rw [← HQ.out]
    exact ⟨_, rfl, ha4.out.lower B0.out⟩
  · rw [hi] at a8
    rw [hmo] at a9
    rw [hms] at a10
    have HVV := Lib.hid (show ([] ++ [0, 0, 0, 5] : List Int) ++ enc v.seq 4 ++ headsBs l.heads = bodyBs v l by rw [HV.out, hi, hmo, hms]; simp [ddBs, flagN, enc, byteAt])
    clear hi hmo hms
    go_upto_region 23 with (at_builtin; refine wpList_append_acc rfl (.tmp 69) (.tmp 71) rfl w0 (.slice none 0 0) 0 [] (by rfl) (by exact C0.out.alloc _) _ _ 4 4 [0, 0, 0, 5] (by rfl) (by exact row_at w0 [0, 0, 0, 5] 5 .u8 _ _ rfl rfl) 4 (by rfl) (by omega) ?_; intro v1 w1 ha1)
    clear a0 a1 a2 a3 a4 a5 a6 a7 a8 a9 a10 a11 a12 a13 a14 a15
    obtain ⟨a0, a1, a2, a3, a4, a5, a6, a7, a8, a9, a10, a11, a12, a13, a14, a15⟩ := (ha1.out.blk K0.out).sixteen
    go_wp2_with fail
    refine (r5Put_acc w0 _ 4 4 8 v.seq 4 _ _ ha1.out rfl rfl (by omega)).mono ?_
    rintro e2 w2 ⟨v2, rfl, ha2⟩
    have C2 := Lib.hid ha2
    have hsz2 := ha2.2.size
    clear ha2 a0 a1 a2 a3 a4 a5 a6 a7 a8 a9 a10 a11 a12 a13 a14 a15 ha1
    obtain ⟨a0, a1, a2, a3, a4, a5, a6, a7, a8, a9, a10, a11, a12, a13, a14, a15⟩ := (C2.out.blk K0.out).sixteen
    go_wp2_with fail
    refine (r5All_any v.heads.a v.heads.n v.heads.c B l.heads _ (HP.out.2.1.below (C2.out.2.mono hs0)) (by omega) (by omega)).mono ?_
    rintro e3 w3 ⟨v3, rfl, ha3⟩
    obtain ⟨A3, c3, rfl, hc3, hm3, hr3⟩ := ha3.form
    have R3 := Lib.hid hr3
    have C3 := Lib.hid (C2.out.below ha3.2)
    clear hr3 ha3 a0 a1 a2 a3 a4 a5 a6 a7 a8 a9 a10 a11 a12 a13 a14 a15
    go_wp2_with (at_builtin; refine wpList_append_acc rfl (.tmp 78) (.tmp 82) rfl w0 v2 8 _ (by rfl) (by exact C3.out) _ A3 (v.heads.n * 20) c3 (headsBs l.heads) (by rfl) (by exact R3.out) m (by omega) (by omega) ?_; intro v4 w4 ha4)
    rw [HVV.out] at ha4
    rw [← HQ.out]
    exact ⟨_, rfl, ha4.out.lower B0.out⟩
  · rw [hi] at a8
    rw [hmo] at a9
    rw [hms] at a10
    have HVV := Lib.hid (show ([] ++ [0, 0, 0, 6] : List Int) ++ enc v.seq 4 ++ headsBs l.heads = bodyBs v l by rw [HV.out, hi, hmo, hms]; simp [ddBs, flagN, enc, byteAt])
    clear hi hmo hms
    go_upto_region 23 with (at_builtin; refine wpList_append_acc rfl (.tmp 69) (.tmp 71) rfl w0 (.slice none 0 0) 0 [] (by rfl) (by exact C0.out.alloc _) _ _ 4 4 [0, 0, 0, 6] (by rfl) (by exact row_at w0 [0, 0, 0, 6] 5 .u8 _ _ rfl rfl) 4 (by rfl) (by omega) ?_; intro v1 w1 ha1)
    clear a0 a1 a2 a3 a4 a5 a6 a7 a8 a9 a10 a11 a12 a13 a14 a15
    obtain ⟨a0, a1, a2, a3, a4, a5, a6, a7, a8, a9, a10, a11, a12, a13, a14, a15⟩ := (ha1.out.blk K0.out).sixteen
    go_wp2_with fail
    refine (r5Put_acc w0 _ 4 4 8 v.seq 4 _ _ ha1.out rfl rfl (by omega)).mono ?_
    rintro e2 w2 ⟨v2, rfl, ha2⟩
    have C2 := Lib.hid ha2
    have hsz2 := ha2.2.size
    clear ha2 a0 a1 a2 a3 a4 a5 a6 a7 a8 a9 a10 a11 a12 a13 a14 a15 ha1
    obtain ⟨a0, a1, a2, a3, a4, a5, a6, a7, a8, a9, a10, a11, a12, a13, a14, a15⟩ := (C2.out.blk K0.out).sixteen
    go_wp2_with fail
    refine (r5All_any v.heads.a v.heads.n v.heads.c B l.heads _ (HP.out.2.1.below (C2.out.2.mono hs0)) (by omega) (by omega)).mono ?_
    rintro e3 w3 ⟨v3, rfl, ha3⟩
    obtain ⟨A3, c3, rfl, hc3, hm3, hr3⟩ := ha3.form
    have R3 := Lib.hid hr3
    have C3 := Lib.hid (C2.out.below ha3.2)
    clear hr3 ha3 a0 a1 a2 a3 a4 a5 a6 a7 a8 a9 a10 a11 a12 a13 a14 a15
    go_wp2_with (at_builtin; refine wpList_append_acc rfl (.tmp 78) (.tmp 82) rfl w0 v2 8 _ (by rfl) (by exact C3.out) _ A3 (v.heads.n * 20) c3 (headsBs l.heads) (by rfl) (by exact R3.out) m (by omega) (by omega) ?_; intro v4 w4 ha4)
    rw [HVV.out] at ha4
    rw [← HQ.out]
    exact ⟨_, rfl, ha4.out.lower B0.out⟩
  · rw [hi] at a8
    rw [hmo] at a9
    rw [hms] at a10
    have HVV := Lib.hid (show ([] ++ [0, 0, 0, 7] : List Int) ++ enc v.seq 4 ++ headsBs l.heads = bodyBs v l by rw [HV.out, hi, hmo, hms]; simp [ddBs, flagN, enc, byteAt])
    clear hi hmo hms
    go_upto_region 23 with (at_builtin; refine wpList_append_acc rfl (.tmp 69) (.tmp 71) rfl w0 (.slice none 0 0) 0 [] (by rfl) (by exact C0.out.alloc _) _ _ 4 4 [0, 0, 0, 7] (by rfl) (by exact row_at w0 [0, 0, 0, 7] 5 .u8 _ _ rfl rfl) 4 (by rfl) (by omega) ?_; intro v1 w1 ha1)
    clear a0 a1 a2 a3 a4 a5 a6 a7 a8 a9 a10 a11 a12 a13 a14 a15
    obtain ⟨a0, a1, a2, a3, a4, a5, a6, a7, a8, a9, a10, a11, a12, a13, a14, a15⟩ := (ha1.out.blk K0.out).sixteen
    go_wp2_with fail
    refine (r5Put_acc w0 _ 4 4 8 v.seq 4 _ _ ha1.out rfl rfl (by omega)).mono ?_
    rintro e2 w2 ⟨v2, rfl, ha2⟩
    have C2 := Lib.hid ha2
    have hsz2 := ha2.2.size
    clear ha2 a0 a1 a2 a3 a4 a5 a6 a7 a8 a9 a10 a11 a12 a13 a14 a15 ha1
    obtain ⟨a0, a1, a2, a3, a4, a5, a6, a7, a8, a9, a10, a11, a12, a13, a14, a15⟩ := (C2.out.blk K0.out).sixteen
    go_wp2_with fail
    refine (r5All_any v.heads.a v.heads.n v.heads.c B l.heads _ (HP.out.2.1.below (C2.out.2.mono hs0)) (by omega) (by omega)).mono ?_
    rintro e3 w3 ⟨v3, rfl, ha3⟩
    obtain ⟨A3, c3, rfl, hc3, hm3, hr3⟩ := ha3.form
    have R3 := Lib.hid hr3
    have C3 := Lib.hid (C2.out.below ha3.2)
    clear hr3 ha3 a0 a1 a2 a3 a4 a5 a6 a7 a8 a9 a10 a11 a12 a13 a14 a15
    go_wp2_with (at_builtin; refine wpList_append_acc rfl (.tmp 78) (.tmp 82) rfl w0 v2 8 _ (by rfl) (by exact C3.out) _ A3 (v.heads.n * 20) c3 (headsBs l.heads) (by rfl) (by exact R3.out) m (by omega) (by omega) ?_; intro v4 w4 ha4)
    rw [HVV.out] at ha4
    rw [← HQ.out]
    exact ⟨_, rfl, ha4.out.lower B0.out⟩

end Go.Proofs.YtekhgkkgmkodmaaGreat
