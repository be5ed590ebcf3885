/- The reference of packets: the bytes of what a packet has, of updates. Conditions: the packet is right. -/
import Derived.Test.YtekhgkkgmkodmaaGreatRf0
namespace Go.Proofs.YtekhgkkgmkodmaaGreat
open Go.RowKit

set_option maxRecDepth 8000 in
set_option maxHeartbeats 8000000 in
theorem r5Body_update (v : Pv) (l : Pl) (B m : Nat) (w : World) (h : PkIn w B v l) (hB : B ≤ w.heap.size) (hr : rightP v l = true) (hk : v.kind = 4) (hm : (bodyBs v l).length = m) :
    Calls Tryz.prog 37 #[.agg #[.int .i64 4, .int .i64 v.sender, .int .i64 v.every, .int .i64 v.dead, .int .i64 v.prio, .int .i64 v.dr, .int .i64 v.bdr, .slice v.seen.a v.seen.n v.seen.c, .bool v.ini, .bool v.mor, .bool v.mas, .int .i64 v.seq, .slice v.heads.a v.heads.n v.heads.c, .slice v.wants.a v.wants.n v.wants.c, .slice v.lsas.a v.lsas.n v.lsas.c, .slice v.acks.a v.acks.n v.acks.c]] w (PutA w (bodyBs v l) m) := by
  generalize hQ : PutA w (bodyBs v l) m = Q
  have HQ := Lib.hid hQ
  have K0 := Lib.hid (Blk.new w 31 #[.int .i64 4, .int .i64 v.sender, .int .i64 v.every, .int .i64 v.dead, .int .i64 v.prio, .int .i64 v.dr, .int .i64 v.bdr, .slice v.seen.a v.seen.n v.seen.c, .bool v.ini, .bool v.mor, .bool v.mas, .int .i64 v.seq, .slice v.heads.a v.heads.n v.heads.c, .slice v.wants.a v.wants.n v.wants.c, .slice v.lsas.a v.lsas.n v.lsas.c, .slice v.acks.a v.acks.n v.acks.c])
  have B0 := Lib.hid ((Below.refl w.heap.size w).alloc (Nat.le_refl _) (.cells #[.int .i64 4, .int .i64 v.sender, .int .i64 v.every, .int .i64 v.dead, .int .i64 v.prio, .int .i64 v.dr, .int .i64 v.bdr, .slice v.seen.a v.seen.n v.seen.c, .bool v.ini, .bool v.mor, .bool v.mas, .int .i64 v.seq, .slice v.heads.a v.heads.n v.heads.c, .slice v.wants.a v.wants.n v.wants.c, .slice v.lsas.a v.lsas.n v.lsas.c, .slice v.acks.a v.acks.n v.acks.c] 31))
  have HP := Lib.hid (h.below (B0.out.mono hB))
  have N1 := Lib.hid (show l.seen.length = v.seen.n from h.1.1)
  have N2 := Lib.hid (show l.heads.length = v.heads.n from h.2.1.1)
  have N3 := Lib.hid (show l.wants.length = v.wants.n from h.2.2.1.1)
  have N4 := Lib.hid (show l.lsas.length = v.lsas.n from h.2.2.2.1.1)
  have N5 := Lib.hid (show l.acks.length = v.acks.n from h.2.2.2.2.1)
  have HK := Lib.hid hk
  have Hm := Lib.hid hm
  have HRT := Lib.hid hr
  have hq := (right_parts hr).2.2
  unfold partB at hq
  rw [if_neg (by rw [hk]; decide), if_neg (by rw [hk]; decide), if_neg (by rw [hk]; decide), if_pos hk] at hq
  have hlen := piece_len hq
  have HV := Lib.hid (show bodyBs v l = updBs l.lsas by unfold bodyBs; rw [if_neg (by rw [hk]; decide), if_neg (by rw [hk]; decide), if_neg (by rw [hk]; decide), if_pos hk])
  have hn3 : v.lsas.n ≤ 3 := by have := h.2.2.2.1.1; omega
  have HRI := Lib.hid (show ∀ x ∈ l.lsas, rightB x.h x.L x.M = true from fun x hx => by
    have h1 := hlen.2.2 x hx
    unfold laB at h1
    rw [Bool.and_eq_true] at h1
    exact h1.1)
  have hm300 : m ≤ 300 := by have := (body_len (right_parts hr).2.2).1; omega
  have hz5 : v.acks.n = 0 := by
    have h1 := h.2.2.2.2.1
    have := (right_lens hr).2.2 (by rw [hk]; decide)
    omega
  have HZ5 := Lib.hid hz5
  clear hz5
  have hz3 : v.wants.n = 0 := by
    have h1 := h.2.2.1.1
    have := (right_lens hr).1 (by rw [hk]; decide)
    omega
  have HZ3 := Lib.hid hz3
  clear hz3
  clear hq hlen
  have hs0 : B ≤ (w.alloc (.cells #[.int .i64 4, .int .i64 v.sender, .int .i64 v.every, .int .i64 v.dead, .int .i64 v.prio, .int .i64 v.dr, .int .i64 v.bdr, .slice v.seen.a v.seen.n v.seen.c, .bool v.ini, .bool v.mor, .bool v.mas, .int .i64 v.seq, .slice v.heads.a v.heads.n v.heads.c, .slice v.wants.a v.wants.n v.wants.c, .slice v.lsas.a v.lsas.n v.lsas.c, .slice v.acks.a v.acks.n v.acks.c] 31)).heap.size := by simp; omega
  have hz0 : w.heap.size ≤ (w.alloc (.cells #[.int .i64 4, .int .i64 v.sender, .int .i64 v.every, .int .i64 v.dead, .int .i64 v.prio, .int .i64 v.dr, .int .i64 v.bdr, .slice v.seen.a v.seen.n v.seen.c, .bool v.ini, .bool v.mor, .bool v.mas, .int .i64 v.seq, .slice v.heads.a v.heads.n v.heads.c, .slice v.wants.a v.wants.n v.wants.c, .slice v.lsas.a v.lsas.n v.lsas.c, .slice v.acks.a v.acks.n v.acks.c] 31)).heap.size := by simp
  clear h hk hr hm hQ
  go_enter Tryz.func37, Tryz.ntmps37
  go_upto_region 1 with fail
  have hlt0 := K0.out.lt
  generalize w.alloc (.cells #[.int .i64 4, .int .i64 v.sender, .int .i64 v.every, .int .i64 v.dead, .int .i64 v.prio, .int .i64 v.dr, .int .i64 v.bdr, .slice v.seen.a v.seen.n v.seen.c, .bool v.ini, .bool v.mor, .bool v.mas, .int .i64 v.seq, .slice v.heads.a v.heads.n v.heads.c, .slice v.wants.a v.wants.n v.wants.c, .slice v.lsas.a v.lsas.n v.lsas.c, .slice v.acks.a v.acks.n v.acks.c] 31) = w0 at *
  obtain ⟨a0, a1, a2, a3, a4, a5, a6, a7, a8, a9, a10, a11, a12, a13, a14, a15⟩ := K0.out.sixteen
  rw [HZ5.out] at a15
  rw [HZ3.out] at a13
  go_wp2_with fail
  clear a0 a1 a2 a3 a4 a5 a6 a7 a8 a9 a10 a11 a12 a13 a14 a15
  go_loopw [3, 7] (fun b i wr => b = .slice none 0 0 ∧ i = .int .i64 0 ∧ wr = w0) (fun _ _ _ => 0)
  case atStart => exact ⟨rfl, rfl, rfl⟩
  case round =>
    obtain ⟨rfl, rfl, h9⟩ := hrel
    have h9' := h9.symm
    clear h9
    subst h9'
    obtain ⟨a0, a1, a2, a3, a4, a5, a6, a7, a8, a9, a10, a11, a12, a13, a14, a15⟩ := K0.out.sixteen
    rw [HZ3.out] at a13
    clear a1 a2 a3 a4 a5 a6 a7 a8 a9 a10 a11 a12 a15
    go_wp2_with fail
    refine (r5Put_acc w0 _ 0 4 4 (v.lsas.n : Int) 4 [] _ (Acc.nil (Below.refl _ _)) rfl rfl (by omega)).mono ?_
    rintro e1 w1 ⟨v1, rfl, ha1⟩
    have C1 := Lib.hid (show Acc w0 w1 v1 4 (enc (v.lsas.n : Int) 4) from ha1)
    clear ha1 a0 a13 a14
    go_wp2_with fail
    go_loopw [3, 8] (fun b i wr => ∃ (k z : Nat), k ≤ v.lsas.n ∧ i = .int .i64 k ∧ z ≤ 4 + 80 * k ∧ Hid (Acc w0 wr b z (enc v.lsas.n 4 ++ lsasBs (l.lsas.take k)))) (fun _ i _ => v.lsas.n - (intOf i).toNat)
    case atStart => exact ⟨0, 4, Nat.zero_le _, rfl, by omega, Lib.hid (by simpa [lsasBs] using C1.out)⟩
    case round =>
      clear C1
      obtain ⟨k, z, hk, rfl, hz, ha⟩ := hrel
      obtain ⟨a0, a1, a2, a3, a4, a5, a6, a7, a8, a9, a10, a11, a12, a13, a14, a15⟩ := (ha.out.blk K0.out).sixteen
      rw [HZ5.out] at a15
      clear a0 a1 a2 a3 a4 a5 a6 a7 a8 a9 a10 a11 a12 a13
      have hszr := ha.out.2.size
      by_cases hlt : k < v.lsas.n
      · obtain ⟨b, o, x, e9, hbb, hx, hat⟩ := Arr.at HP.out.2.2.2.1 hlt
        have E9 := Lib.hid e9
        clear e9
        rw [E9.out] at a14
        obtain ⟨⟨k0, k1, k2, k3, k4, k5, k6⟩, A1, n1, c1, A2, n2, c2, k7, k8, hL, hM, -, -⟩ := hat.move (B' := B) (fun q hq => ha.out.2.cell (by omega)) (Nat.le_refl _) hbb
        obtain ⟨q, hq⟩ : ∃ q, (lsaBytes x.h x.L x.M).length = q := ⟨_, rfl⟩
        have hrx := HRI.out x (List.mem_of_getElem? hx)
        have hq80 : q ≤ 80 := by have := body_small hrx; rw [← hq, lsaBytes_length]; omega
        have HRX := Lib.hid hrx
        have HLX := Lib.hid hL
        have HMX := Lib.hid hM
        have Hq := Lib.hid hq
        have HX := Lib.hid (show lsasBs (l.lsas.take (k + 1)) = lsasBs (l.lsas.take k) ++ lsaBytes x.h x.L x.M by rw [take_snocA _ _ _ hx, lsasBs_append]; simp [lsasBs])
        clear hx hrx hL hM hq hat a15
        go_wp2_with fail
        refine (refLsaBytes_any x.h x.L x.M A1 A2 n1 c1 n2 c2 B q _ HLX.out HMX.out (by omega) HRX.out Hq.out).mono ?_
        rintro e2 w2 ⟨v2, rfl, ha2⟩
        obtain ⟨A3, c3, rfl, hc3, hm3, hr3⟩ := ha2.form
        have R3 := Lib.hid hr3
        have C2 := Lib.hid (ha.out.below ha2.2)
        clear hr3 ha2 k0 k1 k2 k3 k4 k5 k6 k7 k8 a14
        go_wp2_with (at_builtin; refine wpList_append_acc rfl (.tmp 130) (.tmp 136) rfl w0 _ z _ (by rfl) (by exact C2.out) _ A3 q c3 (lsaBytes x.h x.L x.M) (by rfl) (by exact R3.out) (z + q) (by rfl) (by omega) ?_; intro v4 w4 ha4)
        rw [List.append_assoc, ← HX.out] at ha4
        go_roundw
        case rel => exact ⟨k + 1, z + q, by omega, by go_num, by omega, ha4⟩
        case measure => simp [intOf]; omega
      · obtain rfl : k = v.lsas.n := by omega
        have h1 := ha.out
        rw [List.take_of_length_le (by rw [N4.out]; omega)] at h1
        have h2 : z = m := by
          have h3 := h1.1.1
          rw [← Hm.out, HV.out, updBs, N4.out]
          simpa using h3.symm
        subst h2
        have H1 := Lib.hid (show Acc w0 _ _ z (bodyBs v l) by rw [HV.out, updBs, N4.out]; exact h1)
        clear h1 ha
        go_wp2_with fail
        refine (r5All_any v.acks.a 0 v.acks.c B [] _ Arr.nil (by omega) (by omega)).mono ?_
        rintro e8 w8 ⟨v8, rfl, ha8⟩
        obtain ⟨A8, c8, rfl, hc8, hm8, hr8⟩ := ha8.form
        have R8 := Lib.hid hr8
        have C8 := Lib.hid (H1.out.below ha8.2)
        clear hr8 ha8
        go_wp2_with (at_builtin; refine wpList_append_acc rfl (.tmp 138) (.tmp 141) rfl w0 _ z _ (by rfl) (by exact C8.out) _ A8 (0 * 20) c8 (headsBs []) (by rfl) (by exact R8.out) z (by omega) (by omega) ?_; intro v9 w9 ha9)
        rw [← HQ.out]
        have h9 := ha9.out.lower B0.out
        rw [show bodyBs v l ++ headsBs [] = bodyBs v l by simp [headsBs]] at h9
        exact ⟨_, rfl, h9⟩

end Go.Proofs.YtekhgkkgmkodmaaGreat
