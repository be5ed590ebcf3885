/- The reference of packets: bytes put behind bytes, and the bytes of heads. Conditions: the lists read as such. -/
import Derived.Test.YtekhgkkgmkodmaaGreatRd2
namespace Go.Proofs.YtekhgkkgmkodmaaGreat
open Go.RowKit

set_option maxRecDepth 4000 in
set_option maxHeartbeats 4000000 in
theorem r5Put_acc (w0 : World) (v : Value) (n m n' : Nat) (x wd : Int) (L : List Int) (w : World) (ha : Acc w0 w v n L) (hm : (hold wd).toNat = m) (hn' : n + m = n') (hz : n' ≤ 1099511627776) :
    Calls Tryz.prog 38 #[v, .int .i64 wd, .int .i64 x] w (PutA w0 (L ++ enc x m) n') := by
  generalize hQ : PutA w0 (L ++ enc x m) n' = Q
  have HQ := Lib.hid hQ
  have HA := Lib.hid ha
  clear hQ ha
  go_enter Tryz.func38, Tryz.ntmps38
  go_wp2_with fail
  refine (refBytes_n x wd m hm _).mono ?_
  rintro e1 w1 ⟨rfl, hb1, hr1⟩
  have C1 := Lib.hid (HA.out.below hb1)
  have R1 := Lib.hid hr1
  clear hb1 hr1
  go_wp2_with (at_builtin; refine wpList_append_acc rfl (.tmp 7) (.tmp 10) rfl w0 v n L (by rfl) (by exact C1.out) _ _ m m _ (by rfl) (by exact R1.out) n' hn' hz ?_; intro v2 w2 ha2)
  rw [← HQ.out]
  exact ⟨_, rfl, ha2.out⟩

set_option maxRecDepth 4000 in
set_option maxHeartbeats 4000000 in
theorem r5All_any (A : Option Addr) (n c B : Nat) (L : List Hd) (w : World) (hL : Hds w B A n L) (hB : B ≤ w.heap.size) (hn : n ≤ 1000) :
    Calls Tryz.prog 71 #[.slice A n c] w (PutA w (headsBs L) (n * 20)) := by
  generalize hQ : PutA w (headsBs L) (n * 20) = Q
  have HQ := Lib.hid hQ
  have HL := Lib.hid hL
  have HN := Lib.hid hL.1
  clear hL hQ
  go_enter Tryz.func71, Tryz.ntmps71
  go_wp2_with fail
  go_loopw [3, 4] (fun b i wr => ∃ k : Nat, k ≤ n ∧ i = .int .i64 k ∧ Hid (Acc w wr b (k * 20) (headsBs (L.take k)))) (fun _ i _ => n - (intOf i).toNat)
  case atStart => exact ⟨0, Nat.zero_le _, rfl, Lib.hid (Acc.nil (Below.refl _ _))⟩
  case round =>
    obtain ⟨k, hk, rfl, ha⟩ := hrel
    by_cases hlt : k < n
    · obtain ⟨b, o, x, rfl, hbb, hx, hat⟩ := Arr.at (HL.out.below (ha.out.2.mono hB)) hlt
      obtain ⟨k0, k1, k2, k3, k4, k5, k6⟩ := hat
      have HX := Lib.hid (show headsBs (L.take (k + 1)) = headsBs (L.take k) ++ headBytes x by rw [take_snocA _ _ _ hx, headsBs_append]; simp [headsBs])
      clear hx
      go_wp2_with fail
      refine (refHeadBytes_any x _).mono ?_
      rintro e2 w2 ⟨v2, rfl, ha2⟩
      obtain ⟨A2, c2, rfl, hc2, hm2, hr2⟩ := ha2.form
      have R2 := Lib.hid hr2
      have C2 := Lib.hid (ha.out.below ha2.2)
      clear hr2 ha2 k0 k1 k2 k3 k4 k5 k6
      go_wp2_with (at_builtin; refine wpList_append_acc rfl (.tmp 11) (.tmp 16) rfl w _ (k * 20) _ (by rfl) (by exact C2.out) _ A2 20 c2 (headBytes x) (by rfl) (by exact R2.out) ((k + 1) * 20) (by omega) (by omega) ?_; intro v3 w3 ha3)
      rw [← HX.out] at ha3
      go_roundw
      case rel => exact ⟨k + 1, by omega, by go_num, ha3⟩
      case measure => simp [intOf]; omega
    · obtain rfl : k = n := by omega
      have h1 := ha.out
      rw [List.take_of_length_le (by rw [HN.out]; omega)] at h1
      have H1 := Lib.hid h1
      clear h1
      go_wp2
      rw [← HQ.out]
      exact ⟨_, rfl, H1.out⟩
end Go.Proofs.YtekhgkkgmkodmaaGreat
