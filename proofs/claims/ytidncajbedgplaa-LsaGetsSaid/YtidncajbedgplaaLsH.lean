/- The call sealed of package lsa: a description's bytes, with its sum and length. Conditions: at most 50 links and 50 members, a kind that may be. -/
import Derived.Test.YtidncajbedgplaaLsQ
import Derived.Test.YtidncajbedgplaaFlD
import Derived.Deep.RegionLawGrows
namespace Go.Proofs.Ytidncajbedgplaa
open Go.RowKit

theorem bodyBytes_le (h : Hd) (L : List Lk) (M : List Int) (hL : L.length ≤ 50) (hM : M.length ≤ 50) : (bodyBytes h L M).length ≤ 604 := by
  unfold bodyBytes
  split
  · rw [List.length_append, enc_length, linksBytes_length]; omega
  · rw [encs_length]; omega

/-- A run of cells out of a block that is known: from place o on, the integers l. -/
theorem blk_run {w : World} {g : Nat} {t : TypeId} {q : IntKind} {xs : List Int} {rest : List Value} (h : Blk w g t (xs.map (Value.int q) ++ rest).toArray) (o m : Nat) (hm : o + m ≤ xs.length) :
    (((xs.drop o).take m).map (Value.int q)).length = m * 1 ∧ ∀ j u, (((xs.drop o).take m).map (Value.int q))[j]? = some u → w.cell? ((⟨g, o, none⟩ : Addr).add j) = some u := by
  refine ⟨by simp; omega, fun j u hu => ?_⟩
  have e : (⟨g, o, none⟩ : Addr).add j = ⟨g, o + j, none⟩ := by
    unfold Addr.add
    split <;> simp_all
  rw [e, h.cell]
  rw [List.getElem?_map, List.getElem?_take] at hu
  by_cases hj : j < m
  · rw [if_pos hj, List.getElem?_drop] at hu
    rw [List.getElem?_toArray, List.getElem?_append_left (by simp; omega), List.getElem?_map]
    exact hu
  · rw [if_neg hj] at hu
    cases hu

set_option maxHeartbeats 4000000 in
theorem sealed_any (h : Hd) (L : List Lk) (M : List Int) (A A' : Option Addr) (n c n' c' B m : Nat) (w : World) (hL : Lnk w B A n L) (hM : Row .i64 w B A' n' M) (hB : B ≤ w.heap.size) (hn : n ≤ 50) (hn' : n' ≤ 50) (hk : h.kind = 1 ∨ h.kind = 2) (hm : (lsaBytes h L M).length = m) :
    Calls Try.prog 25 #[.agg #[.int .i64 h.age, .int .i64 h.kind, .int .i64 h.id, .int .i64 h.adv, .int .i64 h.seq, .int .i64 h.sum, .int .i64 h.long, .slice A n c, .slice A' n' c']] w
    (PutA w (lsaBytes h L M) m) := by
  generalize hQ : PutA w (lsaBytes h L M) m = Q
  have HQ := Lib.hid hQ
  have HL := Lib.hid hL
  have HM := Lib.hid hM
  have Hm := Lib.hid hm
  have HK := Lib.hid hk
  obtain ⟨q, hq⟩ : ∃ q, (bodyBytes h L M).length = q := ⟨_, rfl⟩
  have hq2 : q ≤ 604 := by rw [← hq]; exact bodyBytes_le h L M (by rw [hL.1]; exact hn) (by rw [hM.1]; exact hn')
  have Hq := Lib.hid hq
  clear hQ hL hM hm hk hq
  have B0 := Lib.hid ((Below.refl w.heap.size w).alloc (Nat.le_refl _) (.cells #[.int .i64 h.age, .int .i64 h.kind, .int .i64 h.id, .int .i64 h.adv, .int .i64 h.seq, .int .i64 h.sum, .int .i64 h.long, .slice A n c, .slice A' n' c'] 27))
  have K0 := Lib.hid (Blk.new w 27 #[.int .i64 h.age, .int .i64 h.kind, .int .i64 h.id, .int .i64 h.adv, .int .i64 h.seq, .int .i64 h.sum, .int .i64 h.long, .slice A n c, .slice A' n' c'])
  go_enter Try.func25, Try.ntmps25
  go_wp2_with fail
  refine (body_any h L M A A' n c n' c' B q _ (HL.out.alloc hB _) (HM.out.alloc hB _) (by simp; omega) hn hn' HK.out Hq.out).mono ?_
  rintro e1 w1 ⟨A1, c1, rfl, hc1, hm1, hr1, hb1⟩
  have R1 := Lib.hid hr1
  have K1 := Lib.hid (K0.out.below hb1 (by simp))
  have B1 := Lib.hid (B0.out.trans (hb1.mono (by simp)))
  have hz1 := hb1.size
  simp only [World.size_alloc] at hz1
  obtain ⟨k0, k1, k2, k3, k4, k5, k6, k7, k8⟩ := K1.out.nine
  clear hr1 hb1 K0 B0
  go_wp2_with fail
  refine (putHead_any { h with long := 20 + (q : Int) } _).mono ?_
  rintro e2 w2 ⟨v2, rfl, ha2⟩
  have HA2 := Lib.hid (ha2.lower (B1.out.alloc B1.out.size _))
  have R2 := Lib.hid ((R1.out.alloc (Nat.le_refl _) _).below (ha2.2.mono (by simp)))
  clear ha2 k0 k1 k2 k3 k4 k5 k6 k7 k8 R1 K1 B1
  go_upto_region 5 with (at_builtin; refine wpList_append_acc rfl (.tmp 17) (.tmp 18) rfl w v2 20 _ (by rfl) (by exact HA2.out) _ _ q c1 _ (by rfl) (by exact R2.out) (20 + q) (by rfl) (by omega) ?_; intro v3 w3 ha3)
  have HB := Lib.hid (show headBytes { h with long := 20 + (q : Int) } ++ bodyBytes h L M = rawBytes h L M h.sum by
    unfold rawBytes; rw [Hq.out])
  have ha := ha3.out
  rw [HB.out] at ha
  obtain ⟨g, c3, rest, rfl, hg, hc3, hk3⟩ := own_blk ha.1 (by omega)
  have hc3m : c3 ≤ maxLen := by
    obtain ⟨A9, c9, h1, _, h2, _, _⟩ := ha.putN
    injection h1 with h1
    injection h1 with _ _ h1
    omega
  unfold maxLen at hc3m
  have hrl := rawBytes_length h L M h.sum
  rw [Hq.out] at hrl
  have hr3 := hk3.rowR
  rw [hrl] at hr3
  have R3 := Lib.hid (hr3.more (Nat.le_refl _))
  have hr3b := cut_some _ _ 2 (20 + q - 2) (by omega) _ _ _ _ hr3
  rw [List.take_of_length_le (by simp; omega)] at hr3b
  have R3b := Lib.hid (show Row .u8 w3 w3.heap.size (some ⟨g, 2, none⟩) (20 + q - 2) ((rawBytes h L M h.sum).drop 2) from hr3b)
  have K3 := Lib.hid hk3
  have B3 := Lib.hid ha.2
  have hz3 := ha.2.size
  clear ha3 HA2 R2 hk3 hr3 ha hrl hr3b
  go_wp2_with fail
  refine (ffill_ok (some ⟨g, 2, none⟩) (20 + q - 2) (c3 - 2) w3.heap.size 14 _ w3 R3b.out ((rawBytes_byt h L M h.sum).drop 2) (Nat.le_refl _) (by omega) (by omega)).mono ?_
  rintro e4 w4 ⟨rfl, hb4, hk4⟩
  have hlt3 : g < w3.heap.size := K3.out.lt
  have K4 := Lib.hid (K3.out.below hb4 hlt3)
  have B4 := Lib.hid (B3.out.trans (hb4.mono B3.out.size))
  have HF := Lib.hid hk4
  clear hb4 hk4 K3 B3 R3 R3b
  go_upto_region 6 with fail
  obtain ⟨i0, hi, hz0, hz1', hz2⟩ := info_parts Try.info5
  have HI := Lib.hid hi
  have HZ0 := Lib.hid hz0
  have HZ1 := Lib.hid hz1'
  have HZ2 := Lib.hid hz2
  clear hi hz0 hz1' hz2
  obtain ⟨r, hr⟩ : ∃ r, 20 + q - 2 = r := ⟨_, rfl⟩
  have hfl : (ffill ((rawBytes h L M h.sum).drop 2) 14).length = r := by rw [ffill_length, List.length_drop, rawBytes_length, Hq.out, hr]
  have O1 := blk_run K4.out 0 16 (by rw [rawBytes_length]; omega)
  have N1 := blk_run (rest := []) (by rw [List.append_nil]; exact HF.out) 14 (r - 14) (by omega)
  rw [List.take_of_length_le (by rw [List.length_drop]; omega)] at N1
  rw [List.drop_zero] at O1
  have HO := Lib.hid O1
  have HN := Lib.hid N1
  have hr1 : 20 + q = r + 2 := by omega
  have HR := Lib.hid hr1
  rw [hr]
  rw [hr1] at hc3 ⊢
  have hr18 : 18 ≤ r := by omega
  have hr19 : r ≤ 622 := by omega
  clear O1 N1 hfl hr hr1 hq2
  have i1 : (16 : Int) ≤ ((r + 2 : Nat) : Int) := by omega
  have i2 : (16 : Int) ≤ (c3 : Int) := by omega
  have i3 : (14 : Int) ≤ (r : Int) := by omega
  have i4 : (r + 2 : Nat) ≤ c3 := by omega
  have i5 : ¬ (r = 14) := by omega
  go_region_law ((refine step_append_grows (by rfl) (.tmp 27) (.tmp 29) 28 (by rfl) 5 i0 (.int .u8 0) 1 1 Try.underlying28 HI.out HZ0.out HZ1.out HZ2.out (by rfl) (by decide) (some ⟨g, 0, none⟩) 16 16 (((rawBytes h L M h.sum).take 16).map (Value.int .u8)) (by rfl) (by exact fun h => nomatch h) HO.out.1 (by intro b hb; injection hb with hb; subst hb; exact HO.out.2) ⟨w3.heap.size, 14, none⟩ (r - 14) (r - 14) (((ffill ((rawBytes h L M h.sum).drop 2) 14).drop 14).map (Value.int .u8)) (by rfl) HN.out.1 HN.out.2 (oneCell_ints _ _) (by omega) (by unfold maxLen; omega) (by omega) ?_; intro v5 w5 ho hgr))
  have e : ((rawBytes h L M h.sum).take 16).map (Value.int .u8) ++ ((ffill ((rawBytes h L M h.sum).drop 2) 14).drop 14).map (Value.int .u8) = (lsaBytes h L M).map (Value.int .u8) := by
    rw [← List.map_append, sealed_bytes]
  have em : 16 + (r - 14) = m := by
    have h1 := lsaBytes_length h L M
    rw [Hm.out, Hq.out] at h1
    have h2 := HR.out
    omega
  rw [e, em] at ho
  have HO5 := Lib.hid (show Acc w w5 v5 m (lsaBytes h L M) from ⟨own_lower ho (by have := B4.out.size; simpa using this), (below_drewN B4.out 1).grown hgr (by have := B4.out.size; simpa using this) (fun k hk => by cases hk)⟩)
  clear e em ho hgr i1 i2 i3 i4 i5 HO HN
  go_wp2
  go_ret
  rw [← HQ.out]
  exact ⟨v5, by rfl, HO5.out⟩
end Go.Proofs.Ytidncajbedgplaa
