/- The call Fill of package fletch. Conditions: the slice reads as bytes, at most 2^40 of them. · The call sealed of package lsa: a description's bytes, with its sum and length. Conditions: at most 50 links and 50 members, a kind that may be. · The call Put of package lsa. Conditions: at most 50 links and 50 members. · The reference's First, Second and Whole. Conditions: the slice reads as bytes, at most 2^20 of them. · The reference's Fill, by trying. Conditions: the slice reads as bytes, at most 2^20 of them, and the place is there. · The reference's Bytes: a description's bytes. Conditions: the description is right, at most 50 links and 50 members. -/
import Derived.Deep.DeepCutAuto
import Derived.Deep.RegionLawGrows
import Derived.Test.YtekhgkkgmkodmaaJad
namespace Go.Proofs.Ytekhgkkgmkodmaa
open Go.RowKit

set_option maxRecDepth 4000 in
set_option maxHeartbeats 1000000 in
theorem ffill_no (A : Option Addr) (n c : Nat) (p : Int) (w : World) (hn : n ≤ 1099511627776) (h : p < 0 ∨ (n : Int) - 2 < p) :
    Calls Try.prog 76 #[.slice A n c, .int .i64 p] w fun e w' => e = .returned (.tuple #[.slice none 0 0, .bool false]) ∧ w = w' := by
  go_enter Try.func76, Try.ntmps76
  by_cases h2 : p < 0
  · go_wp2
    go_ret2
    exact ⟨rfl, rfl⟩
  · have h3 : (n : Int) - 2 < p := by omega
    go_wp2
    go_ret2
    exact ⟨rfl, rfl⟩

set_option maxRecDepth 4000 in
set_option maxHeartbeats 2000000 in
theorem ffill_ok (A : Option Addr) (n c B : Nat) (k : Nat) (l : List Int) (w : World) (hr : Row .u8 w B A n l) (hby : Byt l) (hB : B ≤ w.heap.size) (hn : n ≤ 1099511627776) (hk2 : k + 2 ≤ n) :
    Calls Try.prog 76 #[.slice A n c, .int .i64 (k : Int)] w fun e w' => e = .returned (.tuple #[.slice (some ⟨w.heap.size, 0, none⟩) n n, .bool true]) ∧ Below w.heap.size w w' ∧ Blk w' w.heap.size 5 ((ffill l k).map (Value.int .u8)).toArray := by
  have HR := Lib.hid hr
  have HY := Lib.hid hby
  clear hr hby
  have hmk := run_make5 n n (Nat.le_refl _) (by omega)
  go_enter Try.func76, Try.ntmps76
  go_upto_region 5 with (refine wpList_copy_row rfl (.tmp 19) (.tmp 20) rfl w.heap.size n n c A (by rfl) (by rfl) B l (by exact HR.out.alloc hB _) (zeros n) (by simp [zeros]) (by exact Blk.new w 5 (zeros n).toArray) ?_; intro w2 hg2 hb2)
  have hlen := HR.out.1
  have hk := hg2.out
  rw [List.drop_of_length_le (by simp [zeros]), List.append_nil] at hk
  have HB2 := Lib.hid (below_new hb2 (Nat.le_refl _))
  have hc0 := hk.at k (by omega)
  have hc1 := hk.at (k + 1) (by omega)
  have hf0 := hk.frozen k
  have hf1 := hk.frozen (k + 1)
  have hz2 := HB2.out.size
  have HK := Lib.hid (show Blk ((w2.setCell ⟨w.heap.size, k, none⟩ (.int .u8 0)).setCell ⟨w.heap.size, k + 1, none⟩ (.int .u8 0)) w.heap.size 5 ((fzero l k).map (Value.int .u8)).toArray from (hk.setInt k 0).setInt (k + 1) 0)
  have HL := Lib.hid hlen
  clear hk hlen hb2 hg2
  go_upto_region 6 with fail
  have HB3 := Lib.hid (show Below w.heap.size w ((w2.setCell ⟨w.heap.size, k, none⟩ (.int .u8 0)).setCell ⟨w.heap.size, k + 1, none⟩ (.int .u8 0)) from (HB2.out.setCell (Nat.le_refl _) _).setCell (Nat.le_refl _) _)
  clear hc0 hc1 hf0 hf1 HB2 hz2
  generalize (w2.setCell ⟨w.heap.size, k, none⟩ (.int .u8 0)).setCell ⟨w.heap.size, k + 1, none⟩ (.int .u8 0) = w3 at *
  have hfl : (fzero l k).length = n := by rw [fzero_eq, put2_length, HL.out]
  have hr3 := HK.out.row
  rw [hfl] at hr3
  have HR3 := Lib.hid hr3
  have hz3 := HB3.out.size
  have HYz := Lib.hid (show Byt (fzero l k) from put2_byt HY.out k (by omega) (by omega) (by omega) (by omega))
  obtain ⟨x, y, ht⟩ := two_of (fzero l k)
  have HT := Lib.hid ht
  have hlt := ht.lt
  obtain ⟨X, hX⟩ : ∃ X, X = lackX x y ((n : Int) - k - 1) := ⟨_, rfl⟩
  obtain ⟨Y, hY⟩ : ∃ Y, Y = lackY x X := ⟨_, rfl⟩
  have HF := Lib.hid (show ffill l k = ((fzero l k).set k X).set (k + 1) Y by
    have : ffill l k = put2 (fzero l k) k X Y := by
      rw [fzero_eq, put2_put2, hY, hX, ht.1, ht.2, ← HL.out]
      rfl
    exact this)
  have HX := Lib.hid hX
  have HYY := Lib.hid hY
  have hbx := lackX_bd x y ((n : Int) - k - 1)
  have hbY := lackY_bd x X
  rw [← hX] at hbx
  rw [← hY] at hbY
  clear hr3 ht hX hY
  go_wp2_with fail
  refine (both_any _ n n w3.heap.size (fzero l k) _ HR3.out HYz.out (by unfold maxLen; omega) x y HT.out).mono ?_
  rintro e2 w4 ⟨rfl, rfl⟩
  go_wp2_with fail
  refine (lacking_any x y ((n : Int) - k - 1) X Y hlt.1 hlt.2 (by omega) (by omega) HX.out HYY.out _).mono ?_
  rintro e2 w4 ⟨rfl, rfl⟩
  generalize fzero l k = z at *
  have hc0 := HK.out.at k (by omega)
  have hc1 := HK.out.at (k + 1) (by omega)
  have hf0 := HK.out.frozen k
  have hf1 := HK.out.frozen (k + 1)
  have HK4 := Lib.hid ((HK.out.setInt k X).setInt (k + 1) Y)
  have HB5 := Lib.hid ((HB3.out.setCell (p := ⟨w.heap.size, k, none⟩) (Nat.le_refl _) (.int .u8 X)).setCell (p := ⟨w.heap.size, k + 1, none⟩) (Nat.le_refl _) (.int .u8 Y))
  clear hfl
  go_wp2
  go_ret2
  refine ⟨rfl, ?_, ?_⟩
  · exact HB5.out
  · rw [HF.out]
    exact HK4.out
end Go.Proofs.Ytekhgkkgmkodmaa
namespace Go.Proofs.Ytekhgkkgmkodmaa
open Go.RowKit

theorem bodyBytes_le (h : Hd) (L : List Lk) (M : List Int) (hL : L.length ≤ 50) (hM : M.length ≤ 50) : (bodyBytes h L M).length ≤ 604 := by
  unfold bodyBytes
  split
  · rw [List.length_append, enc_length, linksBytes_length]; omega
  · rw [encs_length]; omega

/-- A run of cells out of a block that is known: from place o on, the integers l. -/
theorem blk_run {w : World} {g : Nat} {t : TypeId} {q : IntKind} {xs : List Int} {rest : List Value} (h : Blk w g t (xs.map (Value.int q) ++ rest).toArray) (o m : Nat) (hm : o + m ≤ xs.length) :
    (((xs.drop o).take m).map (Value.int q)).length = m * 1 ∧ ∀ j u, (((xs.drop o).take m).map (Value.int q))[j]? = some u → w.cell? ((⟨g, o, none⟩ : Addr).add j) = some u := by
  refine ⟨by simp; omega, fun j u hu => ?_⟩
  have e : (⟨g, o, none⟩ : Addr).add j = ⟨g, o + j, none⟩ := by
    unfold Addr.add
    split <;> simp_all
  rw [e, h.cell]
  rw [List.getElem?_map, List.getElem?_take] at hu
  by_cases hj : j < m
  · rw [if_pos hj, List.getElem?_drop] at hu
    rw [List.getElem?_toArray, List.getElem?_append_left (by simp; omega), List.getElem?_map]
    exact hu
  · rw [if_neg hj] at hu
    cases hu

set_option maxRecDepth 4000 in
set_option maxHeartbeats 4000000 in
theorem sealed_any (h : Hd) (L : List Lk) (M : List Int) (A A' : Option Addr) (n c n' c' B m : Nat) (w : World) (hL : Lnk w B A n L) (hM : Row .i64 w B A' n' M) (hB : B ≤ w.heap.size) (hn : n ≤ 50) (hn' : n' ≤ 50) (hk : h.kind = 1 ∨ h.kind = 2) (hm : (lsaBytes h L M).length = m) :
    Calls Try.prog 68 #[.agg #[.int .i64 h.age, .int .i64 h.kind, .int .i64 h.id, .int .i64 h.adv, .int .i64 h.seq, .int .i64 h.sum, .int .i64 h.long, .slice A n c, .slice A' n' c']] w
    (PutA w (lsaBytes h L M) m) := by
  generalize hQ : PutA w (lsaBytes h L M) m = Q
  have HQ := Lib.hid hQ
  have HL := Lib.hid hL
  have HM := Lib.hid hM
  have Hm := Lib.hid hm
  have HK := Lib.hid hk
  obtain ⟨q, hq⟩ : ∃ q, (bodyBytes h L M).length = q := ⟨_, rfl⟩
  have hq2 : q ≤ 604 := by rw [← hq]; exact bodyBytes_le h L M (by rw [hL.1]; exact hn) (by rw [hM.1]; exact hn')
  have Hq := Lib.hid hq
  clear hQ hL hM hm hk hq
  have B0 := Lib.hid ((Below.refl w.heap.size w).alloc (Nat.le_refl _) (.cells #[.int .i64 h.age, .int .i64 h.kind, .int .i64 h.id, .int .i64 h.adv, .int .i64 h.seq, .int .i64 h.sum, .int .i64 h.long, .slice A n c, .slice A' n' c'] 48))
  have K0 := Lib.hid (Blk.new w 48 #[.int .i64 h.age, .int .i64 h.kind, .int .i64 h.id, .int .i64 h.adv, .int .i64 h.seq, .int .i64 h.sum, .int .i64 h.long, .slice A n c, .slice A' n' c'])
  go_enter Try.func68, Try.ntmps68
  go_wp2_with fail
  refine (body_any h L M A A' n c n' c' B q _ (HL.out.alloc hB _) (HM.out.alloc hB _) (by simp; omega) hn hn' HK.out Hq.out).mono ?_
  rintro e1 w1 ⟨A1, c1, rfl, hc1, hm1, hr1, hb1⟩
  have R1 := Lib.hid hr1
  have K1 := Lib.hid (K0.out.below hb1 (by simp))
  have B1 := Lib.hid (B0.out.trans (hb1.mono (by simp)))
  have hz1 := hb1.size
  simp only [World.size_alloc] at hz1
  obtain ⟨k0, k1, k2, k3, k4, k5, k6, k7, k8⟩ := K1.out.nine
  clear hr1 hb1 K0 B0
  go_wp2_with fail
  refine (putHead_any { h with long := 20 + (q : Int) } _).mono ?_
  rintro e2 w2 ⟨v2, rfl, ha2⟩
  have HA2 := Lib.hid (ha2.lower (B1.out.alloc B1.out.size _))
  have R2 := Lib.hid ((R1.out.alloc (Nat.le_refl _) _).below (ha2.2.mono (by simp)))
  clear ha2 k0 k1 k2 k3 k4 k5 k6 k7 k8 R1 K1 B1
  go_upto_region 5 with (at_builtin; refine wpList_append_acc rfl (.tmp 17) (.tmp 18) rfl w v2 20 _ (by rfl) (by exact HA2.out) _ _ q c1 _ (by rfl) (by exact R2.out) (20 + q) (by rfl) (by omega) ?_; intro v3 w3 ha3)
  have HB := Lib.hid (show headBytes { h with long := 20 + (q : Int) } ++ bodyBytes h L M = rawBytes h L M h.sum by
    unfold rawBytes; rw [Hq.out])
  have ha := ha3.out
  rw [HB.out] at ha
  obtain ⟨g, c3, rest, rfl, hg, hc3, hk3⟩ := own_blk ha.1 (by omega)
  have hc3m : c3 ≤ maxLen := by
    obtain ⟨A9, c9, h1, _, h2, _, _⟩ := ha.putN
    injection h1 with h1
    injection h1 with _ _ h1
    omega
  unfold maxLen at hc3m
  have hrl := rawBytes_length h L M h.sum
  rw [Hq.out] at hrl
  have hr3 := hk3.rowR
  rw [hrl] at hr3
  have R3 := Lib.hid (hr3.more (Nat.le_refl _))
  have hr3b := cut_some _ _ 2 (20 + q - 2) (by omega) _ _ _ _ hr3
  rw [List.take_of_length_le (by simp; omega)] at hr3b
  have R3b := Lib.hid (show Row .u8 w3 w3.heap.size (some ⟨g, 2, none⟩) (20 + q - 2) ((rawBytes h L M h.sum).drop 2) from hr3b)
  have K3 := Lib.hid hk3
  have B3 := Lib.hid ha.2
  have hz3 := ha.2.size
  clear ha3 HA2 R2 hk3 hr3 ha hrl hr3b
  go_wp2_with fail
  refine (ffill_ok (some ⟨g, 2, none⟩) (20 + q - 2) (c3 - 2) w3.heap.size 14 _ w3 R3b.out ((rawBytes_byt h L M h.sum).drop 2) (Nat.le_refl _) (by omega) (by omega)).mono ?_
  rintro e4 w4 ⟨rfl, hb4, hk4⟩
  have hlt3 : g < w3.heap.size := K3.out.lt
  have K4 := Lib.hid (K3.out.below hb4 hlt3)
  have B4 := Lib.hid (B3.out.trans (hb4.mono B3.out.size))
  have HF := Lib.hid hk4
  clear hb4 hk4 K3 B3 R3 R3b
  go_upto_region 6 with fail
  obtain ⟨i0, hi, hz0, hz1', hz2⟩ := info_parts Try.info5
  have HI := Lib.hid hi
  have HZ0 := Lib.hid hz0
  have HZ1 := Lib.hid hz1'
  have HZ2 := Lib.hid hz2
  clear hi hz0 hz1' hz2
  obtain ⟨r, hr⟩ : ∃ r, 20 + q - 2 = r := ⟨_, rfl⟩
  have hfl : (ffill ((rawBytes h L M h.sum).drop 2) 14).length = r := by rw [ffill_length, List.length_drop, rawBytes_length, Hq.out, hr]
  have O1 := blk_run K4.out 0 16 (by rw [rawBytes_length]; omega)
  have N1 := blk_run (rest := []) (by rw [List.append_nil]; exact HF.out) 14 (r - 14) (by omega)
  rw [List.take_of_length_le (by rw [List.length_drop]; omega)] at N1
  rw [List.drop_zero] at O1
  have HO := Lib.hid O1
  have HN := Lib.hid N1
  have hr1 : 20 + q = r + 2 := by omega
  have HR := Lib.hid hr1
  rw [hr]
  rw [hr1] at hc3 ⊢
  have hr18 : 18 ≤ r := by omega
  have hr19 : r ≤ 622 := by omega
  clear O1 N1 hfl hr hr1 hq2
  have i1 : (16 : Int) ≤ ((r + 2 : Nat) : Int) := by omega
  have i2 : (16 : Int) ≤ (c3 : Int) := by omega
  have i3 : (14 : Int) ≤ (r : Int) := by omega
  have i4 : (r + 2 : Nat) ≤ c3 := by omega
  have i5 : ¬ (r = 14) := by omega
  go_region_law ((refine step_append_grows (by rfl) (.tmp 27) (.tmp 29) 35 (by rfl) 5 i0 (.int .u8 0) 1 1 Try.underlying35 HI.out HZ0.out HZ1.out HZ2.out (by rfl) (by decide) (some ⟨g, 0, none⟩) 16 16 (((rawBytes h L M h.sum).take 16).map (Value.int .u8)) (by rfl) (by exact fun h => nomatch h) HO.out.1 (by intro b hb; injection hb with hb; subst hb; exact HO.out.2) ⟨w3.heap.size, 14, none⟩ (r - 14) (r - 14) (((ffill ((rawBytes h L M h.sum).drop 2) 14).drop 14).map (Value.int .u8)) (by rfl) HN.out.1 HN.out.2 (oneCell_ints _ _) (by omega) (by unfold maxLen; omega) (by omega) ?_; intro v5 w5 ho hgr))
  have e : ((rawBytes h L M h.sum).take 16).map (Value.int .u8) ++ ((ffill ((rawBytes h L M h.sum).drop 2) 14).drop 14).map (Value.int .u8) = (lsaBytes h L M).map (Value.int .u8) := by
    rw [← List.map_append, sealed_bytes]
  have em : 16 + (r - 14) = m := by
    have h1 := lsaBytes_length h L M
    rw [Hm.out, Hq.out] at h1
    have h2 := HR.out
    omega
  rw [e, em] at ho
  have HO5 := Lib.hid (show Acc w w5 v5 m (lsaBytes h L M) from ⟨own_lower ho (by have := B4.out.size; simpa using this), (below_drewN B4.out 1).grown hgr (by have := B4.out.size; simpa using this) (fun k hk => by cases hk)⟩)
  clear e em ho hgr i1 i2 i3 i4 i5 HO HN
  go_wp2
  go_ret
  rw [← HQ.out]
  exact ⟨v5, by rfl, HO5.out⟩
end Go.Proofs.Ytekhgkkgmkodmaa
namespace Go.Proofs.Ytekhgkkgmkodmaa
open Go.RowKit

theorem right_kind {h : Hd} {L : List Lk} {M : List Int} (hr : rightB h L M = true) : h.kind = 1 ∨ h.kind = 2 := by
  unfold rightB headB at hr
  simp only [Bool.and_eq_true, inB_iff] at hr
  omega

set_option maxRecDepth 4000 in
set_option maxHeartbeats 2000000 in
theorem lput_no (h : Hd) (L : List Lk) (M : List Int) (A A' : Option Addr) (n c n' c' B : Nat) (w : World) (hL : Lnk w B A n L) (hM : Row .i64 w B A' n' M) (hB : B ≤ w.heap.size) (hn : n ≤ 50) (hn' : n' ≤ 50) (hr : rightB h L M = false) :
    Calls Try.prog 52 #[.agg #[.int .i64 h.age, .int .i64 h.kind, .int .i64 h.id, .int .i64 h.adv, .int .i64 h.seq, .int .i64 h.sum, .int .i64 h.long, .slice A n c, .slice A' n' c']] w
    fun e w' => e = .returned (.tuple #[.slice none 0 0, .int .i64 1]) ∧ Below w.heap.size w w' := by
  have HL := Lib.hid hL
  have HM := Lib.hid hM
  have HR := Lib.hid hr
  clear hL hM hr
  go_enter Try.func52, Try.ntmps52
  go_wp2_with fail
  refine (right_any h L M A A' n c n' c' B _ (HL.out.alloc hB _) (HM.out.alloc hB _) (by simp; omega) (by unfold maxLen; omega) (by unfold maxLen; omega)).mono ?_
  rintro e1 w1 ⟨rfl, hb1⟩
  rw [HR.out]
  have HB1 := Lib.hid (((Below.refl w.heap.size w).alloc (Nat.le_refl _) _).trans (hb1.mono (by simp)))
  clear hb1
  go_wp2
  go_ret2
  exact ⟨rfl, HB1.out⟩

/-- Bytes of the call's own, and no error. -/
def PutOk (w : World) (L : List Int) (m : Nat) (x : Ending) (w' : World) : Prop := ∃ v, x = .returned (.tuple #[v, .int .i64 0]) ∧ Acc w w' v m L

set_option maxRecDepth 4000 in
set_option maxHeartbeats 2000000 in
theorem lput_yes (h : Hd) (L : List Lk) (M : List Int) (A A' : Option Addr) (n c n' c' B m : Nat) (w : World) (hL : Lnk w B A n L) (hM : Row .i64 w B A' n' M) (hB : B ≤ w.heap.size) (hn : n ≤ 50) (hn' : n' ≤ 50) (hr : rightB h L M = true) (hm : (lsaBytes h L M).length = m) :
    Calls Try.prog 52 #[.agg #[.int .i64 h.age, .int .i64 h.kind, .int .i64 h.id, .int .i64 h.adv, .int .i64 h.seq, .int .i64 h.sum, .int .i64 h.long, .slice A n c, .slice A' n' c']] w
    (PutOk w (lsaBytes h L M) m) := by
  generalize hQ : PutOk w (lsaBytes h L M) m = Q
  have HQ := Lib.hid hQ
  have HL := Lib.hid hL
  have HM := Lib.hid hM
  have HR := Lib.hid hr
  have Hm := Lib.hid hm
  clear hL hM hr hm hQ
  have K0 := Lib.hid (Blk.new w 48 #[.int .i64 h.age, .int .i64 h.kind, .int .i64 h.id, .int .i64 h.adv, .int .i64 h.seq, .int .i64 h.sum, .int .i64 h.long, .slice A n c, .slice A' n' c'])
  go_enter Try.func52, Try.ntmps52
  go_wp2_with fail
  refine (right_any h L M A A' n c n' c' B _ (HL.out.alloc hB _) (HM.out.alloc hB _) (by simp; omega) (by unfold maxLen; omega) (by unfold maxLen; omega)).mono ?_
  rintro e1 w1 ⟨rfl, hb1⟩
  rw [HR.out]
  have HB1 := Lib.hid (((Below.refl w.heap.size w).alloc (Nat.le_refl _) _).trans (hb1.mono (by simp)))
  obtain ⟨k0, k1, k2, k3, k4, k5, k6, k7, k8⟩ := (K0.out.below hb1 (by simp)).nine
  clear hb1
  go_wp2_with fail
  refine (sealed_any h L M A A' n c n' c' B m _ (HL.out.below (HB1.out.mono hB)) (HM.out.below (HB1.out.mono hB)) (by have := HB1.out.size; omega) hn hn' (right_kind HR.out) Hm.out).mono ?_
  rintro e2 w2 ⟨v2, rfl, ha2⟩
  have HA2 := Lib.hid (ha2.lower HB1.out)
  clear ha2 k0 k1 k2 k3 k4 k5 k6 k7 k8
  go_wp2
  rw [← HQ.out]
  exact ⟨_, rfl, HA2.out⟩
end Go.Proofs.Ytekhgkkgmkodmaa
namespace Go.Proofs.Ytekhgkkgmkodmaa
open Go.RowKit

/-- What the reference has of the second sum behind the first q bytes. -/
def part2 (l : List Int) (q : Nat) : Int := fsnd (l.take q) + ((l.length : Int) - q) * ffst (l.take q)
theorem part2_succ (l : List Int) (q : Nat) (h : q < l.length) : part2 l (q + 1) = part2 l q + ((l.length : Int) - q) * l.getD q 0 := by
  unfold part2
  rw [take_snoc l q h, ffst_snoc, fsnd_snoc]
  push_cast
  grind
theorem part2_end (l : List Int) : part2 l l.length = fsnd l := by
  unfold part2
  rw [List.take_of_length_le (Nat.le_refl _), Int.sub_self, Int.zero_mul, Int.add_zero]

end Go.Proofs.Ytekhgkkgmkodmaa
namespace Go.Proofs.Ytekhgkkgmkodmaa
open Go.RowKit

end Go.Proofs.Ytekhgkkgmkodmaa
namespace Go.Proofs.Ytekhgkkgmkodmaa
open Go.RowKit

/-- Block x is known whole, and the row v is not in it. -/
def Keep (w : World) (v : Value) (x : Nat) (t : TypeId) (cs : Array Value) : Prop := Blk w x t cs ∧ v.ownBlock ≠ some x
theorem Keep.below {w w' : World} {v : Value} {x : Nat} {t : TypeId} {cs : Array Value} (h : Keep w v x t cs) (hb : Below w.heap.size w w') : Keep w' v x t cs := ⟨h.1.below hb h.1.lt, h.2⟩
theorem Keep.alloc {w : World} {v : Value} {x : Nat} {t : TypeId} {cs : Array Value} (h : Keep w v x t cs) (o : Obj) : Keep (w.alloc o) v x t cs := ⟨h.1.alloc o, h.2⟩
theorem keep_new {w0 w : World} {v : Value} {n : Nat} {L : List Int} (h : Acc w0 w v n L) (t : TypeId) (cs : Array Value) : Keep (w.alloc (.cells cs t)) v w.heap.size t cs :=
  ⟨Blk.new w t cs, fun e => by have := (h.1.lt _ e).2; omega⟩
theorem wpList_append_keep {w : World} {ops : Array Oper} {rest : List Oper} {o : Oper} {a : Act} {Q : Exit → Act → World → Prop} (hgd : o.guard = none) (s x : Operand)
    (ho : o.op = .call { callee := .builtin .append, args := #[s, x], argTypes := #[35, 35] }) (w0 : World) (v : Value) (n : Nat) (L : List Int) (hs : a.eval s = v) (hacc : Acc w0 w v n L)
    (xb : Nat) (t : TypeId) (cs : Array Value) (hkeep : Keep w v xb t cs)
    (B : Nat) (A : Option Addr) (m c : Nat) (l : List Int) (hx : a.eval x = .slice A m c) (hr : Row .u8 w B A m l) (n' : Nat) (hn' : n + m = n') (hz : n' ≤ 1099511627776)
    (h : ∀ v' w', Hid (Acc w0 w' v' n' (L ++ l)) → Hid (Keep w' v' xb t cs) → wpList Try.prog ops Q rest (a.put o.dst v') w') : wpList Try.prog ops Q (o :: rest) a w := by
  subst hn'
  refine wpList_append_row hgd s x ho w0.heap.size v n _ hs hacc.1 B A m c l hx hr hz hacc.2.size ?_
  intro v' w' h1 h2 h3
  refine h v' w' ⟨?_, ?_⟩ ⟨?_, ?_⟩
  · rw [List.map_append]; exact h1.out
  · exact hacc.2.grown h2.out hacc.2.size (fun k hk => (hacc.1.lt k hk).1)
  · exact (h2.out.block xb hkeep.1.lt (fun e => hkeep.2 e.symm)).trans hkeep.1
  · rcases h3.out with e | e
    · rw [e]; exact hkeep.2
    · rw [e]
      intro q
      injection q with q
      have := hkeep.1.lt
      omega
/-- A row of the call's own, as a slice value. -/
theorem Acc.form {w0 w : World} {v : Value} {n : Nat} {L : List Int} (h : Acc w0 w v n L) : ∃ A c, v = .slice A n c ∧ n ≤ c ∧ c ≤ maxLen ∧ Row .u8 w w.heap.size A n L := by
  obtain ⟨A, c, h1, h2, h3, h4, _⟩ := h.putN
  injection h1 with h1
  exact ⟨A, c, h1, h2, h3, h4⟩
theorem Acc.some {w0 w : World} {v : Value} {n : Nat} {L : List Int} (h : Acc w0 w v n L) (hn : 0 < n) : ∃ g c, v = .slice (some ⟨g, 0, none⟩) n c ∧ n ≤ c ∧ c ≤ maxLen ∧ g < w.heap.size ∧ w0.heap.size ≤ g ∧ Row .u8 w w.heap.size (some ⟨g, 0, none⟩) n L := by
  obtain ⟨g, c, rest, rfl, hg, hc, hk⟩ := own_blk h.1 hn
  obtain ⟨A', c', h1, h2, h3, h4⟩ := h.form
  injection h1 with h1 _ h5
  subst h1 h5
  exact ⟨g, c, rfl, h2, h3, hk.lt, hg, h4⟩
/-- The first m of n. -/
theorem Row.head {k : IntKind} {w : World} {B n : Nat} {A : Option Addr} {l : List Int} (h : Row k w B A n l) (m : Nat) (hm : m ≤ n) : Row k w B A m (l.take m) :=
  ⟨by have := h.1; simp; omega, fun h0 => by
    obtain ⟨b, o, e, hb, hc⟩ := h.2 (by omega)
    refine ⟨b, o, e, hb, fun j hj => ?_⟩
    have := hc j (by omega)
    simpa [List.getElem?_take, hj] using this⟩
theorem byte_kind (n : Int) : n % 256 = byteAt n 0 := by simp [byteAt]

end Go.Proofs.Ytekhgkkgmkodmaa
