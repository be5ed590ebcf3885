/- The call Fill of package fletch. Conditions: the slice reads as bytes, at most 2^40 of them. · The call sealed of package lsa: a description's bytes, with its sum and length. Conditions: at most 50 links and 50 members, a kind that may be. · The call Put of package lsa. Conditions: at most 50 links and 50 members. · The reference's First, Second and Whole. Conditions: the slice reads as bytes, at most 2^20 of them. · The reference's Fill, by trying. Conditions: the slice reads as bytes, at most 2^20 of them, and the place is there. · The reference's Bytes: a description's bytes. Conditions: the description is right, at most 50 links and 50 members. -/
import Derived.Deep.DeepCutAuto
import Derived.Deep.RegionLawGrows
import Derived.Test.YtnnkcgbnhjkahaaJad
namespace Go.Proofs.Ytnnkcgbnhjkahaa
open Go.RowKit

set_option maxRecDepth 4000 in
set_option maxHeartbeats 2000000 in
theorem ffill_ok (A : Option Addr) (n c B : Nat) (k : Nat) (l : List Int) (w : World) (hr : Row .u8 w B A n l) (hby : Byt l) (hB : B ≤ w.heap.size) (hn : n ≤ 1099511627776) (hk2 : k + 2 ≤ n) :
    Calls Try.prog 97 #[.slice A n c, .int .i64 (k : Int)] w fun e w' => e = .returned (.tuple #[.slice (some ⟨w.heap.size, 0, none⟩) n n, .bool true]) ∧ Below w.heap.size w w' ∧ Blk w' w.heap.size 5 ((ffill l k).map (Value.int .u8)).toArray := by
  have HR := Lib.hid hr
  have HY := Lib.hid hby
  clear hr hby
  have hmk := run_make5 n n (Nat.le_refl _) (by omega)
  go_enter Try.func97, Try.ntmps97
  go_upto_region 5 with (refine wpList_copy_row rfl (.tmp 19) (.tmp 20) rfl w.heap.size n n c A (by rfl) (by rfl) B l (by exact HR.out.alloc hB _) (zeros n) (by simp [zeros]) (by exact Blk.new w 5 (zeros n).toArray) ?_; intro w2 hg2 hb2)
  have hlen := HR.out.1
  have hk := hg2.out
  rw [List.drop_of_length_le (by simp [zeros]), List.append_nil] at hk
  have HB2 := Lib.hid (below_new hb2 (Nat.le_refl _))
  have hc0 := hk.at k (by omega)
  have hc1 := hk.at (k + 1) (by omega)
  have hf0 := hk.frozen k
  have hf1 := hk.frozen (k + 1)
  have hz2 := HB2.out.size
  have HK := Lib.hid (show Blk ((w2.setCell ⟨w.heap.size, k, none⟩ (.int .u8 0)).setCell ⟨w.heap.size, k + 1, none⟩ (.int .u8 0)) w.heap.size 5 ((fzero l k).map (Value.int .u8)).toArray from (hk.setInt k 0).setInt (k + 1) 0)
  have HL := Lib.hid hlen
  clear hk hlen hb2 hg2
  go_upto_region 6 with fail
  have HB3 := Lib.hid (show Below w.heap.size w ((w2.setCell ⟨w.heap.size, k, none⟩ (.int .u8 0)).setCell ⟨w.heap.size, k + 1, none⟩ (.int .u8 0)) from (HB2.out.setCell (Nat.le_refl _) _).setCell (Nat.le_refl _) _)
  clear hc0 hc1 hf0 hf1 HB2 hz2
  generalize (w2.setCell ⟨w.heap.size, k, none⟩ (.int .u8 0)).setCell ⟨w.heap.size, k + 1, none⟩ (.int .u8 0) = w3 at *
  have hfl : (fzero l k).length = n := by rw [fzero_eq, put2_length, HL.out]
  have hr3 := HK.out.row
  rw [hfl] at hr3
  have HR3 := Lib.hid hr3
  have hz3 := HB3.out.size
  have HYz := Lib.hid (show Byt (fzero l k) from put2_byt HY.out k (by omega) (by omega) (by omega) (by omega))
  obtain ⟨x, y, ht⟩ := two_of (fzero l k)
  have HT := Lib.hid ht
  have hlt := ht.lt
  obtain ⟨X, hX⟩ : ∃ X, X = lackX x y ((n : Int) - k - 1) := ⟨_, rfl⟩
  obtain ⟨Y, hY⟩ : ∃ Y, Y = lackY x X := ⟨_, rfl⟩
  have HF := Lib.hid (show ffill l k = ((fzero l k).set k X).set (k + 1) Y by
    have : ffill l k = put2 (fzero l k) k X Y := by
      rw [fzero_eq, put2_put2, hY, hX, ht.1, ht.2, ← HL.out]
      rfl
    exact this)
  have HX := Lib.hid hX
  have HYY := Lib.hid hY
  have hbx := lackX_bd x y ((n : Int) - k - 1)
  have hbY := lackY_bd x X
  rw [← hX] at hbx
  rw [← hY] at hbY
  clear hr3 ht hX hY
  go_wp2_with fail
  refine (both_any _ n n w3.heap.size (fzero l k) _ HR3.out HYz.out (by unfold maxLen; omega) x y HT.out).mono ?_
  rintro e2 w4 ⟨rfl, rfl⟩
  go_wp2_with fail
  refine (lacking_any x y ((n : Int) - k - 1) X Y hlt.1 hlt.2 (by omega) (by omega) HX.out HYY.out _).mono ?_
  rintro e2 w4 ⟨rfl, rfl⟩
  generalize fzero l k = z at *
  have hc0 := HK.out.at k (by omega)
  have hc1 := HK.out.at (k + 1) (by omega)
  have hf0 := HK.out.frozen k
  have hf1 := HK.out.frozen (k + 1)
  have HK4 := Lib.hid ((HK.out.setInt k X).setInt (k + 1) Y)
  have HB5 := Lib.hid ((HB3.out.setCell (p := ⟨w.heap.size, k, none⟩) (Nat.le_refl _) (.int .u8 X)).setCell (p := ⟨w.heap.size, k + 1, none⟩) (Nat.le_refl _) (.int .u8 Y))
  clear hfl
  go_wp2
  go_ret2
  refine ⟨rfl, ?_, ?_⟩
  · exact HB5.out
  · rw [HF.out]
    exact HK4.out
end Go.Proofs.Ytnnkcgbnhjkahaa
namespace Go.Proofs.Ytnnkcgbnhjkahaa
open Go.RowKit

theorem bodyBytes_le (h : Hd) (L : List Lk) (M : List Int) (hL : L.length ≤ 50) (hM : M.length ≤ 50) : (bodyBytes h L M).length ≤ 604 := by
  unfold bodyBytes
  split
  · rw [List.length_append, enc_length, linksBytes_length]; omega
  · rw [encs_length]; omega

/-- A run of cells out of a block that is known: from place o on, the integers l. -/
theorem blk_run {w : World} {g : Nat} {t : TypeId} {q : IntKind} {xs : List Int} {rest : List Value} (h : Blk w g t (xs.map (Value.int q) ++ rest).toArray) (o m : Nat) (hm : o + m ≤ xs.length) :
    (((xs.drop o).take m).map (Value.int q)).length = m * 1 ∧ ∀ j u, (((xs.drop o).take m).map (Value.int q))[j]? = some u → w.cell? ((⟨g, o, none⟩ : Addr).add j) = some u := by
  refine ⟨by simp; omega, fun j u hu => ?_⟩
  have e : (⟨g, o, none⟩ : Addr).add j = ⟨g, o + j, none⟩ := by
    unfold Addr.add
    split <;> simp_all
  rw [e, h.cell]
  rw [List.getElem?_map, List.getElem?_take] at hu
  by_cases hj : j < m
  · rw [if_pos hj, List.getElem?_drop] at hu
    rw [List.getElem?_toArray, List.getElem?_append_left (by simp; omega), List.getElem?_map]
    exact hu
  · rw [if_neg hj] at hu
    cases hu

set_option maxRecDepth 4000 in
set_option maxHeartbeats 4000000 in
theorem sealed_any (h : Hd) (L : List Lk) (M : List Int) (A A' : Option Addr) (n c n' c' B m : Nat) (w : World) (hL : Lnk w B A n L) (hM : Row .i64 w B A' n' M) (hB : B ≤ w.heap.size) (hn : n ≤ 50) (hn' : n' ≤ 50) (hk : h.kind = 1 ∨ h.kind = 2) (hm : (lsaBytes h L M).length = m) :
    Calls Try.prog 70 #[.agg #[.int .i64 h.age, .int .i64 h.kind, .int .i64 h.id, .int .i64 h.adv, .int .i64 h.seq, .int .i64 h.sum, .int .i64 h.long, .slice A n c, .slice A' n' c']] w
    (PutA w (lsaBytes h L M) m) := by
  generalize hQ : PutA w (lsaBytes h L M) m = Q
  have HQ := Lib.hid hQ
  have HL := Lib.hid hL
  have HM := Lib.hid hM
  have Hm := Lib.hid hm
  have HK := Lib.hid hk
  obtain ⟨q, hq⟩ : ∃ q, (bodyBytes h L M).length = q := ⟨_, rfl⟩
  have hq2 : q ≤ 604 := by rw [← hq]; exact bodyBytes_le h L M (by rw [hL.1]; exact hn) (by rw [hM.1]; exact hn')
  have Hq := Lib.hid hq
  clear hQ hL hM hm hk hq
  have B0 := Lib.hid ((Below.refl w.heap.size w).alloc (Nat.le_refl _) (.cells #[.int .i64 h.age, .int .i64 h.kind, .int .i64 h.id, .int .i64 h.adv, .int .i64 h.seq, .int .i64 h.sum, .int .i64 h.long, .slice A n c, .slice A' n' c'] 62))
  have K0 := Lib.hid (Blk.new w 62 #[.int .i64 h.age, .int .i64 h.kind, .int .i64 h.id, .int .i64 h.adv, .int .i64 h.seq, .int .i64 h.sum, .int .i64 h.long, .slice A n c, .slice A' n' c'])
  go_enter Try.func70, Try.ntmps70
  go_wp2_with fail
  refine (body_any h L M A A' n c n' c' B q _ (HL.out.alloc hB _) (HM.out.alloc hB _) (by simp; omega) hn hn' HK.out Hq.out).mono ?_
  rintro e1 w1 ⟨A1, c1, rfl, hc1, hm1, hr1, hb1⟩
  have R1 := Lib.hid hr1
  have K1 := Lib.hid (K0.out.below hb1 (by simp))
  have B1 := Lib.hid (B0.out.trans (hb1.mono (by simp)))
  have hz1 := hb1.size
  simp only [World.size_alloc] at hz1
  obtain ⟨k0, k1, k2, k3, k4, k5, k6, k7, k8⟩ := K1.out.nine
  clear hr1 hb1 K0 B0
  go_wp2_with fail
  refine (putHead_any { h with long := 20 + (q : Int) } _).mono ?_
  rintro e2 w2 ⟨v2, rfl, ha2⟩
  have HA2 := Lib.hid (ha2.lower (B1.out.alloc B1.out.size _))
  have R2 := Lib.hid ((R1.out.alloc (Nat.le_refl _) _).below (ha2.2.mono (by simp)))
  clear ha2 k0 k1 k2 k3 k4 k5 k6 k7 k8 R1 K1 B1
  go_upto_region 5 with (at_builtin; refine wpList_append_acc rfl (.tmp 17) (.tmp 18) rfl w v2 20 _ (by rfl) (by exact HA2.out) _ _ q c1 _ (by rfl) (by exact R2.out) (20 + q) (by rfl) (by omega) ?_; intro v3 w3 ha3)
  have HB := Lib.hid (show headBytes { h with long := 20 + (q : Int) } ++ bodyBytes h L M = rawBytes h L M h.sum by
    unfold rawBytes; rw [Hq.out])
  have ha := ha3.out
  rw [HB.out] at ha
  obtain ⟨g, c3, rest, rfl, hg, hc3, hk3⟩ := own_blk ha.1 (by omega)
  have hc3m : c3 ≤ maxLen := by
    obtain ⟨A9, c9, h1, _, h2, _, _⟩ := ha.putN
    injection h1 with h1
    injection h1 with _ _ h1
    omega
  unfold maxLen at hc3m
  have hrl := rawBytes_length h L M h.sum
  rw [Hq.out] at hrl
  have hr3 := hk3.rowR
  rw [hrl] at hr3
  have R3 := Lib.hid (hr3.more (Nat.le_refl _))
  have hr3b := cut_some _ _ 2 (20 + q - 2) (by omega) _ _ _ _ hr3
  rw [List.take_of_length_le (by simp; omega)] at hr3b
  have R3b := Lib.hid (show Row .u8 w3 w3.heap.size (some ⟨g, 2, none⟩) (20 + q - 2) ((rawBytes h L M h.sum).drop 2) from hr3b)
  have K3 := Lib.hid hk3
  have B3 := Lib.hid ha.2
  have hz3 := ha.2.size
  clear ha3 HA2 R2 hk3 hr3 ha hrl hr3b
  go_wp2_with fail
  refine (ffill_ok (some ⟨g, 2, none⟩) (20 + q - 2) (c3 - 2) w3.heap.size 14 _ w3 R3b.out ((rawBytes_byt h L M h.sum).drop 2) (Nat.le_refl _) (by omega) (by omega)).mono ?_
  rintro e4 w4 ⟨rfl, hb4, hk4⟩
  have hlt3 : g < w3.heap.size := K3.out.lt
  have K4 := Lib.hid (K3.out.below hb4 hlt3)
  have B4 := Lib.hid (B3.out.trans (hb4.mono B3.out.size))
  have HF := Lib.hid hk4
  clear hb4 hk4 K3 B3 R3 R3b
  go_upto_region 6 with fail
  obtain ⟨i0, hi, hz0, hz1', hz2⟩ := info_parts Try.info5
  have HI := Lib.hid hi
  have HZ0 := Lib.hid hz0
  have HZ1 := Lib.hid hz1'
  have HZ2 := Lib.hid hz2
  clear hi hz0 hz1' hz2
  obtain ⟨r, hr⟩ : ∃ r, 20 + q - 2 = r := ⟨_, rfl⟩
  have hfl : (ffill ((rawBytes h L M h.sum).drop 2) 14).length = r := by rw [ffill_length, List.length_drop, rawBytes_length, Hq.out, hr]
  have O1 := blk_run K4.out 0 16 (by rw [rawBytes_length]; omega)
  have N1 := blk_run (rest := []) (by rw [List.append_nil]; exact HF.out) 14 (r - 14) (by omega)
  rw [List.take_of_length_le (by rw [List.length_drop]; omega)] at N1
  rw [List.drop_zero] at O1
  have HO := Lib.hid O1
  have HN := Lib.hid N1
  have hr1 : 20 + q = r + 2 := by omega
  have HR := Lib.hid hr1
  rw [hr]
  rw [hr1] at hc3 ⊢
  have hr18 : 18 ≤ r := by omega
  have hr19 : r ≤ 622 := by omega
  clear O1 N1 hfl hr hr1 hq2
  have i1 : (16 : Int) ≤ ((r + 2 : Nat) : Int) := by omega
  have i2 : (16 : Int) ≤ (c3 : Int) := by omega
  have i3 : (14 : Int) ≤ (r : Int) := by omega
  have i4 : (r + 2 : Nat) ≤ c3 := by omega
  have i5 : ¬ (r = 14) := by omega
  go_region_law ((refine step_append_grows (by rfl) (.tmp 27) (.tmp 29) 98 (by rfl) 5 i0 (.int .u8 0) 1 1 Try.underlying98 HI.out HZ0.out HZ1.out HZ2.out (by rfl) (by decide) (some ⟨g, 0, none⟩) 16 16 (((rawBytes h L M h.sum).take 16).map (Value.int .u8)) (by rfl) (by exact fun h => nomatch h) HO.out.1 (by intro b hb; injection hb with hb; subst hb; exact HO.out.2) ⟨w3.heap.size, 14, none⟩ (r - 14) (r - 14) (((ffill ((rawBytes h L M h.sum).drop 2) 14).drop 14).map (Value.int .u8)) (by rfl) HN.out.1 HN.out.2 (oneCell_ints _ _) (by omega) (by unfold maxLen; omega) (by omega) ?_; intro v5 w5 ho hgr))
  have e : ((rawBytes h L M h.sum).take 16).map (Value.int .u8) ++ ((ffill ((rawBytes h L M h.sum).drop 2) 14).drop 14).map (Value.int .u8) = (lsaBytes h L M).map (Value.int .u8) := by
    rw [← List.map_append, sealed_bytes]
  have em : 16 + (r - 14) = m := by
    have h1 := lsaBytes_length h L M
    rw [Hm.out, Hq.out] at h1
    have h2 := HR.out
    omega
  rw [e, em] at ho
  have HO5 := Lib.hid (show Acc w w5 v5 m (lsaBytes h L M) from ⟨own_lower ho (by have := B4.out.size; simpa using this), (below_drewN B4.out 1).grown hgr (by have := B4.out.size; simpa using this) (fun k hk => by cases hk)⟩)
  clear e em ho hgr i1 i2 i3 i4 i5 HO HN
  go_wp2
  go_ret
  rw [← HQ.out]
  exact ⟨v5, by rfl, HO5.out⟩
end Go.Proofs.Ytnnkcgbnhjkahaa
namespace Go.Proofs.Ytnnkcgbnhjkahaa
open Go.RowKit

theorem right_kind {h : Hd} {L : List Lk} {M : List Int} (hr : rightB h L M = true) : h.kind = 1 ∨ h.kind = 2 := by
  unfold rightB headB at hr
  simp only [Bool.and_eq_true, inB_iff] at hr
  omega

end Go.Proofs.Ytnnkcgbnhjkahaa
namespace Go.Proofs.Ytnnkcgbnhjkahaa
open Go.RowKit

set_option maxRecDepth 4000 in
set_option maxHeartbeats 1000000 in
theorem refFirst_any (A : Option Addr) (n c B : Nat) (l : List Int) (w : World) (hr : Row .u8 w B A n l) (hby : Byt l) (hn : n ≤ 1048576) :
    Calls Try.prog 100 #[.slice A n c] w fun e w' => e = .returned (.int .i64 (ffst l % 255)) ∧ w = w' := by
  have HR := Lib.hid hr
  have HY := Lib.hid hby
  clear hr hby
  go_enter Try.func100, Try.ntmps100
  go_wp2_with fail
  go_loop [3, 4] (fun v i => ∃ (q : Nat) (f : Int), q ≤ n ∧ i = .int .i64 q ∧ v = .int .i64 f ∧ Hid (f = ffst (l.take q))) (fun _ i => n - (intOf i).toNat)
  case atStart => exact ⟨0, 0, Nat.zero_le _, rfl, rfl, Lib.hid rfl⟩
  case round =>
    obtain ⟨q, f, hq, rfl, rfl, hf⟩ := hrel
    have hlen := HR.out.1
    have hbd := ffst_bd _ (HY.out.take q)
    rw [← hf.out, List.length_take] at hbd
    have hf0 : 0 ≤ f := hbd.1
    have hf1 : f ≤ 255 * 1048576 := by omega
    clear hbd
    by_cases hlt : q < n
    · obtain ⟨b, o, rfl, hb, hc⟩ := HR.out.2 (by omega)
      have hx := hc q hlt
      have hbx := HY.out.getD q
      have hs := take_snoc l q (by omega)
      generalize l.getD q 0 = z at *
      have HS := Lib.hid (show f + z = ffst (l.take (q + 1)) by rw [hs, ffst_snoc, hf.out])
      clear hc hs hlen hf
      go_wp2
      go_round
      case rel => exact ⟨q + 1, f + z, by omega, by go_num, by go_num, HS⟩
      case measure => simp [intOf]; omega
    · have h2 := hf.out
      rw [List.take_of_length_le (by omega)] at h2
      have HF := Lib.hid h2
      clear h2 hlen hf
      go_wp2
      go_ret
      exact ⟨ret_int (by rw [HF.out]), rfl⟩

/-- What the reference has of the second sum behind the first q bytes. -/
def part2 (l : List Int) (q : Nat) : Int := fsnd (l.take q) + ((l.length : Int) - q) * ffst (l.take q)
theorem part2_succ (l : List Int) (q : Nat) (h : q < l.length) : part2 l (q + 1) = part2 l q + ((l.length : Int) - q) * l.getD q 0 := by
  unfold part2
  rw [take_snoc l q h, ffst_snoc, fsnd_snoc]
  push_cast
  grind
theorem part2_end (l : List Int) : part2 l l.length = fsnd l := by
  unfold part2
  rw [List.take_of_length_le (Nat.le_refl _), Int.sub_self, Int.zero_mul, Int.add_zero]

set_option maxRecDepth 4000 in
set_option maxHeartbeats 1000000 in
theorem refSecond_any (A : Option Addr) (n c B : Nat) (l : List Int) (w : World) (hr : Row .u8 w B A n l) (hby : Byt l) (hn : n ≤ 1048576) :
    Calls Try.prog 120 #[.slice A n c] w fun e w' => e = .returned (.int .i64 (fsnd l % 255)) ∧ w = w' := by
  have HR := Lib.hid hr
  have HY := Lib.hid hby
  clear hr hby
  go_enter Try.func120, Try.ntmps120
  go_wp2_with fail
  go_loop [3, 4] (fun v i => ∃ (q : Nat) (f : Int), q ≤ n ∧ i = .int .i64 q ∧ v = .int .i64 f ∧ 0 ≤ f ∧ f ≤ 267386880 * q ∧ Hid (f = part2 l q)) (fun _ i => n - (intOf i).toNat)
  case atStart => exact ⟨0, 0, Nat.zero_le _, rfl, rfl, by omega, by omega, Lib.hid (by unfold part2; simp [ffst, fsnd])⟩
  case round =>
    obtain ⟨q, f, hq, rfl, rfl, hf0, hf1, hf⟩ := hrel
    have hlen := HR.out.1
    by_cases hlt : q < n
    · obtain ⟨b, o, rfl, hb, hc⟩ := HR.out.2 (by omega)
      have hx := hc q hlt
      have hbx := HY.out.getD q
      have hs := part2_succ l q (by omega)
      rw [hlen, ← hf.out] at hs
      generalize l.getD q 0 = z at *
      have hp0 : 0 ≤ ((n : Int) - q) * z := Int.mul_nonneg (by omega) (by omega)
      have hp1 : ((n : Int) - q) * z ≤ 1048576 * 255 := Int.mul_le_mul (by omega) (by omega) (by omega) (by omega)
      have HS := Lib.hid hs.symm
      clear hc hs hlen hf
      go_wp2
      go_round
      case rel => exact ⟨q + 1, f + ((n : Int) - q) * z, by omega, by go_num, by go_num, by omega, by omega, HS⟩
      case measure => simp [intOf]; omega
    · obtain rfl : q = n := by omega
      have h2 := hf.out
      rw [← hlen, part2_end] at h2
      have HF := Lib.hid h2
      clear h2 hlen hf
      go_wp2
      go_ret
      exact ⟨ret_int (by rw [HF.out]), rfl⟩

set_option maxRecDepth 4000 in
set_option maxHeartbeats 1000000 in
theorem refWhole_any (A : Option Addr) (n c B : Nat) (l : List Int) (w : World) (hr : Row .u8 w B A n l) (hby : Byt l) (hn : n ≤ 1048576) :
    Calls Try.prog 101 #[.slice A n c] w fun e w' => e = .returned (.bool (wholeB l)) ∧ w = w' := by
  have HR := Lib.hid hr
  have HY := Lib.hid hby
  have hlen := hr.1
  clear hr hby
  go_enter Try.func101, Try.ntmps101
  by_cases h0 : 0 < n
  · have HW := Lib.hid (show wholeB l = (decide (ffst l % 255 = 0) && decide (fsnd l % 255 = 0)) by unfold wholeB; rw [hlen]; simp [h0])
    clear hlen
    go_wp2_with fail
    refine (refFirst_any A n c B l _ HR.out HY.out hn).mono ?_
    rintro e1 w1 ⟨rfl, rfl⟩
    generalize ffst l % 255 = x at *
    by_cases hx : x = 0
    · subst hx
      go_wp2_with fail
      refine (refSecond_any A n c B l _ HR.out HY.out hn).mono ?_
      rintro e1 w1 ⟨rfl, rfl⟩
      generalize fsnd l % 255 = y at *
      go_wp2
      go_ret
      exact ⟨by rw [HW.out]; simp; exact Bool.eq_iff_iff.2 (by simp), rfl⟩
    · have hd : (x == 0) = false := by simp; omega
      go_wp2
      go_ret
      exact ⟨by rw [HW.out]; simp [hx], rfl⟩
  · have HW := Lib.hid (show wholeB l = false from decide_eq_false (by omega))
    clear hlen
    go_wp2
    go_ret
    exact ⟨by rw [HW.out]; rfl, rfl⟩
end Go.Proofs.Ytnnkcgbnhjkahaa
namespace Go.Proofs.Ytnnkcgbnhjkahaa
open Go.RowKit

set_option maxRecDepth 4000 in
set_option maxHeartbeats 4000000 in
theorem refFfill_ok (A : Option Addr) (n c B : Nat) (k : Nat) (l : List Int) (w : World) (hr : Row .u8 w B A n l) (hby : Byt l) (hn : n ≤ 1048576) (hk2 : k + 2 ≤ n) :
    Calls Try.prog 77 #[.slice A n c, .int .i64 (k : Int)] w fun e w' => (∃ A' c', e = .returned (.slice A' n c') ∧ Row .u8 w' w'.heap.size A' n (ffill l k)) ∧ Below w.heap.size w w' := by
  generalize hQ : (fun (e : Ending) (w' : World) => (∃ A' c', e = .returned (.slice A' n c') ∧ Row .u8 w' w'.heap.size A' n (ffill l k)) ∧ Below w.heap.size w w') = Q
  have HQ := Lib.hid hQ
  have HR := Lib.hid hr
  have HY := Lib.hid hby
  have HL := Lib.hid hr.1
  clear hr hby hQ
  go_enter Try.func77, Try.ntmps77
  go_upto_region 3 with (at_builtin; refine wpList_append_row rfl (.tmp 8) (.tmp 9) rfl w.heap.size (.slice none 0 0) 0 [] (by rfl) (by exact World.ownsRow_nil w _ _ _) B A n c l (by rfl) (by exact HR.out) (by omega) (by simp) ?_; intro v2 w2 ho2 hg2 hl2)
  have o2 := ho2.out
  rw [Nat.zero_add, List.nil_append] at o2
  obtain ⟨g, c2, rest, rfl, hbg, hnc, hk⟩ := own_blk o2 (by omega)
  have hb2 : Below w.heap.size w w2 := (Below.refl _ _).grown hg2.out (Nat.le_refl _) (fun k hk => by cases hk)
  have hlen := HL.out
  have hc0 := hk.atR k (by omega)
  have hc1 := hk.atR (k + 1) (by omega)
  have hf0 := hk.frozen k
  have hf1 := hk.frozen (k + 1)
  have HK := Lib.hid (show Blk ((w2.setCell ⟨g, k, none⟩ (.int .u8 0)).setCell ⟨g, k + 1, none⟩ (.int .u8 0)) g 5 ((fzero l k).map (Value.int .u8) ++ rest).toArray from (hk.setR k (by omega) 0).setR (k + 1) (by simp; omega) 0)
  have HB3 := Lib.hid (show Below w.heap.size w ((w2.setCell ⟨g, k, none⟩ (.int .u8 0)).setCell ⟨g, k + 1, none⟩ (.int .u8 0)) from (hb2.setCell hbg _).setCell hbg _)
  clear hk hlen hb2 o2 hl2 hg2 ho2
  go_upto_region 5 with fail
  clear hc0 hc1 hf0 hf1
  generalize (w2.setCell ⟨g, k, none⟩ (.int .u8 0)).setCell ⟨g, k + 1, none⟩ (.int .u8 0) = w3 at *
  have hr3 := HK.out.rowR
  rw [fzero_eq, put2_length, HL.out] at hr3
  have HR3 := Lib.hid hr3
  clear hr3
  go_wp2_with fail
  refine (refFirst_any _ n c2 w3.heap.size (fzero l k) _ HR3.out (put2_byt HY.out k (by omega) (by omega) (by omega) (by omega)) hn).mono ?_
  rintro e2 w4 ⟨rfl, rfl⟩
  have HI : Hid (∀ i j : Int, 0 ≤ i → i ≤ 254 → j = (-(ffst (fzero l k) % 255) - i) % 255 → wholeB (put2 l k i j) = decide (i = lackX (ffst (fzero l k) % 255) (fsnd (fzero l k) % 255) ((l.length : Int) - k - 1)) ∧ (i = lackX (ffst (fzero l k) % 255) (fsnd (fzero l k) % 255) ((l.length : Int) - k - 1) → put2 l k i j = ffill l k)) :=
    fun i j h0 h1 hj => ⟨whole_iff l k (by rw [HL.out]; omega) i j h0 h1 hj, fun hi => by rw [hj, hi]; rfl⟩
  have hX := lackX_bd (ffst (fzero l k) % 255) (fsnd (fzero l k) % 255) ((l.length : Int) - k - 1)
  have hx : 0 ≤ ffst (fzero l k) % 255 ∧ ffst (fzero l k) % 255 < 255 := by omega
  have HZ : Hid (∃ a b, Blk w3 g 5 ((put2 l k a b).map (Value.int .u8) ++ rest).toArray) := ⟨0, 0, HK.out⟩
  generalize lackX (ffst (fzero l k) % 255) (fsnd (fzero l k) % 255) ((l.length : Int) - k - 1) = X at *
  generalize ffst (fzero l k) % 255 = x at *
  clear HR3 HK
  go_wp2_with fail
  go_loopw [7] (fun i wr => ∃ q : Nat, (q : Int) ≤ X ∧ i = .int .i64 q ∧ Hid (∃ a b, Blk wr g 5 ((put2 l k a b).map (Value.int .u8) ++ rest).toArray) ∧ Hid (Below w.heap.size w wr)) (fun i _ => 255 - (intOf i).toNat)
  case atStart => exact ⟨0, by omega, rfl, HZ, HB3⟩
  case round =>
    obtain ⟨q, hq, rfl, hz, hb⟩ := hrel
    clear HZ HB3
    obtain ⟨a, b, hk⟩ := hz.out
    have hl1 := put2_length l k a b
    rw [HL.out] at hl1
    have hc0 := hk.atR k (by omega)
    have hc1 := hk.atR (k + 1) (by omega)
    have hf0 := hk.frozen k
    have hf1 := hk.frozen (k + 1)
    have hj0 : 0 ≤ (510 - x - q) % 255 := by omega
    have hj1 : (510 - x - q) % 255 ≤ 254 := by omega
    have hi := HI.out q ((510 - x - q) % 255) (by omega) (by omega) (by omega)
    have hk4 := (hk.setR k (by omega) (q : Int)).setR (k + 1) (by simp; omega) ((510 - x - q) % 255)
    have e4 : ((put2 l k a b).set k (q : Int)).set (k + 1) ((510 - x - q) % 255) = put2 l k q ((510 - x - q) % 255) := put2_put2 l k a b _ _
    rw [e4] at hk4
    have HK4 := Lib.hid hk4
    have HB4 := Lib.hid ((hb.out.setCell (p := ⟨g, k, none⟩) hbg (.int .u8 (q : Int))).setCell (p := ⟨g, k + 1, none⟩) hbg (.int .u8 ((510 - x - q) % 255)))
    have HI2 := Lib.hid hi
    clear hk hz hb hi hk4 e4 hl1
    generalize (put2 l k a b).getD k 0 = u0 at *
    generalize (put2 l k a b).getD (k + 1) 0 = u1 at *
    generalize hj : (510 - x - q) % 255 = j at *
    have HJ := Lib.hid hj
    clear hj
    have hq2 : (q : Int) ≤ 254 := by omega
    have HX := Lib.hid hq
    clear hq hX
    go_wp2_with fail
    rw [HJ.out]
    clear hc0 hc1 hf0 hf1
    generalize (wr.setCell ⟨g, k, none⟩ (.int .u8 (q : Int))).setCell ⟨g, k + 1, none⟩ (.int .u8 j) = w5 at *
    have hr5 := HK4.out.rowR
    rw [put2_length, HL.out] at hr5
    have HR5 := Lib.hid hr5
    have HY5 := Lib.hid (put2_byt HY.out k (x := (q : Int)) (y := j) (by omega) (by omega) hj0 (by omega))
    clear hr5
    refine (refWhole_any _ n c2 w5.heap.size (put2 l k q j) _ HR5.out HY5.out hn).mono ?_
    rintro e6 w6 ⟨rfl, rfl⟩
    rw [HI2.out.1]
    by_cases hqX : (q : Int) = X
    · have hfl := HI2.out.2 hqX
      have hr6 := HR5.out
      rw [hfl] at hr6
      have HR6 := Lib.hid hr6
      rw [decide_eq_true hqX]
      clear hfl hr6 hqX
      go_wp2
      rw [← HQ.out]
      exact ⟨⟨_, _, rfl, HR6.out⟩, HB4.out⟩
    · rw [decide_eq_false hqX]
      have hlt := HX.out
      go_wp2
      go_roundw
      case rel => exact ⟨q + 1, by omega, by go_num, ⟨q, j, HK4.out⟩, HB4⟩
      case measure => simp [intOf]; omega
end Go.Proofs.Ytnnkcgbnhjkahaa
namespace Go.Proofs.Ytnnkcgbnhjkahaa
open Go.RowKit

/-- Block x is known whole, and the row v is not in it. -/
def Keep (w : World) (v : Value) (x : Nat) (t : TypeId) (cs : Array Value) : Prop := Blk w x t cs ∧ v.ownBlock ≠ some x
theorem Keep.below {w w' : World} {v : Value} {x : Nat} {t : TypeId} {cs : Array Value} (h : Keep w v x t cs) (hb : Below w.heap.size w w') : Keep w' v x t cs := ⟨h.1.below hb h.1.lt, h.2⟩
theorem Keep.alloc {w : World} {v : Value} {x : Nat} {t : TypeId} {cs : Array Value} (h : Keep w v x t cs) (o : Obj) : Keep (w.alloc o) v x t cs := ⟨h.1.alloc o, h.2⟩
theorem keep_new {w0 w : World} {v : Value} {n : Nat} {L : List Int} (h : Acc w0 w v n L) (t : TypeId) (cs : Array Value) : Keep (w.alloc (.cells cs t)) v w.heap.size t cs :=
  ⟨Blk.new w t cs, fun e => by have := (h.1.lt _ e).2; omega⟩
theorem wpList_append_keep {w : World} {ops : Array Oper} {rest : List Oper} {o : Oper} {a : Act} {Q : Exit → Act → World → Prop} (hgd : o.guard = none) (s x : Operand)
    (ho : o.op = .call { callee := .builtin .append, args := #[s, x], argTypes := #[98, 98] }) (w0 : World) (v : Value) (n : Nat) (L : List Int) (hs : a.eval s = v) (hacc : Acc w0 w v n L)
    (xb : Nat) (t : TypeId) (cs : Array Value) (hkeep : Keep w v xb t cs)
    (B : Nat) (A : Option Addr) (m c : Nat) (l : List Int) (hx : a.eval x = .slice A m c) (hr : Row .u8 w B A m l) (n' : Nat) (hn' : n + m = n') (hz : n' ≤ 1099511627776)
    (h : ∀ v' w', Hid (Acc w0 w' v' n' (L ++ l)) → Hid (Keep w' v' xb t cs) → wpList Try.prog ops Q rest (a.put o.dst v') w') : wpList Try.prog ops Q (o :: rest) a w := by
  subst hn'
  refine wpList_append_row hgd s x ho w0.heap.size v n _ hs hacc.1 B A m c l hx hr hz hacc.2.size ?_
  intro v' w' h1 h2 h3
  refine h v' w' ⟨?_, ?_⟩ ⟨?_, ?_⟩
  · rw [List.map_append]; exact h1.out
  · exact hacc.2.grown h2.out hacc.2.size (fun k hk => (hacc.1.lt k hk).1)
  · exact (h2.out.block xb hkeep.1.lt (fun e => hkeep.2 e.symm)).trans hkeep.1
  · rcases h3.out with e | e
    · rw [e]; exact hkeep.2
    · rw [e]
      intro q
      injection q with q
      have := hkeep.1.lt
      omega
/-- A row of the call's own, as a slice value. -/
theorem Acc.form {w0 w : World} {v : Value} {n : Nat} {L : List Int} (h : Acc w0 w v n L) : ∃ A c, v = .slice A n c ∧ n ≤ c ∧ c ≤ maxLen ∧ Row .u8 w w.heap.size A n L := by
  obtain ⟨A, c, h1, h2, h3, h4, _⟩ := h.putN
  injection h1 with h1
  exact ⟨A, c, h1, h2, h3, h4⟩
theorem Acc.some {w0 w : World} {v : Value} {n : Nat} {L : List Int} (h : Acc w0 w v n L) (hn : 0 < n) : ∃ g c, v = .slice (some ⟨g, 0, none⟩) n c ∧ n ≤ c ∧ c ≤ maxLen ∧ g < w.heap.size ∧ w0.heap.size ≤ g ∧ Row .u8 w w.heap.size (some ⟨g, 0, none⟩) n L := by
  obtain ⟨g, c, rest, rfl, hg, hc, hk⟩ := own_blk h.1 hn
  obtain ⟨A', c', h1, h2, h3, h4⟩ := h.form
  injection h1 with h1 _ h5
  subst h1 h5
  exact ⟨g, c, rfl, h2, h3, hk.lt, hg, h4⟩
/-- The first m of n. -/
theorem Row.head {k : IntKind} {w : World} {B n : Nat} {A : Option Addr} {l : List Int} (h : Row k w B A n l) (m : Nat) (hm : m ≤ n) : Row k w B A m (l.take m) :=
  ⟨by have := h.1; simp; omega, fun h0 => by
    obtain ⟨b, o, e, hb, hc⟩ := h.2 (by omega)
    refine ⟨b, o, e, hb, fun j hj => ?_⟩
    have := hc j (by omega)
    simpa [List.getElem?_take, hj] using this⟩
set_option maxRecDepth 100000 in
set_option maxRecDepth 4000 in
set_option maxHeartbeats 4000000 in
theorem refLsaBytes_net (h : Hd) (L : List Lk) (M : List Int) (A A' : Option Addr) (n c n' c' B m : Nat) (w : World) (hL : L.length = n) (hM : Row .i64 w B A' n' M) (hB : B ≤ w.heap.size) (hn : n = 0) (hn' : n' ≤ 50) (hk : (h.kind == 1) = false) (hm : (lsaBytes h L M).length = m) :
    Calls Try.prog 56 #[.agg #[.int .i64 h.age, .int .i64 h.kind, .int .i64 h.id, .int .i64 h.adv, .int .i64 h.seq, .int .i64 h.sum, .int .i64 h.long, .slice A n c, .slice A' n' c']] w
    (PutA w (lsaBytes h L M) m) := by
  generalize hQ : PutA w (lsaBytes h L M) m = Q
  have HQ := Lib.hid hQ
  have HM := Lib.hid hM
  have HN := Lib.hid hM.1
  have Hm := Lib.hid hm
  have HV := Lib.hid (show bodyBytes h L M = encs 4 M by unfold bodyBytes; rw [if_neg (by simpa using hk)])
  obtain ⟨q, hq⟩ : ∃ q, n' * 4 = q := ⟨_, rfl⟩
  have hq2 : q ≤ 200 := by omega
  have Hq := Lib.hid (show (bodyBytes h L M).length = q by rw [HV.out, encs_length, HN.out, hq])
  have HQ4 := Lib.hid hq
  subst hn
  clear hQ hL hM hm hq
  have B0 := Lib.hid ((Below.refl w.heap.size w).alloc (Nat.le_refl _) (.cells #[.int .i64 h.age, .int .i64 h.kind, .int .i64 h.id, .int .i64 h.adv, .int .i64 h.seq, .int .i64 h.sum, .int .i64 h.long, .slice A 0 c, .slice A' n' c'] 62))
  have K0 := Lib.hid (Blk.new w 62 #[.int .i64 h.age, .int .i64 h.kind, .int .i64 h.id, .int .i64 h.adv, .int .i64 h.seq, .int .i64 h.sum, .int .i64 h.long, .slice A 0 c, .slice A' n' c'])
  go_enter Try.func56, Try.ntmps56
  go_wp2_with fail
  have hw0 : ∃ w0, w.alloc (.cells #[.int .i64 h.age, .int .i64 h.kind, .int .i64 h.id, .int .i64 h.adv, .int .i64 h.seq, .int .i64 h.sum, .int .i64 h.long, .slice A 0 c, .slice A' n' c'] 62) = w0 := ⟨_, rfl⟩
  obtain ⟨w0, hw0⟩ := hw0
  rw [hw0] at K0 B0 ⊢
  clear hw0
  go_loopw [3, 6] (fun b i wr => ∃ k : Nat, k ≤ n' ∧ i = .int .i64 k ∧ Hid (Acc w0 wr b (k * 4) (encs 4 (M.take k)))) (fun _ i _ => n' - (intOf i).toNat)
  case atStart => exact ⟨0, Nat.zero_le _, rfl, Lib.hid (Acc.nil (Below.refl _ _))⟩
  case round =>
    obtain ⟨k, hk2, rfl, ha⟩ := hrel
    obtain ⟨k0, k1, k2, k3, k4, k5, k6, k7, k8⟩ := (ha.out.blk K0.out).nine
    by_cases hlt : k < n'
    · obtain ⟨b, o, rfl, hbb, hc⟩ := ((HM.out.below (B0.out.mono hB)).below (ha.out.2.mono (by have := B0.out.size; omega))).2 (by omega)
      have c0 := hc k hlt
      clear hc
      generalize hy : M.getD k 0 = y at *
      have HY := Lib.hid hy
      clear hy
      go_wp2_with fail
      refine (refBytes_n y 4 4 rfl _).mono ?_
      rintro e1 w1 ⟨rfl, hb1, hr1⟩
      have C1 := Lib.hid (ha.out.below hb1)
      have R1 := Lib.hid hr1
      clear hb1 hr1 k0 k1 k2 k3 k4 k5 k6 k7 k8 c0
      go_wp2_with (at_builtin; refine wpList_append_acc rfl (.tmp 60) (.tmp 66) rfl w0 _ (k * 4) _ (by rfl) (by exact C1.out) _ _ 4 4 _ (by rfl) (by exact R1.out) ((k + 1) * 4) (by omega) (by omega) ?_; intro v2 w2 ha2)
      go_roundw
      case rel =>
        refine ⟨k + 1, by omega, by go_num, Lib.hid ?_⟩
        rw [encs_snoc 4 M k (by rw [HN.out]; exact hlt), HY.out]
        exact ha2.out
      case measure => simp [intOf]; omega
    · obtain rfl : k = n' := by omega
      have h1 := ha.out
      rw [List.take_of_length_le (by rw [HN.out]; omega), ← HV.out, HQ4.out] at h1
      have HA3 := Lib.hid h1
      clear h1 ha k0 k1 k2 k3 k4 k5 k6 k7 k8
      obtain ⟨A3, c3, rfl, hc3, hm3, hr3⟩ := HA3.out.form
      have R3 := Lib.hid hr3
      obtain ⟨k0, k1, k2, k3, k4, k5, k6, k7, k8⟩ := (HA3.out.blk K0.out).nine
      clear hr3
      go_wp2_with fail
      refine (refHeadBytes_any { h with sum := 0, long := 20 + (q : Int) } _).mono ?_
      rintro e4 w4 ⟨v4, rfl, ha4⟩
      have BB := (HA3.out.2.alloc HA3.out.2.size (.cells #[.int .i64 h.age, .int .i64 h.kind, .int .i64 h.id, .int .i64 h.adv, .int .i64 h.seq, .int .i64 0, .int .i64 (20 + (q : Int))] 38))
      have HA4 := Lib.hid (ha4.lower BB)
      have R4 := Lib.hid ((R3.out.alloc (Nat.le_refl _) _).below (ha4.2.mono (by simp)))
      clear ha4 BB k0 k1 k2 k3 k4 k5 k6 k7 k8 R3 HA3
      go_upto_region 21 with (at_builtin; refine wpList_append_acc rfl (.tmp 77) (.tmp 78) rfl w0 v4 20 _ (by rfl) (by exact HA4.out) _ _ q c3 _ (by rfl) (by exact R4.out) (20 + q) (by rfl) (by omega) ?_; intro v5 w5 ha5)
      have HRAW := Lib.hid (show headBytes { h with sum := 0, long := 20 + (q : Int) } ++ bodyBytes h L M = rawBytes h L M 0 by
        unfold rawBytes; rw [Hq.out])
      have ha := ha5.out
      rw [HRAW.out] at ha
      have HA5 := Lib.hid ha
      obtain ⟨g5, c5, rfl, hc5, hm5, hg5, hg5', hr5⟩ := ha.some (by omega)
      unfold maxLen at hm5
      have R5 := Lib.hid hr5
      have hr5b := cut_some _ _ 2 (20 + q - 2) (by omega) _ _ _ _ hr5
      rw [List.take_of_length_le (by have := rawBytes_length h L M 0; rw [Hq.out] at this; simp; omega)] at hr5b
      have R5b := Lib.hid (show Row .u8 w5 w5.heap.size (some ⟨g5, 2, none⟩) (20 + q - 2) ((rawBytes h L M 0).drop 2) from hr5b)
      clear ha ha5 HA4 R4 hr5 hr5b
      go_upto_region 23 with (at_builtin; refine wpList_append_acc rfl (.tmp 80) (.tmp 82) rfl w5 (.slice none 0 0) 0 [] (by rfl) (by exact Acc.nil (Below.refl _ _)) _ (some ⟨g5, 0, none⟩) 2 c5 _ (by rfl) (by exact R5.out.head 2 (by omega)) 2 (by rfl) (by omega) ?_; intro v6 w6 ha6)
      have R6b := Lib.hid (R5b.out.below ha6.out.2)
      have HA6 := Lib.hid (ha6.out.lower HA5.out.2)
      clear R5b R5 ha6
      go_wp2_with fail
      refine (refFfill_ok (some ⟨g5, 2, none⟩) (20 + q - 2) (c5 - 2) w5.heap.size 14 _ w6 R6b.out ((rawBytes_byt h L M 0).drop 2) (by omega) (by omega)).mono ?_
      rintro e7 w7 ⟨⟨A7, c7, rfl, hr7⟩, hb7⟩
      have HA7 := Lib.hid (HA6.out.below hb7)
      have R7 := Lib.hid hr7
      clear hr7 hb7 HA6 R6b
      go_wp2_with (at_builtin; refine wpList_append_acc rfl (.tmp 84) (.tmp 87) rfl w0 v6 2 _ (by rfl) (by exact HA7.out) _ A7 (20 + q - 2) c7 _ (by rfl) (by exact R7.out) m (by have := lsaBytes_length h L M; rw [Hm.out, Hq.out] at this; omega) (by have := lsaBytes_length h L M; rw [Hm.out, Hq.out] at this; omega) ?_; intro v8 w8 ha8)
      rw [← HQ.out]
      refine ⟨_, rfl, ?_⟩
      have h8 := ha8.out.lower B0.out
      rw [List.nil_append] at h8
      exact h8

set_option maxRecDepth 100000 in
set_option maxRecDepth 4000 in
set_option maxHeartbeats 8000000 in
theorem refLsaBytes_rt (h : Hd) (L : List Lk) (M : List Int) (A A' : Option Addr) (n c n' c' B m : Nat) (w : World) (hL : Lnk w B A n L) (hM : M.length = n') (hB : B ≤ w.heap.size) (hn : n ≤ 50) (hn' : n' = 0) (hk : (h.kind == 1) = true) (hm : (lsaBytes h L M).length = m) :
    Calls Try.prog 56 #[.agg #[.int .i64 h.age, .int .i64 h.kind, .int .i64 h.id, .int .i64 h.adv, .int .i64 h.seq, .int .i64 h.sum, .int .i64 h.long, .slice A n c, .slice A' n' c']] w
    (PutA w (lsaBytes h L M) m) := by
  generalize hQ : PutA w (lsaBytes h L M) m = Q
  have HQ := Lib.hid hQ
  have HL := Lib.hid hL
  have HN := Lib.hid hL.1
  have Hm := Lib.hid hm
  have HV := Lib.hid (show bodyBytes h L M = enc L.length 4 ++ linksBytes L by unfold bodyBytes; rw [if_pos (by simpa using hk)])
  obtain ⟨q, hq⟩ : ∃ q, 4 + n * 12 = q := ⟨_, rfl⟩
  have hq2 : q ≤ 604 := by omega
  have Hq := Lib.hid (show (bodyBytes h L M).length = q by rw [HV.out, List.length_append, enc_length, linksBytes_length, HN.out, hq])
  have HQ4 := Lib.hid hq
  subst hn'
  clear hQ hL hM hm hq
  have B0 := Lib.hid ((Below.refl w.heap.size w).alloc (Nat.le_refl _) (.cells #[.int .i64 h.age, .int .i64 h.kind, .int .i64 h.id, .int .i64 h.adv, .int .i64 h.seq, .int .i64 h.sum, .int .i64 h.long, .slice A n c, .slice A' 0 c'] 62))
  have K0 := Lib.hid (Blk.new w 62 #[.int .i64 h.age, .int .i64 h.kind, .int .i64 h.id, .int .i64 h.adv, .int .i64 h.seq, .int .i64 h.sum, .int .i64 h.long, .slice A n c, .slice A' 0 c'])
  go_enter Try.func56, Try.ntmps56
  go_wp2_with fail
  have hw0 : ∃ w0, w.alloc (.cells #[.int .i64 h.age, .int .i64 h.kind, .int .i64 h.id, .int .i64 h.adv, .int .i64 h.seq, .int .i64 h.sum, .int .i64 h.long, .slice A n c, .slice A' 0 c'] 62) = w0 := ⟨_, rfl⟩
  obtain ⟨w0, hw0⟩ := hw0
  rw [hw0] at K0 B0 ⊢
  clear hw0
  refine (refBytes_n n 4 4 rfl _).mono ?_
  rintro e1 w1 ⟨rfl, hb1, hr1⟩
  have C1 := Lib.hid ((Acc.nil (Below.refl w0.heap.size w0)).below hb1)
  have R1 := Lib.hid hr1
  clear hb1 hr1
  go_wp2_with (at_builtin; refine wpList_append_acc rfl (.tmp 14) (.tmp 18) rfl w0 (.slice none 0 0) 0 [] (by rfl) (by exact C1.out) _ _ 4 4 _ (by rfl) (by exact R1.out) 4 (by rfl) (by omega) ?_; intro v2 w2 ha)
  clear C1 R1
  go_loopw [3, 4] (fun b i wr => ∃ k : Nat, k ≤ n ∧ i = .int .i64 k ∧ Hid (Acc w0 wr b (4 + k * 12) (enc n 4 ++ linksBytes (L.take k)))) (fun _ i _ => n - (intOf i).toNat)
  case atStart => exact ⟨0, Nat.zero_le _, rfl, Lib.hid (by simpa [linksBytes] using ha.out)⟩
  case round =>
    clear ha
    obtain ⟨k, hk2, rfl, ha⟩ := hrel
    obtain ⟨k0, k1, k2, k3, k4, k5, k6, k7, k8⟩ := (ha.out.blk K0.out).nine
    by_cases hlt : k < n
    · obtain ⟨b, o, rfl, hbb, hc⟩ := ((HL.out.below (B0.out.mono hB)).below (ha.out.2.mono (by have := B0.out.size; omega))).2 (by omega)
      obtain ⟨d0, d1, d2, d3⟩ := hc k hlt
      clear hc
      generalize hk3 : L.getD k ⟨0, 0, 0, 0⟩ = kk at d0 d1 d2 d3
      have HK := Lib.hid hk3
      have KP := Lib.hid (keep_new ha.out 96 #[.int .i64 kk.kind, .int .i64 kk.id, .int .i64 kk.data, .int .i64 kk.cost])
      have HA := fun o => Lib.hid (ha.out.alloc o)
      clear hk3
      go_wp2_with fail
      refine (refBytes_n kk.id 4 4 rfl _).mono ?_
      rintro e1 w3 ⟨rfl, hb1, hr1⟩
      have C1 := Lib.hid ((HA _).out.below hb1)
      have P1 := Lib.hid (KP.out.below hb1)
      rw [World.size_alloc] at hr1
      have R1 := Lib.hid hr1
      clear hb1 hr1 k0 k1 k2 k3 k4 k5 k6 k7 k8 d0 d1 d2 d3 HA KP ha
      go_upto_region 9 with (at_builtin; refine wpList_append_keep rfl (.tmp 32) (.tmp 35) rfl w0 _ (4 + k * 12) _ (by rfl) (by exact C1.out) _ _ _ (by exact P1.out) _ _ 4 4 _ (by rfl) (by exact R1.out) (8 + k * 12) (by omega) (by omega) ?_; intro v4 w4 ha4 hk4)
      obtain ⟨f0, f1, f2, f3⟩ := hk4.out.1.four
      clear C1 P1 R1
      go_wp2_with fail
      refine (refBytes_n kk.data 4 4 rfl _).mono ?_
      rintro e1 w5 ⟨rfl, hb1, hr1⟩
      have C1 := Lib.hid (ha4.out.below hb1)
      have P1 := Lib.hid (hk4.out.below hb1)
      have R1 := Lib.hid hr1
      clear hb1 hr1 f0 f1 f2 f3 ha4 hk4
      go_upto_region 10 with (at_builtin; refine wpList_append_keep rfl (.tmp 37) (.tmp 40) rfl w0 _ (8 + k * 12) _ (by rfl) (by exact C1.out) _ _ _ (by exact P1.out) _ _ 4 4 _ (by rfl) (by exact R1.out) (12 + k * 12) (by omega) (by omega) ?_; intro v6 w6 ha6 hk6)
      obtain ⟨f0, f1, f2, f3⟩ := hk6.out.1.four
      clear C1 P1 R1
      go_upto_region 11 with (at_builtin; refine wpList_append_keep rfl (.tmp 42) (.tmp 46) rfl w0 v6 (12 + k * 12) _ (by rfl) (by exact ha6.out.alloc _) _ _ _ (by exact hk6.out.alloc _) _ _ 2 2 [kk.kind % 256, 0] (by rfl) (by exact row_at w6 [kk.kind % 256, 0] 5 .u8 _ _ rfl rfl) (14 + k * 12) (by omega) (by omega) ?_; intro v7 w7 ha7 hk7)
      clear f0 f1 f2 f3
      obtain ⟨f0, f1, f2, f3⟩ := hk7.out.1.four
      clear ha6 hk6
      go_wp2_with fail
      refine (refBytes_n kk.cost 2 2 rfl _).mono ?_
      rintro e1 w8 ⟨rfl, hb1, hr1⟩
      have C1 := Lib.hid (ha7.out.below hb1)
      have R1 := Lib.hid hr1
      clear hb1 hr1 f0 f1 f2 f3 ha7 hk7
      go_wp2_with (at_builtin; refine wpList_append_acc rfl (.tmp 48) (.tmp 51) rfl w0 _ (14 + k * 12) _ (by rfl) (by exact C1.out) _ _ 2 2 _ (by rfl) (by exact R1.out) (4 + (k + 1) * 12) (by omega) (by omega) ?_; intro v9 w9 ha9)
      go_roundw
      case rel =>
        refine ⟨k + 1, by omega, by go_num, Lib.hid ?_⟩
        rw [linksBytes_snoc L k (by rw [HN.out]; exact hlt), HK.out]
        have h9 := ha9.out
        have e : enc (n : Int) 4 ++ linksBytes (L.take k) ++ enc kk.id 4 ++ enc kk.data 4 ++ [kk.kind % 256, 0] ++ enc kk.cost 2 = enc (n : Int) 4 ++ (linksBytes (L.take k) ++ linkBytes kk) := by
          simp [linkBytes, enc_one]
        rw [e] at h9
        exact h9
      case measure => simp [intOf]; omega
    · obtain rfl : k = n := by omega
      have h1 := ha.out
      rw [List.take_of_length_le (by rw [HN.out]; omega), HQ4.out] at h1
      have e2 : enc (k : Int) 4 ++ linksBytes L = bodyBytes h L M := by rw [HV.out, HN.out]
      rw [e2] at h1
      have HA2 := Lib.hid h1
      clear h1 ha e2
      go_wp2_with fail
      clear k0 k1 k2 k3 k4 k5 k6 k7 k8
      go_loopw [3, 6] (fun b i w3 => i = .int .i64 0 ∧ Hid (Acc w0 w3 b q (bodyBytes h L M))) (fun _ _ _ => 0)
      case atStart => exact ⟨rfl, HA2⟩
      case round =>
        clear HA2
        obtain ⟨rfl, HA3⟩ := hrel
        obtain ⟨A3, c3, rfl, hc3, hm3, hr3⟩ := HA3.out.form
        have R3 := Lib.hid hr3
        obtain ⟨k0, k1, k2, k3, k4, k5, k6, k7, k8⟩ := (HA3.out.blk K0.out).nine
        clear hr3
        go_wp2_with fail
        refine (refHeadBytes_any { h with sum := 0, long := 20 + (q : Int) } _).mono ?_
        rintro e4 w4 ⟨v4, rfl, ha4⟩
        have BB := (HA3.out.2.alloc HA3.out.2.size (.cells #[.int .i64 h.age, .int .i64 h.kind, .int .i64 h.id, .int .i64 h.adv, .int .i64 h.seq, .int .i64 0, .int .i64 (20 + (q : Int))] 38))
        have HA4 := Lib.hid (ha4.lower BB)
        have R4 := Lib.hid ((R3.out.alloc (Nat.le_refl _) _).below (ha4.2.mono (by simp)))
        clear ha4 BB k0 k1 k2 k3 k4 k5 k6 k7 k8 R3 HA3
        go_upto_region 21 with (at_builtin; refine wpList_append_acc rfl (.tmp 77) (.tmp 78) rfl w0 v4 20 _ (by rfl) (by exact HA4.out) _ _ q c3 _ (by rfl) (by exact R4.out) (20 + q) (by rfl) (by omega) ?_; intro v5 w5 ha5)
        have HRAW := Lib.hid (show headBytes { h with sum := 0, long := 20 + (q : Int) } ++ bodyBytes h L M = rawBytes h L M 0 by
          unfold rawBytes; rw [Hq.out])
        have ha := ha5.out
        rw [HRAW.out] at ha
        have HA5 := Lib.hid ha
        obtain ⟨g5, c5, rfl, hc5, hm5, hg5, hg5', hr5⟩ := ha.some (by omega)
        unfold maxLen at hm5
        have R5 := Lib.hid hr5
        have hr5b := cut_some _ _ 2 (20 + q - 2) (by omega) _ _ _ _ hr5
        rw [List.take_of_length_le (by have := rawBytes_length h L M 0; rw [Hq.out] at this; simp; omega)] at hr5b
        have R5b := Lib.hid (show Row .u8 w5 w5.heap.size (some ⟨g5, 2, none⟩) (20 + q - 2) ((rawBytes h L M 0).drop 2) from hr5b)
        clear ha ha5 HA4 R4 hr5 hr5b
        go_upto_region 23 with (at_builtin; refine wpList_append_acc rfl (.tmp 80) (.tmp 82) rfl w5 (.slice none 0 0) 0 [] (by rfl) (by exact Acc.nil (Below.refl _ _)) _ (some ⟨g5, 0, none⟩) 2 c5 _ (by rfl) (by exact R5.out.head 2 (by omega)) 2 (by rfl) (by omega) ?_; intro v6 w6 ha6)
        have R6b := Lib.hid (R5b.out.below ha6.out.2)
        have HA6 := Lib.hid (ha6.out.lower HA5.out.2)
        clear R5b R5 ha6
        go_wp2_with fail
        refine (refFfill_ok (some ⟨g5, 2, none⟩) (20 + q - 2) (c5 - 2) w5.heap.size 14 _ w6 R6b.out ((rawBytes_byt h L M 0).drop 2) (by omega) (by omega)).mono ?_
        rintro e7 w7 ⟨⟨A7, c7, rfl, hr7⟩, hb7⟩
        have HA7 := Lib.hid (HA6.out.below hb7)
        have R7 := Lib.hid hr7
        clear hr7 hb7 HA6 R6b
        go_wp2_with (at_builtin; refine wpList_append_acc rfl (.tmp 84) (.tmp 87) rfl w0 v6 2 _ (by rfl) (by exact HA7.out) _ A7 (20 + q - 2) c7 _ (by rfl) (by exact R7.out) m (by have := lsaBytes_length h L M; rw [Hm.out, Hq.out] at this; omega) (by have := lsaBytes_length h L M; rw [Hm.out, Hq.out] at this; omega) ?_; intro v8 w8 ha8)
        rw [← HQ.out]
        refine ⟨_, rfl, ?_⟩
        have h8 := ha8.out.lower B0.out
        rw [List.nil_append] at h8
        exact h8
end Go.Proofs.Ytnnkcgbnhjkahaa
