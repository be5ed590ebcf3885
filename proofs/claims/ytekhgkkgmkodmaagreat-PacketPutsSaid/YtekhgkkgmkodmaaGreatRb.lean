/- The reference of packets: which heads, and which Hello, may be. Conditions: the lists read as such. -/
import Derived.Test.YtekhgkkgmkodmaaGreatRa
namespace Go.Proofs.YtekhgkkgmkodmaaGreat
open Go.RowKit

set_option maxRecDepth 4000 in
set_option maxHeartbeats 4000000 in
theorem r5Heads_any (A : Option Addr) (n c B : Nat) (L : List Hd) (w : World) (hL : Hds w B A n L) (hB : B ≤ w.heap.size) (hn : n ≤ maxLen) :
    Calls Tryz.prog 21 #[.slice A n c] w fun e w' => e = .returned (.bool (L.all hdB && decide (L.length ≤ 3))) ∧ Below w.heap.size w w' := by
  unfold maxLen at hn
  have HL := Lib.hid hL
  have HN := Lib.hid hL.1
  clear hL
  rw [hds_is L]
  go_enter Tryz.func21, Tryz.ntmps21
  go_wp2_with fail
  go_loopw [3] (fun i wr => ∃ k : Nat, k ≤ n ∧ i = .int .i64 k ∧ Hid (Below w.heap.size w wr) ∧ Hid ((L.take k).all rhd = true)) (fun i _ => n - (intOf i).toNat)
  case atStart => exact ⟨0, Nat.zero_le _, rfl, Lib.hid (Below.refl _ _), Lib.hid rfl⟩
  case round =>
    obtain ⟨k, hk, rfl, hb, hall⟩ := hrel
    by_cases hlt : k < n
    · obtain ⟨b, o, x, rfl, hbb, hx, hat⟩ := Arr.at (HL.out.below (hb.out.mono hB)) hlt
      have HX := Lib.hid hx
      have HNO : Hid (rhd x = false → (L.all rhd && decide (L.length ≤ 3)) = false) := Lib.hid (fun h => by rw [allA_false _ _ k _ hx h]; rfl)
      obtain ⟨k0, k1, k2, k3, k4, k5, k6⟩ := hat
      clear hx
      have hsz := hb.out.size
      go_wp2_with fail
      refine (refHead_any x _).mono ?_
      rintro e2 w2 ⟨rfl, hb2⟩
      have HB2 := Lib.hid (hb.out.trans (hb2.mono hsz))
      have j2 := (hb2.cell (p := ⟨b, o + k * 7 + 2, none⟩) (by simp; omega)).trans k2
      have j5 := (hb2.cell (p := ⟨b, o + k * 7 + 5, none⟩) (by simp; omega)).trans k5
      have j6 := (hb2.cell (p := ⟨b, o + k * 7 + 6, none⟩) (by simp; omega)).trans k6
      clear hb2 k0 k1 k2 k3 k4 k5 k6
      cases h1 : headB x
      · have HE := Lib.hid (HNO.out (by unfold rhd; rw [h1]; rfl))
        go_wp2
        go_ret
        exact ⟨ret_bool HE.out.symm, HB2.out⟩
      go_wp2_with fail
      refine (r5In_any _ _ _ _).mono ?_
      rintro e3 w3 ⟨rfl, rfl⟩
      cases h2 : inB x.id 0 4294967295
      · have HE := Lib.hid (HNO.out (by unfold rhd; rw [h1, h2]; rfl))
        go_wp2
        go_ret
        exact ⟨ret_bool HE.out.symm, HB2.out⟩
      go_wp2_with fail
      refine (r5In_any _ _ _ _).mono ?_
      rintro e4 w4 ⟨rfl, rfl⟩
      cases h3 : inB x.sum 0 65535
      · have HE := Lib.hid (HNO.out (by unfold rhd; rw [h1, h2, h3]; rfl))
        go_wp2
        go_ret
        exact ⟨ret_bool HE.out.symm, HB2.out⟩
      go_wp2_with fail
      refine (r5In_any _ _ _ _).mono ?_
      rintro e5 w5 ⟨rfl, rfl⟩
      cases h4 : inB x.long 0 65535
      · have HE := Lib.hid (HNO.out (by unfold rhd; rw [h1, h2, h3, h4]; rfl))
        go_wp2
        go_ret
        exact ⟨ret_bool HE.out.symm, HB2.out⟩
      have HYES := Lib.hid (show rhd x = true by unfold rhd; rw [h1, h2, h3, h4]; rfl)
      go_wp2
      go_roundw
      case rel => exact ⟨k + 1, by omega, by go_num, HB2, Lib.hid (allA_snoc _ _ _ _ HX.out hall.out HYES.out)⟩
      case measure => simp [intOf]; omega
    · have h2 := hall.out
      rw [List.take_of_length_le (by rw [HN.out]; omega)] at h2
      have HE := Lib.hid (show decide ((n : Int) ≤ 3) = (L.all rhd && decide (L.length ≤ 3)) by
        rw [h2, HN.out, Bool.true_and, Bool.eq_iff_iff]
        simp only [decide_eq_true_eq]
        omega)
      go_wp2
      go_ret
      exact ⟨ret_bool HE.out, hb.out⟩

set_option maxRecDepth 4000 in
set_option maxHeartbeats 4000000 in
theorem r5Hello_any (e d p dr bdr : Int) (A : Option Addr) (n c B : Nat) (S : List Int) (w : World) (hS : Row .i64 w B A n S) (hB : B ≤ w.heap.size) (hn : n ≤ maxLen) :
    Calls Tryz.prog 20 #[.agg #[.int .i64 e, .int .i64 d, .int .i64 p, .int .i64 dr, .int .i64 bdr, .slice A n c]] w fun x w' => x = .returned (.bool (helloB e d p dr bdr S)) ∧ Below w.heap.size w w' := by
  unfold maxLen at hn
  have HN := Lib.hid hS.1
  have BW := Lib.hid ((Below.refl w.heap.size w).alloc (Nat.le_refl _) (.cells #[.int .i64 e, .int .i64 d, .int .i64 p, .int .i64 dr, .int .i64 bdr, .slice A n c] 24))
  have K0 := Lib.hid (Blk.new w 24 #[.int .i64 e, .int .i64 d, .int .i64 p, .int .i64 dr, .int .i64 bdr, .slice A n c])
  have HM := Lib.hid (hS.alloc hB (.cells #[.int .i64 e, .int .i64 d, .int .i64 p, .int .i64 dr, .int .i64 bdr, .slice A n c] 24))
  have hs0 : B ≤ (w.alloc (.cells #[.int .i64 e, .int .i64 d, .int .i64 p, .int .i64 dr, .int .i64 bdr, .slice A n c] 24)).heap.size := by simp; omega
  have hz0 : w.heap.size ≤ (w.alloc (.cells #[.int .i64 e, .int .i64 d, .int .i64 p, .int .i64 dr, .int .i64 bdr, .slice A n c] 24)).heap.size := by simp
  clear hS
  go_enter Tryz.func20, Tryz.ntmps20
  go_upto_region 1 with fail
  have hlt0 := K0.out.lt
  generalize w.alloc (.cells #[.int .i64 e, .int .i64 d, .int .i64 p, .int .i64 dr, .int .i64 bdr, .slice A n c] 24) = w0 at *
  obtain ⟨k0, k1, k2, k3, k4, k5⟩ := K0.out.six
  go_wp2_with fail
  refine (r5In_any _ _ _ _).mono ?_
  rintro e1 w1 ⟨rfl, rfl⟩
  cases h1 : inB e 1 65535
  · have HE := Lib.hid (show helloB e d p dr bdr S = false by unfold helloB; rw [h1]; rfl)
    go_wp2
    go_ret
    exact ⟨ret_bool HE.out.symm, BW.out⟩
  go_wp2_with fail
  refine (r5In_any _ _ _ _).mono ?_
  rintro e2 w2 ⟨rfl, rfl⟩
  cases h2 : inB d 1 65535
  · have HE := Lib.hid (show helloB e d p dr bdr S = false by unfold helloB; rw [h1, h2]; rfl)
    go_wp2
    go_ret
    exact ⟨ret_bool HE.out.symm, BW.out⟩
  go_wp2_with fail
  refine (r5In_any _ _ _ _).mono ?_
  rintro e3 w3 ⟨rfl, rfl⟩
  cases h3 : inB p 0 255
  · have HE := Lib.hid (show helloB e d p dr bdr S = false by unfold helloB; rw [h1, h2, h3]; rfl)
    go_wp2
    go_ret
    exact ⟨ret_bool HE.out.symm, BW.out⟩
  go_wp2_with fail
  refine (r5In_any _ _ _ _).mono ?_
  rintro e4 w4 ⟨rfl, rfl⟩
  cases h4 : inB dr 0 63
  · have HE := Lib.hid (show helloB e d p dr bdr S = false by unfold helloB; rw [h1, h2, h3, h4]; rfl)
    go_wp2
    go_ret
    exact ⟨ret_bool HE.out.symm, BW.out⟩
  go_wp2_with fail
  refine (r5In_any _ _ _ _).mono ?_
  rintro e5 w5 ⟨rfl, rfl⟩
  cases h5 : inB bdr 0 63
  · have HE := Lib.hid (show helloB e d p dr bdr S = false by unfold helloB; rw [h1, h2, h3, h4, h5]; rfl)
    go_wp2
    go_ret
    exact ⟨ret_bool HE.out.symm, BW.out⟩
  have HR := Lib.hid (show helloB e d p dr bdr S = riseB 0 S by unfold helloB; rw [h1, h2, h3, h4, h5]; rfl)
  clear h1 h2 h3 h4 h5
  go_wp2_with fail
  clear k0 k1 k2 k3 k4
  go_loopw [3] (fun i wr => ∃ (k : Nat) (x : Int), k ≤ n ∧ i = .int .i64 k ∧ 0 ≤ x ∧ x ≤ 15 ∧ Hid (Below w0.heap.size w0 wr) ∧ Hid (x = (if k = 0 then 0 else S.getD (k - 1) 0)) ∧ Hid (riseB 0 S = riseB x (S.drop k))) (fun i _ => n - (intOf i).toNat)
  case atStart => exact ⟨0, 0, Nat.zero_le _, rfl, by omega, by omega, Lib.hid (Below.refl _ _), Lib.hid rfl, Lib.hid rfl⟩
  case round =>
    obtain ⟨k, x, hk, rfl, hx0, hx1, hb, hx, hall⟩ := hrel
    have e5 := (hb.out.cell (p := ⟨w.heap.size, 5, none⟩) hlt0).trans k5
    have BF := Lib.hid (fun m => below_drewN (BW.out.trans (hb.out.mono hz0)) m)
    clear k5
    by_cases hlt : k < n
    · obtain ⟨b, o, rfl, hbb, hc⟩ := (HM.out.below (hb.out.mono hs0)).2 (by omega)
      have c0 := hc k hlt
      have hr := rise_drop S x k (by rw [HN.out]; exact hlt)
      have HY := Lib.hid (show S.getD (k + 1 - 1) 0 = S.getD k 0 from rfl)
      have hpr : 0 < k → wr.cell? ⟨b, o + (k - 1), none⟩ = some (.int .i64 x) := fun h0 => by
        have := hc (k - 1) (by omega)
        rw [hx.out, if_neg (by omega)]
        exact this
      clear hc
      generalize hy : S.getD k 0 = y at *
      have HQ := Lib.hid (hall.out.trans hr)
      clear hall hr hy
      have hk0 : (0 : Int) ≤ (k : Int) := by omega
      have hkn : (k : Int) < (n : Int) := by omega
      cases hl : inB y 1 15
      · have HQ2 := Lib.hid (show riseB 0 S = false by
          rw [HQ.out]
          have : inB y (x + 1) 15 = false := by
            rw [Bool.eq_false_iff, ne_eq, inB_iff]
            intro hh
            have : inB y 1 15 = true := by rw [inB_iff]; omega
            rw [hl] at this
            cases this
          rw [this]; rfl)
        clear hpr hx
        go_wp2_with fail
        go_quiet ((go_at_call 17; exact quiet_left (r5In_is _ _ _ _ _ hl)))
        go_wp2
        go_ret
        exact ⟨ret_bool (by rw [HR.out, HQ2.out]), BF.out _⟩
      · have hy1 := (inB_iff _ _ _).1 hl
        by_cases hk1 : k = 0
        · have hkd : decide ((0 : Int) < (k : Int)) = false := by simp; omega
          have hkd2 : decide (0 < k) = false := by simp; omega
          clear hpr
          have HQ2 := Lib.hid (show riseB 0 S = riseB y (S.drop (k + 1)) by
            rw [HQ.out]
            have : inB y (x + 1) 15 = true := by
              rw [inB_iff]
              have := hx.out
              rw [if_pos hk1] at this
              omega
            rw [this]; rfl)
          clear hx hk1
          go_wp2_with fail
          go_quiet ((go_at_call 17; exact quiet_left (r5In_is _ _ _ _ _ hl)))
          go_wp2
          go_roundw
          case rel => exact ⟨k + 1, y, by omega, by go_num, by omega, by omega, Lib.hid (below_drewN hb.out _), Lib.hid (by rw [if_neg (by omega)]; exact HY.out.symm), HQ2⟩
          case measure => simp [intOf]; omega
        · have c1 := hpr (by omega)
          have hkd : decide ((0 : Int) < (k : Int)) = true := by simp; omega
          have hkd2 : decide (0 < k) = true := by simp; omega
          have hk2 : (0 : Int) ≤ (k : Int) - 1 := by omega
          have hk3 : (k : Int) - 1 < (n : Int) := by omega
          have hk4 : IntKind.i64.wrap ((k : Int) - 1) = (k : Int) - 1 := IntWalk.i64_in _ (by omega)
          have hk5 : ((k : Int) - 1).toNat = k - 1 := by omega
          clear hpr hk1 hx
          by_cases hyx : y ≤ x
          · have HQ2 := Lib.hid (show riseB 0 S = false by
              rw [HQ.out]
              have : inB y (x + 1) 15 = false := by
                rw [Bool.eq_false_iff, ne_eq, inB_iff]
                omega
              rw [this]; rfl)
            go_wp2_with fail
            go_quiet ((go_at_call 17; exact quiet_left (r5In_is _ _ _ _ _ hl)))
            go_wp2
            go_ret
            exact ⟨ret_bool (by rw [HR.out, HQ2.out]), BF.out _⟩
          · have HQ2 := Lib.hid (show riseB 0 S = riseB y (S.drop (k + 1)) by
              rw [HQ.out]
              have : inB y (x + 1) 15 = true := by rw [inB_iff]; omega
              rw [this]; rfl)
            have hyd : decide (y ≤ x) = false := by simpa using hyx
            go_wp2_with fail
            go_quiet ((go_at_call 17; exact quiet_left (r5In_is _ _ _ _ _ hl)))
            clear hk4
            go_wp2
            go_roundw
            case rel => exact ⟨k + 1, y, by omega, by go_num, by omega, by omega, Lib.hid (below_drewN hb.out _), Lib.hid (by rw [if_neg (by omega)]; exact HY.out.symm), HQ2⟩
            case measure => simp [intOf]; omega
    · go_wp2
      go_ret
      have h1 := hall.out
      rw [List.drop_of_length_le (by rw [HN.out]; omega)] at h1
      exact ⟨ret_bool (by rw [HR.out, h1]; rfl), BW.out.trans (hb.out.mono hz0)⟩
end Go.Proofs.YtekhgkkgmkodmaaGreat
