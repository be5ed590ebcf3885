/- The statement QuadReads of package syndiclaw01: for all bytes and every list of ints, whatever is read, one behind the other, is what the reference says, up to the first error, and nothing behind it. No conditions. -/
import Derived.Test.YtcapjkaekmjkaaaJ
import Derived.Test.YtcapjkaekmjkaaaRows
import Derived.WalkKit
import Derived.Deep.DeepCutAuto
import Derived.ProofKit
import Derived.OpenShut
import Derived.ShutString
import Derived.ChangeOld
import Derived.Below
namespace Go.Proofs.Ytcapjkaekmjkaaa.quadReads
open Go.ChangeShapes Go.WideShapes Go.ChangeAt Go.RowKit
open Go.ChangeMaps (open_string shut_string)
set_option linter.unusedVariables false

theorem own : ownKnob Try.prog.godebug = none := by kernel_rfl
theorem laidOut : laidOutB Try.prog = true := by kernel_rfl

theorem below_drewN {B : Nat} {a w : World} (h : Below B a w) (n : Nat) : Below B a (w.drewN n) := ⟨h.os, h.tape, h.output, h.size, h.block⟩

set_option maxRecDepth 100000 in
set_option maxHeartbeats 2000000 in
theorem core (a0 a1 : Option Addr) (n cap0 k cap1 : Nat) (l zs : List Int) (nb : Bool) (w : World) (hr : Row .u8 w w.heap.size a0 n l) (hby : Byt l) (hr2 : Row .i64 w w.heap.size a1 k zs) (h64 : I64 zs) (hn : n ≤ 200) (hnc : n ≤ cap0) (hk : k ≤ 100) :
    Calls Try.prog 4 #[.slice a0 n cap0, .slice a1 k cap1, .bool nb] w fun e w' => e = .returned (.bool true) ∧ Below w.heap.size w w' := by
  have HR := Lib.hid hr
  have HY := Lib.hid hby
  have HR2 := Lib.hid hr2
  have H64 := Lib.hid h64
  clear hr hby hr2 h64
  have hd1 : decide (200 < (n : Int)) = false := by simp; omega
  have hd2 : decide (100 < (k : Int)) = false := by simp; omega
  go_enter Try.func4, Try.ntmps4
  go_wp2_with fail
  refine (wakes_any _).mono ?_
  rintro e1 w1 ⟨rfl, hb1⟩
  have HB1 := Lib.hid hb1
  have hz1 := hb1.size
  clear hb1
  go_wp2_with fail
  refine (read_any a0 n cap0 w.heap.size l _ (HR.out.below HB1.out) hz1 (by omega)).mono ?_
  rintro e2 w2 ⟨rfl, hb2, hrow2, hblk⟩
  have hl := HR.out.1
  rw [hl] at hrow2 hblk
  have H2 := Lib.hid hrow2
  have HBL := Lib.hid hblk
  have HB2 := Lib.hid (HB1.out.trans (hb2.mono hz1))
  generalize w1.heap.size = G at *
  clear hb2 hrow2 hblk hl
  go_wp2_with fail
  go_loopw [8, 9, 29] (fun va ve i wr => ∃ (q : Nat) (a e : Int), q ≤ k ∧ i = .int .i64 q ∧ va = .int .i64 a ∧ ve = .int .i64 e ∧ 0 ≤ a ∧ a ≤ n ∧ (e = 0 ∨ e = 3) ∧
      Hid (Blk wr (G + 1) 45 #[.slice (some ⟨G, 0, none⟩) n n, .int .i64 a, .int .i64 e]) ∧ Hid (Row .u8 wr (G + 1) (some ⟨G, 0, none⟩) n l) ∧ Hid (Below w.heap.size w wr)) (fun _ _ i _ => k - (intOf i).toNat)
  case atStart => exact ⟨0, 0, 0, Nat.zero_le _, rfl, rfl, rfl, by omega, by omega, .inl rfl, HBL, H2, HB2⟩
  case round =>
    obtain ⟨q, a, e, hq, rfl, rfl, rfl, ha0, han, he, hblk, hrow, hbel⟩ := hrel
    by_cases hlt : q < k
    · obtain ⟨b, o, rfl, hb, hc⟩ := HR2.out.2 (by omega)
      have hcx := (hbel.out.cell (p := ⟨b, o + q, none⟩) hb).trans (hc q hlt)
      have hx := H64.out.getD q
      generalize zs.getD q 0 = x at hcx hx
      clear hc
      go_upto_region 12 with (fail)
      have hpe : (if x < 0 then (0 : Int) else x) = pos x := rfl
      rw [hpe]
      clear hpe
      have hp0 : 0 ≤ pos x := by unfold pos; split <;> omega
      have hp1 : pos x ≤ 9223372036854775807 := by unfold pos; split <;> omega
      generalize (nb == ((q : Int) % 2 == 0)) = nm at *
      rcases he with rfl | rfl <;> cases nm
      · by_cases hkk : pos x ≤ n - a
        · by_cases hca : cap0 = a.toNat
          · have hca' := hca.symm
            clear hca
            go_wp2_with fail
            refine (bytes_ok (G + 1) _ n n (G + 1) a x l _ hblk.out ha0 han (Nat.le_refl _) (by omega) hkk hrow.out (by have := hblk.out.lt; omega) (Nat.le_refl _)).mono ?_
            rintro e4 w4 ⟨A4, c4, rfl, hrow4, hst⟩
            have HST := Lib.hid hst
            have hGr : G + 1 < wr.heap.size := hblk.out.lt
            have HRW := Lib.hid (hrow.out.step HST.out (by omega) (Nat.le_refl _))
            have HBW := Lib.hid (hbel.out.grown HST.out.1 hbel.out.size (fun k hk => by injection hk with hk; omega))
            have hzG : w.heap.size ≤ G := hz1
            have hl := HR.out.1
            have eM : ((l.drop a.toNat).take (pos x).toNat).length = (pos x).toNat := by simp; omega
            rw [eM] at hrow4 ⊢
            have HR4 := Lib.hid hrow4
            clear hst hrow4 eM hl
            rw [show (a + pos x).toNat - cap0 = (pos x).toNat from by omega]
            go_wp2_with fail
            refine (same_yes A4 _ (pos x).toNat c4 _ w4.heap.size w.heap.size ((l.drop a.toNat).take (pos x).toNat) _ HR4.out ?rw (by unfold maxLen; omega)).mono ?_
            case rw =>
              have e0 : (pos x).toNat = 0 := by omega
              rw [e0]
              exact cut_none a0 n a.toNat _ _ _ _ _ (HR.out.below HBW.out)
            rintro e5 w5 ⟨rfl, d5, rfl⟩
            go_wp2_with fail
            refine (err_any (G + 1) _ n n (a + pos x) (0) _ (HST.out.2.drewN _)).mono ?_
            rintro e8 w8 ⟨rfl, rfl⟩
            go_wp2_with fail
            refine (at_any (G + 1) _ n n (a + pos x) (0) _ (HST.out.2.drewN _)).mono ?_
            rintro e8 w8 ⟨rfl, rfl⟩
            go_wp2_with fail
            refine (left_any (G + 1) _ n n (a + pos x) (0) _ (HST.out.2.drewN _) (by omega) (by omega) (by unfold maxLen; omega)).mono ?_
            rintro e8 w8 ⟨rfl, d8, rfl⟩
            go_wp2
            go_roundw
            case rel => exact ⟨q + 1, a + pos x, 0, by omega, by go_num, rfl, rfl, by omega, by omega, .inl rfl, Lib.hid (HST.out.2.drewN _), Lib.hid (HRW.out.drewN _), Lib.hid (below_drewN HBW.out _)⟩
            case measure => simp [intOf]; omega
          · go_wp2_with fail
            refine (bytes_ok (G + 1) _ n n (G + 1) a x l _ hblk.out ha0 han (Nat.le_refl _) (by omega) hkk hrow.out (by have := hblk.out.lt; omega) (Nat.le_refl _)).mono ?_
            rintro e4 w4 ⟨A4, c4, rfl, hrow4, hst⟩
            have HST := Lib.hid hst
            have hGr : G + 1 < wr.heap.size := hblk.out.lt
            have HRW := Lib.hid (hrow.out.step HST.out (by omega) (Nat.le_refl _))
            have HBW := Lib.hid (hbel.out.grown HST.out.1 hbel.out.size (fun k hk => by injection hk with hk; omega))
            have hzG : w.heap.size ≤ G := hz1
            have hl := HR.out.1
            have eM : ((l.drop a.toNat).take (pos x).toNat).length = (pos x).toNat := by simp; omega
            rw [eM] at hrow4 ⊢
            have HR4 := Lib.hid hrow4
            clear hst hrow4 eM hl
            rw [show (a + pos x).toNat - a.toNat = (pos x).toNat from by omega]
            go_wp2_with fail
            refine (same_yes A4 _ (pos x).toNat c4 _ w4.heap.size w.heap.size ((l.drop a.toNat).take (pos x).toNat) _ HR4.out ?rw (by unfold maxLen; omega)).mono ?_
            case rw => exact cut_some a0 n a.toNat (pos x).toNat (by omega) _ _ _ _ (HR.out.below HBW.out)
            rintro e5 w5 ⟨rfl, d5, rfl⟩
            go_wp2_with fail
            refine (err_any (G + 1) _ n n (a + pos x) (0) _ (HST.out.2.drewN _)).mono ?_
            rintro e8 w8 ⟨rfl, rfl⟩
            go_wp2_with fail
            refine (at_any (G + 1) _ n n (a + pos x) (0) _ (HST.out.2.drewN _)).mono ?_
            rintro e8 w8 ⟨rfl, rfl⟩
            go_wp2_with fail
            refine (left_any (G + 1) _ n n (a + pos x) (0) _ (HST.out.2.drewN _) (by omega) (by omega) (by unfold maxLen; omega)).mono ?_
            rintro e8 w8 ⟨rfl, d8, rfl⟩
            go_wp2
            go_roundw
            case rel => exact ⟨q + 1, a + pos x, 0, by omega, by go_num, rfl, rfl, by omega, by omega, .inl rfl, Lib.hid (HST.out.2.drewN _), Lib.hid (HRW.out.drewN _), Lib.hid (below_drewN HBW.out _)⟩
            case measure => simp [intOf]; omega
        · have hxx : pos x = x := by
            unfold pos at hkk ⊢
            split <;> simp_all
          go_wp2_with fail
          refine (bytes_short (G + 1) _ n n a x _ hblk.out ha0 han (by unfold maxLen; omega) (by omega)).mono ?_
          rintro e4 w4 ⟨A4, c4, rfl, hrow4, hst⟩
          have HST := Lib.hid hst
          have hGr : G + 1 < wr.heap.size := hblk.out.lt
          have HRW := Lib.hid (hrow.out.step HST.out (by omega) (Nat.le_refl _))
          have HBW := Lib.hid (hbel.out.grown HST.out.1 hbel.out.size (fun k hk => by injection hk with hk; omega))
          have hzG : w.heap.size ≤ G := hz1
          clear hst hrow4 hxx
          go_wp2_with fail
          refine (same_yes A4 none 0 c4 0 0 0 [] _ Row.nil Row.nil (by unfold maxLen; omega)).mono ?_
          rintro e5 w5 ⟨rfl, d5, rfl⟩
          go_wp2_with fail
          refine (err_any (G + 1) _ n n (a) (3) _ (HST.out.2.drewN _)).mono ?_
          rintro e8 w8 ⟨rfl, rfl⟩
          go_wp2_with fail
          refine (at_any (G + 1) _ n n (a) (3) _ (HST.out.2.drewN _)).mono ?_
          rintro e8 w8 ⟨rfl, rfl⟩
          go_wp2_with fail
          refine (left_any (G + 1) _ n n (a) (3) _ (HST.out.2.drewN _) (by omega) (by omega) (by unfold maxLen; omega)).mono ?_
          rintro e8 w8 ⟨rfl, d8, rfl⟩
          go_wp2
          go_roundw
          case rel => exact ⟨q + 1, a, 3, by omega, by go_num, rfl, rfl, by omega, by omega, .inr rfl, Lib.hid (HST.out.2.drewN _), Lib.hid (HRW.out.drewN _), Lib.hid (below_drewN HBW.out _)⟩
          case measure => simp [intOf]; omega
      · by_cases hkk : hold x ≤ n - a
        · -- a number, all is there
          go_wp2_with fail
          refine (wide_any _ _).mono ?_
          rintro e3 w3 ⟨rfl, rfl⟩
          have hlo := hold_lo x
          have hhi := hold_hi x
          go_wp2_with fail
          refine (num_ok (G + 1) _ n n (G + 1) a x l _ hblk.out ha0 han (Nat.le_refl _) (by unfold maxLen; omega) hkk hrow.out HY.out (Nat.le_refl _)).mono ?_
          rintro e4 w4 ⟨rfl, d, rfl⟩
          have HST := Lib.hid (step_at hblk.out (a + hold x) d)
          have hGr : G + 1 < wr.heap.size := hblk.out.lt
          have HRW := Lib.hid (hrow.out.step HST.out (by omega) (Nat.le_refl _))
          have HBW := Lib.hid (hbel.out.grown HST.out.1 hbel.out.size (fun k hk => by injection hk with hk; omega))
          have hzG : w.heap.size ≤ G := hz1
          generalize (wr.setCell ⟨G + 1, 1, none⟩ (.int .i64 (a + hold x))).drewN d = w4 at *
          rw [show (a + hold x).toNat - a.toNat = (hold x).toNat from by omega]
          go_wp2_with fail
          refine (number_any _ (hold x).toNat _ w.heap.size ((l.drop a.toNat).take (hold x).toNat) _ (cut_some a0 n a.toNat (hold x).toNat (by omega) _ _ _ _ (HR.out.below HBW.out)) ((HY.out.drop _).take _) (by omega)).mono ?_
          rintro e5 w5 ⟨rfl, rfl⟩
          generalize num ((l.drop a.toNat).take (hold x).toNat) = y at *
          go_wp2_with fail
          refine (err_any (G + 1) _ n n (a + hold x) (0) _ (HST.out.2)).mono ?_
          rintro e8 w8 ⟨rfl, rfl⟩
          go_wp2_with fail
          refine (at_any (G + 1) _ n n (a + hold x) (0) _ (HST.out.2)).mono ?_
          rintro e8 w8 ⟨rfl, rfl⟩
          go_wp2_with fail
          refine (left_any (G + 1) _ n n (a + hold x) (0) _ (HST.out.2) (by omega) (by omega) (by unfold maxLen; omega)).mono ?_
          rintro e8 w8 ⟨rfl, d8, rfl⟩
          go_wp2
          go_roundw
          case rel => exact ⟨q + 1, a + hold x, 0, by omega, by go_num, rfl, rfl, by omega, by omega, .inl rfl, Lib.hid (HST.out.2.drewN _), Lib.hid (HRW.out.drewN _), Lib.hid (below_drewN HBW.out _)⟩
          case measure => simp [intOf]; omega
        · go_wp2_with fail
          refine (wide_any _ _).mono ?_
          rintro e3 w3 ⟨rfl, rfl⟩
          have hlo := hold_lo x
          have hhi := hold_hi x
          go_wp2_with fail
          refine (num_short (G + 1) _ n n a x _ hblk.out ha0 han (by unfold maxLen; omega) (by omega)).mono ?_
          rintro e4 w4 ⟨rfl, d, rfl⟩
          have HST := Lib.hid (step_err hblk.out 3 d)
          have hGr : G + 1 < wr.heap.size := hblk.out.lt
          have HRW := Lib.hid (hrow.out.step HST.out (by omega) (Nat.le_refl _))
          have HBW := Lib.hid (hbel.out.grown HST.out.1 hbel.out.size (fun k hk => by injection hk with hk; omega))
          have hzG : w.heap.size ≤ G := hz1
          generalize (wr.setCell ⟨G + 1, 2, none⟩ (.int .i64 3)).drewN d = w4 at *
          go_wp2_with fail
          refine (number_any none 0 0 0 [] _ Row.nil Byt.nil (by omega)).mono ?_
          rintro e5 w5 ⟨rfl, rfl⟩
          rw [num_nil]
          go_wp2_with fail
          refine (err_any (G + 1) _ n n (a) (3) _ (HST.out.2)).mono ?_
          rintro e8 w8 ⟨rfl, rfl⟩
          go_wp2_with fail
          refine (at_any (G + 1) _ n n (a) (3) _ (HST.out.2)).mono ?_
          rintro e8 w8 ⟨rfl, rfl⟩
          go_wp2_with fail
          refine (left_any (G + 1) _ n n (a) (3) _ (HST.out.2) (by omega) (by omega) (by unfold maxLen; omega)).mono ?_
          rintro e8 w8 ⟨rfl, d8, rfl⟩
          go_wp2
          go_roundw
          case rel => exact ⟨q + 1, a, 3, by omega, by go_num, rfl, rfl, by omega, by omega, .inr rfl, Lib.hid (HST.out.2.drewN _), Lib.hid (HRW.out.drewN _), Lib.hid (below_drewN HBW.out _)⟩
          case measure => simp [intOf]; omega
      · by_cases hkk : pos x ≤ n - a
        all_goals
          go_wp2_with fail
          refine (bytes_bad (G + 1) _ n n a x 3 _ hblk.out rfl).mono ?_
          rintro e4 w4 ⟨A4, c4, rfl, hrow4, hst⟩
          have HST := Lib.hid hst
          have hGr : G + 1 < wr.heap.size := hblk.out.lt
          have HRW := Lib.hid (hrow.out.step HST.out (by omega) (Nat.le_refl _))
          have HBW := Lib.hid (hbel.out.grown HST.out.1 hbel.out.size (fun k hk => by injection hk with hk; omega))
          have hzG : w.heap.size ≤ G := hz1
          clear hst hrow4
          go_wp2_with fail
          refine (same_yes A4 none 0 c4 0 0 0 [] _ Row.nil Row.nil (by unfold maxLen; omega)).mono ?_
          rintro e5 w5 ⟨rfl, d5, rfl⟩
          go_wp2_with fail
          refine (err_any (G + 1) _ n n (a) (3) _ (HST.out.2.drewN _)).mono ?_
          rintro e8 w8 ⟨rfl, rfl⟩
          go_wp2_with fail
          refine (at_any (G + 1) _ n n (a) (3) _ (HST.out.2.drewN _)).mono ?_
          rintro e8 w8 ⟨rfl, rfl⟩
          go_wp2_with fail
          refine (left_any (G + 1) _ n n (a) (3) _ (HST.out.2.drewN _) (by omega) (by omega) (by unfold maxLen; omega)).mono ?_
          rintro e8 w8 ⟨rfl, d8, rfl⟩
          go_wp2
          go_roundw
          case rel => exact ⟨q + 1, a, 3, by omega, by go_num, rfl, rfl, by omega, by omega, .inr rfl, Lib.hid (HST.out.2.drewN _), Lib.hid (HRW.out.drewN _), Lib.hid (below_drewN HBW.out _)⟩
          case measure => simp [intOf]; omega
      · have hlo := hold_lo x
        have hhi := hold_hi x
        by_cases hkk : hold x ≤ n - a
        all_goals
          go_wp2_with fail
          refine (wide_any _ _).mono ?_
          rintro e3 w3 ⟨rfl, rfl⟩
          go_wp2_with fail
          refine (num_bad (G + 1) _ n n a x 3 _ hblk.out rfl).mono ?_
          rintro e4 w4 ⟨rfl, rfl⟩
          have HST := Lib.hid (step_err hblk.out 3 0)
          have hGr : G + 1 < wr.heap.size := hblk.out.lt
          have HRW := Lib.hid (hrow.out.step HST.out (by omega) (Nat.le_refl _))
          have HBW := Lib.hid (hbel.out.grown HST.out.1 hbel.out.size (fun k hk => by injection hk with hk; omega))
          have hzG : w.heap.size ≤ G := hz1
          rw [World.drewN_zero] at HST HRW HBW
          generalize wr.setCell ⟨G + 1, 2, none⟩ (.int .i64 3) = w4 at *
          go_wp2_with fail
          refine (number_any none 0 0 0 [] _ Row.nil Byt.nil (by omega)).mono ?_
          rintro e5 w5 ⟨rfl, rfl⟩
          rw [num_nil]
          go_wp2_with fail
          refine (err_any (G + 1) _ n n (a) (3) _ (HST.out.2)).mono ?_
          rintro e8 w8 ⟨rfl, rfl⟩
          go_wp2_with fail
          refine (at_any (G + 1) _ n n (a) (3) _ (HST.out.2)).mono ?_
          rintro e8 w8 ⟨rfl, rfl⟩
          go_wp2_with fail
          refine (left_any (G + 1) _ n n (a) (3) _ (HST.out.2) (by omega) (by omega) (by unfold maxLen; omega)).mono ?_
          rintro e8 w8 ⟨rfl, d8, rfl⟩
          go_wp2
          go_roundw
          case rel => exact ⟨q + 1, a, 3, by omega, by go_num, rfl, rfl, by omega, by omega, .inr rfl, Lib.hid (HST.out.2.drewN _), Lib.hid (HRW.out.drewN _), Lib.hid (below_drewN HBW.out _)⟩
          case measure => simp [intOf]; omega
    · go_wp2
      go_ret
      exact ⟨rfl, hbel.out⟩

theorem walk (a0 : Option Addr) (len0 cap0 : Nat) (z0 : List Int) (a1 : Option Addr) (len1 cap1 : Nat) (z1 : List Int) (a2 : Bool) (w : World) (w0 : IsRow .u8 w a0 len0 cap0 z0) (w1 : IsRow .i64 w a1 len1 cap1 z1) :
    Calls Try.prog 4 #[.slice a0 len0 cap0, .slice a1 len1 cap1, .bool a2] w fun e w' => e = .returned (.bool true) ∧ Below w.heap.size w w' := by
  obtain ⟨l, hr, hw, hlc, hlm⟩ := row_of_is w0
  obtain ⟨zs, hr2, hw2, hlc2, hlm2⟩ := row_of_is w1
  by_cases hn : len0 ≤ 200
  · by_cases hk : len1 ≤ 100
    · exact core a0 a1 len0 cap0 len1 cap1 l zs a2 w hr (byt_of_wf hw) hr2 (i64_of_wf hw2) hn hlc hk
    · clear hr hw w0 hr2 hw2 w1
      unfold maxLen at hlm hlm2
      have hd1 : decide (200 < (len0 : Int)) = false := by simp; omega
      have hd2 : decide (100 < (len1 : Int)) = true := by simp; omega
      go_enter Try.func4, Try.ntmps4
      go_wp2_with fail
      refine (wakes_any _).mono ?_
      rintro e1 w1 ⟨rfl, hb1⟩
      have HB1 := Lib.hid hb1
      clear hb1
      go_wp2
      go_ret
      exact ⟨rfl, HB1.out⟩
  · clear hr hw w0 hr2 hw2 w1
    unfold maxLen at hlm hlm2
    have hd1 : decide (200 < (len0 : Int)) = true := by simp; omega
    go_enter Try.func4, Try.ntmps4
    go_wp2_with fail
    refine (wakes_any _).mono ?_
    rintro e1 w1 ⟨rfl, hb1⟩
    have HB1 := Lib.hid hb1
    clear hb1
    go_wp2
    go_ret
    exact ⟨rfl, HB1.out⟩

set_option maxRecDepth 100000 in
theorem lifted (os : Os) (started : os.Started) (H : Type) (enc : TypeId × Value → H) :
    ReturnsInHanded {} Try.checked os 4 .any (Rows.quadReadsSpec.pre6 enc Try.prog Try.f4 Rows.quadReadsRow.domain false) (Rows.quadReadsSpec.post enc Try.prog Try.f4 false true false false) := by
  refine returnsInHanded_of_change (C := Try.checked) own started (by kernel_rfl) Try.func4
    (ChangeSpec.witness6 (enc := enc) (C := Try.checked) false ⟨#[], #[.slice none 0 0, .slice none 0 0, .bool false], []⟩ 8 (by kernel_rfl) (by kernel_rfl) (by kernel_rfl) (by kernel_rfl)) ?_
  intro W base args ds gs before hval0 hW hcnd _
  have hval : ∀ (j : Nat) t v, Try.f4.params[j]? = some t → args[j]? = some v → Value.okWide Try.prog W .any base t v := hval0
  have hW' := hW
  obtain ⟨p, q, hA0, hV, rfl, hfz, hnd⟩ := hW
  have hA : DataW.TrodAll enc Try.prog W 0 (fun _ => true) true Try.f4.params.toList args.toList ds p := hA0
  rw [Try.params4] at hA hval
  obtain ⟨v0, vs0, d0, ds0, p0, q0, hargs, rfl, rfl, h0, r0⟩ := trodAll_cons hA
  obtain ⟨v1, vs1, d1, ds1, p1, q1, rfl, rfl, rfl, h1, r1⟩ := trodAll_cons r0
  obtain ⟨v2, vs2, d2, ds2, p2, q2, rfl, rfl, rfl, h2, r2⟩ := trodAll_cons r1
  obtain ⟨rfl, rfl, rfl⟩ := trodAll_nil r2
  obtain rfl : args = #[v0, v1, v2] := by cases args; simp_all
  obtain ⟨rfl, rfl⟩ := trodVars_none hV
  obtain ⟨a0, len0, cap0, rfl⟩ := okWide_slice Try.underlying22 (hval 0 22 v0 rfl rfl)
  have k0 := h0
  have lt0 : ∀ x ∈ p0, x.block < W.heap.size := by obtain ⟨m, hm⟩ := k0; exact DataW.trod_lt m _ _ _ hm
  obtain ⟨z0, w0⟩ : ∃ zs, IsRow .u8 W a0 len0 cap0 zs := by
    obtain ⟨fuel, hf⟩ := h0
    rcases open_ints Try.underlying22 Try.underlying5 (by kernel_rfl) hf with ⟨hcs, _⟩ | ⟨x, l, c, zs, hcs, _, hl, hm, hz, _, hcell, hwz⟩
    · simp [Value.cells] at hcs
      obtain ⟨rfl, rfl, rfl⟩ := hcs
      exact ⟨[], .inl ⟨rfl, rfl, rfl, rfl⟩⟩
    · simp [Value.cells] at hcs
      obtain ⟨rfl, rfl, rfl⟩ := hcs
      exact ⟨zs, .inr ⟨_, rfl, hl, hm, by simpa using hz, hcell, hwz⟩⟩
  obtain ⟨a1, len1, cap1, rfl⟩ := okWide_slice Try.underlying23 (hval 1 23 v1 rfl rfl)
  have k1 := h1
  have lt1 : ∀ x ∈ p1, x.block < W.heap.size := by obtain ⟨m, hm⟩ := k1; exact DataW.trod_lt m _ _ _ hm
  obtain ⟨z1, w1⟩ : ∃ zs, IsRow .i64 W a1 len1 cap1 zs := by
    obtain ⟨fuel, hf⟩ := h1
    rcases open_ints Try.underlying23 Try.underlying3 (by kernel_rfl) hf with ⟨hcs, _⟩ | ⟨x, l, c, zs, hcs, _, hl, hm, hz, _, hcell, hwz⟩
    · simp [Value.cells] at hcs
      obtain ⟨rfl, rfl, rfl⟩ := hcs
      exact ⟨[], .inl ⟨rfl, rfl, rfl, rfl⟩⟩
    · simp [Value.cells] at hcs
      obtain ⟨rfl, rfl, rfl⟩ := hcs
      exact ⟨zs, .inr ⟨_, rfl, hl, hm, by simpa using hz, hcell, hwz⟩⟩
  obtain ⟨a2, rfl, rfl, rfl⟩ := open_bool Try.underlying4 (hval 2 4 v2 rfl rfl) h2
  clear hA0 hval0
  refine (walk a0 len0 cap0 z0 a1 len1 cap1 z1 a2 W w0 w1).mono fun e W' ⟨he, bel⟩ => ?_
  subst he
  exact ⟨_, rfl, _, _, _, [], _, [], hW', trodAll_mk1 (shut_bool Try.underlying4 _), (trodAll_cons_mk (Below.trod laidOut (by kernel_rfl) (of_decide_eq_true (by kernel_rfl)) k0 bel lt0) (trodAll_cons_mk (Below.trod laidOut (by kernel_rfl) (of_decide_eq_true (by kernel_rfl)) k1 bel lt1) (trodAll_cons_mk (shut_bool Try.underlying4 _) trodAll_mk0))), rfl, bel.frame _, fun h => by cases h⟩

theorem over : Rows.quadReadsRow.holds Try.pinned (OpenSpec.ofChange Rows.quadReadsSpec) :=
  OpenClaim.holds_of_wide 4 Try.f4 rfl rfl rfl rfl rfl rfl rfl ⟨rfl, rfl, rfl, rfl, rfl⟩ rfl rfl rfl rfl rfl (by kernel_rfl) Try.func4 (by kernel_rfl)
    (of_decide_eq_true (by kernel_rfl)) (by unfold Func.isWrapper; first | (rw [if_pos (by decide +kernel)]; kernel_rfl) | (rw [if_neg (by decide +kernel)]; exact ⟨rfl, rfl⟩))
    (fun os started H enc _ => lifted os started H enc)

/-- The statement. -/
theorem proved : Rows.QuadReadsSaid := over
end Go.Proofs.Ytcapjkaekmjkaaa.quadReads
