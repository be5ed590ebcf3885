/- Any description is right, and has the bytes, as the document says, or is refused; what is put is got, with its sum and length. No conditions. -/
import Derived.Test.YtidncajbedgplaaLtF
import Derived.Test.YtidncajbedgplaaRows
import Derived.Deep.RegionHeld3
import Derived.Deep.DrawnRows
import Derived.RegionTactic
import Derived.WalkKit
import Derived.ProofKit
import Derived.OpenShut
import Derived.ShutString
import Derived.ChangeOld
import Derived.Below
namespace Go.Proofs.Ytidncajbedgplaa.lsaPuts
open Go.ChangeShapes Go.WideShapes Go.ChangeAt Go.RowKit
set_option linter.unusedVariables false

theorem own : ownKnob Try.prog.godebug = none := by kernel_rfl
theorem laidOut : laidOutB Try.prog = true := by kernel_rfl

attribute [local go_sem ↓] Go.wp_at_zero Go.wp_at_succ
/-- What lies below w0 reads as it did. -/
theorem keepW {w0 w' : World} (hb : Below w0.heap.size w0 w') : Below w0.heap.size w0 w' ∧ (∀ b o, b < w0.heap.size → w'.cell? ⟨b, o, none⟩ = w0.cell? ⟨b, o, none⟩) :=
  ⟨hb, fun b o h => hb.cell (p := ⟨b, o, none⟩) h⟩

theorem sum_wrap (a b : Int) (ha : 0 ≤ a ∧ a ≤ 255) (hb : 0 ≤ b ∧ b ≤ 255) : (256 * a + b == IntKind.i64.wrap (IntKind.i64.wrap (256 * IntKind.i64.wrap a) + IntKind.i64.wrap b)) = true := by
  rw [IntWalk.i64_in a (by omega), IntWalk.i64_in b (by omega), IntWalk.i64_in (256 * a) (by omega), IntWalk.i64_in (256 * a + b) (by omega)]
  simp
theorem sum_at (h : Hd) (L : List Lk) (M : List Int) : lsaSum h L M = 256 * (lsaBytes h L M).getD 16 0 + (lsaBytes h L M).getD 17 0 := by
  obtain ⟨X, Y, _, _, _, _, h5, h6⟩ := fill_parts h L M
  have e : lsaBytes h L M = (enc h.age 2 ++ midBytes h) ++ (X :: Y :: (enc (20 + ((bodyBytes h L M).length : Int)) 2 ++ bodyBytes h L M)) := by
    unfold lsaBytes
    rw [raw_take, h6, List.append_assoc]
  have hl : (enc h.age 2 ++ midBytes h).length = 16 := by rw [List.length_append, enc_length, midBytes_length]
  unfold lsaSum
  rw [h5, e, List.getD_eq_getElem?_getD, List.getD_eq_getElem?_getD, List.getElem?_append_right (by omega), List.getElem?_append_right (by omega), hl]
  simp [num]
theorem refLsaBytes_any (h : Hd) (L : List Lk) (M : List Int) (A A' : Option Addr) (n c n' c' B m : Nat) (w : World) (hL : Lnk w B A n L) (hM : Row .i64 w B A' n' M) (hB : B ≤ w.heap.size) (hn : n ≤ 50) (hn' : n' ≤ 50) (hr : rightB h L M = true) (hm : (lsaBytes h L M).length = m) :
    Calls Try.prog 17 #[.agg #[.int .i64 h.age, .int .i64 h.kind, .int .i64 h.id, .int .i64 h.adv, .int .i64 h.seq, .int .i64 h.sum, .int .i64 h.long, .slice A n c, .slice A' n' c']] w (PutA w (lsaBytes h L M) m) := by
  obtain ⟨_, h2, _, _, _, h6, h7⟩ := right_facts hr
  by_cases hk : h.kind = 1
  · obtain ⟨e1, _, _⟩ := h6 hk
    exact refLsaBytes_rt h L M A A' n c n' c' B m w hL hM.1 hB hn (by rw [← hM.1, e1]; rfl) (by simp [hk]) hm
  · obtain ⟨e1, _⟩ := h7 (by omega)
    exact refLsaBytes_net h L M A A' n c n' c' B m w hL.1 hM hB (by rw [← hL.1, e1]; rfl) hn' (by simp [hk]) hm
theorem acc_made (w : World) : Acc w (w.alloc (.cells #[] 5)) (.slice (some ⟨w.heap.size, 0, none⟩) 0 0) 0 [] :=
  ⟨World.ownsRow_made w #[] 0 (Nat.le_refl _) (by unfold maxLen; omega) rfl, (Below.refl _ _).alloc (Nat.le_refl _) _⟩
theorem same_any (h : Hd) (L : List Lk) (M : List Int) (A A' A2 A2' : Option Addr) (n c n' c' c2 c2' B base : Nat) (w : World) (hL : w.ownsRow base 53 4 (.slice A n c) n (lkCells L)) (hq : L.length = n) (hM : w.ownsRow base 3 1 (.slice A' n' c') n' (M.map (Value.int .i64))) (hq' : M.length = n') (hL2 : Lnk w B A2 n L) (hM2 : Row .i64 w B A2' n' M) (hB : B ≤ w.heap.size) :
    Calls Try.prog 13 #[.agg #[.int .i64 h.age, .int .i64 h.kind, .int .i64 h.id, .int .i64 h.adv, .int .i64 h.seq, .int .i64 h.sum, .int .i64 h.long, .slice A n c, .slice A' n' c'], .agg #[.int .i64 h.age, .int .i64 h.kind, .int .i64 h.id, .int .i64 h.adv, .int .i64 h.seq, .int .i64 h.sum, .int .i64 h.long, .slice A2 n c2, .slice A2' n' c2']] w fun e w' => e = .returned (.bool true) ∧ Below w.heap.size w w' := by
  obtain ⟨A1, c1, e1, h1, h2, h3⟩ := lnk_of_own hL hq
  injection e1 with e1 _ e2
  subst e1 e2
  obtain ⟨A3, c3, e3, h4, h5, h6⟩ := row_of_ints hM hq'
  injection e3 with e3 _ e4
  subst e3 e4
  exact same_yesL h L M A A' A2 A2' n c n' c' c2 c2' _ B w h3 h6 hL2 hM2 (Nat.le_refl _) hB (by omega) (by omega)

set_option maxRecDepth 100000 in
set_option maxHeartbeats 8000000 in
theorem walk_no (h : Hd) (A A' Am : Option Addr) (n c n' c' nm cm : Nat) (L : List Lk) (M : List Int) (more : List Int) (w : World) (hL : Lnk w w.heap.size A n L) (hM : Row .i64 w w.heap.size A' n' M) (hmo : Row .u8 w w.heap.size Am nm more) (hby : Byt more) (hn50 : n ≤ 50) (hn50' : n' ≤ 50) (hm50 : nm ≤ 50) (hr : rightB h L M = false) :
    Calls Try.prog 3 #[.agg #[.int .i64 h.age, .int .i64 h.kind, .int .i64 h.id, .int .i64 h.adv, .int .i64 h.seq, .int .i64 h.sum, .int .i64 h.long, .slice A n c, .slice A' n' c'], .slice Am nm cm] w fun e w' => e = .returned (.bool true) ∧ Below w.heap.size w w' := by
  have HR := Lib.hid hr
  clear hr
  have K0 := Lib.hid (Blk.new w 27 #[.int .i64 h.age, .int .i64 h.kind, .int .i64 h.id, .int .i64 h.adv, .int .i64 h.seq, .int .i64 h.sum, .int .i64 h.long, .slice A n c, .slice A' n' c'])
  have B0 := Lib.hid ((Below.refl w.heap.size w).alloc (Nat.le_refl _) (.cells #[.int .i64 h.age, .int .i64 h.kind, .int .i64 h.id, .int .i64 h.adv, .int .i64 h.seq, .int .i64 h.sum, .int .i64 h.long, .slice A n c, .slice A' n' c'] 27))
  have HL0 := Lib.hid (hL.alloc (Nat.le_refl _) (.cells #[.int .i64 h.age, .int .i64 h.kind, .int .i64 h.id, .int .i64 h.adv, .int .i64 h.seq, .int .i64 h.sum, .int .i64 h.long, .slice A n c, .slice A' n' c'] 27))
  have HM0 := Lib.hid (hM.alloc (Nat.le_refl _) (.cells #[.int .i64 h.age, .int .i64 h.kind, .int .i64 h.id, .int .i64 h.adv, .int .i64 h.seq, .int .i64 h.sum, .int .i64 h.long, .slice A n c, .slice A' n' c'] 27))
  have HO0 := Lib.hid (hmo.alloc (Nat.le_refl _) (.cells #[.int .i64 h.age, .int .i64 h.kind, .int .i64 h.id, .int .i64 h.adv, .int .i64 h.seq, .int .i64 h.sum, .int .i64 h.long, .slice A n c, .slice A' n' c'] 27))
  have HLL := Lib.hid hL.1
  have HML := Lib.hid hM.1
  have HY := Lib.hid hby
  clear hL hM hmo hby
  go_enter Try.func3, Try.ntmps3
  go_wp2_with fail
  refine (wakes_any _).mono ?_
  rintro e1 w1 ⟨rfl, hbb⟩
  have K1 := Lib.hid (K0.out.below hbb (by simp))
  have B1 := Lib.hid (B0.out.trans (hbb.mono (by simp)))
  have HL1 := Lib.hid (HL0.out.below (hbb.mono (by simp)))
  have HM1 := Lib.hid (HM0.out.below (hbb.mono (by simp)))
  have HO1 := Lib.hid (HO0.out.below (hbb.mono (by simp)))
  have hs1 := B1.out.size
  clear hbb K0 B0 HL0 HM0 HO0
  obtain ⟨k0, k1, k2, k3, k4, k5, k6, k7, k8⟩ := K1.out.nine
  go_wp2_with fail
  refine (long_no h A A' n c n' c' _ hn50 hn50').mono ?_
  rintro e2 w2 ⟨rfl, hb2⟩
  have K2 := Lib.hid (K1.out.below hb2 K1.out.lt)
  have B2 := Lib.hid (B1.out.trans (hb2.mono hs1))
  have HL2 := Lib.hid (HL1.out.below (hb2.mono hs1))
  have HM2 := Lib.hid (HM1.out.below (hb2.mono hs1))
  have HO2 := Lib.hid (HO1.out.below (hb2.mono hs1))
  have hs2 := B2.out.size
  clear hb2 K1 B1 HL1 HM1 HO1 k0 k1 k2 k3 k4 k5 k6 k7 k8
  obtain ⟨k0, k1, k2, k3, k4, k5, k6, k7, k8⟩ := K2.out.nine
  go_wp2_with fail
  refine (lput_no h L M A A' n c n' c' _ _ HL2.out HM2.out hs2 hn50 hn50' HR.out).mono ?_
  rintro e3 w3 ⟨rfl, hb3⟩
  have K3 := Lib.hid (K2.out.below hb3 K2.out.lt)
  have B3 := Lib.hid (B2.out.trans (hb3.mono hs2))
  have HL3 := Lib.hid (HL2.out.below (hb3.mono hs2))
  have HM3 := Lib.hid (HM2.out.below (hb3.mono hs2))
  have hs3 := B3.out.size
  clear hb3 K2 B2 HL2 HM2 HO2 k0 k1 k2 k3 k4 k5 k6 k7 k8
  obtain ⟨k0, k1, k2, k3, k4, k5, k6, k7, k8⟩ := K3.out.nine
  go_wp2_with fail
  refine (refRight_any h L M A A' n c n' c' _ _ HL3.out HM3.out hs3 (by unfold maxLen; omega) (by unfold maxLen; omega)).mono ?_
  rintro e4 w0 ⟨rfl, hb4⟩
  rw [HR.out]
  have K4 := Lib.hid (K3.out.below hb4 K3.out.lt)
  have B4 := Lib.hid (B3.out.trans (hb4.mono hs3))
  have HL4 := Lib.hid (HL3.out.below (hb4.mono hs3))
  have HM4 := Lib.hid (HM3.out.below (hb4.mono hs3))
  have hs4 := B4.out.size
  have hlt := K4.out.lt
  clear hb4 K3 B3 HL3 HM3 k0 k1 k2 k3 k4 k5 k6 k7 k8
  obtain ⟨k0, k1, k2, k3, k4, k5, k6, k7, k8⟩ := K4.out.nine
  have BR : Below w0.heap.size w0 w0.drew := ⟨rfl, rfl, rfl, Nat.le_refl _, fun _ _ => rfl⟩
  go_upto_region 7 with fail
  go_region_held3 (fun w' => Below w0.heap.size w0 w' ∧ (∀ b o, b < w0.heap.size → w'.cell? ⟨b, o, none⟩ = w0.cell? ⟨b, o, none⟩)) ((refine keepW ?_; first | with_reducible exact BR | with_reducible exact hB3 | with_reducible exact hB2 | with_reducible exact hB1))
    (first
      | (go_at_call 12; refine (right_any h L M A A' n c n' c' _ _ (HL4.out.below (Below.mono (And.left ‹_›) hs4)) (HM4.out.below (Below.mono (And.left ‹_›) hs4)) (Nat.le_trans hs4 (Below.size (And.left ‹_›))) (by unfold maxLen; omega) (by unfold maxLen; omega)).mono ?_; rintro ea wa ⟨rfl, hba⟩; have hB1 := Below.trans (And.left ‹_›) (hba.mono (Below.size (And.left ‹_›))); rw [HR.out])
      | (go_at_call 14; refine (seal_any h L M A A' n c n' c' _ _ (HL4.out.below (Below.mono (And.left ‹_›) hs4)) (HM4.out.below (Below.mono (And.left ‹_›) hs4)) (Nat.le_trans hs4 (Below.size (And.left ‹_›))) hn50 hn50').mono ?_; rintro eb wb ⟨AL, nL, cL, AI, nI, cI, rfl, hoL, hqL, hoI, hqI, hbb⟩; have hB2 := Below.trans (And.left ‹_›) (hbb.mono (Below.size (And.left ‹_›))); rw [HR.out, if_neg Bool.false_ne_true]; obtain rfl : nL = n := hqL.symm.trans HLL.out; obtain rfl : nI = n' := hqI.symm.trans HML.out)
      | (go_at_call 13; refine (same_any h L M _ _ A A' _ _ _ _ _ _ _ _ _ hoL hqL hoI hqI (HL4.out.below (Below.mono (And.left ‹_›) hs4)) (HM4.out.below (Below.mono (And.left ‹_›) hs4)) (Nat.le_trans hs4 (Below.size (And.left ‹_›)))).mono ?_; rintro ec wc ⟨rfl, hbc⟩; have hB3 := Below.trans (And.left ‹_›) (hbc.mono (Below.size (And.left ‹_›)))))
  all_goals
    go_wp2
    go_ret
    exact ⟨rfl, B4.out.trans (hB3.mono hs4)⟩
set_option maxRecDepth 100000 in
set_option maxHeartbeats 8000000 in
theorem walk_yes (h : Hd) (A A' Am : Option Addr) (n c n' c' nm cm : Nat) (L : List Lk) (M : List Int) (more : List Int) (w : World) (hL : Lnk w w.heap.size A n L) (hM : Row .i64 w w.heap.size A' n' M) (hmo : Row .u8 w w.heap.size Am nm more) (hby : Byt more) (hn50 : n ≤ 50) (hn50' : n' ≤ 50) (hm50 : nm ≤ 50) (hr : rightB h L M = true) :
    Calls Try.prog 3 #[.agg #[.int .i64 h.age, .int .i64 h.kind, .int .i64 h.id, .int .i64 h.adv, .int .i64 h.seq, .int .i64 h.sum, .int .i64 h.long, .slice A n c, .slice A' n' c'], .slice Am nm cm] w fun e w' => e = .returned (.bool true) ∧ Below w.heap.size w w' := by
  have HR := Lib.hid hr
  obtain ⟨m, hm⟩ : ∃ m, (lsaBytes h L M).length = m := ⟨_, rfl⟩
  have hm20 : 20 ≤ m := by rw [← hm, lsaBytes_length]; omega
  have hm80 : m ≤ 80 := by have := body_small hr; rw [← hm, lsaBytes_length]; omega
  have Hm := Lib.hid hm
  clear hr hm
  have K0 := Lib.hid (Blk.new w 27 #[.int .i64 h.age, .int .i64 h.kind, .int .i64 h.id, .int .i64 h.adv, .int .i64 h.seq, .int .i64 h.sum, .int .i64 h.long, .slice A n c, .slice A' n' c'])
  have B0 := Lib.hid ((Below.refl w.heap.size w).alloc (Nat.le_refl _) (.cells #[.int .i64 h.age, .int .i64 h.kind, .int .i64 h.id, .int .i64 h.adv, .int .i64 h.seq, .int .i64 h.sum, .int .i64 h.long, .slice A n c, .slice A' n' c'] 27))
  have HL0 := Lib.hid (hL.alloc (Nat.le_refl _) (.cells #[.int .i64 h.age, .int .i64 h.kind, .int .i64 h.id, .int .i64 h.adv, .int .i64 h.seq, .int .i64 h.sum, .int .i64 h.long, .slice A n c, .slice A' n' c'] 27))
  have HM0 := Lib.hid (hM.alloc (Nat.le_refl _) (.cells #[.int .i64 h.age, .int .i64 h.kind, .int .i64 h.id, .int .i64 h.adv, .int .i64 h.seq, .int .i64 h.sum, .int .i64 h.long, .slice A n c, .slice A' n' c'] 27))
  have HO0 := Lib.hid (hmo.alloc (Nat.le_refl _) (.cells #[.int .i64 h.age, .int .i64 h.kind, .int .i64 h.id, .int .i64 h.adv, .int .i64 h.seq, .int .i64 h.sum, .int .i64 h.long, .slice A n c, .slice A' n' c'] 27))
  have HLL := Lib.hid hL.1
  have HML := Lib.hid hM.1
  have HY := Lib.hid hby
  clear hL hM hmo hby
  go_enter Try.func3, Try.ntmps3
  go_wp2_with fail
  refine (wakes_any _).mono ?_
  rintro e1 w1 ⟨rfl, hbb⟩
  have K1 := Lib.hid (K0.out.below hbb (by simp))
  have B1 := Lib.hid (B0.out.trans (hbb.mono (by simp)))
  have HL1 := Lib.hid (HL0.out.below (hbb.mono (by simp)))
  have HM1 := Lib.hid (HM0.out.below (hbb.mono (by simp)))
  have HO1 := Lib.hid (HO0.out.below (hbb.mono (by simp)))
  have hs1 := B1.out.size
  clear hbb K0 B0 HL0 HM0 HO0
  obtain ⟨k0, k1, k2, k3, k4, k5, k6, k7, k8⟩ := K1.out.nine
  go_wp2_with fail
  refine (long_no h A A' n c n' c' _ hn50 hn50').mono ?_
  rintro e2 w2 ⟨rfl, hb2⟩
  have K2 := Lib.hid (K1.out.below hb2 K1.out.lt)
  have B2 := Lib.hid (B1.out.trans (hb2.mono hs1))
  have HL2 := Lib.hid (HL1.out.below (hb2.mono hs1))
  have HM2 := Lib.hid (HM1.out.below (hb2.mono hs1))
  have HO2 := Lib.hid (HO1.out.below (hb2.mono hs1))
  have hs2 := B2.out.size
  clear hb2 K1 B1 HL1 HM1 HO1 k0 k1 k2 k3 k4 k5 k6 k7 k8
  obtain ⟨k0, k1, k2, k3, k4, k5, k6, k7, k8⟩ := K2.out.nine
  go_wp2_with fail
  refine (lput_yes h L M A A' n c n' c' _ m _ HL2.out HM2.out hs2 hn50 hn50' HR.out Hm.out).mono ?_
  rintro e3 w3 ⟨v3, rfl, ha3⟩
  obtain ⟨g, cg, rfl, hcg, hcm, hg3, hg3', hr3⟩ := ha3.some (by omega)
  have hb3 := ha3.2
  have K3 := Lib.hid (K2.out.below hb3 K2.out.lt)
  have B3 := Lib.hid (B2.out.trans (hb3.mono hs2))
  have HL3 := Lib.hid (HL2.out.below (hb3.mono hs2))
  have HM3 := Lib.hid (HM2.out.below (hb3.mono hs2))
  have HO3 := Lib.hid (HO2.out.below (hb3.mono hs2))
  have R3 := Lib.hid hr3
  have HCM := Lib.hid hcm
  have hs3 := B3.out.size
  unfold maxLen at hcm
  clear ha3 hr3 hb3 K2 B2 HL2 HM2 HO2 k0 k1 k2 k3 k4 k5 k6 k7 k8
  obtain ⟨k0, k1, k2, k3, k4, k5, k6, k7, k8⟩ := K3.out.nine
  go_wp2_with fail
  refine (refRight_any h L M A A' n c n' c' _ _ HL3.out HM3.out hs3 (by unfold maxLen; omega) (by unfold maxLen; omega)).mono ?_
  rintro e4 w4 ⟨rfl, hb4⟩
  rw [HR.out]
  have K4 := Lib.hid (K3.out.below hb4 K3.out.lt)
  have B4 := Lib.hid (B3.out.trans (hb4.mono hs3))
  have HL4 := Lib.hid (HL3.out.below (hb4.mono hs3))
  have HM4 := Lib.hid (HM3.out.below (hb4.mono hs3))
  have HO4 := Lib.hid (HO3.out.below (hb4.mono hs3))
  have R4 := Lib.hid (R3.out.below hb4)
  have hs4 := B4.out.size
  have hs34 := hb4.size
  clear hb4 K3 B3 HL3 HM3 HO3 R3 k0 k1 k2 k3 k4 k5 k6 k7 k8
  obtain ⟨k0, k1, k2, k3, k4, k5, k6, k7, k8⟩ := K4.out.nine
  go_wp2_with fail
  refine (seal_any h L M A A' n c n' c' _ _ HL4.out HM4.out hs4 hn50 hn50').mono ?_
  rintro e5 w5 ⟨AL, nL, cL, AI, nI, cI, rfl, hoL, hqL, hoI, hqI, hb5⟩
  rw [HR.out, if_pos rfl]
  obtain rfl : n = nL := HLL.out.symm.trans hqL
  obtain rfl : n' = nI := HML.out.symm.trans hqI
  obtain ⟨sm, lg, hsl, hsm, hlg⟩ : ∃ sm lg, sealHd h L M = ⟨h.age, h.kind, h.id, h.adv, h.seq, sm, lg⟩ ∧ lsaSum h L M = sm ∧ lg = (m : Int) := ⟨lsaSum h L M, 20 + ((bodyBytes h L M).length : Int), rfl, rfl, by rw [← Hm.out, lsaBytes_length]; omega⟩
  rw [hsl]
  dsimp only
  have HSL := Lib.hid hsl
  have HSM := Lib.hid hsm
  have HLG := Lib.hid hlg
  have K5 := Lib.hid (K4.out.below hb5 K4.out.lt)
  have B5 := Lib.hid (B4.out.trans (hb5.mono hs4))
  have HL5 := Lib.hid (HL4.out.below (hb5.mono hs4))
  have HM5 := Lib.hid (HM4.out.below (hb5.mono hs4))
  have HO5 := Lib.hid (HO4.out.below (hb5.mono hs4))
  have R5 := Lib.hid (R4.out.below (hb5.mono hs34))
  have OL5 := Lib.hid hoL
  have OI5 := Lib.hid hoI
  have hs5 := B5.out.size
  have hs35 := Nat.le_trans hs34 hb5.size
  have hlt5 := K5.out.lt
  clear hb5 hoL hoI hsl hsm hlg K4 B4 HL4 HM4 HO4 R4 k0 k1 k2 k3 k4 k5 k6 k7 k8
  obtain ⟨k0, k1, k2, k3, k4, k5, k6, k7, k8⟩ := K5.out.nine
  go_upto_region 10 with fail
  go_region
  have KS6 := Lib.hid (show Blk ((w5.alloc (.cells #[.int .i64 h.age, .int .i64 h.kind, .int .i64 h.id, .int .i64 h.adv, .int .i64 h.seq, .int .i64 sm, .int .i64 lg, .slice AL n cL, .slice AI n' cI] 27)).alloc (.cells #[.int .i64 h.age, .int .i64 h.kind, .int .i64 h.id, .int .i64 h.adv, .int .i64 h.seq, .int .i64 sm, .int .i64 lg, .slice A n c, .slice A' n' c'] 27)).drew w5.heap.size 27 #[.int .i64 h.age, .int .i64 h.kind, .int .i64 h.id, .int .i64 h.adv, .int .i64 h.seq, .int .i64 sm, .int .i64 lg, .slice AL n cL, .slice AI n' cI] from (Blk.new w5 27 #[.int .i64 h.age, .int .i64 h.kind, .int .i64 h.id, .int .i64 h.adv, .int .i64 h.seq, .int .i64 sm, .int .i64 lg, .slice AL n cL, .slice AI n' cI]).alloc (.cells #[.int .i64 h.age, .int .i64 h.kind, .int .i64 h.id, .int .i64 h.adv, .int .i64 h.seq, .int .i64 sm, .int .i64 lg, .slice A n c, .slice A' n' c'] 27))
  have KW6 := Lib.hid (show Blk ((w5.alloc (.cells #[.int .i64 h.age, .int .i64 h.kind, .int .i64 h.id, .int .i64 h.adv, .int .i64 h.seq, .int .i64 sm, .int .i64 lg, .slice AL n cL, .slice AI n' cI] 27)).alloc (.cells #[.int .i64 h.age, .int .i64 h.kind, .int .i64 h.id, .int .i64 h.adv, .int .i64 h.seq, .int .i64 sm, .int .i64 lg, .slice A n c, .slice A' n' c'] 27)).drew (w5.heap.size + 1) 27 #[.int .i64 h.age, .int .i64 h.kind, .int .i64 h.id, .int .i64 h.adv, .int .i64 h.seq, .int .i64 sm, .int .i64 lg, .slice A n c, .slice A' n' c'] from blk_new1 w5 (.cells #[.int .i64 h.age, .int .i64 h.kind, .int .i64 h.id, .int .i64 h.adv, .int .i64 h.seq, .int .i64 sm, .int .i64 lg, .slice AL n cL, .slice AI n' cI] 27) 27 #[.int .i64 h.age, .int .i64 h.kind, .int .i64 h.id, .int .i64 h.adv, .int .i64 h.seq, .int .i64 sm, .int .i64 lg, .slice A n c, .slice A' n' c'])
  have K6 := Lib.hid (show Blk ((w5.alloc (.cells #[.int .i64 h.age, .int .i64 h.kind, .int .i64 h.id, .int .i64 h.adv, .int .i64 h.seq, .int .i64 sm, .int .i64 lg, .slice AL n cL, .slice AI n' cI] 27)).alloc (.cells #[.int .i64 h.age, .int .i64 h.kind, .int .i64 h.id, .int .i64 h.adv, .int .i64 h.seq, .int .i64 sm, .int .i64 lg, .slice A n c, .slice A' n' c'] 27)).drew w.heap.size 27 #[.int .i64 h.age, .int .i64 h.kind, .int .i64 h.id, .int .i64 h.adv, .int .i64 h.seq, .int .i64 h.sum, .int .i64 h.long, .slice A n c, .slice A' n' c'] from (K5.out.alloc (.cells #[.int .i64 h.age, .int .i64 h.kind, .int .i64 h.id, .int .i64 h.adv, .int .i64 h.seq, .int .i64 sm, .int .i64 lg, .slice AL n cL, .slice AI n' cI] 27)).alloc (.cells #[.int .i64 h.age, .int .i64 h.kind, .int .i64 h.id, .int .i64 h.adv, .int .i64 h.seq, .int .i64 sm, .int .i64 lg, .slice A n c, .slice A' n' c'] 27))
  have B6 := Lib.hid (show Below w.heap.size w ((w5.alloc (.cells #[.int .i64 h.age, .int .i64 h.kind, .int .i64 h.id, .int .i64 h.adv, .int .i64 h.seq, .int .i64 sm, .int .i64 lg, .slice AL n cL, .slice AI n' cI] 27)).alloc (.cells #[.int .i64 h.age, .int .i64 h.kind, .int .i64 h.id, .int .i64 h.adv, .int .i64 h.seq, .int .i64 sm, .int .i64 lg, .slice A n c, .slice A' n' c'] 27)).drew from below_drewN ((B5.out.alloc hs5 (.cells #[.int .i64 h.age, .int .i64 h.kind, .int .i64 h.id, .int .i64 h.adv, .int .i64 h.seq, .int .i64 sm, .int .i64 lg, .slice AL n cL, .slice AI n' cI] 27)).alloc (by simp; omega) (.cells #[.int .i64 h.age, .int .i64 h.kind, .int .i64 h.id, .int .i64 h.adv, .int .i64 h.seq, .int .i64 sm, .int .i64 lg, .slice A n c, .slice A' n' c'] 27)) 1)
  have HL6 := Lib.hid (show Lnk ((w5.alloc (.cells #[.int .i64 h.age, .int .i64 h.kind, .int .i64 h.id, .int .i64 h.adv, .int .i64 h.seq, .int .i64 sm, .int .i64 lg, .slice AL n cL, .slice AI n' cI] 27)).alloc (.cells #[.int .i64 h.age, .int .i64 h.kind, .int .i64 h.id, .int .i64 h.adv, .int .i64 h.seq, .int .i64 sm, .int .i64 lg, .slice A n c, .slice A' n' c'] 27)).drew w.heap.size A n L from (HL5.out.alloc hs5 (.cells #[.int .i64 h.age, .int .i64 h.kind, .int .i64 h.id, .int .i64 h.adv, .int .i64 h.seq, .int .i64 sm, .int .i64 lg, .slice AL n cL, .slice AI n' cI] 27)).alloc (by simp; omega) (.cells #[.int .i64 h.age, .int .i64 h.kind, .int .i64 h.id, .int .i64 h.adv, .int .i64 h.seq, .int .i64 sm, .int .i64 lg, .slice A n c, .slice A' n' c'] 27))
  have HM6 := Lib.hid (show Row .i64 ((w5.alloc (.cells #[.int .i64 h.age, .int .i64 h.kind, .int .i64 h.id, .int .i64 h.adv, .int .i64 h.seq, .int .i64 sm, .int .i64 lg, .slice AL n cL, .slice AI n' cI] 27)).alloc (.cells #[.int .i64 h.age, .int .i64 h.kind, .int .i64 h.id, .int .i64 h.adv, .int .i64 h.seq, .int .i64 sm, .int .i64 lg, .slice A n c, .slice A' n' c'] 27)).drew w.heap.size A' n' M from (HM5.out.alloc hs5 (.cells #[.int .i64 h.age, .int .i64 h.kind, .int .i64 h.id, .int .i64 h.adv, .int .i64 h.seq, .int .i64 sm, .int .i64 lg, .slice AL n cL, .slice AI n' cI] 27)).alloc (by simp; omega) (.cells #[.int .i64 h.age, .int .i64 h.kind, .int .i64 h.id, .int .i64 h.adv, .int .i64 h.seq, .int .i64 sm, .int .i64 lg, .slice A n c, .slice A' n' c'] 27))
  have HO6 := Lib.hid (show Row .u8 ((w5.alloc (.cells #[.int .i64 h.age, .int .i64 h.kind, .int .i64 h.id, .int .i64 h.adv, .int .i64 h.seq, .int .i64 sm, .int .i64 lg, .slice AL n cL, .slice AI n' cI] 27)).alloc (.cells #[.int .i64 h.age, .int .i64 h.kind, .int .i64 h.id, .int .i64 h.adv, .int .i64 h.seq, .int .i64 sm, .int .i64 lg, .slice A n c, .slice A' n' c'] 27)).drew w.heap.size Am nm more from (HO5.out.alloc hs5 (.cells #[.int .i64 h.age, .int .i64 h.kind, .int .i64 h.id, .int .i64 h.adv, .int .i64 h.seq, .int .i64 sm, .int .i64 lg, .slice AL n cL, .slice AI n' cI] 27)).alloc (by simp; omega) (.cells #[.int .i64 h.age, .int .i64 h.kind, .int .i64 h.id, .int .i64 h.adv, .int .i64 h.seq, .int .i64 sm, .int .i64 lg, .slice A n c, .slice A' n' c'] 27))
  have R6 := Lib.hid (show Row .u8 ((w5.alloc (.cells #[.int .i64 h.age, .int .i64 h.kind, .int .i64 h.id, .int .i64 h.adv, .int .i64 h.seq, .int .i64 sm, .int .i64 lg, .slice AL n cL, .slice AI n' cI] 27)).alloc (.cells #[.int .i64 h.age, .int .i64 h.kind, .int .i64 h.id, .int .i64 h.adv, .int .i64 h.seq, .int .i64 sm, .int .i64 lg, .slice A n c, .slice A' n' c'] 27)).drew w3.heap.size (some ⟨g, 0, none⟩) m (lsaBytes h L M) from (R5.out.alloc hs35 (.cells #[.int .i64 h.age, .int .i64 h.kind, .int .i64 h.id, .int .i64 h.adv, .int .i64 h.seq, .int .i64 sm, .int .i64 lg, .slice AL n cL, .slice AI n' cI] 27)).alloc (by simp; omega) (.cells #[.int .i64 h.age, .int .i64 h.kind, .int .i64 h.id, .int .i64 h.adv, .int .i64 h.seq, .int .i64 sm, .int .i64 lg, .slice A n c, .slice A' n' c'] 27))
  have OL6 := Lib.hid (show (((w5.alloc (.cells #[.int .i64 h.age, .int .i64 h.kind, .int .i64 h.id, .int .i64 h.adv, .int .i64 h.seq, .int .i64 sm, .int .i64 lg, .slice AL n cL, .slice AI n' cI] 27)).alloc (.cells #[.int .i64 h.age, .int .i64 h.kind, .int .i64 h.id, .int .i64 h.adv, .int .i64 h.seq, .int .i64 sm, .int .i64 lg, .slice A n c, .slice A' n' c'] 27)).drew).ownsRow w4.heap.size 53 4 (.slice AL n cL) n (lkCells L) from (OL5.out.alloc (.cells #[.int .i64 h.age, .int .i64 h.kind, .int .i64 h.id, .int .i64 h.adv, .int .i64 h.seq, .int .i64 sm, .int .i64 lg, .slice AL n cL, .slice AI n' cI] 27)).alloc (.cells #[.int .i64 h.age, .int .i64 h.kind, .int .i64 h.id, .int .i64 h.adv, .int .i64 h.seq, .int .i64 sm, .int .i64 lg, .slice A n c, .slice A' n' c'] 27))
  have OI6 := Lib.hid (show (((w5.alloc (.cells #[.int .i64 h.age, .int .i64 h.kind, .int .i64 h.id, .int .i64 h.adv, .int .i64 h.seq, .int .i64 sm, .int .i64 lg, .slice AL n cL, .slice AI n' cI] 27)).alloc (.cells #[.int .i64 h.age, .int .i64 h.kind, .int .i64 h.id, .int .i64 h.adv, .int .i64 h.seq, .int .i64 sm, .int .i64 lg, .slice A n c, .slice A' n' c'] 27)).drew).ownsRow w4.heap.size 3 1 (.slice AI n' cI) n' (M.map (Value.int .i64)) from (OI5.out.alloc (.cells #[.int .i64 h.age, .int .i64 h.kind, .int .i64 h.id, .int .i64 h.adv, .int .i64 h.seq, .int .i64 sm, .int .i64 lg, .slice AL n cL, .slice AI n' cI] 27)).alloc (.cells #[.int .i64 h.age, .int .i64 h.kind, .int .i64 h.id, .int .i64 h.adv, .int .i64 h.seq, .int .i64 sm, .int .i64 lg, .slice A n c, .slice A' n' c'] 27))
  have hsz6 : (((w5.alloc (.cells #[.int .i64 h.age, .int .i64 h.kind, .int .i64 h.id, .int .i64 h.adv, .int .i64 h.seq, .int .i64 sm, .int .i64 lg, .slice AL n cL, .slice AI n' cI] 27)).alloc (.cells #[.int .i64 h.age, .int .i64 h.kind, .int .i64 h.id, .int .i64 h.adv, .int .i64 h.seq, .int .i64 sm, .int .i64 lg, .slice A n c, .slice A' n' c'] 27)).drew).heap.size = w5.heap.size + 1 + 1 := by simp
  clear K5 B5 HL5 HM5 HO5 R5 OL5 OI5 k0 k1 k2 k3 k4 k5 k6 k7 k8
  have HZ6 := Lib.hid hsz6
  have hz1 : w.heap.size ≤ (((w5.alloc (.cells #[.int .i64 h.age, .int .i64 h.kind, .int .i64 h.id, .int .i64 h.adv, .int .i64 h.seq, .int .i64 sm, .int .i64 lg, .slice AL n cL, .slice AI n' cI] 27)).alloc (.cells #[.int .i64 h.age, .int .i64 h.kind, .int .i64 h.id, .int .i64 h.adv, .int .i64 h.seq, .int .i64 sm, .int .i64 lg, .slice A n c, .slice A' n' c'] 27)).drew).heap.size := by omega
  have hz2 : w3.heap.size ≤ (((w5.alloc (.cells #[.int .i64 h.age, .int .i64 h.kind, .int .i64 h.id, .int .i64 h.adv, .int .i64 h.seq, .int .i64 sm, .int .i64 lg, .slice AL n cL, .slice AI n' cI] 27)).alloc (.cells #[.int .i64 h.age, .int .i64 h.kind, .int .i64 h.id, .int .i64 h.adv, .int .i64 h.seq, .int .i64 sm, .int .i64 lg, .slice A n c, .slice A' n' c'] 27)).drew).heap.size := by omega
  have hz3 : w5.heap.size + 1 < (((w5.alloc (.cells #[.int .i64 h.age, .int .i64 h.kind, .int .i64 h.id, .int .i64 h.adv, .int .i64 h.seq, .int .i64 sm, .int .i64 lg, .slice AL n cL, .slice AI n' cI] 27)).alloc (.cells #[.int .i64 h.age, .int .i64 h.kind, .int .i64 h.id, .int .i64 h.adv, .int .i64 h.seq, .int .i64 sm, .int .i64 lg, .slice A n c, .slice A' n' c'] 27)).drew).heap.size := by omega
  clear hsz6
  generalize ((w5.alloc (.cells #[.int .i64 h.age, .int .i64 h.kind, .int .i64 h.id, .int .i64 h.adv, .int .i64 h.seq, .int .i64 sm, .int .i64 lg, .slice AL n cL, .slice AI n' cI] 27)).alloc (.cells #[.int .i64 h.age, .int .i64 h.kind, .int .i64 h.id, .int .i64 h.adv, .int .i64 h.seq, .int .i64 sm, .int .i64 lg, .slice A n c, .slice A' n' c'] 27)).drew = w7 at *
  go_wp2_with (first
    | (at_builtin; refine wpList_append_acc rfl (.tmp 60) (.tmp 61) rfl w7 _ 0 [] (by rfl) (by exact acc_made w7) _ (some ⟨g, 0, none⟩) m cg _ (by rfl) (by exact R6.out.alloc hz2 _) m (by omega) (by omega) ?_; intro v8 w8 ha8)
    | (at_builtin; refine wpList_append_acc rfl (.tmp 62) (.tmp 63) rfl w7 v8 m _ (by rfl) (by exact ha8.out) _ Am nm cm _ (by rfl) (by exact HO6.out.below (ha8.out.2.mono hz1)) (m + nm) rfl (by omega) ?_; intro v9 w9 ha9; obtain ⟨A9, c9, rfl, hc9, hm9, hr9⟩ := ha9.out.form))
  have hb9 := ha9.out.2
  have hs9 := hb9.size
  have R9 := Lib.hid hr9
  have HM9 := Lib.hid hm9
  have hg := get_put HR.out more
  have HG := Lib.hid hg
  clear hr9 ha9 ha8 hg
  refine (get_any A9 (m + nm) c9 _ _ _ (by rw [List.nil_append] at R9; exact R9.out) ((lsaBytes_byt h L M).append HY.out) (Nat.le_refl _) (by omega) hc9 HM9.out).mono ?_
  rintro e10 w10 ⟨A10, n10, c10, A11, n11, c11, rfl, hoA, hqA, hoB, hqB, hb10⟩
  rw [HG.out.1, HG.out.2.1, HSL.out]
  rw [HG.out.2.2.1] at hoA hqA
  rw [HG.out.2.2.2] at hoB hqB
  obtain rfl : n = n10 := HLL.out.symm.trans hqA
  obtain rfl : n' = n11 := HML.out.symm.trans hqB
  dsimp only
  have hb7 := hb9.trans (hb10.mono hs9)
  have OA := Lib.hid hoA
  have OB := Lib.hid hoB
  have HB7 := Lib.hid hb7
  have hs10 := hb7.size
  clear hoA hoB hqA hqB hb10 hb9 HG
  have KP := Lib.hid ((K6.out.below hb7 K6.out.lt).alloc (.cells #[.int .i64 h.age, .int .i64 h.kind, .int .i64 h.id, .int .i64 h.adv, .int .i64 h.seq, .int .i64 sm, .int .i64 lg, .slice A10 n c10, .slice A11 n' c11] 27))
  have KS := Lib.hid ((KS6.out.below hb7 KS6.out.lt).alloc (.cells #[.int .i64 h.age, .int .i64 h.kind, .int .i64 h.id, .int .i64 h.adv, .int .i64 h.seq, .int .i64 sm, .int .i64 lg, .slice A10 n c10, .slice A11 n' c11] 27))
  have KW := Lib.hid ((KW6.out.below hb7 KW6.out.lt).alloc (.cells #[.int .i64 h.age, .int .i64 h.kind, .int .i64 h.id, .int .i64 h.adv, .int .i64 h.seq, .int .i64 sm, .int .i64 lg, .slice A10 n c10, .slice A11 n' c11] 27))
  have KX := Lib.hid (Blk.new w10 27 #[.int .i64 h.age, .int .i64 h.kind, .int .i64 h.id, .int .i64 h.adv, .int .i64 h.seq, .int .i64 sm, .int .i64 lg, .slice A10 n c10, .slice A11 n' c11])
  have BP := Lib.hid ((B6.out.trans (hb7.mono hz1)).alloc (by omega) (.cells #[.int .i64 h.age, .int .i64 h.kind, .int .i64 h.id, .int .i64 h.adv, .int .i64 h.seq, .int .i64 sm, .int .i64 lg, .slice A10 n c10, .slice A11 n' c11] 27))
  have HLP := Lib.hid (((HL6.out.below (hb7.mono hz1)).alloc (by omega) (.cells #[.int .i64 h.age, .int .i64 h.kind, .int .i64 h.id, .int .i64 h.adv, .int .i64 h.seq, .int .i64 sm, .int .i64 lg, .slice A10 n c10, .slice A11 n' c11] 27)).more (B' := (w10.alloc (.cells #[.int .i64 h.age, .int .i64 h.kind, .int .i64 h.id, .int .i64 h.adv, .int .i64 h.seq, .int .i64 sm, .int .i64 lg, .slice A10 n c10, .slice A11 n' c11] 27)).heap.size) (by simp; omega))
  have HMP := Lib.hid (((HM6.out.below (hb7.mono hz1)).alloc (by omega) (.cells #[.int .i64 h.age, .int .i64 h.kind, .int .i64 h.id, .int .i64 h.adv, .int .i64 h.seq, .int .i64 sm, .int .i64 lg, .slice A10 n c10, .slice A11 n' c11] 27)).more (B' := (w10.alloc (.cells #[.int .i64 h.age, .int .i64 h.kind, .int .i64 h.id, .int .i64 h.adv, .int .i64 h.seq, .int .i64 sm, .int .i64 lg, .slice A10 n c10, .slice A11 n' c11] 27)).heap.size) (by simp; omega))
  have RB := Lib.hid (((R6.out.below (hb7.mono hz2)).alloc (by omega) (.cells #[.int .i64 h.age, .int .i64 h.kind, .int .i64 h.id, .int .i64 h.adv, .int .i64 h.seq, .int .i64 sm, .int .i64 lg, .slice A10 n c10, .slice A11 n' c11] 27)).more (B' := (w10.alloc (.cells #[.int .i64 h.age, .int .i64 h.kind, .int .i64 h.id, .int .i64 h.adv, .int .i64 h.seq, .int .i64 sm, .int .i64 lg, .slice A10 n c10, .slice A11 n' c11] 27)).heap.size) (by simp; omega))
  obtain ⟨_, _, q1, -, -, HLS⟩ := lnk_of_own ((own_below2 OL6.out hb7).alloc (.cells #[.int .i64 h.age, .int .i64 h.kind, .int .i64 h.id, .int .i64 h.adv, .int .i64 h.seq, .int .i64 sm, .int .i64 lg, .slice A10 n c10, .slice A11 n' c11] 27)) HLL.out
  obtain ⟨_, _, q2, -, -, HMS⟩ := row_of_ints ((own_below2 OI6.out hb7).alloc (.cells #[.int .i64 h.age, .int .i64 h.kind, .int .i64 h.id, .int .i64 h.adv, .int .i64 h.seq, .int .i64 sm, .int .i64 lg, .slice A10 n c10, .slice A11 n' c11] 27)) HML.out
  obtain ⟨_, _, q3, -, -, HLX⟩ := lnk_of_own (OA.out.alloc (.cells #[.int .i64 h.age, .int .i64 h.kind, .int .i64 h.id, .int .i64 h.adv, .int .i64 h.seq, .int .i64 sm, .int .i64 lg, .slice A10 n c10, .slice A11 n' c11] 27)) HLL.out
  obtain ⟨_, _, q4, -, -, HMX⟩ := row_of_ints (OB.out.alloc (.cells #[.int .i64 h.age, .int .i64 h.kind, .int .i64 h.id, .int .i64 h.adv, .int .i64 h.seq, .int .i64 sm, .int .i64 lg, .slice A10 n c10, .slice A11 n' c11] 27)) HML.out
  injection q1 with q1 _ q1'
  injection q2 with q2 _ q2'
  injection q3 with q3 _ q3'
  injection q4 with q4 _ q4'
  subst q1 q1' q2 q2' q3 q3' q4 q4'
  have HLS := Lib.hid HLS
  have HMS := Lib.hid HMS
  have HLX := Lib.hid HLX
  have HMX := Lib.hid HMX
  clear hb7 K6 KS6 KW6 B6 HL6 HM6 HO6 R6 OL6 OI6 OA OB R9
  go_upto_region 12 with fail
  have hxlt := KX.out.lt
  have hslt := KS.out.lt
  have hwlt := KW.out.lt
  have hplt := KP.out.lt
  have hxn : ∃ xb, w10.heap.size = xb := ⟨_, rfl⟩
  obtain ⟨xb, hxb⟩ := hxn
  rw [hxb] at KX hxlt ⊢
  generalize w10.alloc (.cells #[.int .i64 h.age, .int .i64 h.kind, .int .i64 h.id, .int .i64 h.adv, .int .i64 h.seq, .int .i64 sm, .int .i64 lg, .slice A10 n c10, .slice A11 n' c11] 27) = w0 at *
  clear hxb
  obtain ⟨p0, p1, p2, p3, p4, p5, p6, p7, p8⟩ := KP.out.nine
  obtain ⟨s0, s1, s2, s3, s4, s5, s6, s7, s8⟩ := KS.out.nine
  obtain ⟨t0, t1, t2, t3, t4, t5, t6, t7, t8⟩ := KW.out.nine
  obtain ⟨x0, x1, x2, x3, x4, x5, x6, x7, x8⟩ := KX.out.nine
  obtain ⟨_, _, q1, hglt, hcc⟩ := RB.out.2 (by omega)
  injection q1 with q1
  injection q1 with q1 q2
  subst q1 q2
  have b16 := hcc 16 (by omega)
  have b17 := hcc 17 (by omega)
  have HSB := Lib.hid (sum_at h L M)
  have hbd16 := (lsaBytes_byt h L M).getD 16
  have hbd17 := (lsaBytes_byt h L M).getD 17
  clear hcc
  rw [Nat.zero_add] at b16 b17
  generalize (lsaBytes h L M).getD 16 0 = y16 at *
  generalize (lsaBytes h L M).getD 17 0 = y17 at *
  have hsum : 256 * y16 + y17 = sm := by rw [← HSM.out, HSB.out]
  have hlg : lg = (m : Int) := HLG.out
  subst hlg
  subst hsum
  have hs0 := BP.out.size
  have BR : Below w0.heap.size w0 w0.drew := ⟨rfl, rfl, rfl, Nat.le_refl _, fun _ _ => rfl⟩
  have i1 : (16 : Int) < (m : Int) := by omega
  have i2 : (17 : Int) < (m : Int) := by omega
  have HRB : Hid (Row .u8 w0 w0.heap.size (some ⟨g, 0, none⟩) m (lsaBytes h L M)) := RB
  clear RB KP KS KW KX
  go_region_held3 (fun w' => Below w0.heap.size w0 w' ∧ (∀ b o, b < w0.heap.size → w'.cell? ⟨b, o, none⟩ = w0.cell? ⟨b, o, none⟩)) ((refine keepW ?_; first | with_reducible exact BR | with_reducible exact hB5 | with_reducible exact hB4 | with_reducible exact below_drewN hB2 _ | with_reducible exact hB2 | with_reducible exact hB1))
    (first
      | (go_at_call 12; (with_reducible refine (right_any h L M A A' n c n' c' _ _ (HLP.out.below (And.left ‹_›)) (HMP.out.below (And.left ‹_›)) (Below.size (And.left ‹_›)) (by unfold maxLen; omega) (by unfold maxLen; omega)).mono ?_); rintro ea wa ⟨rfl, hba⟩; have hB1 := Below.trans (And.left ‹_›) (hba.mono (Below.size (And.left ‹_›))); rw [HR.out])
      | (go_at_call 17; (with_reducible refine (refLsaBytes_any h L M A A' n c n' c' _ m _ (HLP.out.below (And.left ‹_›)) (HMP.out.below (And.left ‹_›)) (Below.size (And.left ‹_›)) hn50 hn50' HR.out Hm.out).mono ?_); rintro eb wb ⟨vb, rfl, hab⟩; obtain ⟨Ab, cb, rfl, hcb, hmb, hrb⟩ := hab.form; have hB2 := Below.trans (And.left ‹_›) (hab.2.mono (Below.size (And.left ‹_›))))
      | (go_at_call 16; (with_reducible refine (same_yes _ _ m _ _ _ _ (lsaBytes h L M) _ (HRB.out.below (And.left ‹_›)) hrb (by unfold maxLen; omega)).mono ?_); rintro ec wc ⟨rfl, dc, rfl⟩)
      | (go_at_call 18; (with_reducible refine (refSame_yes ⟨h.age, h.kind, h.id, h.adv, h.seq, 256 * y16 + y17, (m : Int)⟩ L M A10 A11 AL AI n c10 n' c11 cL cI _ _ _ (HLX.out.below (And.left ‹_›)) (HMX.out.below (And.left ‹_›)) (HLS.out.below (And.left ‹_›)) (HMS.out.below (And.left ‹_›)) (Below.size (And.left ‹_›)) (Below.size (And.left ‹_›)) (by unfold maxLen; omega) (by unfold maxLen; omega)).mono ?_); rintro ed wd ⟨rfl, hbd⟩; have hB4 := Below.trans (And.left ‹_›) (hbd.mono (Below.size (And.left ‹_›))))
      | (go_at_call 18; (with_reducible refine (refSame_yes ⟨h.age, h.kind, h.id, h.adv, h.seq, 256 * y16 + y17, (m : Int)⟩ L M AL AI A A' n cL n' cI c c' _ _ _ (HLS.out.below (And.left ‹_›)) (HMS.out.below (And.left ‹_›)) (HLP.out.below (And.left ‹_›)) (HMP.out.below (And.left ‹_›)) (Below.size (And.left ‹_›)) (Below.size (And.left ‹_›)) (by unfold maxLen; omega) (by unfold maxLen; omega)).mono ?_); rintro ee we ⟨rfl, hbe⟩; have hB5 := Below.trans (And.left ‹_›) (hbe.mono (Below.size (And.left ‹_›)))))
  all_goals
    go_wp2
    go_ret
    exact ⟨ret_bool (sum_wrap y16 y17 hbd16 hbd17), BP.out.trans (hB5.mono hs0)⟩
set_option maxRecDepth 100000 in
set_option maxHeartbeats 8000000 in
theorem walk (h : Hd) (A A' Am : Option Addr) (n c n' c' nm cm : Nat) (L : List Lk) (M : List Int) (more : List Int) (w : World) (hL : Lnk w w.heap.size A n L) (hM : Row .i64 w w.heap.size A' n' M) (hmo : Row .u8 w w.heap.size Am nm more) (hby : Byt more) (hn : n ≤ maxLen) (hn' : n' ≤ maxLen) (hmm : nm ≤ maxLen) :
    Calls Try.prog 3 #[.agg #[.int .i64 h.age, .int .i64 h.kind, .int .i64 h.id, .int .i64 h.adv, .int .i64 h.seq, .int .i64 h.sum, .int .i64 h.long, .slice A n c, .slice A' n' c'], .slice Am nm cm] w fun e w' => e = .returned (.bool true) ∧ Below w.heap.size w w' := by
  by_cases hlg : 50 < n ∨ 50 < n'
  · have HN := Lib.hid hn
    have HN' := Lib.hid hn'
    unfold maxLen at hn hn'
    have K0 := Lib.hid (Blk.new w 27 #[.int .i64 h.age, .int .i64 h.kind, .int .i64 h.id, .int .i64 h.adv, .int .i64 h.seq, .int .i64 h.sum, .int .i64 h.long, .slice A n c, .slice A' n' c'])
    have B0 := Lib.hid ((Below.refl w.heap.size w).alloc (Nat.le_refl _) (.cells #[.int .i64 h.age, .int .i64 h.kind, .int .i64 h.id, .int .i64 h.adv, .int .i64 h.seq, .int .i64 h.sum, .int .i64 h.long, .slice A n c, .slice A' n' c'] 27))
    have HL0 := Lib.hid (hL.alloc (Nat.le_refl _) (.cells #[.int .i64 h.age, .int .i64 h.kind, .int .i64 h.id, .int .i64 h.adv, .int .i64 h.seq, .int .i64 h.sum, .int .i64 h.long, .slice A n c, .slice A' n' c'] 27))
    have HM0 := Lib.hid (hM.alloc (Nat.le_refl _) (.cells #[.int .i64 h.age, .int .i64 h.kind, .int .i64 h.id, .int .i64 h.adv, .int .i64 h.seq, .int .i64 h.sum, .int .i64 h.long, .slice A n c, .slice A' n' c'] 27))
    have HO0 := Lib.hid (hmo.alloc (Nat.le_refl _) (.cells #[.int .i64 h.age, .int .i64 h.kind, .int .i64 h.id, .int .i64 h.adv, .int .i64 h.seq, .int .i64 h.sum, .int .i64 h.long, .slice A n c, .slice A' n' c'] 27))
    have HLL := Lib.hid hL.1
    have HML := Lib.hid hM.1
    have HY := Lib.hid hby
    clear hL hM hmo hby
    go_enter Try.func3, Try.ntmps3
    go_wp2_with fail
    refine (wakes_any _).mono ?_
    rintro e1 w1 ⟨rfl, hbb⟩
    have K1 := Lib.hid (K0.out.below hbb (by simp))
    have B1 := Lib.hid (B0.out.trans (hbb.mono (by simp)))
    have HL1 := Lib.hid (HL0.out.below (hbb.mono (by simp)))
    have HM1 := Lib.hid (HM0.out.below (hbb.mono (by simp)))
    have HO1 := Lib.hid (HO0.out.below (hbb.mono (by simp)))
    have hs1 := B1.out.size
    clear hbb K0 B0 HL0 HM0 HO0
    obtain ⟨k0, k1, k2, k3, k4, k5, k6, k7, k8⟩ := K1.out.nine
    go_wp2_with fail
    refine (long_yes h A A' n c n' c' _ HN.out HN'.out hlg).mono ?_
    rintro e2 w2 ⟨rfl, hb2⟩
    have B2 := Lib.hid (B1.out.trans (hb2.mono hs1))
    clear hb2 hlg
    go_wp2
    go_ret
    exact ⟨rfl, B2.out⟩
  · have hn50 : n ≤ 50 := by omega
    have hn50' : n' ≤ 50 := by omega
    clear hlg hn hn'
    by_cases hm50 : nm ≤ 50
    · cases hr : rightB h L M
      · exact walk_no h A A' Am n c n' c' nm cm L M more w hL hM hmo hby hn50 hn50' hm50 hr
      · exact walk_yes h A A' Am n c n' c' nm cm L M more w hL hM hmo hby hn50 hn50' hm50 hr
    · unfold maxLen at hmm
      have hmd : 50 < nm := by omega
      clear hm50
      have K0 := Lib.hid (Blk.new w 27 #[.int .i64 h.age, .int .i64 h.kind, .int .i64 h.id, .int .i64 h.adv, .int .i64 h.seq, .int .i64 h.sum, .int .i64 h.long, .slice A n c, .slice A' n' c'])
      have B0 := Lib.hid ((Below.refl w.heap.size w).alloc (Nat.le_refl _) (.cells #[.int .i64 h.age, .int .i64 h.kind, .int .i64 h.id, .int .i64 h.adv, .int .i64 h.seq, .int .i64 h.sum, .int .i64 h.long, .slice A n c, .slice A' n' c'] 27))
      have HL0 := Lib.hid (hL.alloc (Nat.le_refl _) (.cells #[.int .i64 h.age, .int .i64 h.kind, .int .i64 h.id, .int .i64 h.adv, .int .i64 h.seq, .int .i64 h.sum, .int .i64 h.long, .slice A n c, .slice A' n' c'] 27))
      have HM0 := Lib.hid (hM.alloc (Nat.le_refl _) (.cells #[.int .i64 h.age, .int .i64 h.kind, .int .i64 h.id, .int .i64 h.adv, .int .i64 h.seq, .int .i64 h.sum, .int .i64 h.long, .slice A n c, .slice A' n' c'] 27))
      have HO0 := Lib.hid (hmo.alloc (Nat.le_refl _) (.cells #[.int .i64 h.age, .int .i64 h.kind, .int .i64 h.id, .int .i64 h.adv, .int .i64 h.seq, .int .i64 h.sum, .int .i64 h.long, .slice A n c, .slice A' n' c'] 27))
      have HLL := Lib.hid hL.1
      have HML := Lib.hid hM.1
      have HY := Lib.hid hby
      clear hL hM hmo hby
      go_enter Try.func3, Try.ntmps3
      go_wp2_with fail
      refine (wakes_any _).mono ?_
      rintro e1 w1 ⟨rfl, hbb⟩
      have K1 := Lib.hid (K0.out.below hbb (by simp))
      have B1 := Lib.hid (B0.out.trans (hbb.mono (by simp)))
      have HL1 := Lib.hid (HL0.out.below (hbb.mono (by simp)))
      have HM1 := Lib.hid (HM0.out.below (hbb.mono (by simp)))
      have HO1 := Lib.hid (HO0.out.below (hbb.mono (by simp)))
      have hs1 := B1.out.size
      clear hbb K0 B0 HL0 HM0 HO0
      obtain ⟨k0, k1, k2, k3, k4, k5, k6, k7, k8⟩ := K1.out.nine
      go_wp2_with fail
      refine (long_no h A A' n c n' c' _ hn50 hn50').mono ?_
      rintro e2 w2 ⟨rfl, hb2⟩
      have B2 := Lib.hid (B1.out.trans (hb2.mono hs1))
      clear hb2 k0 k1 k2 k3 k4 k5 k6 k7 k8
      go_wp2
      go_ret
      exact ⟨rfl, B2.out⟩

set_option maxRecDepth 100000 in
theorem lifted (os : Os) (started : os.Started) (H : Type) (enc : TypeId × Value → H) :
    ReturnsInHanded {} Try.checked os 3 .any (Rows.lsaPutsSpec.pre6 enc Try.prog Try.f3 Rows.lsaPutsRow.domain false) (Rows.lsaPutsSpec.post enc Try.prog Try.f3 false true false false) := by
  refine returnsInHanded_of_change (C := Try.checked) own started (by kernel_rfl) Try.func3
    (ChangeSpec.witness6 (enc := enc) (C := Try.checked) false ⟨#[], #[.agg #[.int .i64 0, .int .i64 0, .int .i64 0, .int .i64 0, .int .i64 0, .int .i64 0, .int .i64 0, .slice none 0 0, .slice none 0 0], .slice none 0 0], []⟩ 8 (by kernel_rfl) (by kernel_rfl) (by kernel_rfl) (by kernel_rfl)) ?_
  intro W base args ds gs before hval0 hW hcnd _
  have hval : ∀ (j : Nat) t v, Try.f3.params[j]? = some t → args[j]? = some v → Value.okWide Try.prog W .any base t v := hval0
  have hW' := hW
  obtain ⟨p, q, hA0, hV, rfl, hfz, hnd⟩ := hW
  have hA : DataW.TrodAll enc Try.prog W 0 (fun _ => true) true Try.f3.params.toList args.toList ds p := hA0
  rw [Try.params3] at hA hval
  obtain ⟨v0, vs0, d0, ds0, p0, q0, hargs, rfl, rfl, h0, r0⟩ := trodAll_cons hA
  obtain ⟨v1, vs1, d1, ds1, p1, q1, rfl, rfl, rfl, h1, r1⟩ := trodAll_cons r0
  obtain ⟨rfl, rfl, rfl⟩ := trodAll_nil r1
  obtain rfl : args = #[v0, v1] := by cases args; simp_all
  obtain ⟨rfl, rfl⟩ := trodVars_none hV
  have k0 := h0
  have lt0 : ∀ x ∈ p0, x.block < W.heap.size := by obtain ⟨m, hm⟩ := k0; exact DataW.trod_lt m _ _ _ hm
  have k1 := h1
  have lt1 : ∀ x ∈ p1, x.block < W.heap.size := by obtain ⟨m, hm⟩ := k1; exact DataW.trod_lt m _ _ _ hm
  obtain ⟨h, A, A', n, c, n', c', L, M, rfl, hL, hn, hM, hn'⟩ := lsa_came (hval 0 27 v0 rfl rfl) h0
  obtain ⟨a1, len1, cap1, rfl⟩ := okWide_slice Try.underlying28 (hval 1 28 v1 rfl rfl)
  obtain ⟨z1, w1⟩ : ∃ zs, IsRow .u8 W a1 len1 cap1 zs := by
    obtain ⟨fuel, hf⟩ := h1
    rcases open_ints Try.underlying28 Try.underlying5 (by kernel_rfl) hf with ⟨hcs, _⟩ | ⟨x, l, c, zs, hcs, _, hl, hm, hz, _, hcell, hwz⟩
    · simp [Value.cells] at hcs
      obtain ⟨rfl, rfl, rfl⟩ := hcs
      exact ⟨[], .inl ⟨rfl, rfl, rfl, rfl⟩⟩
    · simp [Value.cells] at hcs
      obtain ⟨rfl, rfl, rfl⟩ := hcs
      exact ⟨zs, .inr ⟨_, rfl, hl, hm, by simpa using hz, hcell, hwz⟩⟩
  obtain ⟨more, hmo, hwf, _, hmm⟩ := row_of_is w1
  clear hA0 hval0
  refine (walk h A A' a1 n c n' c' len1 cap1 L M more W hL hM hmo (byt_of_wf hwf) hn hn' hmm).mono fun e W' ⟨he, bel⟩ => ?_
  subst he
  exact ⟨_, rfl, _, _, _, [], _, [], hW', trodAll_mk1 (shut_bool Try.underlying4 _), (trodAll_cons_mk (Below.trod laidOut (by kernel_rfl) (of_decide_eq_true (by kernel_rfl)) k0 bel lt0) (trodAll_cons_mk (Below.trod laidOut (by kernel_rfl) (of_decide_eq_true (by kernel_rfl)) k1 bel lt1) trodAll_mk0)), rfl, bel.frame _, fun h => by cases h⟩

theorem over : Rows.lsaPutsRow.holds Try.pinned (OpenSpec.ofChange Rows.lsaPutsSpec) :=
  OpenClaim.holds_of_wide 3 Try.f3 rfl rfl rfl rfl rfl rfl rfl ⟨rfl, rfl, rfl, rfl, rfl⟩ rfl rfl rfl rfl rfl (by kernel_rfl) Try.func3 (by kernel_rfl)
    (of_decide_eq_true (by kernel_rfl)) (by unfold Func.isWrapper; first | (rw [if_pos (by decide +kernel)]; kernel_rfl) | (rw [if_neg (by decide +kernel)]; exact ⟨rfl, rfl⟩))
    (fun os started H enc _ => lifted os started H enc)

/-- The statement. -/
theorem proved : Rows.LsaPutsSaid := over
end Go.Proofs.Ytidncajbedgplaa.lsaPuts
