/- Any head's bytes are what the document says; one that may be comes back. No conditions. -/
import Derived.Test.YtidncajbedgplaaLtF
import Derived.Test.YtidncajbedgplaaRows
import Derived.WalkKit
import Derived.ProofKit
import Derived.OpenShut
import Derived.ShutString
import Derived.ChangeOld
import Derived.Below
namespace Go.Proofs.Ytidncajbedgplaa.lsaHeads
open Go.ChangeShapes Go.WideShapes Go.ChangeAt Go.RowKit
set_option linter.unusedVariables false

theorem own : ownKnob Try.prog.godebug = none := by kernel_rfl
theorem laidOut : laidOutB Try.prog = true := by kernel_rfl

/-- A head that fits. -/
def fitsHd (h : Hd) : Prop := headB h = true ∧ 0 ≤ h.id ∧ h.id < 4294967296 ∧ 0 ≤ h.sum ∧ h.sum < 65536 ∧ 0 ≤ h.long ∧ h.long < 65536
theorem head_back (h : Hd) (hf : fitsHd h) : okHead (headBytes h) = true ∧ headOf (headBytes h) = h := by
  obtain ⟨h0, h1, h2, h3, h4, h5, h6⟩ := hf
  have hp := head_pieces (enc h.age 2) (enc 0 1) (enc h.kind 1) (enc h.id 4) (enc h.adv 4) (enc h.seq 4) (enc h.sum 2) (enc h.long 2) [] (enc_length _ _) (enc_length _ _) (enc_length _ _) (enc_length _ _) (enc_length _ _) (enc_length _ _) (enc_length _ _) (enc_length _ _)
  rw [List.append_nil] at hp
  have e : headBytes h = enc h.age 2 ++ (enc 0 1 ++ (enc h.kind 1 ++ (enc h.id 4 ++ (enc h.adv 4 ++ (enc h.seq 4 ++ (enc h.sum 2 ++ enc h.long 2)))))) := rfl
  rw [← e] at hp
  have hb := h0
  unfold headB at hb
  simp only [Bool.and_eq_true, inB_iff] at hb
  have e0 : h.age % 256 ^ 2 = h.age := by omega
  have e1 : h.kind % 256 ^ 1 = h.kind := by omega
  have e2 : h.id % 256 ^ 4 = h.id := by omega
  have e3 : h.adv % 256 ^ 4 = h.adv := by omega
  have e4 : sgn (h.seq % 256 ^ 4) = h.seq := by
    unfold sgn
    split <;> omega
  have e5 : h.sum % 256 ^ 2 = h.sum := by omega
  have e6 : h.long % 256 ^ 2 = h.long := by omega
  have hh : headOf (headBytes h) = h := by
    rw [hp.1, num_enc _ 2 (by omega) (by omega), num_enc _ 1 (by omega) (by omega), num_enc _ 4 (by omega) (by omega), num_enc _ 4 (by omega) (by omega), num_enc _ 4 (by omega) (by omega), num_enc _ 2 (by omega) (by omega), num_enc _ 2 (by omega) (by omega), e0, e1, e2, e3, e4, e5, e6]
  refine ⟨?_, hh⟩
  have h2' := hp.2
  rw [wordAt_one _ 2 (by rw [headBytes_length]; omega), num_enc 0 1 (by omega) (by omega)] at h2'
  unfold okHead
  rw [hh, h0, h2']
  rfl

set_option maxRecDepth 100000 in
set_option maxHeartbeats 8000000 in
theorem walk (h : Hd) (w : World) : Calls Try.prog 5 #[.agg #[.int .i64 h.age, .int .i64 h.kind, .int .i64 h.id, .int .i64 h.adv, .int .i64 h.seq, .int .i64 h.sum, .int .i64 h.long]] w fun e w' => e = .returned (.bool true) ∧ Below w.heap.size w w' := by
  have K0 := Lib.hid (Blk.new w 23 #[.int .i64 h.age, .int .i64 h.kind, .int .i64 h.id, .int .i64 h.adv, .int .i64 h.seq, .int .i64 h.sum, .int .i64 h.long])
  have B0 := Lib.hid ((Below.refl w.heap.size w).alloc (Nat.le_refl _) (.cells #[.int .i64 h.age, .int .i64 h.kind, .int .i64 h.id, .int .i64 h.adv, .int .i64 h.seq, .int .i64 h.sum, .int .i64 h.long] 23))
  go_enter Try.func5, Try.ntmps5
  go_wp2_with fail
  refine (wakes_any _).mono ?_
  rintro e1 w1 ⟨rfl, hb1⟩
  have K1 := Lib.hid (K0.out.below hb1 (by simp))
  have B1 := Lib.hid (B0.out.trans (hb1.mono (by simp)))
  have hs1 := B1.out.size
  clear hb1 K0 B0
  obtain ⟨k0, k1, k2, k3, k4, k5, k6⟩ := K1.out.seven
  go_wp2_with fail
  refine (putHead_any h _).mono ?_
  rintro e2 w2 ⟨v2, rfl, ha2⟩
  obtain ⟨A2, c2, rfl, hc2, hm2, hr2⟩ := ha2.form
  have hb2 := ha2.2
  have R2 := Lib.hid hr2
  have K2 := Lib.hid (K1.out.below hb2 K1.out.lt)
  have B2 := Lib.hid (B1.out.trans (hb2.mono hs1))
  have hs2 := B2.out.size
  clear hb2 ha2 hr2 K1 B1 k0 k1 k2 k3 k4 k5 k6
  obtain ⟨k0, k1, k2, k3, k4, k5, k6⟩ := K2.out.seven
  go_wp2_with fail
  refine (refHeadBytes_any h _).mono ?_
  rintro e3 w3 ⟨v3, rfl, ha3⟩
  obtain ⟨A3, c3, rfl, hc3, hm3, hr3⟩ := ha3.form
  have hb3 := ha3.2
  have R3 := Lib.hid hr3
  have R3b := Lib.hid (R2.out.below hb3)
  have K3 := Lib.hid (K2.out.below hb3 K2.out.lt)
  have B3 := Lib.hid (B2.out.trans (hb3.mono hs2))
  have hs3 := hb3.size
  clear hb3 ha3 hr3 K2 B2 R2 k0 k1 k2 k3 k4 k5 k6
  go_wp2_with fail
  refine (same_yes A2 A3 20 c2 c3 w2.heap.size w3.heap.size (headBytes h) _ R3b.out R3.out (by unfold maxLen; omega)).mono ?_
  rintro e4 w4 ⟨rfl, d, rfl⟩
  have K4 := Lib.hid (K3.out.drewN d)
  have B4 := Lib.hid (below_drewN B3.out d)
  have R4 := Lib.hid (R3b.out.drewN d)
  have hs4 : w2.heap.size ≤ (w3.drewN d).heap.size := hs3
  clear K3 B3 R3b R3
  generalize w3.drewN d = w4 at *
  obtain ⟨k0, k1, k2, k3, k4, k5, k6⟩ := K4.out.seven
  go_upto_region 6 with fail
  go_cut [4] (fun s4 wx => ∃ f : Bool, s4 = .bool f ∧ Hid (f = true → fitsHd h) ∧ Hid (Below w4.heap.size w4 wx))
  case first =>
    go_wp2_with fail
    refine (refHead_any h _).mono ?_
    rintro e5 w5 ⟨rfl, hb5⟩
    have B5 := Lib.hid hb5
    have K5 := Lib.hid (K4.out.below hb5 K4.out.lt)
    clear hb5 k0 k1 k2 k3 k4 k5 k6
    obtain ⟨k0, k1, k2, k3, k4, k5, k6⟩ := K5.out.seven
    cases hh : headB h
    · go_wp2_with fail
      go_meet
      exact ⟨false, rfl, Lib.hid (fun h => by cases h), B5⟩
    · have HF := Lib.hid (show (decide (0 ≤ h.id) && (decide (h.id < 4294967296) && (decide (0 ≤ h.sum) && (decide (h.sum < 65536) && (decide (0 ≤ h.long) && decide (h.long < 65536)))))) = true → fitsHd h from fun hx => by
        simp only [Bool.and_eq_true, decide_eq_true_iff] at hx
        exact ⟨hh, hx⟩)
      by_cases c1 : 0 ≤ h.id
      · by_cases c2 : h.id < 4294967296
        · by_cases c3 : 0 ≤ h.sum
          · by_cases c4 : h.sum < 65536
            · by_cases c5 : 0 ≤ h.long
              · go_wp2_with fail
                go_meet
                exact ⟨_, rfl, Lib.hid (fun hx => ⟨hh, c1, c2, c3, c4, c5, by simpa using hx⟩), B5⟩
              · have d5 : decide (0 ≤ h.long) = false := by simpa using c5
                go_wp2_with fail
                go_meet
                exact ⟨false, rfl, Lib.hid (fun h => by cases h), B5⟩
            · have d4 : decide (h.sum < 65536) = false := by simpa using c4
              go_wp2_with fail
              go_meet
              exact ⟨false, rfl, Lib.hid (fun h => by cases h), B5⟩
          · have d3 : decide (0 ≤ h.sum) = false := by simpa using c3
            go_wp2_with fail
            go_meet
            exact ⟨false, rfl, Lib.hid (fun h => by cases h), B5⟩
        · have d2 : decide (h.id < 4294967296) = false := by simpa using c2
          go_wp2_with fail
          go_meet
          exact ⟨false, rfl, Lib.hid (fun h => by cases h), B5⟩
      · have d1 : decide (0 ≤ h.id) = false := by simpa using c1
        go_wp2_with fail
        go_meet
        exact ⟨false, rfl, Lib.hid (fun h => by cases h), B5⟩
  case rest =>
    obtain ⟨f, rfl, hf, hb5⟩ := hcut
    have K5 := Lib.hid (K4.out.below hb5.out K4.out.lt)
    have B5 := Lib.hid (B4.out.trans (hb5.out.mono B4.out.size))
    have R5 := Lib.hid (R4.out.below (hb5.out.mono hs4))
    have hs5 := hb5.out.size
    clear hb5 K4 B4 R4 k0 k1 k2 k3 k4 k5 k6
    go_wp2_with fail
    refine (getHead_long A2 20 c2 w2.heap.size _ _ R5.out (headBytes_byt h) (by omega) (by omega) hc2 hm2).mono ?_
    rintro e6 w6 ⟨rfl, hb6⟩
    have K6 := Lib.hid (K5.out.below hb6 K5.out.lt)
    have B6 := Lib.hid (B5.out.trans (hb6.mono B5.out.size))
    have hs6 := K6.out.lt
    clear hb6 K5 B5 R5
    obtain ⟨k0, k1, k2, k3, k4, k5, k6⟩ := K6.out.seven
    cases f
    · obtain ⟨h2, hh2⟩ : ∃ h2, (if okHead (headBytes h) = true then headOf (headBytes h) else zeroHd) = h2 := ⟨_, rfl⟩
      obtain ⟨e, he⟩ : ∃ e : Int, (if okHead (headBytes h) = true then 0 else 4) = e := ⟨_, rfl⟩
      rw [hh2, he]
      clear hh2 he hf
      go_wp2
      go_ret
      exact ⟨rfl, B6.out.alloc B6.out.size _⟩
    · obtain ⟨hok, hhd⟩ := head_back h (hf.out rfl)
      rw [hok, if_pos rfl, if_pos rfl, hhd]
      clear hok hhd hf
      go_wp2
      go_ret
      exact ⟨rfl, B6.out.alloc B6.out.size _⟩

set_option maxRecDepth 100000 in
theorem lifted (os : Os) (started : os.Started) (H : Type) (enc : TypeId × Value → H) :
    ReturnsInHanded {} Try.checked os 5 .any (Rows.lsaHeadsSpec.pre6 enc Try.prog Try.f5 Rows.lsaHeadsRow.domain false) (Rows.lsaHeadsSpec.post enc Try.prog Try.f5 false true false false) := by
  refine returnsInHanded_of_change (C := Try.checked) own started (by kernel_rfl) Try.func5
    (ChangeSpec.witness6 (enc := enc) (C := Try.checked) false ⟨#[], #[.agg #[.int .i64 0, .int .i64 0, .int .i64 0, .int .i64 0, .int .i64 0, .int .i64 0, .int .i64 0]], []⟩ 8 (by kernel_rfl) (by kernel_rfl) (by kernel_rfl) (by kernel_rfl)) ?_
  intro W base args ds gs before hval0 hW hcnd _
  have hval : ∀ (j : Nat) t v, Try.f5.params[j]? = some t → args[j]? = some v → Value.okWide Try.prog W .any base t v := hval0
  have hW' := hW
  obtain ⟨p, q, hA0, hV, rfl, hfz, hnd⟩ := hW
  have hA : DataW.TrodAll enc Try.prog W 0 (fun _ => true) true Try.f5.params.toList args.toList ds p := hA0
  rw [Try.params5] at hA hval
  obtain ⟨v0, vs0, d0, ds0, p0, q0, hargs, rfl, rfl, h0, r0⟩ := trodAll_cons hA
  obtain ⟨rfl, rfl, rfl⟩ := trodAll_nil r0
  obtain rfl : args = #[v0] := by cases args; simp_all
  obtain ⟨rfl, rfl⟩ := trodVars_none hV
  have k0 := h0
  have lt0 : ∀ x ∈ p0, x.block < W.heap.size := by obtain ⟨m, hm⟩ := k0; exact DataW.trod_lt m _ _ _ hm
  obtain ⟨h, rfl⟩ := hd_came (hval 0 23 v0 rfl rfl) h0
  clear hA0 hval0
  refine (walk h W).mono fun e W' ⟨he, bel⟩ => ?_
  subst he
  exact ⟨_, rfl, _, _, _, [], _, [], hW', trodAll_mk1 (shut_bool Try.underlying4 _), (trodAll_cons_mk (Below.trod laidOut (by kernel_rfl) (of_decide_eq_true (by kernel_rfl)) k0 bel lt0) trodAll_mk0), rfl, bel.frame _, fun h => by cases h⟩

theorem over : Rows.lsaHeadsRow.holds Try.pinned (OpenSpec.ofChange Rows.lsaHeadsSpec) :=
  OpenClaim.holds_of_wide 5 Try.f5 rfl rfl rfl rfl rfl rfl rfl ⟨rfl, rfl, rfl, rfl, rfl⟩ rfl rfl rfl rfl rfl (by kernel_rfl) Try.func5 (by kernel_rfl)
    (of_decide_eq_true (by kernel_rfl)) (by unfold Func.isWrapper; first | (rw [if_pos (by decide +kernel)]; kernel_rfl) | (rw [if_neg (by decide +kernel)]; exact ⟨rfl, rfl⟩))
    (fun os started H enc _ => lifted os started H enc)

/-- The statement. -/
theorem proved : Rows.LsaHeadsSaid := over
end Go.Proofs.Ytidncajbedgplaa.lsaHeads
