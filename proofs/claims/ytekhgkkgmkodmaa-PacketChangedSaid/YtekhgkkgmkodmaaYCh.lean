/- The bytes of a packet of which one is changed aren't got: the statement PacketChanged. No conditions. -/
import Derived.Test.YtekhgkkgmkodmaaJat
import Derived.Test.YtekhgkkgmkodmaaJar
import Derived.Test.YtekhgkkgmkodmaaRows
import Derived.WalkKit
import Derived.ProofKit
import Derived.OpenShut
import Derived.ShutString
import Derived.ChangeOld
import Derived.Below
namespace Go.Proofs.Ytekhgkkgmkodmaa.packetChanged
open Go.ChangeShapes Go.WideShapes Go.ChangeAt Go.RowKit
set_option linter.unusedVariables false

theorem own : ownKnob Try.prog.godebug = none := by kernel_rfl
theorem laidOut : laidOutB Try.prog = true := by kernel_rfl

/-- The bytes of a right packet are good; of which one is changed, they aren't. -/
theorem pkt_good (v : Pv) (l : Pl) (h : (bodyBs v l).length % 2 = 0) : goodB (pktBytes v l) = true := by
  have h1 := pktBytes_length v l
  unfold goodB
  rw [decide_eq_true_iff]
  refine ⟨by omega, by omega, ?_⟩
  unfold pktBytes
  exact fillL_sum (pktBs_byt v l) 12 rfl (by rw [pktBs_length]; omega)
theorem pkt_bad (L : List Int) (hL : Byt L) (hg : goodB L = true) (k : Nat) (y : Int) (hk : k < L.length) (hy0 : 0 ≤ y) (hy1 : y ≤ 255) (hne : y ≠ L.getD k 0) : goodB (L.set k y) = false := by
  unfold goodB at hg ⊢
  rw [decide_eq_true_iff] at hg
  rw [decide_eq_false_iff_not]
  exact fun h => changed L hL k y hk hg.2.2 hy0 hy1 hne h.2.2

set_option maxRecDepth 100000 in
set_option maxHeartbeats 8000000 in
theorem walk (v : Pv) (l : Pl) (at_ by_ : Int) (w : World) (h : PkIn w w.heap.size v l) (hs : PkSm v) (ha0 : 0 ≤ at_) (ha1 : at_ ≤ 65535) (hb0 : 0 ≤ by_) (hb1 : by_ ≤ 255) :
    Calls Try.prog 3 #[.agg #[.int .i64 v.kind, .int .i64 v.sender, .int .i64 v.every, .int .i64 v.dead, .int .i64 v.prio, .int .i64 v.dr, .int .i64 v.bdr, .slice v.seen.a v.seen.n v.seen.c, .bool v.ini, .bool v.mor, .bool v.mas, .int .i64 v.seq, .slice v.heads.a v.heads.n v.heads.c, .slice v.wants.a v.wants.n v.wants.c, .slice v.lsas.a v.lsas.n v.lsas.c, .slice v.acks.a v.acks.n v.acks.c], .int .u16 at_, .int .u8 by_] w fun e w' => e = .returned (.bool true) ∧ Below w.heap.size w w' := by
  have K0 := Lib.hid (Blk.new w 31 #[.int .i64 v.kind, .int .i64 v.sender, .int .i64 v.every, .int .i64 v.dead, .int .i64 v.prio, .int .i64 v.dr, .int .i64 v.bdr, .slice v.seen.a v.seen.n v.seen.c, .bool v.ini, .bool v.mor, .bool v.mas, .int .i64 v.seq, .slice v.heads.a v.heads.n v.heads.c, .slice v.wants.a v.wants.n v.wants.c, .slice v.lsas.a v.lsas.n v.lsas.c, .slice v.acks.a v.acks.n v.acks.c])
  have B0 := Lib.hid ((Below.refl w.heap.size w).alloc (Nat.le_refl _) (.cells #[.int .i64 v.kind, .int .i64 v.sender, .int .i64 v.every, .int .i64 v.dead, .int .i64 v.prio, .int .i64 v.dr, .int .i64 v.bdr, .slice v.seen.a v.seen.n v.seen.c, .bool v.ini, .bool v.mor, .bool v.mas, .int .i64 v.seq, .slice v.heads.a v.heads.n v.heads.c, .slice v.wants.a v.wants.n v.wants.c, .slice v.lsas.a v.lsas.n v.lsas.c, .slice v.acks.a v.acks.n v.acks.c] 31))
  have HP0 := Lib.hid (h.below B0.out)
  have HS := Lib.hid hs
  clear h hs
  go_enter Try.func3, Try.ntmps3
  go_wp2_with fail
  refine (wakes_any _).mono ?_
  rintro e1 w1 ⟨rfl, hbb⟩
  have K1 := Lib.hid (K0.out.below hbb (by simp))
  have B1 := Lib.hid (B0.out.trans (hbb.mono (by simp)))
  have HP1 := Lib.hid (HP0.out.below (hbb.mono (by simp)))
  have hs1 := B1.out.size
  clear hbb K0 B0 HP0
  obtain ⟨k0, k1, k2, k3, k4, k5, k6, k7, k8, k9, k10, k11, k12, k13, k14, k15⟩ := K1.out.sixteen
  go_wp2_with fail
  refine (long_any v l w.heap.size _ HP1.out HS.out hs1).mono ?_
  rintro e2 w2 ⟨⟨b2, rfl⟩, hb2⟩
  have K2 := Lib.hid (K1.out.below hb2 K1.out.lt)
  have B2 := Lib.hid (B1.out.trans (hb2.mono hs1))
  have HP2 := Lib.hid (HP1.out.below (hb2.mono hs1))
  have hs2 := B2.out.size
  clear hb2 K1 B1 HP1 k0 k1 k2 k3 k4 k5 k6 k7 k8 k9 k10 k11 k12 k13 k14 k15
  obtain ⟨k0, k1, k2, k3, k4, k5, k6, k7, k8, k9, k10, k11, k12, k13, k14, k15⟩ := K2.out.sixteen
  cases b2
  case true =>
    go_wp2
    go_ret
    exact ⟨rfl, B2.out⟩
  case false =>
  by_cases hz : by_ = 0
  · subst hz
    go_wp2
    go_ret
    exact ⟨rfl, B2.out⟩
  · have hd : (by_ == 0) = false := by simp; omega
    cases hr : rightP v l
    · go_wp2_with fail
      refine (pput_no v l w.heap.size _ HP2.out HS.out hs2 hr).mono ?_
      rintro e3 w3 ⟨rfl, hb3⟩
      have B3 := Lib.hid (B2.out.trans (hb3.mono hs2))
      clear hb3 k0 k1 k2 k3 k4 k5 k6 k7 k8 k9 k10 k11 k12 k13 k14 k15
      go_wp2
      go_ret
      exact ⟨rfl, B3.out⟩
    · obtain ⟨hle, hev⟩ := body_len (right_parts hr).2.2
      obtain ⟨m, hm⟩ : ∃ m, (bodyBs v l).length = m := ⟨_, rfl⟩
      have HG := Lib.hid (pkt_good v l hev)
      have HBY := Lib.hid (pktBytes_byt v l)
      have HLN := Lib.hid (pktBytes_length v l)
      rw [hm] at hle hev HLN
      have HR := Lib.hid hr
      have HM := Lib.hid hm
      clear hr hm
      go_wp2_with fail
      refine (pput_yes v l w.heap.size m _ HP2.out HS.out hs2 HR.out HM.out).mono ?_
      rintro e3 w3 ⟨g, rfl, hg, hk3, hb3⟩
      have B3 := Lib.hid (B2.out.trans (hb3.mono hs2))
      have hgw : w.heap.size ≤ g := by omega
      clear hb3 HP2 K2 B2 k0 k1 k2 k3 k4 k5 k6 k7 k8 k9 k10 k11 k12 k13 k14 k15
      generalize pktBytes v l = L at *
      have hlen : L.length = 24 + m := HLN.out
      obtain ⟨k, hkk⟩ : ∃ k : Nat, at_ % ((24 + m : Nat) : Int) = (k : Int) := Int.eq_ofNat_of_zero_le (Int.emod_nonneg _ (by omega))
      have hkm : k < 24 + m := by have := Int.emod_lt_of_pos at_ (b := ((24 + m : Nat) : Int)) (by omega); omega
      have hc1 := hk3.at k (by omega)
      have hf1 := hk3.frozen k
      have hbd := HBY.out.getD k
      obtain ⟨x, hx⟩ : ∃ x, L.getD k 0 = x := ⟨_, rfl⟩
      rw [hx] at hc1 hbd
      obtain ⟨y, hy⟩ : ∃ y, (x + by_) % 256 = y := ⟨_, rfl⟩
      have hy0 : 0 ≤ y ∧ y ≤ 255 := by omega
      have hyx : y ≠ x := by omega
      have HN := Lib.hid (pkt_bad L HBY.out HG.out k y (by omega) hy0.1 hy0.2 (by rw [hx]; exact hyx))
      have HY4 := Lib.hid (HBY.out.set k hy0.1 hy0.2)
      have B4 := Lib.hid (B3.out.setCell (p := ⟨g, k, none⟩) hgw (.int .u8 y))
      have R4 := Lib.hid (show Row .u8 (w3.setCell ⟨g, k, none⟩ (.int .u8 y)) (w3.setCell ⟨g, k, none⟩ (.int .u8 y)).heap.size (some ⟨g, 0, none⟩) (24 + m) (L.set k y) by
        have h1 := (hk3.setInt k y).row
        rw [List.length_set, hlen] at h1
        exact h1)
      clear hk3 hx hyx HBY HG HLN hlen HR HM
      generalize L.set k y = L' at *
      push_cast at hkk
      go_upto_region 9 with fail
      clear hkk hy hc1 hf1
      generalize w3.setCell ⟨g, k, none⟩ (.int .u8 y) = w4 at *
      go_wp2_with fail
      refine (get_sum (some ⟨g, 0, none⟩) (24 + m) (24 + m) w4.heap.size L' _ R4.out HY4.out (Nat.le_refl _) (by omega) (by omega) (Nat.le_refl _) HN.out).mono ?_
      rintro e5 w5 ⟨rfl, hb5⟩
      have B5 := Lib.hid (B4.out.trans (hb5.mono B4.out.size))
      clear hb5
      go_wp2
      go_ret
      exact ⟨rfl, B5.out⟩

set_option maxRecDepth 100000 in
theorem lifted (os : Os) (started : os.Started) (H : Type) (enc : TypeId × Value → H) :
    ReturnsInHanded {} Try.checked os 3 .any (Rows.packetChangedSpec.pre6 enc Try.prog Try.f3 Rows.packetChangedRow.domain false) (Rows.packetChangedSpec.post enc Try.prog Try.f3 false true false false) := by
  refine returnsInHanded_of_change (C := Try.checked) own started (by kernel_rfl) Try.func3
    (ChangeSpec.witness6 (enc := enc) (C := Try.checked) false ⟨#[], #[.agg #[.int .i64 0, .int .i64 0, .int .i64 0, .int .i64 0, .int .i64 0, .int .i64 0, .int .i64 0, .slice none 0 0, .bool false, .bool false, .bool false, .int .i64 0, .slice none 0 0, .slice none 0 0, .slice none 0 0, .slice none 0 0], .int .u16 0, .int .u8 0], []⟩ 8 (by kernel_rfl) (by kernel_rfl) (by kernel_rfl) (by kernel_rfl)) ?_
  intro W base args ds gs before hval0 hW hcnd _
  have hval : ∀ (j : Nat) t v, Try.f3.params[j]? = some t → args[j]? = some v → Value.okWide Try.prog W .any base t v := hval0
  have hW' := hW
  obtain ⟨p, q, hA0, hV, rfl, hfz, hnd⟩ := hW
  have hA : DataW.TrodAll enc Try.prog W 0 (fun _ => true) true Try.f3.params.toList args.toList ds p := hA0
  rw [Try.params3] at hA hval
  obtain ⟨v0, vs0, d0, ds0, p0, q0, hargs, rfl, rfl, h0, r0⟩ := trodAll_cons hA
  obtain ⟨v1, vs1, d1, ds1, p1, q1, rfl, rfl, rfl, h1, r1⟩ := trodAll_cons r0
  obtain ⟨v2, vs2, d2, ds2, p2, q2, rfl, rfl, rfl, h2, r2⟩ := trodAll_cons r1
  obtain ⟨rfl, rfl, rfl⟩ := trodAll_nil r2
  obtain rfl : args = #[v0, v1, v2] := by cases args; simp_all
  obtain ⟨rfl, rfl⟩ := trodVars_none hV
  have k0 := h0
  have lt0 : ∀ x ∈ p0, x.block < W.heap.size := by obtain ⟨m, hm⟩ := k0; exact DataW.trod_lt m _ _ _ hm
  have k1 := h1
  have lt1 : ∀ x ∈ p1, x.block < W.heap.size := by obtain ⟨m, hm⟩ := k1; exact DataW.trod_lt m _ _ _ hm
  have k2 := h2
  have lt2 : ∀ x ∈ p2, x.block < W.heap.size := by obtain ⟨m, hm⟩ := k2; exact DataW.trod_lt m _ _ _ hm
  obtain ⟨pv, pl, rfl, hin, hsm⟩ := pkt_came (hval 0 31 v0 rfl rfl) h0
  obtain ⟨z1, rfl, hz1⟩ : ∃ z, v1 = .int .u16 z ∧ (0 ≤ z ∧ z ≤ 65535) := by
    obtain ⟨z, rfl⟩ := okWide_int Try.underlying32 (hval 1 32 v1 rfl rfl)
    obtain ⟨fuel, hf⟩ := h1
    obtain ⟨z', hz, _, hw⟩ := DataW.trod_int Try.underlying32 hf
    simp [Value.cells] at hz
    subst hz
    have := bounds_u16 hw
    exact ⟨z, rfl, by omega⟩
  obtain ⟨z2, rfl, hz2⟩ : ∃ z, v2 = .int .u8 z ∧ (0 ≤ z ∧ z ≤ 255) := by
    obtain ⟨z, rfl⟩ := okWide_int Try.underlying5 (hval 2 5 v2 rfl rfl)
    obtain ⟨fuel, hf⟩ := h2
    obtain ⟨z', hz, _, hw⟩ := DataW.trod_int Try.underlying5 hf
    simp [Value.cells] at hz
    subst hz
    have := bounds_u8 hw
    exact ⟨z, rfl, by omega⟩
  clear hA0 hval0
  refine (walk pv pl z1 z2 W hin hsm hz1.1 hz1.2 hz2.1 hz2.2).mono fun e W' ⟨he, bel⟩ => ?_
  subst he
  exact ⟨_, rfl, _, _, _, [], _, [], hW', trodAll_mk1 (shut_bool Try.underlying4 _), (trodAll_cons_mk (Below.trod laidOut (by kernel_rfl) (of_decide_eq_true (by kernel_rfl)) k0 bel lt0) (trodAll_cons_mk (Below.trod laidOut (by kernel_rfl) (of_decide_eq_true (by kernel_rfl)) k1 bel lt1) (trodAll_cons_mk (Below.trod laidOut (by kernel_rfl) (of_decide_eq_true (by kernel_rfl)) k2 bel lt2) trodAll_mk0))), rfl, bel.frame _, fun h => by cases h⟩

theorem over : Rows.packetChangedRow.holds Try.pinned (OpenSpec.ofChange Rows.packetChangedSpec) :=
  OpenClaim.holds_of_wide 3 Try.f3 rfl rfl rfl rfl rfl rfl rfl ⟨rfl, rfl, rfl, rfl, rfl⟩ rfl rfl rfl rfl rfl (by kernel_rfl) Try.func3 (by kernel_rfl)
    (of_decide_eq_true (by kernel_rfl)) (by unfold Func.isWrapper; first | (rw [if_pos (by decide +kernel)]; kernel_rfl) | (rw [if_neg (by decide +kernel)]; exact ⟨rfl, rfl⟩))
    (fun os started H enc _ => lifted os started H enc)

/-- The statement. -/
theorem proved : Rows.PacketChangedSaid := over
end Go.Proofs.Ytekhgkkgmkodmaa.packetChanged
