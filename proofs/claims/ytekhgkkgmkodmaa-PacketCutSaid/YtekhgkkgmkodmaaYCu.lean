/- The bytes of a packet that are cut off, or behind which others stand, are no packet: the statement PacketCut. No conditions. -/
import Derived.Test.YtekhgkkgmkodmaaJat
import Derived.Test.YtekhgkkgmkodmaaJbd
import Derived.Test.YtekhgkkgmkodmaaJbe
import Derived.Test.YtekhgkkgmkodmaaRows
import Derived.WalkKit
import Derived.ProofKit
import Derived.OpenShut
import Derived.ShutString
import Derived.ChangeOld
import Derived.Below
namespace Go.Proofs.Ytekhgkkgmkodmaa.packetCut
open Go.ChangeShapes Go.WideShapes Go.ChangeAt Go.RowKit
set_option linter.unusedVariables false

theorem own : ownKnob Try.prog.godebug = none := by kernel_rfl
theorem laidOut : laidOutB Try.prog = true := by kernel_rfl

/-- What is cut off tells no packet. -/
theorem cut_no {L : List Int} {v v0 : Pv} {pl pl0 : Pl} (hr : rightP v0 pl0 = true) (hL : L = pktBytes v0 pl0) (k : Nat) (hk : k < L.length) (h : Tells (L.take k) v pl) : False := by
  obtain ⟨_, f2, _⟩ := puts_facts hr hL
  obtain ⟨_, h2, _, _, _, _, h7⟩ := h
  have e : plong (L.take k) = plong L := by
    unfold plong
    rw [wordAt_pre L 2 2 k (by rw [List.length_take] at h7; omega)]
  rw [e, f2, List.length_take] at h2
  omega
/-- What has others behind it tells no packet. -/
theorem more_no {L M : List Int} {v v0 : Pv} {pl pl0 : Pl} (hr : rightP v0 pl0 = true) (hL : L = pktBytes v0 pl0) (hM : 0 < M.length) (h : Tells (L ++ M) v pl) : False := by
  obtain ⟨_, f2, _, _, _, _, _, f8, _⟩ := puts_facts hr hL
  obtain ⟨_, h2, _⟩ := h
  have e : plong (L ++ M) = plong L := by
    have h1 := wordAt_pre (L ++ M) 2 2 L.length (by omega)
    rw [List.take_left] at h1
    unfold plong
    rw [← h1]
  rw [e, f2, List.length_append] at h2
  omega

theorem acc_made (w : World) : Acc w (w.alloc (.cells #[] 5)) (.slice (some ⟨w.heap.size, 0, none⟩) 0 0) 0 [] :=
  ⟨World.ownsRow_made w #[] 0 (Nat.le_refl _) (by unfold maxLen; omega) rfl, (Below.refl _ _).alloc (Nat.le_refl _) _⟩

set_option maxRecDepth 100000 in
set_option maxHeartbeats 16000000 in
theorem walk (v : Pv) (l : Pl) (at_ : Int) (Am : Option Addr) (nm cm : Nat) (M : List Int) (w : World) (h : PkIn w w.heap.size v l) (hs : PkSm v) (ha0 : 0 ≤ at_) (ha1 : at_ ≤ 65535) (hM : Row .u8 w w.heap.size Am nm M) (hMy : Byt M) (hMm : nm ≤ maxLen) :
    Calls Try.prog 5 #[.agg #[.int .i64 v.kind, .int .i64 v.sender, .int .i64 v.every, .int .i64 v.dead, .int .i64 v.prio, .int .i64 v.dr, .int .i64 v.bdr, .slice v.seen.a v.seen.n v.seen.c, .bool v.ini, .bool v.mor, .bool v.mas, .int .i64 v.seq, .slice v.heads.a v.heads.n v.heads.c, .slice v.wants.a v.wants.n v.wants.c, .slice v.lsas.a v.lsas.n v.lsas.c, .slice v.acks.a v.acks.n v.acks.c], .int .u16 at_, .slice Am nm cm] w fun e w' => e = .returned (.bool true) ∧ Below w.heap.size w w' := by
  have K0 := Lib.hid (Blk.new w 31 #[.int .i64 v.kind, .int .i64 v.sender, .int .i64 v.every, .int .i64 v.dead, .int .i64 v.prio, .int .i64 v.dr, .int .i64 v.bdr, .slice v.seen.a v.seen.n v.seen.c, .bool v.ini, .bool v.mor, .bool v.mas, .int .i64 v.seq, .slice v.heads.a v.heads.n v.heads.c, .slice v.wants.a v.wants.n v.wants.c, .slice v.lsas.a v.lsas.n v.lsas.c, .slice v.acks.a v.acks.n v.acks.c])
  have B0 := Lib.hid ((Below.refl w.heap.size w).alloc (Nat.le_refl _) (.cells #[.int .i64 v.kind, .int .i64 v.sender, .int .i64 v.every, .int .i64 v.dead, .int .i64 v.prio, .int .i64 v.dr, .int .i64 v.bdr, .slice v.seen.a v.seen.n v.seen.c, .bool v.ini, .bool v.mor, .bool v.mas, .int .i64 v.seq, .slice v.heads.a v.heads.n v.heads.c, .slice v.wants.a v.wants.n v.wants.c, .slice v.lsas.a v.lsas.n v.lsas.c, .slice v.acks.a v.acks.n v.acks.c] 31))
  have HP0 := Lib.hid (h.below B0.out)
  have HS := Lib.hid hs
  have HM0 := Lib.hid hM
  have HMY := Lib.hid hMy
  unfold maxLen at hMm
  clear h hs hM hMy
  go_enter Try.func5, Try.ntmps5
  go_wp2_with fail
  refine (wakes_any _).mono ?_
  rintro e1 w1 ⟨rfl, hbb⟩
  have K1 := Lib.hid (K0.out.below hbb (by simp))
  have B1 := Lib.hid (B0.out.trans (hbb.mono (by simp)))
  have HP1 := Lib.hid (HP0.out.below (hbb.mono (by simp)))
  have hs1 := B1.out.size
  clear hbb K0 B0 HP0
  obtain ⟨k0, k1, k2, k3, k4, k5, k6, k7, k8, k9, k10, k11, k12, k13, k14, k15⟩ := K1.out.sixteen
  go_wp2_with fail
  refine (long_any v l w.heap.size _ HP1.out HS.out hs1).mono ?_
  rintro e2 w2 ⟨⟨b2, rfl⟩, hb2⟩
  have K2 := Lib.hid (K1.out.below hb2 K1.out.lt)
  have B2 := Lib.hid (B1.out.trans (hb2.mono hs1))
  have HP2 := Lib.hid (HP1.out.below (hb2.mono hs1))
  have hs2 := B2.out.size
  clear hb2 K1 B1 HP1 k0 k1 k2 k3 k4 k5 k6 k7 k8 k9 k10 k11 k12 k13 k14 k15
  obtain ⟨k0, k1, k2, k3, k4, k5, k6, k7, k8, k9, k10, k11, k12, k13, k14, k15⟩ := K2.out.sixteen
  cases b2
  case true =>
    go_wp2
    go_ret
    exact ⟨rfl, B2.out⟩
  case false =>
  by_cases hn50 : 50 < nm
  · have hd : decide (50 < (nm : Int)) = true := by simp; omega
    go_wp2
    go_ret
    exact ⟨rfl, B2.out⟩
  have hd : decide (50 < (nm : Int)) = false := by simp; omega
  cases hr : rightP v l
  · go_wp2_with fail
    refine (pput_no v l w.heap.size _ HP2.out HS.out hs2 hr).mono ?_
    rintro e3 w3 ⟨rfl, hb3⟩
    have B3 := Lib.hid (B2.out.trans (hb3.mono hs2))
    clear hb3 k0 k1 k2 k3 k4 k5 k6 k7 k8 k9 k10 k11 k12 k13 k14 k15
    go_wp2
    go_ret
    exact ⟨rfl, B3.out⟩
  obtain ⟨hle, hev⟩ := body_len (right_parts hr).2.2
  obtain ⟨m, hm⟩ : ∃ m, (bodyBs v l).length = m := ⟨_, rfl⟩
  have HBY := Lib.hid (pktBytes_byt v l)
  have HLN := Lib.hid (pktBytes_length v l)
  rw [hm] at hle hev HLN
  have HR := Lib.hid hr
  have HM := Lib.hid hm
  clear hr hm
  go_wp2_with fail
  refine (pput_yes v l w.heap.size m _ HP2.out HS.out hs2 HR.out HM.out).mono ?_
  rintro e3 w3 ⟨g, rfl, hg, hk3, hb3⟩
  have B3 := Lib.hid (B2.out.trans (hb3.mono hs2))
  have hgw : w.heap.size ≤ g := by omega
  have hs3 := B3.out.size
  clear hb3 HP2 K2 B2 k0 k1 k2 k3 k4 k5 k6 k7 k8 k9 k10 k11 k12 k13 k14 k15 hd
  obtain ⟨L, hL⟩ : ∃ L, pktBytes v l = L := ⟨_, rfl⟩
  rw [hL] at hk3 HBY HLN
  have HLL := Lib.hid hL.symm
  have HPU := Lib.hid (show Puts L from ⟨v, l, HR.out, hL.symm⟩)
  clear hL
  have hlen : L.length = 24 + m := HLN.out
  have R3 := Lib.hid (show Row .u8 w3 w3.heap.size (some ⟨g, 0, none⟩) (24 + m) L by
    have h1 := hk3.row
    rw [hlen] at h1
    exact h1)
  obtain ⟨k, hkk⟩ : ∃ k : Nat, at_ % ((24 + m : Nat) : Int) = (k : Int) := Int.eq_ofNat_of_zero_le (Int.emod_nonneg _ (by omega))
  have hkm : k < 24 + m := by have := Int.emod_lt_of_pos at_ (b := ((24 + m : Nat) : Int)) (by omega); omega
  push_cast at hkk
  have HLE := Lib.hid hlen
  clear hk3 hlen HLN
  go_wp2_with fail
  refine (get_all want_ok (some ⟨g, 0, none⟩) k (24 + m) w3.heap.size (L.take k) _ (R3.out.head k (by omega)) (HBY.out.take k) (Nat.le_refl _) (by omega) (by omega) (by unfold maxLen; omega)).mono ?_
  rintro e4 w4 (⟨⟨ee, hee, rfl, hb4⟩, -⟩ | ⟨v9, pl9, -, -, -, -, -, htl, -⟩)
  case inr => exact (cut_no HR.out HLL.out k (by rw [HLE.out]; exact hkm) htl).elim
  have hed : (ee != 0) = true := by simp [hee]
  have B4 := Lib.hid (B3.out.trans (hb4.mono hs3))
  have R4 := Lib.hid (R3.out.below hb4)
  have hs4 := hb4.size
  clear hb4 R3 B3 hkk hee
  have HM4 := Lib.hid (HM0.out.below B4.out)
  have hz1 : w.heap.size ≤ w4.heap.size := by omega
  go_wp2_with (first
    | (at_builtin; refine wpList_append_acc rfl (.tmp 42) (.tmp 43) rfl w4 _ 0 [] (by rfl) (by exact acc_made w4) _ (some ⟨g, 0, none⟩) (24 + m) (24 + m) _ (by rfl) (by exact R4.out.alloc hs4 _) (24 + m) (by omega) (by omega) ?_; intro v8 w8 ha8)
    | (at_builtin; refine wpList_append_acc rfl (.tmp 44) (.tmp 45) rfl w4 v8 (24 + m) _ (by rfl) (by exact ha8.out) _ Am nm cm _ (by rfl) (by exact HM4.out.below (ha8.out.2.mono hz1)) (24 + m + nm) rfl (by omega) ?_; intro v9 w9 ha9; obtain ⟨A9, c9, rfl, hc9, hm9, hr9⟩ := ha9.out.form))
  have B9 := Lib.hid (B4.out.trans (ha9.out.2.mono hz1))
  have R9 := Lib.hid hr9
  have hs9 := B9.out.size
  clear hr9 ha8 ha9 R4 B4 HM4
  refine (get_all want_ok A9 (24 + m + nm) c9 w9.heap.size (L ++ M) _ R9.out (HBY.out.append HMY.out) (Nat.le_refl _) (by omega) hc9 hm9).mono ?_
  rintro e10 w10 (⟨⟨ef, hef, rfl, hb10⟩, hnp⟩ | ⟨v9, pl9, rfl, hb10, -, -, -, htl, -⟩)
  · have hnm : ¬ nm = 0 := by
      intro h0
      have h1 := HM0.out.1
      rw [h0] at h1
      rw [List.eq_nil_of_length_eq_zero h1, List.append_nil] at hnp
      exact hnp HPU.out
    have hd1 : (ef == 0) = false := by simp [hef]
    have hd2 : ((nm : Int) == 0) = false := by simp; omega
    have B10 := Lib.hid (B9.out.trans (hb10.mono hs9))
    clear hb10 hnp
    go_wp2
    go_ret
    exact ⟨rfl, B10.out.alloc B10.out.size _⟩
  · obtain rfl : nm = 0 := by
      have h1 := HM0.out.1
      by_cases h0 : nm = 0
      · exact h0
      · exact (more_no HR.out HLL.out (by omega) htl).elim
    have B10 := Lib.hid (B9.out.trans (hb10.mono hs9))
    clear hb10 htl
    go_wp2
    go_ret
    exact ⟨rfl, B10.out.alloc B10.out.size _⟩

set_option maxRecDepth 100000 in
theorem lifted (os : Os) (started : os.Started) (H : Type) (enc : TypeId × Value → H) :
    ReturnsInHanded {} Try.checked os 5 .any (Rows.packetCutSpec.pre6 enc Try.prog Try.f5 Rows.packetCutRow.domain false) (Rows.packetCutSpec.post enc Try.prog Try.f5 false true false false) := by
  refine returnsInHanded_of_change (C := Try.checked) own started (by kernel_rfl) Try.func5
    (ChangeSpec.witness6 (enc := enc) (C := Try.checked) false ⟨#[], #[.agg #[.int .i64 0, .int .i64 0, .int .i64 0, .int .i64 0, .int .i64 0, .int .i64 0, .int .i64 0, .slice none 0 0, .bool false, .bool false, .bool false, .int .i64 0, .slice none 0 0, .slice none 0 0, .slice none 0 0, .slice none 0 0], .int .u16 0, .slice none 0 0], []⟩ 8 (by kernel_rfl) (by kernel_rfl) (by kernel_rfl) (by kernel_rfl)) ?_
  intro W base args ds gs before hval0 hW hcnd _
  have hval : ∀ (j : Nat) t v, Try.f5.params[j]? = some t → args[j]? = some v → Value.okWide Try.prog W .any base t v := hval0
  have hW' := hW
  obtain ⟨p, q, hA0, hV, rfl, hfz, hnd⟩ := hW
  have hA : DataW.TrodAll enc Try.prog W 0 (fun _ => true) true Try.f5.params.toList args.toList ds p := hA0
  rw [Try.params5] at hA hval
  obtain ⟨v0, vs0, d0, ds0, p0, q0, hargs, rfl, rfl, h0, r0⟩ := trodAll_cons hA
  obtain ⟨v1, vs1, d1, ds1, p1, q1, rfl, rfl, rfl, h1, r1⟩ := trodAll_cons r0
  obtain ⟨v2, vs2, d2, ds2, p2, q2, rfl, rfl, rfl, h2, r2⟩ := trodAll_cons r1
  obtain ⟨rfl, rfl, rfl⟩ := trodAll_nil r2
  obtain rfl : args = #[v0, v1, v2] := by cases args; simp_all
  obtain ⟨rfl, rfl⟩ := trodVars_none hV
  have k0 := h0
  have lt0 : ∀ x ∈ p0, x.block < W.heap.size := by obtain ⟨m, hm⟩ := k0; exact DataW.trod_lt m _ _ _ hm
  have k1 := h1
  have lt1 : ∀ x ∈ p1, x.block < W.heap.size := by obtain ⟨m, hm⟩ := k1; exact DataW.trod_lt m _ _ _ hm
  have k2 := h2
  have lt2 : ∀ x ∈ p2, x.block < W.heap.size := by obtain ⟨m, hm⟩ := k2; exact DataW.trod_lt m _ _ _ hm
  obtain ⟨pv, pl, rfl, hin, hsm⟩ := pkt_came (hval 0 31 v0 rfl rfl) h0
  obtain ⟨z1, rfl, hz1⟩ : ∃ z, v1 = .int .u16 z ∧ (0 ≤ z ∧ z ≤ 65535) := by
    obtain ⟨z, rfl⟩ := okWide_int Try.underlying32 (hval 1 32 v1 rfl rfl)
    obtain ⟨fuel, hf⟩ := h1
    obtain ⟨z', hz, _, hw⟩ := DataW.trod_int Try.underlying32 hf
    simp [Value.cells] at hz
    subst hz
    have := bounds_u16 hw
    exact ⟨z, rfl, by omega⟩
  obtain ⟨a2, len2, cap2, rfl⟩ := okWide_slice Try.underlying35 (hval 2 35 v2 rfl rfl)
  obtain ⟨z2, w2⟩ : ∃ zs, IsRow .u8 W a2 len2 cap2 zs := by
    obtain ⟨fuel, hf⟩ := h2
    rcases open_ints Try.underlying35 Try.underlying5 (by kernel_rfl) hf with ⟨hcs, _⟩ | ⟨x, l, c, zs, hcs, _, hl, hm, hz, _, hcell, hwz⟩
    · simp [Value.cells] at hcs
      obtain ⟨rfl, rfl, rfl⟩ := hcs
      exact ⟨[], .inl ⟨rfl, rfl, rfl, rfl⟩⟩
    · simp [Value.cells] at hcs
      obtain ⟨rfl, rfl, rfl⟩ := hcs
      exact ⟨zs, .inr ⟨_, rfl, hl, hm, by simpa using hz, hcell, hwz⟩⟩
  obtain ⟨more, hmo, hwf, _, hmm⟩ := row_of_is w2
  clear hA0 hval0
  refine (walk pv pl z1 a2 len2 cap2 more W hin hsm hz1.1 hz1.2 hmo (byt_of_wf hwf) hmm).mono fun e W' ⟨he, bel⟩ => ?_
  subst he
  exact ⟨_, rfl, _, _, _, [], _, [], hW', trodAll_mk1 (shut_bool Try.underlying4 _), (trodAll_cons_mk (Below.trod laidOut (by kernel_rfl) (of_decide_eq_true (by kernel_rfl)) k0 bel lt0) (trodAll_cons_mk (Below.trod laidOut (by kernel_rfl) (of_decide_eq_true (by kernel_rfl)) k1 bel lt1) (trodAll_cons_mk (Below.trod laidOut (by kernel_rfl) (of_decide_eq_true (by kernel_rfl)) k2 bel lt2) trodAll_mk0))), rfl, bel.frame _, fun h => by cases h⟩

theorem over : Rows.packetCutRow.holds Try.pinned (OpenSpec.ofChange Rows.packetCutSpec) :=
  OpenClaim.holds_of_wide 5 Try.f5 rfl rfl rfl rfl rfl rfl rfl ⟨rfl, rfl, rfl, rfl, rfl⟩ rfl rfl rfl rfl rfl (by kernel_rfl) Try.func5 (by kernel_rfl)
    (of_decide_eq_true (by kernel_rfl)) (by unfold Func.isWrapper; first | (rw [if_pos (by decide +kernel)]; kernel_rfl) | (rw [if_neg (by decide +kernel)]; exact ⟨rfl, rfl⟩))
    (fun os started H enc _ => lifted os started H enc)

/-- The statement. -/
theorem proved : Rows.PacketCutSaid := over
end Go.Proofs.Ytekhgkkgmkodmaa.packetCut
