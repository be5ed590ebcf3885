/- Any packet is right, and has the bytes, as the document says, or is refused; what is put is got: the statement PacketPuts. No conditions. -/
import Derived.Test.YtekhgkkgmkodmaaGreatRk
import Derived.Test.YtekhgkkgmkodmaaGreatRj
import Derived.Test.YtekhgkkgmkodmaaGreatJbf
import Derived.Test.YtekhgkkgmkodmaaGreatJat
import Derived.Test.YtekhgkkgmkodmaaGreatJbe
import Derived.Test.YtekhgkkgmkodmaaGreatRows
import Derived.WalkKit
import Derived.ProofKit
import Derived.OpenShut
import Derived.ShutString
import Derived.ChangeOld
import Derived.Below
namespace Go.Proofs.YtekhgkkgmkodmaaGreat.packetPuts
open Go.ChangeShapes Go.WideShapes Go.ChangeAt Go.RowKit
set_option linter.unusedVariables false

theorem own : ownKnob Tryz.prog.godebug = none := by kernel_rfl
theorem laidOut : laidOutB Tryz.prog = true := by kernel_rfl

set_option maxRecDepth 100000 in
set_option maxHeartbeats 16000000 in
theorem walk_yes (v : Pv) (l : Pl) (w : World) (h : PkIn w w.heap.size v l) (hs : PkSm v) (hr : rightP v l = true) :
    Calls Tryz.prog 3 #[.agg #[.int .i64 v.kind, .int .i64 v.sender, .int .i64 v.every, .int .i64 v.dead, .int .i64 v.prio, .int .i64 v.dr, .int .i64 v.bdr, .slice v.seen.a v.seen.n v.seen.c, .bool v.ini, .bool v.mor, .bool v.mas, .int .i64 v.seq, .slice v.heads.a v.heads.n v.heads.c, .slice v.wants.a v.wants.n v.wants.c, .slice v.lsas.a v.lsas.n v.lsas.c, .slice v.acks.a v.acks.n v.acks.c]] w fun e w' => e = .returned (.bool true) ∧ Below w.heap.size w w' := by
  have K0 := Lib.hid (Blk.new w 31 #[.int .i64 v.kind, .int .i64 v.sender, .int .i64 v.every, .int .i64 v.dead, .int .i64 v.prio, .int .i64 v.dr, .int .i64 v.bdr, .slice v.seen.a v.seen.n v.seen.c, .bool v.ini, .bool v.mor, .bool v.mas, .int .i64 v.seq, .slice v.heads.a v.heads.n v.heads.c, .slice v.wants.a v.wants.n v.wants.c, .slice v.lsas.a v.lsas.n v.lsas.c, .slice v.acks.a v.acks.n v.acks.c])
  have B0 := Lib.hid ((Below.refl w.heap.size w).alloc (Nat.le_refl _) (.cells #[.int .i64 v.kind, .int .i64 v.sender, .int .i64 v.every, .int .i64 v.dead, .int .i64 v.prio, .int .i64 v.dr, .int .i64 v.bdr, .slice v.seen.a v.seen.n v.seen.c, .bool v.ini, .bool v.mor, .bool v.mas, .int .i64 v.seq, .slice v.heads.a v.heads.n v.heads.c, .slice v.wants.a v.wants.n v.wants.c, .slice v.lsas.a v.lsas.n v.lsas.c, .slice v.acks.a v.acks.n v.acks.c] 31))
  have HS := Lib.hid hs
  have HP := Lib.hid h
  have hz0 : w.heap.size ≤ (w.alloc (.cells #[.int .i64 v.kind, .int .i64 v.sender, .int .i64 v.every, .int .i64 v.dead, .int .i64 v.prio, .int .i64 v.dr, .int .i64 v.bdr, .slice v.seen.a v.seen.n v.seen.c, .bool v.ini, .bool v.mor, .bool v.mas, .int .i64 v.seq, .slice v.heads.a v.heads.n v.heads.c, .slice v.wants.a v.wants.n v.wants.c, .slice v.lsas.a v.lsas.n v.lsas.c, .slice v.acks.a v.acks.n v.acks.c] 31)).heap.size := by simp
  have HRR := Lib.hid hr
  clear h hs hr
  go_enter Tryz.func3, Tryz.ntmps3
  go_upto_region 1 with fail
  have hlt0 := K0.out.lt
  generalize w.alloc (.cells #[.int .i64 v.kind, .int .i64 v.sender, .int .i64 v.every, .int .i64 v.dead, .int .i64 v.prio, .int .i64 v.dr, .int .i64 v.bdr, .slice v.seen.a v.seen.n v.seen.c, .bool v.ini, .bool v.mor, .bool v.mas, .int .i64 v.seq, .slice v.heads.a v.heads.n v.heads.c, .slice v.wants.a v.wants.n v.wants.c, .slice v.lsas.a v.lsas.n v.lsas.c, .slice v.acks.a v.acks.n v.acks.c] 31) = w0 at *
  go_wp2_with fail
  refine (wakes_any _).mono ?_
  rintro e1 w1 ⟨rfl, hb1⟩
  have K1 := Lib.hid (K0.out.below hb1 hlt0)
  have B1 := Lib.hid (B0.out.trans (hb1.mono hz0))
  have hlt1 := K1.out.lt
  have hs1 := B1.out.size
  clear hb1 K0 B0
  go_wp2_with (refine wpList_load_pkt (by rfl) (.tmp 1) rfl (by rfl) K1.out ?_)
  refine (long_any v l w.heap.size _ (HP.out.below B1.out) HS.out hs1).mono ?_
  rintro e2 w2 ⟨⟨b2, rfl⟩, hb2⟩
  have K2 := Lib.hid (K1.out.below hb2 hlt1)
  have B2 := Lib.hid (B1.out.trans (hb2.mono hs1))
  have hlt2 := K2.out.lt
  have hs2 := B2.out.size
  clear hb2 K1 B1
  cases b2
  case true =>
    go_wp2
    go_ret
    exact ⟨rfl, B2.out⟩
  case false =>
  obtain ⟨m, hm⟩ : ∃ m, (bodyBs v l).length = m := ⟨_, rfl⟩
  have hm300 : m ≤ 300 := by have := (body_len (right_parts HRR.out).2.2).1; omega
  have HR := HRR
  have HM := Lib.hid hm
  have HLN := Lib.hid (show (pktBytes v l).length = 24 + m by rw [pktBytes_length, hm])
  clear hm
  go_wp2_with (refine wpList_load_pkt (by rfl) (.tmp 1) rfl (by rfl) K2.out ?_)
  refine (pput_yes v l w.heap.size m _ (HP.out.below B2.out) HS.out hs2 HR.out HM.out).mono ?_
  rintro e3 w3 ⟨g, rfl, hg, hk3, hb3⟩
  have K3 := Lib.hid (K2.out.below hb3 hlt2)
  have B3 := Lib.hid (B2.out.trans (hb3.mono hs2))
  have R3 := Lib.hid (show Row .u8 w3 w3.heap.size (some ⟨g, 0, none⟩) (24 + m) (pktBytes v l) by
    have h1 := hk3.row
    rw [HLN.out] at h1
    exact h1)
  have hlt3 := K3.out.lt
  have hs3 := B3.out.size
  clear hb3 hk3 K2 B2
  go_wp2_with (refine wpList_load_pkt (by rfl) (.tmp 1) rfl (by rfl) K3.out ?_)
  refine (r5Right_any v l w.heap.size _ (HP.out.below B3.out) HS.out hs3).mono ?_
  rintro e4 w4 ⟨rfl, hb4⟩
  rw [HR.out]
  have K4 := Lib.hid (K3.out.below hb4 hlt3)
  have B4 := Lib.hid (B3.out.trans (hb4.mono hs3))
  have R4 := Lib.hid ((R3.out.below hb4).more hb4.size)
  have hs4 := B4.out.size
  have hlt4 := K4.out.lt
  clear hb4 K3 B3 R3
  go_wp2_with fail
  refine (get_all want_ok (some ⟨g, 0, none⟩) (24 + m) (24 + m) w4.heap.size (pktBytes v l) _ R4.out (pktBytes_byt v l) (Nat.le_refl _) (by omega) (Nat.le_refl _) (by unfold maxLen; omega)).mono ?_
  rintro e5 w5 (⟨-, hno⟩ | ⟨x, pl, rfl, hb5, hup, hsm, hrt, htl, hcm⟩)
  · exact absurd ⟨v, l, HR.out, rfl⟩ hno
  obtain ⟨hsn, rfl⟩ := hcm v l HR.out rfl
  have KX := Lib.hid (Blk.new w5 31 #[.int .i64 x.kind, .int .i64 x.sender, .int .i64 x.every, .int .i64 x.dead, .int .i64 x.prio, .int .i64 x.dr, .int .i64 x.bdr, .slice x.seen.a x.seen.n x.seen.c, .bool x.ini, .bool x.mor, .bool x.mas, .int .i64 x.seq, .slice x.heads.a x.heads.n x.heads.c, .slice x.wants.a x.wants.n x.wants.c, .slice x.lsas.a x.lsas.n x.lsas.c, .slice x.acks.a x.acks.n x.acks.c])
  have BA := Lib.hid ((Below.refl w5.heap.size w5).alloc (Nat.le_refl _) (.cells #[.int .i64 x.kind, .int .i64 x.sender, .int .i64 x.every, .int .i64 x.dead, .int .i64 x.prio, .int .i64 x.dr, .int .i64 x.bdr, .slice x.seen.a x.seen.n x.seen.c, .bool x.ini, .bool x.mor, .bool x.mas, .int .i64 x.seq, .slice x.heads.a x.heads.n x.heads.c, .slice x.wants.a x.wants.n x.wants.c, .slice x.lsas.a x.lsas.n x.lsas.c, .slice x.acks.a x.acks.n x.acks.c] 31))
  have PX := Lib.hid (hup 0 _ (Nat.zero_le _) (Above.of_below BA.out))
  have hb6 := hb5.trans (BA.out.mono hb5.size)
  have K6 := Lib.hid (K4.out.below hb6 hlt4)
  have B6 := Lib.hid (B4.out.trans (hb6.mono hs4))
  have R6 := Lib.hid ((R4.out.below hb6).more hb6.size)
  have HSX := Lib.hid hsm
  have HRX := Lib.hid hrt
  have HSN := Lib.hid hsn
  clear hup hsm hrt htl hcm hb5 hb6 hsn K4 B4 R4 BA
  go_upto_region 9 with fail
  generalize w5.alloc (.cells #[.int .i64 x.kind, .int .i64 x.sender, .int .i64 x.every, .int .i64 x.dead, .int .i64 x.prio, .int .i64 x.dr, .int .i64 x.bdr, .slice x.seen.a x.seen.n x.seen.c, .bool x.ini, .bool x.mor, .bool x.mas, .int .i64 x.seq, .slice x.heads.a x.heads.n x.heads.c, .slice x.wants.a x.wants.n x.wants.c, .slice x.lsas.a x.lsas.n x.lsas.c, .slice x.acks.a x.acks.n x.acks.c] 31) = w6 at *
  have hlt6 := K6.out.lt
  have hltX := KX.out.lt
  have hs6 := B6.out.size
  refine puts_last _ _ _ _ _ _ _ _ _ _ _ _ _ _ _ _ _ _ _ _ _ _ _ _ _ _ _ _ _ _ _ _ _ _ (pktBytes v pl) (by unfold maxLen; omega) R6.out rfl rfl K6.out KX.out (fun W hW => ?_) (fun W hW => ?_) (fun W hW => ?_) (fun W hW => ?_) ?_
  · have := pright_any v pl w.heap.size W ((HP.out.below B6.out).below (hW.mono hs6)) HS.out (Nat.le_trans hs6 hW.size)
    rw [HR.out] at this
    exact this
  · exact r5Bytes_any v pl w.heap.size m W ((HP.out.below B6.out).below (hW.mono hs6)) (Nat.le_trans hs6 hW.size) HR.out HM.out
  · exact r5Same_yes x v pl w6.heap.size w.heap.size W (PX.out.below hW) ((HP.out.below B6.out).below (hW.mono hs6)) HSX.out HS.out hW.size (Nat.le_trans hs6 hW.size) HRX.out HR.out (sameN_symm HSN.out)
  · exact same_all v x pl w6.heap.size w.heap.size W (PX.out.below hW) ((HP.out.below B6.out).below (hW.mono hs6)) HSX.out hW.size (Nat.le_trans hs6 hW.size) (sameN_symm HSN.out)
  intro y0 y1 y3 y4 y5 y6 y7 y8 y9 y10 y11 y12 y13 y14 y15 y16 y17 y18 y19 y20 y21 y22 y23 y24 y25 y26 y27 y28 y29 y30 y31 y32 y33 y34 y35 y36 y37 y38 y39 y40 y41 y42 y43 y44 y45 y46 y47 y48 y49 y50 y51 y52 y53 y54 y55 y56 y57 y58 y59 y60 y61 wF hF
  go_wp2
  go_ret
  exact ⟨rfl, B6.out.trans (hF.mono hs6)⟩

theorem walk (v : Pv) (l : Pl) (w : World) (h : PkIn w w.heap.size v l) (hs : PkSm v) :
    Calls Tryz.prog 3 #[.agg #[.int .i64 v.kind, .int .i64 v.sender, .int .i64 v.every, .int .i64 v.dead, .int .i64 v.prio, .int .i64 v.dr, .int .i64 v.bdr, .slice v.seen.a v.seen.n v.seen.c, .bool v.ini, .bool v.mor, .bool v.mas, .int .i64 v.seq, .slice v.heads.a v.heads.n v.heads.c, .slice v.wants.a v.wants.n v.wants.c, .slice v.lsas.a v.lsas.n v.lsas.c, .slice v.acks.a v.acks.n v.acks.c]] w fun e w' => e = .returned (.bool true) ∧ Below w.heap.size w w' := by
  cases hr : rightP v l
  · exact puts_no v l w h hs hr
  · exact walk_yes v l w h hs hr

set_option maxRecDepth 100000 in
theorem lifted (os : Os) (started : os.Started) (H : Type) (enc : TypeId × Value → H) :
    ReturnsInHanded {} Tryz.checked os 3 .any (Rows.packetPutsSpec.pre6 enc Tryz.prog Tryz.f3 Rows.packetPutsRow.domain false) (Rows.packetPutsSpec.post enc Tryz.prog Tryz.f3 false true false false) := by
  refine returnsInHanded_of_change (C := Tryz.checked) own started (by kernel_rfl) Tryz.func3
    (ChangeSpec.witness6 (enc := enc) (C := Tryz.checked) false ⟨#[], #[.agg #[.int .i64 0, .int .i64 0, .int .i64 0, .int .i64 0, .int .i64 0, .int .i64 0, .int .i64 0, .slice none 0 0, .bool false, .bool false, .bool false, .int .i64 0, .slice none 0 0, .slice none 0 0, .slice none 0 0, .slice none 0 0]], []⟩ 8 (by kernel_rfl) (by kernel_rfl) (by kernel_rfl) (by kernel_rfl)) ?_
  intro W base args ds gs before hval0 hW hcnd _
  have hval : ∀ (j : Nat) t v, Tryz.f3.params[j]? = some t → args[j]? = some v → Value.okWide Tryz.prog W .any base t v := hval0
  have hW' := hW
  obtain ⟨p, q, hA0, hV, rfl, hfz, hnd⟩ := hW
  have hA : DataW.TrodAll enc Tryz.prog W 0 (fun _ => true) true Tryz.f3.params.toList args.toList ds p := hA0
  rw [Tryz.params3] at hA hval
  obtain ⟨v0, vs0, d0, ds0, p0, q0, hargs, rfl, rfl, h0, r0⟩ := trodAll_cons hA
  obtain ⟨rfl, rfl, rfl⟩ := trodAll_nil r0
  obtain rfl : args = #[v0] := by cases args; simp_all
  obtain ⟨rfl, rfl⟩ := trodVars_none hV
  have k0 := h0
  have lt0 : ∀ x ∈ p0, x.block < W.heap.size := by obtain ⟨m, hm⟩ := k0; exact DataW.trod_lt m _ _ _ hm
  obtain ⟨pv, pl, rfl, hin, hsm⟩ := pkt_came (hval 0 31 v0 rfl rfl) h0
  clear hA0 hval0
  refine (walk pv pl W hin hsm).mono fun e W' ⟨he, bel⟩ => ?_
  subst he
  exact ⟨_, rfl, _, _, _, [], _, [], hW', trodAll_mk1 (shut_bool Tryz.underlying4 _), (trodAll_cons_mk (Below.trod laidOut (by kernel_rfl) (of_decide_eq_true (by kernel_rfl)) k0 bel lt0) trodAll_mk0), rfl, bel.frame _, fun h => by cases h⟩

theorem over : Rows.packetPutsRow.holds Tryz.pinned (OpenSpec.ofChange Rows.packetPutsSpec) :=
  OpenClaim.holds_of_wide 3 Tryz.f3 rfl rfl rfl rfl rfl rfl rfl ⟨rfl, rfl, rfl, rfl, rfl⟩ rfl rfl rfl rfl rfl (by kernel_rfl) Tryz.func3 (by kernel_rfl)
    (of_decide_eq_true (by kernel_rfl)) (by unfold Func.isWrapper; first | (rw [if_pos (by decide +kernel)]; kernel_rfl) | (rw [if_neg (by decide +kernel)]; exact ⟨rfl, rfl⟩))
    (fun os started H enc _ => lifted os started H enc)

/-- The statement. -/
theorem proved : Rows.PacketPutsSaid := over
end Go.Proofs.YtekhgkkgmkodmaaGreat.packetPuts
