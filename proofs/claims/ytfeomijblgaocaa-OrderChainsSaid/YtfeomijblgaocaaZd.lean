/- What is newer than something that is newer than a third one is newer than that: the statement OrderChains. No conditions. -/
import Derived.Test.YtfeomijblgaocaaOd
import Derived.Test.YtfeomijblgaocaaOw
import Derived.Test.YtfeomijblgaocaaRows
import Derived.WalkKit
import Derived.ProofKit
import Derived.OpenShut
import Derived.ShutString
import Derived.ChangeOld
import Derived.Below
namespace Go.Proofs.Ytfeomijblgaocaa.orderChains
open Go.ChangeShapes Go.WideShapes Go.ChangeAt Go.RowKit
set_option linter.unusedVariables false

theorem own : ownKnob Try.prog.godebug = none := by kernel_rfl
theorem laidOut : laidOutB Try.prog = true := by kernel_rfl

set_option maxRecDepth 100000 in
set_option maxHeartbeats 8000000 in
theorem walk (a b c : Hd) (w : World) : Calls Try.prog 6 #[.agg #[.int .i64 a.age, .int .i64 a.kind, .int .i64 a.id, .int .i64 a.adv, .int .i64 a.seq, .int .i64 a.sum, .int .i64 a.long], .agg #[.int .i64 b.age, .int .i64 b.kind, .int .i64 b.id, .int .i64 b.adv, .int .i64 b.seq, .int .i64 b.sum, .int .i64 b.long], .agg #[.int .i64 c.age, .int .i64 c.kind, .int .i64 c.id, .int .i64 c.adv, .int .i64 c.seq, .int .i64 c.sum, .int .i64 c.long]] w fun e w' => e = .returned (.bool true) ∧ Below w.heap.size w w' := by
  have KA := Lib.hid (((Blk.new w 23 #[.int .i64 a.age, .int .i64 a.kind, .int .i64 a.id, .int .i64 a.adv, .int .i64 a.seq, .int .i64 a.sum, .int .i64 a.long]).alloc (.cells #[.int .i64 b.age, .int .i64 b.kind, .int .i64 b.id, .int .i64 b.adv, .int .i64 b.seq, .int .i64 b.sum, .int .i64 b.long] 23)).alloc (.cells #[.int .i64 c.age, .int .i64 c.kind, .int .i64 c.id, .int .i64 c.adv, .int .i64 c.seq, .int .i64 c.sum, .int .i64 c.long] 23))
  have KB := Lib.hid ((Blk.new1 w (.cells #[.int .i64 a.age, .int .i64 a.kind, .int .i64 a.id, .int .i64 a.adv, .int .i64 a.seq, .int .i64 a.sum, .int .i64 a.long] 23) 23 #[.int .i64 b.age, .int .i64 b.kind, .int .i64 b.id, .int .i64 b.adv, .int .i64 b.seq, .int .i64 b.sum, .int .i64 b.long]).alloc (.cells #[.int .i64 c.age, .int .i64 c.kind, .int .i64 c.id, .int .i64 c.adv, .int .i64 c.seq, .int .i64 c.sum, .int .i64 c.long] 23))
  have KC := Lib.hid (Blk.new2 w (.cells #[.int .i64 a.age, .int .i64 a.kind, .int .i64 a.id, .int .i64 a.adv, .int .i64 a.seq, .int .i64 a.sum, .int .i64 a.long] 23) (.cells #[.int .i64 b.age, .int .i64 b.kind, .int .i64 b.id, .int .i64 b.adv, .int .i64 b.seq, .int .i64 b.sum, .int .i64 b.long] 23) 23 #[.int .i64 c.age, .int .i64 c.kind, .int .i64 c.id, .int .i64 c.adv, .int .i64 c.seq, .int .i64 c.sum, .int .i64 c.long])
  have B0 := Lib.hid ((((Below.refl w.heap.size w).alloc (Nat.le_refl _) (.cells #[.int .i64 a.age, .int .i64 a.kind, .int .i64 a.id, .int .i64 a.adv, .int .i64 a.seq, .int .i64 a.sum, .int .i64 a.long] 23)).alloc (by simp) (.cells #[.int .i64 b.age, .int .i64 b.kind, .int .i64 b.id, .int .i64 b.adv, .int .i64 b.seq, .int .i64 b.sum, .int .i64 b.long] 23)).alloc (by simp; omega) (.cells #[.int .i64 c.age, .int .i64 c.kind, .int .i64 c.id, .int .i64 c.adv, .int .i64 c.seq, .int .i64 c.sum, .int .i64 c.long] 23))
  go_enter Try.func6, Try.ntmps6
  go_wp2_with fail
  refine (wakes_any _).mono ?_
  rintro e1 w1 ⟨rfl, hb1⟩
  have hlA := KA.out.lt
  have hlB := KB.out.lt
  have hlC := KC.out.lt
  have KA1 := Lib.hid (KA.out.below hb1 hlA)
  have KB1 := Lib.hid (KB.out.below hb1 hlB)
  have KC1 := Lib.hid (KC.out.below hb1 hlC)
  have B1 := Lib.hid (B0.out.trans (hb1.mono (by simp; omega)))
  have hlA1 := KA1.out.lt
  have hlB1 := KB1.out.lt
  have hlC1 := KC1.out.lt
  clear hb1 KA KB KC B0 hlA hlB hlC
  go_wp2_with (first | (refine wpList_load_head (by rfl) (.tmp 3) rfl (by rfl) KA1.out ?_) | (refine wpList_load_head (by rfl) (.tmp 4) rfl (by rfl) KB1.out ?_) | (refine wpList_load_head (by rfl) (.tmp 5) rfl (by rfl) KC1.out ?_))
  refine (may_any (some ⟨w1.heap.size, 0, none⟩) 3 3 [a, b, c] (w1.heap.size + 1) _ (hds_block [a, b, c] (Blk.new w1 23 _)) (by simp) (by unfold maxLen; omega)).mono ?_
  rintro e2 w2 ⟨rfl, hb2⟩
  have hsz1 := B1.out.size
  have BN := Below.alloc (Below.refl w1.heap.size w1) (Nat.le_refl _) (.cells (hdsCells [a, b, c]).toArray 23)
  have hb12 := BN.trans (hb2.mono (by simp))
  have B2 := Lib.hid (B1.out.trans (hb12.mono hsz1))
  have KA2 := Lib.hid (KA1.out.below hb12 hlA1)
  have KB2 := Lib.hid (KB1.out.below hb12 hlB1)
  have KC2 := Lib.hid (KC1.out.below hb12 hlC1)
  clear BN hb12 hb2 KA1 KB1 KC1 B1 hlA1 hlB1 hlC1
  cases hall : [a, b, c].all ageB
  · go_wp2
    go_ret
    exact ⟨rfl, B2.out⟩
  have HG := Lib.hid (show ageB a = true ∧ ageB b = true ∧ ageB c = true by simpa using hall)
  clear hall
  have hlA2 := KA2.out.lt
  have hlB2 := KB2.out.lt
  have hlC2 := KC2.out.lt
  have hsz2 := B2.out.size
  go_wp2_with (first | (refine wpList_load_head (by rfl) (.tmp 3) rfl (by rfl) KA2.out ?_) | (refine wpList_load_head (by rfl) (.tmp 4) rfl (by rfl) KB2.out ?_) | (refine wpList_load_head (by rfl) (.tmp 5) rfl (by rfl) KC2.out ?_))
  refine (newer_any a b _ HG.out.1 HG.out.2.1).mono ?_
  rintro e3 w3 ⟨rfl, hb3⟩
  have KA3 := Lib.hid (KA2.out.below hb3 hlA2)
  have KB3 := Lib.hid (KB2.out.below hb3 hlB2)
  have KC3 := Lib.hid (KC2.out.below hb3 hlC2)
  have B3 := Lib.hid (B2.out.trans (hb3.mono hsz2))
  have hlA3 := KA3.out.lt
  have hlB3 := KB3.out.lt
  have hlC3 := KC3.out.lt
  have hsz3 := B3.out.size
  clear hb3 KA2 KB2 KC2 B2 hlA2 hlB2 hlC2
  by_cases h1 : nw a b = 1
  · have H1 := Lib.hid h1
    rw [h1]
    clear h1
    go_wp2_with (first | (refine wpList_load_head (by rfl) (.tmp 3) rfl (by rfl) KA3.out ?_) | (refine wpList_load_head (by rfl) (.tmp 4) rfl (by rfl) KB3.out ?_) | (refine wpList_load_head (by rfl) (.tmp 5) rfl (by rfl) KC3.out ?_))
    refine (newer_any b c _ HG.out.2.1 HG.out.2.2).mono ?_
    rintro e4 w4 ⟨rfl, hb4⟩
    have KA4 := Lib.hid (KA3.out.below hb4 hlA3)
    have KB4 := Lib.hid (KB3.out.below hb4 hlB3)
    have KC4 := Lib.hid (KC3.out.below hb4 hlC3)
    have B4 := Lib.hid (B3.out.trans (hb4.mono hsz3))
    have hlA4 := KA4.out.lt
    have hlB4 := KB4.out.lt
    have hlC4 := KC4.out.lt
    have hsz4 := B4.out.size
    clear hb4 KA3 KB3 KC3 B3 hlA3 hlB3 hlC3
    by_cases h2 : nw b c = 1
    · have H2 := Lib.hid h2
      rw [h2]
      clear h2
      go_wp2_with (first | (refine wpList_load_head (by rfl) (.tmp 3) rfl (by rfl) KA4.out ?_) | (refine wpList_load_head (by rfl) (.tmp 4) rfl (by rfl) KB4.out ?_) | (refine wpList_load_head (by rfl) (.tmp 5) rfl (by rfl) KC4.out ?_))
      refine (newer_any a c _ HG.out.1 HG.out.2.2).mono ?_
      rintro e5 w5 ⟨rfl, hb5⟩
      rw [nw_trans HG.out.1 HG.out.2.1 HG.out.2.2 H1.out H2.out]
      have B5 := Lib.hid (B4.out.trans (hb5.mono hsz4))
      clear hb5
      go_wp2
      go_ret
      exact ⟨rfl, B5.out⟩
    · have d2 : (nw b c != 1) = true := by simp [h2]
      clear h2
      generalize nw b c = q at *
      go_wp2
      go_ret
      exact ⟨rfl, B4.out⟩
  · have d1 : (nw a b != 1) = true := by simp [h1]
    clear h1
    generalize nw a b = q at *
    go_wp2
    go_ret
    exact ⟨rfl, B3.out⟩

set_option maxRecDepth 100000 in
theorem lifted (os : Os) (started : os.Started) (H : Type) (enc : TypeId × Value → H) :
    ReturnsInHanded {} Try.checked os 6 .any (Rows.orderChainsSpec.pre6 enc Try.prog Try.f6 Rows.orderChainsRow.domain false) (Rows.orderChainsSpec.post enc Try.prog Try.f6 false true false false) := by
  refine returnsInHanded_of_change (C := Try.checked) own started (by kernel_rfl) Try.func6
    (ChangeSpec.witness6 (enc := enc) (C := Try.checked) false ⟨#[], #[.agg #[.int .i64 0, .int .i64 0, .int .i64 0, .int .i64 0, .int .i64 0, .int .i64 0, .int .i64 0], .agg #[.int .i64 0, .int .i64 0, .int .i64 0, .int .i64 0, .int .i64 0, .int .i64 0, .int .i64 0], .agg #[.int .i64 0, .int .i64 0, .int .i64 0, .int .i64 0, .int .i64 0, .int .i64 0, .int .i64 0]], []⟩ 8 (by kernel_rfl) (by kernel_rfl) (by kernel_rfl) (by kernel_rfl)) ?_
  intro W base args ds gs before hval0 hW hcnd _
  have hval : ∀ (j : Nat) t v, Try.f6.params[j]? = some t → args[j]? = some v → Value.okWide Try.prog W .any base t v := hval0
  have hW' := hW
  obtain ⟨p, q, hA0, hV, rfl, hfz, hnd⟩ := hW
  have hA : DataW.TrodAll enc Try.prog W 0 (fun _ => true) true Try.f6.params.toList args.toList ds p := hA0
  rw [Try.params6] at hA hval
  obtain ⟨v0, vs0, d0, ds0, p0, q0, hargs, rfl, rfl, h0, r0⟩ := trodAll_cons hA
  obtain ⟨v1, vs1, d1, ds1, p1, q1, rfl, rfl, rfl, h1, r1⟩ := trodAll_cons r0
  obtain ⟨v2, vs2, d2, ds2, p2, q2, rfl, rfl, rfl, h2, r2⟩ := trodAll_cons r1
  obtain ⟨rfl, rfl, rfl⟩ := trodAll_nil r2
  obtain rfl : args = #[v0, v1, v2] := by cases args; simp_all
  obtain ⟨rfl, rfl⟩ := trodVars_none hV
  have k0 := h0
  have lt0 : ∀ x ∈ p0, x.block < W.heap.size := by obtain ⟨m, hm⟩ := k0; exact DataW.trod_lt m _ _ _ hm
  have k1 := h1
  have lt1 : ∀ x ∈ p1, x.block < W.heap.size := by obtain ⟨m, hm⟩ := k1; exact DataW.trod_lt m _ _ _ hm
  have k2 := h2
  have lt2 : ∀ x ∈ p2, x.block < W.heap.size := by obtain ⟨m, hm⟩ := k2; exact DataW.trod_lt m _ _ _ hm
  obtain ⟨a, rfl⟩ := hd_came (hval 0 23 v0 rfl rfl) h0
  obtain ⟨b, rfl⟩ := hd_came (hval 1 23 v1 rfl rfl) h1
  obtain ⟨c, rfl⟩ := hd_came (hval 2 23 v2 rfl rfl) h2
  clear hA0 hval0
  refine (walk a b c W).mono fun e W' ⟨he, bel⟩ => ?_
  subst he
  exact ⟨_, rfl, _, _, _, [], _, [], hW', trodAll_mk1 (shut_bool Try.underlying4 _), (trodAll_cons_mk (Below.trod laidOut (by kernel_rfl) (of_decide_eq_true (by kernel_rfl)) k0 bel lt0) (trodAll_cons_mk (Below.trod laidOut (by kernel_rfl) (of_decide_eq_true (by kernel_rfl)) k1 bel lt1) (trodAll_cons_mk (Below.trod laidOut (by kernel_rfl) (of_decide_eq_true (by kernel_rfl)) k2 bel lt2) trodAll_mk0))), rfl, bel.frame _, fun h => by cases h⟩

theorem over : Rows.orderChainsRow.holds Try.pinned (OpenSpec.ofChange Rows.orderChainsSpec) :=
  OpenClaim.holds_of_wide 6 Try.f6 rfl rfl rfl rfl rfl rfl rfl ⟨rfl, rfl, rfl, rfl, rfl⟩ rfl rfl rfl rfl rfl (by kernel_rfl) Try.func6 (by kernel_rfl)
    (of_decide_eq_true (by kernel_rfl)) (by unfold Func.isWrapper; first | (rw [if_pos (by decide +kernel)]; kernel_rfl) | (rw [if_neg (by decide +kernel)]; exact ⟨rfl, rfl⟩))
    (fun os started H enc _ => lifted os started H enc)

/-- The statement. -/
theorem proved : Rows.OrderChainsSaid := over
end Go.Proofs.Ytfeomijblgaocaa.orderChains
