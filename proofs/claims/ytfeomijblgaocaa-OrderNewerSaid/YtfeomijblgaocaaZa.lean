/- Of any two heads the newer one is the one that the document says; asked the other way about it is the other answer: the statement OrderNewer. No conditions. -/
import Derived.Test.YtfeomijblgaocaaOd
import Derived.Test.YtfeomijblgaocaaOw
import Derived.Test.YtfeomijblgaocaaRows
import Derived.WalkKit
import Derived.ProofKit
import Derived.OpenShut
import Derived.ShutString
import Derived.ChangeOld
import Derived.Below
namespace Go.Proofs.Ytfeomijblgaocaa.orderNewer
open Go.ChangeShapes Go.WideShapes Go.ChangeAt Go.RowKit
set_option linter.unusedVariables false

theorem own : ownKnob Try.prog.godebug = none := by kernel_rfl
theorem laidOut : laidOutB Try.prog = true := by kernel_rfl

set_option maxRecDepth 100000 in
set_option maxHeartbeats 8000000 in
theorem walk (a b : Hd) (w : World) : Calls Try.prog 3 #[.agg #[.int .i64 a.age, .int .i64 a.kind, .int .i64 a.id, .int .i64 a.adv, .int .i64 a.seq, .int .i64 a.sum, .int .i64 a.long], .agg #[.int .i64 b.age, .int .i64 b.kind, .int .i64 b.id, .int .i64 b.adv, .int .i64 b.seq, .int .i64 b.sum, .int .i64 b.long]] w fun e w' => e = .returned (.bool true) ∧ Below w.heap.size w w' := by
  have KA := Lib.hid ((Blk.new w 23 #[.int .i64 a.age, .int .i64 a.kind, .int .i64 a.id, .int .i64 a.adv, .int .i64 a.seq, .int .i64 a.sum, .int .i64 a.long]).alloc (.cells #[.int .i64 b.age, .int .i64 b.kind, .int .i64 b.id, .int .i64 b.adv, .int .i64 b.seq, .int .i64 b.sum, .int .i64 b.long] 23))
  have KB := Lib.hid (Blk.new1 w (.cells #[.int .i64 a.age, .int .i64 a.kind, .int .i64 a.id, .int .i64 a.adv, .int .i64 a.seq, .int .i64 a.sum, .int .i64 a.long] 23) 23 #[.int .i64 b.age, .int .i64 b.kind, .int .i64 b.id, .int .i64 b.adv, .int .i64 b.seq, .int .i64 b.sum, .int .i64 b.long])
  have B0 := Lib.hid (((Below.refl w.heap.size w).alloc (Nat.le_refl _) (.cells #[.int .i64 a.age, .int .i64 a.kind, .int .i64 a.id, .int .i64 a.adv, .int .i64 a.seq, .int .i64 a.sum, .int .i64 a.long] 23)).alloc (by simp) (.cells #[.int .i64 b.age, .int .i64 b.kind, .int .i64 b.id, .int .i64 b.adv, .int .i64 b.seq, .int .i64 b.sum, .int .i64 b.long] 23))
  go_enter Try.func3, Try.ntmps3
  go_wp2_with fail
  refine (wakes_any _).mono ?_
  rintro e1 w1 ⟨rfl, hb1⟩
  have hlA := KA.out.lt
  have hlB := KB.out.lt
  have KA1 := Lib.hid (KA.out.below hb1 hlA)
  have KB1 := Lib.hid (KB.out.below hb1 hlB)
  have B1 := Lib.hid (B0.out.trans (hb1.mono (by simp; omega)))
  have hlA1 := KA1.out.lt
  have hlB1 := KB1.out.lt
  clear hb1 KA KB B0 hlA hlB
  go_wp2_with (first | (refine wpList_load_head (by rfl) (.tmp 2) rfl (by rfl) KA1.out ?_) | (refine wpList_load_head (by rfl) (.tmp 3) rfl (by rfl) KB1.out ?_))
  refine (may_any (some ⟨w1.heap.size, 0, none⟩) 2 2 [a, b] (w1.heap.size + 1) _ (hds_block [a, b] (Blk.new w1 23 _)) (by simp) (by unfold maxLen; omega)).mono ?_
  rintro e2 w2 ⟨rfl, hb2⟩
  have hsz1 := B1.out.size
  have BN := Below.alloc (Below.refl w1.heap.size w1) (Nat.le_refl _) (.cells (hdsCells [a, b]).toArray 23)
  have hb12 := BN.trans (hb2.mono (by simp))
  have B2 := Lib.hid (B1.out.trans (hb12.mono hsz1))
  have KA2 := Lib.hid (KA1.out.below hb12 hlA1)
  have KB2 := Lib.hid (KB1.out.below hb12 hlB1)
  clear BN hb12 hb2 KA1 KB1 B1 hlA1 hlB1
  cases hall : [a, b].all ageB
  · go_wp2
    go_ret
    exact ⟨rfl, B2.out⟩
  have HG := Lib.hid (show ageB a = true ∧ ageB b = true by simpa using hall)
  clear hall
  have hlA2 := KA2.out.lt
  have hlB2 := KB2.out.lt
  have hsz2 := B2.out.size
  go_wp2_with (first | (refine wpList_load_head (by rfl) (.tmp 2) rfl (by rfl) KA2.out ?_) | (refine wpList_load_head (by rfl) (.tmp 3) rfl (by rfl) KB2.out ?_))
  refine (newer_any a b _ HG.out.1 HG.out.2).mono ?_
  rintro e3 w3 ⟨rfl, hb3⟩
  have KA3 := Lib.hid (KA2.out.below hb3 hlA2)
  have KB3 := Lib.hid (KB2.out.below hb3 hlB2)
  have B3 := Lib.hid (B2.out.trans (hb3.mono hsz2))
  have hlA3 := KA3.out.lt
  have hlB3 := KB3.out.lt
  have hsz3 := B3.out.size
  clear hb3 KA2 KB2 B2 hlA2 hlB2
  obtain ⟨q, hq⟩ : ∃ q, nw a b = q := ⟨_, rfl⟩
  have HQ := Lib.hid hq
  rw [hq]
  clear hq
  have hqb : -1 ≤ q ∧ q ≤ 1 := by rcases nw_three a b with h | h | h <;> (have := HQ.out; omega)
  go_wp2_with (first | (refine wpList_load_head (by rfl) (.tmp 2) rfl (by rfl) KA3.out ?_) | (refine wpList_load_head (by rfl) (.tmp 3) rfl (by rfl) KB3.out ?_))
  refine (refNewer_any a b _ HG.out.1 HG.out.2).mono ?_
  rintro e4 w4 ⟨rfl, hb4⟩
  rw [HQ.out]
  have KA4 := Lib.hid (KA3.out.below hb4 hlA3)
  have KB4 := Lib.hid (KB3.out.below hb4 hlB3)
  have B4 := Lib.hid (B3.out.trans (hb4.mono hsz3))
  have hlA4 := KA4.out.lt
  have hlB4 := KB4.out.lt
  have hsz4 := B4.out.size
  clear hb4 KA3 KB3 B3 hlA3 hlB3
  have de : (q == q) = true := by simp
  go_wp2_with (first | (refine wpList_load_head (by rfl) (.tmp 2) rfl (by rfl) KA4.out ?_) | (refine wpList_load_head (by rfl) (.tmp 3) rfl (by rfl) KB4.out ?_))
  refine (newer_any b a _ HG.out.2 HG.out.1).mono ?_
  rintro e5 w5 ⟨rfl, hb5⟩
  rw [show nw b a = -q by rw [nw_flip, HQ.out]]
  have KA5 := Lib.hid (KA4.out.below hb5 hlA4)
  have KB5 := Lib.hid (KB4.out.below hb5 hlB4)
  have B5 := Lib.hid (B4.out.trans (hb5.mono hsz4))
  have hlA5 := KA5.out.lt
  have hlB5 := KB5.out.lt
  have hsz5 := B5.out.size
  clear hb5 KA4 KB4 B4 hlA4 hlB4
  have de2 : (-q == -q) = true := by simp
  go_wp2_with (first | (refine wpList_load_head (by rfl) (.tmp 2) rfl (by rfl) KA5.out ?_) | (refine wpList_load_head (by rfl) (.tmp 3) rfl (by rfl) KB5.out ?_))
  refine (newer_any a a _ HG.out.1 HG.out.1).mono ?_
  rintro e6 w6 ⟨rfl, hb6⟩
  rw [nw_self]
  have B6 := Lib.hid (B5.out.trans (hb6.mono hsz5))
  clear hb6
  go_wp2
  go_ret
  exact ⟨rfl, B6.out⟩

set_option maxRecDepth 100000 in
theorem lifted (os : Os) (started : os.Started) (H : Type) (enc : TypeId × Value → H) :
    ReturnsInHanded {} Try.checked os 3 .any (Rows.orderNewerSpec.pre6 enc Try.prog Try.f3 Rows.orderNewerRow.domain false) (Rows.orderNewerSpec.post enc Try.prog Try.f3 false true false false) := by
  refine returnsInHanded_of_change (C := Try.checked) own started (by kernel_rfl) Try.func3
    (ChangeSpec.witness6 (enc := enc) (C := Try.checked) false ⟨#[], #[.agg #[.int .i64 0, .int .i64 0, .int .i64 0, .int .i64 0, .int .i64 0, .int .i64 0, .int .i64 0], .agg #[.int .i64 0, .int .i64 0, .int .i64 0, .int .i64 0, .int .i64 0, .int .i64 0, .int .i64 0]], []⟩ 8 (by kernel_rfl) (by kernel_rfl) (by kernel_rfl) (by kernel_rfl)) ?_
  intro W base args ds gs before hval0 hW hcnd _
  have hval : ∀ (j : Nat) t v, Try.f3.params[j]? = some t → args[j]? = some v → Value.okWide Try.prog W .any base t v := hval0
  have hW' := hW
  obtain ⟨p, q, hA0, hV, rfl, hfz, hnd⟩ := hW
  have hA : DataW.TrodAll enc Try.prog W 0 (fun _ => true) true Try.f3.params.toList args.toList ds p := hA0
  rw [Try.params3] at hA hval
  obtain ⟨v0, vs0, d0, ds0, p0, q0, hargs, rfl, rfl, h0, r0⟩ := trodAll_cons hA
  obtain ⟨v1, vs1, d1, ds1, p1, q1, rfl, rfl, rfl, h1, r1⟩ := trodAll_cons r0
  obtain ⟨rfl, rfl, rfl⟩ := trodAll_nil r1
  obtain rfl : args = #[v0, v1] := by cases args; simp_all
  obtain ⟨rfl, rfl⟩ := trodVars_none hV
  have k0 := h0
  have lt0 : ∀ x ∈ p0, x.block < W.heap.size := by obtain ⟨m, hm⟩ := k0; exact DataW.trod_lt m _ _ _ hm
  have k1 := h1
  have lt1 : ∀ x ∈ p1, x.block < W.heap.size := by obtain ⟨m, hm⟩ := k1; exact DataW.trod_lt m _ _ _ hm
  obtain ⟨a, rfl⟩ := hd_came (hval 0 23 v0 rfl rfl) h0
  obtain ⟨b, rfl⟩ := hd_came (hval 1 23 v1 rfl rfl) h1
  clear hA0 hval0
  refine (walk a b W).mono fun e W' ⟨he, bel⟩ => ?_
  subst he
  exact ⟨_, rfl, _, _, _, [], _, [], hW', trodAll_mk1 (shut_bool Try.underlying4 _), (trodAll_cons_mk (Below.trod laidOut (by kernel_rfl) (of_decide_eq_true (by kernel_rfl)) k0 bel lt0) (trodAll_cons_mk (Below.trod laidOut (by kernel_rfl) (of_decide_eq_true (by kernel_rfl)) k1 bel lt1) trodAll_mk0)), rfl, bel.frame _, fun h => by cases h⟩

theorem over : Rows.orderNewerRow.holds Try.pinned (OpenSpec.ofChange Rows.orderNewerSpec) :=
  OpenClaim.holds_of_wide 3 Try.f3 rfl rfl rfl rfl rfl rfl rfl ⟨rfl, rfl, rfl, rfl, rfl⟩ rfl rfl rfl rfl rfl (by kernel_rfl) Try.func3 (by kernel_rfl)
    (of_decide_eq_true (by kernel_rfl)) (by unfold Func.isWrapper; first | (rw [if_pos (by decide +kernel)]; kernel_rfl) | (rw [if_neg (by decide +kernel)]; exact ⟨rfl, rfl⟩))
    (fun os started H enc _ => lifted os started H enc)

/-- The statement. -/
theorem proved : Rows.OrderNewerSaid := over
end Go.Proofs.Ytfeomijblgaocaa.orderNewer
