/- Any bytes begin with the description, and the head, that the document says, or are refused by its errors. No conditions. -/
import Derived.Test.YtidncajbedgplaaLtJ
import Derived.Test.YtidncajbedgplaaLtW
import Derived.Test.YtidncajbedgplaaRows
import Derived.WalkKit
import Derived.ProofKit
import Derived.OpenShut
import Derived.ShutString
import Derived.ChangeOld
import Derived.Below
namespace Go.Proofs.Ytidncajbedgplaa.lsaGets
open Go.ChangeShapes Go.WideShapes Go.ChangeAt Go.RowKit
set_option linter.unusedVariables false

theorem own : ownKnob Try.prog.godebug = none := by kernel_rfl
theorem laidOut : laidOutB Try.prog = true := by kernel_rfl
theorem acc_made (w : World) : Acc w (w.alloc (.cells #[] 5)) (.slice (some ⟨w.heap.size, 0, none⟩) 0 0) 0 [] :=
  ⟨World.ownsRow_made w #[] 0 (Nat.le_refl _) (by unfold maxLen; omega) rfl, (Below.refl _ _).alloc (Nat.le_refl _) _⟩

set_option maxRecDepth 100000 in
set_option maxHeartbeats 8000000 in
theorem core (a0 : Option Addr) (n cap0 : Nat) (l : List Int) (w : World) (hr : Row .u8 w w.heap.size a0 n l) (hby : Byt l) (hn : n ≤ 500) (hnc : n ≤ cap0) (hcm : cap0 ≤ maxLen) :
    Calls Try.prog 4 #[.slice a0 n cap0] w fun e w' => e = .returned (.bool true) ∧ Below w.heap.size w w' := by
  have HR := Lib.hid hr
  have HY := Lib.hid hby
  have HC := Lib.hid hcm
  obtain ⟨h, HH⟩ : ∃ h, Hid (gHead l = h) := ⟨_, Lib.hid rfl⟩
  obtain ⟨L, HL⟩ : ∃ L, Hid (gLinks l = L) := ⟨_, Lib.hid rfl⟩
  obtain ⟨M, HM⟩ : ∃ M, Hid (gMembers l = M) := ⟨_, Lib.hid rfl⟩
  obtain ⟨er, HE⟩ : ∃ er, Hid (gErr l = er) := ⟨_, Lib.hid rfl⟩
  obtain ⟨k, HK⟩ : ∃ k, Hid (hRes l = k) := ⟨_, Lib.hid rfl⟩
  obtain ⟨es, HF⟩ : ∃ es, Hid (hErr l = es) := ⟨_, Lib.hid rfl⟩
  clear hr hby hcm
  go_enter Try.func4, Try.ntmps4
  go_wp2_with fail
  refine (wakes_any _).mono ?_
  rintro e1 w1 ⟨rfl, hb1⟩
  have BW1 := Lib.hid hb1
  have hs1 := hb1.size
  have HR1 := Lib.hid (HR.out.below hb1)
  clear hb1 HR
  go_wp2_with (at_builtin; refine wpList_append_acc rfl (.tmp 14) (.tmp 15) rfl w1 _ 0 [] (by rfl) (by exact acc_made w1) _ a0 n cap0 l (by rfl) (by exact HR1.out.alloc hs1 _) n (by omega) (by omega) ?_; intro v2 w2 ha2; obtain ⟨A2, c2, rfl, hc2, hm2, hr2⟩ := ha2.out.form)
  have hb2 := ha2.out.2
  rw [List.nil_append] at hr2
  have BW2 := Lib.hid (BW1.out.trans (hb2.mono hs1))
  have hs2 := BW2.out.size
  have HR2 := Lib.hid (HR1.out.below (hb2.mono hs1))
  have R2 := Lib.hid hr2
  have HC2 := Lib.hid hm2
  clear ha2 hb2 hr2 hm2 BW1 HR1
  refine (get_any A2 n c2 _ l _ R2.out HY.out (Nat.le_refl _) (by omega) hc2 HC2.out).mono ?_
  rw [HH.out, HL.out, HM.out, HE.out]
  rintro e3 w3 ⟨A3, n3, c3, A4, n4, c4, rfl, oL3, qL, oM3, qM, hb3⟩
  have hs3 := hb3.size
  have K3 := Lib.hid (Blk.new w3 27 #[.int .i64 h.age, .int .i64 h.kind, .int .i64 h.id, .int .i64 h.adv, .int .i64 h.seq, .int .i64 h.sum, .int .i64 h.long, .slice A3 n3 c3, .slice A4 n4 c4])
  have OL3 := Lib.hid (oL3.alloc (.cells #[.int .i64 h.age, .int .i64 h.kind, .int .i64 h.id, .int .i64 h.adv, .int .i64 h.seq, .int .i64 h.sum, .int .i64 h.long, .slice A3 n3 c3, .slice A4 n4 c4] 27))
  have OM3 := Lib.hid (oM3.alloc (.cells #[.int .i64 h.age, .int .i64 h.kind, .int .i64 h.id, .int .i64 h.adv, .int .i64 h.seq, .int .i64 h.sum, .int .i64 h.long, .slice A3 n3 c3, .slice A4 n4 c4] 27))
  have BW3 := Lib.hid ((BW2.out.trans (hb3.mono hs2)).alloc (by omega) (.cells #[.int .i64 h.age, .int .i64 h.kind, .int .i64 h.id, .int .i64 h.adv, .int .i64 h.seq, .int .i64 h.sum, .int .i64 h.long, .slice A3 n3 c3, .slice A4 n4 c4] 27))
  have HR3 := Lib.hid ((HR2.out.below (hb3.mono hs2)).alloc (by omega) (.cells #[.int .i64 h.age, .int .i64 h.kind, .int .i64 h.id, .int .i64 h.adv, .int .i64 h.seq, .int .i64 h.sum, .int .i64 h.long, .slice A3 n3 c3, .slice A4 n4 c4] 27))
  have R3 := Lib.hid ((R2.out.below hb3).alloc hs3 (.cells #[.int .i64 h.age, .int .i64 h.kind, .int .i64 h.id, .int .i64 h.adv, .int .i64 h.seq, .int .i64 h.sum, .int .i64 h.long, .slice A3 n3 c3, .slice A4 n4 c4] 27))
  have hs3' := BW3.out.size
  have hsz : w2.heap.size ≤ (w3.alloc (.cells #[.int .i64 h.age, .int .i64 h.kind, .int .i64 h.id, .int .i64 h.adv, .int .i64 h.seq, .int .i64 h.sum, .int .i64 h.long, .slice A3 n3 c3, .slice A4 n4 c4] 27)).heap.size := by simp; omega
  clear oL3 oM3 hb3 BW2 HR2 R2
  go_wp2_with fail
  refine (refGet_any a0 n cap0 _ l _ HR3.out HY.out hs3' hn hnc HC.out).mono ?_
  rw [HH.out, HL.out, HM.out, HE.out]
  rintro e5 w5 ⟨A5, n5, c5, A6, n6, c6, rfl, oL5, qL5, oM5, qM5, hb5⟩
  have hs5 := hb5.size
  have K5 := Lib.hid ((K3.out.below hb5 K3.out.lt).alloc (.cells #[.int .i64 h.age, .int .i64 h.kind, .int .i64 h.id, .int .i64 h.adv, .int .i64 h.seq, .int .i64 h.sum, .int .i64 h.long, .slice A5 n5 c5, .slice A6 n6 c6, .int .i64 er] 42))
  have G5 := Lib.hid (Blk.new w5 42 #[.int .i64 h.age, .int .i64 h.kind, .int .i64 h.id, .int .i64 h.adv, .int .i64 h.seq, .int .i64 h.sum, .int .i64 h.long, .slice A5 n5 c5, .slice A6 n6 c6, .int .i64 er])
  have OL5 := Lib.hid (oL5.alloc (.cells #[.int .i64 h.age, .int .i64 h.kind, .int .i64 h.id, .int .i64 h.adv, .int .i64 h.seq, .int .i64 h.sum, .int .i64 h.long, .slice A5 n5 c5, .slice A6 n6 c6, .int .i64 er] 42))
  have OM5 := Lib.hid (oM5.alloc (.cells #[.int .i64 h.age, .int .i64 h.kind, .int .i64 h.id, .int .i64 h.adv, .int .i64 h.seq, .int .i64 h.sum, .int .i64 h.long, .slice A5 n5 c5, .slice A6 n6 c6, .int .i64 er] 42))
  have OL5' := Lib.hid ((own_below2 OL3.out hb5).alloc (.cells #[.int .i64 h.age, .int .i64 h.kind, .int .i64 h.id, .int .i64 h.adv, .int .i64 h.seq, .int .i64 h.sum, .int .i64 h.long, .slice A5 n5 c5, .slice A6 n6 c6, .int .i64 er] 42))
  have OM5' := Lib.hid ((own_below2 OM3.out hb5).alloc (.cells #[.int .i64 h.age, .int .i64 h.kind, .int .i64 h.id, .int .i64 h.adv, .int .i64 h.seq, .int .i64 h.sum, .int .i64 h.long, .slice A5 n5 c5, .slice A6 n6 c6, .int .i64 er] 42))
  have BW5 := Lib.hid ((BW3.out.trans (hb5.mono hs3')).alloc (by omega) (.cells #[.int .i64 h.age, .int .i64 h.kind, .int .i64 h.id, .int .i64 h.adv, .int .i64 h.seq, .int .i64 h.sum, .int .i64 h.long, .slice A5 n5 c5, .slice A6 n6 c6, .int .i64 er] 42))
  have HR5 := Lib.hid ((HR3.out.below (hb5.mono hs3')).alloc (by omega) (.cells #[.int .i64 h.age, .int .i64 h.kind, .int .i64 h.id, .int .i64 h.adv, .int .i64 h.seq, .int .i64 h.sum, .int .i64 h.long, .slice A5 n5 c5, .slice A6 n6 c6, .int .i64 er] 42))
  have R5 := Lib.hid ((R3.out.below (hb5.mono hsz)).alloc (by omega) (.cells #[.int .i64 h.age, .int .i64 h.kind, .int .i64 h.id, .int .i64 h.adv, .int .i64 h.seq, .int .i64 h.sum, .int .i64 h.long, .slice A5 n5 c5, .slice A6 n6 c6, .int .i64 er] 42))
  have hs5' := BW5.out.size
  have hsz5 : w2.heap.size ≤ (w5.alloc (.cells #[.int .i64 h.age, .int .i64 h.kind, .int .i64 h.id, .int .i64 h.adv, .int .i64 h.seq, .int .i64 h.sum, .int .i64 h.long, .slice A5 n5 c5, .slice A6 n6 c6, .int .i64 er] 42)).heap.size := by simp; omega
  clear oL5 oM5 hb5 K3 OL3 OM3 BW3 HR3 R3
  obtain ⟨l0, l1, l2, l3, l4, l5, l6, l7, l8⟩ := K5.out.nine
  obtain ⟨a0', a1, a2, a3, a4, a5, a6, a7, a8, a9⟩ := G5.out.ten
  go_wp2_with fail
  refine (refSame_own h L M A3 A4 A5 A6 n3 c3 n4 c4 n5 c5 n6 c6 _ _ _ OL5'.out qL OM5'.out qM OL5.out qL5 OM5.out qM5).mono ?_
  rintro e7 w7 ⟨rfl, hb7⟩
  have BW7 := Lib.hid (BW5.out.trans (hb7.mono hs5'))
  have HR7 := Lib.hid (HR5.out.below (hb7.mono hs5'))
  have R7 := Lib.hid (R5.out.below (hb7.mono hsz5))
  have hs7 := hb7.size
  have hs7' := BW7.out.size
  have hsz7 : w2.heap.size ≤ w7.heap.size := by omega
  clear hb7 K5 G5 OL5 OM5 OL5' OM5' BW5 HR5 R5 l0 l1 l2 l3 l4 l5 l6 l7 l8 a0' a1 a2 a3 a4 a5 a6 a7 a8 a9
  go_wp2_with fail
  refine (getHead_any A2 n c2 _ l _ R7.out HY.out hsz7 hc2 HC2.out).mono ?_
  rw [HK.out, HF.out]
  rintro e8 w8 ⟨rfl, hb8⟩
  have hs8 := hb8.size
  have K8 := Lib.hid (Blk.new w8 23 #[.int .i64 k.age, .int .i64 k.kind, .int .i64 k.id, .int .i64 k.adv, .int .i64 k.seq, .int .i64 k.sum, .int .i64 k.long])
  have BW8 := Lib.hid ((BW7.out.trans (hb8.mono hs7')).alloc (by omega) (.cells #[.int .i64 k.age, .int .i64 k.kind, .int .i64 k.id, .int .i64 k.adv, .int .i64 k.seq, .int .i64 k.sum, .int .i64 k.long] 23))
  have HR8 := Lib.hid ((HR7.out.below (hb8.mono hs7')).alloc (by omega) (.cells #[.int .i64 k.age, .int .i64 k.kind, .int .i64 k.id, .int .i64 k.adv, .int .i64 k.seq, .int .i64 k.sum, .int .i64 k.long] 23))
  have R8 := Lib.hid ((R7.out.below (hb8.mono hsz7)).alloc (by omega) (.cells #[.int .i64 k.age, .int .i64 k.kind, .int .i64 k.id, .int .i64 k.adv, .int .i64 k.seq, .int .i64 k.sum, .int .i64 k.long] 23))
  have hs8' := BW8.out.size
  have hsz8 : w2.heap.size ≤ (w8.alloc (.cells #[.int .i64 k.age, .int .i64 k.kind, .int .i64 k.id, .int .i64 k.adv, .int .i64 k.seq, .int .i64 k.sum, .int .i64 k.long] 23)).heap.size := by simp; omega
  clear hb8 BW7 HR7 R7
  go_wp2_with fail
  refine (refGetHead_any a0 n cap0 _ l _ HR8.out HY.out hs8' hnc HC.out).mono ?_
  rw [HK.out, HF.out]
  rintro e9 w9 ⟨A7, n7, c7, A8, n8, c8, rfl, -, -, -, -, hb9⟩
  have hs9 := hb9.size
  have K9 := Lib.hid ((K8.out.below hb9 K8.out.lt).alloc (.cells #[.int .i64 k.age, .int .i64 k.kind, .int .i64 k.id, .int .i64 k.adv, .int .i64 k.seq, .int .i64 k.sum, .int .i64 k.long, .slice A7 n7 c7, .slice A8 n8 c8, .int .i64 es] 42))
  have G9 := Lib.hid (Blk.new w9 42 #[.int .i64 k.age, .int .i64 k.kind, .int .i64 k.id, .int .i64 k.adv, .int .i64 k.seq, .int .i64 k.sum, .int .i64 k.long, .slice A7 n7 c7, .slice A8 n8 c8, .int .i64 es])
  have BW9 := Lib.hid ((BW8.out.trans (hb9.mono hs8')).alloc (by omega) (.cells #[.int .i64 k.age, .int .i64 k.kind, .int .i64 k.id, .int .i64 k.adv, .int .i64 k.seq, .int .i64 k.sum, .int .i64 k.long, .slice A7 n7 c7, .slice A8 n8 c8, .int .i64 es] 42))
  have HR9 := Lib.hid ((HR8.out.below (hb9.mono hs8')).alloc (by omega) (.cells #[.int .i64 k.age, .int .i64 k.kind, .int .i64 k.id, .int .i64 k.adv, .int .i64 k.seq, .int .i64 k.sum, .int .i64 k.long, .slice A7 n7 c7, .slice A8 n8 c8, .int .i64 es] 42))
  have R9 := Lib.hid ((R8.out.below (hb9.mono hsz8)).alloc (by omega) (.cells #[.int .i64 k.age, .int .i64 k.kind, .int .i64 k.id, .int .i64 k.adv, .int .i64 k.seq, .int .i64 k.sum, .int .i64 k.long, .slice A7 n7 c7, .slice A8 n8 c8, .int .i64 es] 42))
  have HNM := Lib.hid (show n ≤ maxLen by unfold maxLen; omega)
  clear hb9 K8 BW8 HR8 R8
  obtain ⟨k0, k1, k2, k3, k4, k5, k6⟩ := K9.out.seven
  obtain ⟨a0', a1, a2, a3, a4, a5, a6, a7, a8, a9⟩ := G9.out.ten
  go_wp2_with fail
  refine (same_yes A2 a0 n c2 cap0 _ _ l _ R9.out HR9.out HNM.out).mono ?_
  rintro e10 w10 ⟨rfl, d, rfl⟩
  go_wp2
  go_ret
  exact ⟨rfl, below_drewN BW9.out d⟩

theorem walk (a0 : Option Addr) (len0 cap0 : Nat) (z0 : List Int) (w : World) (w0 : IsRow .u8 w a0 len0 cap0 z0) :
    Calls Try.prog 4 #[.slice a0 len0 cap0] w fun e w' => e = .returned (.bool true) ∧ Below w.heap.size w w' := by
  obtain ⟨l, hr, hwf, hc, hm⟩ := row_of_is w0
  have hcm : cap0 ≤ maxLen := by
    rcases w0 with ⟨_, _, h, _⟩ | ⟨_, _, _, h, _⟩
    · rw [h]; exact Nat.zero_le _
    · exact h
  by_cases hn : len0 ≤ 500
  · exact core a0 len0 cap0 l w hr (byt_of_wf hwf) hn hc hcm
  · clear w0 hr hwf hcm
    unfold maxLen at hm
    have hd1 : decide (500 < (len0 : Int)) = true := by simp; omega
    go_enter Try.func4, Try.ntmps4
    go_wp2_with fail
    refine (wakes_any _).mono ?_
    rintro e1 w1 ⟨rfl, hb1⟩
    have HB1 := Lib.hid hb1
    clear hb1
    go_wp2
    go_ret
    exact ⟨rfl, HB1.out⟩

set_option maxRecDepth 100000 in
theorem lifted (os : Os) (started : os.Started) (H : Type) (enc : TypeId × Value → H) :
    ReturnsInHanded {} Try.checked os 4 .any (Rows.lsaGetsSpec.pre6 enc Try.prog Try.f4 Rows.lsaGetsRow.domain false) (Rows.lsaGetsSpec.post enc Try.prog Try.f4 false true false false) := by
  refine returnsInHanded_of_change (C := Try.checked) own started (by kernel_rfl) Try.func4
    (ChangeSpec.witness6 (enc := enc) (C := Try.checked) false ⟨#[], #[.slice none 0 0], []⟩ 8 (by kernel_rfl) (by kernel_rfl) (by kernel_rfl) (by kernel_rfl)) ?_
  intro W base args ds gs before hval0 hW hcnd _
  have hval : ∀ (j : Nat) t v, Try.f4.params[j]? = some t → args[j]? = some v → Value.okWide Try.prog W .any base t v := hval0
  have hW' := hW
  obtain ⟨p, q, hA0, hV, rfl, hfz, hnd⟩ := hW
  have hA : DataW.TrodAll enc Try.prog W 0 (fun _ => true) true Try.f4.params.toList args.toList ds p := hA0
  rw [Try.params4] at hA hval
  obtain ⟨v0, vs0, d0, ds0, p0, q0, hargs, rfl, rfl, h0, r0⟩ := trodAll_cons hA
  obtain ⟨rfl, rfl, rfl⟩ := trodAll_nil r0
  obtain rfl : args = #[v0] := by cases args; simp_all
  obtain ⟨rfl, rfl⟩ := trodVars_none hV
  obtain ⟨a0, len0, cap0, rfl⟩ := okWide_slice Try.underlying28 (hval 0 28 v0 rfl rfl)
  have k0 := h0
  have lt0 : ∀ x ∈ p0, x.block < W.heap.size := by obtain ⟨m, hm⟩ := k0; exact DataW.trod_lt m _ _ _ hm
  obtain ⟨z0, w0⟩ : ∃ zs, IsRow .u8 W a0 len0 cap0 zs := by
    obtain ⟨fuel, hf⟩ := h0
    rcases open_ints Try.underlying28 Try.underlying5 (by kernel_rfl) hf with ⟨hcs, _⟩ | ⟨x, l, c, zs, hcs, _, hl, hm, hz, _, hcell, hwz⟩
    · simp [Value.cells] at hcs
      obtain ⟨rfl, rfl, rfl⟩ := hcs
      exact ⟨[], .inl ⟨rfl, rfl, rfl, rfl⟩⟩
    · simp [Value.cells] at hcs
      obtain ⟨rfl, rfl, rfl⟩ := hcs
      exact ⟨zs, .inr ⟨_, rfl, hl, hm, by simpa using hz, hcell, hwz⟩⟩
  clear hA0 hval0
  refine (walk a0 len0 cap0 z0 W w0).mono fun e W' ⟨he, bel⟩ => ?_
  subst he
  exact ⟨_, rfl, _, _, _, [], _, [], hW', trodAll_mk1 (shut_bool Try.underlying4 _), (trodAll_cons_mk (Below.trod laidOut (by kernel_rfl) (of_decide_eq_true (by kernel_rfl)) k0 bel lt0) trodAll_mk0), rfl, bel.frame _, fun h => by cases h⟩

theorem over : Rows.lsaGetsRow.holds Try.pinned (OpenSpec.ofChange Rows.lsaGetsSpec) :=
  OpenClaim.holds_of_wide 4 Try.f4 rfl rfl rfl rfl rfl rfl rfl ⟨rfl, rfl, rfl, rfl, rfl⟩ rfl rfl rfl rfl rfl (by kernel_rfl) Try.func4 (by kernel_rfl)
    (of_decide_eq_true (by kernel_rfl)) (by unfold Func.isWrapper; first | (rw [if_pos (by decide +kernel)]; kernel_rfl) | (rw [if_neg (by decide +kernel)]; exact ⟨rfl, rfl⟩))
    (fun os started H enc _ => lifted os started H enc)

/-- The statement. -/
theorem proved : Rows.LsaGetsSaid := over
end Go.Proofs.Ytidncajbedgplaa.lsaGets
