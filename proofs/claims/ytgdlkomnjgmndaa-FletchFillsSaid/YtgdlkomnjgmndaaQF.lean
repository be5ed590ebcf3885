/- The statement FletchFills of package syndiclaw03: any bytes are made whole at any place that there is, by the bytes that trying finds, or are refused. No conditions. -/
import Derived.Test.YtgdlkomnjgmndaaE
import Derived.Test.YtgdlkomnjgmndaaW
import Derived.Test.YtgdlkomnjgmndaaRows
import Derived.WalkKit
import Derived.ProofKit
import Derived.OpenShut
import Derived.ShutString
import Derived.ChangeOld
import Derived.Below
namespace Go.Proofs.Ytgdlkomnjgmndaa.fletchFills
open Go.ChangeShapes Go.WideShapes Go.ChangeAt Go.RowKit
open Go.ChangeMaps (open_string shut_string)
set_option linter.unusedVariables false

theorem own : ownKnob Try.prog.godebug = none := by kernel_rfl
theorem laidOut : laidOutB Try.prog = true := by kernel_rfl

set_option maxHeartbeats 2000000 in
theorem core (a0 : Option Addr) (n cap0 : Nat) (l : List Int) (a1 : Int) (w : World) (hr : Row .u8 w w.heap.size a0 n l) (hby : Byt l) (hlo : -9223372036854775808 ≤ a1) (hhi : a1 ≤ 9223372036854775807) (hn : n ≤ 300) :
    Calls Try.prog 4 #[.slice a0 n cap0, .int .i64 a1] w fun e w' => e = .returned (.bool true) ∧ Below w.heap.size w w' := by
  have HR := Lib.hid hr
  have HY := Lib.hid hby
  have HL := Lib.hid hr.1
  clear hr hby
  go_enter Try.func4, Try.ntmps4
  go_wp2_with fail
  refine (wakes_any _).mono ?_
  rintro e1 w1 ⟨rfl, hb1⟩
  have HB1 := Lib.hid hb1
  have hz1 := hb1.size
  clear hb1
  go_wp2_with (at_builtin; refine wpList_append_row rfl (.tmp 13) (.tmp 14) rfl w1.heap.size (.slice (some ⟨w1.heap.size, 0, none⟩) 0 0) 0 [] (by rfl) (by exact World.ownsRow_made w1 #[] 0 (Nat.le_refl _) (Nat.zero_le _) rfl) w.heap.size a0 n cap0 l (by rfl) (by exact (HR.out.below HB1.out).alloc hz1 _) (by omega) (by simp) ?_; intro v2 w2 ho2 hg2 hl2)
  have hb2 : Below w1.heap.size w1 w2 := below_new hg2.out (Nat.le_refl _)
  have o2 := ho2.out
  rw [Nat.zero_add, List.nil_append] at o2
  obtain ⟨Ao, co, rfl, rowo, hco⟩ := row_of_own o2
  have HRO := Lib.hid rowo
  have hz2 := hb2.size
  have HB2 := Lib.hid (HB1.out.trans (hb2.mono hz1))
  clear hb2 o2 rowo ho2 hg2 hl2
  by_cases hfit : a1 < 0 ∨ (n : Int) - 2 < a1
  · refine (ffill_no Ao n co a1 _ (by omega) hfit).mono ?_
    rintro e3 w3 ⟨rfl, rfl⟩
    by_cases c1 : a1 < 0
    · clear hfit
      go_wp2
      go_ret
      exact ⟨rfl, HB2.out⟩
    · have c2 : (n : Int) - 2 < a1 := by omega
      clear hfit
      go_wp2
      go_ret
      exact ⟨rfl, HB2.out⟩
  · obtain ⟨k, rfl⟩ := Int.eq_ofNat_of_zero_le (show 0 ≤ a1 by omega)
    have hk2 : k + 2 ≤ n := by omega
    clear hfit
    refine (ffill_ok Ao n co w2.heap.size k l _ HRO.out HY.out (Nat.le_refl _) (by omega) hk2).mono ?_
    rintro e3 w3 ⟨rfl, hb3, hk3⟩
    have hr3 := hk3.row
    rw [ffill_length, HL.out] at hr3
    have HR3 := Lib.hid hr3
    have hz3 := hb3.size
    have HB3 := Lib.hid (HB2.out.trans (hb3.mono (Nat.le_trans hz1 hz2)))
    have HRb := Lib.hid (HR.out.below HB3.out)
    clear hb3 hk3 hr3
    go_wp2_with fail
    refine (whole_any _ n n w3.heap.size (ffill l k) _ HR3.out (ffill_byt HY.out k) (by unfold maxLen; omega)).mono ?_
    rintro e6 w6 ⟨rfl, rfl⟩
    rw [ffill_whole l k (by rw [HL.out]; omega)]
    go_wp2_with fail
    refine (refFfill_ok a0 n cap0 w.heap.size k l _ HRb.out HY.out (by omega) hk2).mono ?_
    rintro e4 w4 ⟨⟨A4, c4, rfl, hr4⟩, hb4⟩
    have HR4 := Lib.hid hr4
    have HB4 := Lib.hid (HB3.out.trans (hb4.mono (by omega)))
    have HR34 := Lib.hid (HR3.out.below hb4)
    clear hr4 hb4
    go_wp2_with fail
    refine (same_yes _ A4 n n c4 w3.heap.size w4.heap.size (ffill l k) _ HR34.out HR4.out (by unfold maxLen; omega)).mono ?_
    rintro e5 w5 ⟨rfl, d, rfl⟩
    have HB5 := Lib.hid (show Below w.heap.size w (w4.drewN d) from ⟨HB4.out.os, HB4.out.tape, HB4.out.output, HB4.out.size, HB4.out.block⟩)
    go_wp2
    go_ret
    exact ⟨rfl, HB5.out⟩

theorem walk (a0 : Option Addr) (len0 cap0 : Nat) (z0 : List Int) (a1 : Int) (w : World) (w0 : IsRow .u8 w a0 len0 cap0 z0) (w1 : (Lit.int .i64 a1).wf = true) :
    Calls Try.prog 4 #[.slice a0 len0 cap0, .int .i64 a1] w fun e w' => e = .returned (.bool true) ∧ Below w.heap.size w w' := by
  obtain ⟨l, hr, hwf, hc, hm⟩ := row_of_is w0
  have hb := bounds_i64 w1
  by_cases hn : len0 ≤ 300
  · exact core a0 len0 cap0 l a1 w hr (byt_of_wf hwf) (by omega) (by omega) hn
  · clear w0 hr hwf hb w1
    unfold maxLen at hm
    have hd1 : decide (300 < (len0 : Int)) = true := by simp; omega
    go_enter Try.func4, Try.ntmps4
    go_wp2_with fail
    refine (wakes_any _).mono ?_
    rintro e1 w1 ⟨rfl, hb1⟩
    have HB1 := Lib.hid hb1
    clear hb1
    go_wp2
    go_ret
    exact ⟨rfl, HB1.out⟩

set_option maxRecDepth 100000 in
theorem lifted (os : Os) (started : os.Started) (H : Type) (enc : TypeId × Value → H) :
    ReturnsInHanded {} Try.checked os 4 .any (Rows.fletchFillsSpec.pre6 enc Try.prog Try.f4 Rows.fletchFillsRow.domain false) (Rows.fletchFillsSpec.post enc Try.prog Try.f4 false true false false) := by
  refine returnsInHanded_of_change (C := Try.checked) own started (by kernel_rfl) Try.func4
    (ChangeSpec.witness6 (enc := enc) (C := Try.checked) false ⟨#[], #[.slice none 0 0, .int .i64 0], []⟩ 8 (by kernel_rfl) (by kernel_rfl) (by kernel_rfl) (by kernel_rfl)) ?_
  intro W base args ds gs before hval0 hW hcnd _
  have hval : ∀ (j : Nat) t v, Try.f4.params[j]? = some t → args[j]? = some v → Value.okWide Try.prog W .any base t v := hval0
  have hW' := hW
  obtain ⟨p, q, hA0, hV, rfl, hfz, hnd⟩ := hW
  have hA : DataW.TrodAll enc Try.prog W 0 (fun _ => true) true Try.f4.params.toList args.toList ds p := hA0
  rw [Try.params4] at hA hval
  obtain ⟨v0, vs0, d0, ds0, p0, q0, hargs, rfl, rfl, h0, r0⟩ := trodAll_cons hA
  obtain ⟨v1, vs1, d1, ds1, p1, q1, rfl, rfl, rfl, h1, r1⟩ := trodAll_cons r0
  obtain ⟨rfl, rfl, rfl⟩ := trodAll_nil r1
  obtain rfl : args = #[v0, v1] := by cases args; simp_all
  obtain ⟨rfl, rfl⟩ := trodVars_none hV
  obtain ⟨a0, len0, cap0, rfl⟩ := okWide_slice Try.underlying22 (hval 0 22 v0 rfl rfl)
  have k0 := h0
  have lt0 : ∀ x ∈ p0, x.block < W.heap.size := by obtain ⟨m, hm⟩ := k0; exact DataW.trod_lt m _ _ _ hm
  obtain ⟨z0, w0⟩ : ∃ zs, IsRow .u8 W a0 len0 cap0 zs := by
    obtain ⟨fuel, hf⟩ := h0
    rcases open_ints Try.underlying22 Try.underlying5 (by kernel_rfl) hf with ⟨hcs, _⟩ | ⟨x, l, c, zs, hcs, _, hl, hm, hz, _, hcell, hwz⟩
    · simp [Value.cells] at hcs
      obtain ⟨rfl, rfl, rfl⟩ := hcs
      exact ⟨[], .inl ⟨rfl, rfl, rfl, rfl⟩⟩
    · simp [Value.cells] at hcs
      obtain ⟨rfl, rfl, rfl⟩ := hcs
      exact ⟨zs, .inr ⟨_, rfl, hl, hm, by simpa using hz, hcell, hwz⟩⟩
  obtain ⟨a1, rfl, rfl, rfl, w1⟩ := open_int Try.underlying3 (hval 1 3 v1 rfl rfl) h1
  clear hA0 hval0
  refine (walk a0 len0 cap0 z0 a1 W w0 w1).mono fun e W' ⟨he, bel⟩ => ?_
  subst he
  exact ⟨_, rfl, _, _, _, [], _, [], hW', trodAll_mk1 (shut_bool Try.underlying4 _), (trodAll_cons_mk (Below.trod laidOut (by kernel_rfl) (of_decide_eq_true (by kernel_rfl)) k0 bel lt0) (trodAll_cons_mk (shut_int Try.underlying3 w1) trodAll_mk0)), rfl, bel.frame _, fun h => by cases h⟩

theorem over : Rows.fletchFillsRow.holds Try.pinned (OpenSpec.ofChange Rows.fletchFillsSpec) :=
  OpenClaim.holds_of_wide 4 Try.f4 rfl rfl rfl rfl rfl rfl rfl ⟨rfl, rfl, rfl, rfl, rfl⟩ rfl rfl rfl rfl rfl (by kernel_rfl) Try.func4 (by kernel_rfl)
    (of_decide_eq_true (by kernel_rfl)) (by unfold Func.isWrapper; first | (rw [if_pos (by decide +kernel)]; kernel_rfl) | (rw [if_neg (by decide +kernel)]; exact ⟨rfl, rfl⟩))
    (fun os started H enc _ => lifted os started H enc)

/-- The statement. -/
theorem proved : Rows.FletchFillsSaid := over
end Go.Proofs.Ytgdlkomnjgmndaa.fletchFills
