/- The statement FletchChanged of package syndiclaw03: whole bytes of which one is changed, but by 255, are not whole, for all bytes, every place and every change. No conditions. -/
import Derived.Test.YtgdlkomnjgmndaaE
import Derived.Test.YtgdlkomnjgmndaaRows
import Derived.WalkKit
import Derived.ProofKit
import Derived.OpenShut
import Derived.ShutString
import Derived.ChangeOld
import Derived.Below
namespace Go.Proofs.Ytgdlkomnjgmndaa.fletchChanged
open Go.ChangeShapes Go.WideShapes Go.ChangeAt Go.RowKit
open Go.ChangeMaps (open_string shut_string)
set_option linter.unusedVariables false

theorem own : ownKnob Try.prog.godebug = none := by kernel_rfl
theorem laidOut : laidOutB Try.prog = true := by kernel_rfl

set_option maxHeartbeats 2000000 in
theorem core (a0 : Option Addr) (n cap0 : Nat) (l : List Int) (a1 a2 : Int) (w : World) (hr : Row .u8 w w.heap.size a0 n l) (hby : Byt l) (h10 : 0 ≤ a1) (h11 : a1 ≤ 65535) (h20 : 0 < a2) (h21 : a2 ≤ 255) (hn : n ≤ 300) (h2 : 2 ≤ n) :
    Calls Try.prog 5 #[.slice a0 n cap0, .int .u16 a1, .int .u8 a2] w fun e w' => e = .returned (.bool true) ∧ Below w.heap.size w w' := by
  have HR := Lib.hid hr
  have HY := Lib.hid hby
  have HL := Lib.hid hr.1
  clear hr hby
  have hd2 : (a2 == 0) = false := by simp; omega
  go_enter Try.func5, Try.ntmps5
  go_wp2_with fail
  refine (wakes_any _).mono ?_
  rintro e1 w1 ⟨rfl, hb1⟩
  have HB1 := Lib.hid hb1
  have hz1 := hb1.size
  clear hb1
  go_wp2_with fail
  refine (ffill_ok a0 n cap0 w.heap.size 0 l _ (HR.out.below HB1.out) HY.out hz1 (by omega) (by omega)).mono ?_
  rintro e3 w3 ⟨rfl, hb3, hk3⟩
  have hz3 := hb3.size
  have HB3 := Lib.hid (HB1.out.trans (hb3.mono hz1))
  have hlf := ffill_length l 0
  rw [HL.out] at hlf
  have hsf := ffill_whole l 0 (by rw [HL.out]; omega)
  have hbf := ffill_byt HY.out 0
  generalize ffill l 0 = p at *
  obtain ⟨q, hq⟩ : ∃ q : Nat, a1 % (n : Int) = q := Int.eq_ofNat_of_zero_le (Int.emod_nonneg _ (by omega))
  have hqn : q < n := by have := Int.emod_lt_of_pos a1 (b := n) (by omega); omega
  have hcx := hk3.at q (by omega)
  have hfx := hk3.frozen q
  have hbx := hbf.getD q
  have hy0 : 0 ≤ (p.getD q 0 + a2) % 256 := by omega
  have hy1 : (p.getD q 0 + a2) % 256 ≤ 255 := by omega
  have hk4 := hk3.setInt q ((p.getD q 0 + a2) % 256)
  have hcy := hk4.at q (by rw [List.length_set]; omega)
  rw [List.getD_eq_getElem?_getD (l := p.set q _), List.getElem?_set_self (by omega), Option.getD_some] at hcy
  have hr4 := hk4.row
  rw [List.length_set, hlf] at hr4
  have hby4 := set_byt hbf q hy0 hy1
  have HG : Hid ((p.getD q 0 + a2) % 256 - p.getD q 0 ≠ 255 → (p.getD q 0 + a2) % 256 - p.getD q 0 ≠ -255 → wholeB (p.set q ((p.getD q 0 + a2) % 256)) = false) :=
    fun d1 d2 => whole_changed p q (by omega) _ hsf (by omega) (by omega) (by omega)
  have HB4 := Lib.hid (HB3.out.setCell (p := ⟨w1.heap.size, q, none⟩) hz1 (.int .u8 ((p.getD q 0 + a2) % 256)))
  have HR4 := Lib.hid hr4
  have HY4 := Lib.hid hby4
  clear hk4 hr4 hby4 hk3 hlf hsf hbf hb3
  generalize p.set q ((p.getD q 0 + a2) % 256) = p' at *
  generalize p.getD q 0 = x at *
  by_cases d1 : (x + a2) % 256 - x = 255
  · have hb4 := HB4.out
    rw [show (x + a2) % 256 = x + a2 by omega] at hb4
    have HB5 := Lib.hid hb4
    clear HG hb4
    go_wp2
    go_ret
    exact ⟨rfl, HB5.out⟩
  · by_cases d2 : (x + a2) % 256 - x = -255
    · clear HG
      go_wp2
      go_ret
      exact ⟨rfl, HB4.out⟩
    · have HG2 := Lib.hid (HG.out d1 d2)
      have e1 : ((x + a2) % 256 - x == 255) = false := by simp; omega
      have e2 : ((x + a2) % 256 - x == -255) = false := by simp; omega
      clear HG
      go_wp2_with fail
      refine (whole_any _ n n _ p' _ HR4.out HY4.out (by unfold maxLen; omega)).mono ?_
      rintro e5 w5 ⟨rfl, rfl⟩
      rw [HG2.out]
      go_wp2
      go_ret
      exact ⟨rfl, HB4.out⟩

theorem walk (a0 : Option Addr) (len0 cap0 : Nat) (z0 : List Int) (a1 : Int) (a2 : Int) (w : World) (w0 : IsRow .u8 w a0 len0 cap0 z0) (w1 : (Lit.int .u16 a1).wf = true) (w2 : (Lit.int .u8 a2).wf = true) :
    Calls Try.prog 5 #[.slice a0 len0 cap0, .int .u16 a1, .int .u8 a2] w fun e w' => e = .returned (.bool true) ∧ Below w.heap.size w w' := by
  obtain ⟨l, hr, hwf, hc, hm⟩ := row_of_is w0
  have hb := bounds_u16 w1
  have hb' := bounds_u8 w2
  by_cases hn : len0 ≤ 300 ∧ 2 ≤ len0 ∧ 0 < a2
  · exact core a0 len0 cap0 l a1 a2 w hr (byt_of_wf hwf) (by omega) (by omega) hn.2.2 (by omega) hn.1 hn.2.1
  · clear w0 hr hwf hb w1 w2
    unfold maxLen at hm
    go_enter Try.func5, Try.ntmps5
    go_wp2_with fail
    refine (wakes_any _).mono ?_
    rintro e1 w1 ⟨rfl, hb1⟩
    have HB1 := Lib.hid hb1
    clear hb1
    by_cases c1 : len0 ≤ 300
    · by_cases c2 : 2 ≤ len0
      · obtain rfl : a2 = 0 := by omega
        clear hn hb'
        go_wp2
        go_ret
        exact ⟨rfl, HB1.out⟩
      · clear hn
        go_wp2
        go_ret
        exact ⟨rfl, HB1.out⟩
    · clear hn
      go_wp2
      go_ret
      exact ⟨rfl, HB1.out⟩

set_option maxRecDepth 100000 in
theorem lifted (os : Os) (started : os.Started) (H : Type) (enc : TypeId × Value → H) :
    ReturnsInHanded {} Try.checked os 5 .any (Rows.fletchChangedSpec.pre6 enc Try.prog Try.f5 Rows.fletchChangedRow.domain false) (Rows.fletchChangedSpec.post enc Try.prog Try.f5 false true false false) := by
  refine returnsInHanded_of_change (C := Try.checked) own started (by kernel_rfl) Try.func5
    (ChangeSpec.witness6 (enc := enc) (C := Try.checked) false ⟨#[], #[.slice none 0 0, .int .u16 0, .int .u8 0], []⟩ 8 (by kernel_rfl) (by kernel_rfl) (by kernel_rfl) (by kernel_rfl)) ?_
  intro W base args ds gs before hval0 hW hcnd _
  have hval : ∀ (j : Nat) t v, Try.f5.params[j]? = some t → args[j]? = some v → Value.okWide Try.prog W .any base t v := hval0
  have hW' := hW
  obtain ⟨p, q, hA0, hV, rfl, hfz, hnd⟩ := hW
  have hA : DataW.TrodAll enc Try.prog W 0 (fun _ => true) true Try.f5.params.toList args.toList ds p := hA0
  rw [Try.params5] at hA hval
  obtain ⟨v0, vs0, d0, ds0, p0, q0, hargs, rfl, rfl, h0, r0⟩ := trodAll_cons hA
  obtain ⟨v1, vs1, d1, ds1, p1, q1, rfl, rfl, rfl, h1, r1⟩ := trodAll_cons r0
  obtain ⟨v2, vs2, d2, ds2, p2, q2, rfl, rfl, rfl, h2, r2⟩ := trodAll_cons r1
  obtain ⟨rfl, rfl, rfl⟩ := trodAll_nil r2
  obtain rfl : args = #[v0, v1, v2] := by cases args; simp_all
  obtain ⟨rfl, rfl⟩ := trodVars_none hV
  obtain ⟨a0, len0, cap0, rfl⟩ := okWide_slice Try.underlying22 (hval 0 22 v0 rfl rfl)
  have k0 := h0
  have lt0 : ∀ x ∈ p0, x.block < W.heap.size := by obtain ⟨m, hm⟩ := k0; exact DataW.trod_lt m _ _ _ hm
  obtain ⟨z0, w0⟩ : ∃ zs, IsRow .u8 W a0 len0 cap0 zs := by
    obtain ⟨fuel, hf⟩ := h0
    rcases open_ints Try.underlying22 Try.underlying5 (by kernel_rfl) hf with ⟨hcs, _⟩ | ⟨x, l, c, zs, hcs, _, hl, hm, hz, _, hcell, hwz⟩
    · simp [Value.cells] at hcs
      obtain ⟨rfl, rfl, rfl⟩ := hcs
      exact ⟨[], .inl ⟨rfl, rfl, rfl, rfl⟩⟩
    · simp [Value.cells] at hcs
      obtain ⟨rfl, rfl, rfl⟩ := hcs
      exact ⟨zs, .inr ⟨_, rfl, hl, hm, by simpa using hz, hcell, hwz⟩⟩
  obtain ⟨a1, rfl, rfl, rfl, w1⟩ := open_int Try.underlying33 (hval 1 33 v1 rfl rfl) h1
  obtain ⟨a2, rfl, rfl, rfl, w2⟩ := open_int Try.underlying5 (hval 2 5 v2 rfl rfl) h2
  clear hA0 hval0
  refine (walk a0 len0 cap0 z0 a1 a2 W w0 w1 w2).mono fun e W' ⟨he, bel⟩ => ?_
  subst he
  exact ⟨_, rfl, _, _, _, [], _, [], hW', trodAll_mk1 (shut_bool Try.underlying4 _), (trodAll_cons_mk (Below.trod laidOut (by kernel_rfl) (of_decide_eq_true (by kernel_rfl)) k0 bel lt0) (trodAll_cons_mk (shut_int Try.underlying33 w1) (trodAll_cons_mk (shut_int Try.underlying5 w2) trodAll_mk0))), rfl, bel.frame _, fun h => by cases h⟩

theorem over : Rows.fletchChangedRow.holds Try.pinned (OpenSpec.ofChange Rows.fletchChangedSpec) :=
  OpenClaim.holds_of_wide 5 Try.f5 rfl rfl rfl rfl rfl rfl rfl ⟨rfl, rfl, rfl, rfl, rfl⟩ rfl rfl rfl rfl rfl (by kernel_rfl) Try.func5 (by kernel_rfl)
    (of_decide_eq_true (by kernel_rfl)) (by unfold Func.isWrapper; first | (rw [if_pos (by decide +kernel)]; kernel_rfl) | (rw [if_neg (by decide +kernel)]; exact ⟨rfl, rfl⟩))
    (fun os started H enc _ => lifted os started H enc)

/-- The statement. -/
theorem proved : Rows.FletchChangedSaid := over
end Go.Proofs.Ytgdlkomnjgmndaa.fletchChanged
