/- The statement SumOf of package syndiclaw02: any bytes, in any pieces, have the sum that the document says, and are good just where it says so; what was handed in stays. No conditions. -/
import Derived.Test.YtnjboddijdekgaaF
import Derived.Test.YtnjboddijdekgaaRows
import Derived.WalkKit
import Derived.ProofKit
import Derived.OpenShut
import Derived.ShutString
import Derived.ChangeOld
import Derived.Below
namespace Go.Proofs.Ytnjboddijdekgaa.sumOf
open Go.ChangeShapes Go.WideShapes Go.ChangeAt Go.RowKit
open Go.ChangeMaps (open_string shut_string)
set_option linter.unusedVariables false

theorem own : ownKnob Try.prog.godebug = none := by kernel_rfl
theorem laidOut : laidOutB Try.prog = true := by kernel_rfl

set_option maxHeartbeats 2000000 in
theorem core (a0 : Option Addr) (n cap0 : Nat) (ls : List (List Int)) (w : World) (hr : Rows2 w w.heap.size a0 n ls) (hby : Byt ls.flatten) (hn : n ≤ 50) :
    Calls Try.prog 3 #[.slice a0 n cap0] w fun e w' => e = .returned (.bool true) ∧ Below w.heap.size w w' := by
  have HR := Lib.hid hr
  have HY := Lib.hid hby
  have HL := Lib.hid hr.1
  clear hr hby
  have hd1 : decide (50 < (n : Int)) = false := by simp; omega
  go_enter Try.func3, Try.ntmps3
  go_wp2_with fail
  refine (wakes_any _).mono ?_
  rintro e1 w1 ⟨rfl, hb1⟩
  have HB1 := Lib.hid hb1
  have hz1 := hb1.size
  clear hb1
  go_wp2_with fail
  go_loopw [3, 12] (fun v i wr => ∃ (q m : Nat), q ≤ n ∧ i = .int .i64 q ∧ m ≤ 300 * q ∧ Hid ((ls.take q).flatten.length = m) ∧ Hid (wr.ownsRow w1.heap.size 5 1 v m ((ls.take q).flatten.map (Value.int .u8))) ∧ Hid (Below w1.heap.size w1 wr)) (fun _ i _ => n - (intOf i).toNat)
  case atStart => exact ⟨0, 0, Nat.zero_le _, rfl, Nat.zero_le _, Lib.hid rfl, Lib.hid (World.ownsRow_nil _ _ _ _), Lib.hid (Below.refl _ _)⟩
  case round =>
    obtain ⟨q, m, hq, rfl, hm, hlen, hown, hbel⟩ := hrel
    have HBW := Lib.hid (HB1.out.trans (hbel.out.mono hz1))
    have hzr := hbel.out.size
    by_cases hlt : q < n
    · obtain ⟨b, o, rfl, hb, hc⟩ := (HR.out.below HBW.out).2 (by omega)
      obtain ⟨A', k, c', hcell, hkc, hrow⟩ := hc q hlt
      have HF := Lib.hid (flat_snoc ls q (by rw [HL.out]; exact hlt))
      have HW := Lib.hid hrow
      have HK := Lib.hid hrow.1
      clear hc hrow
      generalize ls.getD q [] = r at *
      by_cases hk : k ≤ 300
      · have hd2 : decide (300 < (k : Int)) = false := by simp; omega
        go_upto_region 12 with (at_builtin; refine wpList_append_row rfl (.tmp 21) (.tmp 25) rfl w1.heap.size _ m _ (by rfl) (by exact hown.out) w.heap.size A' k c' r (by rfl) (by exact HW.out) (by omega) (by omega) ?_; intro v5 w5 ho5 hg5 hl5)
        have HB5 := Lib.hid (hbel.out.grown hg5.out hzr (fun g hg => (hown.out.lt g hg).1))
        have HO5 : Hid (w5.ownsRow w1.heap.size 5 1 v5 (m + k) ((ls.take (q + 1)).flatten.map (Value.int .u8))) := by
          have := ho5.out
          rw [HF.out, List.map_append]
          exact this
        have HN5 : Hid ((ls.take (q + 1)).flatten.length = m + k) := by
          rw [Hid, HF.out, List.length_append, hlen.out, HK.out]
        clear ho5 hg5 hl5
        go_wp2
        go_roundw
        case rel => exact ⟨q + 1, m + k, by omega, by go_num, by omega, HN5, HO5, HB5⟩
        case measure => simp [intOf]; omega
      · have hd2 : decide (300 < (k : Int)) = true := by simp; omega
        go_wp2
        go_ret
        exact ⟨rfl, HBW.out⟩
    · obtain rfl : q = n := by omega
      have o1 := hown.out
      have h1 := hlen.out
      rw [List.take_of_length_le (by rw [HL.out]; exact Nat.le_refl _)] at o1 h1
      obtain ⟨A, c, rfl, hrow, hmc⟩ := row_of_own o1
      have HW := Lib.hid hrow
      have H1 := Lib.hid h1
      clear o1 h1 hrow
      go_wp2_with fail
      refine (of_any a0 q cap0 w.heap.size ls _ (HR.out.below HBW.out) HY.out (by rw [H1.out]; omega) (by omega)).mono ?_
      rintro e2 w2 ⟨rfl, rfl⟩
      go_wp2_with fail
      refine (refOf_any A m c wr.heap.size ls.flatten _ HW.out HY.out (by omega)).mono ?_
      rintro e2 w2 ⟨rfl, rfl⟩
      have HG : Hid (∀ s, s = sumOf ls.flatten → goodB ls.flatten = decide (m % 2 = 0 ∧ 2 ≤ m ∧ s = 0)) := fun s hs => by
        rw [hs, goodB, H1.out]
      generalize hs : sumOf ls.flatten = s at *
      have HS := Lib.hid hs
      have HG2 := Lib.hid (HG.out s rfl)
      clear hs HG
      go_wp2_with fail
      refine (good_any A m c wr.heap.size ls.flatten _ HW.out HY.out (by omega) (Nat.le_refl _) hmc).mono ?_
      rintro e3 w3 ⟨rfl, hb3⟩
      rw [HG2.out]
      have HB3 := Lib.hid (HBW.out.trans (hb3.mono (by omega)))
      have HW3 := Lib.hid (HW.out.below hb3)
      clear hb3
      by_cases h2 : 2 ≤ m
      · by_cases he : m % 2 = 0
        · have hd : decide (m % 2 = 0 ∧ 2 ≤ m ∧ s = 0) = (s == 0) := by
            rw [Bool.eq_iff_iff]
            simp [h2, he]
          rw [hd]
          clear hd
          go_wp2_with fail
          refine (refOf_any A m c wr.heap.size ls.flatten _ HW3.out HY.out (by omega)).mono ?_
          rintro e4 w4 ⟨rfl, rfl⟩
          rw [HS.out]
          go_wp2
          go_ret
          exact ⟨by simp, HB3.out⟩
        · have hd : decide (m % 2 = 0 ∧ 2 ≤ m ∧ s = 0) = false := by simp [he]
          rw [hd]
          clear hd
          go_wp2
          go_ret
          exact ⟨rfl, HB3.out⟩
      · have hd : decide (m % 2 = 0 ∧ 2 ≤ m ∧ s = 0) = false := by simp [h2]
        rw [hd]
        clear hd
        go_wp2
        go_ret
        exact ⟨rfl, HB3.out⟩

theorem walk (a0 : Option Addr) (len0 cap0 : Nat) (ls : List (List Int)) (w : World) (w0 : IsRows w a0 len0 cap0 ls) :
    Calls Try.prog 3 #[.slice a0 len0 cap0] w fun e w' => e = .returned (.bool true) ∧ Below w.heap.size w w' := by
  obtain ⟨hr, hby, hc, hm⟩ := w0
  by_cases hn : len0 ≤ 50
  · exact core a0 len0 cap0 ls w hr (byt_flat hby) hn
  · clear hr hby
    unfold maxLen at hm
    have hd1 : decide (50 < (len0 : Int)) = true := by simp; omega
    go_enter Try.func3, Try.ntmps3
    go_wp2_with fail
    refine (wakes_any _).mono ?_
    rintro e1 w1 ⟨rfl, hb1⟩
    have HB1 := Lib.hid hb1
    clear hb1
    go_wp2
    go_ret
    exact ⟨rfl, HB1.out⟩

set_option maxRecDepth 100000 in
theorem lifted (os : Os) (started : os.Started) (H : Type) (enc : TypeId × Value → H) :
    ReturnsInHanded {} Try.checked os 3 .any (Rows.sumOfSpec.pre6 enc Try.prog Try.f3 Rows.sumOfRow.domain false) (Rows.sumOfSpec.post enc Try.prog Try.f3 false true false false) := by
  refine returnsInHanded_of_change (C := Try.checked) own started (by kernel_rfl) Try.func3
    (ChangeSpec.witness6 (enc := enc) (C := Try.checked) false ⟨#[], #[.slice none 0 0], []⟩ 8 (by kernel_rfl) (by kernel_rfl) (by kernel_rfl) (by kernel_rfl)) ?_
  intro W base args ds gs before hval0 hW hcnd _
  have hval : ∀ (j : Nat) t v, Try.f3.params[j]? = some t → args[j]? = some v → Value.okWide Try.prog W .any base t v := hval0
  have hW' := hW
  obtain ⟨p, q, hA0, hV, rfl, hfz, hnd⟩ := hW
  have hA : DataW.TrodAll enc Try.prog W 0 (fun _ => true) true Try.f3.params.toList args.toList ds p := hA0
  rw [Try.params3] at hA hval
  obtain ⟨v0, vs0, d0, ds0, p0, q0, hargs, rfl, rfl, h0, r0⟩ := trodAll_cons hA
  obtain ⟨rfl, rfl, rfl⟩ := trodAll_nil r0
  obtain rfl : args = #[v0] := by cases args; simp_all
  obtain ⟨rfl, rfl⟩ := trodVars_none hV
  obtain ⟨a0, len0, cap0, rfl⟩ := okWide_slice Try.underlying22 (hval 0 22 v0 rfl rfl)
  have k0 := h0
  have lt0 : ∀ x ∈ p0, x.block < W.heap.size := by obtain ⟨m, hm⟩ := k0; exact DataW.trod_lt m _ _ _ hm
  obtain ⟨ls, w0⟩ : ∃ ls, IsRows W a0 len0 cap0 ls := by
    obtain ⟨fuel, hf⟩ := h0
    exact isRows_of Try.underlying22 Try.underlying24 Try.underlying5 (by kernel_rfl) (by kernel_rfl) hf
  clear hA0 hval0
  refine (walk a0 len0 cap0 ls W w0).mono fun e W' ⟨he, bel⟩ => ?_
  subst he
  exact ⟨_, rfl, _, _, _, [], _, [], hW', trodAll_mk1 (shut_bool Try.underlying4 _), (trodAll_cons_mk (Below.trod laidOut (by kernel_rfl) (of_decide_eq_true (by kernel_rfl)) k0 bel lt0) trodAll_mk0), rfl, bel.frame _, fun h => by cases h⟩

theorem over : Rows.sumOfRow.holds Try.pinned (OpenSpec.ofChange Rows.sumOfSpec) :=
  OpenClaim.holds_of_wide 3 Try.f3 rfl rfl rfl rfl rfl rfl rfl ⟨rfl, rfl, rfl, rfl, rfl⟩ rfl rfl rfl rfl rfl (by kernel_rfl) Try.func3 (by kernel_rfl)
    (of_decide_eq_true (by kernel_rfl)) (by unfold Func.isWrapper; first | (rw [if_pos (by decide +kernel)]; kernel_rfl) | (rw [if_neg (by decide +kernel)]; exact ⟨rfl, rfl⟩))
    (fun os started H enc _ => lifted os started H enc)

/-- The statement. -/
theorem proved : Rows.SumOfSaid := over
end Go.Proofs.Ytnjboddijdekgaa.sumOf
