/- The statement QuadPuts of package syndiclaw01: for all bytes, every width and all ints, Put and Fits answer as the reference does, and what was handed in stays. No conditions. -/
import Derived.Test.YtcapjkaekmjkaaaJ
import Derived.Test.YtcapjkaekmjkaaaRows
import Derived.WalkKit
import Derived.Deep.DeepCutAuto
import Derived.ProofKit
import Derived.OpenShut
import Derived.ShutString
import Derived.ChangeOld
import Derived.Below
namespace Go.Proofs.Ytcapjkaekmjkaaa.quadPuts
open Go.ChangeShapes Go.WideShapes Go.ChangeAt Go.RowKit
open Go.ChangeMaps (open_string shut_string)
set_option linter.unusedVariables false

theorem own : ownKnob Try.prog.godebug = none := by kernel_rfl
theorem laidOut : laidOutB Try.prog = true := by kernel_rfl

theorem own_below {w w' : World} {base : Nat} {v : Value} {n : Nat} {xs : List Value} (h : w.ownsRow base 5 1 v n xs) (hb : Below w.heap.size w w') : w'.ownsRow base 5 1 v n xs :=
  h.kept (row := none) ⟨hb.os, hb.tape, hb.output, hb.size, fun k hk _ => hb.block k hk⟩ (by cases v.ownBlock <;> simp)

set_option maxHeartbeats 1000000 in
theorem core (a0 a2 : Option Addr) (n cap0 k cap2 : Nat) (l zs : List Int) (a1 : Int) (w : World) (hr : Row .u8 w w.heap.size a0 n l) (hr2 : Row .i64 w w.heap.size a2 k zs) (h64 : I64 zs) (hn : n ≤ 100) (hk : k ≤ 100) :
    Calls Try.prog 3 #[.slice a0 n cap0, .int .i64 a1, .slice a2 k cap2] w fun e w' => e = .returned (.bool true) ∧ Below w.heap.size w w' := by
  have hh1 := hold_lo a1
  have hh4 := hold_hi a1
  obtain ⟨m, hm⟩ := Int.eq_ofNat_of_zero_le (a := hold a1) (by omega)
  have hm1 : 1 ≤ m := by omega
  have hm4 : m ≤ 4 := by omega
  have hmN : (hold a1).toNat = m := by rw [hm]; rfl
  have HM := Lib.hid hmN
  clear hm hh1 hh4 hmN
  have HR := Lib.hid hr
  have HR2 := Lib.hid hr2
  have H64 := Lib.hid h64
  clear hr hr2 h64
  have hd1 : decide (100 < (n : Int)) = false := by simp; omega
  have hd2 : decide (100 < (k : Int)) = false := by simp; omega
  go_enter Try.func3, Try.ntmps3
  go_wp2_with fail
  refine (wakes_any _).mono ?_
  rintro e1 w1 ⟨rfl, hb1⟩
  have HB1 := Lib.hid hb1
  have hz1 := hb1.size
  clear hb1
  go_upto_region 6 with (at_builtin; refine wpList_append_row rfl (.tmp 23) (.tmp 24) rfl w1.heap.size (.slice (some ⟨w1.heap.size, 0, none⟩) 0 0) 0 [] (by rfl) (by exact World.ownsRow_made w1 #[] 0 (Nat.le_refl _) (Nat.zero_le _) rfl) w.heap.size a0 n cap0 l (by rfl) (by exact (HR.out.below HB1.out).alloc hz1 _) (by omega) (by simp) ?_; intro v2 w2 ho2 hg2 hl2)
  have hb2 : Below w1.heap.size w1 w2 := below_new hg2.out (Nat.le_refl _)
  have o2 := ho2.out
  rw [Nat.zero_add, List.nil_append] at o2
  obtain ⟨Ao, co, rfl, rowo, hco⟩ := row_of_own o2
  have HRO := Lib.hid rowo
  have hz2 := hb2.size
  have HB2 := Lib.hid (HB1.out.trans (hb2.mono hz1))
  have HRB := Lib.hid (HR.out.below HB2.out)
  clear hb2 o2 rowo ho2 hg2 hl2
  go_upto_region 7 with (at_builtin; refine wpList_append_row rfl (.tmp 26) (.tmp 27) rfl w2.heap.size (.slice (some ⟨w2.heap.size, 0, none⟩) 0 0) 0 [] (by rfl) (by exact World.ownsRow_made w2 #[] 0 (Nat.le_refl _) (Nat.zero_le _) rfl) w.heap.size a0 n cap0 l (by rfl) (by exact HRB.out.alloc (Nat.le_trans hz1 hz2) _) (by omega) (by simp) ?_; intro v3 w3 ho3 hg3 hl3)
  have hb3 : Below w2.heap.size w2 w3 := below_new hg3.out (Nat.le_refl _)
  have HB3 := Lib.hid hb3
  have o3 := ho3.out
  rw [Nat.zero_add, List.nil_append] at o3
  have HO3 := Lib.hid o3
  clear hb3 o3 ho3 hg3 hl3
  go_wp2_with fail
  go_loopw [8, 9, 31] (fun v f i wr => ∃ (q : Nat) (F : Bool), q ≤ k ∧ i = .int .i64 q ∧ f = .bool F ∧ Hid (F = (zs.take q).all (fitB m)) ∧ Hid (wr.ownsRow w2.heap.size 5 1 v (n + q * m) ((l ++ encs m (zs.take q)).map (Value.int .u8))) ∧ Hid (Below w2.heap.size w2 wr)) (fun _ _ i _ => k - (intOf i).toNat)
  case atStart => exact ⟨0, true, Nat.zero_le _, rfl, rfl, Lib.hid rfl, Lib.hid (by simpa [encs] using HO3.out), HB3⟩
  case round =>
    obtain ⟨q, F, hq, rfl, rfl, hF, hown, hbel⟩ := hrel
    have hq4 : q * m ≤ 100 * 4 := Nat.mul_le_mul (Nat.le_trans hq hk) hm4
    have hlz := HR2.out.1
    by_cases hlt : q < k
    · obtain ⟨b, o, rfl, hb, hc⟩ := HR2.out.2 (by omega)
      have hcx := (hbel.out.cell (p := ⟨b, o + q, none⟩) (by exact Nat.lt_of_lt_of_le hb (Nat.le_trans hz1 hz2))).trans ((HB2.out.cell (p := ⟨b, o + q, none⟩) hb).trans (hc q hlt))
      have HE := Lib.hid (encs_snoc m zs q (by omega))
      have HG : Hid (∀ F', F' = (zs.take q).all (fitB m) → (F' && fitB m (zs.getD q 0)) = (zs.take (q + 1)).all (fitB m)) := by
        rintro F' rfl
        rw [take_snoc zs q (by omega), List.all_append]
        simp
      generalize zs.getD q 0 = x at hcx HE HG
      clear hc hlz
      go_upto_region 12 with (go_at_call 8; refine (refBytes_any x a1 _).mono ?_; rintro e4 w4 ⟨rfl, hb4, hk4⟩)
      rw [HM.out] at hk4 ⊢
      have HB4 := Lib.hid hb4
      have HK4 := Lib.hid hk4
      have hz4 := hb4.size
      have hzr := hbel.out.size
      have ho4 := own_below hown.out hb4
      have HO4 := Lib.hid ho4
      have hr4 := row_of_blk (rest := []) (w := w4) (g := wr.heap.size) (l := enc x m) (by rw [List.append_nil]; exact hk4)
      rw [enc_length] at hr4
      have HR4 := Lib.hid hr4
      clear hb4 hk4 ho4 hr4
      go_upto_region 13 with (at_builtin; refine wpList_append_row rfl (.tmp 38) (.tmp 39) rfl w2.heap.size _ (n + q * m) _ (by rfl) (by exact HO4.out) w4.heap.size (some ⟨wr.heap.size, 0, none⟩) m m (enc x m) (by rfl) (by exact HR4.out) (by omega) (by omega) ?_; intro v5 w5 ho5 hg5 hl5)
      have hb5 : Below w2.heap.size w2 w5 := (hbel.out.trans (HB4.out.mono hzr)).grown hg5.out (by omega) (fun g hg => (HO4.out.lt g hg).1)
      have HB5 := Lib.hid hb5
      have hr5 : Row .u8 w5 w5.heap.size (some ⟨wr.heap.size, 0, none⟩) m (enc x m) := by
        refine ⟨enc_length x m, fun _ => ⟨wr.heap.size, 0, rfl, Nat.lt_of_lt_of_le HK4.out.lt hg5.out.size, fun j hj => ?_⟩⟩
        obtain ⟨b', o', e, hb', hc'⟩ := HR4.out.2 (by omega)
        injection e with e
        injection e with e1 e2
        subst e1 e2
        refine (World.cell?_of_block (hg5.out.block _ hb' ?_)).trans (hc' j hj)
        intro hq'
        exact absurd (hown.out.lt _ hq'.symm).2 (by simp)
      have HR5 := Lib.hid hr5
      have HO5 : Hid (w5.ownsRow w2.heap.size 5 1 v5 (n + (q + 1) * m) ((l ++ encs m (zs.take (q + 1))).map (Value.int .u8))) := by
        have := ho5.out
        rw [HE.out, Nat.succ_mul, ← Nat.add_assoc, ← List.append_assoc, List.map_append]
        exact this
      clear hb5 hr5 ho5 hg5 hl5
      cases F with
      | true =>
        go_wp2_with fail
        refine (number_any _ m m w5.heap.size (enc x m) _ HR5.out (enc_byt x m) hm4).mono ?_
        rintro e6 w6 ⟨rfl, rfl⟩
        have hy := HG.out true hF.out
        rw [fit_iff m x hm1 hm4] at hy
        generalize num (enc x m) = y at *
        have HYY := Lib.hid hy
        clear hy
        go_wp2
        go_roundw
        case rel => exact ⟨q + 1, (y == x), by omega, by go_num, rfl, Lib.hid (by rw [← HYY.out]; rfl), HO5, HB5⟩
        case measure => simp [intOf]; omega
      | false =>
        go_wp2
        go_roundw
        case rel => exact ⟨q + 1, false, by omega, by go_num, rfl, Lib.hid (by rw [← HG.out false hF.out]; rfl), HO5, HB5⟩
        case measure => simp [intOf]; omega
    · obtain rfl : q = k := by omega
      have hF1 := hF.out
      have ho1 := hown.out
      rw [List.take_of_length_le (by omega)] at hF1 ho1
      obtain ⟨A8, c8, rfl, hrow8, hc8⟩ := row_of_own ho1
      have HR8 := Lib.hid hrow8
      have HF := Lib.hid hF1
      have hzr := hbel.out.size
      have hl := HR.out.1
      have eN : (l ++ encs m zs).length = n + q * m := by rw [List.length_append, encs_length, hl, hlz]
      have HN := Lib.hid eN
      have hN9 : n + q * m ≤ 500 := by omega
      generalize n + q * m = N at *
      clear hF1 ho1 hrow8 hl hlz eN hF hown hq4
      have HRZ := Lib.hid ((HR2.out.below HB2.out).below (hbel.out.mono (Nat.le_trans hz1 hz2)))
      have HRo := Lib.hid (HRO.out.below hbel.out)
      have HRb := Lib.hid (HRB.out.below (hbel.out.mono (Nat.le_trans hz1 hz2)))
      go_wp2_with fail
      refine (put_any Ao a2 n co q cap2 w2.heap.size w.heap.size a1 l zs _ HRo.out HRZ.out hzr (by omega) (by omega) (by omega)).mono ?_
      rintro e4 w4 ⟨A', c', rfl, hc1, hc2, hrow4, hbel4⟩
      rw [HM.out, HN.out] at hc1 hrow4 ⊢
      have H4 := Lib.hid hrow4
      have HB4 := Lib.hid hbel4
      have hz4 := hbel4.size
      have HR84 := Lib.hid (HR8.out.below hbel4)
      have HRo4 := Lib.hid (HRo.out.below (hbel4.mono hzr))
      have HRb4 := Lib.hid (HRb.out.below (hbel4.mono (by omega)))
      have HRZ4 := Lib.hid (HRZ.out.below (hbel4.mono (by omega)))
      clear hrow4 hbel4
      go_wp2_with fail
      refine (same_yes A' A8 N c' c8 w4.heap.size wr.heap.size (l ++ encs m zs) _ H4.out HR84.out (by unfold maxLen; omega)).mono ?_
      rintro e5 w5 ⟨rfl, d5, rfl⟩
      go_wp2_with fail
      refine (same_yes Ao a0 n co cap0 w2.heap.size w.heap.size l _ (HRo4.out.drewN d5) (HRb4.out.drewN d5) (by unfold maxLen; omega)).mono ?_
      rintro e6 w6 ⟨rfl, d6, rfl⟩
      go_wp2_with fail
      refine (fits_any a2 q cap2 w.heap.size a1 zs _ (HRZ4.out.drewN (d5 + d6)) H64.out (by omega)).mono ?_
      rintro e7 w7 ⟨rfl, rfl⟩
      rw [HM.out, ← HF.out]
      go_wp2
      go_ret
      have hfin := (HB2.out.trans (hbel.out.mono (Nat.le_trans hz1 hz2))).trans (HB4.out.mono (by omega))
      exact ⟨rfl, hfin.os, hfin.tape, hfin.output, hfin.size, hfin.block⟩

theorem walk (a0 : Option Addr) (len0 cap0 : Nat) (z0 : List Int) (a1 : Int) (a2 : Option Addr) (len2 cap2 : Nat) (z2 : List Int) (w : World) (w0 : IsRow .u8 w a0 len0 cap0 z0) (w1 : (Lit.int .i64 a1).wf = true) (w2 : IsRow .i64 w a2 len2 cap2 z2) :
    Calls Try.prog 3 #[.slice a0 len0 cap0, .int .i64 a1, .slice a2 len2 cap2] w fun e w' => e = .returned (.bool true) ∧ Below w.heap.size w w' := by
  obtain ⟨l, hr, hw, hlc, hlm⟩ := row_of_is w0
  obtain ⟨zs, hr2, hw2, hlc2, hlm2⟩ := row_of_is w2
  by_cases hn : len0 ≤ 100
  · by_cases hk : len2 ≤ 100
    · exact core a0 a2 len0 cap0 len2 cap2 l zs a1 w hr hr2 (i64_of_wf hw2) hn hk
    · clear hr hw w0 hr2 hw2 w2
      unfold maxLen at hlm hlm2
      have hd1 : decide (100 < (len0 : Int)) = false := by simp; omega
      have hd2 : decide (100 < (len2 : Int)) = true := by simp; omega
      go_enter Try.func3, Try.ntmps3
      go_wp2_with fail
      refine (wakes_any _).mono ?_
      rintro e1 w1 ⟨rfl, hb1⟩
      have HB1 := Lib.hid hb1
      clear hb1
      go_wp2
      go_ret
      exact ⟨rfl, HB1.out⟩
  · clear hr hw w0 hr2 hw2 w2
    unfold maxLen at hlm hlm2
    have hd1 : decide (100 < (len0 : Int)) = true := by simp; omega
    go_enter Try.func3, Try.ntmps3
    go_wp2_with fail
    refine (wakes_any _).mono ?_
    rintro e1 w1 ⟨rfl, hb1⟩
    have HB1 := Lib.hid hb1
    clear hb1
    go_wp2
    go_ret
    exact ⟨rfl, HB1.out⟩

set_option maxRecDepth 100000 in
theorem lifted (os : Os) (started : os.Started) (H : Type) (enc : TypeId × Value → H) :
    ReturnsInHanded {} Try.checked os 3 .any (Rows.quadPutsSpec.pre6 enc Try.prog Try.f3 Rows.quadPutsRow.domain false) (Rows.quadPutsSpec.post enc Try.prog Try.f3 false true false false) := by
  refine returnsInHanded_of_change (C := Try.checked) own started (by kernel_rfl) Try.func3
    (ChangeSpec.witness6 (enc := enc) (C := Try.checked) false ⟨#[], #[.slice none 0 0, .int .i64 0, .slice none 0 0], []⟩ 8 (by kernel_rfl) (by kernel_rfl) (by kernel_rfl) (by kernel_rfl)) ?_
  intro W base args ds gs before hval0 hW hcnd _
  have hval : ∀ (j : Nat) t v, Try.f3.params[j]? = some t → args[j]? = some v → Value.okWide Try.prog W .any base t v := hval0
  have hW' := hW
  obtain ⟨p, q, hA0, hV, rfl, hfz, hnd⟩ := hW
  have hA : DataW.TrodAll enc Try.prog W 0 (fun _ => true) true Try.f3.params.toList args.toList ds p := hA0
  rw [Try.params3] at hA hval
  obtain ⟨v0, vs0, d0, ds0, p0, q0, hargs, rfl, rfl, h0, r0⟩ := trodAll_cons hA
  obtain ⟨v1, vs1, d1, ds1, p1, q1, rfl, rfl, rfl, h1, r1⟩ := trodAll_cons r0
  obtain ⟨v2, vs2, d2, ds2, p2, q2, rfl, rfl, rfl, h2, r2⟩ := trodAll_cons r1
  obtain ⟨rfl, rfl, rfl⟩ := trodAll_nil r2
  obtain rfl : args = #[v0, v1, v2] := by cases args; simp_all
  obtain ⟨rfl, rfl⟩ := trodVars_none hV
  obtain ⟨a0, len0, cap0, rfl⟩ := okWide_slice Try.underlying22 (hval 0 22 v0 rfl rfl)
  have k0 := h0
  have lt0 : ∀ x ∈ p0, x.block < W.heap.size := by obtain ⟨m, hm⟩ := k0; exact DataW.trod_lt m _ _ _ hm
  obtain ⟨z0, w0⟩ : ∃ zs, IsRow .u8 W a0 len0 cap0 zs := by
    obtain ⟨fuel, hf⟩ := h0
    rcases open_ints Try.underlying22 Try.underlying5 (by kernel_rfl) hf with ⟨hcs, _⟩ | ⟨x, l, c, zs, hcs, _, hl, hm, hz, _, hcell, hwz⟩
    · simp [Value.cells] at hcs
      obtain ⟨rfl, rfl, rfl⟩ := hcs
      exact ⟨[], .inl ⟨rfl, rfl, rfl, rfl⟩⟩
    · simp [Value.cells] at hcs
      obtain ⟨rfl, rfl, rfl⟩ := hcs
      exact ⟨zs, .inr ⟨_, rfl, hl, hm, by simpa using hz, hcell, hwz⟩⟩
  obtain ⟨a1, rfl, rfl, rfl, w1⟩ := open_int Try.underlying3 (hval 1 3 v1 rfl rfl) h1
  obtain ⟨a2, len2, cap2, rfl⟩ := okWide_slice Try.underlying23 (hval 2 23 v2 rfl rfl)
  have k2 := h2
  have lt2 : ∀ x ∈ p2, x.block < W.heap.size := by obtain ⟨m, hm⟩ := k2; exact DataW.trod_lt m _ _ _ hm
  obtain ⟨z2, w2⟩ : ∃ zs, IsRow .i64 W a2 len2 cap2 zs := by
    obtain ⟨fuel, hf⟩ := h2
    rcases open_ints Try.underlying23 Try.underlying3 (by kernel_rfl) hf with ⟨hcs, _⟩ | ⟨x, l, c, zs, hcs, _, hl, hm, hz, _, hcell, hwz⟩
    · simp [Value.cells] at hcs
      obtain ⟨rfl, rfl, rfl⟩ := hcs
      exact ⟨[], .inl ⟨rfl, rfl, rfl, rfl⟩⟩
    · simp [Value.cells] at hcs
      obtain ⟨rfl, rfl, rfl⟩ := hcs
      exact ⟨zs, .inr ⟨_, rfl, hl, hm, by simpa using hz, hcell, hwz⟩⟩
  clear hA0 hval0
  refine (walk a0 len0 cap0 z0 a1 a2 len2 cap2 z2 W w0 w1 w2).mono fun e W' ⟨he, bel⟩ => ?_
  subst he
  exact ⟨_, rfl, _, _, _, [], _, [], hW', trodAll_mk1 (shut_bool Try.underlying4 _), (trodAll_cons_mk (Below.trod laidOut (by kernel_rfl) (of_decide_eq_true (by kernel_rfl)) k0 bel lt0) (trodAll_cons_mk (shut_int Try.underlying3 w1) (trodAll_cons_mk (Below.trod laidOut (by kernel_rfl) (of_decide_eq_true (by kernel_rfl)) k2 bel lt2) trodAll_mk0))), rfl, bel.frame _, fun h => by cases h⟩

theorem over : Rows.quadPutsRow.holds Try.pinned (OpenSpec.ofChange Rows.quadPutsSpec) :=
  OpenClaim.holds_of_wide 3 Try.f3 rfl rfl rfl rfl rfl rfl rfl ⟨rfl, rfl, rfl, rfl, rfl⟩ rfl rfl rfl rfl rfl (by kernel_rfl) Try.func3 (by kernel_rfl)
    (of_decide_eq_true (by kernel_rfl)) (by unfold Func.isWrapper; first | (rw [if_pos (by decide +kernel)]; kernel_rfl) | (rw [if_neg (by decide +kernel)]; exact ⟨rfl, rfl⟩))
    (fun os started H enc _ => lifted os started H enc)

/-- The statement. -/
theorem proved : Rows.QuadPutsSaid := over
end Go.Proofs.Ytcapjkaekmjkaaa.quadPuts
