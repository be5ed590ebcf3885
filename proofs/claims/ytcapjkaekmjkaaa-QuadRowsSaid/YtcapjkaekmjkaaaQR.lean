/- The statement QuadRows of package syndiclaw01: for every list of uint16 and every width, numbers that are put together are read one by one. No conditions. -/
import Derived.Test.YtcapjkaekmjkaaaI
import Derived.Test.YtcapjkaekmjkaaaRows
import Derived.WalkKit
import Derived.Deep.DeepCutAuto
import Derived.ProofKit
import Derived.OpenShut
import Derived.ShutString
import Derived.ChangeOld
import Derived.Below
namespace Go.Proofs.Ytcapjkaekmjkaaa.quadRows
open Go.ChangeShapes Go.WideShapes Go.ChangeAt Go.RowKit
open Go.ChangeMaps (open_string shut_string)
set_option linter.unusedVariables false

theorem own : ownKnob Try.prog.godebug = none := by kernel_rfl
theorem laidOut : laidOutB Try.prog = true := by kernel_rfl

set_option maxHeartbeats 1000000 in
theorem core (a0 : Option Addr) (n cap0 : Nat) (l : List Int) (a1 : Int) (w : World) (hr : Row .u16 w w.heap.size a0 n l) (hw : ∀ x ∈ l, (Lit.int .u16 x).wf = true) (hn : n ≤ 100) :
    Calls Try.prog 5 #[.slice a0 n cap0, .int .i64 a1] w fun e w' => e = .returned (.bool true) ∧ Below w.heap.size w w' := by
  have HR := Lib.hid hr
  have HW := Lib.hid hw
  clear hr hw
  go_enter Try.func5, Try.ntmps5
  go_wp2_with fail
  refine (wakes_any _).mono ?_
  rintro e1 w1 ⟨rfl, hb1⟩
  have HB1 := Lib.hid hb1
  clear hb1
  go_upto_region 5 with (fail)
  go_cut [5] (fun s5 wx => ∃ K : Nat, s5 = .int .i64 K ∧ 2 ≤ K ∧ K ≤ 4 ∧ w1 = wx)
  case first =>
    go_wp2_with fail
    refine (wide_any _ _).mono ?_
    rintro e2 w2 ⟨rfl, rfl⟩
    have h4 := hold_hi a1
    go_wp2_with fail
    · go_meet
      exact ⟨2, rfl, by omega, by omega, rfl⟩
    · go_meet
      have h2 : 2 ≤ hold a1 := by assumption
      exact ⟨(hold a1).toNat, by rw [Int.toNat_of_nonneg (by omega)], by omega, by omega, rfl⟩
  case rest =>
    obtain ⟨K, rfl, hK2, hK4, rfl⟩ := hcut
    have HK := Lib.hid (hold_id K (by omega) hK4)
    go_wp2_with fail
    go_loopw [6, 22] (fun v i wr => ∃ (q : Nat) (A : Option Addr) (N c : Nat), q ≤ n ∧ i = .int .i64 q ∧ v = .slice A N c ∧ Hid (N = q * K) ∧ Hid (Row .u8 wr wr.heap.size A N (encs K (l.take q))) ∧ Hid (Below w.heap.size w wr)) (fun _ i _ => n - (intOf i).toNat)
    case atStart => exact ⟨0, none, 0, 0, Nat.zero_le _, rfl, rfl, Lib.hid (by simp), Lib.hid Row.nil, HB1⟩
    case round =>
      obtain ⟨q, A, N, c, hq, rfl, rfl, hN, hrow, hbel⟩ := hrel
      have hl := HR.out.1
      have hN4 : N ≤ 400 := by rw [hN.out]; exact Nat.mul_le_mul (Nat.le_trans hq hn) hK4
      by_cases hlt : q < n
      · obtain ⟨b, o, rfl, hb, hc⟩ := HR.out.2 (by omega)
        have hcx := (hbel.out.cell (p := ⟨b, o + q, none⟩) hb).trans (hc q hlt)
        have hmem : l.getD q 0 ∈ l := by
          rw [List.getD_eq_getElem?_getD, List.getElem?_eq_getElem (by omega)]
          exact List.getElem_mem _
        have hx := bounds_u16 (HW.out _ hmem)
        have HE := Lib.hid (encs_snoc K l q (by omega))
        generalize l.getD q 0 = x at hcx hx HE
        clear hc hmem hl
        go_wp2_with fail
        refine (put_any A (some ⟨wr.heap.size, 0, none⟩) N c 1 1 wr.heap.size (wr.heap.size + 1) K (encs K (l.take q)) [x] _ (hrow.out.alloc (Nat.le_refl _) _) ?r1 (by simp) (by simp) (by omega) (by omega)).mono ?_
        case r1 =>
          refine ⟨rfl, fun _ => ⟨_, _, rfl, by omega, fun j hj => ?_⟩⟩
          obtain rfl : j = 0 := by omega
          simp
        rintro e2 w2 ⟨A', c', rfl, hc1, hc2, hrow2, hbel2⟩
        have eL : encs K (l.take q) ++ encs (hold (K : Int)).toNat [x] = encs K (l.take (q + 1)) := by
          rw [HE.out, HK.out]
          simp [encs]
        rw [eL] at hc1 hrow2 ⊢
        have eN : (encs K (l.take (q + 1))).length = (q + 1) * K := by
          rw [encs_length, List.length_take, Nat.min_eq_left (by have := HR.out.1; omega)]
        generalize hN2 : (encs K (l.take (q + 1))).length = N2 at *
        have HN2 := Lib.hid eN
        have HR2 := Lib.hid hrow2
        have HB2 := Lib.hid (hbel.out.alloc hbel.out.size (.cells #[.int .i64 x] 3) |>.trans (hbel2.mono (by have := hbel.out.size; simp; omega)))
        clear eL eN hrow2 hbel2 hc1 hc2 hN2
        go_wp2
        go_roundw
        case rel => exact ⟨q + 1, A', N2, c', by omega, by go_num, rfl, HN2, HR2, HB2⟩
        case measure => simp [intOf]; omega
      · obtain rfl : q = n := by omega
        have hrow1 := hrow.out
        rw [List.take_of_length_le (by omega)] at hrow1
        have HR1 := Lib.hid hrow1
        clear hrow1 hl
        go_wp2_with fail
        refine (read_any A N c wr.heap.size (encs K l) _ HR1.out (Nat.le_refl _) (by omega)).mono ?_
        rintro e2 w2 ⟨rfl, hb2, hrow2, hblk⟩
        have eN : (encs K l).length = N := HR1.out.1
        rw [eN] at hrow2 hblk
        have H2 := Lib.hid hrow2
        have HBL := Lib.hid hblk
        have HB2 := Lib.hid (hbel.out.trans (hb2.mono hbel.out.size))
        have hGz : wr.heap.size + 1 < w2.heap.size := hblk.lt
        have hGw : w.heap.size ≤ wr.heap.size := hbel.out.size
        generalize wr.heap.size = G at *
        clear eN hrow2 hblk hb2
        go_wp2_with fail
        go_loopw [37] (fun i wv => ∃ (q' : Nat) (a : Int), q' ≤ q ∧ i = .int .i64 q' ∧ Hid (a = ((q' * K : Nat) : Int)) ∧ Hid (Blk wv (G + 1) 45 #[.slice (some ⟨G, 0, none⟩) N N, .int .i64 a, .int .i64 0]) ∧ Hid (Row .u8 wv (G + 1) (some ⟨G, 0, none⟩) N (encs K l)) ∧ Hid (Below w.heap.size w wv)) (fun i _ => q - (intOf i).toNat)
        case atStart => exact ⟨0, 0, Nat.zero_le _, rfl, Lib.hid (by simp), HBL, H2, HB2⟩
        case round =>
          obtain ⟨q', a, hq', rfl, ha, hblk', hrow', hbel'⟩ := hrel
          have hq4 : q' * K ≤ q * K := Nat.mul_le_mul_right K hq'
          have ha0 : 0 ≤ a := by rw [ha.out]; omega
          have haN : a ≤ N := by rw [ha.out, hN.out]; omega
          by_cases hlt' : q' < q
          · obtain ⟨b, o, rfl, hb, hc⟩ := HR.out.2 (by omega)
            have hl := HR.out.1
            have hcx := (hbel'.out.cell (p := ⟨b, o + q', none⟩) hb).trans (hc q' hlt')
            have hmem : l.getD q' 0 ∈ l := by
              rw [List.getD_eq_getElem?_getD, List.getElem?_eq_getElem (by omega)]
              exact List.getElem_mem _
            have hx := bounds_u16 (HW.out _ hmem)
            have eD := encs_drop K l q' (by omega)
            have hS : (q' + 1) * K ≤ q * K := Nat.mul_le_mul_right K hlt'
            rw [Nat.succ_mul] at hS
            generalize l.getD q' 0 = x at hcx hx eD
            have eX : num (((encs K l).drop a.toNat).take (hold (K : Int)).toNat) = x := by
              rw [HK.out, ha.out, Int.toNat_natCast, Int.toNat_natCast, eD]
              exact num_small x K hK2 hK4 (by omega) (by omega)
            have HX := Lib.hid eX
            have hKN : hold (K : Int) ≤ N - a := by rw [HK.out, ha.out, hN.out]; omega
            have HKN := Lib.hid hKN
            clear hc hmem hl eD eX hS hKN
            go_wp2_with fail
            refine (num_ok (G + 1) _ N N (G + 1) a K (encs K l) _ hblk'.out ha0 haN (Nat.le_refl _) (by unfold maxLen; omega) HKN.out hrow'.out (encs_byt K l) (Nat.le_refl _)).mono ?_
            rintro e3 w3 ⟨rfl, d, rfl⟩
            have HST := Lib.hid (step_at hblk'.out (a + hold (K : Int)) d)
            have hGr : G + 1 < wr.heap.size := hblk'.out.lt
            have HRW := Lib.hid (hrow'.out.step HST.out (by omega) (Nat.le_refl _))
            have HBW := Lib.hid (hbel'.out.grown HST.out.1 hbel'.out.size (fun k hk => by injection hk with hk; omega))
            rw [HX.out]
            generalize (wr.setCell ⟨G + 1, 1, none⟩ (.int .i64 (a + hold (K : Int)))).drewN d = w3 at *
            have hb1 := HST.out.2
            rw [HK.out] at hb1
            have HBK := Lib.hid hb1
            clear hb1 HST
            go_wp2
            go_roundw
            case rel => exact ⟨q' + 1, a + K, by omega, by go_num, Lib.hid (by rw [ha.out, Nat.succ_mul]; omega), HBK, HRW, HBW⟩
            case measure => simp [intOf]; omega
          · obtain rfl : q' = q := by omega
            go_wp2_with fail
            refine (err_any (G + 1) _ N N a 0 _ hblk'.out).mono ?_
            rintro e3 w3 ⟨rfl, rfl⟩
            go_wp2_with fail
            refine (left_any (G + 1) _ N N a 0 _ hblk'.out ha0 haN (by unfold maxLen; omega)).mono ?_
            rintro e3 w3 ⟨rfl, d, rfl⟩
            rw [show (N : Int) - a = 0 from by rw [ha.out, hN.out]; omega]
            go_wp2
            go_ret
            exact ⟨rfl, hbel'.out.os, hbel'.out.tape, hbel'.out.output, hbel'.out.size, hbel'.out.block⟩

theorem walk (a0 : Option Addr) (len0 cap0 : Nat) (z0 : List Int) (a1 : Int) (w : World) (w0 : IsRow .u16 w a0 len0 cap0 z0) (w1 : (Lit.int .i64 a1).wf = true) :
    Calls Try.prog 5 #[.slice a0 len0 cap0, .int .i64 a1] w fun e w' => e = .returned (.bool true) ∧ Below w.heap.size w w' := by
  obtain ⟨l, hr, hw, hlc, hlm⟩ := row_of_is w0
  by_cases hn : len0 ≤ 100
  · exact core a0 len0 cap0 l a1 w hr hw hn
  · clear hr hw w0
    unfold maxLen at hlm
    go_enter Try.func5, Try.ntmps5
    go_wp2_with fail
    refine (wakes_any _).mono ?_
    rintro e1 w1 ⟨rfl, hb1⟩
    have HB1 := Lib.hid hb1
    clear hb1
    go_wp2
    go_ret
    exact ⟨rfl, HB1.out⟩

set_option maxRecDepth 100000 in
theorem lifted (os : Os) (started : os.Started) (H : Type) (enc : TypeId × Value → H) :
    ReturnsInHanded {} Try.checked os 5 .any (Rows.quadRowsSpec.pre6 enc Try.prog Try.f5 Rows.quadRowsRow.domain false) (Rows.quadRowsSpec.post enc Try.prog Try.f5 false true false false) := by
  refine returnsInHanded_of_change (C := Try.checked) own started (by kernel_rfl) Try.func5
    (ChangeSpec.witness6 (enc := enc) (C := Try.checked) false ⟨#[], #[.slice none 0 0, .int .i64 0], []⟩ 8 (by kernel_rfl) (by kernel_rfl) (by kernel_rfl) (by kernel_rfl)) ?_
  intro W base args ds gs before hval0 hW hcnd _
  have hval : ∀ (j : Nat) t v, Try.f5.params[j]? = some t → args[j]? = some v → Value.okWide Try.prog W .any base t v := hval0
  have hW' := hW
  obtain ⟨p, q, hA0, hV, rfl, hfz, hnd⟩ := hW
  have hA : DataW.TrodAll enc Try.prog W 0 (fun _ => true) true Try.f5.params.toList args.toList ds p := hA0
  rw [Try.params5] at hA hval
  obtain ⟨v0, vs0, d0, ds0, p0, q0, hargs, rfl, rfl, h0, r0⟩ := trodAll_cons hA
  obtain ⟨v1, vs1, d1, ds1, p1, q1, rfl, rfl, rfl, h1, r1⟩ := trodAll_cons r0
  obtain ⟨rfl, rfl, rfl⟩ := trodAll_nil r1
  obtain rfl : args = #[v0, v1] := by cases args; simp_all
  obtain ⟨rfl, rfl⟩ := trodVars_none hV
  obtain ⟨a0, len0, cap0, rfl⟩ := okWide_slice Try.underlying39 (hval 0 39 v0 rfl rfl)
  have k0 := h0
  have lt0 : ∀ x ∈ p0, x.block < W.heap.size := by obtain ⟨m, hm⟩ := k0; exact DataW.trod_lt m _ _ _ hm
  obtain ⟨z0, w0⟩ : ∃ zs, IsRow .u16 W a0 len0 cap0 zs := by
    obtain ⟨fuel, hf⟩ := h0
    rcases open_ints Try.underlying39 Try.underlying40 (by kernel_rfl) hf with ⟨hcs, _⟩ | ⟨x, l, c, zs, hcs, _, hl, hm, hz, _, hcell, hwz⟩
    · simp [Value.cells] at hcs
      obtain ⟨rfl, rfl, rfl⟩ := hcs
      exact ⟨[], .inl ⟨rfl, rfl, rfl, rfl⟩⟩
    · simp [Value.cells] at hcs
      obtain ⟨rfl, rfl, rfl⟩ := hcs
      exact ⟨zs, .inr ⟨_, rfl, hl, hm, by simpa using hz, hcell, hwz⟩⟩
  obtain ⟨a1, rfl, rfl, rfl, w1⟩ := open_int Try.underlying3 (hval 1 3 v1 rfl rfl) h1
  clear hA0 hval0
  refine (walk a0 len0 cap0 z0 a1 W w0 w1).mono fun e W' ⟨he, bel⟩ => ?_
  subst he
  exact ⟨_, rfl, _, _, _, [], _, [], hW', trodAll_mk1 (shut_bool Try.underlying4 _), (trodAll_cons_mk (Below.trod laidOut (by kernel_rfl) (of_decide_eq_true (by kernel_rfl)) k0 bel lt0) (trodAll_cons_mk (shut_int Try.underlying3 w1) trodAll_mk0)), rfl, bel.frame _, fun h => by cases h⟩

theorem over : Rows.quadRowsRow.holds Try.pinned (OpenSpec.ofChange Rows.quadRowsSpec) :=
  OpenClaim.holds_of_wide 5 Try.f5 rfl rfl rfl rfl rfl rfl rfl ⟨rfl, rfl, rfl, rfl, rfl⟩ rfl rfl rfl rfl rfl (by kernel_rfl) Try.func5 (by kernel_rfl)
    (of_decide_eq_true (by kernel_rfl)) (by unfold Func.isWrapper; first | (rw [if_pos (by decide +kernel)]; kernel_rfl) | (rw [if_neg (by decide +kernel)]; exact ⟨rfl, rfl⟩))
    (fun os started H enc _ => lifted os started H enc)

/-- The statement. -/
theorem proved : Rows.QuadRowsSaid := over
end Go.Proofs.Ytcapjkaekmjkaaa.quadRows
