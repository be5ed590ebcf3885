/- The bytes of a right description of which one behind the age, but of its length, is changed, but by 255, aren't got. No conditions. -/
import Derived.Test.YtidncajbedgplaaLtF
import Derived.Test.YtidncajbedgplaaRows
import Derived.WalkKit
import Derived.ProofKit
import Derived.OpenShut
import Derived.ShutString
import Derived.ChangeOld
import Derived.Below
namespace Go.Proofs.Ytidncajbedgplaa.lsaChanged
open Go.ChangeShapes Go.WideShapes Go.ChangeAt Go.RowKit
set_option linter.unusedVariables false

theorem own : ownKnob Try.prog.godebug = none := by kernel_rfl
theorem laidOut : laidOutB Try.prog = true := by kernel_rfl

theorem word_set (l : List Int) (k : Nat) (y : Int) (h18 : k ≠ 18) (h19 : k ≠ 19) : wordAt (l.set k y) 18 2 = wordAt l 18 2 := by
  unfold wordAt
  rw [List.drop_set]
  split
  · rfl
  · rw [List.take_set_of_le (by omega)]
/-- The bytes of a right description of which one behind the age, but of its length, is changed, but by 255. -/
theorem changed_err {h : Hd} {L : List Lk} {M : List Int} (hr : rightB h L M = true) (k : Nat) (y : Int) (h2 : 2 ≤ k) (hk : k < (lsaBytes h L M).length) (h18 : k ≠ 18) (h19 : k ≠ 19) (hne : y ≠ (lsaBytes h L M).getD k 0) (hlt : y - (lsaBytes h L M).getD k 0 < 255) (hgt : -255 < y - (lsaBytes h L M).getD k 0) :
    gErr ((lsaBytes h L M).set k y) = 5 := by
  have hh := (headOf_put hr []).1
  rw [List.append_nil] at hh
  have hlen := lsaBytes_length h L M
  have hlong : longOf ((lsaBytes h L M).set k y) = (lsaBytes h L M).length := by
    have e : wordAt (lsaBytes h L M) 18 2 = (headOf (lsaBytes h L M)).long := rfl
    unfold longOf
    rw [word_set _ k y h18 h19, e, hh, hlen]
    show (20 + ((bodyBytes h L M).length : Int)).toNat = _
    omega
  have hT : getT ((lsaBytes h L M).set k y) = (lsaBytes h L M).set k y := by
    unfold getT
    rw [hlong]
    exact List.take_of_length_le (by simp)
  have hd : ((lsaBytes h L M).set k y).drop 2 = ((lsaBytes h L M).drop 2).set (k - 2) y := by
    rw [List.drop_set, if_neg (by omega)]
  have hg : ((lsaBytes h L M).drop 2).getD (k - 2) 0 = (lsaBytes h L M).getD k 0 := by
    simp only [List.getD_eq_getElem?_getD, List.getElem?_drop]
    rw [show 2 + (k - 2) = k from by omega]
  have hw : wholeB (((lsaBytes h L M).set k y).drop 2) = false := by
    rw [hd]
    exact whole_changed _ (k - 2) (by rw [List.length_drop]; omega) y (whole_put h L M) (by rw [hg]; exact hne) (by rw [hg]; exact hlt) (by rw [hg]; exact hgt)
  unfold gErr
  rw [hT, hlong, List.length_set, if_neg (by omega), if_neg (by omega), if_neg (by omega), hw]
  rfl

set_option maxRecDepth 100000 in
set_option maxHeartbeats 8000000 in
theorem walk (h : Hd) (A A' : Option Addr) (n c n' c' : Nat) (L : List Lk) (M : List Int) (at_ by_ : Int) (w : World) (hL : Lnk w w.heap.size A n L) (hM : Row .i64 w w.heap.size A' n' M) (hn : n ≤ maxLen) (hn' : n' ≤ maxLen) (ha0 : 0 ≤ at_) (ha1 : at_ ≤ 65535) (hb0 : 0 ≤ by_) (hb1 : by_ ≤ 255) :
    Calls Try.prog 6 #[.agg #[.int .i64 h.age, .int .i64 h.kind, .int .i64 h.id, .int .i64 h.adv, .int .i64 h.seq, .int .i64 h.sum, .int .i64 h.long, .slice A n c, .slice A' n' c'], .int .u16 at_, .int .u8 by_] w fun e w' => e = .returned (.bool true) ∧ Below w.heap.size w w' := by
  have K0 := Lib.hid (Blk.new w 27 #[.int .i64 h.age, .int .i64 h.kind, .int .i64 h.id, .int .i64 h.adv, .int .i64 h.seq, .int .i64 h.sum, .int .i64 h.long, .slice A n c, .slice A' n' c'])
  have B0 := Lib.hid ((Below.refl w.heap.size w).alloc (Nat.le_refl _) (.cells #[.int .i64 h.age, .int .i64 h.kind, .int .i64 h.id, .int .i64 h.adv, .int .i64 h.seq, .int .i64 h.sum, .int .i64 h.long, .slice A n c, .slice A' n' c'] 27))
  have HL0 := Lib.hid (hL.alloc (Nat.le_refl _) (.cells #[.int .i64 h.age, .int .i64 h.kind, .int .i64 h.id, .int .i64 h.adv, .int .i64 h.seq, .int .i64 h.sum, .int .i64 h.long, .slice A n c, .slice A' n' c'] 27))
  have HM0 := Lib.hid (hM.alloc (Nat.le_refl _) (.cells #[.int .i64 h.age, .int .i64 h.kind, .int .i64 h.id, .int .i64 h.adv, .int .i64 h.seq, .int .i64 h.sum, .int .i64 h.long, .slice A n c, .slice A' n' c'] 27))
  have HN := Lib.hid hn
  have HN' := Lib.hid hn'
  unfold maxLen at hn hn'
  clear hL hM
  go_enter Try.func6, Try.ntmps6
  go_wp2_with fail
  refine (wakes_any _).mono ?_
  rintro e1 w1 ⟨rfl, hbb⟩
  have K1 := Lib.hid (K0.out.below hbb (by simp))
  have B1 := Lib.hid (B0.out.trans (hbb.mono (by simp)))
  have HL1 := Lib.hid (HL0.out.below (hbb.mono (by simp)))
  have HM1 := Lib.hid (HM0.out.below (hbb.mono (by simp)))
  have hs1 := B1.out.size
  clear hbb K0 B0 HL0 HM0
  obtain ⟨k0, k1, k2, k3, k4, k5, k6, k7, k8⟩ := K1.out.nine
  by_cases hlg : 50 < n ∨ 50 < n'
  · go_wp2_with fail
    refine (long_yes h A A' n c n' c' _ HN.out HN'.out hlg).mono ?_
    rintro e2 w2 ⟨rfl, hb2⟩
    have B2 := Lib.hid (B1.out.trans (hb2.mono hs1))
    clear hb2 hlg
    go_wp2
    go_ret
    exact ⟨rfl, B2.out⟩
  · have hn50 : n ≤ 50 := by omega
    have hn50' : n' ≤ 50 := by omega
    clear hlg hn hn'
    go_wp2_with fail
    refine (long_no h A A' n c n' c' _ hn50 hn50').mono ?_
    rintro e2 w2 ⟨rfl, hb2⟩
    have K2 := Lib.hid (K1.out.below hb2 K1.out.lt)
    have B2 := Lib.hid (B1.out.trans (hb2.mono hs1))
    have HL2 := Lib.hid (HL1.out.below (hb2.mono hs1))
    have HM2 := Lib.hid (HM1.out.below (hb2.mono hs1))
    have hs2 := B2.out.size
    clear hb2 K1 B1 HL1 HM1 k0 k1 k2 k3 k4 k5 k6 k7 k8
    obtain ⟨k0, k1, k2, k3, k4, k5, k6, k7, k8⟩ := K2.out.nine
    by_cases hby : by_ = 0
    · subst hby
      go_wp2
      go_ret
      exact ⟨rfl, B2.out⟩
    · have hd : (by_ == 0) = false := by simp [hby]
      cases hr : rightB h L M
      · have HR := Lib.hid hr
        clear hr
        go_wp2_with fail
        refine (lput_no h L M A A' n c n' c' _ _ HL2.out HM2.out hs2 hn50 hn50' HR.out).mono ?_
        rintro e3 w3 ⟨rfl, hb3⟩
        have B3 := Lib.hid (B2.out.trans (hb3.mono hs2))
        clear hb3
        go_wp2
        go_ret
        exact ⟨rfl, B3.out⟩
      · have HR := Lib.hid hr
        obtain ⟨m, hm⟩ : ∃ m, (lsaBytes h L M).length = m := ⟨_, rfl⟩
        have hm20 : 20 ≤ m := by rw [← hm, lsaBytes_length]; omega
        have hm80 : m ≤ 80 := by have := body_small hr; rw [← hm, lsaBytes_length]; omega
        have Hm := Lib.hid hm
        clear hr hm
        go_wp2_with fail
        refine (lput_yes h L M A A' n c n' c' _ m _ HL2.out HM2.out hs2 hn50 hn50' HR.out Hm.out).mono ?_
        rintro e3 w3 ⟨v3, rfl, ha3⟩
        obtain ⟨g, cg, rest, rfl, hg, hcg, hk⟩ := own_blk ha3.1 (by omega)
        have hcm : cg ≤ maxLen := by
          obtain ⟨A9, c9, h1, _, h2, _⟩ := ha3.form
          injection h1 with _ _ h1
          omega
        have HCM := Lib.hid hcm
        have B3 := Lib.hid (B2.out.trans (ha3.2.mono hs2))
        have hgw : w.heap.size ≤ g := by omega
        have hby8 := lsaBytes_byt h L M
        have HKB := Lib.hid hk
        have HBY := Lib.hid hby8
        obtain ⟨k, hkk⟩ : ∃ k : Nat, 2 + at_ % ((m : Int) - 2) = (k : Int) := ⟨(2 + at_ % ((m : Int) - 2)).toNat, by have := Int.emod_nonneg at_ (b := (m : Int) - 2) (by omega); omega⟩
        have hk2 : 2 ≤ k := by have := Int.emod_nonneg at_ (b := (m : Int) - 2) (by omega); omega
        have hkm : k < m := by have := Int.emod_lt_of_pos at_ (b := (m : Int) - 2) (by omega); omega
        have hbd := hby8.getD k
        have hc1 := hk.atR k (by rw [Hm.out]; exact hkm)
        have hf1 := hk.frozen k
        clear hk hby8 ha3 hcm k0 k1 k2 k3 k4 k5 k6 k7 k8
        go_upto_region 9 with fail
        clear hkk
        have HS := fun y => Lib.hid (HKB.out.setR k (by rw [Hm.out]; exact hkm) y)
        generalize hx : (lsaBytes h L M).getD k 0 = x at *
        have HX := Lib.hid hx
        obtain ⟨y, hy⟩ : ∃ y, (x + by_) % 256 = y := ⟨_, rfl⟩
        have hy0 : 0 ≤ y ∧ y ≤ 255 := by omega
        have hyx : y ≠ x := by omega
        have HYX := Lib.hid hyx
        have B4 := Lib.hid (B3.out.setCell (p := ⟨g, k, none⟩) hgw (.int .u8 y))
        have R4 := Lib.hid (show Row .u8 (w3.setCell ⟨g, k, none⟩ (.int .u8 y)) (w3.setCell ⟨g, k, none⟩ (.int .u8 y)).heap.size (some ⟨g, 0, none⟩) m ((lsaBytes h L M).set k y) by
          have h1 := (HS y).out.rowR
          rw [List.length_set, Hm.out] at h1
          exact h1)
        have HBY4 := Lib.hid (HBY.out.set k hy0.1 hy0.2)
        clear hx HS HKB hyx
        go_upto_region 12 with fail
        clear hy hc1 hf1
        generalize w3.setCell ⟨g, k, none⟩ (.int .u8 y) = w4 at *
        by_cases hq : y - x = 255 ∨ y - x = -255 ∨ k = 18 ∨ k = 19
        · by_cases c1 : y - x = 255
          · have d1 : (y - x == 255) = true := by simp [c1]
            clear hq c1
            go_wp2
            go_ret
            exact ⟨rfl, B4.out⟩
          · have d1 : (y - x == 255) = false := by simp [c1]
            by_cases c2 : y - x = -255
            · have d2 : (y - x == -255) = true := by simp [c2]
              clear hq c1 c2
              go_wp2
              go_ret
              exact ⟨rfl, B4.out⟩
            · have d2 : (y - x == -255) = false := by simp [c2]
              by_cases c3 : k = 18
              · have d3 : ((k : Int) == 18) = true := by simp; omega
                clear hq c1 c2 c3
                go_wp2
                go_ret
                exact ⟨rfl, B4.out⟩
              · have d3 : ((k : Int) == 18) = false := by simp; omega
                have d4 : ((k : Int) == 19) = true := by simp; omega
                clear hq c1 c2 c3
                go_wp2
                go_ret
                exact ⟨rfl, B4.out⟩
        · have d1 : (y - x == 255) = false := by simp; omega
          have d2 : (y - x == -255) = false := by simp; omega
          have d3 : ((k : Int) == 18) = false := by simp; omega
          have d4 : ((k : Int) == 19) = false := by simp; omega
          have HE := Lib.hid (show gErr ((lsaBytes h L M).set k y) = 5 from changed_err HR.out k y hk2 (by rw [Hm.out]; exact hkm) (by omega) (by omega) (by rw [HX.out]; exact HYX.out) (by rw [HX.out]; omega) (by rw [HX.out]; omega))
          clear hq
          go_wp2_with fail
          refine (get_any (some ⟨g, 0, none⟩) m cg _ _ _ R4.out HBY4.out (Nat.le_refl _) (by omega) hcg HCM.out).mono ?_
          rintro e5 w5 ⟨A5, n5, c5, A6, n6, c6, rfl, -, -, -, -, hb5⟩
          rw [HE.out]
          have B5 := Lib.hid (B4.out.trans (hb5.mono B4.out.size))
          clear hb5
          generalize gHead ((lsaBytes h L M).set k y) = h5 at *
          go_wp2
          go_ret
          exact ⟨rfl, B5.out⟩

set_option maxRecDepth 100000 in
theorem lifted (os : Os) (started : os.Started) (H : Type) (enc : TypeId × Value → H) :
    ReturnsInHanded {} Try.checked os 6 .any (Rows.lsaChangedSpec.pre6 enc Try.prog Try.f6 Rows.lsaChangedRow.domain false) (Rows.lsaChangedSpec.post enc Try.prog Try.f6 false true false false) := by
  refine returnsInHanded_of_change (C := Try.checked) own started (by kernel_rfl) Try.func6
    (ChangeSpec.witness6 (enc := enc) (C := Try.checked) false ⟨#[], #[.agg #[.int .i64 0, .int .i64 0, .int .i64 0, .int .i64 0, .int .i64 0, .int .i64 0, .int .i64 0, .slice none 0 0, .slice none 0 0], .int .u16 0, .int .u8 0], []⟩ 8 (by kernel_rfl) (by kernel_rfl) (by kernel_rfl) (by kernel_rfl)) ?_
  intro W base args ds gs before hval0 hW hcnd _
  have hval : ∀ (j : Nat) t v, Try.f6.params[j]? = some t → args[j]? = some v → Value.okWide Try.prog W .any base t v := hval0
  have hW' := hW
  obtain ⟨p, q, hA0, hV, rfl, hfz, hnd⟩ := hW
  have hA : DataW.TrodAll enc Try.prog W 0 (fun _ => true) true Try.f6.params.toList args.toList ds p := hA0
  rw [Try.params6] at hA hval
  obtain ⟨v0, vs0, d0, ds0, p0, q0, hargs, rfl, rfl, h0, r0⟩ := trodAll_cons hA
  obtain ⟨v1, vs1, d1, ds1, p1, q1, rfl, rfl, rfl, h1, r1⟩ := trodAll_cons r0
  obtain ⟨v2, vs2, d2, ds2, p2, q2, rfl, rfl, rfl, h2, r2⟩ := trodAll_cons r1
  obtain ⟨rfl, rfl, rfl⟩ := trodAll_nil r2
  obtain rfl : args = #[v0, v1, v2] := by cases args; simp_all
  obtain ⟨rfl, rfl⟩ := trodVars_none hV
  have k0 := h0
  have lt0 : ∀ x ∈ p0, x.block < W.heap.size := by obtain ⟨m, hm⟩ := k0; exact DataW.trod_lt m _ _ _ hm
  have k1 := h1
  have lt1 : ∀ x ∈ p1, x.block < W.heap.size := by obtain ⟨m, hm⟩ := k1; exact DataW.trod_lt m _ _ _ hm
  have k2 := h2
  have lt2 : ∀ x ∈ p2, x.block < W.heap.size := by obtain ⟨m, hm⟩ := k2; exact DataW.trod_lt m _ _ _ hm
  obtain ⟨h, A, A', n, c, n', c', L, M, rfl, hL, hn, hM, hn'⟩ := lsa_came (hval 0 27 v0 rfl rfl) h0
  obtain ⟨z1, rfl, hz1⟩ : ∃ z, v1 = .int .u16 z ∧ (0 ≤ z ∧ z ≤ 65535) := by
    obtain ⟨z, rfl⟩ := okWide_int Try.underlying49 (hval 1 49 v1 rfl rfl)
    obtain ⟨fuel, hf⟩ := h1
    obtain ⟨z', hz, _, hw⟩ := DataW.trod_int Try.underlying49 hf
    simp [Value.cells] at hz
    subst hz
    have := bounds_u16 hw
    exact ⟨z, rfl, by omega⟩
  obtain ⟨z2, rfl, hz2⟩ : ∃ z, v2 = .int .u8 z ∧ (0 ≤ z ∧ z ≤ 255) := by
    obtain ⟨z, rfl⟩ := okWide_int Try.underlying5 (hval 2 5 v2 rfl rfl)
    obtain ⟨fuel, hf⟩ := h2
    obtain ⟨z', hz, _, hw⟩ := DataW.trod_int Try.underlying5 hf
    simp [Value.cells] at hz
    subst hz
    have := bounds_u8 hw
    exact ⟨z, rfl, by omega⟩
  clear hA0 hval0
  refine (walk h A A' n c n' c' L M z1 z2 W hL hM hn hn' hz1.1 hz1.2 hz2.1 hz2.2).mono fun e W' ⟨he, bel⟩ => ?_
  subst he
  exact ⟨_, rfl, _, _, _, [], _, [], hW', trodAll_mk1 (shut_bool Try.underlying4 _), (trodAll_cons_mk (Below.trod laidOut (by kernel_rfl) (of_decide_eq_true (by kernel_rfl)) k0 bel lt0) (trodAll_cons_mk (Below.trod laidOut (by kernel_rfl) (of_decide_eq_true (by kernel_rfl)) k1 bel lt1) (trodAll_cons_mk (Below.trod laidOut (by kernel_rfl) (of_decide_eq_true (by kernel_rfl)) k2 bel lt2) trodAll_mk0))), rfl, bel.frame _, fun h => by cases h⟩

theorem over : Rows.lsaChangedRow.holds Try.pinned (OpenSpec.ofChange Rows.lsaChangedSpec) :=
  OpenClaim.holds_of_wide 6 Try.f6 rfl rfl rfl rfl rfl rfl rfl ⟨rfl, rfl, rfl, rfl, rfl⟩ rfl rfl rfl rfl rfl (by kernel_rfl) Try.func6 (by kernel_rfl)
    (of_decide_eq_true (by kernel_rfl)) (by unfold Func.isWrapper; first | (rw [if_pos (by decide +kernel)]; kernel_rfl) | (rw [if_neg (by decide +kernel)]; exact ⟨rfl, rfl⟩))
    (fun os started H enc _ => lifted os started H enc)

/-- The statement. -/
theorem proved : Rows.LsaChangedSaid := over
end Go.Proofs.Ytidncajbedgplaa.lsaChanged
