/- A packet has one way to be told, but of its sum: what is got, put again, is the very bytes: the statement PacketOne. No conditions. -/
import Derived.Test.YtekhgkkgmkodmaaJat
import Derived.Test.YtekhgkkgmkodmaaJbd
import Derived.Test.YtekhgkkgmkodmaaJbe
import Derived.Test.YtekhgkkgmkodmaaRows
import Derived.WalkKit
import Derived.ProofKit
import Derived.OpenShut
import Derived.ShutString
import Derived.ChangeOld
import Derived.Below
namespace Go.Proofs.Ytekhgkkgmkodmaa.packetOne
open Go.ChangeShapes Go.WideShapes Go.ChangeAt Go.RowKit
set_option linter.unusedVariables false

theorem own : ownKnob Try.prog.godebug = none := by kernel_rfl
theorem laidOut : laidOutB Try.prog = true := by kernel_rfl

/-- The bytes of what is told are the very ones, but of the sum. -/
theorem very {l : List Int} {v : Pv} {pl : Pl} (hb : Byt l) (h : Tells l v pl) : (bodyBs v pl).length = l.length - 24 ∧ ∀ j, j < l.length → j ≠ 12 → j ≠ 13 → (pktBytes v pl).getD j 0 = l.getD j 0 := by
  obtain ⟨X, Y, e⟩ := tells_bytes hb h
  obtain ⟨_, _, _, _, _, h6, h7⟩ := h
  refine ⟨by rw [h6, List.length_drop], fun j hj h12 h13 => ?_⟩
  rw [e]
  simp only [List.getD_eq_getElem?_getD]
  by_cases hlt : j < 12
  · rw [List.getElem?_append_left (by rw [List.length_take]; omega), List.getElem?_take, if_pos hlt]
  · have hl : (l.take 12).length = 12 := by rw [List.length_take]; omega
    rw [List.getElem?_append_right (by omega), hl, List.getElem?_append_right (by simp; omega), List.getElem?_drop]
    congr 2
    simp
    omega

set_option maxRecDepth 100000 in
set_option maxHeartbeats 16000000 in
theorem core (A : Option Addr) (n c : Nat) (l : List Int) (w : World) (hr : Row .u8 w w.heap.size A n l) (hby : Byt l) (hnc : n ≤ c) (hcm : c ≤ maxLen) :
    Calls Try.prog 4 #[.slice A n c] w fun e w' => e = .returned (.bool true) ∧ Below w.heap.size w w' := by
  have HR := Lib.hid hr
  have HY := Lib.hid hby
  have HC := Lib.hid hcm
  unfold maxLen at hcm
  clear hr hby
  go_enter Try.func4, Try.ntmps4
  go_wp2_with fail
  refine (wakes_any _).mono ?_
  rintro e1 w1 ⟨rfl, hb1⟩
  have B1 := Lib.hid hb1
  have R1 := Lib.hid (HR.out.below hb1)
  have hs1 := hb1.size
  clear hb1
  by_cases h6 : 600 < n
  · have hd : decide (600 < (n : Int)) = true := by simp; omega
    go_wp2
    go_ret
    exact ⟨rfl, B1.out⟩
  have hd : decide (600 < (n : Int)) = false := by simp; omega
  go_wp2_with fail
  refine (get_all want_ok A n c w.heap.size l _ R1.out HY.out hs1 (by omega) hnc HC.out).mono ?_
  rintro e2 w2 (⟨⟨ee, hee, rfl, hb2⟩, -⟩ | ⟨v, pl, rfl, hb2, hup, hsm, hrt, htl, -⟩)
  · have hed : (ee != 0) = true := by simp [hee]
    have B2 := Lib.hid (B1.out.trans (hb2.mono hs1))
    clear hb2
    go_wp2
    go_ret
    exact ⟨rfl, B2.out.alloc B2.out.size _⟩
  obtain ⟨hm, hvery⟩ := very HY.out htl
  have hln := R1.out.1
  rw [hln] at hm hvery
  have h24 : 24 ≤ n := by
    have := htl.2.2.2.2.2.2
    omega
  obtain ⟨m, hm'⟩ : ∃ m, (bodyBs v pl).length = m := ⟨_, rfl⟩
  rw [hm'] at hm
  have HM := Lib.hid hm'
  obtain rfl : n = 24 + m := by omega
  clear hm' hm
  have HVE := Lib.hid hvery
  have HRT := Lib.hid hrt
  have HSM := Lib.hid hsm
  have K3 := Lib.hid (Blk.new w2 31 #[.int .i64 v.kind, .int .i64 v.sender, .int .i64 v.every, .int .i64 v.dead, .int .i64 v.prio, .int .i64 v.dr, .int .i64 v.bdr, .slice v.seen.a v.seen.n v.seen.c, .bool v.ini, .bool v.mor, .bool v.mas, .int .i64 v.seq, .slice v.heads.a v.heads.n v.heads.c, .slice v.wants.a v.wants.n v.wants.c, .slice v.lsas.a v.lsas.n v.lsas.c, .slice v.acks.a v.acks.n v.acks.c])
  have BA := Lib.hid ((Below.refl w2.heap.size w2).alloc (Nat.le_refl _) (.cells #[.int .i64 v.kind, .int .i64 v.sender, .int .i64 v.every, .int .i64 v.dead, .int .i64 v.prio, .int .i64 v.dr, .int .i64 v.bdr, .slice v.seen.a v.seen.n v.seen.c, .bool v.ini, .bool v.mor, .bool v.mas, .int .i64 v.seq, .slice v.heads.a v.heads.n v.heads.c, .slice v.wants.a v.wants.n v.wants.c, .slice v.lsas.a v.lsas.n v.lsas.c, .slice v.acks.a v.acks.n v.acks.c] 31))
  have PK3 := Lib.hid (hup 0 _ (Nat.zero_le _) (Above.of_below BA.out))
  have B3 := Lib.hid ((B1.out.trans (hb2.mono hs1)).trans (BA.out.mono (by have := hb2.size; omega)))
  have hs3 := B3.out.size
  clear hup hsm hrt htl hvery hb2 BA hln
  obtain ⟨k0, k1, k2, k3, k4, k5, k6, k7, k8, k9, k10, k11, k12, k13, k14, k15⟩ := K3.out.sixteen
  go_wp2_with fail
  refine (pput_yes v pl _ m _ PK3.out HSM.out (Nat.le_refl _) HRT.out HM.out).mono ?_
  rintro e4 w4 ⟨g, rfl, hg, hk4, hb4⟩
  have B4 := Lib.hid (B3.out.trans (hb4.mono hs3))
  have HR4 := Lib.hid (HR.out.below B4.out)
  have R4 := Lib.hid (show Row .u8 w4 w4.heap.size (some ⟨g, 0, none⟩) (24 + m) (pktBytes v pl) by
    have h1 := hk4.row
    rw [pktBytes_length, HM.out] at h1
    exact h1)
  clear hb4 hk4 K3 B3 PK3 k0 k1 k2 k3 k4 k5 k6 k7 k8 k9 k10 k11 k12 k13 k14 k15 hd
  generalize pktBytes v pl = L at *
  obtain ⟨b0, o0, rfl, hb0, hc0⟩ := HR4.out.2 (by omega)
  obtain ⟨b1, o1, e9, hb1, hc1⟩ := R4.out.2 (by omega)
  injection e9 with e9
  injection e9 with e9 e9'
  subst e9 e9'
  have HC0 := Lib.hid hc0
  have HC1 := Lib.hid hc1
  clear hc0 hc1
  go_wp2_with fail
  go_loopw [35] (fun i wr => ∃ k d : Nat, k ≤ 24 + m ∧ i = .int .i64 k ∧ wr = w4.drewN d) (fun i _ => 24 + m - (intOf i).toNat)
  case atStart => exact ⟨0, 0, Nat.zero_le _, rfl, rfl⟩
  case round =>
    obtain ⟨k, d, hk, rfl, rfl⟩ := hrel
    by_cases hlt : k < 24 + m
    · have hx := HC0.out k hlt
      have hy := HC1.out k hlt
      rw [Nat.zero_add] at hy
      have hlt' : (k : Int) < ((24 + m : Nat) : Int) := by omega
      push_cast at hlt'
      have hve := HVE.out k hlt
      generalize l.getD k 0 = x at *
      generalize L.getD k 0 = y at *
      by_cases hxy : y = x
      · subst hxy
        have hd1 : (y != y) = false := by simp
        go_wp2_with fail
        go_quiet (fail)
        go_wp2
        go_roundw
        case rel => exact ⟨k + 1, _, by omega, by go_num, rfl⟩
        case measure => simp [intOf]; omega
      · have hd1 : (y != x) = true := by simp [hxy]
        have hk2 : k = 12 ∨ k = 13 := by
          by_cases h12 : k = 12
          · exact .inl h12
          · by_cases h13 : k = 13
            · exact .inr h13
            · exact absurd (hve h12 h13) hxy
        clear hve
        rcases hk2 with rfl | rfl
        · go_wp2_with fail
          go_quiet (fail)
          go_wp2
          go_roundw
          case rel => exact ⟨13, _, by omega, by go_num, rfl⟩
          case measure => simp [intOf]; omega
        · go_wp2_with fail
          go_quiet (fail)
          go_wp2
          go_roundw
          case rel => exact ⟨14, _, by omega, by go_num, rfl⟩
          case measure => simp [intOf]; omega
    · have hlt' : ¬ (k : Int) < ((24 + m : Nat) : Int) := by omega
      push_cast at hlt'
      go_wp2
      go_ret
      exact ⟨rfl, below_drewN B4.out _⟩

theorem walk (a0 : Option Addr) (len0 cap0 : Nat) (z0 : List Int) (w : World) (w0 : IsRow .u8 w a0 len0 cap0 z0) :
    Calls Try.prog 4 #[.slice a0 len0 cap0] w fun e w' => e = .returned (.bool true) ∧ Below w.heap.size w w' := by
  obtain ⟨l, hr, hwf, hc, hm⟩ := row_of_is w0
  have hcm : cap0 ≤ maxLen := by
    rcases w0 with ⟨_, _, h, _⟩ | ⟨_, _, _, h, _⟩
    · rw [h]; exact Nat.zero_le _
    · exact h
  exact core a0 len0 cap0 l w hr (byt_of_wf hwf) hc hcm

set_option maxRecDepth 100000 in
theorem lifted (os : Os) (started : os.Started) (H : Type) (enc : TypeId × Value → H) :
    ReturnsInHanded {} Try.checked os 4 .any (Rows.packetOneSpec.pre6 enc Try.prog Try.f4 Rows.packetOneRow.domain false) (Rows.packetOneSpec.post enc Try.prog Try.f4 false true false false) := by
  refine returnsInHanded_of_change (C := Try.checked) own started (by kernel_rfl) Try.func4
    (ChangeSpec.witness6 (enc := enc) (C := Try.checked) false ⟨#[], #[.slice none 0 0], []⟩ 8 (by kernel_rfl) (by kernel_rfl) (by kernel_rfl) (by kernel_rfl)) ?_
  intro W base args ds gs before hval0 hW hcnd _
  have hval : ∀ (j : Nat) t v, Try.f4.params[j]? = some t → args[j]? = some v → Value.okWide Try.prog W .any base t v := hval0
  have hW' := hW
  obtain ⟨p, q, hA0, hV, rfl, hfz, hnd⟩ := hW
  have hA : DataW.TrodAll enc Try.prog W 0 (fun _ => true) true Try.f4.params.toList args.toList ds p := hA0
  rw [Try.params4] at hA hval
  obtain ⟨v0, vs0, d0, ds0, p0, q0, hargs, rfl, rfl, h0, r0⟩ := trodAll_cons hA
  obtain ⟨rfl, rfl, rfl⟩ := trodAll_nil r0
  obtain rfl : args = #[v0] := by cases args; simp_all
  obtain ⟨rfl, rfl⟩ := trodVars_none hV
  have k0 := h0
  have lt0 : ∀ x ∈ p0, x.block < W.heap.size := by obtain ⟨m, hm⟩ := k0; exact DataW.trod_lt m _ _ _ hm
  obtain ⟨a0, len0, cap0, rfl⟩ := okWide_slice Try.underlying35 (hval 0 35 v0 rfl rfl)
  obtain ⟨z0, w0⟩ : ∃ zs, IsRow .u8 W a0 len0 cap0 zs := by
    obtain ⟨fuel, hf⟩ := h0
    rcases open_ints Try.underlying35 Try.underlying5 (by kernel_rfl) hf with ⟨hcs, _⟩ | ⟨x, l, c, zs, hcs, _, hl, hm, hz, _, hcell, hwz⟩
    · simp [Value.cells] at hcs
      obtain ⟨rfl, rfl, rfl⟩ := hcs
      exact ⟨[], .inl ⟨rfl, rfl, rfl, rfl⟩⟩
    · simp [Value.cells] at hcs
      obtain ⟨rfl, rfl, rfl⟩ := hcs
      exact ⟨zs, .inr ⟨_, rfl, hl, hm, by simpa using hz, hcell, hwz⟩⟩
  clear hA0 hval0
  refine (walk a0 len0 cap0 z0 W w0).mono fun e W' ⟨he, bel⟩ => ?_
  subst he
  exact ⟨_, rfl, _, _, _, [], _, [], hW', trodAll_mk1 (shut_bool Try.underlying4 _), (trodAll_cons_mk (Below.trod laidOut (by kernel_rfl) (of_decide_eq_true (by kernel_rfl)) k0 bel lt0) trodAll_mk0), rfl, bel.frame _, fun h => by cases h⟩

theorem over : Rows.packetOneRow.holds Try.pinned (OpenSpec.ofChange Rows.packetOneSpec) :=
  OpenClaim.holds_of_wide 4 Try.f4 rfl rfl rfl rfl rfl rfl rfl ⟨rfl, rfl, rfl, rfl, rfl⟩ rfl rfl rfl rfl rfl (by kernel_rfl) Try.func4 (by kernel_rfl)
    (of_decide_eq_true (by kernel_rfl)) (by unfold Func.isWrapper; first | (rw [if_pos (by decide +kernel)]; kernel_rfl) | (rw [if_neg (by decide +kernel)]; exact ⟨rfl, rfl⟩))
    (fun os started H enc _ => lifted os started H enc)

/-- The statement. -/
theorem proved : Rows.PacketOneSaid := over
end Go.Proofs.Ytekhgkkgmkodmaa.packetOne
