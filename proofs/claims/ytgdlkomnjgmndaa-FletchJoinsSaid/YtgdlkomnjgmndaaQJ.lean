/- The statement FletchJoins of package syndiclaw03: the sums of bytes in two pieces come of the sums of both pieces. No conditions. -/
import Derived.Test.YtgdlkomnjgmndaaE
import Derived.Test.YtgdlkomnjgmndaaRows
import Derived.WalkKit
import Derived.ProofKit
import Derived.OpenShut
import Derived.ShutString
import Derived.ChangeOld
import Derived.Below
namespace Go.Proofs.Ytgdlkomnjgmndaa.fletchJoins
open Go.ChangeShapes Go.WideShapes Go.ChangeAt Go.RowKit
open Go.ChangeMaps (open_string shut_string)
set_option linter.unusedVariables false

theorem own : ownKnob Try.prog.godebug = none := by kernel_rfl
theorem laidOut : laidOutB Try.prog = true := by kernel_rfl

/-- Both sums of bytes in two pieces. -/
theorem joins (a b : List Int) : ffst (a ++ b) % 255 = (ffst a % 255 + ffst b % 255) % 255 ∧ fsnd (a ++ b) % 255 = (fsnd a % 255 + fsnd b % 255 + b.length * (ffst a % 255)) % 255 := by
  rw [ffst_append, fsnd_append]
  refine ⟨by omega, ?_⟩
  obtain ⟨qa, ha⟩ : ∃ q, ffst a % 255 = ffst a + 255 * q := ⟨-(ffst a / 255), by omega⟩
  obtain ⟨qc, hc⟩ : ∃ q, fsnd a % 255 = fsnd a + 255 * q := ⟨-(fsnd a / 255), by omega⟩
  obtain ⟨qd, hd⟩ : ∃ q, fsnd b % 255 = fsnd b + 255 * q := ⟨-(fsnd b / 255), by omega⟩
  refine (mod_of _ _ (qc + qd + b.length * qa) ?_).symm
  rw [ha, hc, hd]
  grind

set_option maxHeartbeats 4000000 in
theorem core (a0 : Option Addr) (n cap0 : Nat) (l : List Int) (a1 : Option Addr) (m cap1 : Nat) (r : List Int) (w : World) (hr : Row .u8 w w.heap.size a0 n l) (hby : Byt l) (hr' : Row .u8 w w.heap.size a1 m r) (hby' : Byt r) (hn : n ≤ 200) (hm : m ≤ 200) :
    Calls Try.prog 6 #[.slice a0 n cap0, .slice a1 m cap1] w fun e w' => e = .returned (.bool true) ∧ Below w.heap.size w w' := by
  have HR := Lib.hid hr
  have HY := Lib.hid hby
  have HR' := Lib.hid hr'
  have HY' := Lib.hid hby'
  have HL := Lib.hid hr'.1
  clear hr hby hr' hby'
  go_enter Try.func6, Try.ntmps6
  go_wp2_with fail
  refine (wakes_any _).mono ?_
  rintro e1 w1 ⟨rfl, hb1⟩
  have HB1 := Lib.hid hb1
  have hz1 := hb1.size
  have HR1 := Lib.hid (HR.out.below hb1)
  have HR1' := Lib.hid (HR'.out.below hb1)
  clear hb1 HR HR'
  go_wp2_with fail
  refine (sums_any a0 n cap0 _ l _ HR1.out HY.out (by unfold maxLen; omega)).mono ?_
  rintro e2 w2 ⟨rfl, rfl⟩
  go_wp2_with fail
  refine (sums_any a1 m cap1 _ r _ HR1'.out HY'.out (by unfold maxLen; omega)).mono ?_
  rintro e2 w2 ⟨rfl, rfl⟩
  go_wp2_with (first
    | (at_builtin; refine wpList_append_row rfl (.tmp 32) (.tmp 33) rfl w1.heap.size (.slice (some ⟨w1.heap.size, 0, none⟩) 0 0) 0 [] (by rfl) (by exact World.ownsRow_made w1 #[] 0 (Nat.le_refl _) (Nat.zero_le _) rfl) w.heap.size a0 n cap0 l (by rfl) (by exact HR1.out.alloc hz1 _) (by omega) (by simp) ?_; intro v2 w2 ho2 hg2 hl2)
    | (at_builtin; refine wpList_append_row rfl (.tmp 34) (.tmp 35) rfl w1.heap.size v2 (0 + n) ([] ++ l.map (Value.int .u8)) (by rfl) (by exact ho2.out) w.heap.size a1 m cap1 r (by rfl) (by exact HR1'.out.below ((below_new hg2.out (Nat.le_refl _)).mono hz1)) (by omega) (by exact (below_new hg2.out (Nat.le_refl _)).size) ?_; intro v3 w3 ho3 hg3 hl3))
  have hb2 : Below w1.heap.size w1 w2 := below_new hg2.out (Nat.le_refl _)
  have hb3 : Below w1.heap.size w1 w3 := hb2.grown hg3.out hb2.size (fun k hk => by
    rcases hl2.out with h | h
    · rw [h] at hk
      exact Nat.le_of_eq (Option.some.inj (show some w1.heap.size = some k from hk))
    · rw [h] at hk
      injection hk with hk
      simp at hk
      omega)
  have o3 := ho3.out
  rw [Nat.zero_add, List.nil_append, ← List.map_append] at o3
  obtain ⟨Ao, co, rfl, rowo, hco⟩ := row_of_own o3
  have HRO := Lib.hid rowo
  have HB3 := Lib.hid (HB1.out.trans (hb3.mono hz1))
  have HYO := Lib.hid (HY.out.append HY'.out)
  have hj := joins l r
  rw [HL.out] at hj
  have HJ1 := Lib.hid hj.1
  have HJ2 := Lib.hid hj.2
  clear hb2 hb3 o3 rowo ho2 hg2 hl2 ho3 hg3 hl3 hj
  refine (sums_any Ao (n + m) co _ (l ++ r) _ HRO.out HYO.out (by unfold maxLen; omega)).mono ?_
  rintro e4 w4 ⟨rfl, rfl⟩
  rw [HJ1.out, HJ2.out]
  have hx : 0 ≤ ffst l % 255 ∧ ffst l % 255 ≤ 254 := by omega
  have hy : 0 ≤ fsnd l % 255 ∧ fsnd l % 255 ≤ 254 := by omega
  have hu : 0 ≤ ffst r % 255 ∧ ffst r % 255 ≤ 254 := by omega
  have hv : 0 ≤ fsnd r % 255 ∧ fsnd r % 255 ≤ 254 := by omega
  clear HJ1 HJ2
  generalize ffst l % 255 = x at *
  generalize fsnd l % 255 = y at *
  generalize ffst r % 255 = u at *
  generalize fsnd r % 255 = v at *
  have hp0 : 0 ≤ (m : Int) * x := Int.mul_nonneg (by omega) (by omega)
  have hp1 : (m : Int) * x ≤ 200 * 254 := Int.mul_le_mul (by omega) (by omega) (by omega) (by omega)
  go_wp2
  go_ret
  exact ⟨rfl, HB3.out⟩

theorem walk (a0 : Option Addr) (len0 cap0 : Nat) (z0 : List Int) (a1 : Option Addr) (len1 cap1 : Nat) (z1 : List Int) (w : World) (w0 : IsRow .u8 w a0 len0 cap0 z0) (w1 : IsRow .u8 w a1 len1 cap1 z1) :
    Calls Try.prog 6 #[.slice a0 len0 cap0, .slice a1 len1 cap1] w fun e w' => e = .returned (.bool true) ∧ Below w.heap.size w w' := by
  obtain ⟨l, hr, hwf, hc, hm⟩ := row_of_is w0
  obtain ⟨r, hr', hwf', hc', hm'⟩ := row_of_is w1
  by_cases hn : len0 ≤ 200 ∧ len1 ≤ 200
  · exact core a0 len0 cap0 l a1 len1 cap1 r w hr (byt_of_wf hwf) hr' (byt_of_wf hwf') hn.1 hn.2
  · clear w0 hr hwf w1 hr' hwf'
    unfold maxLen at hm hm'
    go_enter Try.func6, Try.ntmps6
    go_wp2_with fail
    refine (wakes_any _).mono ?_
    rintro e1 w1 ⟨rfl, hb1⟩
    have HB1 := Lib.hid hb1
    clear hb1
    by_cases c1 : len0 ≤ 200
    · have c2 : 200 < len1 := by omega
      clear hn
      go_wp2
      go_ret
      exact ⟨rfl, HB1.out⟩
    · clear hn
      go_wp2
      go_ret
      exact ⟨rfl, HB1.out⟩

set_option maxRecDepth 100000 in
theorem lifted (os : Os) (started : os.Started) (H : Type) (enc : TypeId × Value → H) :
    ReturnsInHanded {} Try.checked os 6 .any (Rows.fletchJoinsSpec.pre6 enc Try.prog Try.f6 Rows.fletchJoinsRow.domain false) (Rows.fletchJoinsSpec.post enc Try.prog Try.f6 false true false false) := by
  refine returnsInHanded_of_change (C := Try.checked) own started (by kernel_rfl) Try.func6
    (ChangeSpec.witness6 (enc := enc) (C := Try.checked) false ⟨#[], #[.slice none 0 0, .slice none 0 0], []⟩ 8 (by kernel_rfl) (by kernel_rfl) (by kernel_rfl) (by kernel_rfl)) ?_
  intro W base args ds gs before hval0 hW hcnd _
  have hval : ∀ (j : Nat) t v, Try.f6.params[j]? = some t → args[j]? = some v → Value.okWide Try.prog W .any base t v := hval0
  have hW' := hW
  obtain ⟨p, q, hA0, hV, rfl, hfz, hnd⟩ := hW
  have hA : DataW.TrodAll enc Try.prog W 0 (fun _ => true) true Try.f6.params.toList args.toList ds p := hA0
  rw [Try.params6] at hA hval
  obtain ⟨v0, vs0, d0, ds0, p0, q0, hargs, rfl, rfl, h0, r0⟩ := trodAll_cons hA
  obtain ⟨v1, vs1, d1, ds1, p1, q1, rfl, rfl, rfl, h1, r1⟩ := trodAll_cons r0
  obtain ⟨rfl, rfl, rfl⟩ := trodAll_nil r1
  obtain rfl : args = #[v0, v1] := by cases args; simp_all
  obtain ⟨rfl, rfl⟩ := trodVars_none hV
  obtain ⟨a0, len0, cap0, rfl⟩ := okWide_slice Try.underlying22 (hval 0 22 v0 rfl rfl)
  have k0 := h0
  have lt0 : ∀ x ∈ p0, x.block < W.heap.size := by obtain ⟨m, hm⟩ := k0; exact DataW.trod_lt m _ _ _ hm
  obtain ⟨z0, w0⟩ : ∃ zs, IsRow .u8 W a0 len0 cap0 zs := by
    obtain ⟨fuel, hf⟩ := h0
    rcases open_ints Try.underlying22 Try.underlying5 (by kernel_rfl) hf with ⟨hcs, _⟩ | ⟨x, l, c, zs, hcs, _, hl, hm, hz, _, hcell, hwz⟩
    · simp [Value.cells] at hcs
      obtain ⟨rfl, rfl, rfl⟩ := hcs
      exact ⟨[], .inl ⟨rfl, rfl, rfl, rfl⟩⟩
    · simp [Value.cells] at hcs
      obtain ⟨rfl, rfl, rfl⟩ := hcs
      exact ⟨zs, .inr ⟨_, rfl, hl, hm, by simpa using hz, hcell, hwz⟩⟩
  obtain ⟨a1, len1, cap1, rfl⟩ := okWide_slice Try.underlying22 (hval 1 22 v1 rfl rfl)
  have k1 := h1
  have lt1 : ∀ x ∈ p1, x.block < W.heap.size := by obtain ⟨m, hm⟩ := k1; exact DataW.trod_lt m _ _ _ hm
  obtain ⟨z1, w1⟩ : ∃ zs, IsRow .u8 W a1 len1 cap1 zs := by
    obtain ⟨fuel, hf⟩ := h1
    rcases open_ints Try.underlying22 Try.underlying5 (by kernel_rfl) hf with ⟨hcs, _⟩ | ⟨x, l, c, zs, hcs, _, hl, hm, hz, _, hcell, hwz⟩
    · simp [Value.cells] at hcs
      obtain ⟨rfl, rfl, rfl⟩ := hcs
      exact ⟨[], .inl ⟨rfl, rfl, rfl, rfl⟩⟩
    · simp [Value.cells] at hcs
      obtain ⟨rfl, rfl, rfl⟩ := hcs
      exact ⟨zs, .inr ⟨_, rfl, hl, hm, by simpa using hz, hcell, hwz⟩⟩
  clear hA0 hval0
  refine (walk a0 len0 cap0 z0 a1 len1 cap1 z1 W w0 w1).mono fun e W' ⟨he, bel⟩ => ?_
  subst he
  exact ⟨_, rfl, _, _, _, [], _, [], hW', trodAll_mk1 (shut_bool Try.underlying4 _), (trodAll_cons_mk (Below.trod laidOut (by kernel_rfl) (of_decide_eq_true (by kernel_rfl)) k0 bel lt0) (trodAll_cons_mk (Below.trod laidOut (by kernel_rfl) (of_decide_eq_true (by kernel_rfl)) k1 bel lt1) trodAll_mk0)), rfl, bel.frame _, fun h => by cases h⟩

theorem over : Rows.fletchJoinsRow.holds Try.pinned (OpenSpec.ofChange Rows.fletchJoinsSpec) :=
  OpenClaim.holds_of_wide 6 Try.f6 rfl rfl rfl rfl rfl rfl rfl ⟨rfl, rfl, rfl, rfl, rfl⟩ rfl rfl rfl rfl rfl (by kernel_rfl) Try.func6 (by kernel_rfl)
    (of_decide_eq_true (by kernel_rfl)) (by unfold Func.isWrapper; first | (rw [if_pos (by decide +kernel)]; kernel_rfl) | (rw [if_neg (by decide +kernel)]; exact ⟨rfl, rfl⟩))
    (fun os started H enc _ => lifted os started H enc)

/-- The statement. -/
theorem proved : Rows.FletchJoinsSaid := over
end Go.Proofs.Ytgdlkomnjgmndaa.fletchJoins
