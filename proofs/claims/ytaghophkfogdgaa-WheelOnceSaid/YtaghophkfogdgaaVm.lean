/- The sort's breaking of patterns under a method's value. Conditions: what the words say. -/
import Derived.Test.YtaghophkfogdgaaVe
import Derived.Deep.LoopGhost
namespace Go.Proofs.Ytaghophkfogdgaa
open Go.Shelf Go.RowKit Go.Lib Go.Sort
variable {P : Program} {ρ : Ren} {α : Type} [Inhabited α]

variable {k : Nat} {enc : α → List Value} {cf : α → α → Int} {g : Nat} {u : Value} {blk off : Nat} {d0 : Array α} {w0 : World}
set_option maxHeartbeats 8000000 in
set_option maxRecDepth 1000000 in
theorem breakM (L : SlLaysF0.n22 P ρ) (F : FamM P ρ k enc cf g u blk off d0 w0) (cap a b : Nat) (d : Array α) (W : World) (hs : d0.size = d.size) (S : SWK enc k w0 blk off d W) (h12 : 8 ≤ b - a) (hb : b ≤ d.size) (hsz : d.size < 4611686018427387904) :
    Calls P (ρ.f 22) #[.slice (some ⟨blk, off, none⟩) d.size cap, .int .i64 a, .int .i64 b, .func (.func g) #[u] #[]] W fun e w' =>
      e = .returned (.tuple #[]) ∧ ∃ d', PermIn a b d d' ∧ SWK enc k w0 blk off d' w' := by
  have mixed := L.mixed; have t0 := L.t0; have a0 := L.a0; have z0 := L.z0; have v0 := L.v0; have t3 := L.t3; have a3 := L.a3; have z3 := L.z3; have v3 := L.v3; have t4 := L.t4; have a4 := L.a4; have z4 := L.z4; have v4 := L.v4; have t5 := L.t5; have a5 := L.a5; have z5 := L.z5; have v5 := L.v5; have t9 := L.t9; have a9 := L.a9; have z9 := L.z9; have v9 := L.v9; have t22 := L.t22; have a22 := L.a22; have z22 := L.z22; have v22 := L.v22; have t25 := L.t25; have a25 := L.a25; have z25 := L.z25; have v25 := L.v25; have t39 := L.t39; have a39 := L.a39; have z39 := L.z39; have v39 := L.v39; have t53 := L.t53; have a53 := L.a53; have z53 := L.z53; have v53 := L.v53; have t55 := L.t55; have a55 := L.a55; have z55 := L.z55; have v55 := L.v55; have t66 := L.t66; have a66 := L.a66; have z66 := L.z66; have v66 := L.v66; have t76 := L.t76; have a76 := L.a76; have z76 := L.z76; have v76 := L.v76
  obtain ⟨_, _, FG⟩ := L.f22
  have e47 : ∀ args w, (callFunc (ρ.f 47) args).run P w = .ok (.enter (ρ.f 47) args) w := enters_of L.f47 (by kernel_rfl) rfl
  have e48 : ∀ args w, (callFunc (ρ.f 48) args).run P w = .ok (.enter (ρ.f 48) args) w := enters_of L.f48 (by kernel_rfl) rfl
  obtain ⟨n, hn⟩ : ∃ n, n = b - a := ⟨_, rfl⟩
  obtain ⟨M, hM⟩ : ∃ M : Nat, M = 1 <<< bitsLen n := ⟨_, rfl⟩
  have hM1 : 1 ≤ M := by rw [hM, Nat.one_shiftLeft]; exact Nat.two_pow_pos _
  have hM2 : M ≤ 2 * n := by rw [hM, Nat.one_shiftLeft]; exact two_pow_bitsLen_le (by omega)
  have HNP := Lib.hid (fun w => AnyF.nextPowerOfTwo (P := P) (ρ := ρ) { L with } n (by omega) w)
  rw [← hM] at HNP
  have HNX := Lib.hid (fun (bx X : Nat) (hX : X < 18446744073709551616) (w : World) (hc : w.cell? ⟨bx, 0, none⟩ = some (.int .u64 X)) (hf : w.frozen? ⟨bx, 0, none⟩ = false) => AnyF.xorshift_Next (P := P) (ρ := ρ) { L with } bx 0 X hX w hc hf)
  obtain ⟨aE, zE, eg, hcmp, R⟩ := F
  have S0 := Lib.hid S
  have hne : W.heap.size ≠ blk := by have := S.lt R.hblk; omega
  have hle0 : w0.heap.size ≤ W.heap.size := S.le
  clear hcmp S eg hM
  obtain ⟨n4, h4⟩ : ∃ x, x = n / 4 := ⟨_, rfl⟩
  obtain ⟨n2, h2⟩ : ∃ x, x = n4 * 2 := ⟨_, rfl⟩
  obtain ⟨y, hy⟩ : ∃ y, y = a + n2 := ⟨_, rfl⟩
  obtain ⟨x0, hx0⟩ : ∃ x, x = y - 1 := ⟨_, rfl⟩
  obtain ⟨x1, hx1⟩ : ∃ x, x = y + 1 := ⟨_, rfl⟩
  have e1 : (b : Int) - (a : Int) = (n : Int) := by omega
  have e2 : (n : Int) / 4 = (n4 : Int) := by omega
  have e3 : (n4 : Int) * 2 = (n2 : Int) := by omega
  have e4 : (a : Int) + (n2 : Int) = (y : Int) := by omega
  have e5 : (y : Int) - 1 = (x0 : Int) := by omega
  have e6 : (y : Int) + 1 = (x1 : Int) := by omega
  have f1 : IntKind.i64.wrap (n : Int) = (n : Int) := by rw [IntKind.wrap_i64]; omega
  have f2 : IntKind.i64.wrap (n4 : Int) = (n4 : Int) := by rw [IntKind.wrap_i64]; omega
  have f3 : IntKind.i64.wrap (n2 : Int) = (n2 : Int) := by rw [IntKind.wrap_i64]; omega
  have f4 : IntKind.i64.wrap (y : Int) = (y : Int) := by rw [IntKind.wrap_i64]; omega
  have f5 : IntKind.i64.wrap (x0 : Int) = (x0 : Int) := by rw [IntKind.wrap_i64]; omega
  have f6 : IntKind.i64.wrap (x1 : Int) = (x1 : Int) := by rw [IntKind.wrap_i64]; omega
  have f7 : IntKind.u64.wrap (n : Int) = (n : Int) := by simp [IntKind.wrap, IntKind.bits, IntKind.signed]; omega
  obtain ⟨M1, hM3⟩ : ∃ m, m = M - 1 := ⟨_, rfl⟩
  have e7 : (M : Int) - 1 = (M1 : Int) := by omega
  have f8 : IntKind.u64.wrap (M1 : Int) = (M1 : Int) := by simp [IntKind.wrap, IntKind.bits, IntKind.signed]; omega
  have g8 : (8 : Int) ≤ (n : Int) := by omega
  have ab : a + n ≤ b := by omega
  have ab2 : b ≤ a + n := by omega
  have b1 : a ≤ x0 := by omega
  have b2 : x0 + 2 ≤ x1 := by omega
  have b3 : x1 < b := by omega
  have bM : M1 < 2 * n := by omega
  have bn : n < 4611686018427387904 := by omega
  have bn0 : 8 ≤ n := by omega
  clear hn h4 h2 hy hx0 hx1 hM3 hM1 hM2 h12
  have HP0 := Lib.hid (permIn_refl d a b)
  go_enter FG, SlBodyF.n22_ntmps ρ
  go_wp2_with (first | (go_at_fn (ρ.f 47); refine (HNP.out _).mono ?_; rintro e w' ⟨rfl, rfl⟩))
  go_loopw [11] (fun vi wr => ∃ (x R0 : Nat) (dk : Array α), vi = .int .i64 x ∧ x0 ≤ x ∧ x ≤ x1 + 1 ∧ R0 < 18446744073709551616 ∧ dk.size = d.size ∧ wr.cell? ⟨W.heap.size, 0, none⟩ = some (.int .u64 (R0 : Int)) ∧ wr.frozen? ⟨W.heap.size, 0, none⟩ = false ∧ Hid (SWK enc k w0 blk off dk wr) ∧ Hid (PermIn a b d dk)) (fun vi _ => x1 + 1 - (intOf vi).toNat)
  case atStart => exact ⟨x0, n, d, by go_num, Nat.le_refl _, by omega, by omega, rfl, by simp, by simp, Lib.hid (S0.out.alloc _), HP0⟩
  case round =>
    clear S0 HP0
    obtain ⟨x, R0, dk, rfl, hx0, hx1, lR, hsk, cR, fR, S1, HP⟩ := hrel
    by_cases hxx : x ≤ x1
    · have hg : (x : Int) ≤ (x1 : Int) := by omega
      obtain ⟨R2, hR2⟩ : ∃ r, r = xorNextN R0 := ⟨_, rfl⟩
      have lR2 : R2 < 18446744073709551616 := by rw [hR2]; exact xorNextN_lt R0 lR
      obtain ⟨O, hO⟩ : ∃ o, o = R2 &&& M1 := ⟨_, rfl⟩
      have lO : O ≤ M1 := by rw [hO]; exact Nat.and_le_right
      have eAnd : bits .and .u64 (R2 : Int) (M1 : Int) = (O : Int) := by rw [bits_and_u64_nat _ _ lR2 (by omega), hO]
      have fO : IntKind.i64.wrap (O : Int) = (O : Int) := by rw [IntKind.wrap_i64]; omega
      have hNext := HNX.out W.heap.size R0 lR wr cR fR
      rw [← hR2] at hNext
      have S2 := Lib.hid ((S1.out.setCell_new W.heap.size 0 (.int .u64 (R2 : Int)) hle0).drewN 3)
      have cR2 : ((wr.setCell ⟨W.heap.size, 0, none⟩ (.int .u64 (R2 : Int))).drewN 3).cell? ⟨W.heap.size, 0, none⟩ = some (.int .u64 (R2 : Int)) := by
        rw [World.cell?_drewN]; exact World.cell?_setCell_same _ _ _ cR
      have fR2 : ((wr.setCell ⟨W.heap.size, 0, none⟩ (.int .u64 (R2 : Int))).drewN 3).frozen? ⟨W.heap.size, 0, none⟩ = false := by
        rw [World.frozen?_drewN]; simpa using fR
      generalize (wr.setCell ⟨W.heap.size, 0, none⟩ (.int .u64 (R2 : Int))).drewN 3 = w2 at hNext S2 cR2 fR2
      have HNext := Lib.hid hNext
      clear hNext cR fR S1 hR2 hO
      by_cases hno : n ≤ O
      · have hg2 : (n : Int) ≤ (O : Int) := by omega
        obtain ⟨O2, hO2⟩ : ∃ o, o = O - n := ⟨_, rfl⟩
        have e21 : (O : Int) - (n : Int) = (O2 : Int) := by omega
        have f21 : IntKind.i64.wrap (O2 : Int) = (O2 : Int) := by rw [IntKind.wrap_i64]; omega
        have hOn : O2 < n := by omega
        clear hO2
        go_wp2_with (go_at_fn (ρ.f 48); refine HNext.out.mono ?_; rintro e w' ⟨rfl, hw⟩; obtain rfl : w2 = w' := hw.symm)
        obtain ⟨z, hz⟩ : ∃ z, z = a + O2 := ⟨_, rfl⟩
        have e20 : (a : Int) + (O2 : Int) = (z : Int) := by omega
        have hzb : z < b := by omega
        have haz : a ≤ z := by omega
        clear hz
        have x_p : (0 : Int) ≤ (x : Int) := by omega
        have x_u : (x : Int) < (d.size : Int) := by omega
        have x_n : ((x : Int)).toNat = x := by omega
        have x_w : IntKind.i64.wrap (x : Int) = (x : Int) := by rw [IntKind.wrap_i64]; omega
        have z_p : (0 : Int) ≤ (z : Int) := by omega
        have z_u : (z : Int) < (d.size : Int) := by omega
        have z_n : ((z : Int)).toNat = z := by omega
        have z_w : IntKind.i64.wrap (z : Int) = (z : Int) := by rw [IntKind.wrap_i64]; omega
        have HPS := Lib.hid (permIn_trans d dk (swp dk x z) a b HP.out (swp_permIn dk a b x z (by omega) (by omega) haz hzb (by omega)))
        go_wp2_with fail
        have SW := Lib.hid (S2.out.swapped R x z (by omega) (by omega))
        have l1 := S2.out.ld1 R (by omega) P x (by omega)
        have l2 := S2.out.ld1 R (by omega) P z (by omega)
        have s1 := S2.out.st1 R (by omega) P x (by omega) dk[z]!
        have s2 := S2.out.st2 R (by omega) P x z (by omega) (by omega) dk[z]! dk[x]!
        have n1 : (enc dk[x]!).length = k := R.hk _
        have n2 : (enc dk[z]!).length = k := R.hk _
        generalize enc dk[x]! = cI at SW l1 s2 n1
        generalize enc dk[z]! = cJ at SW l2 s1 s2 n2
        clear S2
        go_wp2_with fail
        go_big_region_o
        clear l1 l2 s1 s2 n1 n2
        have k1 := box_kept_swap (W := w2) (blk := blk) hne cR2 fR2 (off + x * k) (off + z * k) cJ cI
        generalize (w2.drew.setCells blk (off + x * k) cJ).setCells blk (off + z * k) cI = w3 at SW k1 ⊢
        go_wp2
        refine ⟨⟨x + 1, R2, swp dk x z, by go_num, by omega, by omega, lR2, by rw [size_swp]; exact hsk, k1.1, k1.2, SW, HPS⟩, by first | (simp [intOf]; done) | (simp [intOf]; omega)⟩
      · have hg2 : ¬ (n : Int) ≤ (O : Int) := by omega
        go_wp2_with (go_at_fn (ρ.f 48); refine HNext.out.mono ?_; rintro e w' ⟨rfl, hw⟩; obtain rfl : w2 = w' := hw.symm)
        obtain ⟨z, hz⟩ : ∃ z, z = a + O := ⟨_, rfl⟩
        have e20 : (a : Int) + (O : Int) = (z : Int) := by omega
        have hzb : z < b := by omega
        have haz : a ≤ z := by omega
        clear hz
        have x_p : (0 : Int) ≤ (x : Int) := by omega
        have x_u : (x : Int) < (d.size : Int) := by omega
        have x_n : ((x : Int)).toNat = x := by omega
        have x_w : IntKind.i64.wrap (x : Int) = (x : Int) := by rw [IntKind.wrap_i64]; omega
        have z_p : (0 : Int) ≤ (z : Int) := by omega
        have z_u : (z : Int) < (d.size : Int) := by omega
        have z_n : ((z : Int)).toNat = z := by omega
        have z_w : IntKind.i64.wrap (z : Int) = (z : Int) := by rw [IntKind.wrap_i64]; omega
        have HPS := Lib.hid (permIn_trans d dk (swp dk x z) a b HP.out (swp_permIn dk a b x z (by omega) (by omega) haz hzb (by omega)))
        go_wp2_with fail
        have SW := Lib.hid (S2.out.swapped R x z (by omega) (by omega))
        have l1 := S2.out.ld1 R (by omega) P x (by omega)
        have l2 := S2.out.ld1 R (by omega) P z (by omega)
        have s1 := S2.out.st1 R (by omega) P x (by omega) dk[z]!
        have s2 := S2.out.st2 R (by omega) P x z (by omega) (by omega) dk[z]! dk[x]!
        have n1 : (enc dk[x]!).length = k := R.hk _
        have n2 : (enc dk[z]!).length = k := R.hk _
        generalize enc dk[x]! = cI at SW l1 s2 n1
        generalize enc dk[z]! = cJ at SW l2 s1 s2 n2
        clear S2
        go_wp2_with fail
        go_big_region_o
        clear l1 l2 s1 s2 n1 n2
        have k1 := box_kept_swap (W := w2) (blk := blk) hne cR2 fR2 (off + x * k) (off + z * k) cJ cI
        generalize (w2.drew.setCells blk (off + x * k) cJ).setCells blk (off + z * k) cI = w3 at SW k1 ⊢
        go_wp2
        refine ⟨⟨x + 1, R2, swp dk x z, by go_num, by omega, by omega, lR2, by rw [size_swp]; exact hsk, k1.1, k1.2, SW, HPS⟩, by first | (simp [intOf]; done) | (simp [intOf]; omega)⟩
    · have hg : ¬ (x : Int) ≤ (x1 : Int) := by omega
      go_wp2
      go_end0
      exact ⟨rfl, dk, HP.out, S1.out⟩
end Go.Proofs.Ytaghophkfogdgaa
