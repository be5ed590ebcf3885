/- The program's Sees; the example. Conditions: none but what stands ahead of each. -/
import Derived.Test.YtedlkoecnnmihaaIl
namespace Go.Proofs.Ytedlkoecnnmihaa
open Go.RowKit
def seesB (i : If) (c : Cd) : Bool := i.state == 1 && ((c.bdr != 0 && c.bdr == c.id) || ((c.dr != 0 && c.dr == c.id) && c.bdr == 0))

set_option maxRecDepth 8000 in
set_option maxHeartbeats 4000000 in
theorem sees_any (i : If) (c : Cd) (w : World) : Calls Try.prog 12 #[.agg #[.int .i64 i.self, .int .i64 i.prio, .int .i64 i.state, .int .i64 i.dr, .int .i64 i.bdr], .agg #[.int .i64 c.id, .int .i64 c.prio, .int .i64 c.dr, .int .i64 c.bdr]] w fun e w' => e = .returned (.bool (seesB i c)) ∧ Below w.heap.size w w' := by
  generalize hv : seesB i c = v
  have HV := Lib.hid hv
  clear hv
  have B0 := Lib.hid (below_new2 w (.cells #[.int .i64 i.self, .int .i64 i.prio, .int .i64 i.state, .int .i64 i.dr, .int .i64 i.bdr] 23) (.cells #[.int .i64 c.id, .int .i64 c.prio, .int .i64 c.dr, .int .i64 c.bdr] 31))
  have K0 := Lib.hid (blk_new07 w #[.int .i64 i.self, .int .i64 i.prio, .int .i64 i.state, .int .i64 i.dr, .int .i64 i.bdr] 23 (.cells #[.int .i64 c.id, .int .i64 c.prio, .int .i64 c.dr, .int .i64 c.bdr] 31))
  have R0 := Lib.hid (blk_new1 w (.cells #[.int .i64 i.self, .int .i64 i.prio, .int .i64 i.state, .int .i64 i.dr, .int .i64 i.bdr] 23) 31 #[.int .i64 c.id, .int .i64 c.prio, .int .i64 c.dr, .int .i64 c.bdr])
  go_enter Try.func12, Try.ntmps12
  go_upto_region 1 with fail
  generalize (w.alloc (.cells #[.int .i64 i.self, .int .i64 i.prio, .int .i64 i.state, .int .i64 i.dr, .int .i64 i.bdr] 23)).alloc (.cells #[.int .i64 c.id, .int .i64 c.prio, .int .i64 c.dr, .int .i64 c.bdr] 31) = w0 at *
  generalize hr : w.heap.size + 1 = r at *
  generalize hp : w.heap.size = p at *
  have hk0 := K0.out.lt
  have hr0 := R0.out.lt

  by_cases h1 : i.state = 1

  · have d1 : (i.state == 1) = true := by simp [h1]

    by_cases h2 : (c.bdr != 0 && c.bdr == c.id) = true

    · have HC := Lib.hid (show true = v by rw [← HV.out]; unfold seesB; rw [d1, h2]; rfl)
      clear h1
      obtain ⟨k0, k1, k2, k3, k4⟩ := K0.out.five
      obtain ⟨r0, r1, r2, r3⟩ := R0.out.four
      go_wp2_with fail
      refine (names_any c.bdr c.id _).mono ?_
      rintro e1 w1 ⟨rfl, hb1⟩
      clear k0 k1 k2 k3 k4 r0 r1 r2 r3
      have K1 := Lib.hid (K0.out.below hb1 hk0)
      have R1 := Lib.hid (R0.out.below hb1 hr0)
      have B1 := Lib.hid (B0.out.trans (hb1.mono (by omega)))
      have hk1 := K1.out.lt
      have hr1 := R1.out.lt
      clear hb1 K0 R0 B0 hk0 hr0
      rw [h2]
      clear h2
      obtain ⟨k0, k1, k2, k3, k4⟩ := K1.out.five
      obtain ⟨r0, r1, r2, r3⟩ := R1.out.four
      go_wp2_with fail
      go_ret
      exact ⟨ret_bool HC.out, hp ▸ B1.out⟩

    · rw [Bool.not_eq_true] at h2
      by_cases h3 : (c.dr != 0 && c.dr == c.id) = true

      · by_cases h4 : c.bdr = 0

        · have d4 : (c.bdr == 0) = true := by simp [h4]
          have HC := Lib.hid (show true = v by rw [← HV.out]; unfold seesB; rw [d1, h2, h3, d4]; rfl)
          clear h1 h4
          obtain ⟨k0, k1, k2, k3, k4⟩ := K0.out.five
          obtain ⟨r0, r1, r2, r3⟩ := R0.out.four
          go_wp2_with fail
          refine (names_any c.bdr c.id _).mono ?_
          rintro e1 w1 ⟨rfl, hb1⟩
          clear k0 k1 k2 k3 k4 r0 r1 r2 r3
          have K1 := Lib.hid (K0.out.below hb1 hk0)
          have R1 := Lib.hid (R0.out.below hb1 hr0)
          have B1 := Lib.hid (B0.out.trans (hb1.mono (by omega)))
          have hk1 := K1.out.lt
          have hr1 := R1.out.lt
          clear hb1 K0 R0 B0 hk0 hr0
          rw [h2]
          clear h2
          obtain ⟨k0, k1, k2, k3, k4⟩ := K1.out.five
          obtain ⟨r0, r1, r2, r3⟩ := R1.out.four
          go_wp2_with fail
          refine (names_any c.dr c.id _).mono ?_
          rintro e2 w2 ⟨rfl, hb2⟩
          clear k0 k1 k2 k3 k4 r0 r1 r2 r3
          have K2 := Lib.hid (K1.out.below hb2 hk1)
          have R2 := Lib.hid (R1.out.below hb2 hr1)
          have B2 := Lib.hid (B1.out.trans (hb2.mono (by omega)))
          have hk2 := K2.out.lt
          have hr2 := R2.out.lt
          clear hb2 K1 R1 B1 hk1 hr1
          rw [h3]
          clear h3
          obtain ⟨k0, k1, k2, k3, k4⟩ := K2.out.five
          obtain ⟨r0, r1, r2, r3⟩ := R2.out.four
          go_wp2_with fail
          go_ret
          exact ⟨ret_bool HC.out, hp ▸ B2.out⟩

        · have d4 : (c.bdr == 0) = false := by simp [h4]
          have HC := Lib.hid (show false = v by rw [← HV.out]; unfold seesB; rw [d1, h2, h3, d4]; rfl)
          clear h1 h4
          obtain ⟨k0, k1, k2, k3, k4⟩ := K0.out.five
          obtain ⟨r0, r1, r2, r3⟩ := R0.out.four
          go_wp2_with fail
          refine (names_any c.bdr c.id _).mono ?_
          rintro e1 w1 ⟨rfl, hb1⟩
          clear k0 k1 k2 k3 k4 r0 r1 r2 r3
          have K1 := Lib.hid (K0.out.below hb1 hk0)
          have R1 := Lib.hid (R0.out.below hb1 hr0)
          have B1 := Lib.hid (B0.out.trans (hb1.mono (by omega)))
          have hk1 := K1.out.lt
          have hr1 := R1.out.lt
          clear hb1 K0 R0 B0 hk0 hr0
          rw [h2]
          clear h2
          obtain ⟨k0, k1, k2, k3, k4⟩ := K1.out.five
          obtain ⟨r0, r1, r2, r3⟩ := R1.out.four
          go_wp2_with fail
          refine (names_any c.dr c.id _).mono ?_
          rintro e2 w2 ⟨rfl, hb2⟩
          clear k0 k1 k2 k3 k4 r0 r1 r2 r3
          have K2 := Lib.hid (K1.out.below hb2 hk1)
          have R2 := Lib.hid (R1.out.below hb2 hr1)
          have B2 := Lib.hid (B1.out.trans (hb2.mono (by omega)))
          have hk2 := K2.out.lt
          have hr2 := R2.out.lt
          clear hb2 K1 R1 B1 hk1 hr1
          rw [h3]
          clear h3
          obtain ⟨k0, k1, k2, k3, k4⟩ := K2.out.five
          obtain ⟨r0, r1, r2, r3⟩ := R2.out.four
          go_wp2_with fail
          go_ret
          exact ⟨ret_bool HC.out, hp ▸ B2.out⟩

      · rw [Bool.not_eq_true] at h3
        have HC := Lib.hid (show false = v by rw [← HV.out]; unfold seesB; rw [d1, h2, h3]; rfl)
        clear h1
        obtain ⟨k0, k1, k2, k3, k4⟩ := K0.out.five
        obtain ⟨r0, r1, r2, r3⟩ := R0.out.four
        go_wp2_with fail
        refine (names_any c.bdr c.id _).mono ?_
        rintro e1 w1 ⟨rfl, hb1⟩
        clear k0 k1 k2 k3 k4 r0 r1 r2 r3
        have K1 := Lib.hid (K0.out.below hb1 hk0)
        have R1 := Lib.hid (R0.out.below hb1 hr0)
        have B1 := Lib.hid (B0.out.trans (hb1.mono (by omega)))
        have hk1 := K1.out.lt
        have hr1 := R1.out.lt
        clear hb1 K0 R0 B0 hk0 hr0
        rw [h2]
        clear h2
        obtain ⟨k0, k1, k2, k3, k4⟩ := K1.out.five
        obtain ⟨r0, r1, r2, r3⟩ := R1.out.four
        go_wp2_with fail
        refine (names_any c.dr c.id _).mono ?_
        rintro e2 w2 ⟨rfl, hb2⟩
        clear k0 k1 k2 k3 k4 r0 r1 r2 r3
        have K2 := Lib.hid (K1.out.below hb2 hk1)
        have R2 := Lib.hid (R1.out.below hb2 hr1)
        have B2 := Lib.hid (B1.out.trans (hb2.mono (by omega)))
        have hk2 := K2.out.lt
        have hr2 := R2.out.lt
        clear hb2 K1 R1 B1 hk1 hr1
        rw [h3]
        clear h3
        obtain ⟨k0, k1, k2, k3, k4⟩ := K2.out.five
        obtain ⟨r0, r1, r2, r3⟩ := R2.out.four
        go_wp2_with fail
        go_ret
        exact ⟨ret_bool HC.out, hp ▸ B2.out⟩

  · have d1 : (i.state == 1) = false := by simp [h1]
    have HC := Lib.hid (show false = v by rw [← HV.out]; unfold seesB; rw [d1]; rfl)
    clear h1
    obtain ⟨k0, k1, k2, k3, k4⟩ := K0.out.five
    obtain ⟨r0, r1, r2, r3⟩ := R0.out.four
    go_wp2_with fail
    go_ret
    exact ⟨ret_bool HC.out, hp ▸ B0.out⟩


theorem cds_nil (w : World) : Cds w 0 none 0 [] := ⟨rfl, fun h => absurd h (by omega)⟩
set_option maxRecDepth 8000 in
set_option maxHeartbeats 4000000 in
theorem wakes_any (w : World) : Calls Try.prog 7 #[] w fun e w' => e = .returned (.bool true) ∧ Below w.heap.size w w' := by
  have hst := Lib.hid (step_any (w := w) (c := 0) (⟨1, 0, 0, 0, 0⟩ : If) 0 (cds_nil w) (Nat.zero_le _) (by omega) (by refine ⟨by simp [ownI], fun c hc => ?_⟩; simp [ownI] at hc; subst hc; simp) (by decide) (by decide))
  have hEQ : ∀ W, (Op.equalIn 10000 23 (.agg #[.int .i64 1, .int .i64 0, .int .i64 2, .int .i64 0, .int .i64 0]) (.agg #[.int .i64 1, .int .i64 0, .int .i64 2, .int .i64 0, .int .i64 0])).run Try.prog W = .ok true W := fun W => equalI ⟨1, 0, 2, 0, 0⟩ ⟨1, 0, 2, 0, 0⟩ W
  go_enter Try.func7, Try.ntmps7
  go_wp2_with fail
  refine hst.out.mono ?_
  rw [show stepI (⟨1, 0, 0, 0, 0⟩ : If) 0 [] = ⟨1, 0, 2, 0, 0⟩ from rfl, show sameI (⟨1, 0, 2, 0, 0⟩ : If) ⟨1, 0, 0, 0, 0⟩ = false from rfl]
  rintro e1 w1 ⟨rfl, hb1⟩
  have BN := Lib.hid (hb1.alloc hb1.size (.cells #[.int .i64 1, .int .i64 0, .int .i64 2, .int .i64 0, .int .i64 0] 23))
  have NN := Lib.hid (Blk.new w1 23 #[.int .i64 1, .int .i64 0, .int .i64 2, .int .i64 0, .int .i64 0])
  obtain ⟨k0, k1, k2, k3, k4⟩ := NN.out.five
  clear hb1
  go_wp2_with fail
  go_ret
  exact ⟨rfl, BN.out⟩
end Go.Proofs.Ytedlkoecnnmihaa