/- The walk of the statement IfaceSteps. Conditions: state and event of 64 bits. -/
import Derived.Test.YtedlkoecnnmihaaIo
namespace Go.Proofs.Ytedlkoecnnmihaa
open Go.RowKit
set_option maxRecDepth 8000 in
set_option maxHeartbeats 8000000 in
theorem steps_walk {n c : Nat} {A : Option Addr} (i : If) (e : Int) (L : List Cd) (w : World) (hL : Cds w w.heap.size A n L) (hst : wf64 i.state) (he : wf64 e) : Calls Try.prog 3 #[.agg #[.int .i64 i.self, .int .i64 i.prio, .int .i64 i.state, .int .i64 i.dr, .int .i64 i.bdr], .int .i64 e, .slice A n c] w fun e w' => e = .returned (.bool true) ∧ Below w.heap.size w w' := by
  have HS := Lib.hid hst
  have HE := Lib.hid he
  clear hst he
  have B0 := Lib.hid ((Below.refl w.heap.size w).alloc (Nat.le_refl _) (.cells #[.int .i64 i.self, .int .i64 i.prio, .int .i64 i.state, .int .i64 i.dr, .int .i64 i.bdr] 23))
  have K0 := Lib.hid (Blk.new w 23 #[.int .i64 i.self, .int .i64 i.prio, .int .i64 i.state, .int .i64 i.dr, .int .i64 i.bdr])
  have P0 := Lib.hid (hL.below B0.out)
  go_enter Try.func3, Try.ntmps3
  go_wp2_with fail
  generalize w.alloc (.cells #[.int .i64 i.self, .int .i64 i.prio, .int .i64 i.state, .int .i64 i.dr, .int .i64 i.bdr] 23) = w0 at *
  generalize hp : w.heap.size = p at *
  have hk0 := K0.out.lt
  refine (wakes_any _).mono ?_
  rintro e1 w1 ⟨rfl, hb1⟩
  have K1 := Lib.hid (K0.out.below hb1 hk0)
  have B1 := Lib.hid (B0.out.trans (hb1.mono (by omega)))
  have P1 := Lib.hid (hL.below B1.out)
  have hk1 := K1.out.lt
  clear hb1 K0 B0 P0 hk0 hL
  obtain ⟨k0, k1, k2, k3, k4⟩ := K1.out.five
  by_cases h0 : 20 < n
  · have h0' : (20 : Int) < n := by omega
    have d0 : decide ((20 : Int) < n) = true := by simp; omega
    go_wp2
    go_ret
    exact ⟨rfl, hp ▸ B1.out⟩
  · have hn : n ≤ 20 := by omega
    have h0' : (n : Int) ≤ 20 := by omega
    have d0 : decide ((20 : Int) < n) = false := by simp; omega
    clear h0
    go_wp2_with fail
    refine (apartL_any i P1.out (by omega) (by omega)).mono ?_
    rintro e2 w2 ⟨⟨b, rfl, hb⟩, hb2⟩
    have K2 := Lib.hid (K1.out.below hb2 hk1)
    have B2 := Lib.hid (B1.out.trans (hb2.mono (by omega)))
    have P2 := Lib.hid (P1.out.below (hb2.mono (by omega)))
    have hk2 := K2.out.lt
    clear hb2 K1 B1 P1 hk1 k0 k1 k2 k3 k4 d0
    obtain ⟨k0, k1, k2, k3, k4⟩ := K2.out.five
    cases b with
    | false =>
      go_wp2
      go_ret
      exact ⟨rfl, hp ▸ B2.out⟩
    | true =>
      have HA := Lib.hid (hb.1 rfl)
      clear hb
      obtain ⟨x, hx⟩ : ∃ x, x = stepI i e L := ⟨_, rfl⟩
      have HX := Lib.hid hx
      clear hx
      go_wp2_with fail
      refine (step_any i e P2.out (by omega) (by omega) HA.out HS.out HE.out).mono ?_
      rw [← HX.out]
      rintro e3 w3 ⟨rfl, hb3⟩
      have K3 := Lib.hid (K2.out.below hb3 hk2)
      have B3 := Lib.hid (B2.out.trans (hb3.mono (by omega)))
      have P3 := Lib.hid (P2.out.below (hb3.mono (by omega)))
      have hk3 := K3.out.lt
      have B4 := Lib.hid (B3.out.alloc (by omega) (.cells #[.int .i64 x.self, .int .i64 x.prio, .int .i64 x.state, .int .i64 x.dr, .int .i64 x.bdr] 23))
      have X4 := Lib.hid (Blk.new w3 23 #[.int .i64 x.self, .int .i64 x.prio, .int .i64 x.state, .int .i64 x.dr, .int .i64 x.bdr])
      have K4 := Lib.hid (K3.out.alloc (.cells #[.int .i64 x.self, .int .i64 x.prio, .int .i64 x.state, .int .i64 x.dr, .int .i64 x.bdr] 23))
      have P4 := Lib.hid (P3.out.below ((Below.refl w3.heap.size w3).alloc (Nat.le_refl _) (.cells #[.int .i64 x.self, .int .i64 x.prio, .int .i64 x.state, .int .i64 x.dr, .int .i64 x.bdr] 23) |>.mono (by omega)))
      clear hb3 K2 B2 P2 hk2 k0 k1 k2 k3 k4
      obtain ⟨k0, k1, k2, k3, k4⟩ := K4.out.five
      go_wp2_with fail
      generalize hz : w3.heap.size = z at *
      generalize w3.alloc (.cells #[.int .i64 x.self, .int .i64 x.prio, .int .i64 x.state, .int .i64 x.dr, .int .i64 x.bdr] 23) = w4 at *
      have hx4 := X4.out.lt
      have hk4 := K4.out.lt
      refine (rstep_any i e P4.out (by omega) (by omega) HA.out).mono ?_
      rw [← HX.out]
      rintro e5 w5 ⟨rfl, hb5⟩
      have X5 := Lib.hid (X4.out.below hb5 hx4)
      have K5 := Lib.hid (K4.out.below hb5 hk4)
      have B5 := Lib.hid (B4.out.trans (hb5.mono (by omega)))
      clear hb5 X4 B4 P4 K4 k0 k1 k2 k3 k4 HX
      go_wp2_with fail
      have hzz := X5.out.lt
      have hpz := K5.out.lt
      have X6 := Lib.hid (X5.out.alloc (.cells #[.int .i64 x.self, .int .i64 x.prio, .int .i64 x.state, .int .i64 x.dr, .int .i64 x.bdr] 23)).drew
      have K6 := Lib.hid (K5.out.alloc (.cells #[.int .i64 x.self, .int .i64 x.prio, .int .i64 x.state, .int .i64 x.dr, .int .i64 x.bdr] 23)).drew
      have Y6 := Lib.hid (Blk.new w5 23 #[.int .i64 x.self, .int .i64 x.prio, .int .i64 x.state, .int .i64 x.dr, .int .i64 x.bdr]).drew
      have B6 := Lib.hid (show Below p w (w5.alloc (.cells #[.int .i64 x.self, .int .i64 x.prio, .int .i64 x.state, .int .i64 x.dr, .int .i64 x.bdr] 23)).drew from below_drewN (B5.out.alloc (by omega) (.cells #[.int .i64 x.self, .int .i64 x.prio, .int .i64 x.state, .int .i64 x.dr, .int .i64 x.bdr] 23)) 1)
      have hEQ : ∀ W, (Op.equalIn 10000 23 (.agg #[.int .i64 x.self, .int .i64 x.prio, .int .i64 x.state, .int .i64 x.dr, .int .i64 x.bdr]) (.agg #[.int .i64 x.self, .int .i64 x.prio, .int .i64 x.state, .int .i64 x.dr, .int .i64 x.bdr])).run Try.prog W = .ok true W := fun W => by rw [equalI, sameI_self]
      have hEI := fun W => equalI x i W
      have hEC : ∀ W, (Op.equalIn 10000 31 (.agg #[.int .i64 i.self, .int .i64 i.prio, .int .i64 i.dr, .int .i64 i.bdr]) (.agg #[.int .i64 i.self, .int .i64 i.prio, .int .i64 i.dr, .int .i64 i.bdr])).run Try.prog W = .ok true W := fun W => (equalC (ownI i) (ownI i) W).trans (by rw [sameC_self])
      clear X5 K5 B5
      generalize w5.heap.size = y at *
      generalize w5.alloc (.cells #[.int .i64 x.self, .int .i64 x.prio, .int .i64 x.state, .int .i64 x.dr, .int .i64 x.bdr] 23) = w6 at *
      have hS := And.intro K6.out.five (And.intro X6.out.five Y6.out.five)

      refine wp_region_noPanic ?_
      refine wp_region_held_drew (S := fun w' => (w'.cell? ⟨p, 0, none⟩ = some (.int .i64 i.self) ∧ w'.cell? ⟨p, 1, none⟩ = some (.int .i64 i.prio) ∧ w'.cell? ⟨p, 2, none⟩ = some (.int .i64 i.state) ∧ w'.cell? ⟨p, 3, none⟩ = some (.int .i64 i.dr) ∧ w'.cell? ⟨p, 4, none⟩ = some (.int .i64 i.bdr)) ∧ (w'.cell? ⟨z, 0, none⟩ = some (.int .i64 x.self) ∧ w'.cell? ⟨z, 1, none⟩ = some (.int .i64 x.prio) ∧ w'.cell? ⟨z, 2, none⟩ = some (.int .i64 x.state) ∧ w'.cell? ⟨z, 3, none⟩ = some (.int .i64 x.dr) ∧ w'.cell? ⟨z, 4, none⟩ = some (.int .i64 x.bdr)) ∧ (w'.cell? ⟨y, 0, none⟩ = some (.int .i64 x.self) ∧ w'.cell? ⟨y, 1, none⟩ = some (.int .i64 x.prio) ∧ w'.cell? ⟨y, 2, none⟩ = some (.int .i64 x.state) ∧ w'.cell? ⟨y, 3, none⟩ = some (.int .i64 x.dr) ∧ w'.cell? ⟨y, 4, none⟩ = some (.int .i64 x.bdr))) (by kernel_rfl) hS (fun hHeld => ?_)

      change wpAnyH _ _ _ _ _ _ _ _ w6.drew
      generalize w6.drew = w7 at *
      clear hS
      have hk6 := K6.out.lt
      have hx6 := X6.out.lt
      have hy6 := Y6.out.lt

      refine wpAnyH_take (i := 0) (oi := { dst := Option.some 32, op := Go.Op.load 23 (Go.Operand.tmp 7), type := 23, pos := "law.go:32", after := #[], guard := Option.none }) (v := ?_) rfl (by kernel_rfl) (by kernel_rfl) (by kernel_rfl) (fun _ _ _ h => h) (Or.inl ⟨by rfl, ?_⟩) hHeld ?_
      rotate_left 1
      · intro ww hSw
        try dsimp only at hSw
        go_simp
        try with_reducible rfl
      try simp only [Act.put, List.setIfInBounds_toArray, List.set_cons_zero, List.set_cons_succ]
      refine wpAnyH_take (i := 1) (oi := { dst := Option.some 33, op := Go.Op.load 23 (Go.Operand.tmp 9), type := 23, pos := "law.go:32", after := #[], guard := Option.none }) (v := ?_) rfl (by kernel_rfl) (by kernel_rfl) (by kernel_rfl) (fun _ _ _ h => h) (Or.inl ⟨by rfl, ?_⟩) hHeld ?_
      rotate_left 1
      · intro ww hSw
        try dsimp only at hSw
        go_simp
        try with_reducible rfl
      try simp only [Act.put, List.setIfInBounds_toArray, List.set_cons_zero, List.set_cons_succ]
      refine wpAnyH_take (i := 2) (oi := { dst := Option.some 34, op := Go.Op.binOp Go.BinOp.eql 23 (Go.Operand.tmp 32) (Go.Operand.tmp 33) 23, type := 4, pos := "law.go:32", after := #[{ on := 0, ground := Go.Ground.data }, { on := 1, ground := Go.Ground.data }], guard := Option.none }) (v := ?_) rfl (by kernel_rfl) (by kernel_rfl) (by kernel_rfl) (fun _ _ _ h => h) (Or.inl ⟨by rfl, ?_⟩) hHeld ?_
      rotate_left 1
      · intro ww hSw
        try dsimp only at hSw
        go_simp
        try with_reducible rfl
      try simp only [Act.put, List.setIfInBounds_toArray, List.set_cons_zero, List.set_cons_succ]
      refine wpAnyH_take (i := 3) (oi := { dst := Option.some 35, op := Go.Op.move (Go.Operand.tmp 34), type := 4, pos := "law.go:32", after := #[{ on := 2, ground := Go.Ground.data }], guard := Option.none }) (v := ?_) rfl (by kernel_rfl) (by kernel_rfl) (by kernel_rfl) (fun _ _ _ h => h) (Or.inl ⟨by rfl, ?_⟩) hHeld ?_
      rotate_left 1
      · intro ww hSw
        try dsimp only at hSw
        go_simp
        try with_reducible rfl
      try simp only [Act.put, List.setIfInBounds_toArray, List.set_cons_zero, List.set_cons_succ]
      refine wpAnyH_take (i := 4) (oi := { dst := Option.some 36, op := Go.Op.move (Go.Operand.tmp 8), type := 4, pos := "law.go:32", after := #[{ on := 3, ground := Go.Ground.guard }], guard := Option.some (3, Bool.true) }) (v := ?_) rfl (by kernel_rfl) (by kernel_rfl) (by kernel_rfl) (fun _ _ _ h => h) (Or.inl ⟨by rfl, ?_⟩) hHeld ?_
      rotate_left 1
      · intro ww hSw
        try dsimp only at hSw
        go_simp
        try with_reducible rfl
      try simp only [Act.put, List.setIfInBounds_toArray, List.set_cons_zero, List.set_cons_succ]
      refine wpAnyH_take (i := 5) (oi := { dst := Option.some 37, op := Go.Op.load 23 (Go.Operand.tmp 9), type := 23, pos := "law.go:32", after := #[{ on := 3, ground := Go.Ground.guard }], guard := Option.some (3, Bool.true) }) (v := ?_) rfl (by kernel_rfl) (by kernel_rfl) (by kernel_rfl) (fun _ _ _ h => h) (Or.inl ⟨by rfl, ?_⟩) hHeld ?_
      rotate_left 1
      · intro ww hSw
        try dsimp only at hSw
        go_simp
        try with_reducible rfl
      try simp only [Act.put, List.setIfInBounds_toArray, List.set_cons_zero, List.set_cons_succ]
      refine wpAnyH_take (i := 6) (oi := { dst := Option.some 38, op := Go.Op.load 23 (Go.Operand.tmp 3), type := 23, pos := "law.go:32", after := #[{ on := 3, ground := Go.Ground.guard }], guard := Option.some (3, Bool.true) }) (v := ?_) rfl (by kernel_rfl) (by kernel_rfl) (by kernel_rfl) (fun _ _ _ h => h) (Or.inl ⟨by rfl, ?_⟩) hHeld ?_
      rotate_left 1
      · intro ww hSw
        try dsimp only at hSw
        go_simp
        try with_reducible rfl
      try simp only [Act.put, List.setIfInBounds_toArray, List.set_cons_zero, List.set_cons_succ]
      refine wpAnyH_take (i := 7) (oi := { dst := Option.some 39, op := Go.Op.binOp Go.BinOp.neq 23 (Go.Operand.tmp 37) (Go.Operand.tmp 38) 23, type := 4, pos := "law.go:32", after := #[{ on := 5, ground := Go.Ground.data }, { on := 6, ground := Go.Ground.data }, { on := 3, ground := Go.Ground.guard }], guard := Option.some (3, Bool.true) }) (v := ?_) rfl (by kernel_rfl) (by kernel_rfl) (by kernel_rfl) (fun _ _ _ h => h) (Or.inl ⟨by rfl, ?_⟩) hHeld ?_
      rotate_left 1
      · intro ww hSw
        try dsimp only at hSw
        go_simp
        try with_reducible rfl
      try simp only [Act.put, List.setIfInBounds_toArray, List.set_cons_zero, List.set_cons_succ]
      refine wpAnyH_take (i := 8) (oi := { dst := Option.some 40, op := Go.Op.binOp Go.BinOp.eql 4 (Go.Operand.tmp 36) (Go.Operand.tmp 39) 4, type := 4, pos := "law.go:32", after := #[{ on := 4, ground := Go.Ground.data }, { on := 7, ground := Go.Ground.data }, { on := 3, ground := Go.Ground.guard }], guard := Option.some (3, Bool.true) }) (v := ?_) rfl (by kernel_rfl) (by kernel_rfl) (by kernel_rfl) (fun _ _ _ h => h) (Or.inl ⟨by rfl, ?_⟩) hHeld ?_
      rotate_left 1
      · intro ww hSw
        try dsimp only at hSw
        go_simp
        try with_reducible rfl
      try simp only [Act.put, List.setIfInBounds_toArray, List.set_cons_zero, List.set_cons_succ]
      refine wpAnyH_take (i := 9) (oi := { dst := Option.some 41, op := Go.Op.pick (Go.Operand.tmp 35) (Go.Operand.tmp 40) (Go.Operand.const (Go.Value.bool Bool.false)), type := 4, pos := "law.go:32", after := #[{ on := 3, ground := Go.Ground.data }, { on := 8, ground := Go.Ground.data }], guard := Option.none }) (v := ?_) rfl (by kernel_rfl) (by kernel_rfl) (by kernel_rfl) (fun _ _ _ h => h) (Or.inl ⟨by rfl, ?_⟩) hHeld ?_
      rotate_left 1
      · intro ww hSw
        try dsimp only at hSw
        go_simp
        try with_reducible rfl
      try simp only [Act.put, List.setIfInBounds_toArray, List.set_cons_zero, List.set_cons_succ]
      refine wpAnyH_take (i := 10) (oi := { dst := Option.some 42, op := Go.Op.move (Go.Operand.tmp 41), type := 4, pos := "law.go:32", after := #[{ on := 9, ground := Go.Ground.data }, { on := 3, ground := Go.Ground.chain }], guard := Option.none }) (v := ?_) rfl (by kernel_rfl) (by kernel_rfl) (by kernel_rfl) (fun _ _ _ h => h) (Or.inl ⟨by rfl, ?_⟩) hHeld ?_
      rotate_left 1
      · intro ww hSw
        try dsimp only at hSw
        go_simp
        try with_reducible rfl
      try simp only [Act.put, List.setIfInBounds_toArray, List.set_cons_zero, List.set_cons_succ]
      refine wpAnyH_take (i := 11) (oi := { dst := Option.some 43, op := Go.Op.load 23 (Go.Operand.tmp 3), type := 23, pos := "law.go:32", after := #[{ on := 10, ground := Go.Ground.guard }], guard := Option.some (10, Bool.true) }) (v := ?_) rfl (by kernel_rfl) (by kernel_rfl) (by kernel_rfl) (fun _ _ _ h => h) (Or.inl ⟨by rfl, ?_⟩) hHeld ?_
      rotate_left 1
      · intro ww hSw
        try dsimp only at hSw
        go_simp
        try with_reducible rfl
      try simp only [Act.put, List.setIfInBounds_toArray, List.set_cons_zero, List.set_cons_succ]
      refine wpAnyH_take (i := 13) (oi := { dst := Option.some 45, op := Go.Op.fieldAddr 23 (Go.Operand.tmp 3) 0, type := 0, pos := "law.go:32", after := #[{ on := 10, ground := Go.Ground.guard }], guard := Option.some (10, Bool.true) }) (v := ?_) rfl (by kernel_rfl) (by kernel_rfl) (by kernel_rfl) (fun _ _ _ h => h) (Or.inl ⟨by rfl, ?_⟩) hHeld ?_
      rotate_left 1
      · intro ww hSw
        try dsimp only at hSw
        go_simp
        try with_reducible rfl
      try simp only [Act.put, List.setIfInBounds_toArray, List.set_cons_zero, List.set_cons_succ]
      refine wpAnyH_take (i := 14) (oi := { dst := Option.some 46, op := Go.Op.load 3 (Go.Operand.tmp 45), type := 3, pos := "law.go:32", after := #[{ on := 13, ground := Go.Ground.data }, { on := 10, ground := Go.Ground.guard }], guard := Option.some (10, Bool.true) }) (v := ?_) rfl (by kernel_rfl) (by kernel_rfl) (by kernel_rfl) (fun _ _ _ h => h) (Or.inl ⟨by rfl, ?_⟩) hHeld ?_
      rotate_left 1
      · intro ww hSw
        try dsimp only at hSw
        go_simp
        try with_reducible rfl
      try simp only [Act.put, List.setIfInBounds_toArray, List.set_cons_zero, List.set_cons_succ]
      refine wpAnyH_take (i := 15) (oi := { dst := Option.some 47, op := Go.Op.fieldAddr 23 (Go.Operand.tmp 3) 1, type := 0, pos := "law.go:32", after := #[{ on := 10, ground := Go.Ground.guard }], guard := Option.some (10, Bool.true) }) (v := ?_) rfl (by kernel_rfl) (by kernel_rfl) (by kernel_rfl) (fun _ _ _ h => h) (Or.inl ⟨by rfl, ?_⟩) hHeld ?_
      rotate_left 1
      · intro ww hSw
        try dsimp only at hSw
        go_simp
        try with_reducible rfl
      try simp only [Act.put, List.setIfInBounds_toArray, List.set_cons_zero, List.set_cons_succ]
      refine wpAnyH_take (i := 16) (oi := { dst := Option.some 48, op := Go.Op.load 3 (Go.Operand.tmp 47), type := 3, pos := "law.go:32", after := #[{ on := 15, ground := Go.Ground.data }, { on := 10, ground := Go.Ground.guard }], guard := Option.some (10, Bool.true) }) (v := ?_) rfl (by kernel_rfl) (by kernel_rfl) (by kernel_rfl) (fun _ _ _ h => h) (Or.inl ⟨by rfl, ?_⟩) hHeld ?_
      rotate_left 1
      · intro ww hSw
        try dsimp only at hSw
        go_simp
        try with_reducible rfl
      try simp only [Act.put, List.setIfInBounds_toArray, List.set_cons_zero, List.set_cons_succ]
      refine wpAnyH_take (i := 17) (oi := { dst := Option.some 49, op := Go.Op.fieldAddr 23 (Go.Operand.tmp 3) 3, type := 0, pos := "law.go:32", after := #[{ on := 10, ground := Go.Ground.guard }], guard := Option.some (10, Bool.true) }) (v := ?_) rfl (by kernel_rfl) (by kernel_rfl) (by kernel_rfl) (fun _ _ _ h => h) (Or.inl ⟨by rfl, ?_⟩) hHeld ?_
      rotate_left 1
      · intro ww hSw
        try dsimp only at hSw
        go_simp
        try with_reducible rfl
      try simp only [Act.put, List.setIfInBounds_toArray, List.set_cons_zero, List.set_cons_succ]
      refine wpAnyH_take (i := 18) (oi := { dst := Option.some 50, op := Go.Op.load 3 (Go.Operand.tmp 49), type := 3, pos := "law.go:32", after := #[{ on := 17, ground := Go.Ground.data }, { on := 10, ground := Go.Ground.guard }], guard := Option.some (10, Bool.true) }) (v := ?_) rfl (by kernel_rfl) (by kernel_rfl) (by kernel_rfl) (fun _ _ _ h => h) (Or.inl ⟨by rfl, ?_⟩) hHeld ?_
      rotate_left 1
      · intro ww hSw
        try dsimp only at hSw
        go_simp
        try with_reducible rfl
      try simp only [Act.put, List.setIfInBounds_toArray, List.set_cons_zero, List.set_cons_succ]
      refine wpAnyH_take (i := 19) (oi := { dst := Option.some 51, op := Go.Op.fieldAddr 23 (Go.Operand.tmp 3) 4, type := 0, pos := "law.go:32", after := #[{ on := 10, ground := Go.Ground.guard }], guard := Option.some (10, Bool.true) }) (v := ?_) rfl (by kernel_rfl) (by kernel_rfl) (by kernel_rfl) (fun _ _ _ h => h) (Or.inl ⟨by rfl, ?_⟩) hHeld ?_
      rotate_left 1
      · intro ww hSw
        try dsimp only at hSw
        go_simp
        try with_reducible rfl
      try simp only [Act.put, List.setIfInBounds_toArray, List.set_cons_zero, List.set_cons_succ]
      refine wpAnyH_take (i := 20) (oi := { dst := Option.some 52, op := Go.Op.load 3 (Go.Operand.tmp 51), type := 3, pos := "law.go:32", after := #[{ on := 19, ground := Go.Ground.data }, { on := 10, ground := Go.Ground.guard }], guard := Option.some (10, Bool.true) }) (v := ?_) rfl (by kernel_rfl) (by kernel_rfl) (by kernel_rfl) (fun _ _ _ h => h) (Or.inl ⟨by rfl, ?_⟩) hHeld ?_
      rotate_left 1
      · intro ww hSw
        try dsimp only at hSw
        go_simp
        try with_reducible rfl
      try simp only [Act.put, List.setIfInBounds_toArray, List.set_cons_zero, List.set_cons_succ]
      refine wpAnyH_take (i := 21) (oi := { dst := Option.some 53, op := Go.Op.build 31 #[(0, Go.Operand.tmp 46), (1, Go.Operand.tmp 48), (2, Go.Operand.tmp 50), (3, Go.Operand.tmp 52)], type := 31, pos := "law.go:32", after := #[{ on := 14, ground := Go.Ground.data }, { on := 16, ground := Go.Ground.data }, { on := 18, ground := Go.Ground.data }, { on := 20, ground := Go.Ground.data }, { on := 10, ground := Go.Ground.guard }], guard := Option.some (10, Bool.true) }) (v := ?_) rfl (by kernel_rfl) (by kernel_rfl) (by kernel_rfl) (fun _ _ _ h => h) (Or.inl ⟨by rfl, ?_⟩) hHeld ?_
      rotate_left 1
      · intro ww hSw
        try dsimp only at hSw
        go_simp
        try with_reducible rfl
      try simp only [Act.put, List.setIfInBounds_toArray, List.set_cons_zero, List.set_cons_succ]
      refine wpAnyH_ready (rs := [12]) (by kernel_rfl) (by simp) ?_
      refine AllReadyH.cons (o := { dst := Option.some 44, op := Go.Op.call { callee := Go.Callee.value (Go.Operand.func 11), args := #[Go.Operand.tmp 43], argTypes := #[23] }, type := 31, pos := "law.go:32", after := #[{ on := 11, ground := Go.Ground.data }, { on := 10, ground := Go.Ground.chain }, { on := 10, ground := Go.Ground.guard }], guard := Option.some (10, Bool.true) }) rfl (fun K hK => ?_) AllReadyH.nil
      go_simp
      refine (own_any i _).mono ?_
      rintro e8 w8 ⟨rfl, hb8⟩
      have K8 := Lib.hid (K6.out.below hb8 hk6)
      have X8 := Lib.hid (X6.out.below hb8 hx6)
      have Y8 := Lib.hid (Y6.out.below hb8 hy6)
      have B8 := Lib.hid (B6.out.trans (hb8.mono (by omega)))
      clear hb8
      refine hK.out _ _ (And.intro K8.out.five (And.intro X8.out.five Y8.out.five)) (fun hHeld => ?_)
      clear hK K
      try simp only [Act.put, List.setIfInBounds_toArray, List.set_cons_zero, List.set_cons_succ]
      refine wpAnyH_take (i := 22) (oi := { dst := Option.some 54, op := Go.Op.binOp Go.BinOp.eql 31 (Go.Operand.tmp 44) (Go.Operand.tmp 53) 31, type := 4, pos := "law.go:32", after := #[{ on := 12, ground := Go.Ground.data }, { on := 21, ground := Go.Ground.data }, { on := 10, ground := Go.Ground.guard }], guard := Option.some (10, Bool.true) }) (v := ?_) rfl (by kernel_rfl) (by kernel_rfl) (by kernel_rfl) (fun _ _ _ h => h) (Or.inl ⟨by rfl, ?_⟩) hHeld ?_
      rotate_left 1
      · intro ww hSw
        try dsimp only at hSw
        go_simp
        try with_reducible rfl
      try simp only [Act.put, List.setIfInBounds_toArray, List.set_cons_zero, List.set_cons_succ]
      refine wpAnyH_take (i := 23) (oi := { dst := Option.some 55, op := Go.Op.pick (Go.Operand.tmp 42) (Go.Operand.tmp 54) (Go.Operand.const (Go.Value.bool Bool.false)), type := 4, pos := "law.go:32", after := #[{ on := 10, ground := Go.Ground.data }, { on := 22, ground := Go.Ground.data }], guard := Option.none }) (v := ?_) rfl (by kernel_rfl) (by kernel_rfl) (by kernel_rfl) (fun _ _ _ h => h) (Or.inl ⟨by rfl, ?_⟩) hHeld ?_
      rotate_left 1
      · intro ww hSw
        try dsimp only at hSw
        go_simp
        try with_reducible rfl
      try simp only [Act.put, List.setIfInBounds_toArray, List.set_cons_zero, List.set_cons_succ]
      refine wpAnyH_take (i := 24) (oi := { dst := Option.some 6, op := Go.Op.assign (Go.Operand.tmp 55), type := 4, pos := "law.go:32", after := #[{ on := 23, ground := Go.Ground.data }, { on := 12, ground := Go.Ground.chain }, { on := 0, ground := Go.Ground.phase }, { on := 1, ground := Go.Ground.phase }, { on := 2, ground := Go.Ground.phase }, { on := 3, ground := Go.Ground.phase }, { on := 4, ground := Go.Ground.phase }, { on := 5, ground := Go.Ground.phase }, { on := 6, ground := Go.Ground.phase }, { on := 7, ground := Go.Ground.phase }, { on := 8, ground := Go.Ground.phase }, { on := 9, ground := Go.Ground.phase }, { on := 10, ground := Go.Ground.phase }, { on := 11, ground := Go.Ground.phase }, { on := 12, ground := Go.Ground.phase }, { on := 13, ground := Go.Ground.phase }, { on := 14, ground := Go.Ground.phase }, { on := 15, ground := Go.Ground.phase }, { on := 16, ground := Go.Ground.phase }, { on := 17, ground := Go.Ground.phase }, { on := 18, ground := Go.Ground.phase }, { on := 19, ground := Go.Ground.phase }, { on := 20, ground := Go.Ground.phase }, { on := 21, ground := Go.Ground.phase }, { on := 22, ground := Go.Ground.phase }, { on := 23, ground := Go.Ground.phase }], guard := Option.none }) (v := ?_) rfl (by kernel_rfl) (by kernel_rfl) (by kernel_rfl) (fun _ _ _ h => h) (Or.inl ⟨by rfl, ?_⟩) hHeld ?_
      rotate_left 1
      · intro ww hSw
        try dsimp only at hSw
        go_simp
        try with_reducible rfl
      try simp only [Act.put, List.setIfInBounds_toArray, List.set_cons_zero, List.set_cons_succ]
      refine wpAnyH_done (by kernel_rfl) ?_ _
      refine NoPanic.normal ?_

      clear hHeld
      go_wp2
      go_ret
      exact ⟨rfl, hp ▸ B8.out⟩
end Go.Proofs.Ytedlkoecnnmihaa