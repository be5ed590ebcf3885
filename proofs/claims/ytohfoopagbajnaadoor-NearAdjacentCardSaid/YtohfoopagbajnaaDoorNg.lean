/- The walk of the statement NearAdjacent. No conditions. -/
import Derived.Test.YtohfoopagbajnaaDoorNe
import Derived.Test.YtohfoopagbajnaaDoorNf
namespace Go.Proofs.YtohfoopagbajnaaDoor
open Go.RowKit Go.Deep
set_option maxRecDepth 8000 in
set_option maxHeartbeats 8000000 in
theorem adjacent_walk (i : If) (x : Int) (w : World) (hT : Tab w) : Calls Tryd.prog 5 #[.agg #[.int .i64 i.self, .int .i64 i.prio, .int .i64 i.state, .int .i64 i.dr, .int .i64 i.bdr], .int .i64 x] w fun e w' => e = .returned (.bool true) ∧ Below w.heap.size w w' := by
  have B0 := Lib.hid ((Below.refl w.heap.size w).alloc (Nat.le_refl _) (.cells #[.int .i64 i.self, .int .i64 i.prio, .int .i64 i.state, .int .i64 i.dr, .int .i64 i.bdr] 31))
  have K0 := Lib.hid (Blk.new w 31 #[.int .i64 i.self, .int .i64 i.prio, .int .i64 i.state, .int .i64 i.dr, .int .i64 i.bdr])
  have T0 := Lib.hid (hT.next B0.out)
  clear hT
  go_enter Tryd.func5, Tryd.ntmps5
  go_wp2_with fail
  generalize w.alloc (.cells #[.int .i64 i.self, .int .i64 i.prio, .int .i64 i.state, .int .i64 i.dr, .int .i64 i.bdr] 31) = w0 at *
  generalize hp : w.heap.size = p at *
  have hk0 := K0.out.lt
  refine (wakes_any T0.out).mono ?_
  rintro e1 w1 ⟨rfl, hb1⟩
  have K1 := Lib.hid (K0.out.below hb1 hk0)
  have B1 := Lib.hid (B0.out.trans (hb1.mono (by omega)))
  have hk1 := K1.out.lt
  clear hb1 K0 B0 T0 hk0
  obtain ⟨k0, k1, k2, k3, k4⟩ := K1.out.five
  go_upto_region 4 with fail
  clear k0 k1 k2 k3 k4
  have K2 := Lib.hid (K1.out.alloc (.cells #[.int .i64 i.self, .int .i64 i.prio, .int .i64 i.state, .int .i64 i.dr, .int .i64 i.bdr] 31))
  have R2 := Lib.hid (Blk.new w1 31 #[.int .i64 i.self, .int .i64 i.prio, .int .i64 i.state, .int .i64 i.dr, .int .i64 i.bdr])
  have B2 := Lib.hid (B1.out.alloc (by omega) (.cells #[.int .i64 i.self, .int .i64 i.prio, .int .i64 i.state, .int .i64 i.dr, .int .i64 i.bdr] 31))
  generalize hr : w1.heap.size = r at *
  generalize w1.alloc (.cells #[.int .i64 i.self, .int .i64 i.prio, .int .i64 i.state, .int .i64 i.dr, .int .i64 i.bdr] 31) = w2 at *
  have z0 := R2.out.frozen 0
  have c0 := R2.out.five.1
  go_upto_region 5 with fail
  have K3 := Lib.hid (K2.out.far (p := ⟨r, 0, none⟩) (show p ≠ r by omega) (.int .i64 x))
  have R3 := Lib.hid (show Blk (w2.setCell ⟨r, 0, none⟩ (.int .i64 x)) r 31 #[.int .i64 x, .int .i64 i.prio, .int .i64 i.state, .int .i64 i.dr, .int .i64 i.bdr] from R2.out.put 0 (.int .i64 x))
  have B3 := Lib.hid (B2.out.setCell (p := ⟨r, 0, none⟩) (show p ≤ r by omega) (.int .i64 x))
  generalize w2.setCell ⟨r, 0, none⟩ (.int .i64 x) = w3 at *
  clear z0 c0 K1 B1 K2 R2 B2
  have K4 := Lib.hid K3.out.drew
  have R4 := Lib.hid R3.out.drew
  have B4 := Lib.hid (show Below p w w3.drew from below_drewN B3.out 1)
  clear K3 R3 B3
  have hS := And.intro K4.out.five.1 (And.intro K4.out.five.2.1 (And.intro K4.out.five.2.2.1 (And.intro K4.out.five.2.2.2.1 (And.intro K4.out.five.2.2.2.2 R4.out.five))))

  refine wp_region_noPanic ?_
  refine wp_region_held_drew (S := fun w' => w'.cell? ⟨p, 0, none⟩ = some (.int .i64 i.self) ∧ w'.cell? ⟨p, 1, none⟩ = some (.int .i64 i.prio) ∧ w'.cell? ⟨p, 2, none⟩ = some (.int .i64 i.state) ∧ w'.cell? ⟨p, 3, none⟩ = some (.int .i64 i.dr) ∧ w'.cell? ⟨p, 4, none⟩ = some (.int .i64 i.bdr) ∧ w'.cell? ⟨r, 0, none⟩ = some (.int .i64 x) ∧ w'.cell? ⟨r, 1, none⟩ = some (.int .i64 i.prio) ∧ w'.cell? ⟨r, 2, none⟩ = some (.int .i64 i.state) ∧ w'.cell? ⟨r, 3, none⟩ = some (.int .i64 i.dr) ∧ w'.cell? ⟨r, 4, none⟩ = some (.int .i64 i.bdr)) (by kernel_rfl) hS (fun hHeld => ?_)

  change wpAnyH _ _ _ _ _ _ _ _ w3.drew
  generalize w3.drew = w4 at *
  clear hS

  refine wpAnyH_take (i := 0) (oi := { dst := Option.some 11, op := Go.Op.load 31 (Go.Operand.tmp 2), type := 31, pos := "law.go:48", after := #[], guard := Option.none }) (v := ?_) rfl (by kernel_rfl) (by kernel_rfl) (by kernel_rfl) (fun _ _ _ h => h) (Or.inl ⟨by rfl, ?_⟩) hHeld ?_
  rotate_left 1
  · intro ww hSw
    try dsimp only at hSw
    go_simp
    try with_reducible rfl
  try simp only [Act.put, List.setIfInBounds_toArray, List.set_cons_zero, List.set_cons_succ]
  refine wpAnyH_take (i := 1) (oi := { dst := Option.some 12, op := Go.Op.move (Go.Operand.tmp 1), type := 3, pos := "law.go:48", after := #[], guard := Option.none }) (v := ?_) rfl (by kernel_rfl) (by kernel_rfl) (by kernel_rfl) (fun _ _ _ h => h) (Or.inl ⟨by rfl, ?_⟩) hHeld ?_
  rotate_left 1
  · intro ww hSw
    try dsimp only at hSw
    go_simp
    try with_reducible rfl
  try simp only [Act.put, List.setIfInBounds_toArray, List.set_cons_zero, List.set_cons_succ]
  refine wpAnyH_take (i := 3) (oi := { dst := Option.some 14, op := Go.Op.load 31 (Go.Operand.tmp 2), type := 31, pos := "law.go:48", after := #[], guard := Option.none }) (v := ?_) rfl (by kernel_rfl) (by kernel_rfl) (by kernel_rfl) (fun _ _ _ h => h) (Or.inl ⟨by rfl, ?_⟩) hHeld ?_
  rotate_left 1
  · intro ww hSw
    try dsimp only at hSw
    go_simp
    try with_reducible rfl
  try simp only [Act.put, List.setIfInBounds_toArray, List.set_cons_zero, List.set_cons_succ]
  refine wpAnyH_take (i := 4) (oi := { dst := Option.some 15, op := Go.Op.move (Go.Operand.tmp 1), type := 3, pos := "law.go:48", after := #[], guard := Option.none }) (v := ?_) rfl (by kernel_rfl) (by kernel_rfl) (by kernel_rfl) (fun _ _ _ h => h) (Or.inl ⟨by rfl, ?_⟩) hHeld ?_
  rotate_left 1
  · intro ww hSw
    try dsimp only at hSw
    go_simp
    try with_reducible rfl
  try simp only [Act.put, List.setIfInBounds_toArray, List.set_cons_zero, List.set_cons_succ]
  refine wpAnyH_ready (rs := [2]) (by kernel_rfl) (by simp) ?_
  refine AllReadyH.cons (o := { dst := Option.some 13, op := Go.Op.call { callee := Go.Callee.value (Go.Operand.func 11), args := #[Go.Operand.tmp 11, Go.Operand.tmp 12], argTypes := #[31, 3] }, type := 4, pos := "law.go:48", after := #[{ on := 0, ground := Go.Ground.data }, { on := 1, ground := Go.Ground.data }], guard := Option.none }) rfl (fun K hK => ?_) AllReadyH.nil
  go_simp
  refine (adj_any i x _).mono ?_
  rintro ea wa ⟨rfl, hba⟩
  have K5 := Lib.hid (K4.out.below hba K4.out.lt)
  have R5 := Lib.hid (R4.out.below hba R4.out.lt)
  have B5 := Lib.hid (B4.out.trans (hba.mono (by have := K4.out.lt; omega)))
  clear hba K4 R4 B4
  refine hK.out _ _ (And.intro K5.out.five.1 (And.intro K5.out.five.2.1 (And.intro K5.out.five.2.2.1 (And.intro K5.out.five.2.2.2.1 (And.intro K5.out.five.2.2.2.2 R5.out.five))))) (fun hHeld => ?_)
  clear hK K
  try simp only [Act.put, List.setIfInBounds_toArray, List.set_cons_zero, List.set_cons_succ]
  refine wpAnyH_ready (rs := [5]) (by kernel_rfl) (by simp) ?_
  refine AllReadyH.cons (o := { dst := Option.some 16, op := Go.Op.call { callee := Go.Callee.value (Go.Operand.func 12), args := #[Go.Operand.tmp 14, Go.Operand.tmp 15], argTypes := #[31, 3] }, type := 4, pos := "law.go:48", after := #[{ on := 3, ground := Go.Ground.data }, { on := 4, ground := Go.Ground.data }, { on := 2, ground := Go.Ground.chain }], guard := Option.none }) rfl (fun K hK => ?_) AllReadyH.nil
  go_simp
  refine (radj_any i x _).mono ?_
  rintro ea wa ⟨rfl, hba⟩
  have K6 := Lib.hid (K5.out.below hba K5.out.lt)
  have R6 := Lib.hid (R5.out.below hba R5.out.lt)
  have B6 := Lib.hid (B5.out.trans (hba.mono (by have := K5.out.lt; omega)))
  clear hba K5 R5 B5
  refine hK.out _ _ (And.intro K6.out.five.1 (And.intro K6.out.five.2.1 (And.intro K6.out.five.2.2.1 (And.intro K6.out.five.2.2.2.1 (And.intro K6.out.five.2.2.2.2 R6.out.five))))) (fun hHeld => ?_)
  clear hK K
  try simp only [Act.put, List.setIfInBounds_toArray, List.set_cons_zero, List.set_cons_succ]
  refine wpAnyH_take (i := 6) (oi := { dst := Option.some 17, op := Go.Op.binOp Go.BinOp.eql 4 (Go.Operand.tmp 13) (Go.Operand.tmp 16) 4, type := 4, pos := "law.go:48", after := #[{ on := 2, ground := Go.Ground.data }, { on := 5, ground := Go.Ground.data }], guard := Option.none }) (v := ?_) rfl (by kernel_rfl) (by kernel_rfl) (by kernel_rfl) (fun _ _ _ h => h) (Or.inl ⟨by rfl, ?_⟩) hHeld ?_
  rotate_left 1
  · intro ww hSw
    try dsimp only at hSw
    go_simp
    try with_reducible rfl
  try simp only [Act.put, List.setIfInBounds_toArray, List.set_cons_zero, List.set_cons_succ]
  refine wpAnyH_take (i := 7) (oi := { dst := Option.some 18, op := Go.Op.move (Go.Operand.tmp 17), type := 4, pos := "law.go:48", after := #[{ on := 6, ground := Go.Ground.data }, { on := 5, ground := Go.Ground.chain }], guard := Option.none }) (v := ?_) rfl (by kernel_rfl) (by kernel_rfl) (by kernel_rfl) (fun _ _ _ h => h) (Or.inl ⟨by rfl, ?_⟩) hHeld ?_
  rotate_left 1
  · intro ww hSw
    try dsimp only at hSw
    go_simp
    try with_reducible rfl
  try simp only [Act.put, List.setIfInBounds_toArray, List.set_cons_zero, List.set_cons_succ]
  refine wpAnyH_take (i := 8) (oi := { dst := Option.some 19, op := Go.Op.load 31 (Go.Operand.tmp 5), type := 31, pos := "law.go:48", after := #[{ on := 7, ground := Go.Ground.guard }], guard := Option.some (7, Bool.true) }) (v := ?_) rfl (by kernel_rfl) (by kernel_rfl) (by kernel_rfl) (fun _ _ _ h => h) (Or.inl ⟨by rfl, ?_⟩) hHeld ?_
  rotate_left 1
  · intro ww hSw
    try dsimp only at hSw
    go_simp
    try with_reducible rfl
  try simp only [Act.put, List.setIfInBounds_toArray, List.set_cons_zero, List.set_cons_succ]
  refine wpAnyH_take (i := 9) (oi := { dst := Option.some 20, op := Go.Op.fieldAddr 31 (Go.Operand.tmp 2) 0, type := 0, pos := "law.go:48", after := #[{ on := 7, ground := Go.Ground.guard }], guard := Option.some (7, Bool.true) }) (v := ?_) rfl (by kernel_rfl) (by kernel_rfl) (by kernel_rfl) (fun _ _ _ h => h) (Or.inl ⟨by rfl, ?_⟩) hHeld ?_
  rotate_left 1
  · intro ww hSw
    try dsimp only at hSw
    go_simp
    try with_reducible rfl
  try simp only [Act.put, List.setIfInBounds_toArray, List.set_cons_zero, List.set_cons_succ]
  refine wpAnyH_take (i := 10) (oi := { dst := Option.some 21, op := Go.Op.load 3 (Go.Operand.tmp 20), type := 3, pos := "law.go:48", after := #[{ on := 9, ground := Go.Ground.data }, { on := 7, ground := Go.Ground.guard }], guard := Option.some (7, Bool.true) }) (v := ?_) rfl (by kernel_rfl) (by kernel_rfl) (by kernel_rfl) (fun _ _ _ h => h) (Or.inl ⟨by rfl, ?_⟩) hHeld ?_
  rotate_left 1
  · intro ww hSw
    try dsimp only at hSw
    go_simp
    try with_reducible rfl
  try simp only [Act.put, List.setIfInBounds_toArray, List.set_cons_zero, List.set_cons_succ]
  refine wpAnyH_take (i := 12) (oi := { dst := Option.some 23, op := Go.Op.load 31 (Go.Operand.tmp 2), type := 31, pos := "law.go:48", after := #[{ on := 7, ground := Go.Ground.guard }], guard := Option.some (7, Bool.true) }) (v := ?_) rfl (by kernel_rfl) (by kernel_rfl) (by kernel_rfl) (fun _ _ _ h => h) (Or.inl ⟨by rfl, ?_⟩) hHeld ?_
  rotate_left 1
  · intro ww hSw
    try dsimp only at hSw
    go_simp
    try with_reducible rfl
  try simp only [Act.put, List.setIfInBounds_toArray, List.set_cons_zero, List.set_cons_succ]
  refine wpAnyH_take (i := 13) (oi := { dst := Option.some 24, op := Go.Op.move (Go.Operand.tmp 1), type := 3, pos := "law.go:48", after := #[{ on := 7, ground := Go.Ground.guard }], guard := Option.some (7, Bool.true) }) (v := ?_) rfl (by kernel_rfl) (by kernel_rfl) (by kernel_rfl) (fun _ _ _ h => h) (Or.inl ⟨by rfl, ?_⟩) hHeld ?_
  rotate_left 1
  · intro ww hSw
    try dsimp only at hSw
    go_simp
    try with_reducible rfl
  try simp only [Act.put, List.setIfInBounds_toArray, List.set_cons_zero, List.set_cons_succ]
  refine wpAnyH_ready (rs := [11]) (by kernel_rfl) (by simp) ?_
  refine AllReadyH.cons (o := { dst := Option.some 22, op := Go.Op.call { callee := Go.Callee.value (Go.Operand.func 11), args := #[Go.Operand.tmp 19, Go.Operand.tmp 21], argTypes := #[31, 3] }, type := 4, pos := "law.go:48", after := #[{ on := 8, ground := Go.Ground.data }, { on := 10, ground := Go.Ground.data }, { on := 7, ground := Go.Ground.chain }, { on := 7, ground := Go.Ground.guard }], guard := Option.some (7, Bool.true) }) rfl (fun K hK => ?_) AllReadyH.nil
  go_simp
  refine (adj_any (otherI i x) i.self _).mono ?_
  rintro ea wa ⟨rfl, hba⟩
  have K7 := Lib.hid (K6.out.below hba K6.out.lt)
  have R7 := Lib.hid (R6.out.below hba R6.out.lt)
  have B7 := Lib.hid (B6.out.trans (hba.mono (by have := K6.out.lt; omega)))
  clear hba K6 R6 B6
  refine hK.out _ _ (And.intro K7.out.five.1 (And.intro K7.out.five.2.1 (And.intro K7.out.five.2.2.1 (And.intro K7.out.five.2.2.2.1 (And.intro K7.out.five.2.2.2.2 R7.out.five))))) (fun hHeld => ?_)
  clear hK K
  try simp only [Act.put, List.setIfInBounds_toArray, List.set_cons_zero, List.set_cons_succ]
  refine wpAnyH_ready (rs := [14]) (by kernel_rfl) (by simp) ?_
  refine AllReadyH.cons (o := { dst := Option.some 25, op := Go.Op.call { callee := Go.Callee.value (Go.Operand.func 11), args := #[Go.Operand.tmp 23, Go.Operand.tmp 24], argTypes := #[31, 3] }, type := 4, pos := "law.go:48", after := #[{ on := 12, ground := Go.Ground.data }, { on := 13, ground := Go.Ground.data }, { on := 11, ground := Go.Ground.chain }, { on := 7, ground := Go.Ground.guard }], guard := Option.some (7, Bool.true) }) rfl (fun K hK => ?_) AllReadyH.nil
  go_simp
  refine (adj_any i x _).mono ?_
  rintro ea wa ⟨rfl, hba⟩
  have K8 := Lib.hid (K7.out.below hba K7.out.lt)
  have R8 := Lib.hid (R7.out.below hba R7.out.lt)
  have B8 := Lib.hid (B7.out.trans (hba.mono (by have := K7.out.lt; omega)))
  clear hba K7 R7 B7
  refine hK.out _ _ (And.intro K8.out.five.1 (And.intro K8.out.five.2.1 (And.intro K8.out.five.2.2.1 (And.intro K8.out.five.2.2.2.1 (And.intro K8.out.five.2.2.2.2 R8.out.five))))) (fun hHeld => ?_)
  clear hK K
  try simp only [Act.put, List.setIfInBounds_toArray, List.set_cons_zero, List.set_cons_succ]
  refine wpAnyH_take (i := 15) (oi := { dst := Option.some 26, op := Go.Op.binOp Go.BinOp.eql 4 (Go.Operand.tmp 22) (Go.Operand.tmp 25) 4, type := 4, pos := "law.go:48", after := #[{ on := 11, ground := Go.Ground.data }, { on := 14, ground := Go.Ground.data }, { on := 7, ground := Go.Ground.guard }], guard := Option.some (7, Bool.true) }) (v := ?_) rfl (by kernel_rfl) (by kernel_rfl) (by kernel_rfl) (fun _ _ _ h => h) (Or.inl ⟨by rfl, ?_⟩) hHeld ?_
  rotate_left 1
  · intro ww hSw
    try dsimp only at hSw
    go_simp
    try with_reducible rfl
  try simp only [Act.put, List.setIfInBounds_toArray, List.set_cons_zero, List.set_cons_succ]
  refine wpAnyH_take (i := 16) (oi := { dst := Option.some 27, op := Go.Op.pick (Go.Operand.tmp 18) (Go.Operand.tmp 26) (Go.Operand.const (Go.Value.bool Bool.false)), type := 4, pos := "law.go:48", after := #[{ on := 7, ground := Go.Ground.data }, { on := 15, ground := Go.Ground.data }], guard := Option.none }) (v := ?_) rfl (by kernel_rfl) (by kernel_rfl) (by kernel_rfl) (fun _ _ _ h => h) (Or.inl ⟨by rfl, ?_⟩) hHeld ?_
  rotate_left 1
  · intro ww hSw
    try dsimp only at hSw
    go_simp
    try with_reducible rfl
  try simp only [Act.put, List.setIfInBounds_toArray, List.set_cons_zero, List.set_cons_succ]
  refine wpAnyH_take (i := 17) (oi := { dst := Option.some 4, op := Go.Op.assign (Go.Operand.tmp 27), type := 4, pos := "law.go:48", after := #[{ on := 16, ground := Go.Ground.data }, { on := 14, ground := Go.Ground.chain }, { on := 0, ground := Go.Ground.phase }, { on := 1, ground := Go.Ground.phase }, { on := 2, ground := Go.Ground.phase }, { on := 3, ground := Go.Ground.phase }, { on := 4, ground := Go.Ground.phase }, { on := 5, ground := Go.Ground.phase }, { on := 6, ground := Go.Ground.phase }, { on := 7, ground := Go.Ground.phase }, { on := 8, ground := Go.Ground.phase }, { on := 9, ground := Go.Ground.phase }, { on := 10, ground := Go.Ground.phase }, { on := 11, ground := Go.Ground.phase }, { on := 12, ground := Go.Ground.phase }, { on := 13, ground := Go.Ground.phase }, { on := 14, ground := Go.Ground.phase }, { on := 15, ground := Go.Ground.phase }, { on := 16, ground := Go.Ground.phase }], guard := Option.none }) (v := ?_) rfl (by kernel_rfl) (by kernel_rfl) (by kernel_rfl) (fun _ _ _ h => h) (Or.inl ⟨by rfl, ?_⟩) hHeld ?_
  rotate_left 1
  · intro ww hSw
    try dsimp only at hSw
    go_simp
    try with_reducible rfl
  try simp only [Act.put, List.setIfInBounds_toArray, List.set_cons_zero, List.set_cons_succ]
  refine wpAnyH_done (by kernel_rfl) ?_ _
  refine NoPanic.normal ?_

  clear hHeld
  have HA := adj_other i x
  go_wp2
  go_ret
  refine ⟨?_, hp ▸ B8.out⟩
  show Ending.returned (.bool (adjF (otherI i x) i.self == adjF i x)) = _
  rw [HA, beq_self_eq_true]
end Go.Proofs.YtohfoopagbajnaaDoor