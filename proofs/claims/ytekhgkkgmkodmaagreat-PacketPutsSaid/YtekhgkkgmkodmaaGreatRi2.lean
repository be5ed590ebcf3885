/- The reference of packets: the last part of Same. Conditions: the calls answer as told. -/
import Derived.Test.YtekhgkkgmkodmaaGreatRh
import Derived.Test.YtekhgkkgmkodmaaGreatJbd
import Derived.Test.YtekhgkkgmkodmaaGreatLd
namespace Go.Proofs.YtekhgkkgmkodmaaGreat
open Go.RowKit

set_option maxRecDepth 8000 in
set_option maxHeartbeats 8000000 in
/-- The last region of Same. -/
theorem r5Same_last {x0 x1 x4 x5 x6 x7 x8 x9 x10 x11 x12 x13 x14 x15 x16 x17 x18 x19 x20 x21 x22 x23 x24 x25 x26 x27 x28 x29 x30 x31 x32 x33 x34 x35 x36 x37 x38 x39 x40 x41 x42 x43 x44 x45 x46 x47 x48 x49 : Value} {g1 g2 : Nat} {w2 : World} {Qc : Exit → Act → World → Prop} (kd sd : Int) (c2 c3 c4 c5 c6 c7 c8 c9 c10 c11 c12 c13 c14 c15 d2 d3 d4 d5 d6 d7 d8 d9 d10 d11 d12 d13 d14 d15 : Value) (P : List Int) (n : Nat) (hn : n ≤ maxLen)
    (K1 : Blk w2 g1 31 #[.int .i64 kd, .int .i64 sd, c2, c3, c4, c5, c6, c7, c8, c9, c10, c11, c12, c13, c14, c15]) (K2 : Blk w2 g2 31 #[.int .i64 kd, .int .i64 sd, d2, d3, d4, d5, d6, d7, d8, d9, d10, d11, d12, d13, d14, d15])
    (hb1 : ∀ W, Below w2.heap.size w2 W → Calls Tryz.prog 11 #[.agg #[.int .i64 kd, .int .i64 sd, c2, c3, c4, c5, c6, c7, c8, c9, c10, c11, c12, c13, c14, c15]] W (BtsR W P n))
    (hb2 : ∀ W, Below w2.heap.size w2 W → Calls Tryz.prog 11 #[.agg #[.int .i64 kd, .int .i64 sd, d2, d3, d4, d5, d6, d7, d8, d9, d10, d11, d12, d13, d14, d15]] W (BtsR W P n))
    (ha : ∀ W, Below w2.heap.size w2 W → Calls Tryz.prog 40 #[.agg #[.int .i64 kd, .int .i64 sd, c2, c3, c4, c5, c6, c7, c8, c9, c10, c11, c12, c13, c14, c15], .agg #[.int .i64 kd, .int .i64 sd, d2, d3, d4, d5, d6, d7, d8, d9, d10, d11, d12, d13, d14, d15]] W fun x w' => x = .returned (.bool true) ∧ Below W.heap.size W w')
    (hQ : ∀ y40 y41 y42 y43 y44 y45 y46 y47 y48 y49 wF, Below w2.heap.size w2 wF → Qc .normal { tmps := #[x0, x1, .pointer (some ⟨g1, 0, none⟩), .pointer (some ⟨g2, 0, none⟩), .bool true, x5, x6, x7, x8, x9, x10, x11, x12, x13, x14, x15, x16, x17, x18, x19, x20, x21, x22, x23, x24, x25, x26, x27, x28, x29, x30, x31, x32, x33, x34, x35, x36, x37, x38, x39, y40, y41, y42, y43, y44, y45, y46, y47, y48, y49], defers := [] } wF) :
    Code.wp Tryz.prog (Code.region 6 #[{ dst := Option.some 40, op := Go.Op.load 31 (Go.Operand.tmp 2), type := 31, pos := "ref.go:276", after := #[], guard := Option.none }, { dst := Option.some 41, op := Go.Op.call { callee := Go.Callee.value (Go.Operand.func 11), args := #[Go.Operand.tmp 40], argTypes := #[31] }, type := 34, pos := "ref.go:276", after := #[{ on := 0, ground := Go.Ground.data }], guard := Option.none }, { dst := Option.some 42, op := Go.Op.load 31 (Go.Operand.tmp 3), type := 31, pos := "ref.go:276", after := #[], guard := Option.none }, { dst := Option.some 43, op := Go.Op.call { callee := Go.Callee.value (Go.Operand.func 11), args := #[Go.Operand.tmp 42], argTypes := #[31] }, type := 34, pos := "ref.go:276", after := #[{ on := 2, ground := Go.Ground.data }, { on := 1, ground := Go.Ground.chain }], guard := Option.none }, { dst := Option.some 44, op := Go.Op.call { callee := Go.Callee.value (Go.Operand.func 10), args := #[Go.Operand.tmp 41, Go.Operand.tmp 43], argTypes := #[34, 34] }, type := 4, pos := "ref.go:276", after := #[{ on := 1, ground := Go.Ground.data }, { on := 3, ground := Go.Ground.data }, { on := 3, ground := Go.Ground.chain }], guard := Option.none }, { dst := Option.some 45, op := Go.Op.move (Go.Operand.tmp 44), type := 4, pos := "ref.go:276", after := #[{ on := 4, ground := Go.Ground.data }, { on := 4, ground := Go.Ground.chain }], guard := Option.none }, { dst := Option.some 46, op := Go.Op.load 31 (Go.Operand.tmp 2), type := 31, pos := "ref.go:276", after := #[{ on := 5, ground := Go.Ground.guard }], guard := Option.some (5, Bool.true) }, { dst := Option.some 47, op := Go.Op.load 31 (Go.Operand.tmp 3), type := 31, pos := "ref.go:276", after := #[{ on := 5, ground := Go.Ground.guard }], guard := Option.some (5, Bool.true) }, { dst := Option.some 48, op := Go.Op.call { callee := Go.Callee.value (Go.Operand.func 40), args := #[Go.Operand.tmp 46, Go.Operand.tmp 47], argTypes := #[31, 31] }, type := 4, pos := "ref.go:276", after := #[{ on := 6, ground := Go.Ground.data }, { on := 7, ground := Go.Ground.data }, { on := 5, ground := Go.Ground.chain }, { on := 5, ground := Go.Ground.guard }], guard := Option.some (5, Bool.true) }, { dst := Option.some 49, op := Go.Op.pick (Go.Operand.tmp 45) (Go.Operand.tmp 48) (Go.Operand.const (Go.Value.bool Bool.false)), type := 4, pos := "ref.go:276", after := #[{ on := 5, ground := Go.Ground.data }, { on := 8, ground := Go.Ground.data }], guard := Option.none }, { dst := Option.some 4, op := Go.Op.assign (Go.Operand.tmp 49), type := 4, pos := "ref.go:276", after := #[{ on := 9, ground := Go.Ground.data }, { on := 8, ground := Go.Ground.chain }, { on := 0, ground := Go.Ground.phase }, { on := 1, ground := Go.Ground.phase }, { on := 2, ground := Go.Ground.phase }, { on := 3, ground := Go.Ground.phase }, { on := 4, ground := Go.Ground.phase }, { on := 5, ground := Go.Ground.phase }, { on := 6, ground := Go.Ground.phase }, { on := 7, ground := Go.Ground.phase }, { on := 8, ground := Go.Ground.phase }, { on := 9, ground := Go.Ground.phase }], guard := Option.none }] true) Qc { tmps := #[x0, x1, .pointer (some ⟨g1, 0, none⟩), .pointer (some ⟨g2, 0, none⟩), x4, x5, x6, x7, x8, x9, x10, x11, x12, x13, x14, x15, x16, x17, x18, x19, x20, x21, x22, x23, x24, x25, x26, x27, x28, x29, x30, x31, x32, x33, x34, x35, x36, x37, x38, x39, x40, x41, x42, x43, x44, x45, x46, x47, x48, x49], defers := [] } w2 := by
  have HB1 := Lib.hid hb1
  have HB2 := Lib.hid hb2
  have HA := Lib.hid ha
  have HN := Lib.hid hn
  have HQ := Lib.hid hQ
  have p1 := K1.lt
  have p2 := K2.lt
  have K1 := Lib.hid K1
  have K2 := Lib.hid K2
  clear hb1 hb2 ha hn hQ
  have d0 : Below w2.heap.size w2 w2.drew := ⟨rfl, rfl, rfl, Nat.le_refl _, fun _ _ => rfl⟩
  refine wp_region_noPanic ?_
  refine wp_region_held_drew (S := fun w' => Below w2.heap.size w2 w') (by kernel_rfl) d0 (fun hHeld => ?_)
  refine wpAnyH_take (i := 0) (oi := { dst := Option.some 40, op := Go.Op.load 31 (Go.Operand.tmp 2), type := 31, pos := "ref.go:276", after := #[], guard := Option.none }) (v := .agg #[.int .i64 kd, .int .i64 sd, c2, c3, c4, c5, c6, c7, c8, c9, c10, c11, c12, c13, c14, c15]) rfl (by kernel_rfl) (by kernel_rfl) (by kernel_rfl) (fun _ _ _ h => h) (yieldsIf_load_mid (by rfl) 31 (.tmp 2) rfl g1 0 rfl [.int .i64 kd, .int .i64 sd, c2, c3, c4, c5, c6, c7, c8, c9, c10, c11, c12, c13, c14, c15] _ (fun _ h => range_pkt (K1.out.below h p1)) Tryz.underlying31 rfl (by kernel_rfl)) hHeld ?_
  try simp only [Act.put, List.setIfInBounds_toArray, List.set_cons_zero, List.set_cons_succ]
  refine wpAnyH_take (i := 2) (oi := { dst := Option.some 42, op := Go.Op.load 31 (Go.Operand.tmp 3), type := 31, pos := "ref.go:276", after := #[], guard := Option.none }) (v := .agg #[.int .i64 kd, .int .i64 sd, d2, d3, d4, d5, d6, d7, d8, d9, d10, d11, d12, d13, d14, d15]) rfl (by kernel_rfl) (by kernel_rfl) (by kernel_rfl) (fun _ _ _ h => h) (yieldsIf_load_mid (by rfl) 31 (.tmp 3) rfl g2 0 rfl [.int .i64 kd, .int .i64 sd, d2, d3, d4, d5, d6, d7, d8, d9, d10, d11, d12, d13, d14, d15] _ (fun _ h => range_pkt (K2.out.below h p2)) Tryz.underlying31 rfl (by kernel_rfl)) hHeld ?_
  try simp only [Act.put, List.setIfInBounds_toArray, List.set_cons_zero, List.set_cons_succ]
  refine wpAnyH_ready (rs := [1]) (by kernel_rfl) (by simp) ?_
  refine AllReadyH.cons (o := { dst := Option.some 41, op := Go.Op.call { callee := Go.Callee.value (Go.Operand.func 11), args := #[Go.Operand.tmp 40], argTypes := #[31] }, type := 34, pos := "ref.go:276", after := #[{ on := 0, ground := Go.Ground.data }], guard := Option.none }) rfl (fun K hK => ?_) AllReadyH.nil
  go_simp
  refine (HB1.out _ d0).mono ?_
  rintro e1 wa ⟨Aa, ca, rfl, hra, hba⟩
  have hC1 := d0.trans (hba.mono d0.size)
  have RA := Lib.hid hra
  clear hra hba hHeld
  refine hK.out _ _ hC1 (fun hHeld => ?_)
  clear hK K
  try simp only [Act.put, List.setIfInBounds_toArray, List.set_cons_zero, List.set_cons_succ]
  refine wpAnyH_ready (rs := [3]) (by kernel_rfl) (by simp) ?_
  refine AllReadyH.cons (o := { dst := Option.some 43, op := Go.Op.call { callee := Go.Callee.value (Go.Operand.func 11), args := #[Go.Operand.tmp 42], argTypes := #[31] }, type := 34, pos := "ref.go:276", after := #[{ on := 2, ground := Go.Ground.data }, { on := 1, ground := Go.Ground.chain }], guard := Option.none }) rfl (fun K hK => ?_) AllReadyH.nil
  go_simp
  refine (HB2.out _ hC1).mono ?_
  rintro e2 wb ⟨Ab, cb, rfl, hrb, hbb⟩
  have hC2 := hC1.trans (hbb.mono hC1.size)
  have RA2 := Lib.hid ((RA.out.below hbb).more hbb.size)
  have RB := Lib.hid hrb
  clear hrb hbb RA hHeld
  refine hK.out _ _ hC2 (fun hHeld => ?_)
  clear hK K
  try simp only [Act.put, List.setIfInBounds_toArray, List.set_cons_zero, List.set_cons_succ]
  refine wpAnyH_ready (rs := [4]) (by kernel_rfl) (by simp) ?_
  refine AllReadyH.cons (o := { dst := Option.some 44, op := Go.Op.call { callee := Go.Callee.value (Go.Operand.func 10), args := #[Go.Operand.tmp 41, Go.Operand.tmp 43], argTypes := #[34, 34] }, type := 4, pos := "ref.go:276", after := #[{ on := 1, ground := Go.Ground.data }, { on := 3, ground := Go.Ground.data }, { on := 3, ground := Go.Ground.chain }], guard := Option.none }) rfl (fun K hK => ?_) AllReadyH.nil
  go_simp
  refine (same_yes Aa Ab n ca cb _ _ _ _ RA2.out RB.out HN.out).mono ?_
  rintro e3 wc ⟨rfl, dd, rfl⟩
  have hC3 := below_drewN hC2 dd
  clear RA2 RB hHeld
  refine hK.out _ _ hC3 (fun hHeld => ?_)
  clear hK K
  try simp only [Act.put, List.setIfInBounds_toArray, List.set_cons_zero, List.set_cons_succ]
  refine wpAnyH_take (i := 5) (oi := { dst := Option.some 45, op := Go.Op.move (Go.Operand.tmp 44), type := 4, pos := "ref.go:276", after := #[{ on := 4, ground := Go.Ground.data }, { on := 4, ground := Go.Ground.chain }], guard := Option.none }) (v := ?_) rfl (by kernel_rfl) (by kernel_rfl) (by kernel_rfl) (fun _ _ _ h => h) (Or.inl ⟨by rfl, ?_⟩) hHeld ?_
  rotate_left 1
  · intro ww hSw
    try dsimp only at hSw
    go_simp
    try with_reducible rfl
  try simp only [Act.put, List.setIfInBounds_toArray, List.set_cons_zero, List.set_cons_succ]
  refine wpAnyH_take (i := 6) (oi := { dst := Option.some 46, op := Go.Op.load 31 (Go.Operand.tmp 2), type := 31, pos := "ref.go:276", after := #[{ on := 5, ground := Go.Ground.guard }], guard := Option.some (5, Bool.true) }) (v := .agg #[.int .i64 kd, .int .i64 sd, c2, c3, c4, c5, c6, c7, c8, c9, c10, c11, c12, c13, c14, c15]) rfl (by kernel_rfl) (by kernel_rfl) (by kernel_rfl) (fun _ _ _ h => h) (yieldsIf_load_mid (by rfl) 31 (.tmp 2) rfl g1 0 rfl [.int .i64 kd, .int .i64 sd, c2, c3, c4, c5, c6, c7, c8, c9, c10, c11, c12, c13, c14, c15] _ (fun _ h => range_pkt (K1.out.below h p1)) Tryz.underlying31 rfl (by kernel_rfl)) hHeld ?_
  try simp only [Act.put, List.setIfInBounds_toArray, List.set_cons_zero, List.set_cons_succ]
  refine wpAnyH_take (i := 7) (oi := { dst := Option.some 47, op := Go.Op.load 31 (Go.Operand.tmp 3), type := 31, pos := "ref.go:276", after := #[{ on := 5, ground := Go.Ground.guard }], guard := Option.some (5, Bool.true) }) (v := .agg #[.int .i64 kd, .int .i64 sd, d2, d3, d4, d5, d6, d7, d8, d9, d10, d11, d12, d13, d14, d15]) rfl (by kernel_rfl) (by kernel_rfl) (by kernel_rfl) (fun _ _ _ h => h) (yieldsIf_load_mid (by rfl) 31 (.tmp 3) rfl g2 0 rfl [.int .i64 kd, .int .i64 sd, d2, d3, d4, d5, d6, d7, d8, d9, d10, d11, d12, d13, d14, d15] _ (fun _ h => range_pkt (K2.out.below h p2)) Tryz.underlying31 rfl (by kernel_rfl)) hHeld ?_
  try simp only [Act.put, List.setIfInBounds_toArray, List.set_cons_zero, List.set_cons_succ]
  refine wpAnyH_ready (rs := [8]) (by kernel_rfl) (by simp) ?_
  refine AllReadyH.cons (o := { dst := Option.some 48, op := Go.Op.call { callee := Go.Callee.value (Go.Operand.func 40), args := #[Go.Operand.tmp 46, Go.Operand.tmp 47], argTypes := #[31, 31] }, type := 4, pos := "ref.go:276", after := #[{ on := 6, ground := Go.Ground.data }, { on := 7, ground := Go.Ground.data }, { on := 5, ground := Go.Ground.chain }, { on := 5, ground := Go.Ground.guard }], guard := Option.some (5, Bool.true) }) rfl (fun K hK => ?_) AllReadyH.nil
  go_simp
  refine (HA.out _ hC3).mono ?_
  rintro e4 wd ⟨rfl, hbd⟩
  have hC4 := hC3.trans (hbd.mono hC3.size)
  clear hbd hHeld
  refine hK.out _ _ hC4 (fun hHeld => ?_)
  clear hK K
  try simp only [Act.put, List.setIfInBounds_toArray, List.set_cons_zero, List.set_cons_succ]
  refine wpAnyH_take (i := 9) (oi := { dst := Option.some 49, op := Go.Op.pick (Go.Operand.tmp 45) (Go.Operand.tmp 48) (Go.Operand.const (Go.Value.bool Bool.false)), type := 4, pos := "ref.go:276", after := #[{ on := 5, ground := Go.Ground.data }, { on := 8, ground := Go.Ground.data }], guard := Option.none }) (v := ?_) rfl (by kernel_rfl) (by kernel_rfl) (by kernel_rfl) (fun _ _ _ h => h) (Or.inl ⟨by rfl, ?_⟩) hHeld ?_
  rotate_left 1
  · intro ww hSw
    try dsimp only at hSw
    go_simp
    try with_reducible rfl
  try simp only [Act.put, List.setIfInBounds_toArray, List.set_cons_zero, List.set_cons_succ]
  refine wpAnyH_take (i := 10) (oi := { dst := Option.some 4, op := Go.Op.assign (Go.Operand.tmp 49), type := 4, pos := "ref.go:276", after := #[{ on := 9, ground := Go.Ground.data }, { on := 8, ground := Go.Ground.chain }, { on := 0, ground := Go.Ground.phase }, { on := 1, ground := Go.Ground.phase }, { on := 2, ground := Go.Ground.phase }, { on := 3, ground := Go.Ground.phase }, { on := 4, ground := Go.Ground.phase }, { on := 5, ground := Go.Ground.phase }, { on := 6, ground := Go.Ground.phase }, { on := 7, ground := Go.Ground.phase }, { on := 8, ground := Go.Ground.phase }, { on := 9, ground := Go.Ground.phase }], guard := Option.none }) (v := ?_) rfl (by kernel_rfl) (by kernel_rfl) (by kernel_rfl) (fun _ _ _ h => h) (Or.inl ⟨by rfl, ?_⟩) hHeld ?_
  rotate_left 1
  · intro ww hSw
    try dsimp only at hSw
    go_simp
    try with_reducible rfl
  try simp only [Act.put, List.setIfInBounds_toArray, List.set_cons_zero, List.set_cons_succ]
  refine wpAnyH_done (by kernel_rfl) ?_ _
  exact NoPanic.normal (HQ.out _ _ _ _ _ _ _ _ _ _ _ hC4)
end Go.Proofs.YtekhgkkgmkodmaaGreat
