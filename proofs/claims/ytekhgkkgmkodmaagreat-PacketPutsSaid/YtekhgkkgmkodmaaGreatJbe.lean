/- The method want of packet's reader: keys, to the end. Conditions: at most 2^20 bytes. -/
import Derived.Deep.DrawnRows
import Derived.Test.YtekhgkkgmkodmaaGreatJaw
namespace Go.Proofs.YtekhgkkgmkodmaaGreat
open Go.RowKit
attribute [local go_sem ↓] Go.wp_at_zero Go.wp_at_succ

set_option maxRecDepth 8000 in
set_option maxHeartbeats 16000000 in
theorem want_any (g q : Nat) (kd sd : Int) (wr0 : Bool) (l : List Int) (w : World) (h : RS w g q (zeroP kd sd) wr0 0 l 24) (hl : l.length ≤ 1048576) (h24 : 24 ≤ l.length) :
    Calls Tryz.prog 91 #[.pointer (some ⟨g, 0, none⟩)] w (WantR w g q kd sd wr0 l) := by
  generalize hQ : WantR w g q kd sd wr0 l = Q
  have HQ := Lib.hid hQ
  obtain ⟨hb, hrd⟩ := h
  have KB0 := Lib.hid (show Blk w g 95 #[.pointer (some ⟨q, 0, none⟩), .int .i64 kd, .int .i64 sd, .int .i64 0, .int .i64 0, .int .i64 0, .int .i64 0, .int .i64 0, .slice none 0 0, .bool false, .bool false, .bool false, .int .i64 0, .slice none 0 0, .slice none 0 0, .slice none 0 0, .slice none 0 0, .bool wr0, .int .i64 0] from hb)
  have RD0 := Lib.hid hrd
  have B0 := Lib.hid (Below.refl g w)
  have hgq : g < q := by have := hrd.lt.2; omega
  have hgw : g < w.heap.size := hb.lt
  have hqw : q < w.heap.size := hrd.lt.1
  clear hQ hb hrd
  go_enter Tryz.func91, Tryz.ntmps91
  go_wp2_with fail
  go_loopw [] (fun W => ∃ (A : Option Addr) (k c : Nat), Hid (24 + 12 * k ≤ l.length) ∧ Hid (Blk W g 95 #[.pointer (some ⟨q, 0, none⟩), .int .i64 kd, .int .i64 sd, .int .i64 0, .int .i64 0, .int .i64 0, .int .i64 0, .int .i64 0, .slice none 0 0, .bool false, .bool false, .bool false, .int .i64 0, .slice none 0 0, .slice A k c, .slice none 0 0, .slice none 0 0, .bool wr0, .int .i64 0]) ∧ Hid (Rd W (g + 1) q l (24 + 12 * k)) ∧ Hid (W.ownsRow w.heap.size 56 3 (.slice A k c) k (kyCells (kysAt l 24 k))) ∧ Hid (Below g w W)) (fun W => l.length - posOf W q)
  case atStart =>
    exact ⟨none, 0, 0, Lib.hid h24, KB0, RD0, Lib.hid (World.ownsRow_nil _ _ _ _), B0⟩
  case round =>
    clear KB0 RD0 B0
    obtain ⟨A, k, c, hk, KB, RD, OW, BW⟩ := hrel
    obtain ⟨a0, a1, a2, a3, a4, a5, a6, a7, a8, a9, a10, a11, a12, a13, a14, a15, a16, a17, a18⟩ := KB.out.nt
    go_wp2_with fail
    refine (rd_left (g + 1) q _ l _ RD.out).mono ?_
    rintro el wl ⟨rfl, dl, rfl⟩
    clear a0 a1 a2 a3 a4 a5 a6 a7 a8 a9 a10 a11 a12 a13 a14 a15 a16 a17 a18
    have KB1 := Lib.hid (KB.out.drewN dl)
    have RD1 := Lib.hid (show Rd (wr.drewN dl) (g + 1) q l (24 + 12 * k) from RD.out)
    have OW1 := Lib.hid (show (wr.drewN dl).ownsRow w.heap.size 56 3 (.slice A k c) k (kyCells (kysAt l 24 k)) from OW.out)
    have B1 := Lib.hid (below_drewN BW.out dl)
    have HPS := Lib.hid (show posOf wr q = 24 + 12 * k from RD.out.toE.posOf)
    clear KB RD OW BW
    generalize wr.drewN dl = w1 at *
    have hs1 := B1.out.size
    have hkl := hk.out
    obtain ⟨r, hr⟩ : ∃ r, l.length - (24 + 12 * k) = r := ⟨_, rfl⟩
    rw [hr]
    obtain ⟨a0, a1, a2, a3, a4, a5, a6, a7, a8, a9, a10, a11, a12, a13, a14, a15, a16, a17, a18⟩ := KB1.out.nt
    by_cases h12 : 12 ≤ r
    · have h12' : (12 : Int) ≤ r := by omega
      obtain ⟨p, hp⟩ : ∃ p, 24 + 12 * k = p := ⟨_, rfl⟩
      have HP := Lib.hid hp
      rw [hp] at RD1 hkl hr
      have RX := Lib.hid (RD1.out.drew)
      have OX := Lib.hid (show w1.drew.ownsRow w.heap.size 56 3 (.slice A k c) k (kyCells (kysAt l 24 k)) from OW1.out)
      have KX := Lib.hid (Blk.drew KB1.out)
      have BX := Lib.hid (show Below g w w1.drew from below_drewN B1.out 1)
      have HL1 := Lib.hid (show p + 4 ≤ l.length by omega)
      have HL2 := Lib.hid (show p + 4 + 4 ≤ l.length by omega)
      have HL3 := Lib.hid (show p + 8 + 4 ≤ l.length by omega)
      have HKM := Lib.hid (show k ≤ 1048576 by omega)
      obtain ⟨y1, hy1⟩ : ∃ y, wordAt l p 4 = y := ⟨_, rfl⟩
      obtain ⟨y2, hy2⟩ : ∃ y, wordAt l (p + 4) 4 = y := ⟨_, rfl⟩
      obtain ⟨y3, hy3⟩ : ∃ y, wordAt l (p + 8) 4 = y := ⟨_, rfl⟩
      have HY1 := Lib.hid hy1
      have HY2 := Lib.hid hy2
      have HY3 := Lib.hid hy3
      clear hy1 hy2 hy3 hp
      obtain ⟨d0, d1, d2, d3, d4, d5, d6, d7, d8, d9, d10, d11, d12, d13, d14, d15, d16, d17, d18⟩ := KX.out.nt
      go_upto_region 1 with fail
      refine wp_region_held_drew (S := fun w' => w'.cell? ⟨g, 0, none⟩ = some (.pointer (some ⟨q, 0, none⟩))) (by kernel_rfl) d0 (fun hHeld => ?_)
      refine wpAnyH_take (i := 0) (oi := { dst := Option.some 8, op := Go.Op.move (Go.Operand.tmp 0), type := 110, pos := "read.go:122", after := #[], guard := Option.none }) (v := ?_) rfl (by kernel_rfl) (by kernel_rfl) (by kernel_rfl) (fun _ _ _ h => h) (Or.inl ⟨by rfl, ?_⟩) hHeld ?_
      rotate_left 1
      · intro ww hSw
        try dsimp only at hSw
        go_simp
        try with_reducible rfl
      try simp only [Act.put, List.setIfInBounds_toArray, List.set_cons_zero, List.set_cons_succ]
      refine wpAnyH_take (i := 1) (oi := { dst := Option.some 9, op := Go.Op.move (Go.Operand.tmp 0), type := 110, pos := "read.go:122", after := #[], guard := Option.none }) (v := ?_) rfl (by kernel_rfl) (by kernel_rfl) (by kernel_rfl) (fun _ _ _ h => h) (Or.inl ⟨by rfl, ?_⟩) hHeld ?_
      rotate_left 1
      · intro ww hSw
        try dsimp only at hSw
        go_simp
        try with_reducible rfl
      try simp only [Act.put, List.setIfInBounds_toArray, List.set_cons_zero, List.set_cons_succ]
      refine wpAnyH_take (i := 2) (oi := { dst := Option.some 10, op := Go.Op.nilCheck (Go.Operand.tmp 9), type := 0, pos := "read.go:122", after := #[{ on := 1, ground := Go.Ground.data }], guard := Option.none }) (v := ?_) rfl (by kernel_rfl) (by kernel_rfl) (by kernel_rfl) (fun _ _ _ h => h) (Or.inl ⟨by rfl, ?_⟩) hHeld ?_
      rotate_left 1
      · intro ww hSw
        try dsimp only at hSw
        go_simp
        try with_reducible rfl
      try simp only [Act.put, List.setIfInBounds_toArray, List.set_cons_zero, List.set_cons_succ]
      refine wpAnyH_take (i := 3) (oi := { dst := Option.some 11, op := Go.Op.fieldAddr 95 (Go.Operand.tmp 10) 1, type := 0, pos := "read.go:122", after := #[{ on := 2, ground := Go.Ground.data }], guard := Option.none }) (v := ?_) rfl (by kernel_rfl) (by kernel_rfl) (by kernel_rfl) (fun _ _ _ h => h) (Or.inl ⟨by rfl, ?_⟩) hHeld ?_
      rotate_left 1
      · intro ww hSw
        try dsimp only at hSw
        go_simp
        try with_reducible rfl
      try simp only [Act.put, List.setIfInBounds_toArray, List.set_cons_zero, List.set_cons_succ]
      refine wpAnyH_take (i := 4) (oi := { dst := Option.some 12, op := Go.Op.fieldAddr 31 (Go.Operand.tmp 11) 4, type := 0, pos := "read.go:122", after := #[{ on := 3, ground := Go.Ground.data }], guard := Option.none }) (v := ?_) rfl (by kernel_rfl) (by kernel_rfl) (by kernel_rfl) (fun _ _ _ h => h) (Or.inl ⟨by rfl, ?_⟩) hHeld ?_
      rotate_left 1
      · intro ww hSw
        try dsimp only at hSw
        go_simp
        try with_reducible rfl
      try simp only [Act.put, List.setIfInBounds_toArray, List.set_cons_zero, List.set_cons_succ]
      refine wpAnyH_take (i := 6) (oi := { dst := Option.some 14, op := Go.Op.move (Go.Operand.tmp 0), type := 110, pos := "read.go:122", after := #[], guard := Option.none }) (v := ?_) rfl (by kernel_rfl) (by kernel_rfl) (by kernel_rfl) (fun _ _ _ h => h) (Or.inl ⟨by rfl, ?_⟩) hHeld ?_
      rotate_left 1
      · intro ww hSw
        try dsimp only at hSw
        go_simp
        try with_reducible rfl
      try simp only [Act.put, List.setIfInBounds_toArray, List.set_cons_zero, List.set_cons_succ]
      refine wpAnyH_take (i := 7) (oi := { dst := Option.some 15, op := Go.Op.nilCheck (Go.Operand.tmp 14), type := 0, pos := "read.go:122", after := #[{ on := 6, ground := Go.Ground.data }], guard := Option.none }) (v := ?_) rfl (by kernel_rfl) (by kernel_rfl) (by kernel_rfl) (fun _ _ _ h => h) (Or.inl ⟨by rfl, ?_⟩) hHeld ?_
      rotate_left 1
      · intro ww hSw
        try dsimp only at hSw
        go_simp
        try with_reducible rfl
      try simp only [Act.put, List.setIfInBounds_toArray, List.set_cons_zero, List.set_cons_succ]
      refine wpAnyH_take (i := 8) (oi := { dst := Option.some 16, op := Go.Op.fieldAddr 95 (Go.Operand.tmp 15) 0, type := 0, pos := "read.go:122", after := #[{ on := 7, ground := Go.Ground.data }], guard := Option.none }) (v := ?_) rfl (by kernel_rfl) (by kernel_rfl) (by kernel_rfl) (fun _ _ _ h => h) (Or.inl ⟨by rfl, ?_⟩) hHeld ?_
      rotate_left 1
      · intro ww hSw
        try dsimp only at hSw
        go_simp
        try with_reducible rfl
      try simp only [Act.put, List.setIfInBounds_toArray, List.set_cons_zero, List.set_cons_succ]
      refine wpAnyH_take (i := 9) (oi := { dst := Option.some 17, op := Go.Op.load 93 (Go.Operand.tmp 16), type := 93, pos := "read.go:122", after := #[{ on := 8, ground := Go.Ground.data }], guard := Option.none }) (v := ?_) rfl (by kernel_rfl) (by kernel_rfl) (by kernel_rfl) (fun _ _ _ h => h) (Or.inl ⟨by rfl, ?_⟩) hHeld ?_
      rotate_left 1
      · intro ww hSw
        try dsimp only at hSw
        go_simp
        try with_reducible rfl
      try simp only [Act.put, List.setIfInBounds_toArray, List.set_cons_zero, List.set_cons_succ]
      refine wpAnyH_take (i := 11) (oi := { dst := Option.some 19, op := Go.Op.move (Go.Operand.tmp 0), type := 110, pos := "read.go:122", after := #[], guard := Option.none }) (v := ?_) rfl (by kernel_rfl) (by kernel_rfl) (by kernel_rfl) (fun _ _ _ h => h) (Or.inl ⟨by rfl, ?_⟩) hHeld ?_
      rotate_left 1
      · intro ww hSw
        try dsimp only at hSw
        go_simp
        try with_reducible rfl
      try simp only [Act.put, List.setIfInBounds_toArray, List.set_cons_zero, List.set_cons_succ]
      refine wpAnyH_take (i := 12) (oi := { dst := Option.some 20, op := Go.Op.nilCheck (Go.Operand.tmp 19), type := 0, pos := "read.go:122", after := #[{ on := 11, ground := Go.Ground.data }], guard := Option.none }) (v := ?_) rfl (by kernel_rfl) (by kernel_rfl) (by kernel_rfl) (fun _ _ _ h => h) (Or.inl ⟨by rfl, ?_⟩) hHeld ?_
      rotate_left 1
      · intro ww hSw
        try dsimp only at hSw
        go_simp
        try with_reducible rfl
      try simp only [Act.put, List.setIfInBounds_toArray, List.set_cons_zero, List.set_cons_succ]
      refine wpAnyH_take (i := 13) (oi := { dst := Option.some 21, op := Go.Op.fieldAddr 95 (Go.Operand.tmp 20) 0, type := 0, pos := "read.go:122", after := #[{ on := 12, ground := Go.Ground.data }], guard := Option.none }) (v := ?_) rfl (by kernel_rfl) (by kernel_rfl) (by kernel_rfl) (fun _ _ _ h => h) (Or.inl ⟨by rfl, ?_⟩) hHeld ?_
      rotate_left 1
      · intro ww hSw
        try dsimp only at hSw
        go_simp
        try with_reducible rfl
      try simp only [Act.put, List.setIfInBounds_toArray, List.set_cons_zero, List.set_cons_succ]
      refine wpAnyH_take (i := 14) (oi := { dst := Option.some 22, op := Go.Op.load 93 (Go.Operand.tmp 21), type := 93, pos := "read.go:122", after := #[{ on := 13, ground := Go.Ground.data }], guard := Option.none }) (v := ?_) rfl (by kernel_rfl) (by kernel_rfl) (by kernel_rfl) (fun _ _ _ h => h) (Or.inl ⟨by rfl, ?_⟩) hHeld ?_
      rotate_left 1
      · intro ww hSw
        try dsimp only at hSw
        go_simp
        try with_reducible rfl
      try simp only [Act.put, List.setIfInBounds_toArray, List.set_cons_zero, List.set_cons_succ]
      refine wpAnyH_take (i := 16) (oi := { dst := Option.some 24, op := Go.Op.move (Go.Operand.tmp 0), type := 110, pos := "read.go:122", after := #[], guard := Option.none }) (v := ?_) rfl (by kernel_rfl) (by kernel_rfl) (by kernel_rfl) (fun _ _ _ h => h) (Or.inl ⟨by rfl, ?_⟩) hHeld ?_
      rotate_left 1
      · intro ww hSw
        try dsimp only at hSw
        go_simp
        try with_reducible rfl
      try simp only [Act.put, List.setIfInBounds_toArray, List.set_cons_zero, List.set_cons_succ]
      refine wpAnyH_take (i := 17) (oi := { dst := Option.some 25, op := Go.Op.nilCheck (Go.Operand.tmp 24), type := 0, pos := "read.go:122", after := #[{ on := 16, ground := Go.Ground.data }], guard := Option.none }) (v := ?_) rfl (by kernel_rfl) (by kernel_rfl) (by kernel_rfl) (fun _ _ _ h => h) (Or.inl ⟨by rfl, ?_⟩) hHeld ?_
      rotate_left 1
      · intro ww hSw
        try dsimp only at hSw
        go_simp
        try with_reducible rfl
      try simp only [Act.put, List.setIfInBounds_toArray, List.set_cons_zero, List.set_cons_succ]
      refine wpAnyH_take (i := 18) (oi := { dst := Option.some 26, op := Go.Op.fieldAddr 95 (Go.Operand.tmp 25) 0, type := 0, pos := "read.go:122", after := #[{ on := 17, ground := Go.Ground.data }], guard := Option.none }) (v := ?_) rfl (by kernel_rfl) (by kernel_rfl) (by kernel_rfl) (fun _ _ _ h => h) (Or.inl ⟨by rfl, ?_⟩) hHeld ?_
      rotate_left 1
      · intro ww hSw
        try dsimp only at hSw
        go_simp
        try with_reducible rfl
      try simp only [Act.put, List.setIfInBounds_toArray, List.set_cons_zero, List.set_cons_succ]
      refine wpAnyH_take (i := 19) (oi := { dst := Option.some 27, op := Go.Op.load 93 (Go.Operand.tmp 26), type := 93, pos := "read.go:122", after := #[{ on := 18, ground := Go.Ground.data }], guard := Option.none }) (v := ?_) rfl (by kernel_rfl) (by kernel_rfl) (by kernel_rfl) (fun _ _ _ h => h) (Or.inl ⟨by rfl, ?_⟩) hHeld ?_
      rotate_left 1
      · intro ww hSw
        try dsimp only at hSw
        go_simp
        try with_reducible rfl
      try simp only [Act.put, List.setIfInBounds_toArray, List.set_cons_zero, List.set_cons_succ]
      refine wpAnyH_ready (rs := [5, 10]) (by kernel_rfl) (by simp) ?_
      refine AllReadyH.cons (o := { dst := Option.some 13, op := Go.Op.load 28 (Go.Operand.tmp 12), type := 28, pos := "read.go:122", after := #[{ on := 4, ground := Go.Ground.data }], guard := Option.none }) rfl (fun K hK => ?_) ?_
      · go_simp
        refine hK.out _ _ d0 (fun hHeld => ?_)
        clear hK K
        try simp only [Act.put, List.setIfInBounds_toArray, List.set_cons_zero, List.set_cons_succ]
        refine wpAnyH_ready (rs := [10]) (by kernel_rfl) (by simp) ?_
        refine AllReadyH.cons (o := { dst := Option.some 18, op := Go.Op.call { callee := Go.Callee.value (Go.Operand.func 87), args := #[Go.Operand.tmp 17, Go.Operand.const (Go.Value.int Go.IntKind.i64 4)], argTypes := #[93, 3] }, type := 3, pos := "read.go:122", after := #[{ on := 9, ground := Go.Ground.data }], guard := Option.none }) rfl (fun K hK => ?_) ?_
        · go_simp
          refine (rd_num (g + 1) q (p) 4 4 l _ RX.out rfl HL1.out).mono ?_
          rintro eY1 wY1 ⟨rfl, hrdY1, hgrY1⟩
          rw [HY1.out]
          have RY1 := Lib.hid hrdY1
          have KY1 := Lib.hid (KX.out.grown hgrY1 (by omega))
          have OY1 := Lib.hid (own_grown OX.out hgrY1 hqw)
          have BY1 := Lib.hid (BX.out.trans (grown_below hgrY1 (by omega) (by have := BX.out.size; omega)))
          clear hrdY1 hgrY1
          obtain ⟨a0, a1, a2, a3, a4, a5, a6, a7, a8, a9, a10, a11, a12, a13, a14, a15, a16, a17, a18⟩ := KY1.out.nt
          go_wp2_with fail
          refine hK.out _ _ a0 (fun hHeld => ?_)
          clear hK K
          try simp only [Act.put, List.setIfInBounds_toArray, List.set_cons_zero, List.set_cons_succ]
          refine wpAnyH_ready (rs := [15]) (by kernel_rfl) (by simp) ?_
          refine AllReadyH.cons (o := { dst := Option.some 23, op := Go.Op.call { callee := Go.Callee.value (Go.Operand.func 87), args := #[Go.Operand.tmp 22, Go.Operand.const (Go.Value.int Go.IntKind.i64 4)], argTypes := #[93, 3] }, type := 3, pos := "read.go:122", after := #[{ on := 14, ground := Go.Ground.data }, { on := 10, ground := Go.Ground.chain }], guard := Option.none }) rfl (fun K hK => ?_) ?_
          · go_simp
            refine (rd_num (g + 1) q (p + 4) 4 4 l _ RY1.out rfl HL2.out).mono ?_
            rintro eY2 wY2 ⟨rfl, hrdY2, hgrY2⟩
            rw [HY2.out]
            have RY2 := Lib.hid hrdY2
            have KY2 := Lib.hid (KY1.out.grown hgrY2 (by omega))
            have OY2 := Lib.hid (own_grown OY1.out hgrY2 hqw)
            have BY2 := Lib.hid (BY1.out.trans (grown_below hgrY2 (by omega) (by have := BY1.out.size; omega)))
            clear hrdY2 hgrY2
            obtain ⟨a0, a1, a2, a3, a4, a5, a6, a7, a8, a9, a10, a11, a12, a13, a14, a15, a16, a17, a18⟩ := KY2.out.nt
            go_wp2_with fail
            refine hK.out _ _ a0 (fun hHeld => ?_)
            clear hK K
            try simp only [Act.put, List.setIfInBounds_toArray, List.set_cons_zero, List.set_cons_succ]
            refine wpAnyH_ready (rs := [20]) (by kernel_rfl) (by simp) ?_
            refine AllReadyH.cons (o := { dst := Option.some 28, op := Go.Op.call { callee := Go.Callee.value (Go.Operand.func 87), args := #[Go.Operand.tmp 27, Go.Operand.const (Go.Value.int Go.IntKind.i64 4)], argTypes := #[93, 3] }, type := 3, pos := "read.go:122", after := #[{ on := 19, ground := Go.Ground.data }, { on := 15, ground := Go.Ground.chain }], guard := Option.none }) rfl (fun K hK => ?_) ?_
            · go_simp
              refine (rd_num (g + 1) q (p + 8) 4 4 l _ RY2.out rfl HL3.out).mono ?_
              rintro eY3 wY3 ⟨rfl, hrdY3, hgrY3⟩
              rw [HY3.out]
              have RY3 := Lib.hid hrdY3
              have KY3 := Lib.hid (KY2.out.grown hgrY3 (by omega))
              have OY3 := Lib.hid (own_grown OY2.out hgrY3 hqw)
              have BY3 := Lib.hid (BY2.out.trans (grown_below hgrY3 (by omega) (by have := BY2.out.size; omega)))
              clear hrdY3 hgrY3
              obtain ⟨a0, a1, a2, a3, a4, a5, a6, a7, a8, a9, a10, a11, a12, a13, a14, a15, a16, a17, a18⟩ := KY3.out.nt
              have HGY := Lib.hid (show g ≤ wY3.heap.size by have := BY3.out.size; omega)
              have HSZ := Lib.hid (show w.heap.size ≤ (wY3.alloc (.cells #[.int .i64 y1, .int .i64 y2, .int .i64 y3] 56)).heap.size by have := BY3.out.size; simp; omega)
              obtain ⟨ca0, -, -, -, -, -, -, -, -, -, -, -, -, -, ca14, -, -, -, -⟩ := (KY3.out.alloc (.cells #[.int .i64 y1, .int .i64 y2, .int .i64 y3] 56)).nt
              go_wp2_with fail
              refine hK.out _ _ a0 (fun hHeld => ?_)
              clear hK K
              try simp only [Act.put, List.setIfInBounds_toArray, List.set_cons_zero, List.set_cons_succ]
              refine wpAnyH_take (i := 21) (oi := { dst := Option.some 29, op := Go.Op.build 56 #[(0, Go.Operand.tmp 18), (1, Go.Operand.tmp 23), (2, Go.Operand.tmp 28)], type := 56, pos := "read.go:122", after := #[{ on := 10, ground := Go.Ground.data }, { on := 15, ground := Go.Ground.data }, { on := 20, ground := Go.Ground.data }], guard := Option.none }) (v := ?_) rfl (by kernel_rfl) (by kernel_rfl) (by kernel_rfl) (fun _ _ _ h => h) (Or.inl ⟨by rfl, ?_⟩) hHeld ?_
              rotate_left 1
              · intro ww hSw
                try dsimp only at hSw
                go_simp
                try with_reducible rfl
              try simp only [Act.put, List.setIfInBounds_toArray, List.set_cons_zero, List.set_cons_succ]
              refine wpAnyH_ready (rs := [22]) (by kernel_rfl) (by simp) ?_
              refine AllReadyH.cons (o := { dst := Option.some 30, op := Go.Op.buildSlice 28 1 #[(0, Go.Operand.tmp 29)], type := 28, pos := "read.go:122", after := #[{ on := 21, ground := Go.Ground.data }], guard := Option.none }) rfl (fun K hK => ?_) ?_
              · go_simp
                refine hK.out _ _ ca0 (fun hHeld => ?_)
                clear hK K
                try simp only [Act.put, List.setIfInBounds_toArray, List.set_cons_zero, List.set_cons_succ]
                refine wpAnyH_ready (rs := [23]) (by kernel_rfl) (by simp) ?_
                refine AllReadyH.cons (o := { dst := Option.some 31, op := Go.Op.call { callee := Go.Callee.builtin Go.Builtin.append, args := #[Go.Operand.tmp 13, Go.Operand.tmp 30], argTypes := #[28, 28] }, type := 28, pos := "read.go:122", after := #[{ on := 5, ground := Go.Ground.data }, { on := 22, ground := Go.Ground.data }, { on := 20, ground := Go.Ground.chain }], guard := Option.none }) rfl (fun K hK => ?_) ?_
                · refine step_append_grow (by rfl) (.tmp 13) (.tmp 30) 28 56 (.agg #[.int .i64 0, .int .i64 0, .int .i64 0]) 3 24 Tryz.underlying28 Tryz.infoKy rfl (by decide) (by decide) (by rfl) w.heap.size (.slice A k c) k (kyCells (kysAt l 24 k)) (by rfl) (OY3.out.alloc _) wY3.heap.size [.int .i64 y1, .int .i64 y2, .int .i64 y3] (by rfl) rfl (Blk.new wY3 56 #[.int .i64 y1, .int .i64 y2, .int .i64 y3]) (kyCells_one y1 y2 y3) HKM.out HSZ.out ?_
                  intro v' w' ho' hg' ha'
                  obtain ⟨A', c', rfl⟩ := own_slice ho'.out
                  have BK := Lib.hid (own_keeps (OY3.out.alloc _) hg'.out HSZ.out)
                  have KN := Lib.hid ((KY3.out.alloc _).below BK.out hgw)
                  have RN := Lib.hid ((RY3.out.alloc _).below BK.out hqw)
                  have BN := Lib.hid ((BY3.out.alloc HGY.out _).trans (BK.out.mono (Nat.le_of_lt hgw)))
                  obtain ⟨c0, -, -, -, -, -, -, -, -, -, -, -, -, -, c14, -, -, -, -⟩ := KN.out.nt
                  have f14 := KN.out.frozen 14
                  have cs0 := (show Blk (w'.setCell ⟨g, 14, none⟩ (.slice A' (k + 1) c')) g 95 #[.pointer (some ⟨q, 0, none⟩), .int .i64 kd, .int .i64 sd, .int .i64 0, .int .i64 0, .int .i64 0, .int .i64 0, .int .i64 0, .slice none 0 0, .bool false, .bool false, .bool false, .int .i64 0, .slice none 0 0, .slice A' (k + 1) c', .slice none 0 0, .slice none 0 0, .bool wr0, .int .i64 0] from KN.out.put 14 (.slice A' (k + 1) c')).nt.1
                  refine hK.out _ _ c0 (fun hHeld => ?_)
                  clear hK K
                  try simp only [Act.put, List.setIfInBounds_toArray, List.set_cons_zero, List.set_cons_succ]
                  refine wpAnyH_take (i := 24) (oi := { dst := Option.some 32, op := Go.Op.nilCheck (Go.Operand.tmp 8), type := 0, pos := "read.go:122", after := #[{ on := 0, ground := Go.Ground.data }, { on := 0, ground := Go.Ground.phase }, { on := 1, ground := Go.Ground.phase }, { on := 2, ground := Go.Ground.phase }, { on := 3, ground := Go.Ground.phase }, { on := 4, ground := Go.Ground.phase }, { on := 5, ground := Go.Ground.phase }, { on := 6, ground := Go.Ground.phase }, { on := 7, ground := Go.Ground.phase }, { on := 8, ground := Go.Ground.phase }, { on := 9, ground := Go.Ground.phase }, { on := 10, ground := Go.Ground.phase }, { on := 11, ground := Go.Ground.phase }, { on := 12, ground := Go.Ground.phase }, { on := 13, ground := Go.Ground.phase }, { on := 14, ground := Go.Ground.phase }, { on := 15, ground := Go.Ground.phase }, { on := 16, ground := Go.Ground.phase }, { on := 17, ground := Go.Ground.phase }, { on := 18, ground := Go.Ground.phase }, { on := 19, ground := Go.Ground.phase }, { on := 20, ground := Go.Ground.phase }, { on := 21, ground := Go.Ground.phase }, { on := 22, ground := Go.Ground.phase }, { on := 23, ground := Go.Ground.phase }], guard := Option.none }) (v := ?_) rfl (by kernel_rfl) (by kernel_rfl) (by kernel_rfl) (fun _ _ _ h => h) (Or.inl ⟨by rfl, ?_⟩) hHeld ?_
                  rotate_left 1
                  · intro ww hSw
                    try dsimp only at hSw
                    go_simp
                    try with_reducible rfl
                  try simp only [Act.put, List.setIfInBounds_toArray, List.set_cons_zero, List.set_cons_succ]
                  refine wpAnyH_take (i := 25) (oi := { dst := Option.some 33, op := Go.Op.fieldAddr 95 (Go.Operand.tmp 32) 1, type := 0, pos := "read.go:122", after := #[{ on := 24, ground := Go.Ground.data }, { on := 0, ground := Go.Ground.phase }, { on := 1, ground := Go.Ground.phase }, { on := 2, ground := Go.Ground.phase }, { on := 3, ground := Go.Ground.phase }, { on := 4, ground := Go.Ground.phase }, { on := 5, ground := Go.Ground.phase }, { on := 6, ground := Go.Ground.phase }, { on := 7, ground := Go.Ground.phase }, { on := 8, ground := Go.Ground.phase }, { on := 9, ground := Go.Ground.phase }, { on := 10, ground := Go.Ground.phase }, { on := 11, ground := Go.Ground.phase }, { on := 12, ground := Go.Ground.phase }, { on := 13, ground := Go.Ground.phase }, { on := 14, ground := Go.Ground.phase }, { on := 15, ground := Go.Ground.phase }, { on := 16, ground := Go.Ground.phase }, { on := 17, ground := Go.Ground.phase }, { on := 18, ground := Go.Ground.phase }, { on := 19, ground := Go.Ground.phase }, { on := 20, ground := Go.Ground.phase }, { on := 21, ground := Go.Ground.phase }, { on := 22, ground := Go.Ground.phase }, { on := 23, ground := Go.Ground.phase }], guard := Option.none }) (v := ?_) rfl (by kernel_rfl) (by kernel_rfl) (by kernel_rfl) (fun _ _ _ h => h) (Or.inl ⟨by rfl, ?_⟩) hHeld ?_
                  rotate_left 1
                  · intro ww hSw
                    try dsimp only at hSw
                    go_simp
                    try with_reducible rfl
                  try simp only [Act.put, List.setIfInBounds_toArray, List.set_cons_zero, List.set_cons_succ]
                  refine wpAnyH_take (i := 26) (oi := { dst := Option.some 34, op := Go.Op.fieldAddr 31 (Go.Operand.tmp 33) 4, type := 0, pos := "read.go:122", after := #[{ on := 25, ground := Go.Ground.data }, { on := 0, ground := Go.Ground.phase }, { on := 1, ground := Go.Ground.phase }, { on := 2, ground := Go.Ground.phase }, { on := 3, ground := Go.Ground.phase }, { on := 4, ground := Go.Ground.phase }, { on := 5, ground := Go.Ground.phase }, { on := 6, ground := Go.Ground.phase }, { on := 7, ground := Go.Ground.phase }, { on := 8, ground := Go.Ground.phase }, { on := 9, ground := Go.Ground.phase }, { on := 10, ground := Go.Ground.phase }, { on := 11, ground := Go.Ground.phase }, { on := 12, ground := Go.Ground.phase }, { on := 13, ground := Go.Ground.phase }, { on := 14, ground := Go.Ground.phase }, { on := 15, ground := Go.Ground.phase }, { on := 16, ground := Go.Ground.phase }, { on := 17, ground := Go.Ground.phase }, { on := 18, ground := Go.Ground.phase }, { on := 19, ground := Go.Ground.phase }, { on := 20, ground := Go.Ground.phase }, { on := 21, ground := Go.Ground.phase }, { on := 22, ground := Go.Ground.phase }, { on := 23, ground := Go.Ground.phase }], guard := Option.none }) (v := ?_) rfl (by kernel_rfl) (by kernel_rfl) (by kernel_rfl) (fun _ _ _ h => h) (Or.inl ⟨by rfl, ?_⟩) hHeld ?_
                  rotate_left 1
                  · intro ww hSw
                    try dsimp only at hSw
                    go_simp
                    try with_reducible rfl
                  try simp only [Act.put, List.setIfInBounds_toArray, List.set_cons_zero, List.set_cons_succ]
                  refine wpAnyH_ready (rs := [27]) (by kernel_rfl) (by simp) ?_
                  refine AllReadyH.cons (o := { dst := Option.none, op := Go.Op.store 28 (Go.Operand.tmp 34) (Go.Operand.tmp 31), type := 0, pos := "read.go:122", after := #[{ on := 26, ground := Go.Ground.data }, { on := 23, ground := Go.Ground.data }, { on := 23, ground := Go.Ground.chain }, { on := 0, ground := Go.Ground.phase }, { on := 1, ground := Go.Ground.phase }, { on := 2, ground := Go.Ground.phase }, { on := 3, ground := Go.Ground.phase }, { on := 4, ground := Go.Ground.phase }, { on := 5, ground := Go.Ground.phase }, { on := 6, ground := Go.Ground.phase }, { on := 7, ground := Go.Ground.phase }, { on := 8, ground := Go.Ground.phase }, { on := 9, ground := Go.Ground.phase }, { on := 10, ground := Go.Ground.phase }, { on := 11, ground := Go.Ground.phase }, { on := 12, ground := Go.Ground.phase }, { on := 13, ground := Go.Ground.phase }, { on := 14, ground := Go.Ground.phase }, { on := 15, ground := Go.Ground.phase }, { on := 16, ground := Go.Ground.phase }, { on := 17, ground := Go.Ground.phase }, { on := 18, ground := Go.Ground.phase }, { on := 19, ground := Go.Ground.phase }, { on := 20, ground := Go.Ground.phase }, { on := 21, ground := Go.Ground.phase }, { on := 22, ground := Go.Ground.phase }, { on := 23, ground := Go.Ground.phase }], guard := Option.none }) rfl (fun K hK => ?_) ?_
                  · go_simp
                    refine hK.out _ _ cs0 (fun hHeld => ?_)
                    clear hK K
                    try simp only [Act.put, List.setIfInBounds_toArray, List.set_cons_zero, List.set_cons_succ]
                    refine wpAnyH_done (by kernel_rfl) ?_ _
                    have KF := Lib.hid (show Blk (w'.setCell ⟨g, 14, none⟩ (.slice A' (k + 1) c')) g 95 #[.pointer (some ⟨q, 0, none⟩), .int .i64 kd, .int .i64 sd, .int .i64 0, .int .i64 0, .int .i64 0, .int .i64 0, .int .i64 0, .slice none 0 0, .bool false, .bool false, .bool false, .int .i64 0, .slice none 0 0, .slice A' (k + 1) c', .slice none 0 0, .slice none 0 0, .bool wr0, .int .i64 0] from KN.out.put 14 (.slice A' (k + 1) c'))
                    have OF := Lib.hid (own_set ho'.out ⟨g, 14, none⟩ (.slice A' (k + 1) c') hgw)
                    have BF := Lib.hid (BN.out.setCell (p := ⟨g, 14, none⟩) (by simp) (.slice A' (k + 1) c'))
                    have RF := Lib.hid (RN.out.far (p := ⟨g, 14, none⟩) (.inl (by simp)) (.slice A' (k + 1) c'))
                    go_wp2
                    go_roundw
                    case rel =>
                      have hp9 := HP.out
                      refine ⟨A', k + 1, c', Lib.hid (by omega), KF, Lib.hid ?_, Lib.hid ?_, BF⟩
                      · have h9 := RF.out
                        rw [show 24 + 12 * (k + 1) = p + 8 + 4 by omega]
                        exact h9
                      · have h9 := OF.out
                        rw [kysAt_succ, kyCells_snoc, hp9, HY1.out, HY2.out, HY3.out]
                        exact h9
                    case measure =>
                      have hp9 := HP.out
                      rw [HPS.out, RF.out.toE.posOf]
                      omega
                  exact AllReadyH.nil
                exact AllReadyH.nil
              exact AllReadyH.nil
            exact AllReadyH.nil
          exact AllReadyH.nil
        exact AllReadyH.nil
      refine AllReadyH.cons (o := { dst := Option.some 18, op := Go.Op.call { callee := Go.Callee.value (Go.Operand.func 87), args := #[Go.Operand.tmp 17, Go.Operand.const (Go.Value.int Go.IntKind.i64 4)], argTypes := #[93, 3] }, type := 3, pos := "read.go:122", after := #[{ on := 9, ground := Go.Ground.data }], guard := Option.none }) rfl (fun K hK => ?_) ?_
      · go_simp
        refine (rd_num (g + 1) q (p) 4 4 l _ RX.out rfl HL1.out).mono ?_
        rintro eY1 wY1 ⟨rfl, hrdY1, hgrY1⟩
        rw [HY1.out]
        have RY1 := Lib.hid hrdY1
        have KY1 := Lib.hid (KX.out.grown hgrY1 (by omega))
        have OY1 := Lib.hid (own_grown OX.out hgrY1 hqw)
        have BY1 := Lib.hid (BX.out.trans (grown_below hgrY1 (by omega) (by have := BX.out.size; omega)))
        clear hrdY1 hgrY1
        obtain ⟨a0, a1, a2, a3, a4, a5, a6, a7, a8, a9, a10, a11, a12, a13, a14, a15, a16, a17, a18⟩ := KY1.out.nt
        go_wp2_with fail
        refine hK.out _ _ a0 (fun hHeld => ?_)
        clear hK K
        try simp only [Act.put, List.setIfInBounds_toArray, List.set_cons_zero, List.set_cons_succ]
        refine wpAnyH_ready (rs := [5, 15]) (by kernel_rfl) (by simp) ?_
        refine AllReadyH.cons (o := { dst := Option.some 13, op := Go.Op.load 28 (Go.Operand.tmp 12), type := 28, pos := "read.go:122", after := #[{ on := 4, ground := Go.Ground.data }], guard := Option.none }) rfl (fun K hK => ?_) ?_
        · go_simp
          refine hK.out _ _ a0 (fun hHeld => ?_)
          clear hK K
          try simp only [Act.put, List.setIfInBounds_toArray, List.set_cons_zero, List.set_cons_succ]
          refine wpAnyH_ready (rs := [15]) (by kernel_rfl) (by simp) ?_
          refine AllReadyH.cons (o := { dst := Option.some 23, op := Go.Op.call { callee := Go.Callee.value (Go.Operand.func 87), args := #[Go.Operand.tmp 22, Go.Operand.const (Go.Value.int Go.IntKind.i64 4)], argTypes := #[93, 3] }, type := 3, pos := "read.go:122", after := #[{ on := 14, ground := Go.Ground.data }, { on := 10, ground := Go.Ground.chain }], guard := Option.none }) rfl (fun K hK => ?_) ?_
          · go_simp
            refine (rd_num (g + 1) q (p + 4) 4 4 l _ RY1.out rfl HL2.out).mono ?_
            rintro eY2 wY2 ⟨rfl, hrdY2, hgrY2⟩
            rw [HY2.out]
            have RY2 := Lib.hid hrdY2
            have KY2 := Lib.hid (KY1.out.grown hgrY2 (by omega))
            have OY2 := Lib.hid (own_grown OY1.out hgrY2 hqw)
            have BY2 := Lib.hid (BY1.out.trans (grown_below hgrY2 (by omega) (by have := BY1.out.size; omega)))
            clear hrdY2 hgrY2
            obtain ⟨a0, a1, a2, a3, a4, a5, a6, a7, a8, a9, a10, a11, a12, a13, a14, a15, a16, a17, a18⟩ := KY2.out.nt
            go_wp2_with fail
            refine hK.out _ _ a0 (fun hHeld => ?_)
            clear hK K
            try simp only [Act.put, List.setIfInBounds_toArray, List.set_cons_zero, List.set_cons_succ]
            refine wpAnyH_ready (rs := [20]) (by kernel_rfl) (by simp) ?_
            refine AllReadyH.cons (o := { dst := Option.some 28, op := Go.Op.call { callee := Go.Callee.value (Go.Operand.func 87), args := #[Go.Operand.tmp 27, Go.Operand.const (Go.Value.int Go.IntKind.i64 4)], argTypes := #[93, 3] }, type := 3, pos := "read.go:122", after := #[{ on := 19, ground := Go.Ground.data }, { on := 15, ground := Go.Ground.chain }], guard := Option.none }) rfl (fun K hK => ?_) ?_
            · go_simp
              refine (rd_num (g + 1) q (p + 8) 4 4 l _ RY2.out rfl HL3.out).mono ?_
              rintro eY3 wY3 ⟨rfl, hrdY3, hgrY3⟩
              rw [HY3.out]
              have RY3 := Lib.hid hrdY3
              have KY3 := Lib.hid (KY2.out.grown hgrY3 (by omega))
              have OY3 := Lib.hid (own_grown OY2.out hgrY3 hqw)
              have BY3 := Lib.hid (BY2.out.trans (grown_below hgrY3 (by omega) (by have := BY2.out.size; omega)))
              clear hrdY3 hgrY3
              obtain ⟨a0, a1, a2, a3, a4, a5, a6, a7, a8, a9, a10, a11, a12, a13, a14, a15, a16, a17, a18⟩ := KY3.out.nt
              have HGY := Lib.hid (show g ≤ wY3.heap.size by have := BY3.out.size; omega)
              have HSZ := Lib.hid (show w.heap.size ≤ (wY3.alloc (.cells #[.int .i64 y1, .int .i64 y2, .int .i64 y3] 56)).heap.size by have := BY3.out.size; simp; omega)
              obtain ⟨ca0, -, -, -, -, -, -, -, -, -, -, -, -, -, ca14, -, -, -, -⟩ := (KY3.out.alloc (.cells #[.int .i64 y1, .int .i64 y2, .int .i64 y3] 56)).nt
              go_wp2_with fail
              refine hK.out _ _ a0 (fun hHeld => ?_)
              clear hK K
              try simp only [Act.put, List.setIfInBounds_toArray, List.set_cons_zero, List.set_cons_succ]
              refine wpAnyH_take (i := 21) (oi := { dst := Option.some 29, op := Go.Op.build 56 #[(0, Go.Operand.tmp 18), (1, Go.Operand.tmp 23), (2, Go.Operand.tmp 28)], type := 56, pos := "read.go:122", after := #[{ on := 10, ground := Go.Ground.data }, { on := 15, ground := Go.Ground.data }, { on := 20, ground := Go.Ground.data }], guard := Option.none }) (v := ?_) rfl (by kernel_rfl) (by kernel_rfl) (by kernel_rfl) (fun _ _ _ h => h) (Or.inl ⟨by rfl, ?_⟩) hHeld ?_
              rotate_left 1
              · intro ww hSw
                try dsimp only at hSw
                go_simp
                try with_reducible rfl
              try simp only [Act.put, List.setIfInBounds_toArray, List.set_cons_zero, List.set_cons_succ]
              refine wpAnyH_ready (rs := [22]) (by kernel_rfl) (by simp) ?_
              refine AllReadyH.cons (o := { dst := Option.some 30, op := Go.Op.buildSlice 28 1 #[(0, Go.Operand.tmp 29)], type := 28, pos := "read.go:122", after := #[{ on := 21, ground := Go.Ground.data }], guard := Option.none }) rfl (fun K hK => ?_) ?_
              · go_simp
                refine hK.out _ _ ca0 (fun hHeld => ?_)
                clear hK K
                try simp only [Act.put, List.setIfInBounds_toArray, List.set_cons_zero, List.set_cons_succ]
                refine wpAnyH_ready (rs := [23]) (by kernel_rfl) (by simp) ?_
                refine AllReadyH.cons (o := { dst := Option.some 31, op := Go.Op.call { callee := Go.Callee.builtin Go.Builtin.append, args := #[Go.Operand.tmp 13, Go.Operand.tmp 30], argTypes := #[28, 28] }, type := 28, pos := "read.go:122", after := #[{ on := 5, ground := Go.Ground.data }, { on := 22, ground := Go.Ground.data }, { on := 20, ground := Go.Ground.chain }], guard := Option.none }) rfl (fun K hK => ?_) ?_
                · refine step_append_grow (by rfl) (.tmp 13) (.tmp 30) 28 56 (.agg #[.int .i64 0, .int .i64 0, .int .i64 0]) 3 24 Tryz.underlying28 Tryz.infoKy rfl (by decide) (by decide) (by rfl) w.heap.size (.slice A k c) k (kyCells (kysAt l 24 k)) (by rfl) (OY3.out.alloc _) wY3.heap.size [.int .i64 y1, .int .i64 y2, .int .i64 y3] (by rfl) rfl (Blk.new wY3 56 #[.int .i64 y1, .int .i64 y2, .int .i64 y3]) (kyCells_one y1 y2 y3) HKM.out HSZ.out ?_
                  intro v' w' ho' hg' ha'
                  obtain ⟨A', c', rfl⟩ := own_slice ho'.out
                  have BK := Lib.hid (own_keeps (OY3.out.alloc _) hg'.out HSZ.out)
                  have KN := Lib.hid ((KY3.out.alloc _).below BK.out hgw)
                  have RN := Lib.hid ((RY3.out.alloc _).below BK.out hqw)
                  have BN := Lib.hid ((BY3.out.alloc HGY.out _).trans (BK.out.mono (Nat.le_of_lt hgw)))
                  obtain ⟨c0, -, -, -, -, -, -, -, -, -, -, -, -, -, c14, -, -, -, -⟩ := KN.out.nt
                  have f14 := KN.out.frozen 14
                  have cs0 := (show Blk (w'.setCell ⟨g, 14, none⟩ (.slice A' (k + 1) c')) g 95 #[.pointer (some ⟨q, 0, none⟩), .int .i64 kd, .int .i64 sd, .int .i64 0, .int .i64 0, .int .i64 0, .int .i64 0, .int .i64 0, .slice none 0 0, .bool false, .bool false, .bool false, .int .i64 0, .slice none 0 0, .slice A' (k + 1) c', .slice none 0 0, .slice none 0 0, .bool wr0, .int .i64 0] from KN.out.put 14 (.slice A' (k + 1) c')).nt.1
                  refine hK.out _ _ c0 (fun hHeld => ?_)
                  clear hK K
                  try simp only [Act.put, List.setIfInBounds_toArray, List.set_cons_zero, List.set_cons_succ]
                  refine wpAnyH_take (i := 24) (oi := { dst := Option.some 32, op := Go.Op.nilCheck (Go.Operand.tmp 8), type := 0, pos := "read.go:122", after := #[{ on := 0, ground := Go.Ground.data }, { on := 0, ground := Go.Ground.phase }, { on := 1, ground := Go.Ground.phase }, { on := 2, ground := Go.Ground.phase }, { on := 3, ground := Go.Ground.phase }, { on := 4, ground := Go.Ground.phase }, { on := 5, ground := Go.Ground.phase }, { on := 6, ground := Go.Ground.phase }, { on := 7, ground := Go.Ground.phase }, { on := 8, ground := Go.Ground.phase }, { on := 9, ground := Go.Ground.phase }, { on := 10, ground := Go.Ground.phase }, { on := 11, ground := Go.Ground.phase }, { on := 12, ground := Go.Ground.phase }, { on := 13, ground := Go.Ground.phase }, { on := 14, ground := Go.Ground.phase }, { on := 15, ground := Go.Ground.phase }, { on := 16, ground := Go.Ground.phase }, { on := 17, ground := Go.Ground.phase }, { on := 18, ground := Go.Ground.phase }, { on := 19, ground := Go.Ground.phase }, { on := 20, ground := Go.Ground.phase }, { on := 21, ground := Go.Ground.phase }, { on := 22, ground := Go.Ground.phase }, { on := 23, ground := Go.Ground.phase }], guard := Option.none }) (v := ?_) rfl (by kernel_rfl) (by kernel_rfl) (by kernel_rfl) (fun _ _ _ h => h) (Or.inl ⟨by rfl, ?_⟩) hHeld ?_
                  rotate_left 1
                  · intro ww hSw
                    try dsimp only at hSw
                    go_simp
                    try with_reducible rfl
                  try simp only [Act.put, List.setIfInBounds_toArray, List.set_cons_zero, List.set_cons_succ]
                  refine wpAnyH_take (i := 25) (oi := { dst := Option.some 33, op := Go.Op.fieldAddr 95 (Go.Operand.tmp 32) 1, type := 0, pos := "read.go:122", after := #[{ on := 24, ground := Go.Ground.data }, { on := 0, ground := Go.Ground.phase }, { on := 1, ground := Go.Ground.phase }, { on := 2, ground := Go.Ground.phase }, { on := 3, ground := Go.Ground.phase }, { on := 4, ground := Go.Ground.phase }, { on := 5, ground := Go.Ground.phase }, { on := 6, ground := Go.Ground.phase }, { on := 7, ground := Go.Ground.phase }, { on := 8, ground := Go.Ground.phase }, { on := 9, ground := Go.Ground.phase }, { on := 10, ground := Go.Ground.phase }, { on := 11, ground := Go.Ground.phase }, { on := 12, ground := Go.Ground.phase }, { on := 13, ground := Go.Ground.phase }, { on := 14, ground := Go.Ground.phase }, { on := 15, ground := Go.Ground.phase }, { on := 16, ground := Go.Ground.phase }, { on := 17, ground := Go.Ground.phase }, { on := 18, ground := Go.Ground.phase }, { on := 19, ground := Go.Ground.phase }, { on := 20, ground := Go.Ground.phase }, { on := 21, ground := Go.Ground.phase }, { on := 22, ground := Go.Ground.phase }, { on := 23, ground := Go.Ground.phase }], guard := Option.none }) (v := ?_) rfl (by kernel_rfl) (by kernel_rfl) (by kernel_rfl) (fun _ _ _ h => h) (Or.inl ⟨by rfl, ?_⟩) hHeld ?_
                  rotate_left 1
                  · intro ww hSw
                    try dsimp only at hSw
                    go_simp
                    try with_reducible rfl
                  try simp only [Act.put, List.setIfInBounds_toArray, List.set_cons_zero, List.set_cons_succ]
                  refine wpAnyH_take (i := 26) (oi := { dst := Option.some 34, op := Go.Op.fieldAddr 31 (Go.Operand.tmp 33) 4, type := 0, pos := "read.go:122", after := #[{ on := 25, ground := Go.Ground.data }, { on := 0, ground := Go.Ground.phase }, { on := 1, ground := Go.Ground.phase }, { on := 2, ground := Go.Ground.phase }, { on := 3, ground := Go.Ground.phase }, { on := 4, ground := Go.Ground.phase }, { on := 5, ground := Go.Ground.phase }, { on := 6, ground := Go.Ground.phase }, { on := 7, ground := Go.Ground.phase }, { on := 8, ground := Go.Ground.phase }, { on := 9, ground := Go.Ground.phase }, { on := 10, ground := Go.Ground.phase }, { on := 11, ground := Go.Ground.phase }, { on := 12, ground := Go.Ground.phase }, { on := 13, ground := Go.Ground.phase }, { on := 14, ground := Go.Ground.phase }, { on := 15, ground := Go.Ground.phase }, { on := 16, ground := Go.Ground.phase }, { on := 17, ground := Go.Ground.phase }, { on := 18, ground := Go.Ground.phase }, { on := 19, ground := Go.Ground.phase }, { on := 20, ground := Go.Ground.phase }, { on := 21, ground := Go.Ground.phase }, { on := 22, ground := Go.Ground.phase }, { on := 23, ground := Go.Ground.phase }], guard := Option.none }) (v := ?_) rfl (by kernel_rfl) (by kernel_rfl) (by kernel_rfl) (fun _ _ _ h => h) (Or.inl ⟨by rfl, ?_⟩) hHeld ?_
                  rotate_left 1
                  · intro ww hSw
                    try dsimp only at hSw
                    go_simp
                    try with_reducible rfl
                  try simp only [Act.put, List.setIfInBounds_toArray, List.set_cons_zero, List.set_cons_succ]
                  refine wpAnyH_ready (rs := [27]) (by kernel_rfl) (by simp) ?_
                  refine AllReadyH.cons (o := { dst := Option.none, op := Go.Op.store 28 (Go.Operand.tmp 34) (Go.Operand.tmp 31), type := 0, pos := "read.go:122", after := #[{ on := 26, ground := Go.Ground.data }, { on := 23, ground := Go.Ground.data }, { on := 23, ground := Go.Ground.chain }, { on := 0, ground := Go.Ground.phase }, { on := 1, ground := Go.Ground.phase }, { on := 2, ground := Go.Ground.phase }, { on := 3, ground := Go.Ground.phase }, { on := 4, ground := Go.Ground.phase }, { on := 5, ground := Go.Ground.phase }, { on := 6, ground := Go.Ground.phase }, { on := 7, ground := Go.Ground.phase }, { on := 8, ground := Go.Ground.phase }, { on := 9, ground := Go.Ground.phase }, { on := 10, ground := Go.Ground.phase }, { on := 11, ground := Go.Ground.phase }, { on := 12, ground := Go.Ground.phase }, { on := 13, ground := Go.Ground.phase }, { on := 14, ground := Go.Ground.phase }, { on := 15, ground := Go.Ground.phase }, { on := 16, ground := Go.Ground.phase }, { on := 17, ground := Go.Ground.phase }, { on := 18, ground := Go.Ground.phase }, { on := 19, ground := Go.Ground.phase }, { on := 20, ground := Go.Ground.phase }, { on := 21, ground := Go.Ground.phase }, { on := 22, ground := Go.Ground.phase }, { on := 23, ground := Go.Ground.phase }], guard := Option.none }) rfl (fun K hK => ?_) ?_
                  · go_simp
                    refine hK.out _ _ cs0 (fun hHeld => ?_)
                    clear hK K
                    try simp only [Act.put, List.setIfInBounds_toArray, List.set_cons_zero, List.set_cons_succ]
                    refine wpAnyH_done (by kernel_rfl) ?_ _
                    have KF := Lib.hid (show Blk (w'.setCell ⟨g, 14, none⟩ (.slice A' (k + 1) c')) g 95 #[.pointer (some ⟨q, 0, none⟩), .int .i64 kd, .int .i64 sd, .int .i64 0, .int .i64 0, .int .i64 0, .int .i64 0, .int .i64 0, .slice none 0 0, .bool false, .bool false, .bool false, .int .i64 0, .slice none 0 0, .slice A' (k + 1) c', .slice none 0 0, .slice none 0 0, .bool wr0, .int .i64 0] from KN.out.put 14 (.slice A' (k + 1) c'))
                    have OF := Lib.hid (own_set ho'.out ⟨g, 14, none⟩ (.slice A' (k + 1) c') hgw)
                    have BF := Lib.hid (BN.out.setCell (p := ⟨g, 14, none⟩) (by simp) (.slice A' (k + 1) c'))
                    have RF := Lib.hid (RN.out.far (p := ⟨g, 14, none⟩) (.inl (by simp)) (.slice A' (k + 1) c'))
                    go_wp2
                    go_roundw
                    case rel =>
                      have hp9 := HP.out
                      refine ⟨A', k + 1, c', Lib.hid (by omega), KF, Lib.hid ?_, Lib.hid ?_, BF⟩
                      · have h9 := RF.out
                        rw [show 24 + 12 * (k + 1) = p + 8 + 4 by omega]
                        exact h9
                      · have h9 := OF.out
                        rw [kysAt_succ, kyCells_snoc, hp9, HY1.out, HY2.out, HY3.out]
                        exact h9
                    case measure =>
                      have hp9 := HP.out
                      rw [HPS.out, RF.out.toE.posOf]
                      omega
                  exact AllReadyH.nil
                exact AllReadyH.nil
              exact AllReadyH.nil
            exact AllReadyH.nil
          exact AllReadyH.nil
        refine AllReadyH.cons (o := { dst := Option.some 23, op := Go.Op.call { callee := Go.Callee.value (Go.Operand.func 87), args := #[Go.Operand.tmp 22, Go.Operand.const (Go.Value.int Go.IntKind.i64 4)], argTypes := #[93, 3] }, type := 3, pos := "read.go:122", after := #[{ on := 14, ground := Go.Ground.data }, { on := 10, ground := Go.Ground.chain }], guard := Option.none }) rfl (fun K hK => ?_) ?_
        · go_simp
          refine (rd_num (g + 1) q (p + 4) 4 4 l _ RY1.out rfl HL2.out).mono ?_
          rintro eY2 wY2 ⟨rfl, hrdY2, hgrY2⟩
          rw [HY2.out]
          have RY2 := Lib.hid hrdY2
          have KY2 := Lib.hid (KY1.out.grown hgrY2 (by omega))
          have OY2 := Lib.hid (own_grown OY1.out hgrY2 hqw)
          have BY2 := Lib.hid (BY1.out.trans (grown_below hgrY2 (by omega) (by have := BY1.out.size; omega)))
          clear hrdY2 hgrY2
          obtain ⟨a0, a1, a2, a3, a4, a5, a6, a7, a8, a9, a10, a11, a12, a13, a14, a15, a16, a17, a18⟩ := KY2.out.nt
          go_wp2_with fail
          refine hK.out _ _ a0 (fun hHeld => ?_)
          clear hK K
          try simp only [Act.put, List.setIfInBounds_toArray, List.set_cons_zero, List.set_cons_succ]
          refine wpAnyH_ready (rs := [5, 20]) (by kernel_rfl) (by simp) ?_
          refine AllReadyH.cons (o := { dst := Option.some 13, op := Go.Op.load 28 (Go.Operand.tmp 12), type := 28, pos := "read.go:122", after := #[{ on := 4, ground := Go.Ground.data }], guard := Option.none }) rfl (fun K hK => ?_) ?_
          · go_simp
            refine hK.out _ _ a0 (fun hHeld => ?_)
            clear hK K
            try simp only [Act.put, List.setIfInBounds_toArray, List.set_cons_zero, List.set_cons_succ]
            refine wpAnyH_ready (rs := [20]) (by kernel_rfl) (by simp) ?_
            refine AllReadyH.cons (o := { dst := Option.some 28, op := Go.Op.call { callee := Go.Callee.value (Go.Operand.func 87), args := #[Go.Operand.tmp 27, Go.Operand.const (Go.Value.int Go.IntKind.i64 4)], argTypes := #[93, 3] }, type := 3, pos := "read.go:122", after := #[{ on := 19, ground := Go.Ground.data }, { on := 15, ground := Go.Ground.chain }], guard := Option.none }) rfl (fun K hK => ?_) ?_
            · go_simp
              refine (rd_num (g + 1) q (p + 8) 4 4 l _ RY2.out rfl HL3.out).mono ?_
              rintro eY3 wY3 ⟨rfl, hrdY3, hgrY3⟩
              rw [HY3.out]
              have RY3 := Lib.hid hrdY3
              have KY3 := Lib.hid (KY2.out.grown hgrY3 (by omega))
              have OY3 := Lib.hid (own_grown OY2.out hgrY3 hqw)
              have BY3 := Lib.hid (BY2.out.trans (grown_below hgrY3 (by omega) (by have := BY2.out.size; omega)))
              clear hrdY3 hgrY3
              obtain ⟨a0, a1, a2, a3, a4, a5, a6, a7, a8, a9, a10, a11, a12, a13, a14, a15, a16, a17, a18⟩ := KY3.out.nt
              have HGY := Lib.hid (show g ≤ wY3.heap.size by have := BY3.out.size; omega)
              have HSZ := Lib.hid (show w.heap.size ≤ (wY3.alloc (.cells #[.int .i64 y1, .int .i64 y2, .int .i64 y3] 56)).heap.size by have := BY3.out.size; simp; omega)
              obtain ⟨ca0, -, -, -, -, -, -, -, -, -, -, -, -, -, ca14, -, -, -, -⟩ := (KY3.out.alloc (.cells #[.int .i64 y1, .int .i64 y2, .int .i64 y3] 56)).nt
              go_wp2_with fail
              refine hK.out _ _ a0 (fun hHeld => ?_)
              clear hK K
              try simp only [Act.put, List.setIfInBounds_toArray, List.set_cons_zero, List.set_cons_succ]
              refine wpAnyH_take (i := 21) (oi := { dst := Option.some 29, op := Go.Op.build 56 #[(0, Go.Operand.tmp 18), (1, Go.Operand.tmp 23), (2, Go.Operand.tmp 28)], type := 56, pos := "read.go:122", after := #[{ on := 10, ground := Go.Ground.data }, { on := 15, ground := Go.Ground.data }, { on := 20, ground := Go.Ground.data }], guard := Option.none }) (v := ?_) rfl (by kernel_rfl) (by kernel_rfl) (by kernel_rfl) (fun _ _ _ h => h) (Or.inl ⟨by rfl, ?_⟩) hHeld ?_
              rotate_left 1
              · intro ww hSw
                try dsimp only at hSw
                go_simp
                try with_reducible rfl
              try simp only [Act.put, List.setIfInBounds_toArray, List.set_cons_zero, List.set_cons_succ]
              refine wpAnyH_ready (rs := [22]) (by kernel_rfl) (by simp) ?_
              refine AllReadyH.cons (o := { dst := Option.some 30, op := Go.Op.buildSlice 28 1 #[(0, Go.Operand.tmp 29)], type := 28, pos := "read.go:122", after := #[{ on := 21, ground := Go.Ground.data }], guard := Option.none }) rfl (fun K hK => ?_) ?_
              · go_simp
                refine hK.out _ _ ca0 (fun hHeld => ?_)
                clear hK K
                try simp only [Act.put, List.setIfInBounds_toArray, List.set_cons_zero, List.set_cons_succ]
                refine wpAnyH_ready (rs := [23]) (by kernel_rfl) (by simp) ?_
                refine AllReadyH.cons (o := { dst := Option.some 31, op := Go.Op.call { callee := Go.Callee.builtin Go.Builtin.append, args := #[Go.Operand.tmp 13, Go.Operand.tmp 30], argTypes := #[28, 28] }, type := 28, pos := "read.go:122", after := #[{ on := 5, ground := Go.Ground.data }, { on := 22, ground := Go.Ground.data }, { on := 20, ground := Go.Ground.chain }], guard := Option.none }) rfl (fun K hK => ?_) ?_
                · refine step_append_grow (by rfl) (.tmp 13) (.tmp 30) 28 56 (.agg #[.int .i64 0, .int .i64 0, .int .i64 0]) 3 24 Tryz.underlying28 Tryz.infoKy rfl (by decide) (by decide) (by rfl) w.heap.size (.slice A k c) k (kyCells (kysAt l 24 k)) (by rfl) (OY3.out.alloc _) wY3.heap.size [.int .i64 y1, .int .i64 y2, .int .i64 y3] (by rfl) rfl (Blk.new wY3 56 #[.int .i64 y1, .int .i64 y2, .int .i64 y3]) (kyCells_one y1 y2 y3) HKM.out HSZ.out ?_
                  intro v' w' ho' hg' ha'
                  obtain ⟨A', c', rfl⟩ := own_slice ho'.out
                  have BK := Lib.hid (own_keeps (OY3.out.alloc _) hg'.out HSZ.out)
                  have KN := Lib.hid ((KY3.out.alloc _).below BK.out hgw)
                  have RN := Lib.hid ((RY3.out.alloc _).below BK.out hqw)
                  have BN := Lib.hid ((BY3.out.alloc HGY.out _).trans (BK.out.mono (Nat.le_of_lt hgw)))
                  obtain ⟨c0, -, -, -, -, -, -, -, -, -, -, -, -, -, c14, -, -, -, -⟩ := KN.out.nt
                  have f14 := KN.out.frozen 14
                  have cs0 := (show Blk (w'.setCell ⟨g, 14, none⟩ (.slice A' (k + 1) c')) g 95 #[.pointer (some ⟨q, 0, none⟩), .int .i64 kd, .int .i64 sd, .int .i64 0, .int .i64 0, .int .i64 0, .int .i64 0, .int .i64 0, .slice none 0 0, .bool false, .bool false, .bool false, .int .i64 0, .slice none 0 0, .slice A' (k + 1) c', .slice none 0 0, .slice none 0 0, .bool wr0, .int .i64 0] from KN.out.put 14 (.slice A' (k + 1) c')).nt.1
                  refine hK.out _ _ c0 (fun hHeld => ?_)
                  clear hK K
                  try simp only [Act.put, List.setIfInBounds_toArray, List.set_cons_zero, List.set_cons_succ]
                  refine wpAnyH_take (i := 24) (oi := { dst := Option.some 32, op := Go.Op.nilCheck (Go.Operand.tmp 8), type := 0, pos := "read.go:122", after := #[{ on := 0, ground := Go.Ground.data }, { on := 0, ground := Go.Ground.phase }, { on := 1, ground := Go.Ground.phase }, { on := 2, ground := Go.Ground.phase }, { on := 3, ground := Go.Ground.phase }, { on := 4, ground := Go.Ground.phase }, { on := 5, ground := Go.Ground.phase }, { on := 6, ground := Go.Ground.phase }, { on := 7, ground := Go.Ground.phase }, { on := 8, ground := Go.Ground.phase }, { on := 9, ground := Go.Ground.phase }, { on := 10, ground := Go.Ground.phase }, { on := 11, ground := Go.Ground.phase }, { on := 12, ground := Go.Ground.phase }, { on := 13, ground := Go.Ground.phase }, { on := 14, ground := Go.Ground.phase }, { on := 15, ground := Go.Ground.phase }, { on := 16, ground := Go.Ground.phase }, { on := 17, ground := Go.Ground.phase }, { on := 18, ground := Go.Ground.phase }, { on := 19, ground := Go.Ground.phase }, { on := 20, ground := Go.Ground.phase }, { on := 21, ground := Go.Ground.phase }, { on := 22, ground := Go.Ground.phase }, { on := 23, ground := Go.Ground.phase }], guard := Option.none }) (v := ?_) rfl (by kernel_rfl) (by kernel_rfl) (by kernel_rfl) (fun _ _ _ h => h) (Or.inl ⟨by rfl, ?_⟩) hHeld ?_
                  rotate_left 1
                  · intro ww hSw
                    try dsimp only at hSw
                    go_simp
                    try with_reducible rfl
                  try simp only [Act.put, List.setIfInBounds_toArray, List.set_cons_zero, List.set_cons_succ]
                  refine wpAnyH_take (i := 25) (oi := { dst := Option.some 33, op := Go.Op.fieldAddr 95 (Go.Operand.tmp 32) 1, type := 0, pos := "read.go:122", after := #[{ on := 24, ground := Go.Ground.data }, { on := 0, ground := Go.Ground.phase }, { on := 1, ground := Go.Ground.phase }, { on := 2, ground := Go.Ground.phase }, { on := 3, ground := Go.Ground.phase }, { on := 4, ground := Go.Ground.phase }, { on := 5, ground := Go.Ground.phase }, { on := 6, ground := Go.Ground.phase }, { on := 7, ground := Go.Ground.phase }, { on := 8, ground := Go.Ground.phase }, { on := 9, ground := Go.Ground.phase }, { on := 10, ground := Go.Ground.phase }, { on := 11, ground := Go.Ground.phase }, { on := 12, ground := Go.Ground.phase }, { on := 13, ground := Go.Ground.phase }, { on := 14, ground := Go.Ground.phase }, { on := 15, ground := Go.Ground.phase }, { on := 16, ground := Go.Ground.phase }, { on := 17, ground := Go.Ground.phase }, { on := 18, ground := Go.Ground.phase }, { on := 19, ground := Go.Ground.phase }, { on := 20, ground := Go.Ground.phase }, { on := 21, ground := Go.Ground.phase }, { on := 22, ground := Go.Ground.phase }, { on := 23, ground := Go.Ground.phase }], guard := Option.none }) (v := ?_) rfl (by kernel_rfl) (by kernel_rfl) (by kernel_rfl) (fun _ _ _ h => h) (Or.inl ⟨by rfl, ?_⟩) hHeld ?_
                  rotate_left 1
                  · intro ww hSw
                    try dsimp only at hSw
                    go_simp
                    try with_reducible rfl
                  try simp only [Act.put, List.setIfInBounds_toArray, List.set_cons_zero, List.set_cons_succ]
                  refine wpAnyH_take (i := 26) (oi := { dst := Option.some 34, op := Go.Op.fieldAddr 31 (Go.Operand.tmp 33) 4, type := 0, pos := "read.go:122", after := #[{ on := 25, ground := Go.Ground.data }, { on := 0, ground := Go.Ground.phase }, { on := 1, ground := Go.Ground.phase }, { on := 2, ground := Go.Ground.phase }, { on := 3, ground := Go.Ground.phase }, { on := 4, ground := Go.Ground.phase }, { on := 5, ground := Go.Ground.phase }, { on := 6, ground := Go.Ground.phase }, { on := 7, ground := Go.Ground.phase }, { on := 8, ground := Go.Ground.phase }, { on := 9, ground := Go.Ground.phase }, { on := 10, ground := Go.Ground.phase }, { on := 11, ground := Go.Ground.phase }, { on := 12, ground := Go.Ground.phase }, { on := 13, ground := Go.Ground.phase }, { on := 14, ground := Go.Ground.phase }, { on := 15, ground := Go.Ground.phase }, { on := 16, ground := Go.Ground.phase }, { on := 17, ground := Go.Ground.phase }, { on := 18, ground := Go.Ground.phase }, { on := 19, ground := Go.Ground.phase }, { on := 20, ground := Go.Ground.phase }, { on := 21, ground := Go.Ground.phase }, { on := 22, ground := Go.Ground.phase }, { on := 23, ground := Go.Ground.phase }], guard := Option.none }) (v := ?_) rfl (by kernel_rfl) (by kernel_rfl) (by kernel_rfl) (fun _ _ _ h => h) (Or.inl ⟨by rfl, ?_⟩) hHeld ?_
                  rotate_left 1
                  · intro ww hSw
                    try dsimp only at hSw
                    go_simp
                    try with_reducible rfl
                  try simp only [Act.put, List.setIfInBounds_toArray, List.set_cons_zero, List.set_cons_succ]
                  refine wpAnyH_ready (rs := [27]) (by kernel_rfl) (by simp) ?_
                  refine AllReadyH.cons (o := { dst := Option.none, op := Go.Op.store 28 (Go.Operand.tmp 34) (Go.Operand.tmp 31), type := 0, pos := "read.go:122", after := #[{ on := 26, ground := Go.Ground.data }, { on := 23, ground := Go.Ground.data }, { on := 23, ground := Go.Ground.chain }, { on := 0, ground := Go.Ground.phase }, { on := 1, ground := Go.Ground.phase }, { on := 2, ground := Go.Ground.phase }, { on := 3, ground := Go.Ground.phase }, { on := 4, ground := Go.Ground.phase }, { on := 5, ground := Go.Ground.phase }, { on := 6, ground := Go.Ground.phase }, { on := 7, ground := Go.Ground.phase }, { on := 8, ground := Go.Ground.phase }, { on := 9, ground := Go.Ground.phase }, { on := 10, ground := Go.Ground.phase }, { on := 11, ground := Go.Ground.phase }, { on := 12, ground := Go.Ground.phase }, { on := 13, ground := Go.Ground.phase }, { on := 14, ground := Go.Ground.phase }, { on := 15, ground := Go.Ground.phase }, { on := 16, ground := Go.Ground.phase }, { on := 17, ground := Go.Ground.phase }, { on := 18, ground := Go.Ground.phase }, { on := 19, ground := Go.Ground.phase }, { on := 20, ground := Go.Ground.phase }, { on := 21, ground := Go.Ground.phase }, { on := 22, ground := Go.Ground.phase }, { on := 23, ground := Go.Ground.phase }], guard := Option.none }) rfl (fun K hK => ?_) ?_
                  · go_simp
                    refine hK.out _ _ cs0 (fun hHeld => ?_)
                    clear hK K
                    try simp only [Act.put, List.setIfInBounds_toArray, List.set_cons_zero, List.set_cons_succ]
                    refine wpAnyH_done (by kernel_rfl) ?_ _
                    have KF := Lib.hid (show Blk (w'.setCell ⟨g, 14, none⟩ (.slice A' (k + 1) c')) g 95 #[.pointer (some ⟨q, 0, none⟩), .int .i64 kd, .int .i64 sd, .int .i64 0, .int .i64 0, .int .i64 0, .int .i64 0, .int .i64 0, .slice none 0 0, .bool false, .bool false, .bool false, .int .i64 0, .slice none 0 0, .slice A' (k + 1) c', .slice none 0 0, .slice none 0 0, .bool wr0, .int .i64 0] from KN.out.put 14 (.slice A' (k + 1) c'))
                    have OF := Lib.hid (own_set ho'.out ⟨g, 14, none⟩ (.slice A' (k + 1) c') hgw)
                    have BF := Lib.hid (BN.out.setCell (p := ⟨g, 14, none⟩) (by simp) (.slice A' (k + 1) c'))
                    have RF := Lib.hid (RN.out.far (p := ⟨g, 14, none⟩) (.inl (by simp)) (.slice A' (k + 1) c'))
                    go_wp2
                    go_roundw
                    case rel =>
                      have hp9 := HP.out
                      refine ⟨A', k + 1, c', Lib.hid (by omega), KF, Lib.hid ?_, Lib.hid ?_, BF⟩
                      · have h9 := RF.out
                        rw [show 24 + 12 * (k + 1) = p + 8 + 4 by omega]
                        exact h9
                      · have h9 := OF.out
                        rw [kysAt_succ, kyCells_snoc, hp9, HY1.out, HY2.out, HY3.out]
                        exact h9
                    case measure =>
                      have hp9 := HP.out
                      rw [HPS.out, RF.out.toE.posOf]
                      omega
                  exact AllReadyH.nil
                exact AllReadyH.nil
              exact AllReadyH.nil
            exact AllReadyH.nil
          refine AllReadyH.cons (o := { dst := Option.some 28, op := Go.Op.call { callee := Go.Callee.value (Go.Operand.func 87), args := #[Go.Operand.tmp 27, Go.Operand.const (Go.Value.int Go.IntKind.i64 4)], argTypes := #[93, 3] }, type := 3, pos := "read.go:122", after := #[{ on := 19, ground := Go.Ground.data }, { on := 15, ground := Go.Ground.chain }], guard := Option.none }) rfl (fun K hK => ?_) ?_
          · go_simp
            refine (rd_num (g + 1) q (p + 8) 4 4 l _ RY2.out rfl HL3.out).mono ?_
            rintro eY3 wY3 ⟨rfl, hrdY3, hgrY3⟩
            rw [HY3.out]
            have RY3 := Lib.hid hrdY3
            have KY3 := Lib.hid (KY2.out.grown hgrY3 (by omega))
            have OY3 := Lib.hid (own_grown OY2.out hgrY3 hqw)
            have BY3 := Lib.hid (BY2.out.trans (grown_below hgrY3 (by omega) (by have := BY2.out.size; omega)))
            clear hrdY3 hgrY3
            obtain ⟨a0, a1, a2, a3, a4, a5, a6, a7, a8, a9, a10, a11, a12, a13, a14, a15, a16, a17, a18⟩ := KY3.out.nt
            have HGY := Lib.hid (show g ≤ wY3.heap.size by have := BY3.out.size; omega)
            have HSZ := Lib.hid (show w.heap.size ≤ (wY3.alloc (.cells #[.int .i64 y1, .int .i64 y2, .int .i64 y3] 56)).heap.size by have := BY3.out.size; simp; omega)
            obtain ⟨ca0, -, -, -, -, -, -, -, -, -, -, -, -, -, ca14, -, -, -, -⟩ := (KY3.out.alloc (.cells #[.int .i64 y1, .int .i64 y2, .int .i64 y3] 56)).nt
            go_wp2_with fail
            refine hK.out _ _ a0 (fun hHeld => ?_)
            clear hK K
            try simp only [Act.put, List.setIfInBounds_toArray, List.set_cons_zero, List.set_cons_succ]
            refine wpAnyH_take (i := 21) (oi := { dst := Option.some 29, op := Go.Op.build 56 #[(0, Go.Operand.tmp 18), (1, Go.Operand.tmp 23), (2, Go.Operand.tmp 28)], type := 56, pos := "read.go:122", after := #[{ on := 10, ground := Go.Ground.data }, { on := 15, ground := Go.Ground.data }, { on := 20, ground := Go.Ground.data }], guard := Option.none }) (v := ?_) rfl (by kernel_rfl) (by kernel_rfl) (by kernel_rfl) (fun _ _ _ h => h) (Or.inl ⟨by rfl, ?_⟩) hHeld ?_
            rotate_left 1
            · intro ww hSw
              try dsimp only at hSw
              go_simp
              try with_reducible rfl
            try simp only [Act.put, List.setIfInBounds_toArray, List.set_cons_zero, List.set_cons_succ]
            refine wpAnyH_ready (rs := [5, 22]) (by kernel_rfl) (by simp) ?_
            refine AllReadyH.cons (o := { dst := Option.some 13, op := Go.Op.load 28 (Go.Operand.tmp 12), type := 28, pos := "read.go:122", after := #[{ on := 4, ground := Go.Ground.data }], guard := Option.none }) rfl (fun K hK => ?_) ?_
            · go_simp
              refine hK.out _ _ a0 (fun hHeld => ?_)
              clear hK K
              try simp only [Act.put, List.setIfInBounds_toArray, List.set_cons_zero, List.set_cons_succ]
              refine wpAnyH_ready (rs := [22]) (by kernel_rfl) (by simp) ?_
              refine AllReadyH.cons (o := { dst := Option.some 30, op := Go.Op.buildSlice 28 1 #[(0, Go.Operand.tmp 29)], type := 28, pos := "read.go:122", after := #[{ on := 21, ground := Go.Ground.data }], guard := Option.none }) rfl (fun K hK => ?_) ?_
              · go_simp
                refine hK.out _ _ ca0 (fun hHeld => ?_)
                clear hK K
                try simp only [Act.put, List.setIfInBounds_toArray, List.set_cons_zero, List.set_cons_succ]
                refine wpAnyH_ready (rs := [23]) (by kernel_rfl) (by simp) ?_
                refine AllReadyH.cons (o := { dst := Option.some 31, op := Go.Op.call { callee := Go.Callee.builtin Go.Builtin.append, args := #[Go.Operand.tmp 13, Go.Operand.tmp 30], argTypes := #[28, 28] }, type := 28, pos := "read.go:122", after := #[{ on := 5, ground := Go.Ground.data }, { on := 22, ground := Go.Ground.data }, { on := 20, ground := Go.Ground.chain }], guard := Option.none }) rfl (fun K hK => ?_) ?_
                · refine step_append_grow (by rfl) (.tmp 13) (.tmp 30) 28 56 (.agg #[.int .i64 0, .int .i64 0, .int .i64 0]) 3 24 Tryz.underlying28 Tryz.infoKy rfl (by decide) (by decide) (by rfl) w.heap.size (.slice A k c) k (kyCells (kysAt l 24 k)) (by rfl) (OY3.out.alloc _) wY3.heap.size [.int .i64 y1, .int .i64 y2, .int .i64 y3] (by rfl) rfl (Blk.new wY3 56 #[.int .i64 y1, .int .i64 y2, .int .i64 y3]) (kyCells_one y1 y2 y3) HKM.out HSZ.out ?_
                  intro v' w' ho' hg' ha'
                  obtain ⟨A', c', rfl⟩ := own_slice ho'.out
                  have BK := Lib.hid (own_keeps (OY3.out.alloc _) hg'.out HSZ.out)
                  have KN := Lib.hid ((KY3.out.alloc _).below BK.out hgw)
                  have RN := Lib.hid ((RY3.out.alloc _).below BK.out hqw)
                  have BN := Lib.hid ((BY3.out.alloc HGY.out _).trans (BK.out.mono (Nat.le_of_lt hgw)))
                  obtain ⟨c0, -, -, -, -, -, -, -, -, -, -, -, -, -, c14, -, -, -, -⟩ := KN.out.nt
                  have f14 := KN.out.frozen 14
                  have cs0 := (show Blk (w'.setCell ⟨g, 14, none⟩ (.slice A' (k + 1) c')) g 95 #[.pointer (some ⟨q, 0, none⟩), .int .i64 kd, .int .i64 sd, .int .i64 0, .int .i64 0, .int .i64 0, .int .i64 0, .int .i64 0, .slice none 0 0, .bool false, .bool false, .bool false, .int .i64 0, .slice none 0 0, .slice A' (k + 1) c', .slice none 0 0, .slice none 0 0, .bool wr0, .int .i64 0] from KN.out.put 14 (.slice A' (k + 1) c')).nt.1
                  refine hK.out _ _ c0 (fun hHeld => ?_)
                  clear hK K
                  try simp only [Act.put, List.setIfInBounds_toArray, List.set_cons_zero, List.set_cons_succ]
                  refine wpAnyH_take (i := 24) (oi := { dst := Option.some 32, op := Go.Op.nilCheck (Go.Operand.tmp 8), type := 0, pos := "read.go:122", after := #[{ on := 0, ground := Go.Ground.data }, { on := 0, ground := Go.Ground.phase }, { on := 1, ground := Go.Ground.phase }, { on := 2, ground := Go.Ground.phase }, { on := 3, ground := Go.Ground.phase }, { on := 4, ground := Go.Ground.phase }, { on := 5, ground := Go.Ground.phase }, { on := 6, ground := Go.Ground.phase }, { on := 7, ground := Go.Ground.phase }, { on := 8, ground := Go.Ground.phase }, { on := 9, ground := Go.Ground.phase }, { on := 10, ground := Go.Ground.phase }, { on := 11, ground := Go.Ground.phase }, { on := 12, ground := Go.Ground.phase }, { on := 13, ground := Go.Ground.phase }, { on := 14, ground := Go.Ground.phase }, { on := 15, ground := Go.Ground.phase }, { on := 16, ground := Go.Ground.phase }, { on := 17, ground := Go.Ground.phase }, { on := 18, ground := Go.Ground.phase }, { on := 19, ground := Go.Ground.phase }, { on := 20, ground := Go.Ground.phase }, { on := 21, ground := Go.Ground.phase }, { on := 22, ground := Go.Ground.phase }, { on := 23, ground := Go.Ground.phase }], guard := Option.none }) (v := ?_) rfl (by kernel_rfl) (by kernel_rfl) (by kernel_rfl) (fun _ _ _ h => h) (Or.inl ⟨by rfl, ?_⟩) hHeld ?_
                  rotate_left 1
                  · intro ww hSw
                    try dsimp only at hSw
                    go_simp
                    try with_reducible rfl
                  try simp only [Act.put, List.setIfInBounds_toArray, List.set_cons_zero, List.set_cons_succ]
                  refine wpAnyH_take (i := 25) (oi := { dst := Option.some 33, op := Go.Op.fieldAddr 95 (Go.Operand.tmp 32) 1, type := 0, pos := "read.go:122", after := #[{ on := 24, ground := Go.Ground.data }, { on := 0, ground := Go.Ground.phase }, { on := 1, ground := Go.Ground.phase }, { on := 2, ground := Go.Ground.phase }, { on := 3, ground := Go.Ground.phase }, { on := 4, ground := Go.Ground.phase }, { on := 5, ground := Go.Ground.phase }, { on := 6, ground := Go.Ground.phase }, { on := 7, ground := Go.Ground.phase }, { on := 8, ground := Go.Ground.phase }, { on := 9, ground := Go.Ground.phase }, { on := 10, ground := Go.Ground.phase }, { on := 11, ground := Go.Ground.phase }, { on := 12, ground := Go.Ground.phase }, { on := 13, ground := Go.Ground.phase }, { on := 14, ground := Go.Ground.phase }, { on := 15, ground := Go.Ground.phase }, { on := 16, ground := Go.Ground.phase }, { on := 17, ground := Go.Ground.phase }, { on := 18, ground := Go.Ground.phase }, { on := 19, ground := Go.Ground.phase }, { on := 20, ground := Go.Ground.phase }, { on := 21, ground := Go.Ground.phase }, { on := 22, ground := Go.Ground.phase }, { on := 23, ground := Go.Ground.phase }], guard := Option.none }) (v := ?_) rfl (by kernel_rfl) (by kernel_rfl) (by kernel_rfl) (fun _ _ _ h => h) (Or.inl ⟨by rfl, ?_⟩) hHeld ?_
                  rotate_left 1
                  · intro ww hSw
                    try dsimp only at hSw
                    go_simp
                    try with_reducible rfl
                  try simp only [Act.put, List.setIfInBounds_toArray, List.set_cons_zero, List.set_cons_succ]
                  refine wpAnyH_take (i := 26) (oi := { dst := Option.some 34, op := Go.Op.fieldAddr 31 (Go.Operand.tmp 33) 4, type := 0, pos := "read.go:122", after := #[{ on := 25, ground := Go.Ground.data }, { on := 0, ground := Go.Ground.phase }, { on := 1, ground := Go.Ground.phase }, { on := 2, ground := Go.Ground.phase }, { on := 3, ground := Go.Ground.phase }, { on := 4, ground := Go.Ground.phase }, { on := 5, ground := Go.Ground.phase }, { on := 6, ground := Go.Ground.phase }, { on := 7, ground := Go.Ground.phase }, { on := 8, ground := Go.Ground.phase }, { on := 9, ground := Go.Ground.phase }, { on := 10, ground := Go.Ground.phase }, { on := 11, ground := Go.Ground.phase }, { on := 12, ground := Go.Ground.phase }, { on := 13, ground := Go.Ground.phase }, { on := 14, ground := Go.Ground.phase }, { on := 15, ground := Go.Ground.phase }, { on := 16, ground := Go.Ground.phase }, { on := 17, ground := Go.Ground.phase }, { on := 18, ground := Go.Ground.phase }, { on := 19, ground := Go.Ground.phase }, { on := 20, ground := Go.Ground.phase }, { on := 21, ground := Go.Ground.phase }, { on := 22, ground := Go.Ground.phase }, { on := 23, ground := Go.Ground.phase }], guard := Option.none }) (v := ?_) rfl (by kernel_rfl) (by kernel_rfl) (by kernel_rfl) (fun _ _ _ h => h) (Or.inl ⟨by rfl, ?_⟩) hHeld ?_
                  rotate_left 1
                  · intro ww hSw
                    try dsimp only at hSw
                    go_simp
                    try with_reducible rfl
                  try simp only [Act.put, List.setIfInBounds_toArray, List.set_cons_zero, List.set_cons_succ]
                  refine wpAnyH_ready (rs := [27]) (by kernel_rfl) (by simp) ?_
                  refine AllReadyH.cons (o := { dst := Option.none, op := Go.Op.store 28 (Go.Operand.tmp 34) (Go.Operand.tmp 31), type := 0, pos := "read.go:122", after := #[{ on := 26, ground := Go.Ground.data }, { on := 23, ground := Go.Ground.data }, { on := 23, ground := Go.Ground.chain }, { on := 0, ground := Go.Ground.phase }, { on := 1, ground := Go.Ground.phase }, { on := 2, ground := Go.Ground.phase }, { on := 3, ground := Go.Ground.phase }, { on := 4, ground := Go.Ground.phase }, { on := 5, ground := Go.Ground.phase }, { on := 6, ground := Go.Ground.phase }, { on := 7, ground := Go.Ground.phase }, { on := 8, ground := Go.Ground.phase }, { on := 9, ground := Go.Ground.phase }, { on := 10, ground := Go.Ground.phase }, { on := 11, ground := Go.Ground.phase }, { on := 12, ground := Go.Ground.phase }, { on := 13, ground := Go.Ground.phase }, { on := 14, ground := Go.Ground.phase }, { on := 15, ground := Go.Ground.phase }, { on := 16, ground := Go.Ground.phase }, { on := 17, ground := Go.Ground.phase }, { on := 18, ground := Go.Ground.phase }, { on := 19, ground := Go.Ground.phase }, { on := 20, ground := Go.Ground.phase }, { on := 21, ground := Go.Ground.phase }, { on := 22, ground := Go.Ground.phase }, { on := 23, ground := Go.Ground.phase }], guard := Option.none }) rfl (fun K hK => ?_) ?_
                  · go_simp
                    refine hK.out _ _ cs0 (fun hHeld => ?_)
                    clear hK K
                    try simp only [Act.put, List.setIfInBounds_toArray, List.set_cons_zero, List.set_cons_succ]
                    refine wpAnyH_done (by kernel_rfl) ?_ _
                    have KF := Lib.hid (show Blk (w'.setCell ⟨g, 14, none⟩ (.slice A' (k + 1) c')) g 95 #[.pointer (some ⟨q, 0, none⟩), .int .i64 kd, .int .i64 sd, .int .i64 0, .int .i64 0, .int .i64 0, .int .i64 0, .int .i64 0, .slice none 0 0, .bool false, .bool false, .bool false, .int .i64 0, .slice none 0 0, .slice A' (k + 1) c', .slice none 0 0, .slice none 0 0, .bool wr0, .int .i64 0] from KN.out.put 14 (.slice A' (k + 1) c'))
                    have OF := Lib.hid (own_set ho'.out ⟨g, 14, none⟩ (.slice A' (k + 1) c') hgw)
                    have BF := Lib.hid (BN.out.setCell (p := ⟨g, 14, none⟩) (by simp) (.slice A' (k + 1) c'))
                    have RF := Lib.hid (RN.out.far (p := ⟨g, 14, none⟩) (.inl (by simp)) (.slice A' (k + 1) c'))
                    go_wp2
                    go_roundw
                    case rel =>
                      have hp9 := HP.out
                      refine ⟨A', k + 1, c', Lib.hid (by omega), KF, Lib.hid ?_, Lib.hid ?_, BF⟩
                      · have h9 := RF.out
                        rw [show 24 + 12 * (k + 1) = p + 8 + 4 by omega]
                        exact h9
                      · have h9 := OF.out
                        rw [kysAt_succ, kyCells_snoc, hp9, HY1.out, HY2.out, HY3.out]
                        exact h9
                    case measure =>
                      have hp9 := HP.out
                      rw [HPS.out, RF.out.toE.posOf]
                      omega
                  exact AllReadyH.nil
                exact AllReadyH.nil
              exact AllReadyH.nil
            refine AllReadyH.cons (o := { dst := Option.some 30, op := Go.Op.buildSlice 28 1 #[(0, Go.Operand.tmp 29)], type := 28, pos := "read.go:122", after := #[{ on := 21, ground := Go.Ground.data }], guard := Option.none }) rfl (fun K hK => ?_) ?_
            · go_simp
              refine hK.out _ _ ca0 (fun hHeld => ?_)
              clear hK K
              try simp only [Act.put, List.setIfInBounds_toArray, List.set_cons_zero, List.set_cons_succ]
              refine wpAnyH_ready (rs := [5]) (by kernel_rfl) (by simp) ?_
              refine AllReadyH.cons (o := { dst := Option.some 13, op := Go.Op.load 28 (Go.Operand.tmp 12), type := 28, pos := "read.go:122", after := #[{ on := 4, ground := Go.Ground.data }], guard := Option.none }) rfl (fun K hK => ?_) ?_
              · go_simp
                refine hK.out _ _ ca0 (fun hHeld => ?_)
                clear hK K
                try simp only [Act.put, List.setIfInBounds_toArray, List.set_cons_zero, List.set_cons_succ]
                refine wpAnyH_ready (rs := [23]) (by kernel_rfl) (by simp) ?_
                refine AllReadyH.cons (o := { dst := Option.some 31, op := Go.Op.call { callee := Go.Callee.builtin Go.Builtin.append, args := #[Go.Operand.tmp 13, Go.Operand.tmp 30], argTypes := #[28, 28] }, type := 28, pos := "read.go:122", after := #[{ on := 5, ground := Go.Ground.data }, { on := 22, ground := Go.Ground.data }, { on := 20, ground := Go.Ground.chain }], guard := Option.none }) rfl (fun K hK => ?_) ?_
                · refine step_append_grow (by rfl) (.tmp 13) (.tmp 30) 28 56 (.agg #[.int .i64 0, .int .i64 0, .int .i64 0]) 3 24 Tryz.underlying28 Tryz.infoKy rfl (by decide) (by decide) (by rfl) w.heap.size (.slice A k c) k (kyCells (kysAt l 24 k)) (by rfl) (OY3.out.alloc _) wY3.heap.size [.int .i64 y1, .int .i64 y2, .int .i64 y3] (by rfl) rfl (Blk.new wY3 56 #[.int .i64 y1, .int .i64 y2, .int .i64 y3]) (kyCells_one y1 y2 y3) HKM.out HSZ.out ?_
                  intro v' w' ho' hg' ha'
                  obtain ⟨A', c', rfl⟩ := own_slice ho'.out
                  have BK := Lib.hid (own_keeps (OY3.out.alloc _) hg'.out HSZ.out)
                  have KN := Lib.hid ((KY3.out.alloc _).below BK.out hgw)
                  have RN := Lib.hid ((RY3.out.alloc _).below BK.out hqw)
                  have BN := Lib.hid ((BY3.out.alloc HGY.out _).trans (BK.out.mono (Nat.le_of_lt hgw)))
                  obtain ⟨c0, -, -, -, -, -, -, -, -, -, -, -, -, -, c14, -, -, -, -⟩ := KN.out.nt
                  have f14 := KN.out.frozen 14
                  have cs0 := (show Blk (w'.setCell ⟨g, 14, none⟩ (.slice A' (k + 1) c')) g 95 #[.pointer (some ⟨q, 0, none⟩), .int .i64 kd, .int .i64 sd, .int .i64 0, .int .i64 0, .int .i64 0, .int .i64 0, .int .i64 0, .slice none 0 0, .bool false, .bool false, .bool false, .int .i64 0, .slice none 0 0, .slice A' (k + 1) c', .slice none 0 0, .slice none 0 0, .bool wr0, .int .i64 0] from KN.out.put 14 (.slice A' (k + 1) c')).nt.1
                  refine hK.out _ _ c0 (fun hHeld => ?_)
                  clear hK K
                  try simp only [Act.put, List.setIfInBounds_toArray, List.set_cons_zero, List.set_cons_succ]
                  refine wpAnyH_take (i := 24) (oi := { dst := Option.some 32, op := Go.Op.nilCheck (Go.Operand.tmp 8), type := 0, pos := "read.go:122", after := #[{ on := 0, ground := Go.Ground.data }, { on := 0, ground := Go.Ground.phase }, { on := 1, ground := Go.Ground.phase }, { on := 2, ground := Go.Ground.phase }, { on := 3, ground := Go.Ground.phase }, { on := 4, ground := Go.Ground.phase }, { on := 5, ground := Go.Ground.phase }, { on := 6, ground := Go.Ground.phase }, { on := 7, ground := Go.Ground.phase }, { on := 8, ground := Go.Ground.phase }, { on := 9, ground := Go.Ground.phase }, { on := 10, ground := Go.Ground.phase }, { on := 11, ground := Go.Ground.phase }, { on := 12, ground := Go.Ground.phase }, { on := 13, ground := Go.Ground.phase }, { on := 14, ground := Go.Ground.phase }, { on := 15, ground := Go.Ground.phase }, { on := 16, ground := Go.Ground.phase }, { on := 17, ground := Go.Ground.phase }, { on := 18, ground := Go.Ground.phase }, { on := 19, ground := Go.Ground.phase }, { on := 20, ground := Go.Ground.phase }, { on := 21, ground := Go.Ground.phase }, { on := 22, ground := Go.Ground.phase }, { on := 23, ground := Go.Ground.phase }], guard := Option.none }) (v := ?_) rfl (by kernel_rfl) (by kernel_rfl) (by kernel_rfl) (fun _ _ _ h => h) (Or.inl ⟨by rfl, ?_⟩) hHeld ?_
                  rotate_left 1
                  · intro ww hSw
                    try dsimp only at hSw
                    go_simp
                    try with_reducible rfl
                  try simp only [Act.put, List.setIfInBounds_toArray, List.set_cons_zero, List.set_cons_succ]
                  refine wpAnyH_take (i := 25) (oi := { dst := Option.some 33, op := Go.Op.fieldAddr 95 (Go.Operand.tmp 32) 1, type := 0, pos := "read.go:122", after := #[{ on := 24, ground := Go.Ground.data }, { on := 0, ground := Go.Ground.phase }, { on := 1, ground := Go.Ground.phase }, { on := 2, ground := Go.Ground.phase }, { on := 3, ground := Go.Ground.phase }, { on := 4, ground := Go.Ground.phase }, { on := 5, ground := Go.Ground.phase }, { on := 6, ground := Go.Ground.phase }, { on := 7, ground := Go.Ground.phase }, { on := 8, ground := Go.Ground.phase }, { on := 9, ground := Go.Ground.phase }, { on := 10, ground := Go.Ground.phase }, { on := 11, ground := Go.Ground.phase }, { on := 12, ground := Go.Ground.phase }, { on := 13, ground := Go.Ground.phase }, { on := 14, ground := Go.Ground.phase }, { on := 15, ground := Go.Ground.phase }, { on := 16, ground := Go.Ground.phase }, { on := 17, ground := Go.Ground.phase }, { on := 18, ground := Go.Ground.phase }, { on := 19, ground := Go.Ground.phase }, { on := 20, ground := Go.Ground.phase }, { on := 21, ground := Go.Ground.phase }, { on := 22, ground := Go.Ground.phase }, { on := 23, ground := Go.Ground.phase }], guard := Option.none }) (v := ?_) rfl (by kernel_rfl) (by kernel_rfl) (by kernel_rfl) (fun _ _ _ h => h) (Or.inl ⟨by rfl, ?_⟩) hHeld ?_
                  rotate_left 1
                  · intro ww hSw
                    try dsimp only at hSw
                    go_simp
                    try with_reducible rfl
                  try simp only [Act.put, List.setIfInBounds_toArray, List.set_cons_zero, List.set_cons_succ]
                  refine wpAnyH_take (i := 26) (oi := { dst := Option.some 34, op := Go.Op.fieldAddr 31 (Go.Operand.tmp 33) 4, type := 0, pos := "read.go:122", after := #[{ on := 25, ground := Go.Ground.data }, { on := 0, ground := Go.Ground.phase }, { on := 1, ground := Go.Ground.phase }, { on := 2, ground := Go.Ground.phase }, { on := 3, ground := Go.Ground.phase }, { on := 4, ground := Go.Ground.phase }, { on := 5, ground := Go.Ground.phase }, { on := 6, ground := Go.Ground.phase }, { on := 7, ground := Go.Ground.phase }, { on := 8, ground := Go.Ground.phase }, { on := 9, ground := Go.Ground.phase }, { on := 10, ground := Go.Ground.phase }, { on := 11, ground := Go.Ground.phase }, { on := 12, ground := Go.Ground.phase }, { on := 13, ground := Go.Ground.phase }, { on := 14, ground := Go.Ground.phase }, { on := 15, ground := Go.Ground.phase }, { on := 16, ground := Go.Ground.phase }, { on := 17, ground := Go.Ground.phase }, { on := 18, ground := Go.Ground.phase }, { on := 19, ground := Go.Ground.phase }, { on := 20, ground := Go.Ground.phase }, { on := 21, ground := Go.Ground.phase }, { on := 22, ground := Go.Ground.phase }, { on := 23, ground := Go.Ground.phase }], guard := Option.none }) (v := ?_) rfl (by kernel_rfl) (by kernel_rfl) (by kernel_rfl) (fun _ _ _ h => h) (Or.inl ⟨by rfl, ?_⟩) hHeld ?_
                  rotate_left 1
                  · intro ww hSw
                    try dsimp only at hSw
                    go_simp
                    try with_reducible rfl
                  try simp only [Act.put, List.setIfInBounds_toArray, List.set_cons_zero, List.set_cons_succ]
                  refine wpAnyH_ready (rs := [27]) (by kernel_rfl) (by simp) ?_
                  refine AllReadyH.cons (o := { dst := Option.none, op := Go.Op.store 28 (Go.Operand.tmp 34) (Go.Operand.tmp 31), type := 0, pos := "read.go:122", after := #[{ on := 26, ground := Go.Ground.data }, { on := 23, ground := Go.Ground.data }, { on := 23, ground := Go.Ground.chain }, { on := 0, ground := Go.Ground.phase }, { on := 1, ground := Go.Ground.phase }, { on := 2, ground := Go.Ground.phase }, { on := 3, ground := Go.Ground.phase }, { on := 4, ground := Go.Ground.phase }, { on := 5, ground := Go.Ground.phase }, { on := 6, ground := Go.Ground.phase }, { on := 7, ground := Go.Ground.phase }, { on := 8, ground := Go.Ground.phase }, { on := 9, ground := Go.Ground.phase }, { on := 10, ground := Go.Ground.phase }, { on := 11, ground := Go.Ground.phase }, { on := 12, ground := Go.Ground.phase }, { on := 13, ground := Go.Ground.phase }, { on := 14, ground := Go.Ground.phase }, { on := 15, ground := Go.Ground.phase }, { on := 16, ground := Go.Ground.phase }, { on := 17, ground := Go.Ground.phase }, { on := 18, ground := Go.Ground.phase }, { on := 19, ground := Go.Ground.phase }, { on := 20, ground := Go.Ground.phase }, { on := 21, ground := Go.Ground.phase }, { on := 22, ground := Go.Ground.phase }, { on := 23, ground := Go.Ground.phase }], guard := Option.none }) rfl (fun K hK => ?_) ?_
                  · go_simp
                    refine hK.out _ _ cs0 (fun hHeld => ?_)
                    clear hK K
                    try simp only [Act.put, List.setIfInBounds_toArray, List.set_cons_zero, List.set_cons_succ]
                    refine wpAnyH_done (by kernel_rfl) ?_ _
                    have KF := Lib.hid (show Blk (w'.setCell ⟨g, 14, none⟩ (.slice A' (k + 1) c')) g 95 #[.pointer (some ⟨q, 0, none⟩), .int .i64 kd, .int .i64 sd, .int .i64 0, .int .i64 0, .int .i64 0, .int .i64 0, .int .i64 0, .slice none 0 0, .bool false, .bool false, .bool false, .int .i64 0, .slice none 0 0, .slice A' (k + 1) c', .slice none 0 0, .slice none 0 0, .bool wr0, .int .i64 0] from KN.out.put 14 (.slice A' (k + 1) c'))
                    have OF := Lib.hid (own_set ho'.out ⟨g, 14, none⟩ (.slice A' (k + 1) c') hgw)
                    have BF := Lib.hid (BN.out.setCell (p := ⟨g, 14, none⟩) (by simp) (.slice A' (k + 1) c'))
                    have RF := Lib.hid (RN.out.far (p := ⟨g, 14, none⟩) (.inl (by simp)) (.slice A' (k + 1) c'))
                    go_wp2
                    go_roundw
                    case rel =>
                      have hp9 := HP.out
                      refine ⟨A', k + 1, c', Lib.hid (by omega), KF, Lib.hid ?_, Lib.hid ?_, BF⟩
                      · have h9 := RF.out
                        rw [show 24 + 12 * (k + 1) = p + 8 + 4 by omega]
                        exact h9
                      · have h9 := OF.out
                        rw [kysAt_succ, kyCells_snoc, hp9, HY1.out, HY2.out, HY3.out]
                        exact h9
                    case measure =>
                      have hp9 := HP.out
                      rw [HPS.out, RF.out.toE.posOf]
                      omega
                  exact AllReadyH.nil
                exact AllReadyH.nil
              exact AllReadyH.nil
            exact AllReadyH.nil
          exact AllReadyH.nil
        exact AllReadyH.nil
      exact AllReadyH.nil
    · have h12' : ¬ (12 : Int) ≤ r := by omega
      go_wp2
      refine bodyPost_end (results_none rfl _ _ _) rfl ?_
      rw [← HQ.out]
      exact ⟨A, k, c, rfl, by omega, OW1.out, ⟨KB1.out, RD1.out⟩, B1.out⟩
theorem want_ok : WantOk := fun g q kd sd wr0 l w h hl h24 => want_any g q kd sd wr0 l w h hl h24
end Go.Proofs.YtekhgkkgmkodmaaGreat
