/- The walk of the statement IfaceStates. Conditions: what the words say. -/
import Derived.Test.YtedlkoecnnmihaaIu
namespace Go.Proofs.Ytedlkoecnnmihaa
open Go.RowKit
theorem tells_step {x : If} {e : Int} {L : List Cd} (ht : Tells x) (ha : ApartC (ownI x :: L)) (he : e ≠ 1) : Tells (stepI x e L) := by
  by_cases h2 : x.state = 0 ∧ e = 0
  · unfold Tells at ht
    omega
  · by_cases h3 : votes x.state e
    · rw [step_vote h3]
      exact vote_tells ha
    · rw [step_still he h2 h3]
      exact ht
def first (a b : Int) : If := stepI ⟨a, b, 0, 0, 0⟩ 0 []
theorem first_is (a b : Int) : first a b = ⟨a, b, if 0 < b then 1 else 2, 0, 0⟩ := step_up ⟨rfl, rfl⟩
theorem first_tells {a b : Int} (ha : 1 ≤ a) : Tells (first a b) := by
  rw [first_is]
  unfold Tells
  dsimp only
  split
  · left
    omega
  · right
    refine ⟨by omega, by omega, by omega, fun _ => by omega⟩
theorem first_apart {a b : Int} (ha : 1 ≤ a) : ApartC (ownI (⟨a, b, 0, 0, 0⟩ : If) :: []) := by
  refine ⟨by simp [ownI], fun c hc => ?_⟩
  simp [ownI] at hc
  subst hc
  exact ha
/-- What stands at the head of a round. -/
def AtI (x : If) (a : Int) : Prop := x.self = a ∧ 0 ≤ x.prio ∧ wf64 x.state ∧ Tells x
theorem first_at {a b : Int} (ha : 1 ≤ a) (hb : 0 ≤ b) : AtI (first a b) a := by
  refine ⟨by rw [first_is], by rw [first_is]; exact hb, ?_, first_tells ha⟩
  rw [first_is]
  dsimp only
  split <;> decide
theorem atI_step {x : If} {a e : Int} {L : List Cd} (h : AtI x a) (ha : ApartC (ownI x :: L)) (he : e ≠ 1) : AtI (stepI x e L) a :=
  ⟨(step_self x e L).trans h.1, by rw [step_prio]; exact h.2.1, step_wf h.2.2.1 e L, tells_step h.2.2.2 ha he⟩
theorem atI_apart {x : If} {a : Int} (h : AtI x a) (ha : 1 ≤ a) : ApartC (ownI x :: []) := by
  refine ⟨by simp, fun c hc => ?_⟩
  simp at hc
  subst hc
  show 1 ≤ x.self
  rw [h.1]
  exact ha
set_option maxRecDepth 8000 in
set_option maxHeartbeats 16000000 in
theorem states_walk {n c : Nat} {A : Option Addr} (sn pn : Nat) (R : List Rw) (w : World) (hL : Rws w w.heap.size A n R) (hs : sn ≤ 255) (hp : pn ≤ 255) : Calls Try.prog 4 #[.int .u8 sn, .int .u8 pn, .slice A n c] w fun e w' => e = .returned (.bool true) ∧ Below w.heap.size w w' := by
  have HL := Lib.hid hL
  clear hL
  go_enter Try.func4, Try.ntmps4
  go_wp2_with fail
  refine (wakes_any _).mono ?_
  rintro e1 w1 ⟨rfl, hb1⟩
  have B1 := Lib.hid hb1
  clear hb1
  have hw1 := B1.out.size
  by_cases h0 : 20 < n
  · have h0' : (20 : Int) < n := by omega
    have d0 : decide ((20 : Int) < n) = true := by simp; omega
    go_wp2
    go_ret
    exact ⟨rfl, B1.out⟩
  have hn : n ≤ 20 := by omega
  have h0' : (n : Int) ≤ 20 := by omega
  have d0 : decide ((20 : Int) < n) = false := by simp; omega
  clear h0
  go_wp2_with fail
  have ha : 1 ≤ 1 + (sn : Int) % 15 := by omega
  have hb : 0 ≤ (pn : Int) % 3 := by omega
  generalize 1 + (sn : Int) % 15 = a at *
  generalize (pn : Int) % 3 = b at *
  have B2 := Lib.hid (B1.out.alloc hw1 (.cells #[.int .i64 a, .int .i64 b, .int .i64 0, .int .i64 0, .int .i64 0] 23))
  have Z2 := Lib.hid (Blk.new w1 23 #[.int .i64 a, .int .i64 b, .int .i64 0, .int .i64 0, .int .i64 0])
  generalize w1.alloc (.cells #[.int .i64 a, .int .i64 b, .int .i64 0, .int .i64 0, .int .i64 0] 23) = w2 at *
  generalize w1.heap.size = z at *
  have hz2 := Z2.out.lt
  refine (step_any (w := w2) (c := 0) (⟨a, b, 0, 0, 0⟩ : If) 0 (cds_nil w2) (Nat.zero_le _) (by omega) (first_apart ha) (show wf64 0 by decide) (by decide)).mono ?_
  rw [show stepI (⟨a, b, 0, 0, 0⟩ : If) 0 [] = first a b from rfl]
  have HX := Lib.hid (first_at ha hb)
  generalize first a b = x0 at *
  rintro e3 w3 ⟨rfl, hb3⟩
  generalize (!sameI x0 _) = bo
  have Z3 := Lib.hid (Z2.out.below hb3 hz2)
  have B3 := Lib.hid (B2.out.trans (hb3.mono (by omega)))
  clear hb3 B1 B2 Z2 hz2 hb d0
  obtain ⟨k0, k1, k2, k3, k4⟩ := Z3.out.five
  obtain ⟨z0, z1, z2, z3, z4⟩ := Z3.out.thaw
  go_wp2_with fail

  have Z4 := Lib.hid (blk_put5 (v0 := .int .i64 x0.self) (v1 := .int .i64 x0.prio) (v2 := .int .i64 x0.state) (v3 := .int .i64 x0.dr) (v4 := .int .i64 x0.bdr) Z3.out)
  have B4 := Lib.hid (below_put5 (v0 := .int .i64 x0.self) (v1 := .int .i64 x0.prio) (v2 := .int .i64 x0.state) (v3 := .int .i64 x0.dr) (v4 := .int .i64 x0.bdr) B3.out hw1)
  clear k0 k1 k2 k3 k4 z0 z1 z2 z3 z4 Z3 B3
  generalize (((((w3.setCell ⟨z, 0, none⟩ (.int .i64 x0.self)).setCell ⟨z, 1, none⟩ (.int .i64 x0.prio)).setCell ⟨z, 2, none⟩ (.int .i64 x0.state)).setCell ⟨z, 3, none⟩ (.int .i64 x0.dr)).setCell ⟨z, 4, none⟩ (.int .i64 x0.bdr)) = w4 at *
  go_loopw [30] (fun i wr => ∃ (k : Nat) (x : If), k ≤ n ∧ i = .int .i64 k ∧ Hid (AtI x a) ∧ Hid (Blk wr z 23 #[.int .i64 x.self, .int .i64 x.prio, .int .i64 x.state, .int .i64 x.dr, .int .i64 x.bdr]) ∧ Hid (Below w.heap.size w wr)) (fun i _ => n - (intOf i).toNat)
  case atStart => exact ⟨0, x0, Nat.zero_le _, rfl, HX, Z4, B4⟩
  case round =>
    clear HX Z4 B4
    obtain ⟨k, x, hk, rfl, HX, ZR, HB⟩ := hrel
    have hsr := HB.out.size
    have hzr := ZR.out.lt
    by_cases hlt : k < n
    · have hlt' : (k : Int) < n := by omega
      obtain ⟨bk, o, y, rfl, hbb, hy, hat⟩ := Arr.at (HL.out.below HB.out) hlt
      rw [Nat.mul_one] at hat
      obtain ⟨y0, PY⟩ := hat
      have PR := Lib.hid PY
      clear PY hy
      obtain ⟨k0, k1, k2, k3, k4⟩ := ZR.out.five
      by_cases h1 : 20 < y.n
      · have h1' : (20 : Int) < y.n := by omega
        have d1 : decide ((20 : Int) < y.n) = true := by simp; omega
        go_wp2
        go_ret
        exact ⟨rfl, HB.out⟩
      have hy1 : y.n ≤ 20 := by omega
      have d1 : decide ((20 : Int) < y.n) = false := by simp; omega
      clear h1
      go_wp2_with fail
      refine (apartL_any x PR.out (by omega) (by omega)).mono ?_
      rintro e5 w5 ⟨⟨bb, rfl, hbq⟩, hb5⟩
      have Z5 := Lib.hid (ZR.out.below hb5 hzr)
      have P5 := Lib.hid (PR.out.below (hb5.mono hsr))
      have B5 := Lib.hid (HB.out.trans (hb5.mono hsr))
      have hz5 := Z5.out.lt
      have hs5 := B5.out.size
      clear hb5 ZR PR HB hzr k0 k1 k2 k3 k4 d1 y0
      cases bb with
      | false =>
        go_wp2
        go_ret
        exact ⟨rfl, B5.out⟩
      | true =>
        have HA := Lib.hid (hbq.1 rfl)
        clear hbq
        go_upto_region 12 with fail
        go_cut [30] from 30 to 106 (fun s30 wx => ∃ x' : If, s30 = .int .i64 k ∧ Hid (AtI x' a) ∧ Hid (Blk wx z 23 #[.int .i64 x'.self, .int .i64 x'.prio, .int .i64 x'.state, .int .i64 x'.dr, .int .i64 x'.bdr]) ∧ Hid (Below w.heap.size w wx))
        case first =>
          rename_i K9 hK9
          have Z6 := Lib.hid Z5.out.drew
          have P6 := Lib.hid (show Cds w5.drew w.heap.size y.a y.n y.L from P5.out.below (below_drewN (Below.refl w.heap.size w5) 1))
          have B6 := Lib.hid (show Below w.heap.size w w5.drew from below_drewN B5.out 1)
          clear Z5 P5 B5 hz5 hs5
          by_cases hm0 : k % 3 = 0
          · have hm : (k : Int) % 3 = 0 := by omega
            have hmt : (k : Int).tmod 3 = 0 := by rw [Int.tmod_eq_emod_of_nonneg (by omega)]; exact hm
            clear hm0
            refine wp_region_noPanic ?_
            refine wp_region_held_drew (S := fun _ => True) (by kernel_rfl) trivial (fun hHeld => ?_)

            change wpAnyH _ _ _ _ _ _ _ _ w5.drew
            generalize w5.drew = w6 at *

            refine wpAnyH_take (i := 2) (oi := { dst := Option.some 47, op := Go.Op.move (Go.Operand.tmp 8), type := 3, pos := "law.go:49", after := #[], guard := Option.none }) (v := ?_) rfl (by kernel_rfl) (by kernel_rfl) (by kernel_rfl) (fun _ _ _ h => h) (Or.inl ⟨by rfl, ?_⟩) hHeld ?_
            rotate_left 1
            · intro ww hSw
              try dsimp only at hSw
              go_simp
              try with_reducible rfl
            try simp only [Act.put, List.setIfInBounds_toArray, List.set_cons_zero, List.set_cons_succ]

            refine wpAnyH_take (i := 3) (oi := { dst := Option.some 48, op := Go.Op.binOp Go.BinOp.rem 3 (Go.Operand.tmp 47) (Go.Operand.const (Go.Value.int Go.IntKind.i64 3)) 3, type := 3, pos := "law.go:49", after := #[{ on := 2, ground := Go.Ground.data }], guard := Option.none }) (v := ?_) rfl (by kernel_rfl) (by kernel_rfl) (by kernel_rfl) (fun _ _ _ h => h) (Or.inl ⟨by rfl, ?_⟩) hHeld ?_
            rotate_left 1
            · intro ww hSw
              try dsimp only at hSw
              go_simp
              try with_reducible rfl
            try simp only [Act.put, List.setIfInBounds_toArray, List.set_cons_zero, List.set_cons_succ]

            refine wpAnyH_take (i := 6) (oi := { dst := Option.some 51, op := Go.Op.move (Go.Operand.tmp 9), type := 24, pos := "law.go:49", after := #[], guard := Option.none }) (v := ?_) rfl (by kernel_rfl) (by kernel_rfl) (by kernel_rfl) (fun _ _ _ h => h) (Or.inl ⟨by rfl, ?_⟩) hHeld ?_
            rotate_left 1
            · intro ww hSw
              try dsimp only at hSw
              go_simp
              try with_reducible rfl
            try simp only [Act.put, List.setIfInBounds_toArray, List.set_cons_zero, List.set_cons_succ]

            refine wpAnyH_ready (rs := [0, 1]) (by kernel_rfl) (by simp) ?_

            refine AllReadyH.cons (o := { dst := Option.some 45, op := Go.Op.load 23 (Go.Operand.tmp 7), type := 23, pos := "law.go:49", after := #[], guard := Option.none }) rfl (fun K hK => ?_) (AllReadyH.cons (o := { dst := Option.some 46, op := Go.Op.buildSlice 35 3 #[(0, Go.Operand.const (Go.Value.int Go.IntKind.i64 4)), (1, Go.Operand.const (Go.Value.int Go.IntKind.i64 2)), (2, Go.Operand.const (Go.Value.int Go.IntKind.i64 3))], type := 35, pos := "law.go:49", after := #[], guard := Option.none }) rfl (fun K hK => ?_) AllReadyH.nil)

            · skip
              obtain ⟨k0, k1, k2, k3, k4⟩ := Z6.out.five
              go_simp
              refine hK.out _ _ trivial (fun hHeld => ?_)
              clear hK K
              try simp only [Act.put, List.setIfInBounds_toArray, List.set_cons_zero, List.set_cons_succ]
              clear k0 k1 k2 k3 k4
              refine wpAnyH_ready (rs := [1]) (by kernel_rfl) (by simp) ?_
              refine AllReadyH.cons (o := { dst := Option.some 46, op := Go.Op.buildSlice 35 3 #[(0, Go.Operand.const (Go.Value.int Go.IntKind.i64 4)), (1, Go.Operand.const (Go.Value.int Go.IntKind.i64 2)), (2, Go.Operand.const (Go.Value.int Go.IntKind.i64 3))], type := 35, pos := "law.go:49", after := #[], guard := Option.none }) rfl (fun K hK => ?_) AllReadyH.nil
              have hs7 := B6.out.size
              have hz7 := Z6.out.lt
              have Z7 := Lib.hid (Z6.out.alloc (.cells #[.int .i64 4, .int .i64 2, .int .i64 3] 3))
              have N7 := Lib.hid (Blk.new w6 3 #[.int .i64 4, .int .i64 2, .int .i64 3])
              have P7 := Lib.hid (P6.out.below ((Below.refl w6.heap.size w6).alloc (Nat.le_refl _) (.cells #[.int .i64 4, .int .i64 2, .int .i64 3] 3) |>.mono hs7))
              have B7 := Lib.hid (B6.out.alloc hs7 (.cells #[.int .i64 4, .int .i64 2, .int .i64 3] 3))
              go_simp
              refine hK.out _ _ trivial (fun hHeld => ?_)
              clear hK K
              try simp only [Act.put, List.setIfInBounds_toArray, List.set_cons_zero, List.set_cons_succ]
              clear Z6 P6 B6
              generalize hss : w6.heap.size = s at *
              generalize w6.alloc (.cells #[.int .i64 4, .int .i64 2, .int .i64 3] 3) = w7 at *
              refine wpAnyH_take (i := 4) (oi := { dst := Option.some 49, op := Go.Op.indexAddr 35 (Go.Operand.tmp 46) (Go.Operand.tmp 48), type := 0, pos := "law.go:49", after := #[{ on := 1, ground := Go.Ground.data }, { on := 3, ground := Go.Ground.data }], guard := Option.none }) (v := ?_) rfl (by kernel_rfl) (by kernel_rfl) (by kernel_rfl) (fun _ _ _ h => h) (Or.inl ⟨by rfl, ?_⟩) hHeld ?_
              rotate_left 1
              · intro ww hSw
                try dsimp only at hSw
                go_simp
                try with_reducible rfl
              try simp only [Act.put, List.setIfInBounds_toArray, List.set_cons_zero, List.set_cons_succ]
              refine wpAnyH_ready (rs := [5]) (by kernel_rfl) (by simp) ?_
              refine AllReadyH.cons (o := { dst := Option.some 50, op := Go.Op.load 3 (Go.Operand.tmp 49), type := 3, pos := "law.go:49", after := #[{ on := 4, ground := Go.Ground.data }], guard := Option.none }) rfl (fun K hK => ?_) AllReadyH.nil
              have n0 := N7.out.cell 0
              simp at n0
              go_simp
              refine hK.out _ _ trivial (fun hHeld => ?_)
              clear hK K
              try simp only [Act.put, List.setIfInBounds_toArray, List.set_cons_zero, List.set_cons_succ]
              clear n0
              refine wpAnyH_ready (rs := [7]) (by kernel_rfl) (by simp) ?_
              refine AllReadyH.cons (o := { dst := Option.some 52, op := Go.Op.call { callee := Go.Callee.value (Go.Operand.func 9), args := #[Go.Operand.tmp 45, Go.Operand.tmp 50, Go.Operand.tmp 51], argTypes := #[23, 3, 24] }, type := 27, pos := "law.go:49", after := #[{ on := 0, ground := Go.Ground.data }, { on := 5, ground := Go.Ground.data }, { on := 6, ground := Go.Ground.data }], guard := Option.none }) rfl (fun K hK => ?_) AllReadyH.nil
              have hz7b := Z7.out.lt
              have hs7b := B7.out.size
              go_simp
              refine (step_any x 4 P7.out (by omega) (by omega) HA.out HX.out.2.2.1 (by decide)).mono ?_
              have HX8 := Lib.hid (atI_step (e := 4) HX.out HA.out (by decide))
              generalize stepI x 4 y.L = x' at *
              rintro e8 w8 ⟨rfl, hb8⟩
              have Z8 := Lib.hid (Z7.out.below hb8 hz7b)
              have B8 := Lib.hid (B7.out.trans (hb8.mono hs7b))
              clear hb8 P7 N7 Z7 B7
              refine hK.out _ _ trivial (fun hHeld => ?_)
              clear hK K
              try simp only [Act.put, List.setIfInBounds_toArray, List.set_cons_zero, List.set_cons_succ]
              refine wpAnyH_take (i := 8) (oi := { dst := Option.some 44, op := Go.Op.move (Go.Operand.tmp 52), type := 27, pos := "law.go:49", after := #[{ on := 7, ground := Go.Ground.data }], guard := Option.none }) (v := ?_) rfl (by kernel_rfl) (by kernel_rfl) (by kernel_rfl) (fun _ _ _ h => h) (Or.inl ⟨by rfl, ?_⟩) hHeld ?_
              rotate_left 1
              · intro ww hSw
                try dsimp only at hSw
                go_simp
                try with_reducible rfl
              try simp only [Act.put, List.setIfInBounds_toArray, List.set_cons_zero, List.set_cons_succ]
              refine wpAnyH_take (i := 9) (oi := { dst := Option.some 53, op := Go.Op.extract (Go.Operand.tmp 44) 0, type := 23, pos := "law.go:49", after := #[{ on := 8, ground := Go.Ground.data }], guard := Option.none }) (v := ?_) rfl (by kernel_rfl) (by kernel_rfl) (by kernel_rfl) (fun _ _ _ h => h) (Or.inl ⟨by rfl, ?_⟩) hHeld ?_
              rotate_left 1
              · intro ww hSw
                try dsimp only at hSw
                go_simp
                try with_reducible rfl
              try simp only [Act.put, List.setIfInBounds_toArray, List.set_cons_zero, List.set_cons_succ]
              refine wpAnyH_take (i := 10) (oi := { dst := Option.some 54, op := Go.Op.extract (Go.Operand.tmp 44) 1, type := 4, pos := "law.go:49", after := #[{ on := 8, ground := Go.Ground.data }, { on := 11, ground := Go.Ground.gcOnly Go.Departure.lateStores }], guard := Option.none }) (v := ?_) rfl (by kernel_rfl) (by kernel_rfl) (by kernel_rfl) (fun _ _ _ h => h) (Or.inl ⟨by rfl, ?_⟩) hHeld ?_
              rotate_left 1
              · intro ww hSw
                try dsimp only at hSw
                go_simp
                try with_reducible rfl
              try simp only [Act.put, List.setIfInBounds_toArray, List.set_cons_zero, List.set_cons_succ]
              refine wpAnyH_ready (rs := [11]) (by kernel_rfl) (by simp) ?_
              refine AllReadyH.cons (o := { dst := Option.none, op := Go.Op.store 23 (Go.Operand.tmp 7) (Go.Operand.tmp 53), type := 0, pos := "law.go:49", after := #[{ on := 9, ground := Go.Ground.data }, { on := 7, ground := Go.Ground.chain }, { on := 0, ground := Go.Ground.phase }, { on := 1, ground := Go.Ground.phase }, { on := 2, ground := Go.Ground.phase }, { on := 3, ground := Go.Ground.phase }, { on := 4, ground := Go.Ground.phase }, { on := 5, ground := Go.Ground.phase }, { on := 6, ground := Go.Ground.phase }, { on := 7, ground := Go.Ground.phase }, { on := 8, ground := Go.Ground.phase }, { on := 9, ground := Go.Ground.phase }, { on := 10, ground := Go.Ground.textOnly Go.Departure.lateStores }], guard := Option.none }) rfl (fun K hK => ?_) AllReadyH.nil
              obtain ⟨k0, k1, k2, k3, k4⟩ := Z8.out.five
              obtain ⟨z0, z1, z2, z3, z4⟩ := Z8.out.thaw
              go_simp
              have Z9 := Lib.hid (blk_put5 (v0 := .int .i64 x'.self) (v1 := .int .i64 x'.prio) (v2 := .int .i64 x'.state) (v3 := .int .i64 x'.dr) (v4 := .int .i64 x'.bdr) Z8.out)
              have B9 := Lib.hid (below_put5 (v0 := .int .i64 x'.self) (v1 := .int .i64 x'.prio) (v2 := .int .i64 x'.state) (v3 := .int .i64 x'.dr) (v4 := .int .i64 x'.bdr) B8.out hw1)
              refine hK.out _ _ trivial (fun hHeld => ?_)
              clear hK K
              try simp only [Act.put, List.setIfInBounds_toArray, List.set_cons_zero, List.set_cons_succ]
              clear k0 k1 k2 k3 k4 z0 z1 z2 z3 z4 Z8 B8
              generalize (((((w8.setCell ⟨z, 0, none⟩ (.int .i64 x'.self)).setCell ⟨z, 1, none⟩ (.int .i64 x'.prio)).setCell ⟨z, 2, none⟩ (.int .i64 x'.state)).setCell ⟨z, 3, none⟩ (.int .i64 x'.dr)).setCell ⟨z, 4, none⟩ (.int .i64 x'.bdr)) = w9 at *
              refine wpAnyH_done (by kernel_rfl) ?_ _
              refine NoPanic.normal ?_
              refine hK9 _ _ ?_
              go_meet
              exact ⟨x', rfl, HX8, Z9, B9⟩

            · skip
              have hs7 := B6.out.size
              have hz7 := Z6.out.lt
              have Z7 := Lib.hid (Z6.out.alloc (.cells #[.int .i64 4, .int .i64 2, .int .i64 3] 3))
              have N7 := Lib.hid (Blk.new w6 3 #[.int .i64 4, .int .i64 2, .int .i64 3])
              have P7 := Lib.hid (P6.out.below ((Below.refl w6.heap.size w6).alloc (Nat.le_refl _) (.cells #[.int .i64 4, .int .i64 2, .int .i64 3] 3) |>.mono hs7))
              have B7 := Lib.hid (B6.out.alloc hs7 (.cells #[.int .i64 4, .int .i64 2, .int .i64 3] 3))
              go_simp
              refine hK.out _ _ trivial (fun hHeld => ?_)
              clear hK K
              try simp only [Act.put, List.setIfInBounds_toArray, List.set_cons_zero, List.set_cons_succ]
              clear Z6 P6 B6
              generalize hss : w6.heap.size = s at *
              generalize w6.alloc (.cells #[.int .i64 4, .int .i64 2, .int .i64 3] 3) = w7 at *
              refine wpAnyH_take (i := 4) (oi := { dst := Option.some 49, op := Go.Op.indexAddr 35 (Go.Operand.tmp 46) (Go.Operand.tmp 48), type := 0, pos := "law.go:49", after := #[{ on := 1, ground := Go.Ground.data }, { on := 3, ground := Go.Ground.data }], guard := Option.none }) (v := ?_) rfl (by kernel_rfl) (by kernel_rfl) (by kernel_rfl) (fun _ _ _ h => h) (Or.inl ⟨by rfl, ?_⟩) hHeld ?_
              rotate_left 1
              · intro ww hSw
                try dsimp only at hSw
                go_simp
                try with_reducible rfl
              try simp only [Act.put, List.setIfInBounds_toArray, List.set_cons_zero, List.set_cons_succ]
              refine wpAnyH_ready (rs := [0, 5]) (by kernel_rfl) (by simp) ?_
              refine AllReadyH.cons (o := { dst := Option.some 45, op := Go.Op.load 23 (Go.Operand.tmp 7), type := 23, pos := "law.go:49", after := #[], guard := Option.none }) rfl (fun K hK => ?_) (AllReadyH.cons (o := { dst := Option.some 50, op := Go.Op.load 3 (Go.Operand.tmp 49), type := 3, pos := "law.go:49", after := #[{ on := 4, ground := Go.Ground.data }], guard := Option.none }) rfl (fun K hK => ?_) AllReadyH.nil)

              · skip
                obtain ⟨k0, k1, k2, k3, k4⟩ := Z7.out.five
                go_simp
                refine hK.out _ _ trivial (fun hHeld => ?_)
                clear hK K
                try simp only [Act.put, List.setIfInBounds_toArray, List.set_cons_zero, List.set_cons_succ]
                clear k0 k1 k2 k3 k4
                refine wpAnyH_ready (rs := [5]) (by kernel_rfl) (by simp) ?_
                refine AllReadyH.cons (o := { dst := Option.some 50, op := Go.Op.load 3 (Go.Operand.tmp 49), type := 3, pos := "law.go:49", after := #[{ on := 4, ground := Go.Ground.data }], guard := Option.none }) rfl (fun K hK => ?_) AllReadyH.nil
                have n0 := N7.out.cell 0
                simp at n0
                go_simp
                refine hK.out _ _ trivial (fun hHeld => ?_)
                clear hK K
                try simp only [Act.put, List.setIfInBounds_toArray, List.set_cons_zero, List.set_cons_succ]
                clear n0
                refine wpAnyH_ready (rs := [7]) (by kernel_rfl) (by simp) ?_
                refine AllReadyH.cons (o := { dst := Option.some 52, op := Go.Op.call { callee := Go.Callee.value (Go.Operand.func 9), args := #[Go.Operand.tmp 45, Go.Operand.tmp 50, Go.Operand.tmp 51], argTypes := #[23, 3, 24] }, type := 27, pos := "law.go:49", after := #[{ on := 0, ground := Go.Ground.data }, { on := 5, ground := Go.Ground.data }, { on := 6, ground := Go.Ground.data }], guard := Option.none }) rfl (fun K hK => ?_) AllReadyH.nil
                have hz7b := Z7.out.lt
                have hs7b := B7.out.size
                go_simp
                refine (step_any x 4 P7.out (by omega) (by omega) HA.out HX.out.2.2.1 (by decide)).mono ?_
                have HX8 := Lib.hid (atI_step (e := 4) HX.out HA.out (by decide))
                generalize stepI x 4 y.L = x' at *
                rintro e8 w8 ⟨rfl, hb8⟩
                have Z8 := Lib.hid (Z7.out.below hb8 hz7b)
                have B8 := Lib.hid (B7.out.trans (hb8.mono hs7b))
                clear hb8 P7 N7 Z7 B7
                refine hK.out _ _ trivial (fun hHeld => ?_)
                clear hK K
                try simp only [Act.put, List.setIfInBounds_toArray, List.set_cons_zero, List.set_cons_succ]
                refine wpAnyH_take (i := 8) (oi := { dst := Option.some 44, op := Go.Op.move (Go.Operand.tmp 52), type := 27, pos := "law.go:49", after := #[{ on := 7, ground := Go.Ground.data }], guard := Option.none }) (v := ?_) rfl (by kernel_rfl) (by kernel_rfl) (by kernel_rfl) (fun _ _ _ h => h) (Or.inl ⟨by rfl, ?_⟩) hHeld ?_
                rotate_left 1
                · intro ww hSw
                  try dsimp only at hSw
                  go_simp
                  try with_reducible rfl
                try simp only [Act.put, List.setIfInBounds_toArray, List.set_cons_zero, List.set_cons_succ]
                refine wpAnyH_take (i := 9) (oi := { dst := Option.some 53, op := Go.Op.extract (Go.Operand.tmp 44) 0, type := 23, pos := "law.go:49", after := #[{ on := 8, ground := Go.Ground.data }], guard := Option.none }) (v := ?_) rfl (by kernel_rfl) (by kernel_rfl) (by kernel_rfl) (fun _ _ _ h => h) (Or.inl ⟨by rfl, ?_⟩) hHeld ?_
                rotate_left 1
                · intro ww hSw
                  try dsimp only at hSw
                  go_simp
                  try with_reducible rfl
                try simp only [Act.put, List.setIfInBounds_toArray, List.set_cons_zero, List.set_cons_succ]
                refine wpAnyH_take (i := 10) (oi := { dst := Option.some 54, op := Go.Op.extract (Go.Operand.tmp 44) 1, type := 4, pos := "law.go:49", after := #[{ on := 8, ground := Go.Ground.data }, { on := 11, ground := Go.Ground.gcOnly Go.Departure.lateStores }], guard := Option.none }) (v := ?_) rfl (by kernel_rfl) (by kernel_rfl) (by kernel_rfl) (fun _ _ _ h => h) (Or.inl ⟨by rfl, ?_⟩) hHeld ?_
                rotate_left 1
                · intro ww hSw
                  try dsimp only at hSw
                  go_simp
                  try with_reducible rfl
                try simp only [Act.put, List.setIfInBounds_toArray, List.set_cons_zero, List.set_cons_succ]
                refine wpAnyH_ready (rs := [11]) (by kernel_rfl) (by simp) ?_
                refine AllReadyH.cons (o := { dst := Option.none, op := Go.Op.store 23 (Go.Operand.tmp 7) (Go.Operand.tmp 53), type := 0, pos := "law.go:49", after := #[{ on := 9, ground := Go.Ground.data }, { on := 7, ground := Go.Ground.chain }, { on := 0, ground := Go.Ground.phase }, { on := 1, ground := Go.Ground.phase }, { on := 2, ground := Go.Ground.phase }, { on := 3, ground := Go.Ground.phase }, { on := 4, ground := Go.Ground.phase }, { on := 5, ground := Go.Ground.phase }, { on := 6, ground := Go.Ground.phase }, { on := 7, ground := Go.Ground.phase }, { on := 8, ground := Go.Ground.phase }, { on := 9, ground := Go.Ground.phase }, { on := 10, ground := Go.Ground.textOnly Go.Departure.lateStores }], guard := Option.none }) rfl (fun K hK => ?_) AllReadyH.nil
                obtain ⟨k0, k1, k2, k3, k4⟩ := Z8.out.five
                obtain ⟨z0, z1, z2, z3, z4⟩ := Z8.out.thaw
                go_simp
                have Z9 := Lib.hid (blk_put5 (v0 := .int .i64 x'.self) (v1 := .int .i64 x'.prio) (v2 := .int .i64 x'.state) (v3 := .int .i64 x'.dr) (v4 := .int .i64 x'.bdr) Z8.out)
                have B9 := Lib.hid (below_put5 (v0 := .int .i64 x'.self) (v1 := .int .i64 x'.prio) (v2 := .int .i64 x'.state) (v3 := .int .i64 x'.dr) (v4 := .int .i64 x'.bdr) B8.out hw1)
                refine hK.out _ _ trivial (fun hHeld => ?_)
                clear hK K
                try simp only [Act.put, List.setIfInBounds_toArray, List.set_cons_zero, List.set_cons_succ]
                clear k0 k1 k2 k3 k4 z0 z1 z2 z3 z4 Z8 B8
                generalize (((((w8.setCell ⟨z, 0, none⟩ (.int .i64 x'.self)).setCell ⟨z, 1, none⟩ (.int .i64 x'.prio)).setCell ⟨z, 2, none⟩ (.int .i64 x'.state)).setCell ⟨z, 3, none⟩ (.int .i64 x'.dr)).setCell ⟨z, 4, none⟩ (.int .i64 x'.bdr)) = w9 at *
                refine wpAnyH_done (by kernel_rfl) ?_ _
                refine NoPanic.normal ?_
                refine hK9 _ _ ?_
                go_meet
                exact ⟨x', rfl, HX8, Z9, B9⟩

              · skip
                have n0 := N7.out.cell 0
                simp at n0
                go_simp
                refine hK.out _ _ trivial (fun hHeld => ?_)
                clear hK K
                try simp only [Act.put, List.setIfInBounds_toArray, List.set_cons_zero, List.set_cons_succ]
                clear n0
                refine wpAnyH_ready (rs := [0]) (by kernel_rfl) (by simp) ?_
                refine AllReadyH.cons (o := { dst := Option.some 45, op := Go.Op.load 23 (Go.Operand.tmp 7), type := 23, pos := "law.go:49", after := #[], guard := Option.none }) rfl (fun K hK => ?_) AllReadyH.nil
                obtain ⟨k0, k1, k2, k3, k4⟩ := Z7.out.five
                go_simp
                refine hK.out _ _ trivial (fun hHeld => ?_)
                clear hK K
                try simp only [Act.put, List.setIfInBounds_toArray, List.set_cons_zero, List.set_cons_succ]
                clear k0 k1 k2 k3 k4
                refine wpAnyH_ready (rs := [7]) (by kernel_rfl) (by simp) ?_
                refine AllReadyH.cons (o := { dst := Option.some 52, op := Go.Op.call { callee := Go.Callee.value (Go.Operand.func 9), args := #[Go.Operand.tmp 45, Go.Operand.tmp 50, Go.Operand.tmp 51], argTypes := #[23, 3, 24] }, type := 27, pos := "law.go:49", after := #[{ on := 0, ground := Go.Ground.data }, { on := 5, ground := Go.Ground.data }, { on := 6, ground := Go.Ground.data }], guard := Option.none }) rfl (fun K hK => ?_) AllReadyH.nil
                have hz7b := Z7.out.lt
                have hs7b := B7.out.size
                go_simp
                refine (step_any x 4 P7.out (by omega) (by omega) HA.out HX.out.2.2.1 (by decide)).mono ?_
                have HX8 := Lib.hid (atI_step (e := 4) HX.out HA.out (by decide))
                generalize stepI x 4 y.L = x' at *
                rintro e8 w8 ⟨rfl, hb8⟩
                have Z8 := Lib.hid (Z7.out.below hb8 hz7b)
                have B8 := Lib.hid (B7.out.trans (hb8.mono hs7b))
                clear hb8 P7 N7 Z7 B7
                refine hK.out _ _ trivial (fun hHeld => ?_)
                clear hK K
                try simp only [Act.put, List.setIfInBounds_toArray, List.set_cons_zero, List.set_cons_succ]
                refine wpAnyH_take (i := 8) (oi := { dst := Option.some 44, op := Go.Op.move (Go.Operand.tmp 52), type := 27, pos := "law.go:49", after := #[{ on := 7, ground := Go.Ground.data }], guard := Option.none }) (v := ?_) rfl (by kernel_rfl) (by kernel_rfl) (by kernel_rfl) (fun _ _ _ h => h) (Or.inl ⟨by rfl, ?_⟩) hHeld ?_
                rotate_left 1
                · intro ww hSw
                  try dsimp only at hSw
                  go_simp
                  try with_reducible rfl
                try simp only [Act.put, List.setIfInBounds_toArray, List.set_cons_zero, List.set_cons_succ]
                refine wpAnyH_take (i := 9) (oi := { dst := Option.some 53, op := Go.Op.extract (Go.Operand.tmp 44) 0, type := 23, pos := "law.go:49", after := #[{ on := 8, ground := Go.Ground.data }], guard := Option.none }) (v := ?_) rfl (by kernel_rfl) (by kernel_rfl) (by kernel_rfl) (fun _ _ _ h => h) (Or.inl ⟨by rfl, ?_⟩) hHeld ?_
                rotate_left 1
                · intro ww hSw
                  try dsimp only at hSw
                  go_simp
                  try with_reducible rfl
                try simp only [Act.put, List.setIfInBounds_toArray, List.set_cons_zero, List.set_cons_succ]
                refine wpAnyH_take (i := 10) (oi := { dst := Option.some 54, op := Go.Op.extract (Go.Operand.tmp 44) 1, type := 4, pos := "law.go:49", after := #[{ on := 8, ground := Go.Ground.data }, { on := 11, ground := Go.Ground.gcOnly Go.Departure.lateStores }], guard := Option.none }) (v := ?_) rfl (by kernel_rfl) (by kernel_rfl) (by kernel_rfl) (fun _ _ _ h => h) (Or.inl ⟨by rfl, ?_⟩) hHeld ?_
                rotate_left 1
                · intro ww hSw
                  try dsimp only at hSw
                  go_simp
                  try with_reducible rfl
                try simp only [Act.put, List.setIfInBounds_toArray, List.set_cons_zero, List.set_cons_succ]
                refine wpAnyH_ready (rs := [11]) (by kernel_rfl) (by simp) ?_
                refine AllReadyH.cons (o := { dst := Option.none, op := Go.Op.store 23 (Go.Operand.tmp 7) (Go.Operand.tmp 53), type := 0, pos := "law.go:49", after := #[{ on := 9, ground := Go.Ground.data }, { on := 7, ground := Go.Ground.chain }, { on := 0, ground := Go.Ground.phase }, { on := 1, ground := Go.Ground.phase }, { on := 2, ground := Go.Ground.phase }, { on := 3, ground := Go.Ground.phase }, { on := 4, ground := Go.Ground.phase }, { on := 5, ground := Go.Ground.phase }, { on := 6, ground := Go.Ground.phase }, { on := 7, ground := Go.Ground.phase }, { on := 8, ground := Go.Ground.phase }, { on := 9, ground := Go.Ground.phase }, { on := 10, ground := Go.Ground.textOnly Go.Departure.lateStores }], guard := Option.none }) rfl (fun K hK => ?_) AllReadyH.nil
                obtain ⟨k0, k1, k2, k3, k4⟩ := Z8.out.five
                obtain ⟨z0, z1, z2, z3, z4⟩ := Z8.out.thaw
                go_simp
                have Z9 := Lib.hid (blk_put5 (v0 := .int .i64 x'.self) (v1 := .int .i64 x'.prio) (v2 := .int .i64 x'.state) (v3 := .int .i64 x'.dr) (v4 := .int .i64 x'.bdr) Z8.out)
                have B9 := Lib.hid (below_put5 (v0 := .int .i64 x'.self) (v1 := .int .i64 x'.prio) (v2 := .int .i64 x'.state) (v3 := .int .i64 x'.dr) (v4 := .int .i64 x'.bdr) B8.out hw1)
                refine hK.out _ _ trivial (fun hHeld => ?_)
                clear hK K
                try simp only [Act.put, List.setIfInBounds_toArray, List.set_cons_zero, List.set_cons_succ]
                clear k0 k1 k2 k3 k4 z0 z1 z2 z3 z4 Z8 B8
                generalize (((((w8.setCell ⟨z, 0, none⟩ (.int .i64 x'.self)).setCell ⟨z, 1, none⟩ (.int .i64 x'.prio)).setCell ⟨z, 2, none⟩ (.int .i64 x'.state)).setCell ⟨z, 3, none⟩ (.int .i64 x'.dr)).setCell ⟨z, 4, none⟩ (.int .i64 x'.bdr)) = w9 at *
                refine wpAnyH_done (by kernel_rfl) ?_ _
                refine NoPanic.normal ?_
                refine hK9 _ _ ?_
                go_meet
                exact ⟨x', rfl, HX8, Z9, B9⟩

          by_cases hm1 : k % 3 = 1
          · have hm : (k : Int) % 3 = 1 := by omega
            have hmt : (k : Int).tmod 3 = 1 := by rw [Int.tmod_eq_emod_of_nonneg (by omega)]; exact hm
            clear hm0 hm1
            refine wp_region_noPanic ?_
            refine wp_region_held_drew (S := fun _ => True) (by kernel_rfl) trivial (fun hHeld => ?_)

            change wpAnyH _ _ _ _ _ _ _ _ w5.drew
            generalize w5.drew = w6 at *

            refine wpAnyH_take (i := 2) (oi := { dst := Option.some 47, op := Go.Op.move (Go.Operand.tmp 8), type := 3, pos := "law.go:49", after := #[], guard := Option.none }) (v := ?_) rfl (by kernel_rfl) (by kernel_rfl) (by kernel_rfl) (fun _ _ _ h => h) (Or.inl ⟨by rfl, ?_⟩) hHeld ?_
            rotate_left 1
            · intro ww hSw
              try dsimp only at hSw
              go_simp
              try with_reducible rfl
            try simp only [Act.put, List.setIfInBounds_toArray, List.set_cons_zero, List.set_cons_succ]

            refine wpAnyH_take (i := 3) (oi := { dst := Option.some 48, op := Go.Op.binOp Go.BinOp.rem 3 (Go.Operand.tmp 47) (Go.Operand.const (Go.Value.int Go.IntKind.i64 3)) 3, type := 3, pos := "law.go:49", after := #[{ on := 2, ground := Go.Ground.data }], guard := Option.none }) (v := ?_) rfl (by kernel_rfl) (by kernel_rfl) (by kernel_rfl) (fun _ _ _ h => h) (Or.inl ⟨by rfl, ?_⟩) hHeld ?_
            rotate_left 1
            · intro ww hSw
              try dsimp only at hSw
              go_simp
              try with_reducible rfl
            try simp only [Act.put, List.setIfInBounds_toArray, List.set_cons_zero, List.set_cons_succ]

            refine wpAnyH_take (i := 6) (oi := { dst := Option.some 51, op := Go.Op.move (Go.Operand.tmp 9), type := 24, pos := "law.go:49", after := #[], guard := Option.none }) (v := ?_) rfl (by kernel_rfl) (by kernel_rfl) (by kernel_rfl) (fun _ _ _ h => h) (Or.inl ⟨by rfl, ?_⟩) hHeld ?_
            rotate_left 1
            · intro ww hSw
              try dsimp only at hSw
              go_simp
              try with_reducible rfl
            try simp only [Act.put, List.setIfInBounds_toArray, List.set_cons_zero, List.set_cons_succ]

            refine wpAnyH_ready (rs := [0, 1]) (by kernel_rfl) (by simp) ?_

            refine AllReadyH.cons (o := { dst := Option.some 45, op := Go.Op.load 23 (Go.Operand.tmp 7), type := 23, pos := "law.go:49", after := #[], guard := Option.none }) rfl (fun K hK => ?_) (AllReadyH.cons (o := { dst := Option.some 46, op := Go.Op.buildSlice 35 3 #[(0, Go.Operand.const (Go.Value.int Go.IntKind.i64 4)), (1, Go.Operand.const (Go.Value.int Go.IntKind.i64 2)), (2, Go.Operand.const (Go.Value.int Go.IntKind.i64 3))], type := 35, pos := "law.go:49", after := #[], guard := Option.none }) rfl (fun K hK => ?_) AllReadyH.nil)

            · skip
              obtain ⟨k0, k1, k2, k3, k4⟩ := Z6.out.five
              go_simp
              refine hK.out _ _ trivial (fun hHeld => ?_)
              clear hK K
              try simp only [Act.put, List.setIfInBounds_toArray, List.set_cons_zero, List.set_cons_succ]
              clear k0 k1 k2 k3 k4
              refine wpAnyH_ready (rs := [1]) (by kernel_rfl) (by simp) ?_
              refine AllReadyH.cons (o := { dst := Option.some 46, op := Go.Op.buildSlice 35 3 #[(0, Go.Operand.const (Go.Value.int Go.IntKind.i64 4)), (1, Go.Operand.const (Go.Value.int Go.IntKind.i64 2)), (2, Go.Operand.const (Go.Value.int Go.IntKind.i64 3))], type := 35, pos := "law.go:49", after := #[], guard := Option.none }) rfl (fun K hK => ?_) AllReadyH.nil
              have hs7 := B6.out.size
              have hz7 := Z6.out.lt
              have Z7 := Lib.hid (Z6.out.alloc (.cells #[.int .i64 4, .int .i64 2, .int .i64 3] 3))
              have N7 := Lib.hid (Blk.new w6 3 #[.int .i64 4, .int .i64 2, .int .i64 3])
              have P7 := Lib.hid (P6.out.below ((Below.refl w6.heap.size w6).alloc (Nat.le_refl _) (.cells #[.int .i64 4, .int .i64 2, .int .i64 3] 3) |>.mono hs7))
              have B7 := Lib.hid (B6.out.alloc hs7 (.cells #[.int .i64 4, .int .i64 2, .int .i64 3] 3))
              go_simp
              refine hK.out _ _ trivial (fun hHeld => ?_)
              clear hK K
              try simp only [Act.put, List.setIfInBounds_toArray, List.set_cons_zero, List.set_cons_succ]
              clear Z6 P6 B6
              generalize hss : w6.heap.size = s at *
              generalize w6.alloc (.cells #[.int .i64 4, .int .i64 2, .int .i64 3] 3) = w7 at *
              refine wpAnyH_take (i := 4) (oi := { dst := Option.some 49, op := Go.Op.indexAddr 35 (Go.Operand.tmp 46) (Go.Operand.tmp 48), type := 0, pos := "law.go:49", after := #[{ on := 1, ground := Go.Ground.data }, { on := 3, ground := Go.Ground.data }], guard := Option.none }) (v := ?_) rfl (by kernel_rfl) (by kernel_rfl) (by kernel_rfl) (fun _ _ _ h => h) (Or.inl ⟨by rfl, ?_⟩) hHeld ?_
              rotate_left 1
              · intro ww hSw
                try dsimp only at hSw
                go_simp
                try with_reducible rfl
              try simp only [Act.put, List.setIfInBounds_toArray, List.set_cons_zero, List.set_cons_succ]
              refine wpAnyH_ready (rs := [5]) (by kernel_rfl) (by simp) ?_
              refine AllReadyH.cons (o := { dst := Option.some 50, op := Go.Op.load 3 (Go.Operand.tmp 49), type := 3, pos := "law.go:49", after := #[{ on := 4, ground := Go.Ground.data }], guard := Option.none }) rfl (fun K hK => ?_) AllReadyH.nil
              have n0 := N7.out.cell 1
              simp at n0
              go_simp
              refine hK.out _ _ trivial (fun hHeld => ?_)
              clear hK K
              try simp only [Act.put, List.setIfInBounds_toArray, List.set_cons_zero, List.set_cons_succ]
              clear n0
              refine wpAnyH_ready (rs := [7]) (by kernel_rfl) (by simp) ?_
              refine AllReadyH.cons (o := { dst := Option.some 52, op := Go.Op.call { callee := Go.Callee.value (Go.Operand.func 9), args := #[Go.Operand.tmp 45, Go.Operand.tmp 50, Go.Operand.tmp 51], argTypes := #[23, 3, 24] }, type := 27, pos := "law.go:49", after := #[{ on := 0, ground := Go.Ground.data }, { on := 5, ground := Go.Ground.data }, { on := 6, ground := Go.Ground.data }], guard := Option.none }) rfl (fun K hK => ?_) AllReadyH.nil
              have hz7b := Z7.out.lt
              have hs7b := B7.out.size
              go_simp
              refine (step_any x 2 P7.out (by omega) (by omega) HA.out HX.out.2.2.1 (by decide)).mono ?_
              have HX8 := Lib.hid (atI_step (e := 2) HX.out HA.out (by decide))
              generalize stepI x 2 y.L = x' at *
              rintro e8 w8 ⟨rfl, hb8⟩
              have Z8 := Lib.hid (Z7.out.below hb8 hz7b)
              have B8 := Lib.hid (B7.out.trans (hb8.mono hs7b))
              clear hb8 P7 N7 Z7 B7
              refine hK.out _ _ trivial (fun hHeld => ?_)
              clear hK K
              try simp only [Act.put, List.setIfInBounds_toArray, List.set_cons_zero, List.set_cons_succ]
              refine wpAnyH_take (i := 8) (oi := { dst := Option.some 44, op := Go.Op.move (Go.Operand.tmp 52), type := 27, pos := "law.go:49", after := #[{ on := 7, ground := Go.Ground.data }], guard := Option.none }) (v := ?_) rfl (by kernel_rfl) (by kernel_rfl) (by kernel_rfl) (fun _ _ _ h => h) (Or.inl ⟨by rfl, ?_⟩) hHeld ?_
              rotate_left 1
              · intro ww hSw
                try dsimp only at hSw
                go_simp
                try with_reducible rfl
              try simp only [Act.put, List.setIfInBounds_toArray, List.set_cons_zero, List.set_cons_succ]
              refine wpAnyH_take (i := 9) (oi := { dst := Option.some 53, op := Go.Op.extract (Go.Operand.tmp 44) 0, type := 23, pos := "law.go:49", after := #[{ on := 8, ground := Go.Ground.data }], guard := Option.none }) (v := ?_) rfl (by kernel_rfl) (by kernel_rfl) (by kernel_rfl) (fun _ _ _ h => h) (Or.inl ⟨by rfl, ?_⟩) hHeld ?_
              rotate_left 1
              · intro ww hSw
                try dsimp only at hSw
                go_simp
                try with_reducible rfl
              try simp only [Act.put, List.setIfInBounds_toArray, List.set_cons_zero, List.set_cons_succ]
              refine wpAnyH_take (i := 10) (oi := { dst := Option.some 54, op := Go.Op.extract (Go.Operand.tmp 44) 1, type := 4, pos := "law.go:49", after := #[{ on := 8, ground := Go.Ground.data }, { on := 11, ground := Go.Ground.gcOnly Go.Departure.lateStores }], guard := Option.none }) (v := ?_) rfl (by kernel_rfl) (by kernel_rfl) (by kernel_rfl) (fun _ _ _ h => h) (Or.inl ⟨by rfl, ?_⟩) hHeld ?_
              rotate_left 1
              · intro ww hSw
                try dsimp only at hSw
                go_simp
                try with_reducible rfl
              try simp only [Act.put, List.setIfInBounds_toArray, List.set_cons_zero, List.set_cons_succ]
              refine wpAnyH_ready (rs := [11]) (by kernel_rfl) (by simp) ?_
              refine AllReadyH.cons (o := { dst := Option.none, op := Go.Op.store 23 (Go.Operand.tmp 7) (Go.Operand.tmp 53), type := 0, pos := "law.go:49", after := #[{ on := 9, ground := Go.Ground.data }, { on := 7, ground := Go.Ground.chain }, { on := 0, ground := Go.Ground.phase }, { on := 1, ground := Go.Ground.phase }, { on := 2, ground := Go.Ground.phase }, { on := 3, ground := Go.Ground.phase }, { on := 4, ground := Go.Ground.phase }, { on := 5, ground := Go.Ground.phase }, { on := 6, ground := Go.Ground.phase }, { on := 7, ground := Go.Ground.phase }, { on := 8, ground := Go.Ground.phase }, { on := 9, ground := Go.Ground.phase }, { on := 10, ground := Go.Ground.textOnly Go.Departure.lateStores }], guard := Option.none }) rfl (fun K hK => ?_) AllReadyH.nil
              obtain ⟨k0, k1, k2, k3, k4⟩ := Z8.out.five
              obtain ⟨z0, z1, z2, z3, z4⟩ := Z8.out.thaw
              go_simp
              have Z9 := Lib.hid (blk_put5 (v0 := .int .i64 x'.self) (v1 := .int .i64 x'.prio) (v2 := .int .i64 x'.state) (v3 := .int .i64 x'.dr) (v4 := .int .i64 x'.bdr) Z8.out)
              have B9 := Lib.hid (below_put5 (v0 := .int .i64 x'.self) (v1 := .int .i64 x'.prio) (v2 := .int .i64 x'.state) (v3 := .int .i64 x'.dr) (v4 := .int .i64 x'.bdr) B8.out hw1)
              refine hK.out _ _ trivial (fun hHeld => ?_)
              clear hK K
              try simp only [Act.put, List.setIfInBounds_toArray, List.set_cons_zero, List.set_cons_succ]
              clear k0 k1 k2 k3 k4 z0 z1 z2 z3 z4 Z8 B8
              generalize (((((w8.setCell ⟨z, 0, none⟩ (.int .i64 x'.self)).setCell ⟨z, 1, none⟩ (.int .i64 x'.prio)).setCell ⟨z, 2, none⟩ (.int .i64 x'.state)).setCell ⟨z, 3, none⟩ (.int .i64 x'.dr)).setCell ⟨z, 4, none⟩ (.int .i64 x'.bdr)) = w9 at *
              refine wpAnyH_done (by kernel_rfl) ?_ _
              refine NoPanic.normal ?_
              refine hK9 _ _ ?_
              go_meet
              exact ⟨x', rfl, HX8, Z9, B9⟩

            · skip
              have hs7 := B6.out.size
              have hz7 := Z6.out.lt
              have Z7 := Lib.hid (Z6.out.alloc (.cells #[.int .i64 4, .int .i64 2, .int .i64 3] 3))
              have N7 := Lib.hid (Blk.new w6 3 #[.int .i64 4, .int .i64 2, .int .i64 3])
              have P7 := Lib.hid (P6.out.below ((Below.refl w6.heap.size w6).alloc (Nat.le_refl _) (.cells #[.int .i64 4, .int .i64 2, .int .i64 3] 3) |>.mono hs7))
              have B7 := Lib.hid (B6.out.alloc hs7 (.cells #[.int .i64 4, .int .i64 2, .int .i64 3] 3))
              go_simp
              refine hK.out _ _ trivial (fun hHeld => ?_)
              clear hK K
              try simp only [Act.put, List.setIfInBounds_toArray, List.set_cons_zero, List.set_cons_succ]
              clear Z6 P6 B6
              generalize hss : w6.heap.size = s at *
              generalize w6.alloc (.cells #[.int .i64 4, .int .i64 2, .int .i64 3] 3) = w7 at *
              refine wpAnyH_take (i := 4) (oi := { dst := Option.some 49, op := Go.Op.indexAddr 35 (Go.Operand.tmp 46) (Go.Operand.tmp 48), type := 0, pos := "law.go:49", after := #[{ on := 1, ground := Go.Ground.data }, { on := 3, ground := Go.Ground.data }], guard := Option.none }) (v := ?_) rfl (by kernel_rfl) (by kernel_rfl) (by kernel_rfl) (fun _ _ _ h => h) (Or.inl ⟨by rfl, ?_⟩) hHeld ?_
              rotate_left 1
              · intro ww hSw
                try dsimp only at hSw
                go_simp
                try with_reducible rfl
              try simp only [Act.put, List.setIfInBounds_toArray, List.set_cons_zero, List.set_cons_succ]
              refine wpAnyH_ready (rs := [0, 5]) (by kernel_rfl) (by simp) ?_
              refine AllReadyH.cons (o := { dst := Option.some 45, op := Go.Op.load 23 (Go.Operand.tmp 7), type := 23, pos := "law.go:49", after := #[], guard := Option.none }) rfl (fun K hK => ?_) (AllReadyH.cons (o := { dst := Option.some 50, op := Go.Op.load 3 (Go.Operand.tmp 49), type := 3, pos := "law.go:49", after := #[{ on := 4, ground := Go.Ground.data }], guard := Option.none }) rfl (fun K hK => ?_) AllReadyH.nil)

              · skip
                obtain ⟨k0, k1, k2, k3, k4⟩ := Z7.out.five
                go_simp
                refine hK.out _ _ trivial (fun hHeld => ?_)
                clear hK K
                try simp only [Act.put, List.setIfInBounds_toArray, List.set_cons_zero, List.set_cons_succ]
                clear k0 k1 k2 k3 k4
                refine wpAnyH_ready (rs := [5]) (by kernel_rfl) (by simp) ?_
                refine AllReadyH.cons (o := { dst := Option.some 50, op := Go.Op.load 3 (Go.Operand.tmp 49), type := 3, pos := "law.go:49", after := #[{ on := 4, ground := Go.Ground.data }], guard := Option.none }) rfl (fun K hK => ?_) AllReadyH.nil
                have n0 := N7.out.cell 1
                simp at n0
                go_simp
                refine hK.out _ _ trivial (fun hHeld => ?_)
                clear hK K
                try simp only [Act.put, List.setIfInBounds_toArray, List.set_cons_zero, List.set_cons_succ]
                clear n0
                refine wpAnyH_ready (rs := [7]) (by kernel_rfl) (by simp) ?_
                refine AllReadyH.cons (o := { dst := Option.some 52, op := Go.Op.call { callee := Go.Callee.value (Go.Operand.func 9), args := #[Go.Operand.tmp 45, Go.Operand.tmp 50, Go.Operand.tmp 51], argTypes := #[23, 3, 24] }, type := 27, pos := "law.go:49", after := #[{ on := 0, ground := Go.Ground.data }, { on := 5, ground := Go.Ground.data }, { on := 6, ground := Go.Ground.data }], guard := Option.none }) rfl (fun K hK => ?_) AllReadyH.nil
                have hz7b := Z7.out.lt
                have hs7b := B7.out.size
                go_simp
                refine (step_any x 2 P7.out (by omega) (by omega) HA.out HX.out.2.2.1 (by decide)).mono ?_
                have HX8 := Lib.hid (atI_step (e := 2) HX.out HA.out (by decide))
                generalize stepI x 2 y.L = x' at *
                rintro e8 w8 ⟨rfl, hb8⟩
                have Z8 := Lib.hid (Z7.out.below hb8 hz7b)
                have B8 := Lib.hid (B7.out.trans (hb8.mono hs7b))
                clear hb8 P7 N7 Z7 B7
                refine hK.out _ _ trivial (fun hHeld => ?_)
                clear hK K
                try simp only [Act.put, List.setIfInBounds_toArray, List.set_cons_zero, List.set_cons_succ]
                refine wpAnyH_take (i := 8) (oi := { dst := Option.some 44, op := Go.Op.move (Go.Operand.tmp 52), type := 27, pos := "law.go:49", after := #[{ on := 7, ground := Go.Ground.data }], guard := Option.none }) (v := ?_) rfl (by kernel_rfl) (by kernel_rfl) (by kernel_rfl) (fun _ _ _ h => h) (Or.inl ⟨by rfl, ?_⟩) hHeld ?_
                rotate_left 1
                · intro ww hSw
                  try dsimp only at hSw
                  go_simp
                  try with_reducible rfl
                try simp only [Act.put, List.setIfInBounds_toArray, List.set_cons_zero, List.set_cons_succ]
                refine wpAnyH_take (i := 9) (oi := { dst := Option.some 53, op := Go.Op.extract (Go.Operand.tmp 44) 0, type := 23, pos := "law.go:49", after := #[{ on := 8, ground := Go.Ground.data }], guard := Option.none }) (v := ?_) rfl (by kernel_rfl) (by kernel_rfl) (by kernel_rfl) (fun _ _ _ h => h) (Or.inl ⟨by rfl, ?_⟩) hHeld ?_
                rotate_left 1
                · intro ww hSw
                  try dsimp only at hSw
                  go_simp
                  try with_reducible rfl
                try simp only [Act.put, List.setIfInBounds_toArray, List.set_cons_zero, List.set_cons_succ]
                refine wpAnyH_take (i := 10) (oi := { dst := Option.some 54, op := Go.Op.extract (Go.Operand.tmp 44) 1, type := 4, pos := "law.go:49", after := #[{ on := 8, ground := Go.Ground.data }, { on := 11, ground := Go.Ground.gcOnly Go.Departure.lateStores }], guard := Option.none }) (v := ?_) rfl (by kernel_rfl) (by kernel_rfl) (by kernel_rfl) (fun _ _ _ h => h) (Or.inl ⟨by rfl, ?_⟩) hHeld ?_
                rotate_left 1
                · intro ww hSw
                  try dsimp only at hSw
                  go_simp
                  try with_reducible rfl
                try simp only [Act.put, List.setIfInBounds_toArray, List.set_cons_zero, List.set_cons_succ]
                refine wpAnyH_ready (rs := [11]) (by kernel_rfl) (by simp) ?_
                refine AllReadyH.cons (o := { dst := Option.none, op := Go.Op.store 23 (Go.Operand.tmp 7) (Go.Operand.tmp 53), type := 0, pos := "law.go:49", after := #[{ on := 9, ground := Go.Ground.data }, { on := 7, ground := Go.Ground.chain }, { on := 0, ground := Go.Ground.phase }, { on := 1, ground := Go.Ground.phase }, { on := 2, ground := Go.Ground.phase }, { on := 3, ground := Go.Ground.phase }, { on := 4, ground := Go.Ground.phase }, { on := 5, ground := Go.Ground.phase }, { on := 6, ground := Go.Ground.phase }, { on := 7, ground := Go.Ground.phase }, { on := 8, ground := Go.Ground.phase }, { on := 9, ground := Go.Ground.phase }, { on := 10, ground := Go.Ground.textOnly Go.Departure.lateStores }], guard := Option.none }) rfl (fun K hK => ?_) AllReadyH.nil
                obtain ⟨k0, k1, k2, k3, k4⟩ := Z8.out.five
                obtain ⟨z0, z1, z2, z3, z4⟩ := Z8.out.thaw
                go_simp
                have Z9 := Lib.hid (blk_put5 (v0 := .int .i64 x'.self) (v1 := .int .i64 x'.prio) (v2 := .int .i64 x'.state) (v3 := .int .i64 x'.dr) (v4 := .int .i64 x'.bdr) Z8.out)
                have B9 := Lib.hid (below_put5 (v0 := .int .i64 x'.self) (v1 := .int .i64 x'.prio) (v2 := .int .i64 x'.state) (v3 := .int .i64 x'.dr) (v4 := .int .i64 x'.bdr) B8.out hw1)
                refine hK.out _ _ trivial (fun hHeld => ?_)
                clear hK K
                try simp only [Act.put, List.setIfInBounds_toArray, List.set_cons_zero, List.set_cons_succ]
                clear k0 k1 k2 k3 k4 z0 z1 z2 z3 z4 Z8 B8
                generalize (((((w8.setCell ⟨z, 0, none⟩ (.int .i64 x'.self)).setCell ⟨z, 1, none⟩ (.int .i64 x'.prio)).setCell ⟨z, 2, none⟩ (.int .i64 x'.state)).setCell ⟨z, 3, none⟩ (.int .i64 x'.dr)).setCell ⟨z, 4, none⟩ (.int .i64 x'.bdr)) = w9 at *
                refine wpAnyH_done (by kernel_rfl) ?_ _
                refine NoPanic.normal ?_
                refine hK9 _ _ ?_
                go_meet
                exact ⟨x', rfl, HX8, Z9, B9⟩

              · skip
                have n0 := N7.out.cell 1
                simp at n0
                go_simp
                refine hK.out _ _ trivial (fun hHeld => ?_)
                clear hK K
                try simp only [Act.put, List.setIfInBounds_toArray, List.set_cons_zero, List.set_cons_succ]
                clear n0
                refine wpAnyH_ready (rs := [0]) (by kernel_rfl) (by simp) ?_
                refine AllReadyH.cons (o := { dst := Option.some 45, op := Go.Op.load 23 (Go.Operand.tmp 7), type := 23, pos := "law.go:49", after := #[], guard := Option.none }) rfl (fun K hK => ?_) AllReadyH.nil
                obtain ⟨k0, k1, k2, k3, k4⟩ := Z7.out.five
                go_simp
                refine hK.out _ _ trivial (fun hHeld => ?_)
                clear hK K
                try simp only [Act.put, List.setIfInBounds_toArray, List.set_cons_zero, List.set_cons_succ]
                clear k0 k1 k2 k3 k4
                refine wpAnyH_ready (rs := [7]) (by kernel_rfl) (by simp) ?_
                refine AllReadyH.cons (o := { dst := Option.some 52, op := Go.Op.call { callee := Go.Callee.value (Go.Operand.func 9), args := #[Go.Operand.tmp 45, Go.Operand.tmp 50, Go.Operand.tmp 51], argTypes := #[23, 3, 24] }, type := 27, pos := "law.go:49", after := #[{ on := 0, ground := Go.Ground.data }, { on := 5, ground := Go.Ground.data }, { on := 6, ground := Go.Ground.data }], guard := Option.none }) rfl (fun K hK => ?_) AllReadyH.nil
                have hz7b := Z7.out.lt
                have hs7b := B7.out.size
                go_simp
                refine (step_any x 2 P7.out (by omega) (by omega) HA.out HX.out.2.2.1 (by decide)).mono ?_
                have HX8 := Lib.hid (atI_step (e := 2) HX.out HA.out (by decide))
                generalize stepI x 2 y.L = x' at *
                rintro e8 w8 ⟨rfl, hb8⟩
                have Z8 := Lib.hid (Z7.out.below hb8 hz7b)
                have B8 := Lib.hid (B7.out.trans (hb8.mono hs7b))
                clear hb8 P7 N7 Z7 B7
                refine hK.out _ _ trivial (fun hHeld => ?_)
                clear hK K
                try simp only [Act.put, List.setIfInBounds_toArray, List.set_cons_zero, List.set_cons_succ]
                refine wpAnyH_take (i := 8) (oi := { dst := Option.some 44, op := Go.Op.move (Go.Operand.tmp 52), type := 27, pos := "law.go:49", after := #[{ on := 7, ground := Go.Ground.data }], guard := Option.none }) (v := ?_) rfl (by kernel_rfl) (by kernel_rfl) (by kernel_rfl) (fun _ _ _ h => h) (Or.inl ⟨by rfl, ?_⟩) hHeld ?_
                rotate_left 1
                · intro ww hSw
                  try dsimp only at hSw
                  go_simp
                  try with_reducible rfl
                try simp only [Act.put, List.setIfInBounds_toArray, List.set_cons_zero, List.set_cons_succ]
                refine wpAnyH_take (i := 9) (oi := { dst := Option.some 53, op := Go.Op.extract (Go.Operand.tmp 44) 0, type := 23, pos := "law.go:49", after := #[{ on := 8, ground := Go.Ground.data }], guard := Option.none }) (v := ?_) rfl (by kernel_rfl) (by kernel_rfl) (by kernel_rfl) (fun _ _ _ h => h) (Or.inl ⟨by rfl, ?_⟩) hHeld ?_
                rotate_left 1
                · intro ww hSw
                  try dsimp only at hSw
                  go_simp
                  try with_reducible rfl
                try simp only [Act.put, List.setIfInBounds_toArray, List.set_cons_zero, List.set_cons_succ]
                refine wpAnyH_take (i := 10) (oi := { dst := Option.some 54, op := Go.Op.extract (Go.Operand.tmp 44) 1, type := 4, pos := "law.go:49", after := #[{ on := 8, ground := Go.Ground.data }, { on := 11, ground := Go.Ground.gcOnly Go.Departure.lateStores }], guard := Option.none }) (v := ?_) rfl (by kernel_rfl) (by kernel_rfl) (by kernel_rfl) (fun _ _ _ h => h) (Or.inl ⟨by rfl, ?_⟩) hHeld ?_
                rotate_left 1
                · intro ww hSw
                  try dsimp only at hSw
                  go_simp
                  try with_reducible rfl
                try simp only [Act.put, List.setIfInBounds_toArray, List.set_cons_zero, List.set_cons_succ]
                refine wpAnyH_ready (rs := [11]) (by kernel_rfl) (by simp) ?_
                refine AllReadyH.cons (o := { dst := Option.none, op := Go.Op.store 23 (Go.Operand.tmp 7) (Go.Operand.tmp 53), type := 0, pos := "law.go:49", after := #[{ on := 9, ground := Go.Ground.data }, { on := 7, ground := Go.Ground.chain }, { on := 0, ground := Go.Ground.phase }, { on := 1, ground := Go.Ground.phase }, { on := 2, ground := Go.Ground.phase }, { on := 3, ground := Go.Ground.phase }, { on := 4, ground := Go.Ground.phase }, { on := 5, ground := Go.Ground.phase }, { on := 6, ground := Go.Ground.phase }, { on := 7, ground := Go.Ground.phase }, { on := 8, ground := Go.Ground.phase }, { on := 9, ground := Go.Ground.phase }, { on := 10, ground := Go.Ground.textOnly Go.Departure.lateStores }], guard := Option.none }) rfl (fun K hK => ?_) AllReadyH.nil
                obtain ⟨k0, k1, k2, k3, k4⟩ := Z8.out.five
                obtain ⟨z0, z1, z2, z3, z4⟩ := Z8.out.thaw
                go_simp
                have Z9 := Lib.hid (blk_put5 (v0 := .int .i64 x'.self) (v1 := .int .i64 x'.prio) (v2 := .int .i64 x'.state) (v3 := .int .i64 x'.dr) (v4 := .int .i64 x'.bdr) Z8.out)
                have B9 := Lib.hid (below_put5 (v0 := .int .i64 x'.self) (v1 := .int .i64 x'.prio) (v2 := .int .i64 x'.state) (v3 := .int .i64 x'.dr) (v4 := .int .i64 x'.bdr) B8.out hw1)
                refine hK.out _ _ trivial (fun hHeld => ?_)
                clear hK K
                try simp only [Act.put, List.setIfInBounds_toArray, List.set_cons_zero, List.set_cons_succ]
                clear k0 k1 k2 k3 k4 z0 z1 z2 z3 z4 Z8 B8
                generalize (((((w8.setCell ⟨z, 0, none⟩ (.int .i64 x'.self)).setCell ⟨z, 1, none⟩ (.int .i64 x'.prio)).setCell ⟨z, 2, none⟩ (.int .i64 x'.state)).setCell ⟨z, 3, none⟩ (.int .i64 x'.dr)).setCell ⟨z, 4, none⟩ (.int .i64 x'.bdr)) = w9 at *
                refine wpAnyH_done (by kernel_rfl) ?_ _
                refine NoPanic.normal ?_
                refine hK9 _ _ ?_
                go_meet
                exact ⟨x', rfl, HX8, Z9, B9⟩

          · have hm : (k : Int) % 3 = 2 := by omega
            have hmt : (k : Int).tmod 3 = 2 := by rw [Int.tmod_eq_emod_of_nonneg (by omega)]; exact hm
            clear hm0 hm1
            refine wp_region_noPanic ?_
            refine wp_region_held_drew (S := fun _ => True) (by kernel_rfl) trivial (fun hHeld => ?_)

            change wpAnyH _ _ _ _ _ _ _ _ w5.drew
            generalize w5.drew = w6 at *

            refine wpAnyH_take (i := 2) (oi := { dst := Option.some 47, op := Go.Op.move (Go.Operand.tmp 8), type := 3, pos := "law.go:49", after := #[], guard := Option.none }) (v := ?_) rfl (by kernel_rfl) (by kernel_rfl) (by kernel_rfl) (fun _ _ _ h => h) (Or.inl ⟨by rfl, ?_⟩) hHeld ?_
            rotate_left 1
            · intro ww hSw
              try dsimp only at hSw
              go_simp
              try with_reducible rfl
            try simp only [Act.put, List.setIfInBounds_toArray, List.set_cons_zero, List.set_cons_succ]

            refine wpAnyH_take (i := 3) (oi := { dst := Option.some 48, op := Go.Op.binOp Go.BinOp.rem 3 (Go.Operand.tmp 47) (Go.Operand.const (Go.Value.int Go.IntKind.i64 3)) 3, type := 3, pos := "law.go:49", after := #[{ on := 2, ground := Go.Ground.data }], guard := Option.none }) (v := ?_) rfl (by kernel_rfl) (by kernel_rfl) (by kernel_rfl) (fun _ _ _ h => h) (Or.inl ⟨by rfl, ?_⟩) hHeld ?_
            rotate_left 1
            · intro ww hSw
              try dsimp only at hSw
              go_simp
              try with_reducible rfl
            try simp only [Act.put, List.setIfInBounds_toArray, List.set_cons_zero, List.set_cons_succ]

            refine wpAnyH_take (i := 6) (oi := { dst := Option.some 51, op := Go.Op.move (Go.Operand.tmp 9), type := 24, pos := "law.go:49", after := #[], guard := Option.none }) (v := ?_) rfl (by kernel_rfl) (by kernel_rfl) (by kernel_rfl) (fun _ _ _ h => h) (Or.inl ⟨by rfl, ?_⟩) hHeld ?_
            rotate_left 1
            · intro ww hSw
              try dsimp only at hSw
              go_simp
              try with_reducible rfl
            try simp only [Act.put, List.setIfInBounds_toArray, List.set_cons_zero, List.set_cons_succ]

            refine wpAnyH_ready (rs := [0, 1]) (by kernel_rfl) (by simp) ?_

            refine AllReadyH.cons (o := { dst := Option.some 45, op := Go.Op.load 23 (Go.Operand.tmp 7), type := 23, pos := "law.go:49", after := #[], guard := Option.none }) rfl (fun K hK => ?_) (AllReadyH.cons (o := { dst := Option.some 46, op := Go.Op.buildSlice 35 3 #[(0, Go.Operand.const (Go.Value.int Go.IntKind.i64 4)), (1, Go.Operand.const (Go.Value.int Go.IntKind.i64 2)), (2, Go.Operand.const (Go.Value.int Go.IntKind.i64 3))], type := 35, pos := "law.go:49", after := #[], guard := Option.none }) rfl (fun K hK => ?_) AllReadyH.nil)

            · skip
              obtain ⟨k0, k1, k2, k3, k4⟩ := Z6.out.five
              go_simp
              refine hK.out _ _ trivial (fun hHeld => ?_)
              clear hK K
              try simp only [Act.put, List.setIfInBounds_toArray, List.set_cons_zero, List.set_cons_succ]
              clear k0 k1 k2 k3 k4
              refine wpAnyH_ready (rs := [1]) (by kernel_rfl) (by simp) ?_
              refine AllReadyH.cons (o := { dst := Option.some 46, op := Go.Op.buildSlice 35 3 #[(0, Go.Operand.const (Go.Value.int Go.IntKind.i64 4)), (1, Go.Operand.const (Go.Value.int Go.IntKind.i64 2)), (2, Go.Operand.const (Go.Value.int Go.IntKind.i64 3))], type := 35, pos := "law.go:49", after := #[], guard := Option.none }) rfl (fun K hK => ?_) AllReadyH.nil
              have hs7 := B6.out.size
              have hz7 := Z6.out.lt
              have Z7 := Lib.hid (Z6.out.alloc (.cells #[.int .i64 4, .int .i64 2, .int .i64 3] 3))
              have N7 := Lib.hid (Blk.new w6 3 #[.int .i64 4, .int .i64 2, .int .i64 3])
              have P7 := Lib.hid (P6.out.below ((Below.refl w6.heap.size w6).alloc (Nat.le_refl _) (.cells #[.int .i64 4, .int .i64 2, .int .i64 3] 3) |>.mono hs7))
              have B7 := Lib.hid (B6.out.alloc hs7 (.cells #[.int .i64 4, .int .i64 2, .int .i64 3] 3))
              go_simp
              refine hK.out _ _ trivial (fun hHeld => ?_)
              clear hK K
              try simp only [Act.put, List.setIfInBounds_toArray, List.set_cons_zero, List.set_cons_succ]
              clear Z6 P6 B6
              generalize hss : w6.heap.size = s at *
              generalize w6.alloc (.cells #[.int .i64 4, .int .i64 2, .int .i64 3] 3) = w7 at *
              refine wpAnyH_take (i := 4) (oi := { dst := Option.some 49, op := Go.Op.indexAddr 35 (Go.Operand.tmp 46) (Go.Operand.tmp 48), type := 0, pos := "law.go:49", after := #[{ on := 1, ground := Go.Ground.data }, { on := 3, ground := Go.Ground.data }], guard := Option.none }) (v := ?_) rfl (by kernel_rfl) (by kernel_rfl) (by kernel_rfl) (fun _ _ _ h => h) (Or.inl ⟨by rfl, ?_⟩) hHeld ?_
              rotate_left 1
              · intro ww hSw
                try dsimp only at hSw
                go_simp
                try with_reducible rfl
              try simp only [Act.put, List.setIfInBounds_toArray, List.set_cons_zero, List.set_cons_succ]
              refine wpAnyH_ready (rs := [5]) (by kernel_rfl) (by simp) ?_
              refine AllReadyH.cons (o := { dst := Option.some 50, op := Go.Op.load 3 (Go.Operand.tmp 49), type := 3, pos := "law.go:49", after := #[{ on := 4, ground := Go.Ground.data }], guard := Option.none }) rfl (fun K hK => ?_) AllReadyH.nil
              have n0 := N7.out.cell 2
              simp at n0
              go_simp
              refine hK.out _ _ trivial (fun hHeld => ?_)
              clear hK K
              try simp only [Act.put, List.setIfInBounds_toArray, List.set_cons_zero, List.set_cons_succ]
              clear n0
              refine wpAnyH_ready (rs := [7]) (by kernel_rfl) (by simp) ?_
              refine AllReadyH.cons (o := { dst := Option.some 52, op := Go.Op.call { callee := Go.Callee.value (Go.Operand.func 9), args := #[Go.Operand.tmp 45, Go.Operand.tmp 50, Go.Operand.tmp 51], argTypes := #[23, 3, 24] }, type := 27, pos := "law.go:49", after := #[{ on := 0, ground := Go.Ground.data }, { on := 5, ground := Go.Ground.data }, { on := 6, ground := Go.Ground.data }], guard := Option.none }) rfl (fun K hK => ?_) AllReadyH.nil
              have hz7b := Z7.out.lt
              have hs7b := B7.out.size
              go_simp
              refine (step_any x 3 P7.out (by omega) (by omega) HA.out HX.out.2.2.1 (by decide)).mono ?_
              have HX8 := Lib.hid (atI_step (e := 3) HX.out HA.out (by decide))
              generalize stepI x 3 y.L = x' at *
              rintro e8 w8 ⟨rfl, hb8⟩
              have Z8 := Lib.hid (Z7.out.below hb8 hz7b)
              have B8 := Lib.hid (B7.out.trans (hb8.mono hs7b))
              clear hb8 P7 N7 Z7 B7
              refine hK.out _ _ trivial (fun hHeld => ?_)
              clear hK K
              try simp only [Act.put, List.setIfInBounds_toArray, List.set_cons_zero, List.set_cons_succ]
              refine wpAnyH_take (i := 8) (oi := { dst := Option.some 44, op := Go.Op.move (Go.Operand.tmp 52), type := 27, pos := "law.go:49", after := #[{ on := 7, ground := Go.Ground.data }], guard := Option.none }) (v := ?_) rfl (by kernel_rfl) (by kernel_rfl) (by kernel_rfl) (fun _ _ _ h => h) (Or.inl ⟨by rfl, ?_⟩) hHeld ?_
              rotate_left 1
              · intro ww hSw
                try dsimp only at hSw
                go_simp
                try with_reducible rfl
              try simp only [Act.put, List.setIfInBounds_toArray, List.set_cons_zero, List.set_cons_succ]
              refine wpAnyH_take (i := 9) (oi := { dst := Option.some 53, op := Go.Op.extract (Go.Operand.tmp 44) 0, type := 23, pos := "law.go:49", after := #[{ on := 8, ground := Go.Ground.data }], guard := Option.none }) (v := ?_) rfl (by kernel_rfl) (by kernel_rfl) (by kernel_rfl) (fun _ _ _ h => h) (Or.inl ⟨by rfl, ?_⟩) hHeld ?_
              rotate_left 1
              · intro ww hSw
                try dsimp only at hSw
                go_simp
                try with_reducible rfl
              try simp only [Act.put, List.setIfInBounds_toArray, List.set_cons_zero, List.set_cons_succ]
              refine wpAnyH_take (i := 10) (oi := { dst := Option.some 54, op := Go.Op.extract (Go.Operand.tmp 44) 1, type := 4, pos := "law.go:49", after := #[{ on := 8, ground := Go.Ground.data }, { on := 11, ground := Go.Ground.gcOnly Go.Departure.lateStores }], guard := Option.none }) (v := ?_) rfl (by kernel_rfl) (by kernel_rfl) (by kernel_rfl) (fun _ _ _ h => h) (Or.inl ⟨by rfl, ?_⟩) hHeld ?_
              rotate_left 1
              · intro ww hSw
                try dsimp only at hSw
                go_simp
                try with_reducible rfl
              try simp only [Act.put, List.setIfInBounds_toArray, List.set_cons_zero, List.set_cons_succ]
              refine wpAnyH_ready (rs := [11]) (by kernel_rfl) (by simp) ?_
              refine AllReadyH.cons (o := { dst := Option.none, op := Go.Op.store 23 (Go.Operand.tmp 7) (Go.Operand.tmp 53), type := 0, pos := "law.go:49", after := #[{ on := 9, ground := Go.Ground.data }, { on := 7, ground := Go.Ground.chain }, { on := 0, ground := Go.Ground.phase }, { on := 1, ground := Go.Ground.phase }, { on := 2, ground := Go.Ground.phase }, { on := 3, ground := Go.Ground.phase }, { on := 4, ground := Go.Ground.phase }, { on := 5, ground := Go.Ground.phase }, { on := 6, ground := Go.Ground.phase }, { on := 7, ground := Go.Ground.phase }, { on := 8, ground := Go.Ground.phase }, { on := 9, ground := Go.Ground.phase }, { on := 10, ground := Go.Ground.textOnly Go.Departure.lateStores }], guard := Option.none }) rfl (fun K hK => ?_) AllReadyH.nil
              obtain ⟨k0, k1, k2, k3, k4⟩ := Z8.out.five
              obtain ⟨z0, z1, z2, z3, z4⟩ := Z8.out.thaw
              go_simp
              have Z9 := Lib.hid (blk_put5 (v0 := .int .i64 x'.self) (v1 := .int .i64 x'.prio) (v2 := .int .i64 x'.state) (v3 := .int .i64 x'.dr) (v4 := .int .i64 x'.bdr) Z8.out)
              have B9 := Lib.hid (below_put5 (v0 := .int .i64 x'.self) (v1 := .int .i64 x'.prio) (v2 := .int .i64 x'.state) (v3 := .int .i64 x'.dr) (v4 := .int .i64 x'.bdr) B8.out hw1)
              refine hK.out _ _ trivial (fun hHeld => ?_)
              clear hK K
              try simp only [Act.put, List.setIfInBounds_toArray, List.set_cons_zero, List.set_cons_succ]
              clear k0 k1 k2 k3 k4 z0 z1 z2 z3 z4 Z8 B8
              generalize (((((w8.setCell ⟨z, 0, none⟩ (.int .i64 x'.self)).setCell ⟨z, 1, none⟩ (.int .i64 x'.prio)).setCell ⟨z, 2, none⟩ (.int .i64 x'.state)).setCell ⟨z, 3, none⟩ (.int .i64 x'.dr)).setCell ⟨z, 4, none⟩ (.int .i64 x'.bdr)) = w9 at *
              refine wpAnyH_done (by kernel_rfl) ?_ _
              refine NoPanic.normal ?_
              refine hK9 _ _ ?_
              go_meet
              exact ⟨x', rfl, HX8, Z9, B9⟩

            · skip
              have hs7 := B6.out.size
              have hz7 := Z6.out.lt
              have Z7 := Lib.hid (Z6.out.alloc (.cells #[.int .i64 4, .int .i64 2, .int .i64 3] 3))
              have N7 := Lib.hid (Blk.new w6 3 #[.int .i64 4, .int .i64 2, .int .i64 3])
              have P7 := Lib.hid (P6.out.below ((Below.refl w6.heap.size w6).alloc (Nat.le_refl _) (.cells #[.int .i64 4, .int .i64 2, .int .i64 3] 3) |>.mono hs7))
              have B7 := Lib.hid (B6.out.alloc hs7 (.cells #[.int .i64 4, .int .i64 2, .int .i64 3] 3))
              go_simp
              refine hK.out _ _ trivial (fun hHeld => ?_)
              clear hK K
              try simp only [Act.put, List.setIfInBounds_toArray, List.set_cons_zero, List.set_cons_succ]
              clear Z6 P6 B6
              generalize hss : w6.heap.size = s at *
              generalize w6.alloc (.cells #[.int .i64 4, .int .i64 2, .int .i64 3] 3) = w7 at *
              refine wpAnyH_take (i := 4) (oi := { dst := Option.some 49, op := Go.Op.indexAddr 35 (Go.Operand.tmp 46) (Go.Operand.tmp 48), type := 0, pos := "law.go:49", after := #[{ on := 1, ground := Go.Ground.data }, { on := 3, ground := Go.Ground.data }], guard := Option.none }) (v := ?_) rfl (by kernel_rfl) (by kernel_rfl) (by kernel_rfl) (fun _ _ _ h => h) (Or.inl ⟨by rfl, ?_⟩) hHeld ?_
              rotate_left 1
              · intro ww hSw
                try dsimp only at hSw
                go_simp
                try with_reducible rfl
              try simp only [Act.put, List.setIfInBounds_toArray, List.set_cons_zero, List.set_cons_succ]
              refine wpAnyH_ready (rs := [0, 5]) (by kernel_rfl) (by simp) ?_
              refine AllReadyH.cons (o := { dst := Option.some 45, op := Go.Op.load 23 (Go.Operand.tmp 7), type := 23, pos := "law.go:49", after := #[], guard := Option.none }) rfl (fun K hK => ?_) (AllReadyH.cons (o := { dst := Option.some 50, op := Go.Op.load 3 (Go.Operand.tmp 49), type := 3, pos := "law.go:49", after := #[{ on := 4, ground := Go.Ground.data }], guard := Option.none }) rfl (fun K hK => ?_) AllReadyH.nil)

              · skip
                obtain ⟨k0, k1, k2, k3, k4⟩ := Z7.out.five
                go_simp
                refine hK.out _ _ trivial (fun hHeld => ?_)
                clear hK K
                try simp only [Act.put, List.setIfInBounds_toArray, List.set_cons_zero, List.set_cons_succ]
                clear k0 k1 k2 k3 k4
                refine wpAnyH_ready (rs := [5]) (by kernel_rfl) (by simp) ?_
                refine AllReadyH.cons (o := { dst := Option.some 50, op := Go.Op.load 3 (Go.Operand.tmp 49), type := 3, pos := "law.go:49", after := #[{ on := 4, ground := Go.Ground.data }], guard := Option.none }) rfl (fun K hK => ?_) AllReadyH.nil
                have n0 := N7.out.cell 2
                simp at n0
                go_simp
                refine hK.out _ _ trivial (fun hHeld => ?_)
                clear hK K
                try simp only [Act.put, List.setIfInBounds_toArray, List.set_cons_zero, List.set_cons_succ]
                clear n0
                refine wpAnyH_ready (rs := [7]) (by kernel_rfl) (by simp) ?_
                refine AllReadyH.cons (o := { dst := Option.some 52, op := Go.Op.call { callee := Go.Callee.value (Go.Operand.func 9), args := #[Go.Operand.tmp 45, Go.Operand.tmp 50, Go.Operand.tmp 51], argTypes := #[23, 3, 24] }, type := 27, pos := "law.go:49", after := #[{ on := 0, ground := Go.Ground.data }, { on := 5, ground := Go.Ground.data }, { on := 6, ground := Go.Ground.data }], guard := Option.none }) rfl (fun K hK => ?_) AllReadyH.nil
                have hz7b := Z7.out.lt
                have hs7b := B7.out.size
                go_simp
                refine (step_any x 3 P7.out (by omega) (by omega) HA.out HX.out.2.2.1 (by decide)).mono ?_
                have HX8 := Lib.hid (atI_step (e := 3) HX.out HA.out (by decide))
                generalize stepI x 3 y.L = x' at *
                rintro e8 w8 ⟨rfl, hb8⟩
                have Z8 := Lib.hid (Z7.out.below hb8 hz7b)
                have B8 := Lib.hid (B7.out.trans (hb8.mono hs7b))
                clear hb8 P7 N7 Z7 B7
                refine hK.out _ _ trivial (fun hHeld => ?_)
                clear hK K
                try simp only [Act.put, List.setIfInBounds_toArray, List.set_cons_zero, List.set_cons_succ]
                refine wpAnyH_take (i := 8) (oi := { dst := Option.some 44, op := Go.Op.move (Go.Operand.tmp 52), type := 27, pos := "law.go:49", after := #[{ on := 7, ground := Go.Ground.data }], guard := Option.none }) (v := ?_) rfl (by kernel_rfl) (by kernel_rfl) (by kernel_rfl) (fun _ _ _ h => h) (Or.inl ⟨by rfl, ?_⟩) hHeld ?_
                rotate_left 1
                · intro ww hSw
                  try dsimp only at hSw
                  go_simp
                  try with_reducible rfl
                try simp only [Act.put, List.setIfInBounds_toArray, List.set_cons_zero, List.set_cons_succ]
                refine wpAnyH_take (i := 9) (oi := { dst := Option.some 53, op := Go.Op.extract (Go.Operand.tmp 44) 0, type := 23, pos := "law.go:49", after := #[{ on := 8, ground := Go.Ground.data }], guard := Option.none }) (v := ?_) rfl (by kernel_rfl) (by kernel_rfl) (by kernel_rfl) (fun _ _ _ h => h) (Or.inl ⟨by rfl, ?_⟩) hHeld ?_
                rotate_left 1
                · intro ww hSw
                  try dsimp only at hSw
                  go_simp
                  try with_reducible rfl
                try simp only [Act.put, List.setIfInBounds_toArray, List.set_cons_zero, List.set_cons_succ]
                refine wpAnyH_take (i := 10) (oi := { dst := Option.some 54, op := Go.Op.extract (Go.Operand.tmp 44) 1, type := 4, pos := "law.go:49", after := #[{ on := 8, ground := Go.Ground.data }, { on := 11, ground := Go.Ground.gcOnly Go.Departure.lateStores }], guard := Option.none }) (v := ?_) rfl (by kernel_rfl) (by kernel_rfl) (by kernel_rfl) (fun _ _ _ h => h) (Or.inl ⟨by rfl, ?_⟩) hHeld ?_
                rotate_left 1
                · intro ww hSw
                  try dsimp only at hSw
                  go_simp
                  try with_reducible rfl
                try simp only [Act.put, List.setIfInBounds_toArray, List.set_cons_zero, List.set_cons_succ]
                refine wpAnyH_ready (rs := [11]) (by kernel_rfl) (by simp) ?_
                refine AllReadyH.cons (o := { dst := Option.none, op := Go.Op.store 23 (Go.Operand.tmp 7) (Go.Operand.tmp 53), type := 0, pos := "law.go:49", after := #[{ on := 9, ground := Go.Ground.data }, { on := 7, ground := Go.Ground.chain }, { on := 0, ground := Go.Ground.phase }, { on := 1, ground := Go.Ground.phase }, { on := 2, ground := Go.Ground.phase }, { on := 3, ground := Go.Ground.phase }, { on := 4, ground := Go.Ground.phase }, { on := 5, ground := Go.Ground.phase }, { on := 6, ground := Go.Ground.phase }, { on := 7, ground := Go.Ground.phase }, { on := 8, ground := Go.Ground.phase }, { on := 9, ground := Go.Ground.phase }, { on := 10, ground := Go.Ground.textOnly Go.Departure.lateStores }], guard := Option.none }) rfl (fun K hK => ?_) AllReadyH.nil
                obtain ⟨k0, k1, k2, k3, k4⟩ := Z8.out.five
                obtain ⟨z0, z1, z2, z3, z4⟩ := Z8.out.thaw
                go_simp
                have Z9 := Lib.hid (blk_put5 (v0 := .int .i64 x'.self) (v1 := .int .i64 x'.prio) (v2 := .int .i64 x'.state) (v3 := .int .i64 x'.dr) (v4 := .int .i64 x'.bdr) Z8.out)
                have B9 := Lib.hid (below_put5 (v0 := .int .i64 x'.self) (v1 := .int .i64 x'.prio) (v2 := .int .i64 x'.state) (v3 := .int .i64 x'.dr) (v4 := .int .i64 x'.bdr) B8.out hw1)
                refine hK.out _ _ trivial (fun hHeld => ?_)
                clear hK K
                try simp only [Act.put, List.setIfInBounds_toArray, List.set_cons_zero, List.set_cons_succ]
                clear k0 k1 k2 k3 k4 z0 z1 z2 z3 z4 Z8 B8
                generalize (((((w8.setCell ⟨z, 0, none⟩ (.int .i64 x'.self)).setCell ⟨z, 1, none⟩ (.int .i64 x'.prio)).setCell ⟨z, 2, none⟩ (.int .i64 x'.state)).setCell ⟨z, 3, none⟩ (.int .i64 x'.dr)).setCell ⟨z, 4, none⟩ (.int .i64 x'.bdr)) = w9 at *
                refine wpAnyH_done (by kernel_rfl) ?_ _
                refine NoPanic.normal ?_
                refine hK9 _ _ ?_
                go_meet
                exact ⟨x', rfl, HX8, Z9, B9⟩

              · skip
                have n0 := N7.out.cell 2
                simp at n0
                go_simp
                refine hK.out _ _ trivial (fun hHeld => ?_)
                clear hK K
                try simp only [Act.put, List.setIfInBounds_toArray, List.set_cons_zero, List.set_cons_succ]
                clear n0
                refine wpAnyH_ready (rs := [0]) (by kernel_rfl) (by simp) ?_
                refine AllReadyH.cons (o := { dst := Option.some 45, op := Go.Op.load 23 (Go.Operand.tmp 7), type := 23, pos := "law.go:49", after := #[], guard := Option.none }) rfl (fun K hK => ?_) AllReadyH.nil
                obtain ⟨k0, k1, k2, k3, k4⟩ := Z7.out.five
                go_simp
                refine hK.out _ _ trivial (fun hHeld => ?_)
                clear hK K
                try simp only [Act.put, List.setIfInBounds_toArray, List.set_cons_zero, List.set_cons_succ]
                clear k0 k1 k2 k3 k4
                refine wpAnyH_ready (rs := [7]) (by kernel_rfl) (by simp) ?_
                refine AllReadyH.cons (o := { dst := Option.some 52, op := Go.Op.call { callee := Go.Callee.value (Go.Operand.func 9), args := #[Go.Operand.tmp 45, Go.Operand.tmp 50, Go.Operand.tmp 51], argTypes := #[23, 3, 24] }, type := 27, pos := "law.go:49", after := #[{ on := 0, ground := Go.Ground.data }, { on := 5, ground := Go.Ground.data }, { on := 6, ground := Go.Ground.data }], guard := Option.none }) rfl (fun K hK => ?_) AllReadyH.nil
                have hz7b := Z7.out.lt
                have hs7b := B7.out.size
                go_simp
                refine (step_any x 3 P7.out (by omega) (by omega) HA.out HX.out.2.2.1 (by decide)).mono ?_
                have HX8 := Lib.hid (atI_step (e := 3) HX.out HA.out (by decide))
                generalize stepI x 3 y.L = x' at *
                rintro e8 w8 ⟨rfl, hb8⟩
                have Z8 := Lib.hid (Z7.out.below hb8 hz7b)
                have B8 := Lib.hid (B7.out.trans (hb8.mono hs7b))
                clear hb8 P7 N7 Z7 B7
                refine hK.out _ _ trivial (fun hHeld => ?_)
                clear hK K
                try simp only [Act.put, List.setIfInBounds_toArray, List.set_cons_zero, List.set_cons_succ]
                refine wpAnyH_take (i := 8) (oi := { dst := Option.some 44, op := Go.Op.move (Go.Operand.tmp 52), type := 27, pos := "law.go:49", after := #[{ on := 7, ground := Go.Ground.data }], guard := Option.none }) (v := ?_) rfl (by kernel_rfl) (by kernel_rfl) (by kernel_rfl) (fun _ _ _ h => h) (Or.inl ⟨by rfl, ?_⟩) hHeld ?_
                rotate_left 1
                · intro ww hSw
                  try dsimp only at hSw
                  go_simp
                  try with_reducible rfl
                try simp only [Act.put, List.setIfInBounds_toArray, List.set_cons_zero, List.set_cons_succ]
                refine wpAnyH_take (i := 9) (oi := { dst := Option.some 53, op := Go.Op.extract (Go.Operand.tmp 44) 0, type := 23, pos := "law.go:49", after := #[{ on := 8, ground := Go.Ground.data }], guard := Option.none }) (v := ?_) rfl (by kernel_rfl) (by kernel_rfl) (by kernel_rfl) (fun _ _ _ h => h) (Or.inl ⟨by rfl, ?_⟩) hHeld ?_
                rotate_left 1
                · intro ww hSw
                  try dsimp only at hSw
                  go_simp
                  try with_reducible rfl
                try simp only [Act.put, List.setIfInBounds_toArray, List.set_cons_zero, List.set_cons_succ]
                refine wpAnyH_take (i := 10) (oi := { dst := Option.some 54, op := Go.Op.extract (Go.Operand.tmp 44) 1, type := 4, pos := "law.go:49", after := #[{ on := 8, ground := Go.Ground.data }, { on := 11, ground := Go.Ground.gcOnly Go.Departure.lateStores }], guard := Option.none }) (v := ?_) rfl (by kernel_rfl) (by kernel_rfl) (by kernel_rfl) (fun _ _ _ h => h) (Or.inl ⟨by rfl, ?_⟩) hHeld ?_
                rotate_left 1
                · intro ww hSw
                  try dsimp only at hSw
                  go_simp
                  try with_reducible rfl
                try simp only [Act.put, List.setIfInBounds_toArray, List.set_cons_zero, List.set_cons_succ]
                refine wpAnyH_ready (rs := [11]) (by kernel_rfl) (by simp) ?_
                refine AllReadyH.cons (o := { dst := Option.none, op := Go.Op.store 23 (Go.Operand.tmp 7) (Go.Operand.tmp 53), type := 0, pos := "law.go:49", after := #[{ on := 9, ground := Go.Ground.data }, { on := 7, ground := Go.Ground.chain }, { on := 0, ground := Go.Ground.phase }, { on := 1, ground := Go.Ground.phase }, { on := 2, ground := Go.Ground.phase }, { on := 3, ground := Go.Ground.phase }, { on := 4, ground := Go.Ground.phase }, { on := 5, ground := Go.Ground.phase }, { on := 6, ground := Go.Ground.phase }, { on := 7, ground := Go.Ground.phase }, { on := 8, ground := Go.Ground.phase }, { on := 9, ground := Go.Ground.phase }, { on := 10, ground := Go.Ground.textOnly Go.Departure.lateStores }], guard := Option.none }) rfl (fun K hK => ?_) AllReadyH.nil
                obtain ⟨k0, k1, k2, k3, k4⟩ := Z8.out.five
                obtain ⟨z0, z1, z2, z3, z4⟩ := Z8.out.thaw
                go_simp
                have Z9 := Lib.hid (blk_put5 (v0 := .int .i64 x'.self) (v1 := .int .i64 x'.prio) (v2 := .int .i64 x'.state) (v3 := .int .i64 x'.dr) (v4 := .int .i64 x'.bdr) Z8.out)
                have B9 := Lib.hid (below_put5 (v0 := .int .i64 x'.self) (v1 := .int .i64 x'.prio) (v2 := .int .i64 x'.state) (v3 := .int .i64 x'.dr) (v4 := .int .i64 x'.bdr) B8.out hw1)
                refine hK.out _ _ trivial (fun hHeld => ?_)
                clear hK K
                try simp only [Act.put, List.setIfInBounds_toArray, List.set_cons_zero, List.set_cons_succ]
                clear k0 k1 k2 k3 k4 z0 z1 z2 z3 z4 Z8 B8
                generalize (((((w8.setCell ⟨z, 0, none⟩ (.int .i64 x'.self)).setCell ⟨z, 1, none⟩ (.int .i64 x'.prio)).setCell ⟨z, 2, none⟩ (.int .i64 x'.state)).setCell ⟨z, 3, none⟩ (.int .i64 x'.dr)).setCell ⟨z, 4, none⟩ (.int .i64 x'.bdr)) = w9 at *
                refine wpAnyH_done (by kernel_rfl) ?_ _
                refine NoPanic.normal ?_
                refine hK9 _ _ ?_
                go_meet
                exact ⟨x', rfl, HX8, Z9, B9⟩

        case rest =>
          obtain ⟨x', rfl, HX', ZR, HB⟩ := hcut
          have hsc := HB.out.size
          rcases HX'.out.2.2.2 with ⟨h2, h3, h4⟩ | ⟨hst, g4, g3, g0⟩
          · skip
            obtain ⟨k0, k1, k2, k3, k4⟩ := ZR.out.five
            rw [h2] at k2
            rw [h3] at k3
            rw [h4] at k4
            clear h2 h3 h4
            go_wp2_with fail
            go_roundw
            case rel => exact ⟨k + 1, x', by omega, by go_num, HX', ZR, HB⟩
            case measure => simp [intOf]; omega

          · have hn9 := HX'.out.2.1
            rcases hst with h2 | h2 | h2
            · by_cases hp0 : x'.prio = 0
              · skip
                obtain ⟨k0, k1, k2, k3, k4⟩ := ZR.out.five
                rw [h2] at k2
                have d1 : (x'.dr == x'.self) = false := by rw [beq_eq_false_iff_ne]; omega
                have d2 : (x'.dr != x'.self) = true := by rw [bne, d1]; rfl
                have d3 : (x'.bdr == x'.self) = false := by rw [beq_eq_false_iff_ne]; omega
                have d4 : (x'.prio == 0) = true := by rw [beq_iff_eq]; omega
                clear hp0 g0 g3 g4 h2 hn9
                go_wp2_with fail
                go_roundw
                case rel => exact ⟨k + 1, x', by omega, by go_num, HX', ZR, HB⟩
                case measure => simp [intOf]; omega

              · skip
                obtain ⟨k0, k1, k2, k3, k4⟩ := ZR.out.five
                rw [h2] at k2
                have d1 : (x'.dr == x'.self) = false := by rw [beq_eq_false_iff_ne]; omega
                have d2 : (x'.dr != x'.self) = true := by rw [bne, d1]; rfl
                have d3 : (x'.bdr == x'.self) = false := by rw [beq_eq_false_iff_ne]; omega
                have d4 : (x'.prio == 0) = false := by rw [beq_eq_false_iff_ne]; omega
                clear hp0 g0 g3 g4 h2 hn9
                go_wp2_with fail
                go_roundw
                case rel => exact ⟨k + 1, x', by omega, by go_num, HX', ZR, HB⟩
                case measure => simp [intOf]; omega

            · skip
              obtain ⟨k0, k1, k2, k3, k4⟩ := ZR.out.five
              rw [h2] at k2
              have d1 : (x'.dr == x'.self) = false := by rw [beq_eq_false_iff_ne]; omega
              have d2 : (x'.dr != x'.self) = true := by rw [bne, d1]; rfl
              have d3 : (x'.bdr == x'.self) = true := by rw [beq_iff_eq]; omega
              have d4 : (x'.prio == 0) = false := by rw [beq_eq_false_iff_ne]; omega
              clear g0 g3 g4 h2 hn9
              go_wp2_with fail
              go_roundw
              case rel => exact ⟨k + 1, x', by omega, by go_num, HX', ZR, HB⟩
              case measure => simp [intOf]; omega

            · by_cases hb0 : x'.bdr = x'.self
              · skip
                obtain ⟨k0, k1, k2, k3, k4⟩ := ZR.out.five
                rw [h2] at k2
                have d1 : (x'.dr == x'.self) = true := by rw [beq_iff_eq]; omega
                have d2 : (x'.dr != x'.self) = false := by rw [bne, d1]; rfl
                have d3 : (x'.bdr == x'.self) = true := by rw [beq_iff_eq]; omega
                have d4 : (x'.prio == 0) = false := by rw [beq_eq_false_iff_ne]; omega
                clear hb0 g0 g3 g4 h2 hn9
                go_wp2_with fail
                go_roundw
                case rel => exact ⟨k + 1, x', by omega, by go_num, HX', ZR, HB⟩
                case measure => simp [intOf]; omega

              · skip
                obtain ⟨k0, k1, k2, k3, k4⟩ := ZR.out.five
                rw [h2] at k2
                have d1 : (x'.dr == x'.self) = true := by rw [beq_iff_eq]; omega
                have d2 : (x'.dr != x'.self) = false := by rw [bne, d1]; rfl
                have d3 : (x'.bdr == x'.self) = false := by rw [beq_eq_false_iff_ne]; omega
                have d4 : (x'.prio == 0) = false := by rw [beq_eq_false_iff_ne]; omega
                clear hb0 g0 g3 g4 h2 hn9
                go_wp2_with fail
                go_roundw
                case rel => exact ⟨k + 1, x', by omega, by go_num, HX', ZR, HB⟩
                case measure => simp [intOf]; omega

    · have hkn : k = n := by omega
      subst hkn
      clear hlt
      obtain ⟨k0, k1, k2, k3, k4⟩ := ZR.out.five
      go_wp2_with fail
      refine (step_any (w := wr) (c := 0) x 1 (cds_nil wr) (Nat.zero_le _) (by omega) (atI_apart HX.out ha) HX.out.2.2.1 (by decide)).mono ?_
      rw [show stepI x 1 [] = downI x from step_down rfl]
      rintro e5 w5 ⟨rfl, hb5⟩
      have Z5 := Lib.hid (ZR.out.below hb5 hzr)
      have B5 := Lib.hid (HB.out.trans (hb5.mono hsr))
      clear hb5 ZR HB hzr k0 k1 k2 k3 k4
      obtain ⟨k0, k1, k2, k3, k4⟩ := Z5.out.five
      obtain ⟨z0, z1, z2, z3, z4⟩ := Z5.out.thaw
      simp only [downI]
      go_upto_region 25 with fail
      have Z6 := Lib.hid (blk_put5 (v0 := .int .i64 x.self) (v1 := .int .i64 x.prio) (v2 := .int .i64 0) (v3 := .int .i64 0) (v4 := .int .i64 0) Z5.out)
      have B6 := Lib.hid (below_put5 (v0 := .int .i64 x.self) (v1 := .int .i64 x.prio) (v2 := .int .i64 0) (v3 := .int .i64 0) (v4 := .int .i64 0) B5.out hw1)
      clear k0 k1 k2 k3 k4 z0 z1 z2 z3 z4 Z5 B5
      generalize (((((w5.setCell ⟨z, 0, none⟩ (.int .i64 x.self)).setCell ⟨z, 1, none⟩ (.int .i64 x.prio)).setCell ⟨z, 2, none⟩ (.int .i64 0)).setCell ⟨z, 3, none⟩ (.int .i64 0)).setCell ⟨z, 4, none⟩ (.int .i64 0)) = w6 at *
      obtain ⟨k0, k1, k2, k3, k4⟩ := Z6.out.five
      go_wp2
      go_ret
      exact ⟨rfl, B6.out⟩
end Go.Proofs.Ytedlkoecnnmihaa