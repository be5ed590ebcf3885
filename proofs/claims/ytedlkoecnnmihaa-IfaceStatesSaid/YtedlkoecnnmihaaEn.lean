/- The reference of elections: those that may be elected, sorted. Conditions: numbers unlike, from 1 on; at most 2^20 candidates less one. -/
import Derived.Test.YtedlkoecnnmihaaEl
namespace Go.Proofs.Ytedlkoecnnmihaa
open Go.RowKit
def SortedC (M : List Cd) : Prop := M.Pairwise fun a b => btr a b = true
def mayC (L : List Cd) : List Cd := L.filter fun c => decide (0 < c.prio)
theorem mayC_no {L : List Cd} {j : Nat} {x : Cd} (hx : L[j]? = some x) (h : ¬ 0 < x.prio) : mayC (L.take (j + 1)) = mayC (L.take j) := by
  unfold mayC
  rw [take_snocA L j x hx, List.filter_append, List.filter_cons_of_neg (by simpa using h)]
  simp
theorem mayC_so {L : List Cd} {j : Nat} {x : Cd} (hx : L[j]? = some x) (h : 0 < x.prio) : mayC (L.take (j + 1)) = mayC (L.take j) ++ [x] := by
  unfold mayC
  rw [take_snocA L j x hx, List.filter_append, List.filter_cons_of_pos (by simpa using h)]
  simp
theorem swap2 (P : List Cd) (y x : Cd) (Q : List Cd) : ((P ++ y :: x :: Q).set (P.length + 1) y).set P.length x = P ++ x :: y :: Q := by
  rw [List.set_append_right _ _ (by omega), List.set_append_right _ _ (by omega), Nat.add_sub_cancel_left, Nat.sub_self]
  rfl
/-- One is put in. -/
theorem sorted_in {M P Q : List Cd} {x : Cd} (hs : SortedC M) (hM : P ++ Q = M) (hq : ∀ y ∈ Q, btr x y = true) (hp : ∀ y, P.getLast? = some y → btr y x = true) : SortedC (P ++ x :: Q) := by
  subst hM
  obtain ⟨h1, h2, h3⟩ := List.pairwise_append.1 hs
  refine List.pairwise_append.2 ⟨h1, List.pairwise_cons.2 ⟨hq, h2⟩, fun a ha b hb => ?_⟩
  rcases List.mem_cons.1 hb with rfl | hb
  · rcases List.eq_nil_or_concat P with rfl | ⟨P', z, rfl⟩
    · cases ha
    · have hz := hp z (by simp)
      rw [List.concat_eq_append] at ha h1
      rcases List.mem_append.1 ha with ha | ha
      · exact btr_trans ((List.pairwise_append.1 h1).2.2 a ha z (by simp)) hz
      · rw [List.mem_singleton.1 ha]
        exact hz
  · exact h3 a ha b hb
theorem perm_in {M P Q : List Cd} {x : Cd} {R : List Cd} (hM : P ++ Q = M) (hp : M.Perm R) : (P ++ x :: Q).Perm (R ++ [x]) := by
  subst hM
  exact (List.perm_middle.trans ((hp.cons x).trans (List.perm_append_comm (l₁ := [x]))))
theorem unlike_in {L M : List Cd} {j : Nat} {x y : Cd} (ha : ApartC L) (hx : L[j]? = some x) (hp : M.Perm (mayC (L.take j))) (hy : y ∈ M) : y.id ≠ x.id := fun e => by
  have h1 := (List.mem_filter.1 (hp.mem_iff.1 hy)).1
  obtain ⟨i, hi⟩ := List.getElem?_of_mem h1
  rw [List.getElem?_take] at hi
  split at hi
  · rename_i hij
    have := ha.at_inj hi hx e
    omega
  · cases hi
theorem may_len {L M : List Cd} {j : Nat} (hp : M.Perm (mayC (L.take j))) : M.length ≤ j := by
  rw [hp.length_eq]
  have h1 : (mayC (L.take j)).length ≤ (L.take j).length := List.length_filter_le _ _
  rw [List.length_take] at h1
  omega

set_option maxRecDepth 8000 in
set_option maxHeartbeats 8000000 in
theorem sorted_any {w : World} {B n c : Nat} {A : Option Addr} {L : List Cd} (hs : Cds w B A n L) (hB : B ≤ w.heap.size) (ha : ApartC L) (hn : n < 1048576) :
    Calls Try.prog 31 #[.slice A n c] w fun e w' => (∃ A' m c' S, e = .returned (.slice A' m c') ∧ w'.ownsRow w.heap.size 31 4 (.slice A' m c') m (cellsBy encCd S) ∧ S.Perm (mayC L) ∧ SortedC S ∧ m ≤ n) ∧ Below w.heap.size w w' := by
  have HP := Lib.hid (hs.more hB)
  have HAP := Lib.hid ha
  have HLEN := Lib.hid hs.1
  clear hs ha
  go_enter Try.func31, Try.ntmps31
  go_wp2_with fail
  go_loopw [3, 4] (fun t i wr => ∃ (j m c' : Nat) (A' : Option Addr) (M : List Cd), j ≤ n ∧ t = .slice A' m c' ∧ i = .int .i64 j ∧ Hid (wr.ownsRow w.heap.size 31 4 (.slice A' m c') m (cellsBy encCd M)) ∧ Hid (M.Perm (mayC (L.take j))) ∧ Hid (SortedC M) ∧ Hid (Below w.heap.size w wr)) (fun _ i _ => n - (intOf i).toNat)
  case atStart => exact ⟨0, 0, 0, none, [], Nat.zero_le _, rfl, rfl, Lib.hid (World.ownsRow_nil _ _ _ _), Lib.hid (List.Perm.refl _), Lib.hid List.Pairwise.nil, Lib.hid (Below.refl _ _)⟩
  case round =>
    obtain ⟨j, m, c', A', M, hj, rfl, rfl, HO, HM, HS, HB⟩ := hrel
    have hml : M.length = m := own_len encCd_len (by omega) HO.out
    have hmj : m ≤ j := by have := may_len HM.out; omega
    have HML := Lib.hid hml
    clear hml
    by_cases hlt : j < n
    · have hlt' : (j : Int) < n := by omega
      obtain ⟨b, o, x, rfl, hbb, hx, hat⟩ := Arr.at (HP.out.below HB.out) hlt
      have HX := Lib.hid hx
      obtain ⟨y0, y1, y2, y3⟩ := hat
      clear hx
      by_cases hp : 0 < x.prio
      · have dp : decide (x.prio ≤ 0) = false := by simp; omega
        have hwr := HB.out.size
        have hwa : w.heap.size ≤ (wr.alloc (.cells #[.int .i64 x.id, .int .i64 x.prio, .int .i64 x.dr, .int .i64 x.bdr] 31)).heap.size := by simp; omega
        have HN := Lib.hid (mayC_so HX.out hp)
        have BN := Lib.hid (HB.out.alloc hwr (.cells #[.int .i64 x.id, .int .i64 x.prio, .int .i64 x.dr, .int .i64 x.bdr] 31))
        clear hp
        go_wp2_with (at_builtin; refine wpList_append_any rfl (.tmp 19) (.tmp 24) 24 31 (.agg #[.int .i64 0, .int .i64 0, .int .i64 0, .int .i64 0]) 4 32 Try.underlying24 Try.infoCand rfl (by decide) (by decide) rfl w.heap.size (.slice A' m c') m (cellsBy encCd M) (by rfl) (HO.out.alloc _) (some ⟨wr.heap.size, 0, none⟩) 1 1 (encCd x) (by rfl) (by rfl) (fun h => by cases h) (news_new wr 31 (encCd x)) (encCd_ones x) (by omega) hwa ?_; intro v2 w2 ho2 hg2; obtain ⟨A2, c2, rfl⟩ := own_slice ho2.out)
        rw [show cellsBy encCd M ++ encCd x = cellsBy encCd (M ++ [x]) by rw [by_append, by_one]] at ho2
        have B2 := Lib.hid (BN.out.trans (own_keeps7 (HO.out.alloc _) hg2.out hwa))
        have hm1 : (m : Int) + 1 - 1 = (m : Int) := by omega
        clear hg2 y0 y1 y2 y3 hwa BN
        go_loopw [5] (fun k wx => ∃ (P Q : List Cd), P.length ≤ m ∧ k = .int .i64 (P.length : Int) ∧ Hid (P ++ Q = M) ∧ Hid (∀ y ∈ Q, btr x y = true) ∧ Hid (wx.ownsRow w.heap.size 31 4 (.slice A2 (m + 1) c2) (m + 1) (cellsBy encCd (P ++ x :: Q))) ∧ Hid (Below w.heap.size w wx)) (fun k _ => (intOf k).toNat)
        case atStart => exact ⟨M, [], by have := HML.out; omega, by rw [HML.out], Lib.hid (by simp), Lib.hid (fun y hy => by cases hy), ho2, B2⟩
        case round =>
          clear ho2 B2
          obtain ⟨P, Q, hPm, rfl, HPQ, HQ, HO2, HB2⟩ := hrel
          obtain ⟨k, hk⟩ : ∃ k, k = P.length := ⟨_, rfl⟩
          rw [← hk] at hPm ⊢
          have HK := Lib.hid hk
          clear hk
          have hk' : P.length = k := HK.out.symm
          have hxk : (P ++ x :: Q)[k]? = some x := by rw [← hk', List.getElem?_append_right (Nat.le_refl _), Nat.sub_self]; rfl
          have hTL : (P ++ x :: Q).length = m + 1 := own_len encCd_len (by omega) HO2.out
          have HTL := Lib.hid hTL
          clear hk' hTL
          by_cases hk0 : 0 < k
          · obtain ⟨P', y, hP⟩ : ∃ P' y, P = P' ++ [y] := by
              rcases List.eq_nil_or_concat P with h | ⟨P', y, h⟩
              · rw [HK.out, h] at hk0
                exact absurd hk0 (by simp)
              · exact ⟨P', y, by rw [h, List.concat_eq_append]⟩
            obtain ⟨k1, hk1⟩ : ∃ k1, k1 = P'.length := ⟨_, rfl⟩
            have hkk : k = k1 + 1 := by rw [HK.out, hP, hk1]; simp
            have hyk : (P ++ x :: Q)[k1]? = some y := by
              rw [hP, hk1, List.append_assoc, List.getElem?_append_right (Nat.le_refl _), Nat.sub_self]
              rfl
            obtain ⟨g, rfl, hwg, hgl, hnc, hcm, x0, x1, x2, x3⟩ := own_cd HO2.out hxk
            obtain ⟨g', eg, _, _, _, _, c0, c1, c2', c3⟩ := own_cd HO2.out hyk
            injection eg with eg
            injection eg with eg
            subst eg
            unfold maxLen at hcm
            have HPE := Lib.hid hP
            have HYK := Lib.hid hyk
            have HXK := Lib.hid hxk
            have HK1 := Lib.hid hk1
            have HKK := Lib.hid hkk
            have d2 : decide ((0 : Int) < (k : Int)) = true := by simp; omega
            have e1 : (k : Int) - 1 = (k1 : Int) := by omega
            have e2 : IntKind.i64.wrap (k1 : Int) = (k1 : Int) := IntWalk.i64_in _ (by omega)
            have hk10 : (0 : Int) ≤ (k1 : Int) := by omega
            have hkk0 : (0 : Int) ≤ (k : Int) := by omega
            have hkm : (k : Int) < (m : Int) + 1 := by omega
            have hk1m : (k1 : Int) < (m : Int) + 1 := by omega
            have hkm' : k < m + 1 := by omega
            have hk1m' : k1 < m + 1 := by omega
            have hmc : (m : Int) + 1 ≤ c2 := by omega
            clear hkk hP hk1 hyk hxk
            have BR := (Below.refl wr.heap.size wr)
            go_upto_region 8 with fail

            have BRd : Below wr.heap.size wr wr.drew := below_drewN (Below.refl _ _) 1
            have CX := Lib.hid (show CdAt wr wr.heap.size g (k * 4) x from ⟨x0, x1, x2, x3⟩)
            have CY := Lib.hid (show CdAt wr wr.heap.size g (k1 * 4) y from ⟨c0, c1, c2', c3⟩)
            refine wp_region_noPanic ?_
            refine wp_region_held_drew (S := fun w' => Below wr.heap.size wr w') (by kernel_rfl) BRd (fun hHeld => ?_)
            refine wpAnyH_take (i := 0) (oi := { dst := Option.some 29, op := Go.Op.move (Go.Operand.tmp 5), type := 3, pos := "ref.go:25", after := #[], guard := Option.none }) (v := ?_) rfl (by kernel_rfl) (by kernel_rfl) (by kernel_rfl) (fun _ _ _ h => h) (Or.inl ⟨by rfl, ?_⟩) hHeld ?_
            rotate_left 1
            · intro ww hSw
              try dsimp only at hSw
              go_simp
              try with_reducible rfl
            try simp only [Act.put, List.setIfInBounds_toArray, List.set_cons_zero, List.set_cons_succ]
            refine wpAnyH_take (i := 1) (oi := { dst := Option.some 30, op := Go.Op.binOp Go.BinOp.gtr 3 (Go.Operand.tmp 29) (Go.Operand.const (Go.Value.int Go.IntKind.i64 0)) 3, type := 4, pos := "ref.go:25", after := #[{ on := 0, ground := Go.Ground.data }], guard := Option.none }) (v := ?_) rfl (by kernel_rfl) (by kernel_rfl) (by kernel_rfl) (fun _ _ _ h => h) (Or.inl ⟨by rfl, ?_⟩) hHeld ?_
            rotate_left 1
            · intro ww hSw
              try dsimp only at hSw
              go_simp
              try with_reducible rfl
            try simp only [Act.put, List.setIfInBounds_toArray, List.set_cons_zero, List.set_cons_succ]
            refine wpAnyH_take (i := 2) (oi := { dst := Option.some 31, op := Go.Op.move (Go.Operand.tmp 30), type := 4, pos := "ref.go:25", after := #[{ on := 1, ground := Go.Ground.data }], guard := Option.none }) (v := ?_) rfl (by kernel_rfl) (by kernel_rfl) (by kernel_rfl) (fun _ _ _ h => h) (Or.inl ⟨by rfl, ?_⟩) hHeld ?_
            rotate_left 1
            · intro ww hSw
              try dsimp only at hSw
              go_simp
              try with_reducible rfl
            try simp only [Act.put, List.setIfInBounds_toArray, List.set_cons_zero, List.set_cons_succ]
            refine wpAnyH_take (i := 3) (oi := { dst := Option.some 32, op := Go.Op.move (Go.Operand.tmp 3), type := 24, pos := "ref.go:25", after := #[{ on := 2, ground := Go.Ground.guard }], guard := Option.some (2, Bool.true) }) (v := ?_) rfl (by kernel_rfl) (by kernel_rfl) (by kernel_rfl) (fun _ _ _ h => h) (Or.inl ⟨by rfl, ?_⟩) hHeld ?_
            rotate_left 1
            · intro ww hSw
              try dsimp only at hSw
              go_simp
              try with_reducible rfl
            try simp only [Act.put, List.setIfInBounds_toArray, List.set_cons_zero, List.set_cons_succ]
            refine wpAnyH_take (i := 4) (oi := { dst := Option.some 33, op := Go.Op.move (Go.Operand.tmp 5), type := 3, pos := "ref.go:25", after := #[{ on := 2, ground := Go.Ground.guard }], guard := Option.some (2, Bool.true) }) (v := ?_) rfl (by kernel_rfl) (by kernel_rfl) (by kernel_rfl) (fun _ _ _ h => h) (Or.inl ⟨by rfl, ?_⟩) hHeld ?_
            rotate_left 1
            · intro ww hSw
              try dsimp only at hSw
              go_simp
              try with_reducible rfl
            try simp only [Act.put, List.setIfInBounds_toArray, List.set_cons_zero, List.set_cons_succ]
            refine wpAnyH_take (i := 5) (oi := { dst := Option.some 34, op := Go.Op.indexAddr 24 (Go.Operand.tmp 32) (Go.Operand.tmp 33), type := 0, pos := "ref.go:25", after := #[{ on := 3, ground := Go.Ground.data }, { on := 4, ground := Go.Ground.data }, { on := 2, ground := Go.Ground.guard }], guard := Option.some (2, Bool.true) }) (v := ?_) rfl (by kernel_rfl) (by kernel_rfl) (by kernel_rfl) (fun _ _ _ h => h) (Or.inl ⟨by rfl, ?_⟩) hHeld ?_
            rotate_left 1
            · intro ww hSw
              try dsimp only at hSw
              go_simp
              try with_reducible rfl
            try simp only [Act.put, List.setIfInBounds_toArray, List.set_cons_zero, List.set_cons_succ]
            refine wpAnyH_take (i := 6) (oi := { dst := Option.some 35, op := Go.Op.load 31 (Go.Operand.tmp 34), type := 31, pos := "ref.go:25", after := #[{ on := 5, ground := Go.Ground.data }, { on := 2, ground := Go.Ground.guard }], guard := Option.some (2, Bool.true) }) (v := .agg #[.int .i64 x.id, .int .i64 x.prio, .int .i64 x.dr, .int .i64 x.bdr]) rfl (by kernel_rfl) (by kernel_rfl) (by kernel_rfl) (fun _ _ _ h => h) (yieldsIf_load_mid (by rfl) 31 (.tmp 34) rfl g (k * 4) rfl [.int .i64 x.id, .int .i64 x.prio, .int .i64 x.dr, .int .i64 x.bdr] _ (fun _ hb => (CX.out.move (B' := 0) (fun _ hq => hb.cell hq) hgl).range) Try.underlying31 rfl (by kernel_rfl)) hHeld ?_
            try simp only [Act.put, List.setIfInBounds_toArray, List.set_cons_zero, List.set_cons_succ]
            refine wpAnyH_take (i := 7) (oi := { dst := Option.some 36, op := Go.Op.move (Go.Operand.tmp 3), type := 24, pos := "ref.go:25", after := #[{ on := 2, ground := Go.Ground.guard }], guard := Option.some (2, Bool.true) }) (v := ?_) rfl (by kernel_rfl) (by kernel_rfl) (by kernel_rfl) (fun _ _ _ h => h) (Or.inl ⟨by rfl, ?_⟩) hHeld ?_
            rotate_left 1
            · intro ww hSw
              try dsimp only at hSw
              go_simp
              try with_reducible rfl
            try simp only [Act.put, List.setIfInBounds_toArray, List.set_cons_zero, List.set_cons_succ]
            refine wpAnyH_take (i := 8) (oi := { dst := Option.some 37, op := Go.Op.move (Go.Operand.tmp 5), type := 3, pos := "ref.go:25", after := #[{ on := 2, ground := Go.Ground.guard }], guard := Option.some (2, Bool.true) }) (v := ?_) rfl (by kernel_rfl) (by kernel_rfl) (by kernel_rfl) (fun _ _ _ h => h) (Or.inl ⟨by rfl, ?_⟩) hHeld ?_
            rotate_left 1
            · intro ww hSw
              try dsimp only at hSw
              go_simp
              try with_reducible rfl
            try simp only [Act.put, List.setIfInBounds_toArray, List.set_cons_zero, List.set_cons_succ]
            refine wpAnyH_take (i := 9) (oi := { dst := Option.some 38, op := Go.Op.binOp Go.BinOp.sub 3 (Go.Operand.tmp 37) (Go.Operand.const (Go.Value.int Go.IntKind.i64 1)) 3, type := 3, pos := "ref.go:25", after := #[{ on := 8, ground := Go.Ground.data }, { on := 2, ground := Go.Ground.guard }], guard := Option.some (2, Bool.true) }) (v := ?_) rfl (by kernel_rfl) (by kernel_rfl) (by kernel_rfl) (fun _ _ _ h => h) (Or.inl ⟨by rfl, ?_⟩) hHeld ?_
            rotate_left 1
            · intro ww hSw
              try dsimp only at hSw
              go_simp
              try with_reducible rfl
            try simp only [Act.put, List.setIfInBounds_toArray, List.set_cons_zero, List.set_cons_succ]
            refine wpAnyH_take (i := 10) (oi := { dst := Option.some 39, op := Go.Op.indexAddr 24 (Go.Operand.tmp 36) (Go.Operand.tmp 38), type := 0, pos := "ref.go:25", after := #[{ on := 7, ground := Go.Ground.data }, { on := 9, ground := Go.Ground.data }, { on := 2, ground := Go.Ground.guard }], guard := Option.some (2, Bool.true) }) (v := ?_) rfl (by kernel_rfl) (by kernel_rfl) (by kernel_rfl) (fun _ _ _ h => h) (Or.inl ⟨by rfl, ?_⟩) hHeld ?_
            rotate_left 1
            · intro ww hSw
              try dsimp only at hSw
              go_simp
              try with_reducible rfl
            try simp only [Act.put, List.setIfInBounds_toArray, List.set_cons_zero, List.set_cons_succ]
            refine wpAnyH_take (i := 11) (oi := { dst := Option.some 40, op := Go.Op.load 31 (Go.Operand.tmp 39), type := 31, pos := "ref.go:25", after := #[{ on := 10, ground := Go.Ground.data }, { on := 2, ground := Go.Ground.guard }], guard := Option.some (2, Bool.true) }) (v := .agg #[.int .i64 y.id, .int .i64 y.prio, .int .i64 y.dr, .int .i64 y.bdr]) rfl (by kernel_rfl) (by kernel_rfl) (by kernel_rfl) (fun _ _ _ h => h) (yieldsIf_load_mid (by rfl) 31 (.tmp 39) rfl g (k1 * 4) rfl [.int .i64 y.id, .int .i64 y.prio, .int .i64 y.dr, .int .i64 y.bdr] _ (fun _ hb => (CY.out.move (B' := 0) (fun _ hq => hb.cell hq) hgl).range) Try.underlying31 rfl (by kernel_rfl)) hHeld ?_
            try simp only [Act.put, List.setIfInBounds_toArray, List.set_cons_zero, List.set_cons_succ]
            refine wpAnyH_ready (rs := [12]) (by kernel_rfl) (by simp) ?_
            refine AllReadyH.cons (o := { dst := Option.some 41, op := Go.Op.call { callee := Go.Callee.value (Go.Operand.func 36), args := #[Go.Operand.tmp 35, Go.Operand.tmp 40], argTypes := #[31, 31] }, type := 4, pos := "ref.go:25", after := #[{ on := 6, ground := Go.Ground.data }, { on := 11, ground := Go.Ground.data }, { on := 2, ground := Go.Ground.chain }, { on := 2, ground := Go.Ground.guard }], guard := Option.some (2, Bool.true) }) rfl (fun K hK => ?_) AllReadyH.nil
            go_simp
            refine (rbetter_any x y _).mono ?_
            rintro ea wa ⟨rfl, hba⟩
            have hC := BRd.trans (hba.mono BRd.size)
            clear hba hHeld
            refine hK.out _ _ hC (fun hHeld => ?_)
            clear hK K
            try simp only [Act.put, List.setIfInBounds_toArray, List.set_cons_zero, List.set_cons_succ]
            cases hbt : btr x y
            · refine wpAnyH_take (i := 13) (oi := { dst := Option.some 42, op := Go.Op.pick (Go.Operand.tmp 31) (Go.Operand.tmp 41) (Go.Operand.const (Go.Value.bool Bool.false)), type := 4, pos := "ref.go:25", after := #[{ on := 2, ground := Go.Ground.data }, { on := 12, ground := Go.Ground.data }], guard := Option.none }) (v := ?_) rfl (by kernel_rfl) (by kernel_rfl) (by kernel_rfl) (fun _ _ _ h => h) (Or.inl ⟨by rfl, ?_⟩) hHeld ?_
              rotate_left 1
              · intro ww hSw
                try dsimp only at hSw
                go_simp
                try with_reducible rfl
              try simp only [Act.put, List.setIfInBounds_toArray, List.set_cons_zero, List.set_cons_succ]
              refine wpAnyH_done (by kernel_rfl) ?_ _
              refine NoPanic.normal ?_
              have HLAST := Lib.hid (show ∀ z, P.getLast? = some z → btr z x = true from fun z hz => by
                rw [HPE.out] at hz
                simp at hz
                subst hz
                rcases btr_tot hbt with h | h
                · exact h
                · exact absurd h.symm (unlike_in HAP.out HX.out HM.out (by rw [← HPQ.out, HPE.out]; simp)))
              have OE := Lib.hid (own_below2 HO2.out hC)
              have BE := Lib.hid (HB2.out.trans (hC.mono HB2.out.size))
              clear hbt hC
              go_wp2_with fail
              go_roundw
              case rel =>
                exact ⟨j + 1, m + 1, c2, some ⟨g, 0, none⟩, P ++ x :: Q, by omega, by go_num, by go_num, OE, Lib.hid (by rw [HN.out]; exact perm_in HPQ.out HM.out), Lib.hid (sorted_in HS.out HPQ.out HQ.out HLAST.out), BE⟩
              case measure => simp [intOf]; omega
            · refine wpAnyH_take (i := 13) (oi := { dst := Option.some 42, op := Go.Op.pick (Go.Operand.tmp 31) (Go.Operand.tmp 41) (Go.Operand.const (Go.Value.bool Bool.false)), type := 4, pos := "ref.go:25", after := #[{ on := 2, ground := Go.Ground.data }, { on := 12, ground := Go.Ground.data }], guard := Option.none }) (v := ?_) rfl (by kernel_rfl) (by kernel_rfl) (by kernel_rfl) (fun _ _ _ h => h) (Or.inl ⟨by rfl, ?_⟩) hHeld ?_
              rotate_left 1
              · intro ww hSw
                try dsimp only at hSw
                go_simp
                try with_reducible rfl
              try simp only [Act.put, List.setIfInBounds_toArray, List.set_cons_zero, List.set_cons_succ]
              refine wpAnyH_done (by kernel_rfl) ?_ _
              refine NoPanic.normal ?_
              have OE := Lib.hid ((own_below2 HO2.out hC).alloc (.cells #[.int .i64 x.id, .int .i64 x.prio, .int .i64 x.dr, .int .i64 x.bdr] 31))
              have BE := Lib.hid ((HB2.out.trans (hC.mono HB2.out.size)).alloc (HB2.out.trans (hC.mono HB2.out.size)).size (.cells #[.int .i64 x.id, .int .i64 x.prio, .int .i64 x.dr, .int .i64 x.bdr] 31))
              have KX := Lib.hid (Blk.new wa 31 #[.int .i64 x.id, .int .i64 x.prio, .int .i64 x.dr, .int .i64 x.bdr])
              have HBT := Lib.hid hbt
              have CXa := CX.out.move (B' := 0) (fun _ hq => hC.cell hq) hgl
              have hga : g < wa.heap.size := by have := hC.size; omega
              obtain ⟨q0, q1, q2, q3⟩ := CXa
              clear hbt x0 x1 x2 x3 c0 c1 c2' c3 BRd BR
              go_upto_region 11 with fail
              generalize hq : wa.heap.size = q at *
              generalize wa.alloc (.cells #[.int .i64 x.id, .int .i64 x.prio, .int .i64 x.dr, .int .i64 x.bdr] 31) = w3 at *
              have hgq : g ≠ q := by omega
              have hql := KX.out.lt
              clear q0 q1 q2 q3 hC
              obtain ⟨k0, k1', k2, k3⟩ := KX.out.four
              obtain ⟨g', eg, _, hgl3, _, _, c0, c1, c2', c3⟩ := own_cd OE.out HYK.out
              injection eg with eg
              injection eg with eg
              subst eg
              obtain ⟨g', eg, _, _, _, _, x0, x1, x2, x3⟩ := own_cd OE.out HXK.out
              injection eg with eg
              injection eg with eg
              subst eg
              have hkT : k < (P ++ x :: Q).length := by have := HTL.out; omega
              have z0 := own_frozen OE.out (k * 4)
              have z1 := own_frozen OE.out (k * 4 + 1)
              have z2 := own_frozen OE.out (k * 4 + 2)
              have z3 := own_frozen OE.out (k * 4 + 3)
              have O4 := own_put4 OE.out hkT y
              have O4h := Lib.hid O4
              have B4 := Lib.hid ((((BE.out.setCell (p := ⟨g, k * 4, none⟩) hwg (.int .i64 y.id)).setCell (p := ⟨g, k * 4 + 1, none⟩) hwg (.int .i64 y.prio)).setCell (p := ⟨g, k * 4 + 2, none⟩) hwg (.int .i64 y.dr)).setCell (p := ⟨g, k * 4 + 3, none⟩) hwg (.int .i64 y.bdr))
              have K4 := Lib.hid ((((KX.out.far (p := ⟨g, k * 4, none⟩) (Ne.symm hgq) (.int .i64 y.id)).far (p := ⟨g, k * 4 + 1, none⟩) (Ne.symm hgq) (.int .i64 y.prio)).far (p := ⟨g, k * 4 + 2, none⟩) (Ne.symm hgq) (.int .i64 y.dr)).far (p := ⟨g, k * 4 + 3, none⟩) (Ne.symm hgq) (.int .i64 y.bdr))
              clear O4
              go_upto_region 12 with fail
              generalize ((((w3.setCell ⟨g, k * 4, none⟩ (.int .i64 y.id)).setCell ⟨g, k * 4 + 1, none⟩ (.int .i64 y.prio)).setCell ⟨g, k * 4 + 2, none⟩ (.int .i64 y.dr)).setCell ⟨g, k * 4 + 3, none⟩ (.int .i64 y.bdr)) = w4 at *
              clear k0 k1' k2 k3 c0 c1 c2' c3 x0 x1 x2 x3 z0 z1 z2 z3 KX OE BE hql hgl3
              have hql := K4.out.lt
              obtain ⟨k0, k1', k2, k3⟩ := K4.out.four
              have z0 := own_frozen O4h.out (k1 * 4)
              have z1 := own_frozen O4h.out (k1 * 4 + 1)
              have z2 := own_frozen O4h.out (k1 * 4 + 2)
              have z3 := own_frozen O4h.out (k1 * 4 + 3)
              have hT4 : ((P ++ x :: Q).set k y)[k1]? = some y := by
                rw [List.getElem?_set, if_neg (by have := HKK.out; omega)]
                exact HYK.out
              obtain ⟨g', eg, _, hgl3, _, _, c0, c1, c2', c3⟩ := own_cd O4h.out hT4
              injection eg with eg
              injection eg with eg
              subst eg
              have O5 := own_put4 O4h.out (List.getElem?_eq_some_iff.1 hT4).1 x
              rw [show ((P ++ x :: Q).set k y).set k1 x = P' ++ x :: y :: Q by
                rw [HKK.out, HK1.out, HPE.out, List.append_assoc]
                exact swap2 P' y x Q] at O5
              have O5h := Lib.hid O5
              have B5 := Lib.hid ((((B4.out.setCell (p := ⟨g, k1 * 4, none⟩) hwg (.int .i64 x.id)).setCell (p := ⟨g, k1 * 4 + 1, none⟩) hwg (.int .i64 x.prio)).setCell (p := ⟨g, k1 * 4 + 2, none⟩) hwg (.int .i64 x.dr)).setCell (p := ⟨g, k1 * 4 + 3, none⟩) hwg (.int .i64 x.bdr))
              have HPQ2 := Lib.hid (show P' ++ y :: Q = M by rw [← HPQ.out, HPE.out, List.append_assoc]; rfl)
              have HQ2 := Lib.hid (show ∀ z ∈ y :: Q, btr x z = true from fun z hz => by
                rcases List.mem_cons.1 hz with rfl | hz
                · exact HBT.out
                · exact HQ.out z hz)
              have hPm2 : P'.length ≤ m := by have := HK1.out; omega
              have hkm2 : k1 < k := by have := HKK.out; omega
              clear hT4 O5
              go_wp2_with fail
              go_roundw
              case rel => exact ⟨P', y :: Q, hPm2, by rw [HK1.out], HPQ2, HQ2, O5h, B5⟩
              case measure => simp [intOf]; omega

          · obtain rfl : k = 0 := by omega
            have HP0 := Lib.hid (show P = [] from List.eq_nil_of_length_eq_zero HK.out.symm)
            clear hk0 hxk
            go_upto_region 8 with fail
            go_quiet (fail)
            go_wp2_with fail
            go_roundw
            case rel =>
              refine ⟨j + 1, m + 1, c2, A2, P ++ x :: Q, by omega, by go_num, by go_num, Lib.hid HO2.out, Lib.hid (by rw [HN.out]; exact perm_in HPQ.out HM.out), Lib.hid (sorted_in HS.out HPQ.out HQ.out (fun y hy => by rw [HP0.out] at hy; cases hy)), Lib.hid (below_drewN HB2.out _)⟩
            case measure => simp [intOf]; omega
      · have dp : decide (x.prio ≤ 0) = true := by simp; omega
        have HM2 := Lib.hid (show M.Perm (mayC (L.take (j + 1))) by rw [mayC_no HX.out hp]; exact HM.out)
        clear hp
        go_wp2_with fail
        go_roundw
        case rel => exact ⟨j + 1, m, c', A', M, by omega, rfl, by go_num, HO, HM2, HS, HB⟩
        case measure => simp [intOf]; omega
    · have hjn : j = n := by omega
      have HM2 := Lib.hid (show M.Perm (mayC L) by
        have := HM.out
        rwa [hjn, ← HLEN.out, List.take_length] at this)
      have hmn : m ≤ n := by omega
      clear hjn
      go_wp2
      go_ret
      exact ⟨⟨A', m, c', M, rfl, HO.out, HM2.out, HS.out, hmn⟩, HB.out⟩

end Go.Proofs.Ytedlkoecnnmihaa
