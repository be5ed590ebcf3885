/- Both lists; same. Conditions: what the words say. -/
import Derived.Test.YtfapphndfgoknaaHk
import Derived.Test.YtfapphndfgoknaaHm
namespace Go.Proofs.Ytfapphndfgoknaa
open Go.RowKit Go.Deep

theorem under47 : Try.prog.underlying 47 = some (.struct (Try.prog.fieldsOf 47)) := by kernel_rfl
theorem stood47 : Try.prog.stoodInHeld 47 = false := by kernel_rfl
theorem under69 : Try.prog.underlying 69 = some (.struct (Try.prog.fieldsOf 69)) := by kernel_rfl
theorem stood69 : Try.prog.stoodInHeld 69 = false := by kernel_rfl
theorem equalP (x : Pe) (W : World) : (Op.equalIn 10000 47 (.agg #[.int .i64 x.id, .int .i64 x.prio, .int .i64 x.dr, .int .i64 x.bdr, .int .i64 x.st, .bool x.two, .int .i64 x.tick]) (.agg #[.int .i64 x.id, .int .i64 x.prio, .int .i64 x.dr, .int .i64 x.bdr, .int .i64 x.st, .bool x.two, .int .i64 x.tick])).run Try.prog W = .ok true W := by
  have q0 : (part 3 #[.int .i64 x.id, .int .i64 x.prio, .int .i64 x.dr, .int .i64 x.bdr, .int .i64 x.st, .bool x.two, .int .i64 x.tick] 0).run Try.prog W = .ok (.int .i64 x.id) W := run_part_plain W plain3 rfl
  have q1 : (part 3 #[.int .i64 x.id, .int .i64 x.prio, .int .i64 x.dr, .int .i64 x.bdr, .int .i64 x.st, .bool x.two, .int .i64 x.tick] 1).run Try.prog W = .ok (.int .i64 x.prio) W := run_part_plain W plain3 rfl
  have q2 : (part 3 #[.int .i64 x.id, .int .i64 x.prio, .int .i64 x.dr, .int .i64 x.bdr, .int .i64 x.st, .bool x.two, .int .i64 x.tick] 2).run Try.prog W = .ok (.int .i64 x.dr) W := run_part_plain W plain3 rfl
  have q3 : (part 3 #[.int .i64 x.id, .int .i64 x.prio, .int .i64 x.dr, .int .i64 x.bdr, .int .i64 x.st, .bool x.two, .int .i64 x.tick] 3).run Try.prog W = .ok (.int .i64 x.bdr) W := run_part_plain W plain3 rfl
  have q4 : (part 3 #[.int .i64 x.id, .int .i64 x.prio, .int .i64 x.dr, .int .i64 x.bdr, .int .i64 x.st, .bool x.two, .int .i64 x.tick] 4).run Try.prog W = .ok (.int .i64 x.st) W := run_part_plain W plain3 rfl
  have q5 : (part 4 #[.int .i64 x.id, .int .i64 x.prio, .int .i64 x.dr, .int .i64 x.bdr, .int .i64 x.st, .bool x.two, .int .i64 x.tick] 5).run Try.prog W = .ok (.bool x.two) W := run_part_plain W plain4 rfl
  have q6 : (part 3 #[.int .i64 x.id, .int .i64 x.prio, .int .i64 x.dr, .int .i64 x.bdr, .int .i64 x.st, .bool x.two, .int .i64 x.tick] 6).run Try.prog W = .ok (.int .i64 x.tick) W := run_part_plain W plain3 rfl
  rw [show (10000 : Nat) = 9998 + 1 + 1 from rfl, run_equalIn_struct W (9998 + 1) _ _ _ under47 stood47]
  simp [Program.fieldsOf, Try.underlying47, Op.eqFields, q0, q1, q2, q3, q4, q5, q6, eqInt, eqBool]
theorem equalC (x : Cd) (W : World) : (Op.equalIn 10000 69 (.agg #[.int .i64 x.id, .int .i64 x.prio, .int .i64 x.dr, .int .i64 x.bdr]) (.agg #[.int .i64 x.id, .int .i64 x.prio, .int .i64 x.dr, .int .i64 x.bdr])).run Try.prog W = .ok true W := by
  have q0 : (part 3 #[.int .i64 x.id, .int .i64 x.prio, .int .i64 x.dr, .int .i64 x.bdr] 0).run Try.prog W = .ok (.int .i64 x.id) W := run_part_plain W plain3 rfl
  have q1 : (part 3 #[.int .i64 x.id, .int .i64 x.prio, .int .i64 x.dr, .int .i64 x.bdr] 1).run Try.prog W = .ok (.int .i64 x.prio) W := run_part_plain W plain3 rfl
  have q2 : (part 3 #[.int .i64 x.id, .int .i64 x.prio, .int .i64 x.dr, .int .i64 x.bdr] 2).run Try.prog W = .ok (.int .i64 x.dr) W := run_part_plain W plain3 rfl
  have q3 : (part 3 #[.int .i64 x.id, .int .i64 x.prio, .int .i64 x.dr, .int .i64 x.bdr] 3).run Try.prog W = .ok (.int .i64 x.bdr) W := run_part_plain W plain3 rfl
  rw [show (10000 : Nat) = 9998 + 1 + 1 from rfl, run_equalIn_struct W (9998 + 1) _ _ _ under69 stood69]
  simp [Program.fieldsOf, Try.underlying69, Op.eqFields, q0, q1, q2, q3, eqInt]
/-- Both lists, alike; what is theirs lies from B on. -/
def Both (w : World) (B p q : Nat) (sf lan : Int) (X : List Pe) : Prop :=
  ∃ (F G : Nat → Prop) (bk : Int → Nat) (A : Option Addr) (n c : Nat), PDb w p F sf lan X bk ∧ RDb w q G sf lan X A n c ∧ (∀ k, F k → ¬ G k) ∧ (∀ k, F k → B ≤ k) ∧ (∀ k, G k → B ≤ k)
theorem Both.below {w w' : World} {B p q : Nat} {sf lan : Int} {X : List Pe} (h : Both w B p q sf lan X) (hb : Below w.heap.size w w') : Both w' B p q sf lan X := by
  obtain ⟨F, G, bk, A, n, c, h1, h2, h3, h4, h5⟩ := h
  exact ⟨F, G, bk, A, n, c, h1.below hb, h2.below hb, h3, h4, h5⟩
theorem own_cd {w : World} {base n : Nat} {A : Option Addr} {c : Nat} {L : List Cd} (h : w.ownsRow base 69 4 (.slice A n c) n (cellsBy encCd L)) {j : Nat} {x : Cd} (hj : L[j]? = some x) :
    ∃ g, A = some ⟨g, 0, none⟩ ∧ g < w.heap.size ∧ n ≤ c ∧ c ≤ maxLen ∧ w.rangeAt g (j * 4) (encCd x) := by
  obtain ⟨g, h1, h2, h3, h4, h5, h6⟩ := own_item encCd_len (by omega) h hj
  refine ⟨g, h1, h3, h4, h5, fun k v hv => ?_⟩
  rw [h6 k (by have := (List.getElem?_eq_some_iff.1 hv).1; simpa [encCd] using this), hv]
set_option maxRecDepth 8000 in
set_option maxHeartbeats 8000000 in
theorem same_any {w : World} {B p q : Nat} {sf lan : Int} {X : List Pe} (hBo : Both w B p q sf lan X) :
    Calls Try.prog 17 #[.pointer (some ⟨p, 0, none⟩), .pointer (some ⟨q, 0, none⟩)] w fun e w' => e = .returned (.bool true) ∧ Below w.heap.size w w' := by
  obtain ⟨F, G, bk, A, n, c, hP, hR, -, -, -⟩ := hBo
  have HP := Lib.hid hP
  have HR := Lib.hid hR
  have HS := Lib.hid hP.srt
  have HLEN := Lib.hid hR.len
  have HN := Lib.hid (show n ≤ 15 by have := hR.len; have := hP.srt.len; omega)
  clear hP hR
  go_enter Try.func17, Try.ntmps17
  go_wp2_with fail
  refine (all_any HP.out).mono ?_
  rintro e1 w1 ⟨⟨A1, n1, c1, rfl, ho1⟩, hb1⟩
  obtain rfl : n = n1 := HLEN.out.symm.trans (own_len encPe_len (by omega) ho1)
  have HO1 := Lib.hid ho1
  have B1 := Lib.hid hb1
  have P1 := Lib.hid (HP.out.below hb1)
  have R1 := Lib.hid (HR.out.below hb1)
  clear ho1 hb1 HP HR
  go_wp2_with fail
  refine (cands_any P1.out).mono ?_
  rintro e2 w2 ⟨⟨A2, m, c2, rfl, ho2⟩, hb2⟩
  have HM := Lib.hid (own_len encCd_len (by omega) ho2)
  have HO2 := Lib.hid ho2
  have HO1b := Lib.hid (own_below2 HO1.out hb2)
  have B2 := Lib.hid (B1.out.trans (hb2.mono B1.out.size))
  have P2 := Lib.hid (P1.out.below hb2)
  have R2 := Lib.hid (R1.out.below hb2)
  clear ho2 hb2 HO1 B1 P1 R1
  go_wp2_with fail
  refine (cands_ref R2.out HS.out).mono ?_
  rintro e3 w3 ⟨⟨A3, m3, c3, rfl, ho3⟩, hb3⟩
  obtain rfl : m = m3 := HM.out.symm.trans (own_len encCd_len (by omega) ho3)
  have HO3 := Lib.hid ho3
  have HO1c := Lib.hid (own_below2 HO1b.out hb3)
  have HO2c := Lib.hid (own_below2 HO2.out hb3)
  have B3 := Lib.hid (B2.out.trans (hb3.mono B2.out.size))
  have P3 := Lib.hid (P2.out.below hb3)
  have R3 := Lib.hid (R2.out.below hb3)
  clear ho3 hb3 HO1b HO2 B2 P2 R2
  obtain ⟨cq0, cq1, cq2⟩ := R3.out.cells
  have hql := R3.out.obj.lt
  have hnn : ((n : Int) != (n : Int)) = false := by simp
  have hmm : ((m : Int) != (m : Int)) = false := by simp
  have HMS := Lib.hid (show m ≤ 15 by
    rw [← HM.out]
    have h1 : (cdsL X).length ≤ X.length := by unfold cdsL; rw [List.length_map]; exact List.length_filter_le _ _
    have := HS.out.len
    omega)
  go_wp2_with fail
  clear cq0 cq1 cq2 hql
  go_loopw [8, 36] (fun s8 s36 wr => ∃ (j k c' : Nat) (A' : Option Addr), j ≤ n ∧ s36 = .int .i64 j ∧ s8 = .slice A' k c' ∧ Hid (wr.ownsRow w3.heap.size 3 1 (.slice A' k c') k (cellsBy encI ((X.take j).map (·.id)))) ∧ Hid (Below w3.heap.size w3 wr)) (fun _ i _ => n - (intOf i).toNat)
  case atStart => exact ⟨0, 0, 0, none, Nat.zero_le _, rfl, rfl, Lib.hid (World.ownsRow_nil _ _ _ _), Lib.hid (Below.refl _ _)⟩
  case round =>
    obtain ⟨j, k, c', A', hj, rfl, rfl, HI, HB⟩ := hrel
    have hs3 := HB.out.size
    have hki := own_len encI_len (by omega) HI.out
    have HKI := Lib.hid (show k ≤ 20 by rw [← hki]; simp; have := HN.out; omega)
    have HK20 := HKI.out
    clear hki
    by_cases hlt : j < n
    · have hlt' : (j : Int) < n := by omega
      have hj0 : (0 : Int) ≤ (j : Int) := by omega
      obtain ⟨x, hx⟩ : ∃ x, X[j]? = some x := ⟨X[j]'(by have := HLEN.out; omega), List.getElem?_eq_getElem (by have := HLEN.out; omega)⟩
      have HX := Lib.hid hx
      have HFX := Lib.hid (HS.out.find (List.mem_of_getElem? hx))
      have HNX := Lib.hid (show (X.take j).map (·.id) ++ [x.id] = (X.take (j + 1)).map (·.id) by rw [take_snocA X j x hx]; simp)
      have HO1r := Lib.hid (own_below2 HO1c.out HB.out)
      have PR := Lib.hid (P3.out.below HB.out)
      have RR := Lib.hid (R3.out.below HB.out)
      obtain ⟨g1, rfl, -, hg1, hnc1, hcm1, -, y0, -⟩ := own_pe HO1r.out hx
      unfold maxLen at hcm1
      have hgx : getP X x.id = x := by unfold getP; rw [HFX.out]; rfl
      have HGX := Lib.hid hgx
      clear hx hgx
      go_wp2_with fail
      refine (get_any x.id PR.out).mono ?_
      rintro e4 w4 ⟨rfl, hb4⟩
      rw [HGX.out, HFX.out]
      simp only [Option.isSome_some]
      clear y0 hg1
      have HO14 := Lib.hid (own_below2 HO1r.out hb4)
      have P4 := Lib.hid (PR.out.below hb4)
      have R4 := Lib.hid (RR.out.below hb4)
      have HI4 := Lib.hid (own_below2 HI.out hb4)
      have B4 := Lib.hid (HB.out.trans (hb4.mono hs3))
      clear hb4 HO1r PR RR HI HB hs3
      go_upto_region 11 with fail
      have HO15 := Lib.hid (HO14.out.alloc (.cells #[.int .i64 x.id, .int .i64 x.prio, .int .i64 x.dr, .int .i64 x.bdr, .int .i64 x.st, .bool x.two, .int .i64 x.tick] 47))
      have P5 := Lib.hid (P4.out.below ((Below.refl _ _).alloc (Nat.le_refl _) (.cells #[.int .i64 x.id, .int .i64 x.prio, .int .i64 x.dr, .int .i64 x.bdr, .int .i64 x.st, .bool x.two, .int .i64 x.tick] 47)))
      have R5 := Lib.hid (R4.out.below ((Below.refl _ _).alloc (Nat.le_refl _) (.cells #[.int .i64 x.id, .int .i64 x.prio, .int .i64 x.dr, .int .i64 x.bdr, .int .i64 x.st, .bool x.two, .int .i64 x.tick] 47)))
      have HI5 := Lib.hid (HI4.out.alloc (.cells #[.int .i64 x.id, .int .i64 x.prio, .int .i64 x.dr, .int .i64 x.bdr, .int .i64 x.st, .bool x.two, .int .i64 x.tick] 47))
      have KX5 := Lib.hid (Blk.new w4 47 #[.int .i64 x.id, .int .i64 x.prio, .int .i64 x.dr, .int .i64 x.bdr, .int .i64 x.st, .bool x.two, .int .i64 x.tick])
      have B5 := Lib.hid (B4.out.alloc B4.out.size (.cells #[.int .i64 x.id, .int .i64 x.prio, .int .i64 x.dr, .int .i64 x.bdr, .int .i64 x.st, .bool x.two, .int .i64 x.tick] 47))
      clear HO14 P4 R4 HI4 B4
      generalize w4.alloc (.cells #[.int .i64 x.id, .int .i64 x.prio, .int .i64 x.dr, .int .i64 x.bdr, .int .i64 x.st, .bool x.two, .int .i64 x.tick] 47) = w5 at *
      generalize w4.heap.size = gx at *
      have HO16 := Lib.hid (own_drew7 HO15.out)
      have P6 := Lib.hid P5.out.drew
      have R6 := Lib.hid (show RDb w5.drew q G sf lan X A n c from ⟨R5.out.obj.drew, own_drew7 R5.out.row, R5.out.gq, R5.out.gr, R5.out.gl⟩)
      have HI6 := Lib.hid (own_drew7 HI5.out)
      have KX6 := Lib.hid KX5.out.drew
      have B6 := Lib.hid (show Below w3.heap.size w3 w5.drew from below_drewN B5.out 1)
      clear HO15 P5 R5 HI5 KX5 B5
      obtain ⟨g1', e1, -, -, -, -, hr1, -, -⟩ := own_pe HO16.out HX.out
      injection e1 with e1
      injection e1 with e1
      subst e1
      obtain ⟨ga, rfl, -, -, hnc2, hcm2, hr2, -, -⟩ := own_pe R6.out.row HX.out
      unfold maxLen at hcm2
      have hS := And.intro R6.out.cells.2.2 (And.intro hr1 (And.intro hr2 KX6.out.range7))
      clear hr1 hr2
      have hEQ := fun W => equalP x W
      refine wp_region_noPanic ?_
      refine wp_region_held_drew (S := fun w' => w'.cell? ⟨q, 2, none⟩ = some (.slice (some ⟨ga, 0, none⟩) n c) ∧ w'.rangeAt g1 (j * 7) (encPe x) ∧ w'.rangeAt ga (j * 7) (encPe x) ∧ w'.rangeAt gx 0 (encPe x)) (by kernel_rfl) hS (fun hHeld => ?_)
      change wpAnyH _ _ _ _ _ _ _ _ w5.drew
      generalize w5.drew = w6 at *
      clear hS
      have hql := R6.out.obj.lt
      refine wpAnyH_take (i := 0) (oi := { dst := Option.some 49, op := Go.Op.move (Go.Operand.tmp 5), type := 27, pos := "law.go:36", after := #[], guard := Option.none }) (v := ?_) rfl (by kernel_rfl) (by kernel_rfl) (by kernel_rfl) (fun _ _ _ h => h) (Or.inl ⟨by rfl, ?_⟩) hHeld ?_
      rotate_left 1
      · intro ww hSw
        try dsimp only at hSw
        go_simp
        try with_reducible rfl
      try simp only [Act.put, List.setIfInBounds_toArray, List.set_cons_zero, List.set_cons_succ]
      refine wpAnyH_take (i := 1) (oi := { dst := Option.some 50, op := Go.Op.move (Go.Operand.tmp 9), type := 3, pos := "law.go:36", after := #[], guard := Option.none }) (v := ?_) rfl (by kernel_rfl) (by kernel_rfl) (by kernel_rfl) (fun _ _ _ h => h) (Or.inl ⟨by rfl, ?_⟩) hHeld ?_
      rotate_left 1
      · intro ww hSw
        try dsimp only at hSw
        go_simp
        try with_reducible rfl
      try simp only [Act.put, List.setIfInBounds_toArray, List.set_cons_zero, List.set_cons_succ]
      refine wpAnyH_take (i := 2) (oi := { dst := Option.some 51, op := Go.Op.indexAddr 27 (Go.Operand.tmp 49) (Go.Operand.tmp 50), type := 0, pos := "law.go:36", after := #[{ on := 0, ground := Go.Ground.data }, { on := 1, ground := Go.Ground.data }], guard := Option.none }) (v := ?_) rfl (by kernel_rfl) (by kernel_rfl) (by kernel_rfl) (fun _ _ _ h => h) (Or.inl ⟨by rfl, ?_⟩) hHeld ?_
      rotate_left 1
      · intro ww hSw
        try dsimp only at hSw
        go_simp
        try with_reducible rfl
      try simp only [Act.put, List.setIfInBounds_toArray, List.set_cons_zero, List.set_cons_succ]
      refine wpAnyH_take (i := 3) (oi := { dst := Option.some 52, op := Go.Op.load 47 (Go.Operand.tmp 51), type := 47, pos := "law.go:36", after := #[{ on := 2, ground := Go.Ground.data }], guard := Option.none }) (v := (.agg #[.int .i64 x.id, .int .i64 x.prio, .int .i64 x.dr, .int .i64 x.bdr, .int .i64 x.st, .bool x.two, .int .i64 x.tick])) rfl (by kernel_rfl) (by kernel_rfl) (by kernel_rfl) (fun _ _ _ h => h) (yieldsIf_load_mid (by rfl) 47 (.tmp 51) rfl g1 (j * 7) rfl (encPe x) _ (fun _ hb => hb.2.1) Try.underlying47 rfl (by kernel_rfl)) hHeld ?_
      try simp only [Act.put, List.setIfInBounds_toArray, List.set_cons_zero, List.set_cons_succ]
      refine wpAnyH_take (i := 4) (oi := { dst := Option.some 53, op := Go.Op.move (Go.Operand.tmp 1), type := 26, pos := "law.go:36", after := #[], guard := Option.none }) (v := ?_) rfl (by kernel_rfl) (by kernel_rfl) (by kernel_rfl) (fun _ _ _ h => h) (Or.inl ⟨by rfl, ?_⟩) hHeld ?_
      rotate_left 1
      · intro ww hSw
        try dsimp only at hSw
        go_simp
        try with_reducible rfl
      try simp only [Act.put, List.setIfInBounds_toArray, List.set_cons_zero, List.set_cons_succ]
      refine wpAnyH_take (i := 5) (oi := { dst := Option.some 54, op := Go.Op.nilCheck (Go.Operand.tmp 53), type := 0, pos := "law.go:36", after := #[{ on := 4, ground := Go.Ground.data }], guard := Option.none }) (v := ?_) rfl (by kernel_rfl) (by kernel_rfl) (by kernel_rfl) (fun _ _ _ h => h) (Or.inl ⟨by rfl, ?_⟩) hHeld ?_
      rotate_left 1
      · intro ww hSw
        try dsimp only at hSw
        go_simp
        try with_reducible rfl
      try simp only [Act.put, List.setIfInBounds_toArray, List.set_cons_zero, List.set_cons_succ]
      refine wpAnyH_take (i := 6) (oi := { dst := Option.some 55, op := Go.Op.fieldAddr 29 (Go.Operand.tmp 54) 2, type := 0, pos := "law.go:36", after := #[{ on := 5, ground := Go.Ground.data }], guard := Option.none }) (v := ?_) rfl (by kernel_rfl) (by kernel_rfl) (by kernel_rfl) (fun _ _ _ h => h) (Or.inl ⟨by rfl, ?_⟩) hHeld ?_
      rotate_left 1
      · intro ww hSw
        try dsimp only at hSw
        go_simp
        try with_reducible rfl
      try simp only [Act.put, List.setIfInBounds_toArray, List.set_cons_zero, List.set_cons_succ]
      refine wpAnyH_take (i := 7) (oi := { dst := Option.some 56, op := Go.Op.load 27 (Go.Operand.tmp 55), type := 27, pos := "law.go:36", after := #[{ on := 6, ground := Go.Ground.data }], guard := Option.none }) (v := ?_) rfl (by kernel_rfl) (by kernel_rfl) (by kernel_rfl) (fun _ _ _ h => h) (Or.inl ⟨by rfl, ?_⟩) hHeld ?_
      rotate_left 1
      · intro ww hSw
        try dsimp only at hSw
        go_simp
        try with_reducible rfl
      try simp only [Act.put, List.setIfInBounds_toArray, List.set_cons_zero, List.set_cons_succ]
      refine wpAnyH_take (i := 8) (oi := { dst := Option.some 57, op := Go.Op.move (Go.Operand.tmp 9), type := 3, pos := "law.go:36", after := #[], guard := Option.none }) (v := ?_) rfl (by kernel_rfl) (by kernel_rfl) (by kernel_rfl) (fun _ _ _ h => h) (Or.inl ⟨by rfl, ?_⟩) hHeld ?_
      rotate_left 1
      · intro ww hSw
        try dsimp only at hSw
        go_simp
        try with_reducible rfl
      try simp only [Act.put, List.setIfInBounds_toArray, List.set_cons_zero, List.set_cons_succ]
      refine wpAnyH_take (i := 9) (oi := { dst := Option.some 58, op := Go.Op.indexAddr 27 (Go.Operand.tmp 56) (Go.Operand.tmp 57), type := 0, pos := "law.go:36", after := #[{ on := 7, ground := Go.Ground.data }, { on := 8, ground := Go.Ground.data }], guard := Option.none }) (v := ?_) rfl (by kernel_rfl) (by kernel_rfl) (by kernel_rfl) (fun _ _ _ h => h) (Or.inl ⟨by rfl, ?_⟩) hHeld ?_
      rotate_left 1
      · intro ww hSw
        try dsimp only at hSw
        go_simp
        try with_reducible rfl
      try simp only [Act.put, List.setIfInBounds_toArray, List.set_cons_zero, List.set_cons_succ]
      refine wpAnyH_take (i := 10) (oi := { dst := Option.some 59, op := Go.Op.load 47 (Go.Operand.tmp 58), type := 47, pos := "law.go:36", after := #[{ on := 9, ground := Go.Ground.data }], guard := Option.none }) (v := (.agg #[.int .i64 x.id, .int .i64 x.prio, .int .i64 x.dr, .int .i64 x.bdr, .int .i64 x.st, .bool x.two, .int .i64 x.tick])) rfl (by kernel_rfl) (by kernel_rfl) (by kernel_rfl) (fun _ _ _ h => h) (yieldsIf_load_mid (by rfl) 47 (.tmp 58) rfl ga (j * 7) rfl (encPe x) _ (fun _ hb => hb.2.2.1) Try.underlying47 rfl (by kernel_rfl)) hHeld ?_
      try simp only [Act.put, List.setIfInBounds_toArray, List.set_cons_zero, List.set_cons_succ]
      refine wpAnyH_take (i := 11) (oi := { dst := Option.some 60, op := Go.Op.binOp Go.BinOp.neq 47 (Go.Operand.tmp 52) (Go.Operand.tmp 59) 47, type := 4, pos := "law.go:36", after := #[{ on := 3, ground := Go.Ground.data }, { on := 10, ground := Go.Ground.data }], guard := Option.none }) (v := ?_) rfl (by kernel_rfl) (by kernel_rfl) (by kernel_rfl) (fun _ _ _ h => h) (Or.inl ⟨by rfl, ?_⟩) hHeld ?_
      rotate_left 1
      · intro ww hSw
        try dsimp only at hSw
        go_simp
        try with_reducible rfl
      try simp only [Act.put, List.setIfInBounds_toArray, List.set_cons_zero, List.set_cons_succ]
      refine wpAnyH_take (i := 12) (oi := { dst := Option.some 61, op := Go.Op.move (Go.Operand.tmp 60), type := 4, pos := "law.go:36", after := #[{ on := 11, ground := Go.Ground.data }], guard := Option.none }) (v := ?_) rfl (by kernel_rfl) (by kernel_rfl) (by kernel_rfl) (fun _ _ _ h => h) (Or.inl ⟨by rfl, ?_⟩) hHeld ?_
      rotate_left 1
      · intro ww hSw
        try dsimp only at hSw
        go_simp
        try with_reducible rfl
      try simp only [Act.put, List.setIfInBounds_toArray, List.set_cons_zero, List.set_cons_succ]
      refine wpAnyH_take (i := 13) (oi := { dst := Option.some 62, op := Go.Op.move (Go.Operand.tmp 11), type := 4, pos := "law.go:36", after := #[{ on := 12, ground := Go.Ground.guard }], guard := Option.some (12, Bool.false) }) (v := ?_) rfl (by kernel_rfl) (by kernel_rfl) (by kernel_rfl) (fun _ _ _ h => h) (Or.inl ⟨by rfl, ?_⟩) hHeld ?_
      rotate_left 1
      · intro ww hSw
        try dsimp only at hSw
        go_simp
        try with_reducible rfl
      try simp only [Act.put, List.setIfInBounds_toArray, List.set_cons_zero, List.set_cons_succ]
      refine wpAnyH_take (i := 14) (oi := { dst := Option.some 63, op := Go.Op.unOp Go.UnOp.not 4 (Go.Operand.tmp 62), type := 4, pos := "law.go:36", after := #[{ on := 13, ground := Go.Ground.data }, { on := 12, ground := Go.Ground.guard }], guard := Option.some (12, Bool.false) }) (v := ?_) rfl (by kernel_rfl) (by kernel_rfl) (by kernel_rfl) (fun _ _ _ h => h) (Or.inl ⟨by rfl, ?_⟩) hHeld ?_
      rotate_left 1
      · intro ww hSw
        try dsimp only at hSw
        go_simp
        try with_reducible rfl
      try simp only [Act.put, List.setIfInBounds_toArray, List.set_cons_zero, List.set_cons_succ]
      refine wpAnyH_take (i := 15) (oi := { dst := Option.some 64, op := Go.Op.pick (Go.Operand.tmp 61) (Go.Operand.const (Go.Value.bool Bool.true)) (Go.Operand.tmp 63), type := 4, pos := "law.go:36", after := #[{ on := 12, ground := Go.Ground.data }, { on := 14, ground := Go.Ground.data }], guard := Option.none }) (v := ?_) rfl (by kernel_rfl) (by kernel_rfl) (by kernel_rfl) (fun _ _ _ h => h) (Or.inl ⟨by rfl, ?_⟩) hHeld ?_
      rotate_left 1
      · intro ww hSw
        try dsimp only at hSw
        go_simp
        try with_reducible rfl
      try simp only [Act.put, List.setIfInBounds_toArray, List.set_cons_zero, List.set_cons_succ]
      refine wpAnyH_take (i := 16) (oi := { dst := Option.some 65, op := Go.Op.move (Go.Operand.tmp 64), type := 4, pos := "law.go:36", after := #[{ on := 15, ground := Go.Ground.data }, { on := 12, ground := Go.Ground.chain }], guard := Option.none }) (v := ?_) rfl (by kernel_rfl) (by kernel_rfl) (by kernel_rfl) (fun _ _ _ h => h) (Or.inl ⟨by rfl, ?_⟩) hHeld ?_
      rotate_left 1
      · intro ww hSw
        try dsimp only at hSw
        go_simp
        try with_reducible rfl
      try simp only [Act.put, List.setIfInBounds_toArray, List.set_cons_zero, List.set_cons_succ]
      refine wpAnyH_take (i := 17) (oi := { dst := Option.some 66, op := Go.Op.load 47 (Go.Operand.tmp 10), type := 47, pos := "law.go:36", after := #[{ on := 16, ground := Go.Ground.guard }], guard := Option.some (16, Bool.false) }) (v := (.agg #[.int .i64 x.id, .int .i64 x.prio, .int .i64 x.dr, .int .i64 x.bdr, .int .i64 x.st, .bool x.two, .int .i64 x.tick])) rfl (by kernel_rfl) (by kernel_rfl) (by kernel_rfl) (fun _ _ _ h => h) (yieldsIf_load_mid (by rfl) 47 (.tmp 10) rfl gx 0 rfl (encPe x) _ (fun _ hb => hb.2.2.2) Try.underlying47 rfl (by kernel_rfl)) hHeld ?_
      try simp only [Act.put, List.setIfInBounds_toArray, List.set_cons_zero, List.set_cons_succ]
      refine wpAnyH_take (i := 18) (oi := { dst := Option.some 67, op := Go.Op.move (Go.Operand.tmp 5), type := 27, pos := "law.go:36", after := #[{ on := 16, ground := Go.Ground.guard }], guard := Option.some (16, Bool.false) }) (v := ?_) rfl (by kernel_rfl) (by kernel_rfl) (by kernel_rfl) (fun _ _ _ h => h) (Or.inl ⟨by rfl, ?_⟩) hHeld ?_
      rotate_left 1
      · intro ww hSw
        try dsimp only at hSw
        go_simp
        try with_reducible rfl
      try simp only [Act.put, List.setIfInBounds_toArray, List.set_cons_zero, List.set_cons_succ]
      refine wpAnyH_take (i := 19) (oi := { dst := Option.some 68, op := Go.Op.move (Go.Operand.tmp 9), type := 3, pos := "law.go:36", after := #[{ on := 16, ground := Go.Ground.guard }], guard := Option.some (16, Bool.false) }) (v := ?_) rfl (by kernel_rfl) (by kernel_rfl) (by kernel_rfl) (fun _ _ _ h => h) (Or.inl ⟨by rfl, ?_⟩) hHeld ?_
      rotate_left 1
      · intro ww hSw
        try dsimp only at hSw
        go_simp
        try with_reducible rfl
      try simp only [Act.put, List.setIfInBounds_toArray, List.set_cons_zero, List.set_cons_succ]
      refine wpAnyH_take (i := 20) (oi := { dst := Option.some 69, op := Go.Op.indexAddr 27 (Go.Operand.tmp 67) (Go.Operand.tmp 68), type := 0, pos := "law.go:36", after := #[{ on := 18, ground := Go.Ground.data }, { on := 19, ground := Go.Ground.data }, { on := 16, ground := Go.Ground.guard }], guard := Option.some (16, Bool.false) }) (v := ?_) rfl (by kernel_rfl) (by kernel_rfl) (by kernel_rfl) (fun _ _ _ h => h) (Or.inl ⟨by rfl, ?_⟩) hHeld ?_
      rotate_left 1
      · intro ww hSw
        try dsimp only at hSw
        go_simp
        try with_reducible rfl
      try simp only [Act.put, List.setIfInBounds_toArray, List.set_cons_zero, List.set_cons_succ]
      refine wpAnyH_take (i := 21) (oi := { dst := Option.some 70, op := Go.Op.load 47 (Go.Operand.tmp 69), type := 47, pos := "law.go:36", after := #[{ on := 20, ground := Go.Ground.data }, { on := 16, ground := Go.Ground.guard }], guard := Option.some (16, Bool.false) }) (v := (.agg #[.int .i64 x.id, .int .i64 x.prio, .int .i64 x.dr, .int .i64 x.bdr, .int .i64 x.st, .bool x.two, .int .i64 x.tick])) rfl (by kernel_rfl) (by kernel_rfl) (by kernel_rfl) (fun _ _ _ h => h) (yieldsIf_load_mid (by rfl) 47 (.tmp 69) rfl g1 (j * 7) rfl (encPe x) _ (fun _ hb => hb.2.1) Try.underlying47 rfl (by kernel_rfl)) hHeld ?_
      try simp only [Act.put, List.setIfInBounds_toArray, List.set_cons_zero, List.set_cons_succ]
      refine wpAnyH_take (i := 22) (oi := { dst := Option.some 71, op := Go.Op.binOp Go.BinOp.neq 47 (Go.Operand.tmp 66) (Go.Operand.tmp 70) 47, type := 4, pos := "law.go:36", after := #[{ on := 17, ground := Go.Ground.data }, { on := 21, ground := Go.Ground.data }, { on := 16, ground := Go.Ground.guard }], guard := Option.some (16, Bool.false) }) (v := ?_) rfl (by kernel_rfl) (by kernel_rfl) (by kernel_rfl) (fun _ _ _ h => h) (Or.inl ⟨by rfl, ?_⟩) hHeld ?_
      rotate_left 1
      · intro ww hSw
        try dsimp only at hSw
        go_simp
        try with_reducible rfl
      try simp only [Act.put, List.setIfInBounds_toArray, List.set_cons_zero, List.set_cons_succ]
      refine wpAnyH_take (i := 23) (oi := { dst := Option.some 72, op := Go.Op.pick (Go.Operand.tmp 65) (Go.Operand.const (Go.Value.bool Bool.true)) (Go.Operand.tmp 71), type := 4, pos := "law.go:36", after := #[{ on := 16, ground := Go.Ground.data }, { on := 22, ground := Go.Ground.data }], guard := Option.none }) (v := ?_) rfl (by kernel_rfl) (by kernel_rfl) (by kernel_rfl) (fun _ _ _ h => h) (Or.inl ⟨by rfl, ?_⟩) hHeld ?_
      rotate_left 1
      · intro ww hSw
        try dsimp only at hSw
        go_simp
        try with_reducible rfl
      try simp only [Act.put, List.setIfInBounds_toArray, List.set_cons_zero, List.set_cons_succ]
      refine wpAnyH_done (by kernel_rfl) ?_ _
      refine NoPanic.normal ?_
      clear hHeld hEQ
      have hs6 := B6.out.size
      obtain ⟨g1', e1, -, hg6, -, -, -, y0, -⟩ := own_pe HO16.out HX.out
      injection e1 with e1
      injection e1 with e1
      subst e1
      go_wp2_with (at_builtin; refine wpList_app_int rfl _ _ rfl x.id (by rfl) (by rfl) HI6.out (by omega) hs6 ?_; intro A7 c7 w7 ho7 hb7)
      rw [HNX.out] at ho7
      have B7 := Lib.hid (B6.out.trans hb7.out)
      go_roundw
      case rel => exact ⟨j + 1, k + 1, c7, A7, by omega, by go_num, rfl, ho7, B7⟩
      case measure => simp [intOf]; omega
    · have hjn : j = n := by omega
      have HI2 := Lib.hid (show wr.ownsRow w3.heap.size 3 1 (.slice A' k c') k (cellsBy encI (X.map (·.id))) by
        have h1 : X.take j = X := by rw [hjn, ← HLEN.out, List.take_length]
        have := HI.out
        rwa [h1] at this)
      have HO2r := Lib.hid (own_below2 HO2c.out HB.out)
      have HO3r := Lib.hid (own_below2 HO3.out HB.out)
      have PR := Lib.hid (P3.out.below HB.out)
      have BR := Lib.hid (B3.out.trans (HB.out.mono B3.out.size))
      clear hjn HI HB HO1c HO2c HO3 P3 R3 B3 hs3
      go_wp2_with fail
      go_loopw [84] (fun s84 wl => ∃ i : Nat, i ≤ m ∧ s84 = .int .i64 i ∧ Hid (Below wr.heap.size wr wl)) (fun i _ => m - (intOf i).toNat)
      case atStart => exact ⟨0, Nat.zero_le _, rfl, Lib.hid (Below.refl _ _)⟩
      case round =>
        rename World => wl
        obtain ⟨i, hi, rfl, HL⟩ := hrel
        by_cases hlt2 : i < m
        · have hlt2' : (i : Int) < m := by omega
          have hi0 : (0 : Int) ≤ (i : Int) := by omega
          obtain ⟨z, hz⟩ : ∃ z, (cdsL X)[i]? = some z := ⟨(cdsL X)[i]'(by have := HM.out; omega), List.getElem?_eq_getElem (by have := HM.out; omega)⟩
          obtain ⟨ga, rfl, hga, hna, hca, hra⟩ := own_cd (own_below2 HO2r.out HL.out) hz
          obtain ⟨gb, rfl, hgb, hnb, hcb, hrb⟩ := own_cd (own_below2 HO3r.out HL.out) hz
          unfold maxLen at hca hcb
          clear hz
          have hEQ := fun W => equalC z W
          go_upto_region 18 with fail
          have B8 := Lib.hid (show Below wr.heap.size wr wl.drew from below_drewN HL.out 1)
          have hS := And.intro (show wl.drew.rangeAt ga (i * 4) (encCd z) from hra) (show wl.drew.rangeAt gb (i * 4) (encCd z) from hrb)
          clear hra hrb
          refine wp_region_noPanic ?_
          refine wp_region_held_drew (S := fun w' => w'.rangeAt ga (i * 4) (encCd z) ∧ w'.rangeAt gb (i * 4) (encCd z)) (by kernel_rfl) hS (fun hHeld => ?_)
          change wpAnyH _ _ _ _ _ _ _ _ wl.drew
          generalize wl.drew = w8 at *
          clear hS
          refine wpAnyH_take (i := 0) (oi := { dst := Option.some 87, op := Go.Op.move (Go.Operand.tmp 6), type := 51, pos := "law.go:42", after := #[], guard := Option.none }) (v := ?_) rfl (by kernel_rfl) (by kernel_rfl) (by kernel_rfl) (fun _ _ _ h => h) (Or.inl ⟨by rfl, ?_⟩) hHeld ?_
          rotate_left 1
          · intro ww hSw
            try dsimp only at hSw
            go_simp
            try with_reducible rfl
          try simp only [Act.put, List.setIfInBounds_toArray, List.set_cons_zero, List.set_cons_succ]
          refine wpAnyH_take (i := 1) (oi := { dst := Option.some 88, op := Go.Op.move (Go.Operand.tmp 12), type := 3, pos := "law.go:42", after := #[], guard := Option.none }) (v := ?_) rfl (by kernel_rfl) (by kernel_rfl) (by kernel_rfl) (fun _ _ _ h => h) (Or.inl ⟨by rfl, ?_⟩) hHeld ?_
          rotate_left 1
          · intro ww hSw
            try dsimp only at hSw
            go_simp
            try with_reducible rfl
          try simp only [Act.put, List.setIfInBounds_toArray, List.set_cons_zero, List.set_cons_succ]
          refine wpAnyH_take (i := 2) (oi := { dst := Option.some 89, op := Go.Op.indexAddr 51 (Go.Operand.tmp 87) (Go.Operand.tmp 88), type := 0, pos := "law.go:42", after := #[{ on := 0, ground := Go.Ground.data }, { on := 1, ground := Go.Ground.data }], guard := Option.none }) (v := ?_) rfl (by kernel_rfl) (by kernel_rfl) (by kernel_rfl) (fun _ _ _ h => h) (Or.inl ⟨by rfl, ?_⟩) hHeld ?_
          rotate_left 1
          · intro ww hSw
            try dsimp only at hSw
            go_simp
            try with_reducible rfl
          try simp only [Act.put, List.setIfInBounds_toArray, List.set_cons_zero, List.set_cons_succ]
          refine wpAnyH_take (i := 3) (oi := { dst := Option.some 90, op := Go.Op.load 69 (Go.Operand.tmp 89), type := 69, pos := "law.go:42", after := #[{ on := 2, ground := Go.Ground.data }], guard := Option.none }) (v := (.agg #[.int .i64 z.id, .int .i64 z.prio, .int .i64 z.dr, .int .i64 z.bdr])) rfl (by kernel_rfl) (by kernel_rfl) (by kernel_rfl) (fun _ _ _ h => h) (yieldsIf_load_mid (by rfl) 69 (.tmp 89) rfl ga (i * 4) rfl (encCd z) _ (fun _ hb => hb.1) Try.underlying69 rfl (by kernel_rfl)) hHeld ?_
          try simp only [Act.put, List.setIfInBounds_toArray, List.set_cons_zero, List.set_cons_succ]
          refine wpAnyH_take (i := 4) (oi := { dst := Option.some 91, op := Go.Op.move (Go.Operand.tmp 7), type := 51, pos := "law.go:42", after := #[], guard := Option.none }) (v := ?_) rfl (by kernel_rfl) (by kernel_rfl) (by kernel_rfl) (fun _ _ _ h => h) (Or.inl ⟨by rfl, ?_⟩) hHeld ?_
          rotate_left 1
          · intro ww hSw
            try dsimp only at hSw
            go_simp
            try with_reducible rfl
          try simp only [Act.put, List.setIfInBounds_toArray, List.set_cons_zero, List.set_cons_succ]
          refine wpAnyH_take (i := 5) (oi := { dst := Option.some 92, op := Go.Op.move (Go.Operand.tmp 12), type := 3, pos := "law.go:42", after := #[], guard := Option.none }) (v := ?_) rfl (by kernel_rfl) (by kernel_rfl) (by kernel_rfl) (fun _ _ _ h => h) (Or.inl ⟨by rfl, ?_⟩) hHeld ?_
          rotate_left 1
          · intro ww hSw
            try dsimp only at hSw
            go_simp
            try with_reducible rfl
          try simp only [Act.put, List.setIfInBounds_toArray, List.set_cons_zero, List.set_cons_succ]
          refine wpAnyH_take (i := 6) (oi := { dst := Option.some 93, op := Go.Op.indexAddr 51 (Go.Operand.tmp 91) (Go.Operand.tmp 92), type := 0, pos := "law.go:42", after := #[{ on := 4, ground := Go.Ground.data }, { on := 5, ground := Go.Ground.data }], guard := Option.none }) (v := ?_) rfl (by kernel_rfl) (by kernel_rfl) (by kernel_rfl) (fun _ _ _ h => h) (Or.inl ⟨by rfl, ?_⟩) hHeld ?_
          rotate_left 1
          · intro ww hSw
            try dsimp only at hSw
            go_simp
            try with_reducible rfl
          try simp only [Act.put, List.setIfInBounds_toArray, List.set_cons_zero, List.set_cons_succ]
          refine wpAnyH_take (i := 7) (oi := { dst := Option.some 94, op := Go.Op.load 69 (Go.Operand.tmp 93), type := 69, pos := "law.go:42", after := #[{ on := 6, ground := Go.Ground.data }], guard := Option.none }) (v := (.agg #[.int .i64 z.id, .int .i64 z.prio, .int .i64 z.dr, .int .i64 z.bdr])) rfl (by kernel_rfl) (by kernel_rfl) (by kernel_rfl) (fun _ _ _ h => h) (yieldsIf_load_mid (by rfl) 69 (.tmp 93) rfl gb (i * 4) rfl (encCd z) _ (fun _ hb => hb.2) Try.underlying69 rfl (by kernel_rfl)) hHeld ?_
          try simp only [Act.put, List.setIfInBounds_toArray, List.set_cons_zero, List.set_cons_succ]
          refine wpAnyH_take (i := 8) (oi := { dst := Option.some 95, op := Go.Op.binOp Go.BinOp.neq 69 (Go.Operand.tmp 90) (Go.Operand.tmp 94) 69, type := 4, pos := "law.go:42", after := #[{ on := 3, ground := Go.Ground.data }, { on := 7, ground := Go.Ground.data }], guard := Option.none }) (v := ?_) rfl (by kernel_rfl) (by kernel_rfl) (by kernel_rfl) (fun _ _ _ h => h) (Or.inl ⟨by rfl, ?_⟩) hHeld ?_
          rotate_left 1
          · intro ww hSw
            try dsimp only at hSw
            go_simp
            try with_reducible rfl
          try simp only [Act.put, List.setIfInBounds_toArray, List.set_cons_zero, List.set_cons_succ]
          refine wpAnyH_done (by kernel_rfl) ?_ _
          refine NoPanic.normal ?_
          clear hHeld hEQ
          go_wp2_with fail
          go_roundw
          case rel => exact ⟨i + 1, by omega, by go_num, B8⟩
          case measure => simp [intOf]; omega
        · have PL := Lib.hid (PR.out.below HL.out)
          have HI3 := Lib.hid (own_below2 HI2.out HL.out)
          have BL := Lib.hid (BR.out.trans (HL.out.mono BR.out.size))
          clear HL
          go_wp2_with fail
          refine (seen_any PL.out).mono ?_
          rintro e9 w9 ⟨⟨A9, n9, c9, rfl, ho9⟩, hb9⟩
          have HO9 := Lib.hid ho9
          have HI9 := Lib.hid (own_below2 HI3.out hb9)
          have B9 := Lib.hid (BL.out.trans (hb9.mono BL.out.size))
          have HN9 := Lib.hid (show n9 ≤ 1000 by rw [← own_len encI_len (by omega) ho9]; simp; have := HS.out.len; omega)
          clear ho9 hb9
          go_wp2_with fail
          refine (ints_ref HO9.out HI9.out HN9.out).mono ?_
          rintro e10 w10 ⟨rfl, hb10⟩
          have B10 := Lib.hid (B9.out.trans (hb10.mono B9.out.size))
          clear hb10
          go_wp2
          go_ret
          exact ⟨rfl, B10.out⟩
end Go.Proofs.Ytfapphndfgoknaa
