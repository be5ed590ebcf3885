/- The program's election. Conditions: numbers unlike, from 1 on; at most 2^20 candidates. -/
import Derived.Test.YtedlkoecnnmihaaEj
import Derived.Test.YtedlkoecnnmihaaEk
import Derived.BigQuiet
namespace Go.Proofs.Ytedlkoecnnmihaa
open Go.RowKit
theorem goP_go {L : List Cd} (ha : ApartC L) : goP L = goC L := by
  unfold goP bkP
  rw [bestP_dr ha, bestP_b ha, bestP_n ha]
  exact goP_is L
theorem CdAt.range {w : World} {B b p : Nat} {x : Cd} (h : CdAt w B b p x) : w.rangeAt b p [.int .i64 x.id, .int .i64 x.prio, .int .i64 x.dr, .int .i64 x.bdr] := fun j v hj => by
  obtain ⟨h0, h1, h2, h3⟩ := h
  match j, hj with
  | 0, hj => simp at hj; subst hj; exact h0
  | 1, hj => simp at hj; subst hj; exact h1
  | 2, hj => simp at hj; subst hj; exact h2
  | 3, hj => simp at hj; subst hj; exact h3
  | j + 4, hj => simp at hj
theorem own_frozen {w : World} {base n size b c : Nat} {t : TypeId} {xs : List Value} (h : w.ownsRow base t size (.slice (some ⟨b, 0, none⟩) n c) n xs) (i : Nat) : w.frozen? ⟨b, i, none⟩ = false := by
  rcases h.2 with ⟨hv, _⟩ | ⟨g, cap, cur, hv, hb, hg, _⟩
  · cases hv
  · injection hv with e1
    injection e1 with e1
    injection e1 with e1
    subst e1
    have hB : Blk w b t cur := hg
    exact hB.frozen i
theorem go_any {w : World} {B n c : Nat} {A : Option Addr} {L : List Cd} (hs : Cds w B A n L) (hB : B ≤ w.heap.size) (ha : ApartC L) (hn : n ≤ maxLen) :
    Calls Try.prog 26 #[.slice A n c] w fun e w' => e = .returned (.tuple #[.int .i64 (goC L).1, .int .i64 (goC L).2]) ∧ Below w.heap.size w w' := by
  rw [← goP_go ha]
  exact goP_any hs hB hn

set_option maxRecDepth 8000 in
set_option maxHeartbeats 4000000 in
theorem elect_any {w : World} {B n k : Nat} {A : Option Addr} {L : List Cd} (me : Int) (hs : Cds w B A n L) (hB : B ≤ w.heap.size) (ha : ApartC L) (hn : n ≤ 1048576) :
    Calls Try.prog 24 #[.int .i64 me, .slice A n k] w fun e w' => e = .returned (.tuple #[.int .i64 (elecC L me).1, .int .i64 (elecC L me).2]) ∧ Below w.heap.size w w' := by
  have HP := Lib.hid (hs.more hB)
  have HAP := Lib.hid ha
  have HN := Lib.hid (show n ≤ maxLen by unfold maxLen; omega)
  have HLEN := Lib.hid hs.1
  clear hs ha
  obtain ⟨rd, hrd⟩ : ∃ r, r = (elecC L me).1 := ⟨_, rfl⟩
  obtain ⟨rb, hrb⟩ : ∃ r, r = (elecC L me).2 := ⟨_, rfl⟩
  rw [← hrd, ← hrb]
  have HRD := Lib.hid hrd
  have HRB := Lib.hid hrb
  clear hrd hrb
  obtain ⟨td, htd⟩ : ∃ r, r = (goC L).1 := ⟨_, rfl⟩
  obtain ⟨tb, htb⟩ : ∃ r, r = (goC L).2 := ⟨_, rfl⟩
  have HT := Lib.hid (show goC L = (td, tb) by rw [htd, htb])
  have HGO := Lib.hid (fun (W : World) (h : Cds W W.heap.size A n L) => show Calls Try.prog 26 #[.slice A n k] W fun e w' => e = .returned (.tuple #[.int .i64 td, .int .i64 tb]) ∧ Below W.heap.size W w' by
    have := go_any (c := k) h (Nat.le_refl _) HAP.out HN.out
    rw [HT.out] at this
    exact this)
  clear htd htb
  have Q0 := Lib.hid (Blk.new w 3 #[.int .i64 me])
  have B0 := Lib.hid ((Below.refl w.heap.size w).alloc (Nat.le_refl _) (.cells #[.int .i64 me] 3))
  go_enter Try.func24, Try.ntmps24
  go_wp2_with fail
  generalize w.alloc (.cells #[.int .i64 me] 3) = w0 at *
  have hs0 := B0.out.size
  have hq0 := Q0.out.lt
  have P0 := Lib.hid ((HP.out.below B0.out).more hs0)
  refine (HGO.out _ P0.out).mono ?_
  rintro e1 w1 ⟨rfl, hb1⟩
  have B1 := Lib.hid (B0.out.trans (hb1.mono (Nat.le_of_lt hq0)))
  have Q1 := Lib.hid (Q0.out.below hb1 hq0)
  have P1 := Lib.hid ((P0.out.below hb1).more hb1.size)
  have hq1 := Q1.out.lt
  clear hb1 P0 Q0 B0 hs0 hq0
  go_wp2_with fail
  refine (index_any me Q1.out P1.out (Nat.le_refl _) HN.out).mono ?_
  rintro e2 w2 ⟨rfl, hb2⟩
  have B2 := Lib.hid (B1.out.trans (hb2.mono (Nat.le_of_lt hq1)))
  have Q2 := Lib.hid (Q1.out.below hb2 hq1)
  have P2 := Lib.hid ((P1.out.below hb2).more hb2.size)
  have hq2 := Q2.out.lt
  clear hb2 P1 Q1 B1 hq1
  by_cases hin : ∃ c ∈ L, c.id = me
  · obtain ⟨c, hc, rfl⟩ := hin
    obtain ⟨i, hi⟩ := List.getElem?_of_mem hc
    have HI := Lib.hid hi
    have hil : i < n := by have := (List.getElem?_eq_some_iff.1 hi).1; have := HLEN.out; omega
    have hpos : posC c.id L = (i : Int) := posC_at hi rfl (fun j y hj hy he => by
      have := HAP.out.at_inj hy hi he
      omega)
    rw [hpos]
    clear hpos hc hi
    have hil' : (i : Int) < n := by omega
    have d0 : decide ((i : Int) < 0) = false := by simp
    obtain ⟨b, o, x, rfl, hbb, hx, hat⟩ := Arr.at P2.out hil
    obtain rfl : c = x := by rw [HI.out] at hx; injection hx
    clear hx
    obtain ⟨y0, y1, y2, y3⟩ := hat
    have q0 : w2.cell? ⟨w.heap.size, 0, none⟩ = some (.int .i64 c.id) := Q2.out.cell 0
    go_upto_region 5 with fail
    go_cut [9] (fun s9 wx => ∃ p : Nat, s9 = .pointer (some ⟨p, 0, none⟩) ∧ Hid (Blk wx p 31 #[.int .i64 c.id, .int .i64 c.prio, .int .i64 0, .int .i64 0]) ∧ Hid (Below w2.heap.size w2 wx) ∧ w2.heap.size ≤ p)
    case first =>
      go_region
      all_goals
        go_wp2_with fail
        go_meet
        exact ⟨_, rfl, Lib.hid (Blk.new w2 31 #[.int .i64 c.id, .int .i64 c.prio, .int .i64 0, .int .i64 0]).drew, Lib.hid (below_drewN ((Below.refl w2.heap.size w2).alloc (Nat.le_refl _) (.cells #[.int .i64 c.id, .int .i64 c.prio, .int .i64 0, .int .i64 0] 31)) 1), Nat.le_refl _⟩
    case rest =>
      obtain ⟨p, rfl, KP, BC, hp2⟩ := hcut
      have B3 := Lib.hid (B2.out.trans (BC.out.mono (Nat.le_of_lt hq2)))
      have Q3 := Lib.hid (Q2.out.below BC.out hq2)
      have P3 := Lib.hid (P2.out.below BC.out)
      clear q0 y0 y1 y2 y3 B3 Q3 P3
      have hwp : w.heap.size ≤ p := by omega
      have hqc : w.heap.size < wc.heap.size := by have := BC.out.size; omega
      have q0 : wc.cell? ⟨w.heap.size, 0, none⟩ = some (.int .i64 c.id) := (Q2.out.below BC.out hq2).cell 0
      have z2 := KP.out.frozen 2
      have hpl := KP.out.lt
      obtain ⟨k0, k1, k2, k3⟩ := KP.out.four
      go_upto_if 32 with fail
      go_cut [9] (fun s9 wx => ∃ D : Int, s9 = .pointer (some ⟨p, 0, none⟩) ∧ Hid (D = if td = c.id then c.id else 0) ∧ Hid (Blk wx p 31 #[.int .i64 c.id, .int .i64 c.prio, .int .i64 D, .int .i64 0]) ∧ Hid (Below w2.heap.size w2 wx))
      case first =>
        by_cases hd : td = c.id
        · have dd : (td == c.id) = true := by simp [hd]
          have HD := Lib.hid (show c.id = if td = c.id then c.id else 0 by rw [if_pos hd])
          have K2 := Lib.hid (show Blk (wc.setCell ⟨p, 2, none⟩ (.int .i64 c.id)) p 31 #[.int .i64 c.id, .int .i64 c.prio, .int .i64 c.id, .int .i64 0] by
            have h9 := KP.out.put 2 (.int .i64 c.id)
            simp only [List.setIfInBounds_toArray, List.set_cons_zero, List.set_cons_succ] at h9
            exact h9)
          have B4 := Lib.hid (BC.out.setCell (p := ⟨p, 2, none⟩) hp2 (.int .i64 c.id))
          clear hd
          go_wp2_with fail
          go_meet
          exact ⟨c.id, rfl, HD, K2, B4⟩
        · have dd : (td == c.id) = false := by simp [hd]
          have HD := Lib.hid (show (0 : Int) = if td = c.id then c.id else 0 by rw [if_neg hd])
          clear hd
          go_wp2_with fail
          go_meet
          exact ⟨0, rfl, HD, KP, BC⟩
      case rest =>
      clear q0 k0 k1 k2 k3 z2 KP hpl hqc
      have HBC0 := BC
      clear BC
      obtain ⟨D, rfl, HD, KP, BC⟩ := hcut
      clear HBC0
      generalize hw5 : wc = w5 at *
      clear hw5
      have q0 : w5.cell? ⟨w.heap.size, 0, none⟩ = some (.int .i64 c.id) := (Q2.out.below BC.out hq2).cell 0
      have hqc : w.heap.size < w5.heap.size := by have := BC.out.size; omega
      have z3 := KP.out.frozen 3
      have hpl := KP.out.lt
      obtain ⟨k0, k1, k2, k3⟩ := KP.out.four
      go_upto_if 37 with fail
      go_cut [9] (fun s9 wx => ∃ E : Int, s9 = .pointer (some ⟨p, 0, none⟩) ∧ Hid (E = if tb = c.id then c.id else 0) ∧ Hid (Blk wx p 31 #[.int .i64 c.id, .int .i64 c.prio, .int .i64 D, .int .i64 E]) ∧ Hid (Below w2.heap.size w2 wx))
      case first =>
        by_cases hd : tb = c.id
        · have dd : (tb == c.id) = true := by simp [hd]
          have HE := Lib.hid (show c.id = if tb = c.id then c.id else 0 by rw [if_pos hd])
          have K2 := Lib.hid (show Blk (w5.setCell ⟨p, 3, none⟩ (.int .i64 c.id)) p 31 #[.int .i64 c.id, .int .i64 c.prio, .int .i64 D, .int .i64 c.id] by
            have h9 := KP.out.put 3 (.int .i64 c.id)
            simp only [List.setIfInBounds_toArray, List.set_cons_zero, List.set_cons_succ] at h9
            exact h9)
          have B4 := Lib.hid (BC.out.setCell (p := ⟨p, 3, none⟩) hp2 (.int .i64 c.id))
          clear hd
          go_wp2_with fail
          go_meet
          exact ⟨c.id, rfl, HE, K2, B4⟩
        · have dd : (tb == c.id) = false := by simp [hd]
          have HE := Lib.hid (show (0 : Int) = if tb = c.id then c.id else 0 by rw [if_neg hd])
          clear hd
          go_wp2_with fail
          go_meet
          exact ⟨0, rfl, HE, KP, BC⟩
      case rest =>
      clear q0 k0 k1 k2 k3 z3 KP hpl hqc BC
      obtain ⟨E, rfl, HE, KP, BC⟩ := hcut
      generalize wc = w6 at *
      have hpl := KP.out.lt
      have P6 := Lib.hid ((P2.out.below BC.out).more BC.out.size)
      have B6 := Lib.hid (B2.out.trans (BC.out.mono (Nat.le_of_lt hq2)))
      have CA := Lib.hid (show CdAt w6 w6.heap.size b (o + i * 4) c by
        obtain ⟨b', o', x, e1, _, hx, hat⟩ := Arr.at P6.out hil
        injection e1 with e1
        injection e1 with e1 e2
        subst e1 e2
        rw [HI.out] at hx
        injection hx with hx
        rw [hx]
        exact hat)
      have hb6 : b < w6.heap.size := by have := BC.out.size; omega
      have hs6 := B6.out.size
      clear P2 B2 BC Q2 hbb hp2
      generalize hvv : (((D == c.id) == (c.dr == c.id)) && ((E == c.id) == (c.bdr == c.id))) = vv
      have HVV := Lib.hid hvv
      clear hvv
      have BRd : Below w6.heap.size w6 w6.drew := below_drewN (Below.refl _ _) 1

      go_upto_region 10 with fail
      refine wp_region_noPanic ?_
      refine wp_region_held_drew (S := fun w' => Below w6.heap.size w6 w') (by kernel_rfl) BRd (fun hHeld => ?_)
      refine wpAnyH_take (i := 0) (oi := { dst := Option.some 40, op := Go.Op.load 31 (Go.Operand.tmp 9), type := 31, pos := "elect.go:34", after := #[], guard := Option.none }) (v := .agg #[.int .i64 c.id, .int .i64 c.prio, .int .i64 D, .int .i64 E]) rfl (by kernel_rfl) (by kernel_rfl) (by kernel_rfl) (fun _ _ _ h => h) (yieldsIf_load_mid (by rfl) 31 (.tmp 9) rfl p 0 rfl [.int .i64 c.id, .int .i64 c.prio, .int .i64 D, .int .i64 E] _ (fun _ hb => (KP.out.below hb hpl).range) Try.underlying31 rfl (by kernel_rfl)) hHeld ?_
      try simp only [Act.put, List.setIfInBounds_toArray, List.set_cons_zero, List.set_cons_succ]
      refine wpAnyH_take (i := 1) (oi := { dst := Option.some 41, op := Go.Op.move (Go.Operand.tmp 1), type := 24, pos := "elect.go:34", after := #[], guard := Option.none }) (v := ?_) rfl (by kernel_rfl) (by kernel_rfl) (by kernel_rfl) (fun _ _ _ h => h) (Or.inl ⟨by rfl, ?_⟩) hHeld ?_
      rotate_left 1
      · intro ww hSw
        try dsimp only at hSw
        go_simp
        try with_reducible rfl
      try simp only [Act.put, List.setIfInBounds_toArray, List.set_cons_zero, List.set_cons_succ]
      refine wpAnyH_take (i := 2) (oi := { dst := Option.some 42, op := Go.Op.move (Go.Operand.tmp 8), type := 3, pos := "elect.go:34", after := #[], guard := Option.none }) (v := ?_) rfl (by kernel_rfl) (by kernel_rfl) (by kernel_rfl) (fun _ _ _ h => h) (Or.inl ⟨by rfl, ?_⟩) hHeld ?_
      rotate_left 1
      · intro ww hSw
        try dsimp only at hSw
        go_simp
        try with_reducible rfl
      try simp only [Act.put, List.setIfInBounds_toArray, List.set_cons_zero, List.set_cons_succ]
      refine wpAnyH_take (i := 3) (oi := { dst := Option.some 43, op := Go.Op.indexAddr 24 (Go.Operand.tmp 41) (Go.Operand.tmp 42), type := 0, pos := "elect.go:34", after := #[{ on := 1, ground := Go.Ground.data }, { on := 2, ground := Go.Ground.data }], guard := Option.none }) (v := ?_) rfl (by kernel_rfl) (by kernel_rfl) (by kernel_rfl) (fun _ _ _ h => h) (Or.inl ⟨by rfl, ?_⟩) hHeld ?_
      rotate_left 1
      · intro ww hSw
        try dsimp only at hSw
        go_simp
        try with_reducible rfl
      try simp only [Act.put, List.setIfInBounds_toArray, List.set_cons_zero, List.set_cons_succ]
      refine wpAnyH_take (i := 4) (oi := { dst := Option.some 44, op := Go.Op.load 31 (Go.Operand.tmp 43), type := 31, pos := "elect.go:34", after := #[{ on := 3, ground := Go.Ground.data }], guard := Option.none }) (v := .agg #[.int .i64 c.id, .int .i64 c.prio, .int .i64 c.dr, .int .i64 c.bdr]) rfl (by kernel_rfl) (by kernel_rfl) (by kernel_rfl) (fun _ _ _ h => h) (yieldsIf_load_mid (by rfl) 31 (.tmp 43) rfl b (o + i * 4) rfl [.int .i64 c.id, .int .i64 c.prio, .int .i64 c.dr, .int .i64 c.bdr] _ (fun _ hb => (CA.out.move (B' := 0) (fun _ hq => hb.cell hq) hb6).range) Try.underlying31 rfl (by kernel_rfl)) hHeld ?_
      try simp only [Act.put, List.setIfInBounds_toArray, List.set_cons_zero, List.set_cons_succ]
      refine wpAnyH_ready (rs := [5]) (by kernel_rfl) (by simp) ?_
      refine AllReadyH.cons (o := { dst := Option.some 45, op := Go.Op.call { callee := Go.Callee.value (Go.Operand.func 29), args := #[Go.Operand.tmp 40, Go.Operand.tmp 44], argTypes := #[31, 31] }, type := 4, pos := "elect.go:34", after := #[{ on := 0, ground := Go.Ground.data }, { on := 4, ground := Go.Ground.data }], guard := Option.none }) rfl (fun K hK => ?_) AllReadyH.nil
      go_simp
      refine (alike_any ⟨c.id, c.prio, D, E⟩ c _).mono ?_
      rintro e7 w7 ⟨rfl, hb7⟩
      rw [HVV.out]
      have hC7 := BRd.trans (hb7.mono BRd.size)
      clear hb7 hHeld
      refine hK.out _ _ hC7 (fun hHeld => ?_)
      clear hK K
      try simp only [Act.put, List.setIfInBounds_toArray, List.set_cons_zero, List.set_cons_succ]
      refine wpAnyH_done (by kernel_rfl) ?_ _
      refine NoPanic.normal ?_

      have B7 := Lib.hid (B6.out.trans (hC7.mono hs6))
      have K7 := Lib.hid (KP.out.below hC7 hpl)
      have P7 := Lib.hid ((P6.out.below hC7).more hC7.size)
      have hpl7 := K7.out.lt
      clear hC7 hHeld BRd KP P6 B6 CA hpl hb6 hs6 HGO
      have HCM := Lib.hid (List.mem_of_getElem? HI.out)
      cases vv
      · have HEL := Lib.hid (show elecC L c.id = goC (L.set i ⟨c.id, c.prio, D, E⟩) by
          rw [HD.out, HE.out]
          exact elec_turns HAP.out HI.out HT.out (by rw [← HD.out, ← HE.out]; exact HVV.out))
        clear HVV
        go_wp2_with fail
        refine (clone_any P7.out (Nat.le_refl _) hn).mono ?_
        rintro e8 w8 ⟨A8, c8, rfl, ho8, hb8⟩
        obtain ⟨g, rfl, hg8, hgl, hnc, hcm, y0, y1, y2, y3⟩ := own_cd ho8 HI.out
        unfold maxLen at hcm
        have B8 := Lib.hid (B7.out.trans (hb8.mono B7.out.size))
        have K8 := Lib.hid (K7.out.below hb8 hpl7)
        have O8 := Lib.hid ho8
        have hpl8 := K8.out.lt
        have hgp : p ≠ g := by omega
        have hwg : w.heap.size ≤ g := by have := B7.out.size; omega
        have z0 := own_frozen ho8 (i * 4)
        have z1 := own_frozen ho8 (i * 4 + 1)
        have z2 := own_frozen ho8 (i * 4 + 2)
        have z3 := own_frozen ho8 (i * 4 + 3)
        obtain ⟨k0, k1, k2, k3⟩ := K8.out.four
        have O9 := Lib.hid (own_put4 ho8 (j := i) (by have := HLEN.out; omega) ⟨c.id, c.prio, D, E⟩)
        have B9 := Lib.hid ((((B8.out.setCell (p := ⟨g, i * 4, none⟩) hwg (.int .i64 c.id)).setCell (p := ⟨g, i * 4 + 1, none⟩) hwg (.int .i64 c.prio)).setCell (p := ⟨g, i * 4 + 2, none⟩) hwg (.int .i64 D)).setCell (p := ⟨g, i * 4 + 3, none⟩) hwg (.int .i64 E))
        clear ho8 hb8 B7 K7 P7 hpl7
        go_wp2_with fail
        generalize (((w8.setCell ⟨g, i * 4, none⟩ (.int .i64 c.id)).setCell ⟨g, i * 4 + 1, none⟩ (.int .i64 c.prio)).setCell ⟨g, i * 4 + 2, none⟩ (.int .i64 D)).setCell ⟨g, i * 4 + 3, none⟩ (.int .i64 E) = w9 at *
        clear k0 k1 k2 k3 y0 y1 y2 y3 z0 z1 z2 z3 O8 K8 B8
        refine (go_any (own_cds O9.out) (Nat.le_refl _) (HAP.out.keys (set_keys HI.out rfl)) HN.out).mono ?_
        rintro e10 w10 ⟨rfl, hb10⟩
        rw [← HEL.out, ← HRD.out, ← HRB.out]
        have B10 := Lib.hid (B9.out.trans (hb10.mono B9.out.size))
        clear hb10
        go_wp2
        refine bodyPost_ret (v := .tuple #[.int .i64 rd, .int .i64 rb]) (by simp [results, Try.results24, go_sem, *]) rfl ?_
        exact ⟨rfl, B10.out⟩
      · have HEL := Lib.hid (show elecC L c.id = (td, tb) from elec_still HAP.out HCM.out HT.out (by rw [← HD.out, ← HE.out]; exact HVV.out))
        rw [HEL.out] at HRD HRB
        clear HVV
        go_wp2
        refine bodyPost_ret (v := .tuple #[.int .i64 rd, .int .i64 rb]) (by rw [HRD.out, HRB.out]; simp [results, Try.results24, go_sem, *]) rfl ?_
        exact ⟨rfl, B7.out⟩
  · have HNI := Lib.hid (show elecC L me = (td, tb) by rw [← HT.out]; exact elecC_out fun c hc e => hin ⟨c, hc, e⟩)
    have hpos : posC me L = -1 := posC_no fun c hc e => hin ⟨c, hc, e⟩
    rw [hpos]
    rw [HNI.out] at HRD HRB
    clear hpos hin
    go_wp2
    refine bodyPost_ret (v := .tuple #[.int .i64 rd, .int .i64 rb]) (by rw [HRD.out, HRB.out]; simp [results, Try.results24, go_sem, *]) rfl ?_
    exact ⟨rfl, B2.out⟩

end Go.Proofs.Ytedlkoecnnmihaa
