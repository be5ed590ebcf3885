/- Hear of the reference, not agreed on. Conditions: as for Hear of the reference. · Hear of the reference, not agreed on. Conditions: as for Hear of the reference. · Hear of the reference, agreed on. Conditions: as for Hear of the reference. -/
import Derived.Test.YtfdfdmbnggpnbaaVau
namespace Go.Proofs.Ytfdfdmbnggpnbaa
open Go.RowKit Go.Lib Go.Sort Go.Deep
set_option linter.unusedVariables false

set_option maxRecDepth 8000 in
set_option maxHeartbeats 8000000 in
theorem rhear_follow {w : World} {F : Nat → Prop} {p at' : Nat} {x : Ex} (pq : Int) {Ah : Option Addr} {ch : Nat} {A : Option Addr} {n c B : Nat} {S : List La} {K : List Hd} (hx : RexAt w F p x at')
    (hS : Las w B A n S) (hBw : B ≤ w.heap.size) (hFB : ∀ q, F q → B ≤ q) (hn : n ≤ 100) (hK : Told S K) (hat : at' ≤ 900)
    (hns : 0 ≤ pq ∧ pq < 4294967296) (hag : x.agreed = false) (ho : x.self < x.other) :
    Calls Try.prog 31 #[.pointer (some ⟨p, 0, none⟩), .agg #[.bool true, .bool true, .bool true, .int .i64 pq, .slice Ah 0 ch], .slice A n c] w (RhearQ F p at' (hearE x ⟨true, true, true, pq⟩ 0 K) w) := by
  generalize hQ : RhearQ F p at' (hearE x ⟨true, true, true, pq⟩ 0 K) w = Q
  have HQ := Lib.hid hQ
  have HFW := Lib.hid hx.bound
  have HFB := Lib.hid hFB
  have HS := Lib.hid hS
  have HK := Lib.hid hK
  have HBW := Lib.hid hBw
  have B0 := Lib.hid ((Below.refl w.heap.size w).alloc (Nat.le_refl _) (.cells #[.bool true, .bool true, .bool true, .int .i64 pq, .slice Ah 0 ch] 53))
  have N0 := Lib.hid (Blk.new w 53 #[.bool true, .bool true, .bool true, .int .i64 pq, .slice Ah 0 ch])
  have X0 := Lib.hid (hx.below B0.out)
  clear hQ hFB hS hK hBw hx
  obtain ⟨n0, n1, n2, n3, n4⟩ := N0.out.five
  have hnl := N0.out.lt
  obtain rfl : at' = 0 := X0.out.new hag
  obtain ⟨hs0, hs1⟩ := hns
  have hok : okSeq pq = true := (okSeq_iff _).2 ⟨hs0, hs1⟩
  have d0 : decide (pq < 0) = false := decide_eq_false (by omega)
  have d1 : decide (4294967296 ≤ pq) = false := decide_eq_false (by omega)
  obtain ⟨AL, nL, cL, AS, nS, cS, AP, nP, cP, hbk, -, -⟩ := X0.out.mem
  have hpl := hbk.lt
  have HPZ := Lib.hid (X0.out.fp)
  have HPW := Lib.hid (HFW.out p X0.out.fp)
  have k0 : (w.alloc (.cells #[.bool true, .bool true, .bool true, .int .i64 pq, .slice Ah 0 ch] 53)).cell? ⟨p, 0, none⟩ = some (.int .i64 x.self) := hbk.cell 0
  have k1 : (w.alloc (.cells #[.bool true, .bool true, .bool true, .int .i64 pq, .slice Ah 0 ch] 53)).cell? ⟨p, 1, none⟩ = some (.int .i64 x.other) := hbk.cell 1
  have k2 : (w.alloc (.cells #[.bool true, .bool true, .bool true, .int .i64 pq, .slice Ah 0 ch] 53)).cell? ⟨p, 2, none⟩ = some (.int .i64 x.seq) := hbk.cell 2
  have k3 : (w.alloc (.cells #[.bool true, .bool true, .bool true, .int .i64 pq, .slice Ah 0 ch] 53)).cell? ⟨p, 3, none⟩ = some (.bool x.agreed) := hbk.cell 3
  rw [hag] at k3
  have KB := Lib.hid hbk
  have OK := Lib.hid X0.out.ok
  clear hbk X0
  have d5 : decide (x.self < x.other) = true := decide_eq_true ho
  have d6 : decide (x.other < x.self) = false := decide_eq_false (by omega)
  have HE := Lib.hid (show hearE x ⟨true, true, true, pq⟩ 0 K = (2, beginE x ⟨true, true, true, pq⟩ K) by
    unfold hearE
    rw [if_neg (by rw [hok]; decide), if_pos hag, if_pos (by unfold agreesE; rw [if_pos ho]; rfl)])
  have BEG := Lib.hid (show beginE x ⟨true, true, true, pq⟩ K = sayE (takeE { x with agreed := true, leads := false, K := K } ⟨true, true, true, pq⟩) by
    unfold beginE
    rw [d6])
  go_enter Try.func31, Try.ntmps31
  go_wp2_with fail
  go_quiet (first | (go_at_call 59; with_reducible exact top_quiet _ _))
  revert nq
  intro q1
  go_wp2_with fail
  go_quiet (fail)
  revert nq
  intro q2
  go_wp2_with fail
  go_quiet (fail)
  revert nq
  intro q3
  simp only [World.drewN_drewN]
  have K3 := Lib.hid (show Blk ((w.alloc (.cells #[.bool true, .bool true, .bool true, .int .i64 pq, .slice Ah 0 ch] 53)).drewN (q1 + q2 + q3)) p 111 (rexC x 0 AL nL cL AS nS cS AP nP cP) from KB.out)
  have N3 := Lib.hid (show Blk ((w.alloc (.cells #[.bool true, .bool true, .bool true, .int .i64 pq, .slice Ah 0 ch] 53)).drewN (q1 + q2 + q3)) w.heap.size 53 #[.bool true, .bool true, .bool true, .int .i64 pq, .slice Ah 0 ch] from N0.out)
  have B3 := Lib.hid (show Below w.heap.size w ((w.alloc (.cells #[.bool true, .bool true, .bool true, .int .i64 pq, .slice Ah 0 ch] 53)).drewN (q1 + q2 + q3)) from belowD B0.out)
  clear n0 n1 n2 n3 n4 hnl k0 k1 k2 k3 hpl KB B0 N0
  generalize (w.alloc (.cells #[.bool true, .bool true, .bool true, .int .i64 pq, .slice Ah 0 ch] 53)).drewN (q1 + q2 + q3) = w3 at *
  clear q1 q2 q3
  obtain ⟨z, hz⟩ : ∃ z, w.heap.size = z := ⟨_, rfl⟩
  rw [hz] at N3 HPW ⊢
  have HZ := Lib.hid hz
  clear hz
  have hpz : p < z := HPW.out
  have hpl := K3.out.lt
  have hzl := N3.out.lt
  have c3 : w3.cell? ⟨p, 3, none⟩ = some (.bool x.agreed) := K3.out.cell 3
  have f3 := K3.out.frozen 3
  have Ka := Lib.hid (K3.out.put 3 (.bool true))
  have Na := Lib.hid (N3.out.far (p := ⟨p, 3, none⟩) (by simp; omega) (.bool true))
  have a4 : (w3.setCell ⟨p, 3, none⟩ (.bool true)).cell? ⟨p, 4, none⟩ = some (.bool x.leads) := Ka.out.cell 4
  have af4 := Ka.out.frozen 4
  have Kb := Lib.hid (Ka.out.put 4 (.bool false))
  have Nb := Lib.hid (Na.out.far (p := ⟨p, 4, none⟩) (by simp; omega) (.bool false))
  have b3 : ((w3.setCell ⟨p, 3, none⟩ (.bool true)).setCell ⟨p, 4, none⟩ (.bool false)).cell? ⟨z, 3, none⟩ = some (.int .i64 pq) := Nb.out.cell 3
  have b2 : ((w3.setCell ⟨p, 3, none⟩ (.bool true)).setCell ⟨p, 4, none⟩ (.bool false)).cell? ⟨p, 2, none⟩ = some (.int .i64 x.seq) := Kb.out.cell 2
  have bf2 := Kb.out.frozen 2
  have Kc := Lib.hid (show Blk (((w3.setCell ⟨p, 3, none⟩ (.bool true)).setCell ⟨p, 4, none⟩ (.bool false)).setCell ⟨p, 2, none⟩ (.int .i64 pq)) p 111 (rexC { x with agreed := true, leads := false, seq := pq } 0 AL nL cL AS nS cS AP nP cP) from Kb.out.put 2 (.int .i64 pq))
  have Nc := Lib.hid (Nb.out.far (p := ⟨p, 2, none⟩) (by simp; omega) (.int .i64 pq))
  have Cc := Lib.hid (((Chg.of_below (F := F) (w := w) (w' := w3) B3.out).trans (chg_put (F := F) (a := ⟨p, 3, none⟩) w3 (.bool true) HPZ.out) (fun q hq => .inl hq)).trans (chg_put (F := F) (a := ⟨p, 4, none⟩) _ (.bool false) HPZ.out) (fun q hq => .inl hq) |>.trans (chg_put (F := F) (a := ⟨p, 2, none⟩) _ (.int .i64 pq) HPZ.out) (fun q hq => .inl hq))
  go_wp2_with fail
  clear c3 f3 a4 af4 b3 b2 bf2 hpl hzl K3 N3 Ka Na Kb Nb B3
  generalize ((w3.setCell ⟨p, 3, none⟩ (.bool true)).setCell ⟨p, 4, none⟩ (.bool false)).setCell ⟨p, 2, none⟩ (.int .i64 pq) = w4 at *
  clear w3
  have B6 := Lib.hid (Cc.out.to_below HFB.out HBW.out)
  have hz6 := Cc.out.size
  refine (heads_any (HS.out.below B6.out) (Nat.le_trans HBW.out hz6) hn).mono ?_
  rintro e7 w7 ⟨A7, n7, c7, K', rfl, hb7, hO7, hOrd, hStab⟩
  have hKK : K' = K := (stab_unique swo_less HK.out.1 hOrd (HK.out.2.symm.trans hStab)).symm
  subst hKK
  have hl7 := own_lenH encHd_len (by omega) hO7
  have hln : K'.length ≤ 100 := by
    have h1 := told_len HK.out
    have h2 := HS.out.1
    omega
  have Kf := Lib.hid (Kc.out.below hb7 Kc.out.lt)
  have Nf := Lib.hid (Nc.out.below hb7 Nc.out.lt)
  have Cf := Lib.hid (Cc.out.trans (Chg.of_below (F := F) hb7) (fun q hq => .inl hq))
  have H7 := Lib.hid (own_hds hO7)
  clear hb7 hO7 hOrd hStab Kc Nc Cc B6
  go_wp2_with fail
  refine (lay_any H7.out (Nat.le_refl _) (by omega)).mono ?_
  rintro e8 w8 ⟨A8, n8, c8, vs, rfl, hb8, hO8, hcn, hpc⟩
  have Kg := Lib.hid (Kf.out.below hb8 Kf.out.lt)
  have Ng := Lib.hid (Nf.out.below hb8 Nf.out.lt)
  have Cg := Lib.hid (Cf.out.trans (Chg.of_below (F := F) hb8) (fun q hq => .inl hq))
  have hz78 : z < w7.heap.size := Nf.out.lt
  have hs7 := Cf.out.size
  have hs8 := hb8.size
  have LA := Lib.hid (show LaidAt w8 (fun q => z < q ∧ q < w8.heap.size) A8 n8 c8 0 K' from ⟨K', vs, own_base hO8 (Nat.zero_le _), fun g hg => ⟨Nat.lt_of_lt_of_le hz78 (own_base_le hO8 hg), own_ltF hO8 hg⟩, hcn, hpc.move (fun _ _ _ => rfl) (Nat.le_refl _) (fun q hq hl => ⟨Nat.lt_of_lt_of_le hz78 hq.1, hl⟩), (left_zero K').symm, by omega⟩)
  clear hb8 hO8 hcn hpc H7 Kf Nf Cf
  have hpl := Kg.out.lt
  have c16 : w8.cell? ⟨p, 16, none⟩ = some (.slice AP nP cP) := Kg.out.cell 16
  have f16 := Kg.out.frozen 16
  have Kh := Lib.hid (show Blk (w8.setCell ⟨p, 16, none⟩ (.slice A8 n8 c8)) p 111 (rexC { x with agreed := true, leads := false, seq := pq, K := K' } 0 AL nL cL AS nS cS A8 n8 c8) from Kg.out.put 16 (.slice A8 n8 c8))
  have Nh := Lib.hid (Ng.out.far (p := ⟨p, 16, none⟩) (by simp; omega) (.slice A8 n8 c8))
  have Ch := Lib.hid (Cg.out.trans (chg_put (F := F) (a := ⟨p, 16, none⟩) w8 (.slice A8 n8 c8) HPZ.out) (fun q hq => .inl hq))
  have LB := Lib.hid (LA.out.move (w' := w8.setCell ⟨p, 16, none⟩ (.slice A8 n8 c8)) (F' := fun q => z < q ∧ q < w8.heap.size) (fun q hq _ => Below.heap_setCell _ _ _ _ (by show q ≠ p; omega)) (by simp) (fun q hq _ => hq))
  have RH := Lib.hid (show (w8.setCell ⟨p, 16, none⟩ (.slice A8 n8 c8)).rangeAt z 0 [.bool true, .bool true, .bool true, .int .i64 pq, .slice Ah 0 ch] from fun j v hv => by
    rw [Nat.zero_add, Nh.out.cell, ← hv]
    simp)
  go_wp2_with (first | (refine wpList_load_row 53 _ _ (by rfl) (.tmp 4) rfl (by rfl) RH.out Try.underlying53 rfl (by kernel_rfl) ?_) | (refine wpList_store_rlast (i := true) (m := true) (s := true) (q := pq) (A := Ah) (n := 0) (c := ch) rfl (.tmp 115) (.tmp 113) rfl rfl rfl Kh.out ?_; intro w9 HK9 HC9))
  have K9 := Lib.hid (show Blk w9 p 111 (rexC (takeE { x with agreed := true, leads := false, K := K' } ⟨true, true, true, pq⟩) 0 Ah 0 ch AS nS cS A8 n8 c8) from HK9.out)
  have C9 := Lib.hid (Ch.out.trans (HC9.out.wide (F' := F) (fun q hq => by rw [hq]; exact HPZ.out)) (fun q hq => .inl hq))
  have L9 := Lib.hid (LB.out.move (w' := w9) (F' := fun q => z < q ∧ q < w8.heap.size) (fun q hq hl => HC9.out.block q hl (by show q ≠ p; omega)) HC9.out.size (fun q hq _ => hq))
  have hs9 := HC9.out.size
  have hs98 : w8.heap.size ≤ w9.heap.size := by simpa using hs9
  clear hpl c16 f16 Kh Nh Ch LA LB RH HK9 HC9 Kg Ng Cg
  refine (rsay_any K9.out L9.out (fun q hq => by omega) (by omega)).mono ?_
  rintro e10 w10 ⟨A10, n10, c10, rfl, hb10, hh10, hc10⟩
  go_wp2
  show Q (.returned (.int .i64 2)) _
  rw [← HQ.out, HE.out]
  have hs10 := hc10.size
  have hzw := HZ.out
  refine ⟨rfl, ⟨0, by omega, ?_⟩, C9.out.trans (hc10.wide (F' := F) (fun q hq => by rw [hq]; exact HPZ.out)) (fun q hq => .inl hq)⟩
  refine ⟨OK.out.begin hok (by omega), .inl HPZ.out, fun q hq => ?_, (fun h => by cases h), Ah, 0, ch, A10, n10, c10, A8, n8, c8, ?_, ?_, fun _ => ?_⟩
  · rcases hq with hq | hq
    · have := HFW.out q hq
      have := C9.out.size
      omega
    · exact hq.2
  · rw [BEG.out]
    exact hb10
  · rw [BEG.out]
    exact hh10.move (fun _ _ _ => rfl) (Nat.le_refl _) (fun q hq _ => ⟨.inr (by omega), by omega⟩)
  · rw [BEG.out]
    exact L9.out.move (fun q hq hl => hc10.block q hl (by show q ≠ p; omega)) hs10 (fun q hq _ => ⟨.inr (by omega), by omega⟩)
end Go.Proofs.Ytfdfdmbnggpnbaa
namespace Go.Proofs.Ytfdfdmbnggpnbaa
open Go.RowKit Go.Lib Go.Sort Go.Deep
set_option linter.unusedVariables false

set_option maxRecDepth 8000 in
set_option maxHeartbeats 8000000 in
theorem rhear_new {w : World} {F : Nat → Prop} {p at' : Nat} {x : Ex} (pc : Pc) {Ah : Option Addr} {nh ch : Nat} {A : Option Addr} {n c B : Nat} {S : List La} {K : List Hd} (hx : RexAt w F p x at')
    (hS : Las w B A n S) (hBw : B ≤ w.heap.size) (hFB : ∀ q, F q → B ≤ q) (hn : n ≤ 100) (hK : Told S K) (hat : at' ≤ 900)
    (hns : 0 ≤ pc.seq ∧ pc.seq < 4294967296) (hag : x.agreed = false) :
    Calls Try.prog 31 #[.pointer (some ⟨p, 0, none⟩), .agg #[.bool pc.init, .bool pc.more, .bool pc.master, .int .i64 pc.seq, .slice Ah nh ch], .slice A n c] w (RhearQ F p at' (hearE x pc nh K) w) := by
  by_cases hb1 : pc.init = false ∧ pc.master = false ∧ pc.seq = x.seq ∧ x.other < x.self
  · obtain ⟨h1, h2, h3, h4⟩ := hb1
    have := rhear_lead pc.more pc.seq (Ah := Ah) (nh := nh) (ch := ch) (c := c) hx hS hBw hFB hn hK hat hns hag h3 h4
    rw [show (⟨false, pc.more, false, pc.seq⟩ : Pc) = pc by obtain ⟨a, b, c, d⟩ := pc; simp_all] at this
    rw [h1, h2]
    exact this
  by_cases hb2 : pc.init = true ∧ pc.more = true ∧ pc.master = true ∧ nh = 0 ∧ x.self < x.other
  · obtain ⟨h1, h2, h3, h4, h5⟩ := hb2
    subst h4
    have := rhear_follow pc.seq (Ah := Ah) (ch := ch) (c := c) hx hS hBw hFB hn hK hat hns hag h5
    rw [show (⟨true, true, true, pc.seq⟩ : Pc) = pc by obtain ⟨a, b, c, d⟩ := pc; simp_all] at this
    rw [h1, h2, h3]
    exact this
  generalize hQ : RhearQ F p at' (hearE x pc nh K) w = Q
  have HQ := Lib.hid hQ
  have HFW := Lib.hid hx.bound
  have HFB := Lib.hid hFB
  have HS := Lib.hid hS
  have HK := Lib.hid hK
  have HBW := Lib.hid hBw
  have B0 := Lib.hid ((Below.refl w.heap.size w).alloc (Nat.le_refl _) (.cells #[.bool pc.init, .bool pc.more, .bool pc.master, .int .i64 pc.seq, .slice Ah nh ch] 53))
  have N0 := Lib.hid (Blk.new w 53 #[.bool pc.init, .bool pc.more, .bool pc.master, .int .i64 pc.seq, .slice Ah nh ch])
  have X0 := Lib.hid (hx.below B0.out)
  clear hQ hFB hS hK hBw hx
  obtain ⟨n0, n1, n2, n3, n4⟩ := N0.out.five
  have hnl := N0.out.lt
  obtain ⟨hs0, hs1⟩ := hns
  have hok : okSeq pc.seq = true := (okSeq_iff _).2 ⟨hs0, hs1⟩
  have d0 : decide (pc.seq < 0) = false := decide_eq_false (by omega)
  have d1 : decide (4294967296 ≤ pc.seq) = false := decide_eq_false (by omega)
  obtain ⟨AL, nL, cL, AS, nS, cS, AP, nP, cP, hbk, -, -⟩ := X0.out.mem
  have hpl := hbk.lt
  have k0 : (w.alloc (.cells #[.bool pc.init, .bool pc.more, .bool pc.master, .int .i64 pc.seq, .slice Ah nh ch] 53)).cell? ⟨p, 0, none⟩ = some (.int .i64 x.self) := hbk.cell 0
  have k1 : (w.alloc (.cells #[.bool pc.init, .bool pc.more, .bool pc.master, .int .i64 pc.seq, .slice Ah nh ch] 53)).cell? ⟨p, 1, none⟩ = some (.int .i64 x.other) := hbk.cell 1
  have k2 : (w.alloc (.cells #[.bool pc.init, .bool pc.more, .bool pc.master, .int .i64 pc.seq, .slice Ah nh ch] 53)).cell? ⟨p, 2, none⟩ = some (.int .i64 x.seq) := hbk.cell 2
  have k3 : (w.alloc (.cells #[.bool pc.init, .bool pc.more, .bool pc.master, .int .i64 pc.seq, .slice Ah nh ch] 53)).cell? ⟨p, 3, none⟩ = some (.bool x.agreed) := hbk.cell 3
  rw [hag] at k3
  have hok' := Lib.hid hok
  obtain ⟨pi, pm, ps, pq⟩ := pc
  dsimp only at *
  cases pi
  · cases ps
    · by_cases hq : pq = x.seq
      · have d4 : (pq == x.seq) = true := by simpa using hq
        by_cases ho : x.other < x.self
        · exact absurd ⟨rfl, rfl, hq, ho⟩ hb1
        · have d5 : decide (x.other < x.self) = false := decide_eq_false ho
          have HE := Lib.hid (show hearE x ⟨false, pm, false, pq⟩ nh K = (0, x) by
            unfold hearE
            rw [if_neg (by rw [hok]; decide), if_pos hag]
            unfold agreesE
            rw [d5]; split <;> simp)
          try clear hq
          try clear hh
          try clear ho
          go_enter Try.func31, Try.ntmps31
          go_wp2_with fail
          go_quiet (first | (go_at_call 59; with_reducible exact top_quiet _ _))
          go_wp2_with fail
          go_quiet (fail)
          go_wp2_with fail
          go_quiet (fail)
          go_wp2
          show Q (.returned (.int .i64 0)) _
          rw [← HQ.out, HE.out]
          exact rhear_stay (X0.out.move (fun _ _ _ => rfl) (Nat.le_refl _)) HFW.out (by repeat (first | exact B0.out | refine belowD ?_))
      · have d4 : (pq == x.seq) = false := by simpa using hq
        have HE := Lib.hid (show hearE x ⟨false, pm, false, pq⟩ nh K = (0, x) by
          unfold hearE
          rw [if_neg (by rw [hok]; decide), if_pos hag]
          unfold agreesE
          split <;> simp [hq])
        try clear hq
        try clear hh
        try clear ho
        go_enter Try.func31, Try.ntmps31
        go_wp2_with fail
        go_quiet (first | (go_at_call 59; with_reducible exact top_quiet _ _))
        go_wp2_with fail
        go_quiet (fail)
        go_wp2_with fail
        go_quiet (fail)
        go_wp2
        show Q (.returned (.int .i64 0)) _
        rw [← HQ.out, HE.out]
        exact rhear_stay (X0.out.move (fun _ _ _ => rfl) (Nat.le_refl _)) HFW.out (by repeat (first | exact B0.out | refine belowD ?_))
    · have HE := Lib.hid (show hearE x ⟨false, pm, true, pq⟩ nh K = (0, x) by
        unfold hearE
        rw [if_neg (by rw [hok]; decide), if_pos hag]
        unfold agreesE
        split <;> simp)
      try clear hq
      try clear hh
      try clear ho
      go_enter Try.func31, Try.ntmps31
      go_wp2_with fail
      go_quiet (first | (go_at_call 59; with_reducible exact top_quiet _ _))
      go_wp2_with fail
      go_quiet (fail)
      go_wp2_with fail
      go_quiet (fail)
      go_wp2
      show Q (.returned (.int .i64 0)) _
      rw [← HQ.out, HE.out]
      exact rhear_stay (X0.out.move (fun _ _ _ => rfl) (Nat.le_refl _)) HFW.out (by repeat (first | exact B0.out | refine belowD ?_))
  · cases pm
    · have HE := Lib.hid (show hearE x ⟨true, false, ps, pq⟩ nh K = (0, x) by
        unfold hearE
        rw [if_neg (by rw [hok]; decide), if_pos hag]
        unfold agreesE
        split <;> simp)
      try clear hq
      try clear hh
      try clear ho
      go_enter Try.func31, Try.ntmps31
      go_wp2_with fail
      go_quiet (first | (go_at_call 59; with_reducible exact top_quiet _ _))
      go_wp2_with fail
      go_quiet (fail)
      go_wp2_with fail
      go_quiet (fail)
      go_wp2
      show Q (.returned (.int .i64 0)) _
      rw [← HQ.out, HE.out]
      exact rhear_stay (X0.out.move (fun _ _ _ => rfl) (Nat.le_refl _)) HFW.out (by repeat (first | exact B0.out | refine belowD ?_))
    · cases ps
      · have HE := Lib.hid (show hearE x ⟨true, true, false, pq⟩ nh K = (0, x) by
          unfold hearE
          rw [if_neg (by rw [hok]; decide), if_pos hag]
          unfold agreesE
          split <;> simp)
        try clear hq
        try clear hh
        try clear ho
        go_enter Try.func31, Try.ntmps31
        go_wp2_with fail
        go_quiet (first | (go_at_call 59; with_reducible exact top_quiet _ _))
        go_wp2_with fail
        go_quiet (fail)
        go_wp2_with fail
        go_quiet (fail)
        go_wp2
        show Q (.returned (.int .i64 0)) _
        rw [← HQ.out, HE.out]
        exact rhear_stay (X0.out.move (fun _ _ _ => rfl) (Nat.le_refl _)) HFW.out (by repeat (first | exact B0.out | refine belowD ?_))
      · by_cases hh : nh = 0
        · have d4 : ((nh : Int) == 0) = true := by simp [hh]
          by_cases ho : x.self < x.other
          · exact absurd ⟨rfl, rfl, rfl, hh, ho⟩ hb2
          · have d5 : decide (x.self < x.other) = false := decide_eq_false ho
            have HE := Lib.hid (show hearE x ⟨true, true, true, pq⟩ nh K = (0, x) by
              unfold hearE
              rw [if_neg (by rw [hok]; decide), if_pos hag]
              unfold agreesE
              rw [if_neg ho]; simp)
            try clear hq
            try clear hh
            try clear ho
            go_enter Try.func31, Try.ntmps31
            go_wp2_with fail
            go_quiet (first | (go_at_call 59; with_reducible exact top_quiet _ _))
            go_wp2_with fail
            go_quiet (fail)
            go_wp2_with fail
            go_quiet (fail)
            go_wp2
            show Q (.returned (.int .i64 0)) _
            rw [← HQ.out, HE.out]
            exact rhear_stay (X0.out.move (fun _ _ _ => rfl) (Nat.le_refl _)) HFW.out (by repeat (first | exact B0.out | refine belowD ?_))
        · have d4 : ((nh : Int) == 0) = false := by simp; omega
          have HE := Lib.hid (show hearE x ⟨true, true, true, pq⟩ nh K = (0, x) by
            unfold hearE
            rw [if_neg (by rw [hok]; decide), if_pos hag]
            unfold agreesE
            split <;> simp [hh])
          try clear hq
          try clear hh
          try clear ho
          go_enter Try.func31, Try.ntmps31
          go_wp2_with fail
          go_quiet (first | (go_at_call 59; with_reducible exact top_quiet _ _))
          go_wp2_with fail
          go_quiet (fail)
          go_wp2_with fail
          go_quiet (fail)
          go_wp2
          show Q (.returned (.int .i64 0)) _
          rw [← HQ.out, HE.out]
          exact rhear_stay (X0.out.move (fun _ _ _ => rfl) (Nat.le_refl _)) HFW.out (by repeat (first | exact B0.out | refine belowD ?_))
end Go.Proofs.Ytfdfdmbnggpnbaa
namespace Go.Proofs.Ytfdfdmbnggpnbaa
open Go.RowKit Go.Lib Go.Sort Go.Deep
set_option linter.unusedVariables false

theorem laid_next {w : World} {F : Nat → Prop} {AP : Option Addr} {nP cP a : Nat} {K : List Hd} (h : LaidAt w F AP nP cP a K) : LaidAt w F AP nP cP (a + 1) (K.drop 3) := by
  obtain ⟨K0, vs, h1, h2, h3, h4, h5, h6⟩ := h
  exact ⟨K0, vs, h1, h2, h3, h4, by rw [h5, left_drop], h6⟩
theorem Blk.eighteen {w : World} {g : Nat} {t : TypeId} {a0 a1 a2 a3 a4 a5 a6 a7 a8 a9 b0 b1 b2 b3 b4 b5 b6 b7 : Value} (h : Blk w g t #[a0, a1, a2, a3, a4, a5, a6, a7, a8, a9, b0, b1, b2, b3, b4, b5, b6, b7]) :
    w.cell? ⟨g, 2, none⟩ = some a2 ∧ w.cell? ⟨g, 3, none⟩ = some a3 ∧ w.cell? ⟨g, 4, none⟩ = some a4 ∧ w.cell? ⟨g, 5, none⟩ = some a5 ∧ w.cell? ⟨g, 6, none⟩ = some a6 ∧ w.cell? ⟨g, 7, none⟩ = some a7 ∧ w.cell? ⟨g, 8, none⟩ = some a8 ∧ w.cell? ⟨g, 9, none⟩ = some a9 ∧ w.cell? ⟨g, 10, none⟩ = some b0 ∧ w.cell? ⟨g, 12, none⟩ = some b2 ∧ w.cell? ⟨g, 17, none⟩ = some b7 :=
  ⟨h.cell 2, h.cell 3, h.cell 4, h.cell 5, h.cell 6, h.cell 7, h.cell 8, h.cell 9, h.cell 10, h.cell 12, h.cell 17⟩
set_option maxRecDepth 8000 in
set_option maxHeartbeats 8000000 in
theorem rhear_on {w : World} {F : Nat → Prop} {p at' : Nat} {x : Ex} (pc : Pc) {Ah : Option Addr} {nh ch : Nat} {A : Option Addr} {n c B : Nat} {S : List La} {K : List Hd} (hx : RexAt w F p x at')
    (hS : Las w B A n S) (hBw : B ≤ w.heap.size) (hFB : ∀ q, F q → B ≤ q) (hn : n ≤ 100) (hK : Told S K) (hat : at' ≤ 900)
    (hns : 0 ≤ pc.seq ∧ pc.seq < 4294967296) (hag : x.agreed = true) :
    Calls Try.prog 31 #[.pointer (some ⟨p, 0, none⟩), .agg #[.bool pc.init, .bool pc.more, .bool pc.master, .int .i64 pc.seq, .slice Ah nh ch], .slice A n c] w (RhearQ F p at' (hearE x pc nh K) w) := by
  generalize hQ : RhearQ F p at' (hearE x pc nh K) w = Q
  have HQ := Lib.hid hQ
  have HFW := Lib.hid hx.bound
  have HFB := Lib.hid hFB
  have HS := Lib.hid hS
  have HK := Lib.hid hK
  have HBW := Lib.hid hBw
  have B0 := Lib.hid ((Below.refl w.heap.size w).alloc (Nat.le_refl _) (.cells #[.bool pc.init, .bool pc.more, .bool pc.master, .int .i64 pc.seq, .slice Ah nh ch] 53))
  have N0 := Lib.hid (Blk.new w 53 #[.bool pc.init, .bool pc.more, .bool pc.master, .int .i64 pc.seq, .slice Ah nh ch])
  have X0 := Lib.hid (hx.below B0.out)
  clear hQ hFB hS hK hBw hx
  obtain ⟨n0, n1, n2, n3, n4⟩ := N0.out.five
  have hnl := N0.out.lt
  obtain ⟨hs0, hs1⟩ := hns
  have hok : okSeq pc.seq = true := (okSeq_iff _).2 ⟨hs0, hs1⟩
  have d0 : decide (pc.seq < 0) = false := decide_eq_false (by omega)
  have d1 : decide (4294967296 ≤ pc.seq) = false := decide_eq_false (by omega)
  obtain ⟨hxs0, hxs1⟩ := (okSeq_iff _).1 X0.out.ok.seq
  have HPZ := Lib.hid (X0.out.fp)
  have HPW := Lib.hid (HFW.out p X0.out.fp)
  have mixed : Try.prog.follows .mixedOrders = true := by kernel_rfl
  have HOK := Lib.hid hok
  have HAG := Lib.hid hag
  clear hok
  go_enter Try.func31, Try.ntmps31
  go_wp2_with fail
  go_quiet (first | (go_at_call 59; with_reducible exact top_quiet _ _))
  have X2 := Lib.hid (show RexAt ((w.alloc (.cells #[.bool pc.init, .bool pc.more, .bool pc.master, .int .i64 pc.seq, .slice Ah nh ch] 53)).drewN nq) F p x at' from X0.out.move (fun _ _ _ => rfl) (Nat.le_refl _))
  have N2 := Lib.hid (show Blk ((w.alloc (.cells #[.bool pc.init, .bool pc.more, .bool pc.master, .int .i64 pc.seq, .slice Ah nh ch] 53)).drewN nq) w.heap.size 53 #[.bool pc.init, .bool pc.more, .bool pc.master, .int .i64 pc.seq, .slice Ah nh ch] from N0.out)
  have B2 := Lib.hid (show Below w.heap.size w ((w.alloc (.cells #[.bool pc.init, .bool pc.more, .bool pc.master, .int .i64 pc.seq, .slice Ah nh ch] 53)).drewN nq) from belowD B0.out)
  clear n0 n1 n2 n3 n4 hnl X0 B0 N0
  generalize (w.alloc (.cells #[.bool pc.init, .bool pc.more, .bool pc.master, .int .i64 pc.seq, .slice Ah nh ch] 53)).drewN nq = w2 at *
  clear nq
  obtain ⟨z, hz⟩ : ∃ z, w.heap.size = z := ⟨_, rfl⟩
  rw [hz] at N2 HPW ⊢
  have HZ := Lib.hid hz
  clear hz
  have hpz : p < z := HPW.out
  obtain ⟨n0, n1, n2, n3, n4⟩ := N2.out.five
  have hnl := N2.out.lt
  obtain ⟨AL, nL, cL, AS, nS, cS, AP, nP, cP, hbk, -, -⟩ := X2.out.mem
  obtain ⟨k2, k3, k4, k5, k6, k7, k8, k9, k10, k12, k17⟩ := Blk.eighteen hbk
  have hpl := hbk.lt
  rw [hag] at k3
  have gz0 := fun n os => cell_grown (n := n) (os := os) hnl n0
  have gz1 := fun n os => cell_grown (n := n) (os := os) hnl n1
  have gz2 := fun n os => cell_grown (n := n) (os := os) hnl n2
  have gz3 := fun n os => cell_grown (n := n) (os := os) hnl n3
  have gz4 := fun n os => cell_grown (n := n) (os := os) hnl n4
  have gp6 := fun n os => cell_grown (n := n) (os := os) hpl k6
  have gp7 := fun n os => cell_grown (n := n) (os := os) hpl k7
  have gp8 := fun n os => cell_grown (n := n) (os := os) hpl k8
  have gp9 := fun n os => cell_grown (n := n) (os := os) hpl k9
  have gp10 := fun n os => cell_grown (n := n) (os := os) hpl k10
  have p1 := fun n os => Calls.grown_of (alike_any pc x.took Ah AL nh ch nL cL (grow (w2.drewN n) os))
  obtain ⟨v, hv⟩ : ∃ v, decide (pc = x.took) = v := ⟨_, rfl⟩
  rw [hv] at p1
  have HV := Lib.hid hv
  clear hv
  go_wp2_with fail
  go_quiet_grown (first | (go_at_call 67; with_reducible exact p1 _ _))
  have BG : Below w2.heap.size w2 (grow (w2.drewN nq) osq) := below_grown13 ⟨nq, osq, rfl⟩
  have X3 := Lib.hid (X2.out.below BG)
  have N3 := Lib.hid (N2.out.below BG hnl)
  have B3 := Lib.hid (B2.out.trans (BG.mono B2.out.size))
  clear gz0 gz1 gz2 gz3 gz4 gp6 gp7 gp8 gp9 gp10 p1 n0 n1 n2 n3 n4 hnl k2 k3 k4 k5 k6 k7 k8 k9 k10 k12 k17 hpl hbk BG X2 N2 B2
  generalize grow (w2.drewN nq) osq = w3 at *
  clear nq osq w2
  obtain ⟨AL, nL, cL, AS, nS, cS, AP, nP, cP, hbk, hhd, hld⟩ := X3.out.mem
  have LD := Lib.hid (hld hag)
  have KB := Lib.hid hbk
  obtain ⟨k2, k3, k4, k5, k6, k7, k8, k9, k10, k12, k17⟩ := Blk.eighteen hbk
  have hpl := hbk.lt
  have HH := Lib.hid hhd
  have OK := Lib.hid X3.out.ok
  clear hbk hhd hld k3 k6 k7 k8 k9 k10
  cases v
  case true =>
    have hpt : pc = x.took := of_decide_eq_true HV.out
    cases hld : x.leads
    · rw [hld] at k4
      have HE := Lib.hid (show hearE x pc nh K = (1, x) by
        unfold hearE
        rw [if_neg (by rw [HOK.out]; decide), if_neg (by rw [hag]; decide), if_pos hpt, if_neg (by rw [hld]; decide)])
      clear hpt hld
      go_wp2
      show Q (.returned (.int .i64 1)) _
      rw [← HQ.out, HE.out]
      exact rhear_stay X3.out HFW.out B3.out
    · rw [hld] at k4
      have HE := Lib.hid (show hearE x pc nh K = (0, x) by
        unfold hearE
        rw [if_neg (by rw [HOK.out]; decide), if_neg (by rw [hag]; decide), if_pos hpt, if_pos hld])
      clear hpt hld
      go_wp2
      show Q (.returned (.int .i64 0)) _
      rw [← HQ.out, HE.out]
      exact rhear_stay X3.out HFW.out B3.out
  case false =>
    have hpt : ¬ pc = x.took := of_decide_eq_false HV.out
    have HPT := Lib.hid hpt
    clear hpt
    obtain ⟨n0, n1, n2, n3, n4⟩ := N3.out.five
    have hnl := N3.out.lt
    cases hld : x.leads
    · rw [hld] at k4
      obtain ⟨hw1, hw2⟩ := i64_add1 hxs0 hxs1
      cases hdn : x.done
      case true =>
        rw [hdn] at k5
        have HE := Lib.hid (show hearE x pc nh K = (3, x) by
          unfold hearE
          rw [if_neg (by rw [HOK.out]; decide), if_neg (by rw [hag]; decide), if_neg HPT.out, if_neg (by unfold fitsE; rw [hdn]; simp)])
        clear hdn hld
        go_wp2_with fail
        go_quiet (first | (go_at_call 59; with_reducible exact top_quiet _ _))
        revert nq
        intro q1
        go_wp2_with fail
        go_quiet (fail)
        go_wp2
        show Q (.returned (.int .i64 3)) _
        rw [← HQ.out, HE.out]
        exact rhear_stay (X3.out.move (fun _ _ _ => rfl) (Nat.le_refl _)) HFW.out (by repeat (first | exact B3.out | refine belowD ?_))
      case false =>
        rw [hdn] at k5
        cases hin : pc.init
        case true =>
          rw [hin] at n0
          have HE := Lib.hid (show hearE x pc nh K = (3, x) by
            unfold hearE
            rw [if_neg (by rw [HOK.out]; decide), if_neg (by rw [hag]; decide), if_neg HPT.out, if_neg (by unfold fitsE; rw [hdn, hin]; simp)])
          clear hdn hld hin
          go_wp2_with fail
          go_quiet (first | (go_at_call 59; with_reducible exact top_quiet _ _))
          revert nq
          intro q1
          go_wp2_with fail
          go_quiet (fail)
          go_wp2
          show Q (.returned (.int .i64 3)) _
          rw [← HQ.out, HE.out]
          exact rhear_stay (X3.out.move (fun _ _ _ => rfl) (Nat.le_refl _)) HFW.out (by repeat (first | exact B3.out | refine belowD ?_))
        case false =>
          rw [hin] at n0
          cases hms : pc.master
          case false =>
            rw [hms] at n2
            have HE := Lib.hid (show hearE x pc nh K = (3, x) by
              unfold hearE
              rw [if_neg (by rw [HOK.out]; decide), if_neg (by rw [hag]; decide), if_neg HPT.out, if_neg (by unfold fitsE; rw [hdn, hin, hms, hld]; simp)])
            clear hdn hld hin hms
            go_wp2_with fail
            go_quiet (first | (go_at_call 59; with_reducible exact top_quiet _ _))
            revert nq
            intro q1
            go_wp2_with fail
            go_quiet (fail)
            go_wp2
            show Q (.returned (.int .i64 3)) _
            rw [← HQ.out, HE.out]
            exact rhear_stay (X3.out.move (fun _ _ _ => rfl) (Nat.le_refl _)) HFW.out (by repeat (first | exact B3.out | refine belowD ?_))
          case true =>
            rw [hms] at n2
            by_cases hsq : pc.seq = up32 x.seq
            · have d7 : (pc.seq != up32 x.seq) = false := by simp [hsq]
              have HSQ := Lib.hid hsq
              have HE := Lib.hid (show hearE x pc nh K = (2, goOnE x pc) by
                unfold hearE
                rw [if_neg (by rw [HOK.out]; decide), if_neg (by rw [hag]; decide), if_neg HPT.out, if_pos (by unfold fitsE; rw [hdn, hin, hms, hld]; simp [hsq])])
              have HLD := Lib.hid hld
              have HDN := Lib.hid hdn
              clear hdn hld hin hms hsq
              go_wp2_with fail
              go_quiet (first | (go_at_call 59; with_reducible exact top_quiet _ _))
              revert nq
              intro q1
              go_wp2_with fail
              go_quiet (fail)
              simp only [World.drewN_drewN]
              have K4 := Lib.hid (show Blk (w3.drewN (q1 + nq)) p 111 (rexC x at' AL nL cL AS nS cS AP nP cP) from KB.out)
              have N4 := Lib.hid (show Blk (w3.drewN (q1 + nq)) z 53 #[.bool pc.init, .bool pc.more, .bool pc.master, .int .i64 pc.seq, .slice Ah nh ch] from N3.out)
              have B4 := Lib.hid (show Below w.heap.size w (w3.drewN (q1 + nq)) from belowD B3.out)
              have L4 := Lib.hid (show LaidAt (w3.drewN (q1 + nq)) (fun q => F q ∧ q ≠ p) AP nP cP at' x.K from LD.out.move (fun _ _ _ => rfl) (Nat.le_refl _) (fun q hq _ => hq))
              have H4 := Lib.hid (show HdsOn (w3.drewN (q1 + nq)) (fun q => F q ∧ q ≠ p) AS nS (x.K.take 3) from HH.out.move (fun _ _ _ => rfl) (Nat.le_refl _) (fun q hq _ => hq))
              clear k2 k4 k5 k12 k17 hpl n0 n1 n2 n3 n4 hnl KB N3 B3 LD HH X3 d7
              generalize w3.drewN (q1 + nq) = w4 at *
              clear w3
              have R4 := Lib.hid (show w4.rangeAt z 0 [.bool pc.init, .bool pc.more, .bool pc.master, .int .i64 pc.seq, .slice Ah nh ch] from fun j v hv => by
                rw [Nat.zero_add, N4.out.cell, ← hv]
                simp)
              have hpl4 := K4.out.lt
              go_wp2_with (first | (refine wpList_load_row 53 _ _ (by rfl) (.tmp 4) rfl (by rfl) R4.out Try.underlying53 rfl (by kernel_rfl) ?_) | (refine wpList_store_rlast (i := pc.init) (m := pc.more) (s := pc.master) (q := pc.seq) (A := Ah) (n := nh) (c := ch) rfl (.tmp 170) (.tmp 168) rfl rfl rfl K4.out ?_; intro w5 HK5 HC5; have K5 := Lib.hid (show Blk w5 p 111 (rexC { x with took := pc } at' Ah nh ch AS nS cS AP nP cP) from HK5.out); have N5 := Lib.hid (N4.out.chg HC5.out (by omega)); have hpl := K5.out.lt; have hzl := N5.out.lt; have c4 : w5.cell? ⟨p, 4, none⟩ = some (.bool x.leads) := K5.out.cell 4; rw [HLD.out] at c4; have z3 : w5.cell? ⟨z, 3, none⟩ = some (.int .i64 pc.seq) := N5.out.cell 3; have c2 : w5.cell? ⟨p, 2, none⟩ = some (.int .i64 x.seq) := K5.out.cell 2; have f2 := K5.out.frozen 2; have c17 : (w5.setCell ⟨p, 2, none⟩ (.int .i64 pc.seq)).cell? ⟨p, 17, none⟩ = some (.int .i64 at') := (K5.out.put 2 (.int .i64 pc.seq)).cell 17; have f17 := (K5.out.put 2 (.int .i64 pc.seq)).frozen 17))
              have K7 := Lib.hid (show Blk ((w5.setCell ⟨p, 2, none⟩ (.int .i64 pc.seq)).setCell ⟨p, 17, none⟩ (.int .i64 ((at' : Int) + 1))) p 111 (rexC { x with took := pc, seq := pc.seq, K := x.K.drop 3 } (at' + 1) Ah nh ch AS nS cS AP nP cP) from (K5.out.put 2 (.int .i64 pc.seq)).put 17 (.int .i64 ((at' : Int) + 1)))
              have C75 := ((HC5.out.trans (chg_put (F := fun q => q = p) (a := ⟨p, 2, none⟩) w5 (.int .i64 pc.seq) rfl) (fun q hq => .inl hq)).trans (chg_put (F := fun q => q = p) (a := ⟨p, 17, none⟩) _ (.int .i64 ((at' : Int) + 1)) rfl) (fun q hq => .inl hq))
              have N7 := Lib.hid (N4.out.chg C75 (by omega))
              have L7 := Lib.hid (laid_next (L4.out.move (fun q hq hl => C75.block q hl hq.2) C75.size (fun q hq _ => hq)))
              have C7 := Lib.hid ((Chg.of_below (F := F) B4.out).trans (C75.wide (F' := F) (fun q hq => by rw [hq]; exact HPZ.out)) (fun q hq => .inl hq))
              clear hpl hzl c4 z3 c2 f2 c17 f17 C75 K5 N5 HK5 HC5 K4 N4 B4 L4 H4 R4 hpl4
              generalize (w5.setCell ⟨p, 2, none⟩ (.int .i64 pc.seq)).setCell ⟨p, 17, none⟩ (.int .i64 ((at' : Int) + 1)) = w7 at *
              clear w5 w4
              refine (rsay_any K7.out L7.out (fun q hq => hq.2) (by omega)).mono ?_
              rintro e8 w8 ⟨AS8, nS8, cS8, rfl, hb8, hh8, hc8⟩
              have K8 := Lib.hid hb8
              have H8 := Lib.hid hh8
              have N8 := Lib.hid (N7.out.chg hc8 (by omega))
              have L8 := Lib.hid (L7.out.move (fun q hq hl => hc8.block q hl hq.2) hc8.size (fun q hq _ => hq))
              have C8 := Lib.hid (C7.out.trans (hc8.wide (F' := F) (fun q hq => by rw [hq]; exact HPZ.out)) (fun q hq => .inl hq))
              clear hb8 hh8 hc8 K7 N7 L7 C7 w7
              obtain ⟨b, hb⟩ : ∃ b, decide (3 < (x.K.drop 3).length) = b := ⟨_, rfl⟩
              have hpl := K8.out.lt
              have hzl := N8.out.lt
              have z1 : w8.cell? ⟨z, 1, none⟩ = some (.bool pc.more) := N8.out.cell 1
              have c12 : w8.cell? ⟨p, 12, none⟩ = some (.bool (decide (3 < (x.K.drop 3).length))) := K8.out.cell 12
              have c5 : w8.cell? ⟨p, 5, none⟩ = some (.bool x.done) := K8.out.cell 5
              have f5 := K8.out.frozen 5
              rw [hb] at c12
              obtain ⟨dn, hdn⟩ : ∃ dn, (!pc.more && !b) = dn := ⟨_, rfl⟩
              have HG := Lib.hid (show goOnE x pc = { sayE { x with took := pc, seq := pc.seq, K := x.K.drop 3 } with done := dn } by
                unfold goOnE stepE takeE sayE
                rw [HLD.out]
                simp [← hdn, ← hb])
              have KL := Lib.hid (show Blk (w8.setCell ⟨p, 5, none⟩ (.bool dn)) p 111 (rexC { sayE { x with took := pc, seq := pc.seq, K := x.K.drop 3 } with done := dn } (at' + 1) Ah nh ch AS8 nS8 cS8 AP nP cP) from K8.out.put 5 (.bool dn))
              have CL := Lib.hid (C8.out.trans (chg_put (F := F) (a := ⟨p, 5, none⟩) w8 (.bool dn) HPZ.out) (fun q hq => .inl hq))
              have HL10 := Lib.hid (show HdsOn (w8.setCell ⟨p, 5, none⟩ (.bool dn)) (fun q => F q ∧ q ≠ p) AS8 nS8 ((x.K.drop 3).take 3) from H8.out.move (fun q hq _ => Below.heap_setCell _ _ _ _ hq.2) (by simp) (fun q hq _ => hq))
              have LL := Lib.hid (show LaidAt (w8.setCell ⟨p, 5, none⟩ (.bool dn)) (fun q => F q ∧ q ≠ p) AP nP cP (at' + 1) (x.K.drop 3) from L8.out.move (fun q hq _ => Below.heap_setCell _ _ _ _ hq.2) (by simp) (fun q hq _ => hq))
              clear K8 H8 N8 L8 C8 hb
              cases hmo : pc.more
              all_goals
                rw [hmo] at hdn z1
                clear hmo
                cases b
                all_goals
                  simp at hdn
                  subst hdn
                  go_wp2
                  have hgx := HG.out
                  have C10 := CL.out
                  have hs10 := C10.size
                  show Q (.returned (.int .i64 2)) _
                  rw [← HQ.out, HE.out]
                  refine ⟨rfl, ⟨at' + 1, by omega, ?_⟩, C10⟩
                  refine ⟨OK.out.goOn HOK.out, .inl HPZ.out, fun q hq => ?_, fun h => ?_, Ah, nh, ch, AS8, nS8, cS8, AP, nP, cP, ?_, ?_, fun _ => ?_⟩
                  · rcases hq with hq | hq
                    · have := HFW.out q hq
                      omega
                    · exact hq.2
                  · rw [hgx] at h
                    have h : x.agreed = false := h
                    rw [HAG.out] at h
                    cases h
                  · rw [hgx]
                    exact KL.out
                  · rw [hgx]
                    exact HL10.out.move (fun _ _ _ => rfl) (Nat.le_refl _) (fun q hq _ => ⟨.inl hq.1, hq.2⟩)
                  · rw [hgx]
                    exact LL.out.move (fun _ _ _ => rfl) (Nat.le_refl _) (fun q hq _ => ⟨.inl hq.1, hq.2⟩)
            · have d7 : (pc.seq != up32 x.seq) = true := by simpa using hsq
              have HE := Lib.hid (show hearE x pc nh K = (3, x) by
                unfold hearE
                rw [if_neg (by rw [HOK.out]; decide), if_neg (by rw [hag]; decide), if_neg HPT.out, if_neg (by unfold fitsE; rw [hdn, hin, hms, hld]; simp [hsq])])
              clear hdn hld hin hms hsq
              go_wp2_with fail
              go_quiet (first | (go_at_call 59; with_reducible exact top_quiet _ _))
              revert nq
              intro q1
              go_wp2_with fail
              go_quiet (fail)
              go_wp2
              show Q (.returned (.int .i64 3)) _
              rw [← HQ.out, HE.out]
              exact rhear_stay (X3.out.move (fun _ _ _ => rfl) (Nat.le_refl _)) HFW.out (by repeat (first | exact B3.out | refine belowD ?_))
    · rw [hld] at k4
      cases hdn : x.done
      case true =>
        rw [hdn] at k5
        have HE := Lib.hid (show hearE x pc nh K = (3, x) by
          unfold hearE
          rw [if_neg (by rw [HOK.out]; decide), if_neg (by rw [hag]; decide), if_neg HPT.out, if_neg (by unfold fitsE; rw [hdn]; simp)])
        clear hdn hld
        go_wp2_with fail
        go_quiet (fail)
        go_wp2
        show Q (.returned (.int .i64 3)) _
        rw [← HQ.out, HE.out]
        exact rhear_stay (X3.out.move (fun _ _ _ => rfl) (Nat.le_refl _)) HFW.out (by repeat (first | exact B3.out | refine belowD ?_))
      case false =>
        rw [hdn] at k5
        cases hin : pc.init
        case true =>
          rw [hin] at n0
          have HE := Lib.hid (show hearE x pc nh K = (3, x) by
            unfold hearE
            rw [if_neg (by rw [HOK.out]; decide), if_neg (by rw [hag]; decide), if_neg HPT.out, if_neg (by unfold fitsE; rw [hdn, hin]; simp)])
          clear hdn hld hin
          go_wp2_with fail
          go_quiet (fail)
          go_wp2
          show Q (.returned (.int .i64 3)) _
          rw [← HQ.out, HE.out]
          exact rhear_stay (X3.out.move (fun _ _ _ => rfl) (Nat.le_refl _)) HFW.out (by repeat (first | exact B3.out | refine belowD ?_))
        case false =>
          rw [hin] at n0
          cases hms : pc.master
          case true =>
            rw [hms] at n2
            have HE := Lib.hid (show hearE x pc nh K = (3, x) by
              unfold hearE
              rw [if_neg (by rw [HOK.out]; decide), if_neg (by rw [hag]; decide), if_neg HPT.out, if_neg (by unfold fitsE; rw [hdn, hin, hms, hld]; simp)])
            clear hdn hld hin hms
            go_wp2_with fail
            go_quiet (fail)
            go_wp2
            show Q (.returned (.int .i64 3)) _
            rw [← HQ.out, HE.out]
            exact rhear_stay (X3.out.move (fun _ _ _ => rfl) (Nat.le_refl _)) HFW.out (by repeat (first | exact B3.out | refine belowD ?_))
          case false =>
            rw [hms] at n2
            by_cases hsq : pc.seq = x.seq
            · have d7 : (pc.seq != x.seq) = false := by simp [hsq]
              have HSQ := Lib.hid hsq
              have HE := Lib.hid (show hearE x pc nh K = (2, goOnE x pc) by
                unfold hearE
                rw [if_neg (by rw [HOK.out]; decide), if_neg (by rw [hag]; decide), if_neg HPT.out, if_pos (by unfold fitsE; rw [hdn, hin, hms, hld]; simp [hsq])])
              have HLD := Lib.hid hld
              have HDN := Lib.hid hdn
              clear hdn hld hin hms hsq
              go_wp2_with fail
              go_quiet (fail)
              have K4 := Lib.hid (show Blk (w3.drewN nq) p 111 (rexC x at' AL nL cL AS nS cS AP nP cP) from KB.out)
              have N4 := Lib.hid (show Blk (w3.drewN nq) z 53 #[.bool pc.init, .bool pc.more, .bool pc.master, .int .i64 pc.seq, .slice Ah nh ch] from N3.out)
              have B4 := Lib.hid (show Below w.heap.size w (w3.drewN nq) from belowD B3.out)
              have L4 := Lib.hid (show LaidAt (w3.drewN nq) (fun q => F q ∧ q ≠ p) AP nP cP at' x.K from LD.out.move (fun _ _ _ => rfl) (Nat.le_refl _) (fun q hq _ => hq))
              have H4 := Lib.hid (show HdsOn (w3.drewN nq) (fun q => F q ∧ q ≠ p) AS nS (x.K.take 3) from HH.out.move (fun _ _ _ => rfl) (Nat.le_refl _) (fun q hq _ => hq))
              clear k2 k4 k5 k12 k17 hpl n0 n1 n2 n3 n4 hnl KB N3 B3 LD HH X3 d7
              generalize w3.drewN nq = w4 at *
              clear w3
              have R4 := Lib.hid (show w4.rangeAt z 0 [.bool pc.init, .bool pc.more, .bool pc.master, .int .i64 pc.seq, .slice Ah nh ch] from fun j v hv => by
                rw [Nat.zero_add, N4.out.cell, ← hv]
                simp)
              have hpl4 := K4.out.lt
              go_wp2_with (first | (refine wpList_load_row 53 _ _ (by rfl) (.tmp 4) rfl (by rfl) R4.out Try.underlying53 rfl (by kernel_rfl) ?_) | (refine wpList_store_rlast (i := pc.init) (m := pc.more) (s := pc.master) (q := pc.seq) (A := Ah) (n := nh) (c := ch) rfl (.tmp 170) (.tmp 168) rfl rfl rfl K4.out ?_; intro w5 HK5 HC5; have K5 := Lib.hid (show Blk w5 p 111 (rexC { x with took := pc } at' Ah nh ch AS nS cS AP nP cP) from HK5.out); have N5 := Lib.hid (N4.out.chg HC5.out (by omega)); have hpl := K5.out.lt; have c4 : w5.cell? ⟨p, 4, none⟩ = some (.bool x.leads) := K5.out.cell 4; rw [HLD.out] at c4))
              obtain ⟨hw1, hw2⟩ := i64_add1 hxs0 hxs1
              have k2' : w5.cell? ⟨p, 2, none⟩ = some (.int .i64 x.seq) := K5.out.cell 2
              have g2 := fun n' os => Go.cell_grown (n := n') (os := os) (a := ⟨p, 2, none⟩) hpl k2'
              have pct : ∀ n' os, Calls Try.prog 59 #[] (Go.Sort.grow (w5.drewN n') os) fun e w'' => e = .returned (.int .i64 4294967296) ∧ ∃ pp : GrownBy, w'' = Go.Sort.grow (w5.drewN pp.n) pp.os := fun n' os => (top_any _).mono fun e w'' ⟨he, hw⟩ => ⟨he, ⟨n', os⟩, hw⟩
              refine region_grown_tail 10 (by kernel_rfl) (by kernel_rfl) ?_
              simp only [List.take_succ_cons, List.take_zero, List.drop_succ_cons, List.drop_zero]
              repeat (quiet_step (first | (go_at_call 59; with_reducible exact pct _ _)))
              refine wpQuiet_nil ?_
              intro _ hw'
              obtain ⟨⟨nq2, osq⟩, hw''⟩ := hw'
              subst hw''
              dsimp only
              have BG : Below w5.heap.size w5 (Go.Sort.grow (w5.drewN nq2) osq) := grownW
              have K6 := Lib.hid (K5.out.below BG hpl)
              have N6 := Lib.hid (N5.out.below BG N5.out.lt)
              have C56 := HC5.out.trans (Chg.of_below (F := fun q => q = p) BG) (fun q hq => .inl hq)
              have L6 := Lib.hid (L4.out.move (F' := fun q => F q ∧ q ≠ p) (fun q hq hl => C56.block q hl hq.2) C56.size (fun q hq _ => hq))
              have H6 := Lib.hid (H4.out.move (F' := fun q => F q ∧ q ≠ p) (fun q hq hl => C56.block q hl hq.2) C56.size (fun q hq _ => hq))
              have C6 := Lib.hid ((Chg.of_below (F := F) B4.out).trans (C56.wide (F' := F) (fun q hq => by rw [hq]; exact HPZ.out)) (fun q hq => .inl hq))
              clear g2 k2' pct hpl BG C56 K5 N5 HK5 HC5 K4 N4 B4 L4 H4 R4 hpl4 c4
              generalize Go.Sort.grow (w5.drewN nq2) osq = w6 at *
              clear nq2 osq w5 w4
              have hpl := K6.out.lt
              have hzl := N6.out.lt
              have c2 : w6.cell? ⟨p, 2, none⟩ = some (.int .i64 x.seq) := K6.out.cell 2
              have f2 := K6.out.frozen 2
              have K7 := Lib.hid (show Blk (w6.setCell ⟨p, 2, none⟩ (.int .i64 (up32 x.seq))) p 111 (rexC { x with took := pc, seq := up32 x.seq } at' Ah nh ch AS nS cS AP nP cP) from K6.out.put 2 (.int .i64 (up32 x.seq)))
              have N7 := Lib.hid (N6.out.far (p := ⟨p, 2, none⟩) (by simp; omega) (.int .i64 (up32 x.seq)))
              have C7 := Lib.hid (C6.out.trans (chg_put (F := F) (a := ⟨p, 2, none⟩) w6 (.int .i64 (up32 x.seq)) HPZ.out) (fun q hq => .inl hq))
              have L7 := Lib.hid (L6.out.move (w' := w6.setCell ⟨p, 2, none⟩ (.int .i64 (up32 x.seq))) (F' := fun q => F q ∧ q ≠ p) (fun q hq _ => Below.heap_setCell _ _ _ _ hq.2) (by simp) (fun q hq _ => hq))
              have H7 := Lib.hid (H6.out.move (w' := w6.setCell ⟨p, 2, none⟩ (.int .i64 (up32 x.seq))) (F' := fun q => F q ∧ q ≠ p) (fun q hq _ => Below.heap_setCell _ _ _ _ hq.2) (by simp) (fun q hq _ => hq))
              have z1 : (w6.setCell ⟨p, 2, none⟩ (.int .i64 (up32 x.seq))).cell? ⟨z, 1, none⟩ = some (.bool pc.more) := N7.out.cell 1
              have c12 : (w6.setCell ⟨p, 2, none⟩ (.int .i64 (up32 x.seq))).cell? ⟨p, 12, none⟩ = some (.bool x.said.more) := K7.out.cell 12
              have c5 : (w6.setCell ⟨p, 2, none⟩ (.int .i64 (up32 x.seq))).cell? ⟨p, 5, none⟩ = some (.bool x.done) := K7.out.cell 5
              have c17 : (w6.setCell ⟨p, 2, none⟩ (.int .i64 (up32 x.seq))).cell? ⟨p, 17, none⟩ = some (.int .i64 at') := K7.out.cell 17
              have f5 := K7.out.frozen 5
              have f17 := K7.out.frozen 17
              clear K6 N6 L6 H6 C6
              by_cases hq : pc.more = false ∧ x.said.more = false
              · obtain ⟨hq1, hq2⟩ := hq
                rw [hq1] at z1
                rw [hq2] at c12
                have HG := Lib.hid (show goOnE x pc = { x with took := pc, seq := up32 x.seq, done := true } by
                  unfold goOnE takeE
                  rw [HLD.out, hq1, hq2]
                  simp [HSQ.out])
                have KL := Lib.hid (show Blk ((w6.setCell ⟨p, 2, none⟩ (.int .i64 (up32 x.seq))).setCell ⟨p, 5, none⟩ (.bool true)) p 111 (rexC { x with took := pc, seq := up32 x.seq, done := true } at' Ah nh ch AS nS cS AP nP cP) from K7.out.put 5 (.bool true))
                have CL := Lib.hid (C7.out.trans (chg_put (F := F) (a := ⟨p, 5, none⟩) _ (.bool true) HPZ.out) (fun q hq => .inl hq))
                have HL10 := Lib.hid (H7.out.move (w' := (w6.setCell ⟨p, 2, none⟩ (.int .i64 (up32 x.seq))).setCell ⟨p, 5, none⟩ (.bool true)) (F' := fun q => F q ∧ q ≠ p) (fun q hq _ => Below.heap_setCell _ _ _ _ hq.2) (by simp) (fun q hq _ => hq))
                have LL := Lib.hid (L7.out.move (w' := (w6.setCell ⟨p, 2, none⟩ (.int .i64 (up32 x.seq))).setCell ⟨p, 5, none⟩ (.bool true)) (F' := fun q => F q ∧ q ≠ p) (fun q hq _ => Below.heap_setCell _ _ _ _ hq.2) (by simp) (fun q hq _ => hq))
                clear hq1 hq2 K7 N7 C7 L7 H7
                go_wp2
                have hgx := HG.out
                have C10 := CL.out
                have hs10 := C10.size
                show Q (.returned (.int .i64 2)) _
                rw [← HQ.out, HE.out]
                refine ⟨rfl, ⟨at', by omega, ?_⟩, C10⟩
                refine ⟨OK.out.goOn HOK.out, .inl HPZ.out, fun q hq => ?_, fun h => ?_, Ah, nh, ch, AS, nS, cS, AP, nP, cP, ?_, ?_, fun _ => ?_⟩
                · rcases hq with hq | hq
                  · have := HFW.out q hq
                    omega
                  · exact hq.2
                · rw [hgx] at h
                  have h : x.agreed = false := h
                  rw [HAG.out] at h
                  cases h
                · rw [hgx]
                  exact KL.out
                · rw [hgx]
                  exact HL10.out.move (fun _ _ _ => rfl) (Nat.le_refl _) (fun q hq _ => ⟨.inl hq.1, hq.2⟩)
                · rw [hgx]
                  exact LL.out.move (fun _ _ _ => rfl) (Nat.le_refl _) (fun q hq _ => ⟨.inl hq.1, hq.2⟩)
              · have hv : (!pc.more && !x.said.more) = false := by
                  cases h1 : pc.more <;> cases h2 : x.said.more <;> simp_all
                have HG := Lib.hid (show goOnE x pc = sayE { x with took := pc, seq := up32 x.seq, K := x.K.drop 3 } by
                  unfold goOnE stepE takeE sayE
                  have hv2 : (x.leads && !pc.more && !x.said.more) = false := by rw [Bool.and_assoc, hv, Bool.and_false]
                  rw [if_neg (by rw [hv2]; decide)]
                  simp [HLD.out, HDN.out, HSQ.out])
                have K8 := Lib.hid (show Blk ((w6.setCell ⟨p, 2, none⟩ (.int .i64 (up32 x.seq))).setCell ⟨p, 17, none⟩ (.int .i64 ((at' : Int) + 1))) p 111 (rexC { x with took := pc, seq := up32 x.seq, K := x.K.drop 3 } (at' + 1) Ah nh ch AS nS cS AP nP cP) from K7.out.put 17 (.int .i64 ((at' : Int) + 1)))
                have C8 := Lib.hid (C7.out.trans (chg_put (F := F) (a := ⟨p, 17, none⟩) _ (.int .i64 ((at' : Int) + 1)) HPZ.out) (fun q hq => .inl hq))
                have L8 := Lib.hid (laid_next (L7.out.move (w' := (w6.setCell ⟨p, 2, none⟩ (.int .i64 (up32 x.seq))).setCell ⟨p, 17, none⟩ (.int .i64 ((at' : Int) + 1))) (F' := fun q => F q ∧ q ≠ p) (fun q hq _ => Below.heap_setCell _ _ _ _ hq.2) (by simp) (fun q hq _ => hq)))
                clear K7 N7 C7 L7 H7 hq
                cases hm1 : pc.more <;> cases hm2 : x.said.more <;> (try (exfalso; rw [hm1, hm2] at hv; revert hv; decide))
                all_goals
                    rw [hm1] at z1
                    rw [hm2] at c12
                    clear hm1 hm2 hv
                    go_wp2_with fail
                    clear z1 c12 c5 c17 f5 f17 c2 f2 hpl hzl
                    generalize (w6.setCell ⟨p, 2, none⟩ (.int .i64 (up32 x.seq))).setCell ⟨p, 17, none⟩ (.int .i64 ((at' : Int) + 1)) = w8 at *
                    clear w6
                    refine (rsay_any K8.out L8.out (fun q hq => hq.2) (by omega)).mono ?_
                    rintro e9 w9 ⟨AS9, nS9, cS9, rfl, hb9, hh9, hc9⟩
                    have KL := Lib.hid hb9
                    have HL10 := Lib.hid hh9
                    have LL := Lib.hid (L8.out.move (F' := fun q => F q ∧ q ≠ p) (fun q hq hl => hc9.block q hl hq.2) hc9.size (fun q hq _ => hq))
                    have CL := Lib.hid (C8.out.trans (hc9.wide (F' := F) (fun q hq => by rw [hq]; exact HPZ.out)) (fun q hq => .inl hq))
                    clear hb9 hh9 hc9 K8 L8 C8
                    go_wp2
                    have hgx := HG.out
                    have C10 := CL.out
                    have hs10 := C10.size
                    show Q (.returned (.int .i64 2)) _
                    rw [← HQ.out, HE.out]
                    refine ⟨rfl, ⟨at' + 1, by omega, ?_⟩, C10⟩
                    refine ⟨OK.out.goOn HOK.out, .inl HPZ.out, fun q hq => ?_, fun h => ?_, Ah, nh, ch, AS9, nS9, cS9, AP, nP, cP, ?_, ?_, fun _ => ?_⟩
                    · rcases hq with hq | hq
                      · have := HFW.out q hq
                        omega
                      · exact hq.2
                    · rw [hgx] at h
                      have h : x.agreed = false := h
                      rw [HAG.out] at h
                      cases h
                    · rw [hgx]
                      exact KL.out
                    · rw [hgx]
                      exact HL10.out.move (fun _ _ _ => rfl) (Nat.le_refl _) (fun q hq _ => ⟨.inl hq.1, hq.2⟩)
                    · rw [hgx]
                      exact LL.out.move (fun _ _ _ => rfl) (Nat.le_refl _) (fun q hq _ => ⟨.inl hq.1, hq.2⟩)
            · have d7 : (pc.seq != x.seq) = true := by simpa using hsq
              have HE := Lib.hid (show hearE x pc nh K = (3, x) by
                unfold hearE
                rw [if_neg (by rw [HOK.out]; decide), if_neg (by rw [hag]; decide), if_neg HPT.out, if_neg (by unfold fitsE; rw [hdn, hin, hms, hld]; simp [hsq])])
              clear hdn hld hin hms hsq
              go_wp2_with fail
              go_quiet (fail)
              go_wp2
              show Q (.returned (.int .i64 3)) _
              rw [← HQ.out, HE.out]
              exact rhear_stay (X3.out.move (fun _ _ _ => rfl) (Nat.le_refl _)) HFW.out (by repeat (first | exact B3.out | refine belowD ?_))
end Go.Proofs.Ytfdfdmbnggpnbaa
