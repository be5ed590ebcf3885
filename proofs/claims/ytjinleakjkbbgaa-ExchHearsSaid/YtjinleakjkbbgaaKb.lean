/- Hear of the reference, not agreed on. Conditions: as for Hear of the reference. · Hear of the reference, not agreed on. Conditions: as for Hear of the reference. · Hear of the reference, not agreed on. Conditions: as for Hear of the reference. -/
import Derived.Test.YtjinleakjkbbgaaKa
namespace Go.Proofs.Ytjinleakjkbbgaa
open Go.RowKit Go.Lib Go.Sort Go.Deep
set_option linter.unusedVariables false

theorem own_ltF {w : World} {base n size q : Nat} {t : TypeId} {v : Value} {xs : List Value} (h : w.ownsRow base t size v n xs) (hq : v.ownBlock = some q) : q < w.heap.size := by
  rcases h.2 with ⟨hv, _⟩ | ⟨g, cap, cur, hv, hb, hg, -⟩
  · subst hv
    cases hq
  · subst hv
    have h2 : some g = some q := hq
    injection h2 with h2
    rw [← h2]
    exact (Array.getElem?_eq_some_iff.1 hg).1
theorem i64_add1 {q : Int} (h0 : 0 ≤ q) (h1 : q < 4294967296) : IntKind.i64.wrap (q + 1) = q + 1 ∧ (q + 1).tmod 4294967296 = up32 q := by
  refine ⟨by rw [IntKind.wrap_i64]; omega, ?_⟩
  rw [Int.tmod_eq_emod_of_nonneg (by omega)]
  rfl
set_option maxRecDepth 8000 in
set_option maxHeartbeats 8000000 in
theorem rhear_lead {w : World} {F : Nat → Prop} {p at' : Nat} {x : Ex} (pm : Bool) (pq : Int) {Ah : Option Addr} {nh ch : Nat} {A : Option Addr} {n c B : Nat} {S : List La} {K : List Hd} (hx : RexAt w F p x at')
    (hS : Las w B A n S) (hBw : B ≤ w.heap.size) (hFB : ∀ q, F q → B ≤ q) (hn : n ≤ 100) (hK : Told S K) (hat : at' ≤ 900)
    (hns : 0 ≤ pq ∧ pq < 4294967296) (hag : x.agreed = false) (hq : pq = x.seq) (ho : x.other < x.self) :
    Calls Try.prog 14 #[.pointer (some ⟨p, 0, none⟩), .agg #[.bool false, .bool pm, .bool false, .int .i64 pq, .slice Ah nh ch], .slice A n c] w (RhearQ F p at' (hearE x ⟨false, pm, false, pq⟩ nh K) w) := by
  generalize hQ : RhearQ F p at' (hearE x ⟨false, pm, false, pq⟩ nh K) w = Q
  have HQ := Lib.hid hQ
  have HFW := Lib.hid hx.bound
  have HFB := Lib.hid hFB
  have HS := Lib.hid hS
  have HK := Lib.hid hK
  have HBW := Lib.hid hBw
  have B0 := Lib.hid ((Below.refl w.heap.size w).alloc (Nat.le_refl _) (.cells #[.bool false, .bool pm, .bool false, .int .i64 pq, .slice Ah nh ch] 33))
  have N0 := Lib.hid (Blk.new w 33 #[.bool false, .bool pm, .bool false, .int .i64 pq, .slice Ah nh ch])
  have X0 := Lib.hid (hx.below B0.out)
  clear hQ hFB hS hK hBw hx
  obtain ⟨n0, n1, n2, n3, n4⟩ := N0.out.five
  have hnl := N0.out.lt
  obtain rfl : at' = 0 := X0.out.new hag
  obtain ⟨hs0, hs1⟩ := hns
  have hok : okSeq pq = true := (okSeq_iff _).2 ⟨hs0, hs1⟩
  have d0 : decide (pq < 0) = false := decide_eq_false (by omega)
  have d1 : decide (4294967296 ≤ pq) = false := decide_eq_false (by omega)
  obtain ⟨AL, nL, cL, AS, nS, cS, AP, nP, cP, hbk, -, -⟩ := X0.out.mem
  have hpl := hbk.lt
  have HPZ := Lib.hid (X0.out.fp)
  have HPW := Lib.hid (HFW.out p X0.out.fp)
  have k0 : (w.alloc (.cells #[.bool false, .bool pm, .bool false, .int .i64 pq, .slice Ah nh ch] 33)).cell? ⟨p, 0, none⟩ = some (.int .i64 x.self) := hbk.cell 0
  have k1 : (w.alloc (.cells #[.bool false, .bool pm, .bool false, .int .i64 pq, .slice Ah nh ch] 33)).cell? ⟨p, 1, none⟩ = some (.int .i64 x.other) := hbk.cell 1
  have k2 : (w.alloc (.cells #[.bool false, .bool pm, .bool false, .int .i64 pq, .slice Ah nh ch] 33)).cell? ⟨p, 2, none⟩ = some (.int .i64 x.seq) := hbk.cell 2
  have k3 : (w.alloc (.cells #[.bool false, .bool pm, .bool false, .int .i64 pq, .slice Ah nh ch] 33)).cell? ⟨p, 3, none⟩ = some (.bool x.agreed) := hbk.cell 3
  rw [hag] at k3
  have KB := Lib.hid hbk
  have OK := Lib.hid X0.out.ok
  clear hbk X0
  have d4 : (pq == x.seq) = true := by simpa using hq
  have d5 : decide (x.other < x.self) = true := decide_eq_true ho
  have HE := Lib.hid (show hearE x ⟨false, pm, false, pq⟩ nh K = (2, beginE x ⟨false, pm, false, pq⟩ K) by
    unfold hearE
    rw [if_neg (by rw [hok]; decide), if_pos hag, if_pos (by unfold agreesE; rw [if_neg (by omega), d5]; simp [hq])])
  have beg_eq : beginE x ⟨false, pm, false, pq⟩ K = sayE (takeE { x with agreed := true, leads := true, K := K } ⟨false, pm, false, pq⟩) := by
    unfold beginE
    rw [d5]
  have BEG := Lib.hid beg_eq
  clear hq beg_eq
  go_enter Try.func14, Try.ntmps14
  go_wp2_with fail
  go_quiet (first | (go_at_call 25; with_reducible exact top_quiet _ _))
  revert nq
  intro q1
  go_wp2_with fail
  go_quiet (fail)
  revert nq
  intro q2
  go_wp2_with fail
  go_quiet (fail)
  revert nq
  intro q3
  simp only [World.drewN_drewN]
  have K3 := Lib.hid (show Blk ((w.alloc (.cells #[.bool false, .bool pm, .bool false, .int .i64 pq, .slice Ah nh ch] 33)).drewN (q1 + q2 + q3)) p 71 (rexC x 0 AL nL cL AS nS cS AP nP cP) from KB.out)
  have N3 := Lib.hid (show Blk ((w.alloc (.cells #[.bool false, .bool pm, .bool false, .int .i64 pq, .slice Ah nh ch] 33)).drewN (q1 + q2 + q3)) w.heap.size 33 #[.bool false, .bool pm, .bool false, .int .i64 pq, .slice Ah nh ch] from N0.out)
  have B3 := Lib.hid (show Below w.heap.size w ((w.alloc (.cells #[.bool false, .bool pm, .bool false, .int .i64 pq, .slice Ah nh ch] 33)).drewN (q1 + q2 + q3)) from belowD B0.out)
  clear n0 n1 n2 n3 n4 hnl k0 k1 k2 k3 hpl KB B0 N0
  generalize (w.alloc (.cells #[.bool false, .bool pm, .bool false, .int .i64 pq, .slice Ah nh ch] 33)).drewN (q1 + q2 + q3) = w3 at *
  clear q1 q2 q3
  obtain ⟨z, hz⟩ : ∃ z, w.heap.size = z := ⟨_, rfl⟩
  rw [hz] at N3 HPW ⊢
  have HZ := Lib.hid hz
  clear hz
  have hpz : p < z := HPW.out
  have hpl := K3.out.lt
  have hzl := N3.out.lt
  have c3 : w3.cell? ⟨p, 3, none⟩ = some (.bool x.agreed) := K3.out.cell 3
  have f3 := K3.out.frozen 3
  have Ka := Lib.hid (K3.out.put 3 (.bool true))
  have Na := Lib.hid (N3.out.far (p := ⟨p, 3, none⟩) (by simp; omega) (.bool true))
  have a4 : (w3.setCell ⟨p, 3, none⟩ (.bool true)).cell? ⟨p, 4, none⟩ = some (.bool x.leads) := Ka.out.cell 4
  have af4 := Ka.out.frozen 4
  have Kb := Lib.hid (Ka.out.put 4 (.bool true))
  have Nb := Lib.hid (Na.out.far (p := ⟨p, 4, none⟩) (by simp; omega) (.bool true))
  have b3 : ((w3.setCell ⟨p, 3, none⟩ (.bool true)).setCell ⟨p, 4, none⟩ (.bool true)).cell? ⟨z, 3, none⟩ = some (.int .i64 pq) := Nb.out.cell 3
  have b2 : ((w3.setCell ⟨p, 3, none⟩ (.bool true)).setCell ⟨p, 4, none⟩ (.bool true)).cell? ⟨p, 2, none⟩ = some (.int .i64 x.seq) := Kb.out.cell 2
  have bf2 := Kb.out.frozen 2
  have Kc := Lib.hid (show Blk (((w3.setCell ⟨p, 3, none⟩ (.bool true)).setCell ⟨p, 4, none⟩ (.bool true)).setCell ⟨p, 2, none⟩ (.int .i64 pq)) p 71 (rexC { x with agreed := true, leads := true, seq := pq } 0 AL nL cL AS nS cS AP nP cP) from Kb.out.put 2 (.int .i64 pq))
  have Nc := Lib.hid (Nb.out.far (p := ⟨p, 2, none⟩) (by simp; omega) (.int .i64 pq))
  have Cc := Lib.hid (((Chg.of_below (F := F) (w := w) (w' := w3) B3.out).trans (chg_put (F := F) (a := ⟨p, 3, none⟩) w3 (.bool true) HPZ.out) (fun q hq => .inl hq)).trans (chg_put (F := F) (a := ⟨p, 4, none⟩) _ (.bool true) HPZ.out) (fun q hq => .inl hq) |>.trans (chg_put (F := F) (a := ⟨p, 2, none⟩) _ (.int .i64 pq) HPZ.out) (fun q hq => .inl hq))
  go_wp2_with fail
  clear c3 f3 a4 af4 b3 b2 bf2 hpl hzl K3 N3 Ka Na Kb Nb B3
  generalize ((w3.setCell ⟨p, 3, none⟩ (.bool true)).setCell ⟨p, 4, none⟩ (.bool true)).setCell ⟨p, 2, none⟩ (.int .i64 pq) = w4 at *
  clear w3
  obtain ⟨hw1, hw2⟩ := i64_add1 hs0 hs1
  have hzl := Nc.out.lt
  have hpl := Kc.out.lt
  have g3 := fun n' os => Go.cell_grown (n := n') (os := os) (a := ⟨z, 3, none⟩) hzl (Nc.out.cell 3)
  have pct : ∀ n' os, Calls Try.prog 25 #[] (Go.Sort.grow (w4.drewN n') os) fun e w'' => e = .returned (.int .i64 4294967296) ∧ ∃ pp : GrownBy, w'' = Go.Sort.grow (w4.drewN pp.n) pp.os := fun n' os => (top_any _).mono fun e w'' ⟨he, hw⟩ => ⟨he, ⟨n', os⟩, hw⟩
  refine region_grown_tail 8 (by kernel_rfl) (by kernel_rfl) ?_
  simp only [List.take_succ_cons, List.take_zero, List.drop_succ_cons, List.drop_zero]
  repeat (quiet_step (first | (go_at_call 25; with_reducible exact pct _ _)))
  refine wpQuiet_nil ?_
  intro _ hw'
  obtain ⟨⟨nq, osq⟩, hw''⟩ := hw'
  subst hw''
  dsimp only
  have BG : Below w4.heap.size w4 (Go.Sort.grow (w4.drewN nq) osq) := grownW
  have Kd := Lib.hid (Kc.out.below BG hpl)
  have Nd := Lib.hid (Nc.out.below BG hzl)
  have Cd := Lib.hid (Cc.out.trans (Chg.of_below (F := F) BG) (fun q hq => .inl hq))
  clear g3 pct hzl hpl BG Kc Nc Cc
  generalize Go.Sort.grow (w4.drewN nq) osq = w5 at *
  clear nq osq w4
  have hpl := Kd.out.lt
  have c2 : w5.cell? ⟨p, 2, none⟩ = some (.int .i64 pq) := Kd.out.cell 2
  have f2 := Kd.out.frozen 2
  have Ke := Lib.hid (show Blk (w5.setCell ⟨p, 2, none⟩ (.int .i64 (up32 pq))) p 71 (rexC { x with agreed := true, leads := true, seq := up32 pq } 0 AL nL cL AS nS cS AP nP cP) from Kd.out.put 2 (.int .i64 (up32 pq)))
  have Ne := Lib.hid (Nd.out.far (p := ⟨p, 2, none⟩) (by simp; omega) (.int .i64 (up32 pq)))
  have Ce := Lib.hid (Cd.out.trans (chg_put (F := F) (a := ⟨p, 2, none⟩) w5 (.int .i64 (up32 pq)) HPZ.out) (fun q hq => .inl hq))
  go_wp2_with fail
  clear c2 f2 hpl Kd Nd Cd
  generalize w5.setCell ⟨p, 2, none⟩ (.int .i64 (up32 pq)) = w6 at *
  clear w5
  have B6 := Lib.hid (Ce.out.to_below HFB.out HBW.out)
  have hz6 := Ce.out.size
  refine (heads_any (HS.out.below B6.out) (Nat.le_trans HBW.out hz6) hn).mono ?_
  rintro e7 w7 ⟨A7, n7, c7, K', rfl, hb7, hO7, hOrd, hStab⟩
  have hKK : K' = K := (stab_unique swo_less HK.out.1 hOrd (HK.out.2.symm.trans hStab)).symm
  subst hKK
  have hl7 := own_lenH encHd_len (by omega) hO7
  have hln : K'.length ≤ 100 := by
    have h1 := told_len HK.out
    have h2 := HS.out.1
    omega
  have Kf := Lib.hid (Ke.out.below hb7 Ke.out.lt)
  have Nf := Lib.hid (Ne.out.below hb7 Ne.out.lt)
  have Cf := Lib.hid (Ce.out.trans (Chg.of_below (F := F) hb7) (fun q hq => .inl hq))
  have H7 := Lib.hid (own_hds hO7)
  clear hb7 hO7 hOrd hStab Ke Ne Ce B6
  go_wp2_with fail
  refine (lay_any H7.out (Nat.le_refl _) (by omega)).mono ?_
  rintro e8 w8 ⟨A8, n8, c8, vs, rfl, hb8, hO8, hcn, hpc⟩
  have Kg := Lib.hid (Kf.out.below hb8 Kf.out.lt)
  have Ng := Lib.hid (Nf.out.below hb8 Nf.out.lt)
  have Cg := Lib.hid (Cf.out.trans (Chg.of_below (F := F) hb8) (fun q hq => .inl hq))
  have hz78 : z < w7.heap.size := Nf.out.lt
  have hs7 := Cf.out.size
  have hs8 := hb8.size
  have LA := Lib.hid (show LaidAt w8 (fun q => z < q ∧ q < w8.heap.size) A8 n8 c8 0 K' from ⟨K', vs, own_base hO8 (Nat.zero_le _), fun g hg => ⟨Nat.lt_of_lt_of_le hz78 (own_base_le hO8 hg), own_ltF hO8 hg⟩, hcn, hpc.move (fun _ _ _ => rfl) (Nat.le_refl _) (fun q hq hl => ⟨Nat.lt_of_lt_of_le hz78 hq.1, hl⟩), (left_zero K').symm, by omega⟩)
  clear hb8 hO8 hcn hpc H7 Kf Nf Cf
  have hpl := Kg.out.lt
  have c16 : w8.cell? ⟨p, 16, none⟩ = some (.slice AP nP cP) := Kg.out.cell 16
  have f16 := Kg.out.frozen 16
  have Kh := Lib.hid (show Blk (w8.setCell ⟨p, 16, none⟩ (.slice A8 n8 c8)) p 71 (rexC { x with agreed := true, leads := true, seq := up32 pq, K := K' } 0 AL nL cL AS nS cS A8 n8 c8) from Kg.out.put 16 (.slice A8 n8 c8))
  have Nh := Lib.hid (Ng.out.far (p := ⟨p, 16, none⟩) (by simp; omega) (.slice A8 n8 c8))
  have Ch := Lib.hid (Cg.out.trans (chg_put (F := F) (a := ⟨p, 16, none⟩) w8 (.slice A8 n8 c8) HPZ.out) (fun q hq => .inl hq))
  have LB := Lib.hid (LA.out.move (w' := w8.setCell ⟨p, 16, none⟩ (.slice A8 n8 c8)) (F' := fun q => z < q ∧ q < w8.heap.size) (fun q hq _ => Below.heap_setCell _ _ _ _ (by show q ≠ p; omega)) (by simp) (fun q hq _ => hq))
  have RH := Lib.hid (show (w8.setCell ⟨p, 16, none⟩ (.slice A8 n8 c8)).rangeAt z 0 [.bool false, .bool pm, .bool false, .int .i64 pq, .slice Ah nh ch] from fun j v hv => by
    rw [Nat.zero_add, Nh.out.cell, ← hv]
    simp)
  go_wp2_with (first | (refine wpList_load_row 33 _ _ (by rfl) (.tmp 4) rfl (by rfl) RH.out Try.underlying33 rfl (by kernel_rfl) ?_) | (refine wpList_store_rlast (i := false) (m := pm) (s := false) (q := pq) (A := Ah) (n := nh) (c := ch) rfl (.tmp 115) (.tmp 113) rfl rfl rfl Kh.out ?_; intro w9 HK9 HC9))
  have K9 := Lib.hid (show Blk w9 p 71 (rexC (takeE { x with agreed := true, leads := true, K := K' } ⟨false, pm, false, pq⟩) 0 Ah nh ch AS nS cS A8 n8 c8) from HK9.out)
  have C9 := Lib.hid (Ch.out.trans (HC9.out.wide (F' := F) (fun q hq => by rw [hq]; exact HPZ.out)) (fun q hq => .inl hq))
  have L9 := Lib.hid (LB.out.move (w' := w9) (F' := fun q => z < q ∧ q < w8.heap.size) (fun q hq hl => HC9.out.block q hl (by show q ≠ p; omega)) HC9.out.size (fun q hq _ => hq))
  have hs9 := HC9.out.size
  have hs98 : w8.heap.size ≤ w9.heap.size := by simpa using hs9
  clear hpl c16 f16 Kh Nh Ch LA LB RH HK9 HC9 Kg Ng Cg
  refine (rsay_any K9.out L9.out (fun q hq => by omega) (by omega)).mono ?_
  rintro e10 w10 ⟨A10, n10, c10, rfl, hb10, hh10, hc10⟩
  go_wp2
  show Q (.returned (.int .i64 2)) _
  rw [← HQ.out, HE.out]
  have hs10 := hc10.size
  have hzw := HZ.out
  refine ⟨rfl, ⟨0, by omega, ?_⟩, C9.out.trans (hc10.wide (F' := F) (fun q hq => by rw [hq]; exact HPZ.out)) (fun q hq => .inl hq)⟩
  refine ⟨OK.out.begin hok (by omega), .inl HPZ.out, fun q hq => ?_, (fun h => by cases h), Ah, nh, ch, A10, n10, c10, A8, n8, c8, ?_, ?_, fun _ => ?_⟩
  · rcases hq with hq | hq
    · have := HFW.out q hq
      have := C9.out.size
      omega
    · exact hq.2
  · rw [BEG.out]
    exact hb10
  · rw [BEG.out]
    exact hh10.move (fun _ _ _ => rfl) (Nat.le_refl _) (fun q hq _ => ⟨.inr (by omega), by omega⟩)
  · rw [BEG.out]
    exact L9.out.move (fun q hq hl => hc10.block q hl (by show q ≠ p; omega)) hs10 (fun q hq _ => ⟨.inr (by omega), by omega⟩)
end Go.Proofs.Ytjinleakjkbbgaa
namespace Go.Proofs.Ytjinleakjkbbgaa
open Go.RowKit Go.Lib Go.Sort Go.Deep
set_option linter.unusedVariables false

set_option maxRecDepth 8000 in
set_option maxHeartbeats 8000000 in
theorem rhear_follow {w : World} {F : Nat → Prop} {p at' : Nat} {x : Ex} (pq : Int) {Ah : Option Addr} {ch : Nat} {A : Option Addr} {n c B : Nat} {S : List La} {K : List Hd} (hx : RexAt w F p x at')
    (hS : Las w B A n S) (hBw : B ≤ w.heap.size) (hFB : ∀ q, F q → B ≤ q) (hn : n ≤ 100) (hK : Told S K) (hat : at' ≤ 900)
    (hns : 0 ≤ pq ∧ pq < 4294967296) (hag : x.agreed = false) (ho : x.self < x.other) :
    Calls Try.prog 14 #[.pointer (some ⟨p, 0, none⟩), .agg #[.bool true, .bool true, .bool true, .int .i64 pq, .slice Ah 0 ch], .slice A n c] w (RhearQ F p at' (hearE x ⟨true, true, true, pq⟩ 0 K) w) := by
  generalize hQ : RhearQ F p at' (hearE x ⟨true, true, true, pq⟩ 0 K) w = Q
  have HQ := Lib.hid hQ
  have HFW := Lib.hid hx.bound
  have HFB := Lib.hid hFB
  have HS := Lib.hid hS
  have HK := Lib.hid hK
  have HBW := Lib.hid hBw
  have B0 := Lib.hid ((Below.refl w.heap.size w).alloc (Nat.le_refl _) (.cells #[.bool true, .bool true, .bool true, .int .i64 pq, .slice Ah 0 ch] 33))
  have N0 := Lib.hid (Blk.new w 33 #[.bool true, .bool true, .bool true, .int .i64 pq, .slice Ah 0 ch])
  have X0 := Lib.hid (hx.below B0.out)
  clear hQ hFB hS hK hBw hx
  obtain ⟨n0, n1, n2, n3, n4⟩ := N0.out.five
  have hnl := N0.out.lt
  obtain rfl : at' = 0 := X0.out.new hag
  obtain ⟨hs0, hs1⟩ := hns
  have hok : okSeq pq = true := (okSeq_iff _).2 ⟨hs0, hs1⟩
  have d0 : decide (pq < 0) = false := decide_eq_false (by omega)
  have d1 : decide (4294967296 ≤ pq) = false := decide_eq_false (by omega)
  obtain ⟨AL, nL, cL, AS, nS, cS, AP, nP, cP, hbk, -, -⟩ := X0.out.mem
  have hpl := hbk.lt
  have HPZ := Lib.hid (X0.out.fp)
  have HPW := Lib.hid (HFW.out p X0.out.fp)
  have k0 : (w.alloc (.cells #[.bool true, .bool true, .bool true, .int .i64 pq, .slice Ah 0 ch] 33)).cell? ⟨p, 0, none⟩ = some (.int .i64 x.self) := hbk.cell 0
  have k1 : (w.alloc (.cells #[.bool true, .bool true, .bool true, .int .i64 pq, .slice Ah 0 ch] 33)).cell? ⟨p, 1, none⟩ = some (.int .i64 x.other) := hbk.cell 1
  have k2 : (w.alloc (.cells #[.bool true, .bool true, .bool true, .int .i64 pq, .slice Ah 0 ch] 33)).cell? ⟨p, 2, none⟩ = some (.int .i64 x.seq) := hbk.cell 2
  have k3 : (w.alloc (.cells #[.bool true, .bool true, .bool true, .int .i64 pq, .slice Ah 0 ch] 33)).cell? ⟨p, 3, none⟩ = some (.bool x.agreed) := hbk.cell 3
  rw [hag] at k3
  have KB := Lib.hid hbk
  have OK := Lib.hid X0.out.ok
  clear hbk X0
  have d5 : decide (x.self < x.other) = true := decide_eq_true ho
  have d6 : decide (x.other < x.self) = false := decide_eq_false (by omega)
  have HE := Lib.hid (show hearE x ⟨true, true, true, pq⟩ 0 K = (2, beginE x ⟨true, true, true, pq⟩ K) by
    unfold hearE
    rw [if_neg (by rw [hok]; decide), if_pos hag, if_pos (by unfold agreesE; rw [if_pos ho]; rfl)])
  have BEG := Lib.hid (show beginE x ⟨true, true, true, pq⟩ K = sayE (takeE { x with agreed := true, leads := false, K := K } ⟨true, true, true, pq⟩) by
    unfold beginE
    rw [d6])
  go_enter Try.func14, Try.ntmps14
  go_wp2_with fail
  go_quiet (first | (go_at_call 25; with_reducible exact top_quiet _ _))
  revert nq
  intro q1
  go_wp2_with fail
  go_quiet (fail)
  revert nq
  intro q2
  go_wp2_with fail
  go_quiet (fail)
  revert nq
  intro q3
  simp only [World.drewN_drewN]
  have K3 := Lib.hid (show Blk ((w.alloc (.cells #[.bool true, .bool true, .bool true, .int .i64 pq, .slice Ah 0 ch] 33)).drewN (q1 + q2 + q3)) p 71 (rexC x 0 AL nL cL AS nS cS AP nP cP) from KB.out)
  have N3 := Lib.hid (show Blk ((w.alloc (.cells #[.bool true, .bool true, .bool true, .int .i64 pq, .slice Ah 0 ch] 33)).drewN (q1 + q2 + q3)) w.heap.size 33 #[.bool true, .bool true, .bool true, .int .i64 pq, .slice Ah 0 ch] from N0.out)
  have B3 := Lib.hid (show Below w.heap.size w ((w.alloc (.cells #[.bool true, .bool true, .bool true, .int .i64 pq, .slice Ah 0 ch] 33)).drewN (q1 + q2 + q3)) from belowD B0.out)
  clear n0 n1 n2 n3 n4 hnl k0 k1 k2 k3 hpl KB B0 N0
  generalize (w.alloc (.cells #[.bool true, .bool true, .bool true, .int .i64 pq, .slice Ah 0 ch] 33)).drewN (q1 + q2 + q3) = w3 at *
  clear q1 q2 q3
  obtain ⟨z, hz⟩ : ∃ z, w.heap.size = z := ⟨_, rfl⟩
  rw [hz] at N3 HPW ⊢
  have HZ := Lib.hid hz
  clear hz
  have hpz : p < z := HPW.out
  have hpl := K3.out.lt
  have hzl := N3.out.lt
  have c3 : w3.cell? ⟨p, 3, none⟩ = some (.bool x.agreed) := K3.out.cell 3
  have f3 := K3.out.frozen 3
  have Ka := Lib.hid (K3.out.put 3 (.bool true))
  have Na := Lib.hid (N3.out.far (p := ⟨p, 3, none⟩) (by simp; omega) (.bool true))
  have a4 : (w3.setCell ⟨p, 3, none⟩ (.bool true)).cell? ⟨p, 4, none⟩ = some (.bool x.leads) := Ka.out.cell 4
  have af4 := Ka.out.frozen 4
  have Kb := Lib.hid (Ka.out.put 4 (.bool false))
  have Nb := Lib.hid (Na.out.far (p := ⟨p, 4, none⟩) (by simp; omega) (.bool false))
  have b3 : ((w3.setCell ⟨p, 3, none⟩ (.bool true)).setCell ⟨p, 4, none⟩ (.bool false)).cell? ⟨z, 3, none⟩ = some (.int .i64 pq) := Nb.out.cell 3
  have b2 : ((w3.setCell ⟨p, 3, none⟩ (.bool true)).setCell ⟨p, 4, none⟩ (.bool false)).cell? ⟨p, 2, none⟩ = some (.int .i64 x.seq) := Kb.out.cell 2
  have bf2 := Kb.out.frozen 2
  have Kc := Lib.hid (show Blk (((w3.setCell ⟨p, 3, none⟩ (.bool true)).setCell ⟨p, 4, none⟩ (.bool false)).setCell ⟨p, 2, none⟩ (.int .i64 pq)) p 71 (rexC { x with agreed := true, leads := false, seq := pq } 0 AL nL cL AS nS cS AP nP cP) from Kb.out.put 2 (.int .i64 pq))
  have Nc := Lib.hid (Nb.out.far (p := ⟨p, 2, none⟩) (by simp; omega) (.int .i64 pq))
  have Cc := Lib.hid (((Chg.of_below (F := F) (w := w) (w' := w3) B3.out).trans (chg_put (F := F) (a := ⟨p, 3, none⟩) w3 (.bool true) HPZ.out) (fun q hq => .inl hq)).trans (chg_put (F := F) (a := ⟨p, 4, none⟩) _ (.bool false) HPZ.out) (fun q hq => .inl hq) |>.trans (chg_put (F := F) (a := ⟨p, 2, none⟩) _ (.int .i64 pq) HPZ.out) (fun q hq => .inl hq))
  go_wp2_with fail
  clear c3 f3 a4 af4 b3 b2 bf2 hpl hzl K3 N3 Ka Na Kb Nb B3
  generalize ((w3.setCell ⟨p, 3, none⟩ (.bool true)).setCell ⟨p, 4, none⟩ (.bool false)).setCell ⟨p, 2, none⟩ (.int .i64 pq) = w4 at *
  clear w3
  have B6 := Lib.hid (Cc.out.to_below HFB.out HBW.out)
  have hz6 := Cc.out.size
  refine (heads_any (HS.out.below B6.out) (Nat.le_trans HBW.out hz6) hn).mono ?_
  rintro e7 w7 ⟨A7, n7, c7, K', rfl, hb7, hO7, hOrd, hStab⟩
  have hKK : K' = K := (stab_unique swo_less HK.out.1 hOrd (HK.out.2.symm.trans hStab)).symm
  subst hKK
  have hl7 := own_lenH encHd_len (by omega) hO7
  have hln : K'.length ≤ 100 := by
    have h1 := told_len HK.out
    have h2 := HS.out.1
    omega
  have Kf := Lib.hid (Kc.out.below hb7 Kc.out.lt)
  have Nf := Lib.hid (Nc.out.below hb7 Nc.out.lt)
  have Cf := Lib.hid (Cc.out.trans (Chg.of_below (F := F) hb7) (fun q hq => .inl hq))
  have H7 := Lib.hid (own_hds hO7)
  clear hb7 hO7 hOrd hStab Kc Nc Cc B6
  go_wp2_with fail
  refine (lay_any H7.out (Nat.le_refl _) (by omega)).mono ?_
  rintro e8 w8 ⟨A8, n8, c8, vs, rfl, hb8, hO8, hcn, hpc⟩
  have Kg := Lib.hid (Kf.out.below hb8 Kf.out.lt)
  have Ng := Lib.hid (Nf.out.below hb8 Nf.out.lt)
  have Cg := Lib.hid (Cf.out.trans (Chg.of_below (F := F) hb8) (fun q hq => .inl hq))
  have hz78 : z < w7.heap.size := Nf.out.lt
  have hs7 := Cf.out.size
  have hs8 := hb8.size
  have LA := Lib.hid (show LaidAt w8 (fun q => z < q ∧ q < w8.heap.size) A8 n8 c8 0 K' from ⟨K', vs, own_base hO8 (Nat.zero_le _), fun g hg => ⟨Nat.lt_of_lt_of_le hz78 (own_base_le hO8 hg), own_ltF hO8 hg⟩, hcn, hpc.move (fun _ _ _ => rfl) (Nat.le_refl _) (fun q hq hl => ⟨Nat.lt_of_lt_of_le hz78 hq.1, hl⟩), (left_zero K').symm, by omega⟩)
  clear hb8 hO8 hcn hpc H7 Kf Nf Cf
  have hpl := Kg.out.lt
  have c16 : w8.cell? ⟨p, 16, none⟩ = some (.slice AP nP cP) := Kg.out.cell 16
  have f16 := Kg.out.frozen 16
  have Kh := Lib.hid (show Blk (w8.setCell ⟨p, 16, none⟩ (.slice A8 n8 c8)) p 71 (rexC { x with agreed := true, leads := false, seq := pq, K := K' } 0 AL nL cL AS nS cS A8 n8 c8) from Kg.out.put 16 (.slice A8 n8 c8))
  have Nh := Lib.hid (Ng.out.far (p := ⟨p, 16, none⟩) (by simp; omega) (.slice A8 n8 c8))
  have Ch := Lib.hid (Cg.out.trans (chg_put (F := F) (a := ⟨p, 16, none⟩) w8 (.slice A8 n8 c8) HPZ.out) (fun q hq => .inl hq))
  have LB := Lib.hid (LA.out.move (w' := w8.setCell ⟨p, 16, none⟩ (.slice A8 n8 c8)) (F' := fun q => z < q ∧ q < w8.heap.size) (fun q hq _ => Below.heap_setCell _ _ _ _ (by show q ≠ p; omega)) (by simp) (fun q hq _ => hq))
  have RH := Lib.hid (show (w8.setCell ⟨p, 16, none⟩ (.slice A8 n8 c8)).rangeAt z 0 [.bool true, .bool true, .bool true, .int .i64 pq, .slice Ah 0 ch] from fun j v hv => by
    rw [Nat.zero_add, Nh.out.cell, ← hv]
    simp)
  go_wp2_with (first | (refine wpList_load_row 33 _ _ (by rfl) (.tmp 4) rfl (by rfl) RH.out Try.underlying33 rfl (by kernel_rfl) ?_) | (refine wpList_store_rlast (i := true) (m := true) (s := true) (q := pq) (A := Ah) (n := 0) (c := ch) rfl (.tmp 115) (.tmp 113) rfl rfl rfl Kh.out ?_; intro w9 HK9 HC9))
  have K9 := Lib.hid (show Blk w9 p 71 (rexC (takeE { x with agreed := true, leads := false, K := K' } ⟨true, true, true, pq⟩) 0 Ah 0 ch AS nS cS A8 n8 c8) from HK9.out)
  have C9 := Lib.hid (Ch.out.trans (HC9.out.wide (F' := F) (fun q hq => by rw [hq]; exact HPZ.out)) (fun q hq => .inl hq))
  have L9 := Lib.hid (LB.out.move (w' := w9) (F' := fun q => z < q ∧ q < w8.heap.size) (fun q hq hl => HC9.out.block q hl (by show q ≠ p; omega)) HC9.out.size (fun q hq _ => hq))
  have hs9 := HC9.out.size
  have hs98 : w8.heap.size ≤ w9.heap.size := by simpa using hs9
  clear hpl c16 f16 Kh Nh Ch LA LB RH HK9 HC9 Kg Ng Cg
  refine (rsay_any K9.out L9.out (fun q hq => by omega) (by omega)).mono ?_
  rintro e10 w10 ⟨A10, n10, c10, rfl, hb10, hh10, hc10⟩
  go_wp2
  show Q (.returned (.int .i64 2)) _
  rw [← HQ.out, HE.out]
  have hs10 := hc10.size
  have hzw := HZ.out
  refine ⟨rfl, ⟨0, by omega, ?_⟩, C9.out.trans (hc10.wide (F' := F) (fun q hq => by rw [hq]; exact HPZ.out)) (fun q hq => .inl hq)⟩
  refine ⟨OK.out.begin hok (by omega), .inl HPZ.out, fun q hq => ?_, (fun h => by cases h), Ah, 0, ch, A10, n10, c10, A8, n8, c8, ?_, ?_, fun _ => ?_⟩
  · rcases hq with hq | hq
    · have := HFW.out q hq
      have := C9.out.size
      omega
    · exact hq.2
  · rw [BEG.out]
    exact hb10
  · rw [BEG.out]
    exact hh10.move (fun _ _ _ => rfl) (Nat.le_refl _) (fun q hq _ => ⟨.inr (by omega), by omega⟩)
  · rw [BEG.out]
    exact L9.out.move (fun q hq hl => hc10.block q hl (by show q ≠ p; omega)) hs10 (fun q hq _ => ⟨.inr (by omega), by omega⟩)
end Go.Proofs.Ytjinleakjkbbgaa
namespace Go.Proofs.Ytjinleakjkbbgaa
open Go.RowKit Go.Lib Go.Sort Go.Deep
set_option linter.unusedVariables false

set_option maxRecDepth 8000 in
set_option maxHeartbeats 8000000 in
theorem rhear_new {w : World} {F : Nat → Prop} {p at' : Nat} {x : Ex} (pc : Pc) {Ah : Option Addr} {nh ch : Nat} {A : Option Addr} {n c B : Nat} {S : List La} {K : List Hd} (hx : RexAt w F p x at')
    (hS : Las w B A n S) (hBw : B ≤ w.heap.size) (hFB : ∀ q, F q → B ≤ q) (hn : n ≤ 100) (hK : Told S K) (hat : at' ≤ 900)
    (hns : 0 ≤ pc.seq ∧ pc.seq < 4294967296) (hag : x.agreed = false) :
    Calls Try.prog 14 #[.pointer (some ⟨p, 0, none⟩), .agg #[.bool pc.init, .bool pc.more, .bool pc.master, .int .i64 pc.seq, .slice Ah nh ch], .slice A n c] w (RhearQ F p at' (hearE x pc nh K) w) := by
  by_cases hb1 : pc.init = false ∧ pc.master = false ∧ pc.seq = x.seq ∧ x.other < x.self
  · obtain ⟨h1, h2, h3, h4⟩ := hb1
    have := rhear_lead pc.more pc.seq (Ah := Ah) (nh := nh) (ch := ch) (c := c) hx hS hBw hFB hn hK hat hns hag h3 h4
    rw [show (⟨false, pc.more, false, pc.seq⟩ : Pc) = pc by obtain ⟨a, b, c, d⟩ := pc; simp_all] at this
    rw [h1, h2]
    exact this
  by_cases hb2 : pc.init = true ∧ pc.more = true ∧ pc.master = true ∧ nh = 0 ∧ x.self < x.other
  · obtain ⟨h1, h2, h3, h4, h5⟩ := hb2
    subst h4
    have := rhear_follow pc.seq (Ah := Ah) (ch := ch) (c := c) hx hS hBw hFB hn hK hat hns hag h5
    rw [show (⟨true, true, true, pc.seq⟩ : Pc) = pc by obtain ⟨a, b, c, d⟩ := pc; simp_all] at this
    rw [h1, h2, h3]
    exact this
  generalize hQ : RhearQ F p at' (hearE x pc nh K) w = Q
  have HQ := Lib.hid hQ
  have HFW := Lib.hid hx.bound
  have HFB := Lib.hid hFB
  have HS := Lib.hid hS
  have HK := Lib.hid hK
  have HBW := Lib.hid hBw
  have B0 := Lib.hid ((Below.refl w.heap.size w).alloc (Nat.le_refl _) (.cells #[.bool pc.init, .bool pc.more, .bool pc.master, .int .i64 pc.seq, .slice Ah nh ch] 33))
  have N0 := Lib.hid (Blk.new w 33 #[.bool pc.init, .bool pc.more, .bool pc.master, .int .i64 pc.seq, .slice Ah nh ch])
  have X0 := Lib.hid (hx.below B0.out)
  clear hQ hFB hS hK hBw hx
  obtain ⟨n0, n1, n2, n3, n4⟩ := N0.out.five
  have hnl := N0.out.lt
  obtain ⟨hs0, hs1⟩ := hns
  have hok : okSeq pc.seq = true := (okSeq_iff _).2 ⟨hs0, hs1⟩
  have d0 : decide (pc.seq < 0) = false := decide_eq_false (by omega)
  have d1 : decide (4294967296 ≤ pc.seq) = false := decide_eq_false (by omega)
  obtain ⟨AL, nL, cL, AS, nS, cS, AP, nP, cP, hbk, -, -⟩ := X0.out.mem
  have hpl := hbk.lt
  have k0 : (w.alloc (.cells #[.bool pc.init, .bool pc.more, .bool pc.master, .int .i64 pc.seq, .slice Ah nh ch] 33)).cell? ⟨p, 0, none⟩ = some (.int .i64 x.self) := hbk.cell 0
  have k1 : (w.alloc (.cells #[.bool pc.init, .bool pc.more, .bool pc.master, .int .i64 pc.seq, .slice Ah nh ch] 33)).cell? ⟨p, 1, none⟩ = some (.int .i64 x.other) := hbk.cell 1
  have k2 : (w.alloc (.cells #[.bool pc.init, .bool pc.more, .bool pc.master, .int .i64 pc.seq, .slice Ah nh ch] 33)).cell? ⟨p, 2, none⟩ = some (.int .i64 x.seq) := hbk.cell 2
  have k3 : (w.alloc (.cells #[.bool pc.init, .bool pc.more, .bool pc.master, .int .i64 pc.seq, .slice Ah nh ch] 33)).cell? ⟨p, 3, none⟩ = some (.bool x.agreed) := hbk.cell 3
  rw [hag] at k3
  have hok' := Lib.hid hok
  obtain ⟨pi, pm, ps, pq⟩ := pc
  dsimp only at *
  cases pi
  · cases ps
    · by_cases hq : pq = x.seq
      · have d4 : (pq == x.seq) = true := by simpa using hq
        by_cases ho : x.other < x.self
        · exact absurd ⟨rfl, rfl, hq, ho⟩ hb1
        · have d5 : decide (x.other < x.self) = false := decide_eq_false ho
          have HE := Lib.hid (show hearE x ⟨false, pm, false, pq⟩ nh K = (0, x) by
            unfold hearE
            rw [if_neg (by rw [hok]; decide), if_pos hag]
            unfold agreesE
            rw [d5]; split <;> simp)
          try clear hq
          try clear hh
          try clear ho
          go_enter Try.func14, Try.ntmps14
          go_wp2_with fail
          go_quiet (first | (go_at_call 25; with_reducible exact top_quiet _ _))
          go_wp2_with fail
          go_quiet (fail)
          go_wp2_with fail
          go_quiet (fail)
          go_wp2
          show Q (.returned (.int .i64 0)) _
          rw [← HQ.out, HE.out]
          exact rhear_stay (X0.out.move (fun _ _ _ => rfl) (Nat.le_refl _)) HFW.out (by repeat (first | exact B0.out | refine belowD ?_))
      · have d4 : (pq == x.seq) = false := by simpa using hq
        have HE := Lib.hid (show hearE x ⟨false, pm, false, pq⟩ nh K = (0, x) by
          unfold hearE
          rw [if_neg (by rw [hok]; decide), if_pos hag]
          unfold agreesE
          split <;> simp [hq])
        try clear hq
        try clear hh
        try clear ho
        go_enter Try.func14, Try.ntmps14
        go_wp2_with fail
        go_quiet (first | (go_at_call 25; with_reducible exact top_quiet _ _))
        go_wp2_with fail
        go_quiet (fail)
        go_wp2_with fail
        go_quiet (fail)
        go_wp2
        show Q (.returned (.int .i64 0)) _
        rw [← HQ.out, HE.out]
        exact rhear_stay (X0.out.move (fun _ _ _ => rfl) (Nat.le_refl _)) HFW.out (by repeat (first | exact B0.out | refine belowD ?_))
    · have HE := Lib.hid (show hearE x ⟨false, pm, true, pq⟩ nh K = (0, x) by
        unfold hearE
        rw [if_neg (by rw [hok]; decide), if_pos hag]
        unfold agreesE
        split <;> simp)
      try clear hq
      try clear hh
      try clear ho
      go_enter Try.func14, Try.ntmps14
      go_wp2_with fail
      go_quiet (first | (go_at_call 25; with_reducible exact top_quiet _ _))
      go_wp2_with fail
      go_quiet (fail)
      go_wp2_with fail
      go_quiet (fail)
      go_wp2
      show Q (.returned (.int .i64 0)) _
      rw [← HQ.out, HE.out]
      exact rhear_stay (X0.out.move (fun _ _ _ => rfl) (Nat.le_refl _)) HFW.out (by repeat (first | exact B0.out | refine belowD ?_))
  · cases pm
    · have HE := Lib.hid (show hearE x ⟨true, false, ps, pq⟩ nh K = (0, x) by
        unfold hearE
        rw [if_neg (by rw [hok]; decide), if_pos hag]
        unfold agreesE
        split <;> simp)
      try clear hq
      try clear hh
      try clear ho
      go_enter Try.func14, Try.ntmps14
      go_wp2_with fail
      go_quiet (first | (go_at_call 25; with_reducible exact top_quiet _ _))
      go_wp2_with fail
      go_quiet (fail)
      go_wp2_with fail
      go_quiet (fail)
      go_wp2
      show Q (.returned (.int .i64 0)) _
      rw [← HQ.out, HE.out]
      exact rhear_stay (X0.out.move (fun _ _ _ => rfl) (Nat.le_refl _)) HFW.out (by repeat (first | exact B0.out | refine belowD ?_))
    · cases ps
      · have HE := Lib.hid (show hearE x ⟨true, true, false, pq⟩ nh K = (0, x) by
          unfold hearE
          rw [if_neg (by rw [hok]; decide), if_pos hag]
          unfold agreesE
          split <;> simp)
        try clear hq
        try clear hh
        try clear ho
        go_enter Try.func14, Try.ntmps14
        go_wp2_with fail
        go_quiet (first | (go_at_call 25; with_reducible exact top_quiet _ _))
        go_wp2_with fail
        go_quiet (fail)
        go_wp2_with fail
        go_quiet (fail)
        go_wp2
        show Q (.returned (.int .i64 0)) _
        rw [← HQ.out, HE.out]
        exact rhear_stay (X0.out.move (fun _ _ _ => rfl) (Nat.le_refl _)) HFW.out (by repeat (first | exact B0.out | refine belowD ?_))
      · by_cases hh : nh = 0
        · have d4 : ((nh : Int) == 0) = true := by simp [hh]
          by_cases ho : x.self < x.other
          · exact absurd ⟨rfl, rfl, rfl, hh, ho⟩ hb2
          · have d5 : decide (x.self < x.other) = false := decide_eq_false ho
            have HE := Lib.hid (show hearE x ⟨true, true, true, pq⟩ nh K = (0, x) by
              unfold hearE
              rw [if_neg (by rw [hok]; decide), if_pos hag]
              unfold agreesE
              rw [if_neg ho]; simp)
            try clear hq
            try clear hh
            try clear ho
            go_enter Try.func14, Try.ntmps14
            go_wp2_with fail
            go_quiet (first | (go_at_call 25; with_reducible exact top_quiet _ _))
            go_wp2_with fail
            go_quiet (fail)
            go_wp2_with fail
            go_quiet (fail)
            go_wp2
            show Q (.returned (.int .i64 0)) _
            rw [← HQ.out, HE.out]
            exact rhear_stay (X0.out.move (fun _ _ _ => rfl) (Nat.le_refl _)) HFW.out (by repeat (first | exact B0.out | refine belowD ?_))
        · have d4 : ((nh : Int) == 0) = false := by simp; omega
          have HE := Lib.hid (show hearE x ⟨true, true, true, pq⟩ nh K = (0, x) by
            unfold hearE
            rw [if_neg (by rw [hok]; decide), if_pos hag]
            unfold agreesE
            split <;> simp [hh])
          try clear hq
          try clear hh
          try clear ho
          go_enter Try.func14, Try.ntmps14
          go_wp2_with fail
          go_quiet (first | (go_at_call 25; with_reducible exact top_quiet _ _))
          go_wp2_with fail
          go_quiet (fail)
          go_wp2_with fail
          go_quiet (fail)
          go_wp2
          show Q (.returned (.int .i64 0)) _
          rw [← HQ.out, HE.out]
          exact rhear_stay (X0.out.move (fun _ _ _ => rfl) (Nat.le_refl _)) HFW.out (by repeat (first | exact B0.out | refine belowD ?_))
end Go.Proofs.Ytjinleakjkbbgaa
