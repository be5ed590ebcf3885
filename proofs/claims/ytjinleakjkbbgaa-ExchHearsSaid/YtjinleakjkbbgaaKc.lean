/- Hear of the reference, agreed on. Conditions: as for Hear of the reference. · Hear of the reference; an exchange and the reference's beside each other. Conditions: what the words say. · The walk of the statement ExchHears. Conditions: what the words say. -/
import Derived.Test.YtjinleakjkbbgaaKb
import Derived.Test.YtjinleakjkbbgaaKa
import Derived.Deep.RegionHeld3
namespace Go.Proofs.Ytjinleakjkbbgaa
open Go.RowKit Go.Lib Go.Sort Go.Deep
set_option linter.unusedVariables false

theorem laid_next {w : World} {F : Nat → Prop} {AP : Option Addr} {nP cP a : Nat} {K : List Hd} (h : LaidAt w F AP nP cP a K) : LaidAt w F AP nP cP (a + 1) (K.drop 3) := by
  obtain ⟨K0, vs, h1, h2, h3, h4, h5, h6⟩ := h
  exact ⟨K0, vs, h1, h2, h3, h4, by rw [h5, left_drop], h6⟩
theorem Blk.eighteen {w : World} {g : Nat} {t : TypeId} {a0 a1 a2 a3 a4 a5 a6 a7 a8 a9 b0 b1 b2 b3 b4 b5 b6 b7 : Value} (h : Blk w g t #[a0, a1, a2, a3, a4, a5, a6, a7, a8, a9, b0, b1, b2, b3, b4, b5, b6, b7]) :
    w.cell? ⟨g, 2, none⟩ = some a2 ∧ w.cell? ⟨g, 3, none⟩ = some a3 ∧ w.cell? ⟨g, 4, none⟩ = some a4 ∧ w.cell? ⟨g, 5, none⟩ = some a5 ∧ w.cell? ⟨g, 6, none⟩ = some a6 ∧ w.cell? ⟨g, 7, none⟩ = some a7 ∧ w.cell? ⟨g, 8, none⟩ = some a8 ∧ w.cell? ⟨g, 9, none⟩ = some a9 ∧ w.cell? ⟨g, 10, none⟩ = some b0 ∧ w.cell? ⟨g, 12, none⟩ = some b2 ∧ w.cell? ⟨g, 17, none⟩ = some b7 :=
  ⟨h.cell 2, h.cell 3, h.cell 4, h.cell 5, h.cell 6, h.cell 7, h.cell 8, h.cell 9, h.cell 10, h.cell 12, h.cell 17⟩
set_option maxRecDepth 8000 in
set_option maxHeartbeats 8000000 in
theorem rhear_on {w : World} {F : Nat → Prop} {p at' : Nat} {x : Ex} (pc : Pc) {Ah : Option Addr} {nh ch : Nat} {A : Option Addr} {n c B : Nat} {S : List La} {K : List Hd} (hx : RexAt w F p x at')
    (hS : Las w B A n S) (hBw : B ≤ w.heap.size) (hFB : ∀ q, F q → B ≤ q) (hn : n ≤ 100) (hK : Told S K) (hat : at' ≤ 900)
    (hns : 0 ≤ pc.seq ∧ pc.seq < 4294967296) (hag : x.agreed = true) :
    Calls Try.prog 14 #[.pointer (some ⟨p, 0, none⟩), .agg #[.bool pc.init, .bool pc.more, .bool pc.master, .int .i64 pc.seq, .slice Ah nh ch], .slice A n c] w (RhearQ F p at' (hearE x pc nh K) w) := by
  generalize hQ : RhearQ F p at' (hearE x pc nh K) w = Q
  have HQ := Lib.hid hQ
  have HFW := Lib.hid hx.bound
  have HFB := Lib.hid hFB
  have HS := Lib.hid hS
  have HK := Lib.hid hK
  have HBW := Lib.hid hBw
  have B0 := Lib.hid ((Below.refl w.heap.size w).alloc (Nat.le_refl _) (.cells #[.bool pc.init, .bool pc.more, .bool pc.master, .int .i64 pc.seq, .slice Ah nh ch] 33))
  have N0 := Lib.hid (Blk.new w 33 #[.bool pc.init, .bool pc.more, .bool pc.master, .int .i64 pc.seq, .slice Ah nh ch])
  have X0 := Lib.hid (hx.below B0.out)
  clear hQ hFB hS hK hBw hx
  obtain ⟨n0, n1, n2, n3, n4⟩ := N0.out.five
  have hnl := N0.out.lt
  obtain ⟨hs0, hs1⟩ := hns
  have hok : okSeq pc.seq = true := (okSeq_iff _).2 ⟨hs0, hs1⟩
  have d0 : decide (pc.seq < 0) = false := decide_eq_false (by omega)
  have d1 : decide (4294967296 ≤ pc.seq) = false := decide_eq_false (by omega)
  obtain ⟨hxs0, hxs1⟩ := (okSeq_iff _).1 X0.out.ok.seq
  have HPZ := Lib.hid (X0.out.fp)
  have HPW := Lib.hid (HFW.out p X0.out.fp)
  have mixed : Try.prog.follows .mixedOrders = true := by kernel_rfl
  have HOK := Lib.hid hok
  have HAG := Lib.hid hag
  clear hok
  go_enter Try.func14, Try.ntmps14
  go_wp2_with fail
  go_quiet (first | (go_at_call 25; with_reducible exact top_quiet _ _))
  have X2 := Lib.hid (show RexAt ((w.alloc (.cells #[.bool pc.init, .bool pc.more, .bool pc.master, .int .i64 pc.seq, .slice Ah nh ch] 33)).drewN nq) F p x at' from X0.out.move (fun _ _ _ => rfl) (Nat.le_refl _))
  have N2 := Lib.hid (show Blk ((w.alloc (.cells #[.bool pc.init, .bool pc.more, .bool pc.master, .int .i64 pc.seq, .slice Ah nh ch] 33)).drewN nq) w.heap.size 33 #[.bool pc.init, .bool pc.more, .bool pc.master, .int .i64 pc.seq, .slice Ah nh ch] from N0.out)
  have B2 := Lib.hid (show Below w.heap.size w ((w.alloc (.cells #[.bool pc.init, .bool pc.more, .bool pc.master, .int .i64 pc.seq, .slice Ah nh ch] 33)).drewN nq) from belowD B0.out)
  clear n0 n1 n2 n3 n4 hnl X0 B0 N0
  generalize (w.alloc (.cells #[.bool pc.init, .bool pc.more, .bool pc.master, .int .i64 pc.seq, .slice Ah nh ch] 33)).drewN nq = w2 at *
  clear nq
  obtain ⟨z, hz⟩ : ∃ z, w.heap.size = z := ⟨_, rfl⟩
  rw [hz] at N2 HPW ⊢
  have HZ := Lib.hid hz
  clear hz
  have hpz : p < z := HPW.out
  obtain ⟨n0, n1, n2, n3, n4⟩ := N2.out.five
  have hnl := N2.out.lt
  obtain ⟨AL, nL, cL, AS, nS, cS, AP, nP, cP, hbk, -, -⟩ := X2.out.mem
  obtain ⟨k2, k3, k4, k5, k6, k7, k8, k9, k10, k12, k17⟩ := Blk.eighteen hbk
  have hpl := hbk.lt
  rw [hag] at k3
  have gz0 := fun n os => cell_grown (n := n) (os := os) hnl n0
  have gz1 := fun n os => cell_grown (n := n) (os := os) hnl n1
  have gz2 := fun n os => cell_grown (n := n) (os := os) hnl n2
  have gz3 := fun n os => cell_grown (n := n) (os := os) hnl n3
  have gz4 := fun n os => cell_grown (n := n) (os := os) hnl n4
  have gp6 := fun n os => cell_grown (n := n) (os := os) hpl k6
  have gp7 := fun n os => cell_grown (n := n) (os := os) hpl k7
  have gp8 := fun n os => cell_grown (n := n) (os := os) hpl k8
  have gp9 := fun n os => cell_grown (n := n) (os := os) hpl k9
  have gp10 := fun n os => cell_grown (n := n) (os := os) hpl k10
  have p1 := fun n os => Calls.grown_of (alike_any pc x.took Ah AL nh ch nL cL (grow (w2.drewN n) os))
  obtain ⟨v, hv⟩ : ∃ v, decide (pc = x.took) = v := ⟨_, rfl⟩
  rw [hv] at p1
  have HV := Lib.hid hv
  clear hv
  go_wp2_with fail
  go_quiet_grown (first | (go_at_call 33; with_reducible exact p1 _ _))
  have BG : Below w2.heap.size w2 (grow (w2.drewN nq) osq) := below_grown13 ⟨nq, osq, rfl⟩
  have X3 := Lib.hid (X2.out.below BG)
  have N3 := Lib.hid (N2.out.below BG hnl)
  have B3 := Lib.hid (B2.out.trans (BG.mono B2.out.size))
  clear gz0 gz1 gz2 gz3 gz4 gp6 gp7 gp8 gp9 gp10 p1 n0 n1 n2 n3 n4 hnl k2 k3 k4 k5 k6 k7 k8 k9 k10 k12 k17 hpl hbk BG X2 N2 B2
  generalize grow (w2.drewN nq) osq = w3 at *
  clear nq osq w2
  obtain ⟨AL, nL, cL, AS, nS, cS, AP, nP, cP, hbk, hhd, hld⟩ := X3.out.mem
  have LD := Lib.hid (hld hag)
  have KB := Lib.hid hbk
  obtain ⟨k2, k3, k4, k5, k6, k7, k8, k9, k10, k12, k17⟩ := Blk.eighteen hbk
  have hpl := hbk.lt
  have HH := Lib.hid hhd
  have OK := Lib.hid X3.out.ok
  clear hbk hhd hld k3 k6 k7 k8 k9 k10
  cases v
  case true =>
    have hpt : pc = x.took := of_decide_eq_true HV.out
    cases hld : x.leads
    · rw [hld] at k4
      have HE := Lib.hid (show hearE x pc nh K = (1, x) by
        unfold hearE
        rw [if_neg (by rw [HOK.out]; decide), if_neg (by rw [hag]; decide), if_pos hpt, if_neg (by rw [hld]; decide)])
      clear hpt hld
      go_wp2
      show Q (.returned (.int .i64 1)) _
      rw [← HQ.out, HE.out]
      exact rhear_stay X3.out HFW.out B3.out
    · rw [hld] at k4
      have HE := Lib.hid (show hearE x pc nh K = (0, x) by
        unfold hearE
        rw [if_neg (by rw [HOK.out]; decide), if_neg (by rw [hag]; decide), if_pos hpt, if_pos hld])
      clear hpt hld
      go_wp2
      show Q (.returned (.int .i64 0)) _
      rw [← HQ.out, HE.out]
      exact rhear_stay X3.out HFW.out B3.out
  case false =>
    have hpt : ¬ pc = x.took := of_decide_eq_false HV.out
    have HPT := Lib.hid hpt
    clear hpt
    obtain ⟨n0, n1, n2, n3, n4⟩ := N3.out.five
    have hnl := N3.out.lt
    cases hld : x.leads
    · rw [hld] at k4
      obtain ⟨hw1, hw2⟩ := i64_add1 hxs0 hxs1
      cases hdn : x.done
      case true =>
        rw [hdn] at k5
        have HE := Lib.hid (show hearE x pc nh K = (3, x) by
          unfold hearE
          rw [if_neg (by rw [HOK.out]; decide), if_neg (by rw [hag]; decide), if_neg HPT.out, if_neg (by unfold fitsE; rw [hdn]; simp)])
        clear hdn hld
        go_wp2_with fail
        go_quiet (first | (go_at_call 25; with_reducible exact top_quiet _ _))
        revert nq
        intro q1
        go_wp2_with fail
        go_quiet (fail)
        go_wp2
        show Q (.returned (.int .i64 3)) _
        rw [← HQ.out, HE.out]
        exact rhear_stay (X3.out.move (fun _ _ _ => rfl) (Nat.le_refl _)) HFW.out (by repeat (first | exact B3.out | refine belowD ?_))
      case false =>
        rw [hdn] at k5
        cases hin : pc.init
        case true =>
          rw [hin] at n0
          have HE := Lib.hid (show hearE x pc nh K = (3, x) by
            unfold hearE
            rw [if_neg (by rw [HOK.out]; decide), if_neg (by rw [hag]; decide), if_neg HPT.out, if_neg (by unfold fitsE; rw [hdn, hin]; simp)])
          clear hdn hld hin
          go_wp2_with fail
          go_quiet (first | (go_at_call 25; with_reducible exact top_quiet _ _))
          revert nq
          intro q1
          go_wp2_with fail
          go_quiet (fail)
          go_wp2
          show Q (.returned (.int .i64 3)) _
          rw [← HQ.out, HE.out]
          exact rhear_stay (X3.out.move (fun _ _ _ => rfl) (Nat.le_refl _)) HFW.out (by repeat (first | exact B3.out | refine belowD ?_))
        case false =>
          rw [hin] at n0
          cases hms : pc.master
          case false =>
            rw [hms] at n2
            have HE := Lib.hid (show hearE x pc nh K = (3, x) by
              unfold hearE
              rw [if_neg (by rw [HOK.out]; decide), if_neg (by rw [hag]; decide), if_neg HPT.out, if_neg (by unfold fitsE; rw [hdn, hin, hms, hld]; simp)])
            clear hdn hld hin hms
            go_wp2_with fail
            go_quiet (first | (go_at_call 25; with_reducible exact top_quiet _ _))
            revert nq
            intro q1
            go_wp2_with fail
            go_quiet (fail)
            go_wp2
            show Q (.returned (.int .i64 3)) _
            rw [← HQ.out, HE.out]
            exact rhear_stay (X3.out.move (fun _ _ _ => rfl) (Nat.le_refl _)) HFW.out (by repeat (first | exact B3.out | refine belowD ?_))
          case true =>
            rw [hms] at n2
            by_cases hsq : pc.seq = up32 x.seq
            · have d7 : (pc.seq != up32 x.seq) = false := by simp [hsq]
              have HSQ := Lib.hid hsq
              have HE := Lib.hid (show hearE x pc nh K = (2, goOnE x pc) by
                unfold hearE
                rw [if_neg (by rw [HOK.out]; decide), if_neg (by rw [hag]; decide), if_neg HPT.out, if_pos (by unfold fitsE; rw [hdn, hin, hms, hld]; simp [hsq])])
              have HLD := Lib.hid hld
              have HDN := Lib.hid hdn
              clear hdn hld hin hms hsq
              go_wp2_with fail
              go_quiet (first | (go_at_call 25; with_reducible exact top_quiet _ _))
              revert nq
              intro q1
              go_wp2_with fail
              go_quiet (fail)
              simp only [World.drewN_drewN]
              have K4 := Lib.hid (show Blk (w3.drewN (q1 + nq)) p 71 (rexC x at' AL nL cL AS nS cS AP nP cP) from KB.out)
              have N4 := Lib.hid (show Blk (w3.drewN (q1 + nq)) z 33 #[.bool pc.init, .bool pc.more, .bool pc.master, .int .i64 pc.seq, .slice Ah nh ch] from N3.out)
              have B4 := Lib.hid (show Below w.heap.size w (w3.drewN (q1 + nq)) from belowD B3.out)
              have L4 := Lib.hid (show LaidAt (w3.drewN (q1 + nq)) (fun q => F q ∧ q ≠ p) AP nP cP at' x.K from LD.out.move (fun _ _ _ => rfl) (Nat.le_refl _) (fun q hq _ => hq))
              have H4 := Lib.hid (show HdsOn (w3.drewN (q1 + nq)) (fun q => F q ∧ q ≠ p) AS nS (x.K.take 3) from HH.out.move (fun _ _ _ => rfl) (Nat.le_refl _) (fun q hq _ => hq))
              clear k2 k4 k5 k12 k17 hpl n0 n1 n2 n3 n4 hnl KB N3 B3 LD HH X3 d7
              generalize w3.drewN (q1 + nq) = w4 at *
              clear w3
              have R4 := Lib.hid (show w4.rangeAt z 0 [.bool pc.init, .bool pc.more, .bool pc.master, .int .i64 pc.seq, .slice Ah nh ch] from fun j v hv => by
                rw [Nat.zero_add, N4.out.cell, ← hv]
                simp)
              have hpl4 := K4.out.lt
              go_wp2_with (first | (refine wpList_load_row 33 _ _ (by rfl) (.tmp 4) rfl (by rfl) R4.out Try.underlying33 rfl (by kernel_rfl) ?_) | (refine wpList_store_rlast (i := pc.init) (m := pc.more) (s := pc.master) (q := pc.seq) (A := Ah) (n := nh) (c := ch) rfl (.tmp 170) (.tmp 168) rfl rfl rfl K4.out ?_; intro w5 HK5 HC5; have K5 := Lib.hid (show Blk w5 p 71 (rexC { x with took := pc } at' Ah nh ch AS nS cS AP nP cP) from HK5.out); have N5 := Lib.hid (N4.out.chg HC5.out (by omega)); have hpl := K5.out.lt; have hzl := N5.out.lt; have c4 : w5.cell? ⟨p, 4, none⟩ = some (.bool x.leads) := K5.out.cell 4; rw [HLD.out] at c4; have z3 : w5.cell? ⟨z, 3, none⟩ = some (.int .i64 pc.seq) := N5.out.cell 3; have c2 : w5.cell? ⟨p, 2, none⟩ = some (.int .i64 x.seq) := K5.out.cell 2; have f2 := K5.out.frozen 2; have c17 : (w5.setCell ⟨p, 2, none⟩ (.int .i64 pc.seq)).cell? ⟨p, 17, none⟩ = some (.int .i64 at') := (K5.out.put 2 (.int .i64 pc.seq)).cell 17; have f17 := (K5.out.put 2 (.int .i64 pc.seq)).frozen 17))
              have K7 := Lib.hid (show Blk ((w5.setCell ⟨p, 2, none⟩ (.int .i64 pc.seq)).setCell ⟨p, 17, none⟩ (.int .i64 ((at' : Int) + 1))) p 71 (rexC { x with took := pc, seq := pc.seq, K := x.K.drop 3 } (at' + 1) Ah nh ch AS nS cS AP nP cP) from (K5.out.put 2 (.int .i64 pc.seq)).put 17 (.int .i64 ((at' : Int) + 1)))
              have C75 := ((HC5.out.trans (chg_put (F := fun q => q = p) (a := ⟨p, 2, none⟩) w5 (.int .i64 pc.seq) rfl) (fun q hq => .inl hq)).trans (chg_put (F := fun q => q = p) (a := ⟨p, 17, none⟩) _ (.int .i64 ((at' : Int) + 1)) rfl) (fun q hq => .inl hq))
              have N7 := Lib.hid (N4.out.chg C75 (by omega))
              have L7 := Lib.hid (laid_next (L4.out.move (fun q hq hl => C75.block q hl hq.2) C75.size (fun q hq _ => hq)))
              have C7 := Lib.hid ((Chg.of_below (F := F) B4.out).trans (C75.wide (F' := F) (fun q hq => by rw [hq]; exact HPZ.out)) (fun q hq => .inl hq))
              clear hpl hzl c4 z3 c2 f2 c17 f17 C75 K5 N5 HK5 HC5 K4 N4 B4 L4 H4 R4 hpl4
              generalize (w5.setCell ⟨p, 2, none⟩ (.int .i64 pc.seq)).setCell ⟨p, 17, none⟩ (.int .i64 ((at' : Int) + 1)) = w7 at *
              clear w5 w4
              refine (rsay_any K7.out L7.out (fun q hq => hq.2) (by omega)).mono ?_
              rintro e8 w8 ⟨AS8, nS8, cS8, rfl, hb8, hh8, hc8⟩
              have K8 := Lib.hid hb8
              have H8 := Lib.hid hh8
              have N8 := Lib.hid (N7.out.chg hc8 (by omega))
              have L8 := Lib.hid (L7.out.move (fun q hq hl => hc8.block q hl hq.2) hc8.size (fun q hq _ => hq))
              have C8 := Lib.hid (C7.out.trans (hc8.wide (F' := F) (fun q hq => by rw [hq]; exact HPZ.out)) (fun q hq => .inl hq))
              clear hb8 hh8 hc8 K7 N7 L7 C7 w7
              obtain ⟨b, hb⟩ : ∃ b, decide (3 < (x.K.drop 3).length) = b := ⟨_, rfl⟩
              have hpl := K8.out.lt
              have hzl := N8.out.lt
              have z1 : w8.cell? ⟨z, 1, none⟩ = some (.bool pc.more) := N8.out.cell 1
              have c12 : w8.cell? ⟨p, 12, none⟩ = some (.bool (decide (3 < (x.K.drop 3).length))) := K8.out.cell 12
              have c5 : w8.cell? ⟨p, 5, none⟩ = some (.bool x.done) := K8.out.cell 5
              have f5 := K8.out.frozen 5
              rw [hb] at c12
              obtain ⟨dn, hdn⟩ : ∃ dn, (!pc.more && !b) = dn := ⟨_, rfl⟩
              have HG := Lib.hid (show goOnE x pc = { sayE { x with took := pc, seq := pc.seq, K := x.K.drop 3 } with done := dn } by
                unfold goOnE stepE takeE sayE
                rw [HLD.out]
                simp [← hdn, ← hb])
              have KL := Lib.hid (show Blk (w8.setCell ⟨p, 5, none⟩ (.bool dn)) p 71 (rexC { sayE { x with took := pc, seq := pc.seq, K := x.K.drop 3 } with done := dn } (at' + 1) Ah nh ch AS8 nS8 cS8 AP nP cP) from K8.out.put 5 (.bool dn))
              have CL := Lib.hid (C8.out.trans (chg_put (F := F) (a := ⟨p, 5, none⟩) w8 (.bool dn) HPZ.out) (fun q hq => .inl hq))
              have HL10 := Lib.hid (show HdsOn (w8.setCell ⟨p, 5, none⟩ (.bool dn)) (fun q => F q ∧ q ≠ p) AS8 nS8 ((x.K.drop 3).take 3) from H8.out.move (fun q hq _ => Below.heap_setCell _ _ _ _ hq.2) (by simp) (fun q hq _ => hq))
              have LL := Lib.hid (show LaidAt (w8.setCell ⟨p, 5, none⟩ (.bool dn)) (fun q => F q ∧ q ≠ p) AP nP cP (at' + 1) (x.K.drop 3) from L8.out.move (fun q hq _ => Below.heap_setCell _ _ _ _ hq.2) (by simp) (fun q hq _ => hq))
              clear K8 H8 N8 L8 C8 hb
              cases hmo : pc.more
              all_goals
                rw [hmo] at hdn z1
                clear hmo
                cases b
                all_goals
                  simp at hdn
                  subst hdn
                  go_wp2
                  have hgx := HG.out
                  have C10 := CL.out
                  have hs10 := C10.size
                  show Q (.returned (.int .i64 2)) _
                  rw [← HQ.out, HE.out]
                  refine ⟨rfl, ⟨at' + 1, by omega, ?_⟩, C10⟩
                  refine ⟨OK.out.goOn HOK.out, .inl HPZ.out, fun q hq => ?_, fun h => ?_, Ah, nh, ch, AS8, nS8, cS8, AP, nP, cP, ?_, ?_, fun _ => ?_⟩
                  · rcases hq with hq | hq
                    · have := HFW.out q hq
                      omega
                    · exact hq.2
                  · rw [hgx] at h
                    have h : x.agreed = false := h
                    rw [HAG.out] at h
                    cases h
                  · rw [hgx]
                    exact KL.out
                  · rw [hgx]
                    exact HL10.out.move (fun _ _ _ => rfl) (Nat.le_refl _) (fun q hq _ => ⟨.inl hq.1, hq.2⟩)
                  · rw [hgx]
                    exact LL.out.move (fun _ _ _ => rfl) (Nat.le_refl _) (fun q hq _ => ⟨.inl hq.1, hq.2⟩)
            · have d7 : (pc.seq != up32 x.seq) = true := by simpa using hsq
              have HE := Lib.hid (show hearE x pc nh K = (3, x) by
                unfold hearE
                rw [if_neg (by rw [HOK.out]; decide), if_neg (by rw [hag]; decide), if_neg HPT.out, if_neg (by unfold fitsE; rw [hdn, hin, hms, hld]; simp [hsq])])
              clear hdn hld hin hms hsq
              go_wp2_with fail
              go_quiet (first | (go_at_call 25; with_reducible exact top_quiet _ _))
              revert nq
              intro q1
              go_wp2_with fail
              go_quiet (fail)
              go_wp2
              show Q (.returned (.int .i64 3)) _
              rw [← HQ.out, HE.out]
              exact rhear_stay (X3.out.move (fun _ _ _ => rfl) (Nat.le_refl _)) HFW.out (by repeat (first | exact B3.out | refine belowD ?_))
    · rw [hld] at k4
      cases hdn : x.done
      case true =>
        rw [hdn] at k5
        have HE := Lib.hid (show hearE x pc nh K = (3, x) by
          unfold hearE
          rw [if_neg (by rw [HOK.out]; decide), if_neg (by rw [hag]; decide), if_neg HPT.out, if_neg (by unfold fitsE; rw [hdn]; simp)])
        clear hdn hld
        go_wp2_with fail
        go_quiet (fail)
        go_wp2
        show Q (.returned (.int .i64 3)) _
        rw [← HQ.out, HE.out]
        exact rhear_stay (X3.out.move (fun _ _ _ => rfl) (Nat.le_refl _)) HFW.out (by repeat (first | exact B3.out | refine belowD ?_))
      case false =>
        rw [hdn] at k5
        cases hin : pc.init
        case true =>
          rw [hin] at n0
          have HE := Lib.hid (show hearE x pc nh K = (3, x) by
            unfold hearE
            rw [if_neg (by rw [HOK.out]; decide), if_neg (by rw [hag]; decide), if_neg HPT.out, if_neg (by unfold fitsE; rw [hdn, hin]; simp)])
          clear hdn hld hin
          go_wp2_with fail
          go_quiet (fail)
          go_wp2
          show Q (.returned (.int .i64 3)) _
          rw [← HQ.out, HE.out]
          exact rhear_stay (X3.out.move (fun _ _ _ => rfl) (Nat.le_refl _)) HFW.out (by repeat (first | exact B3.out | refine belowD ?_))
        case false =>
          rw [hin] at n0
          cases hms : pc.master
          case true =>
            rw [hms] at n2
            have HE := Lib.hid (show hearE x pc nh K = (3, x) by
              unfold hearE
              rw [if_neg (by rw [HOK.out]; decide), if_neg (by rw [hag]; decide), if_neg HPT.out, if_neg (by unfold fitsE; rw [hdn, hin, hms, hld]; simp)])
            clear hdn hld hin hms
            go_wp2_with fail
            go_quiet (fail)
            go_wp2
            show Q (.returned (.int .i64 3)) _
            rw [← HQ.out, HE.out]
            exact rhear_stay (X3.out.move (fun _ _ _ => rfl) (Nat.le_refl _)) HFW.out (by repeat (first | exact B3.out | refine belowD ?_))
          case false =>
            rw [hms] at n2
            by_cases hsq : pc.seq = x.seq
            · have d7 : (pc.seq != x.seq) = false := by simp [hsq]
              have HSQ := Lib.hid hsq
              have HE := Lib.hid (show hearE x pc nh K = (2, goOnE x pc) by
                unfold hearE
                rw [if_neg (by rw [HOK.out]; decide), if_neg (by rw [hag]; decide), if_neg HPT.out, if_pos (by unfold fitsE; rw [hdn, hin, hms, hld]; simp [hsq])])
              have HLD := Lib.hid hld
              have HDN := Lib.hid hdn
              clear hdn hld hin hms hsq
              go_wp2_with fail
              go_quiet (fail)
              have K4 := Lib.hid (show Blk (w3.drewN nq) p 71 (rexC x at' AL nL cL AS nS cS AP nP cP) from KB.out)
              have N4 := Lib.hid (show Blk (w3.drewN nq) z 33 #[.bool pc.init, .bool pc.more, .bool pc.master, .int .i64 pc.seq, .slice Ah nh ch] from N3.out)
              have B4 := Lib.hid (show Below w.heap.size w (w3.drewN nq) from belowD B3.out)
              have L4 := Lib.hid (show LaidAt (w3.drewN nq) (fun q => F q ∧ q ≠ p) AP nP cP at' x.K from LD.out.move (fun _ _ _ => rfl) (Nat.le_refl _) (fun q hq _ => hq))
              have H4 := Lib.hid (show HdsOn (w3.drewN nq) (fun q => F q ∧ q ≠ p) AS nS (x.K.take 3) from HH.out.move (fun _ _ _ => rfl) (Nat.le_refl _) (fun q hq _ => hq))
              clear k2 k4 k5 k12 k17 hpl n0 n1 n2 n3 n4 hnl KB N3 B3 LD HH X3 d7
              generalize w3.drewN nq = w4 at *
              clear w3
              have R4 := Lib.hid (show w4.rangeAt z 0 [.bool pc.init, .bool pc.more, .bool pc.master, .int .i64 pc.seq, .slice Ah nh ch] from fun j v hv => by
                rw [Nat.zero_add, N4.out.cell, ← hv]
                simp)
              have hpl4 := K4.out.lt
              go_wp2_with (first | (refine wpList_load_row 33 _ _ (by rfl) (.tmp 4) rfl (by rfl) R4.out Try.underlying33 rfl (by kernel_rfl) ?_) | (refine wpList_store_rlast (i := pc.init) (m := pc.more) (s := pc.master) (q := pc.seq) (A := Ah) (n := nh) (c := ch) rfl (.tmp 170) (.tmp 168) rfl rfl rfl K4.out ?_; intro w5 HK5 HC5; have K5 := Lib.hid (show Blk w5 p 71 (rexC { x with took := pc } at' Ah nh ch AS nS cS AP nP cP) from HK5.out); have N5 := Lib.hid (N4.out.chg HC5.out (by omega)); have hpl := K5.out.lt; have c4 : w5.cell? ⟨p, 4, none⟩ = some (.bool x.leads) := K5.out.cell 4; rw [HLD.out] at c4))
              obtain ⟨hw1, hw2⟩ := i64_add1 hxs0 hxs1
              have k2' : w5.cell? ⟨p, 2, none⟩ = some (.int .i64 x.seq) := K5.out.cell 2
              have g2 := fun n' os => Go.cell_grown (n := n') (os := os) (a := ⟨p, 2, none⟩) hpl k2'
              have pct : ∀ n' os, Calls Try.prog 25 #[] (Go.Sort.grow (w5.drewN n') os) fun e w'' => e = .returned (.int .i64 4294967296) ∧ ∃ pp : GrownBy, w'' = Go.Sort.grow (w5.drewN pp.n) pp.os := fun n' os => (top_any _).mono fun e w'' ⟨he, hw⟩ => ⟨he, ⟨n', os⟩, hw⟩
              refine region_grown_tail 10 (by kernel_rfl) (by kernel_rfl) ?_
              simp only [List.take_succ_cons, List.take_zero, List.drop_succ_cons, List.drop_zero]
              repeat (quiet_step (first | (go_at_call 25; with_reducible exact pct _ _)))
              refine wpQuiet_nil ?_
              intro _ hw'
              obtain ⟨⟨nq2, osq⟩, hw''⟩ := hw'
              subst hw''
              dsimp only
              have BG : Below w5.heap.size w5 (Go.Sort.grow (w5.drewN nq2) osq) := grownW
              have K6 := Lib.hid (K5.out.below BG hpl)
              have N6 := Lib.hid (N5.out.below BG N5.out.lt)
              have C56 := HC5.out.trans (Chg.of_below (F := fun q => q = p) BG) (fun q hq => .inl hq)
              have L6 := Lib.hid (L4.out.move (F' := fun q => F q ∧ q ≠ p) (fun q hq hl => C56.block q hl hq.2) C56.size (fun q hq _ => hq))
              have H6 := Lib.hid (H4.out.move (F' := fun q => F q ∧ q ≠ p) (fun q hq hl => C56.block q hl hq.2) C56.size (fun q hq _ => hq))
              have C6 := Lib.hid ((Chg.of_below (F := F) B4.out).trans (C56.wide (F' := F) (fun q hq => by rw [hq]; exact HPZ.out)) (fun q hq => .inl hq))
              clear g2 k2' pct hpl BG C56 K5 N5 HK5 HC5 K4 N4 B4 L4 H4 R4 hpl4 c4
              generalize Go.Sort.grow (w5.drewN nq2) osq = w6 at *
              clear nq2 osq w5 w4
              have hpl := K6.out.lt
              have hzl := N6.out.lt
              have c2 : w6.cell? ⟨p, 2, none⟩ = some (.int .i64 x.seq) := K6.out.cell 2
              have f2 := K6.out.frozen 2
              have K7 := Lib.hid (show Blk (w6.setCell ⟨p, 2, none⟩ (.int .i64 (up32 x.seq))) p 71 (rexC { x with took := pc, seq := up32 x.seq } at' Ah nh ch AS nS cS AP nP cP) from K6.out.put 2 (.int .i64 (up32 x.seq)))
              have N7 := Lib.hid (N6.out.far (p := ⟨p, 2, none⟩) (by simp; omega) (.int .i64 (up32 x.seq)))
              have C7 := Lib.hid (C6.out.trans (chg_put (F := F) (a := ⟨p, 2, none⟩) w6 (.int .i64 (up32 x.seq)) HPZ.out) (fun q hq => .inl hq))
              have L7 := Lib.hid (L6.out.move (w' := w6.setCell ⟨p, 2, none⟩ (.int .i64 (up32 x.seq))) (F' := fun q => F q ∧ q ≠ p) (fun q hq _ => Below.heap_setCell _ _ _ _ hq.2) (by simp) (fun q hq _ => hq))
              have H7 := Lib.hid (H6.out.move (w' := w6.setCell ⟨p, 2, none⟩ (.int .i64 (up32 x.seq))) (F' := fun q => F q ∧ q ≠ p) (fun q hq _ => Below.heap_setCell _ _ _ _ hq.2) (by simp) (fun q hq _ => hq))
              have z1 : (w6.setCell ⟨p, 2, none⟩ (.int .i64 (up32 x.seq))).cell? ⟨z, 1, none⟩ = some (.bool pc.more) := N7.out.cell 1
              have c12 : (w6.setCell ⟨p, 2, none⟩ (.int .i64 (up32 x.seq))).cell? ⟨p, 12, none⟩ = some (.bool x.said.more) := K7.out.cell 12
              have c5 : (w6.setCell ⟨p, 2, none⟩ (.int .i64 (up32 x.seq))).cell? ⟨p, 5, none⟩ = some (.bool x.done) := K7.out.cell 5
              have c17 : (w6.setCell ⟨p, 2, none⟩ (.int .i64 (up32 x.seq))).cell? ⟨p, 17, none⟩ = some (.int .i64 at') := K7.out.cell 17
              have f5 := K7.out.frozen 5
              have f17 := K7.out.frozen 17
              clear K6 N6 L6 H6 C6
              by_cases hq : pc.more = false ∧ x.said.more = false
              · obtain ⟨hq1, hq2⟩ := hq
                rw [hq1] at z1
                rw [hq2] at c12
                have HG := Lib.hid (show goOnE x pc = { x with took := pc, seq := up32 x.seq, done := true } by
                  unfold goOnE takeE
                  rw [HLD.out, hq1, hq2]
                  simp [HSQ.out])
                have KL := Lib.hid (show Blk ((w6.setCell ⟨p, 2, none⟩ (.int .i64 (up32 x.seq))).setCell ⟨p, 5, none⟩ (.bool true)) p 71 (rexC { x with took := pc, seq := up32 x.seq, done := true } at' Ah nh ch AS nS cS AP nP cP) from K7.out.put 5 (.bool true))
                have CL := Lib.hid (C7.out.trans (chg_put (F := F) (a := ⟨p, 5, none⟩) _ (.bool true) HPZ.out) (fun q hq => .inl hq))
                have HL10 := Lib.hid (H7.out.move (w' := (w6.setCell ⟨p, 2, none⟩ (.int .i64 (up32 x.seq))).setCell ⟨p, 5, none⟩ (.bool true)) (F' := fun q => F q ∧ q ≠ p) (fun q hq _ => Below.heap_setCell _ _ _ _ hq.2) (by simp) (fun q hq _ => hq))
                have LL := Lib.hid (L7.out.move (w' := (w6.setCell ⟨p, 2, none⟩ (.int .i64 (up32 x.seq))).setCell ⟨p, 5, none⟩ (.bool true)) (F' := fun q => F q ∧ q ≠ p) (fun q hq _ => Below.heap_setCell _ _ _ _ hq.2) (by simp) (fun q hq _ => hq))
                clear hq1 hq2 K7 N7 C7 L7 H7
                go_wp2
                have hgx := HG.out
                have C10 := CL.out
                have hs10 := C10.size
                show Q (.returned (.int .i64 2)) _
                rw [← HQ.out, HE.out]
                refine ⟨rfl, ⟨at', by omega, ?_⟩, C10⟩
                refine ⟨OK.out.goOn HOK.out, .inl HPZ.out, fun q hq => ?_, fun h => ?_, Ah, nh, ch, AS, nS, cS, AP, nP, cP, ?_, ?_, fun _ => ?_⟩
                · rcases hq with hq | hq
                  · have := HFW.out q hq
                    omega
                  · exact hq.2
                · rw [hgx] at h
                  have h : x.agreed = false := h
                  rw [HAG.out] at h
                  cases h
                · rw [hgx]
                  exact KL.out
                · rw [hgx]
                  exact HL10.out.move (fun _ _ _ => rfl) (Nat.le_refl _) (fun q hq _ => ⟨.inl hq.1, hq.2⟩)
                · rw [hgx]
                  exact LL.out.move (fun _ _ _ => rfl) (Nat.le_refl _) (fun q hq _ => ⟨.inl hq.1, hq.2⟩)
              · have hv : (!pc.more && !x.said.more) = false := by
                  cases h1 : pc.more <;> cases h2 : x.said.more <;> simp_all
                have HG := Lib.hid (show goOnE x pc = sayE { x with took := pc, seq := up32 x.seq, K := x.K.drop 3 } by
                  unfold goOnE stepE takeE sayE
                  have hv2 : (x.leads && !pc.more && !x.said.more) = false := by rw [Bool.and_assoc, hv, Bool.and_false]
                  rw [if_neg (by rw [hv2]; decide)]
                  simp [HLD.out, HDN.out, HSQ.out])
                have K8 := Lib.hid (show Blk ((w6.setCell ⟨p, 2, none⟩ (.int .i64 (up32 x.seq))).setCell ⟨p, 17, none⟩ (.int .i64 ((at' : Int) + 1))) p 71 (rexC { x with took := pc, seq := up32 x.seq, K := x.K.drop 3 } (at' + 1) Ah nh ch AS nS cS AP nP cP) from K7.out.put 17 (.int .i64 ((at' : Int) + 1)))
                have C8 := Lib.hid (C7.out.trans (chg_put (F := F) (a := ⟨p, 17, none⟩) _ (.int .i64 ((at' : Int) + 1)) HPZ.out) (fun q hq => .inl hq))
                have L8 := Lib.hid (laid_next (L7.out.move (w' := (w6.setCell ⟨p, 2, none⟩ (.int .i64 (up32 x.seq))).setCell ⟨p, 17, none⟩ (.int .i64 ((at' : Int) + 1))) (F' := fun q => F q ∧ q ≠ p) (fun q hq _ => Below.heap_setCell _ _ _ _ hq.2) (by simp) (fun q hq _ => hq)))
                clear K7 N7 C7 L7 H7 hq
                cases hm1 : pc.more <;> cases hm2 : x.said.more <;> (try (exfalso; rw [hm1, hm2] at hv; revert hv; decide))
                all_goals
                    rw [hm1] at z1
                    rw [hm2] at c12
                    clear hm1 hm2 hv
                    go_wp2_with fail
                    clear z1 c12 c5 c17 f5 f17 c2 f2 hpl hzl
                    generalize (w6.setCell ⟨p, 2, none⟩ (.int .i64 (up32 x.seq))).setCell ⟨p, 17, none⟩ (.int .i64 ((at' : Int) + 1)) = w8 at *
                    clear w6
                    refine (rsay_any K8.out L8.out (fun q hq => hq.2) (by omega)).mono ?_
                    rintro e9 w9 ⟨AS9, nS9, cS9, rfl, hb9, hh9, hc9⟩
                    have KL := Lib.hid hb9
                    have HL10 := Lib.hid hh9
                    have LL := Lib.hid (L8.out.move (F' := fun q => F q ∧ q ≠ p) (fun q hq hl => hc9.block q hl hq.2) hc9.size (fun q hq _ => hq))
                    have CL := Lib.hid (C8.out.trans (hc9.wide (F' := F) (fun q hq => by rw [hq]; exact HPZ.out)) (fun q hq => .inl hq))
                    clear hb9 hh9 hc9 K8 L8 C8
                    go_wp2
                    have hgx := HG.out
                    have C10 := CL.out
                    have hs10 := C10.size
                    show Q (.returned (.int .i64 2)) _
                    rw [← HQ.out, HE.out]
                    refine ⟨rfl, ⟨at' + 1, by omega, ?_⟩, C10⟩
                    refine ⟨OK.out.goOn HOK.out, .inl HPZ.out, fun q hq => ?_, fun h => ?_, Ah, nh, ch, AS9, nS9, cS9, AP, nP, cP, ?_, ?_, fun _ => ?_⟩
                    · rcases hq with hq | hq
                      · have := HFW.out q hq
                        omega
                      · exact hq.2
                    · rw [hgx] at h
                      have h : x.agreed = false := h
                      rw [HAG.out] at h
                      cases h
                    · rw [hgx]
                      exact KL.out
                    · rw [hgx]
                      exact HL10.out.move (fun _ _ _ => rfl) (Nat.le_refl _) (fun q hq _ => ⟨.inl hq.1, hq.2⟩)
                    · rw [hgx]
                      exact LL.out.move (fun _ _ _ => rfl) (Nat.le_refl _) (fun q hq _ => ⟨.inl hq.1, hq.2⟩)
            · have d7 : (pc.seq != x.seq) = true := by simpa using hsq
              have HE := Lib.hid (show hearE x pc nh K = (3, x) by
                unfold hearE
                rw [if_neg (by rw [HOK.out]; decide), if_neg (by rw [hag]; decide), if_neg HPT.out, if_neg (by unfold fitsE; rw [hdn, hin, hms, hld]; simp [hsq])])
              clear hdn hld hin hms hsq
              go_wp2_with fail
              go_quiet (fail)
              go_wp2
              show Q (.returned (.int .i64 3)) _
              rw [← HQ.out, HE.out]
              exact rhear_stay (X3.out.move (fun _ _ _ => rfl) (Nat.le_refl _)) HFW.out (by repeat (first | exact B3.out | refine belowD ?_))
end Go.Proofs.Ytjinleakjkbbgaa
namespace Go.Proofs.Ytjinleakjkbbgaa
open Go.RowKit Go.Lib Go.Sort Go.Deep

theorem rhear_any {w : World} {F : Nat → Prop} {p at' : Nat} {x : Ex} (pc : Pc) {Ah : Option Addr} {nh ch : Nat} {A : Option Addr} {n c B : Nat} {S : List La} {K : List Hd} (hx : RexAt w F p x at')
    (hS : Las w B A n S) (hBw : B ≤ w.heap.size) (hFB : ∀ q, F q → B ≤ q) (hn : n ≤ 100) (hK : Told S K) (hat : at' ≤ 900) :
    Calls Try.prog 14 #[.pointer (some ⟨p, 0, none⟩), .agg #[.bool pc.init, .bool pc.more, .bool pc.master, .int .i64 pc.seq, .slice Ah nh ch], .slice A n c] w (RhearQ F p at' (hearE x pc nh K) w) := by
  by_cases h : 0 ≤ pc.seq ∧ pc.seq < 4294967296
  · cases hag : x.agreed
    · exact rhear_new pc hx hS hBw hFB hn hK hat h hag
    · exact rhear_on pc hx hS hBw hFB hn hK hat h hag
  · exact rhear_strange pc hx hS hBw hFB hn hK hat ⟨by omega, trivial⟩
/-- An exchange and one of the reference beside each other, on blocks that are none of P and none of the other one's. -/
def PairAt (w : World) (P : Nat → Prop) (p p' k : Nat) (x y : Ex) : Prop :=
  ∃ (E F : Nat → Prop) (a : Nat), ExAt w E p x ∧ RexAt w F p' y a ∧ (∀ q, E q → q < w.heap.size ∧ ¬ P q ∧ ¬ F q) ∧ (∀ q, F q → ¬ P q ∧ ¬ E q) ∧ a ≤ k
section
variable {w w' : World} {P P' : Nat → Prop} {B p p' k : Nat} {x y : Ex} {A : Option Addr} {n c : Nat} {S : List La} {K : List Hd}
theorem PairAt.below (h : PairAt w P p p' k x y) (hb : Below w.heap.size w w') : PairAt w' P p p' k x y := by
  obtain ⟨E, F, a, h1, h2, h3, h4, h5⟩ := h
  exact ⟨E, F, a, h1.below hb, h2.below hb, fun q hq => ⟨Nat.lt_of_lt_of_le (h3 q hq).1 hb.size, (h3 q hq).2⟩, h4, h5⟩
theorem PairAt.keep (h : PairAt w P p p' k x y) (hP : ∀ q, P' q → P q ∨ w.heap.size ≤ q) : PairAt w P' p p' k x y := by
  obtain ⟨E, F, a, h1, h2, h3, h4, h5⟩ := h
  refine ⟨E, F, a, h1, h2, fun q hq => ⟨(h3 q hq).1, fun e => ?_, (h3 q hq).2.2⟩, fun q hq => ⟨fun e => ?_, (h4 q hq).2⟩, h5⟩
  · rcases hP q e with e | e
    · exact (h3 q hq).2.1 e
    · have := (h3 q hq).1
      omega
  · rcases hP q e with e | e
    · exact (h4 q hq).1 e
    · have := h2.bound q hq
      omega
theorem pair_x (pc : Pc) {Ah : Option Addr} {nh ch : Nat} (h : PairAt w P p p' k x y) (h0 : -9223372036854775808 ≤ pc.seq) (h1 : pc.seq ≤ 9223372036854775807) (hS : Las w B A n S) (hBw : B ≤ w.heap.size) (hP : ∀ q, P q → q < w.heap.size) (hPB : ∀ q, q < B → P q) (hn : n ≤ 100) (hK : Told S K) :
    Calls Try.prog 13 #[.pointer (some ⟨p, 0, none⟩), .agg #[.bool pc.init, .bool pc.more, .bool pc.master, .int .i64 pc.seq, .slice Ah nh ch], .slice A n c] w fun e w' => e = .returned (.int .i64 (hearE x pc nh K).1) ∧ PairAt w' P p p' k (hearE x pc nh K).2 y ∧ Chg (fun q => ¬ P q) w w' := by
  obtain ⟨E, F, a, hx, hy, hE, hF, ha⟩ := h
  refine (hearX pc h0 h1 hx (fun q hq => (hE q hq).1) hS hBw (fun q hq => ?_) hn hK).mono ?_
  · rcases Nat.lt_or_ge q B with hb | hb
    · exact absurd (hPB q hb) (hE q hq).2.1
    · exact hb
  rintro e w1 ⟨rfl, hx1, hc1⟩
  have hs := hc1.size
  refine ⟨rfl, ⟨Fp E w w1, F, a, hx1, hy.chg hc1 (fun q hq => (hF q hq).2), fun q hq => ?_, fun q hq => ⟨(hF q hq).1, fun e => ?_⟩, ha⟩, hc1.wide (fun q hq => (hE q hq).2.1)⟩
  · rcases hq with hq | hq
    · exact ⟨Nat.lt_of_lt_of_le (hE q hq).1 hs, (hE q hq).2⟩
    · exact ⟨hq.2, fun e => by have := hP q e; omega, fun e => by have := hy.bound q e; omega⟩
  · rcases e with e | e
    · exact (hF q hq).2 e
    · have := hy.bound q hq
      omega
theorem pair_y (pc : Pc) {Ah : Option Addr} {nh ch : Nat} (h : PairAt w P p p' k x y) (hS : Las w B A n S) (hBw : B ≤ w.heap.size) (hP : ∀ q, P q → q < w.heap.size) (hPB : ∀ q, q < B → P q) (hn : n ≤ 100) (hK : Told S K) (hk : k ≤ 900) :
    Calls Try.prog 14 #[.pointer (some ⟨p', 0, none⟩), .agg #[.bool pc.init, .bool pc.more, .bool pc.master, .int .i64 pc.seq, .slice Ah nh ch], .slice A n c] w fun e w' => e = .returned (.int .i64 (hearE y pc nh K).1) ∧ PairAt w' P p p' (k + 1) x (hearE y pc nh K).2 ∧ Chg (fun q => ¬ P q) w w' := by
  obtain ⟨E, F, a, hx, hy, hE, hF, ha⟩ := h
  refine (rhear_any pc hy hS hBw (fun q hq => ?_) hn hK (by omega)).mono ?_
  · rcases Nat.lt_or_ge q B with hb | hb
    · exact absurd (hPB q hb) (hF q hq).1
    · exact hb
  rintro e w1 ⟨rfl, ⟨a2, ha2, hy1⟩, hc1⟩
  have hs := hc1.size
  refine ⟨rfl, ⟨E, Fp F w w1, a2, hx.chg hc1 (fun q hq => (hE q hq).2.2), hy1, fun q hq => ⟨Nat.lt_of_lt_of_le (hE q hq).1 hs, (hE q hq).2.1, fun e => ?_⟩, fun q hq => ?_, by omega⟩, hc1.wide (fun q hq => (hF q hq).1)⟩
  · rcases e with e | e
    · exact (hE q hq).2.2 e
    · have := (hE q hq).1
      omega
  · rcases hq with hq | hq
    · exact hF q hq
    · exact ⟨fun e => by have := hP q e; omega, fun e => by have := (hE q e).1; omega⟩
end
theorem grown_same {w : World} {n : Nat} {os : Array Obj} {f : FuncId} {args : Array Value} {v : Value} (h : Calls Try.prog f args (grow (w.drewN n) os) fun e w' => e = .returned v ∧ w' = grow (w.drewN n) os) :
    Calls Try.prog f args (grow (w.drewN n) os) fun e w'' => e = .returned v ∧ ∃ pp : GrownBy, w'' = grow (w.drewN pp.n) pp.os := h.mono fun _ _ ⟨he, hw⟩ => ⟨he, ⟨n, os⟩, hw⟩
set_option maxRecDepth 8000 in
set_option maxHeartbeats 8000000 in
theorem pair_same {w : World} {P : Nat → Prop} {p p' k : Nat} {x : Ex} (h : PairAt w P p p' k x x) : Calls Try.prog 12 #[.pointer (some ⟨p, 0, none⟩), .pointer (some ⟨p', 0, none⟩)] w fun e w' => e = .returned (.bool true) ∧ Below w.heap.size w w' := by
  obtain ⟨E, F, a, hx, hy, -, -, -⟩ := h
  have HX := Lib.hid hx
  have HY := Lib.hid hy
  clear hx hy
  have mixed : Try.prog.follows .mixedOrders = true := by kernel_rfl
  go_enter Try.func12, Try.ntmps12
  go_wp2_with fail
  refine (sayO HX.out).mono ?_
  rintro e1 w1 ⟨A1, m1, c1, rfl, hb1, hO1⟩
  have hm1 : m1 ≤ 3 := by
    have := own_lenH encHd_len (by omega) hO1
    rw [List.length_take] at this
    omega
  have B2 := Lib.hid (hb1.alloc hb1.size (.cells #[.bool x.said.init, .bool x.said.more, .bool x.said.master, .int .i64 x.said.seq, .slice A1 m1 c1] 33))
  have N2 := Lib.hid (Blk.new w1 33 #[.bool x.said.init, .bool x.said.more, .bool x.said.master, .int .i64 x.said.seq, .slice A1 m1 c1])
  have O2 := Lib.hid (hO1.alloc (.cells #[.bool x.said.init, .bool x.said.more, .bool x.said.master, .int .i64 x.said.seq, .slice A1 m1 c1] 33))
  have X2 := Lib.hid (HX.out.below B2.out)
  have Y2 := Lib.hid (HY.out.below B2.out)
  clear hb1 hO1 HX HY
  go_wp2_with fail
  obtain ⟨z, hz⟩ : ∃ z, w1.heap.size = z := ⟨_, rfl⟩
  generalize w1.alloc (.cells #[.bool x.said.init, .bool x.said.more, .bool x.said.master, .int .i64 x.said.seq, .slice A1 m1 c1] 33) = w2 at *
  rw [hz] at N2 ⊢
  clear hz w1
  obtain ⟨n0, n1, n2, n3, n4⟩ := N2.out.five
  have hnl := N2.out.lt
  obtain ⟨AL, nL, cL, AS, nS, cS, AP, nP, cP, hbk, hhd, -⟩ := Y2.out.mem
  have hpl := hbk.lt
  obtain ⟨hh, hB, -⟩ := X2.out.mem
  have hpl2 := hB.lt
  have k2 : w2.cell? ⟨p', 2, none⟩ = some (.int .i64 x.seq) := hbk.cell 2
  have k3 : w2.cell? ⟨p', 3, none⟩ = some (.bool x.agreed) := hbk.cell 3
  have k4 : w2.cell? ⟨p', 4, none⟩ = some (.bool x.leads) := hbk.cell 4
  have k5 : w2.cell? ⟨p', 5, none⟩ = some (.bool x.done) := hbk.cell 5
  have k11 : w2.cell? ⟨p', 11, none⟩ = some (.bool x.said.init) := hbk.cell 11
  have k12 : w2.cell? ⟨p', 12, none⟩ = some (.bool x.said.more) := hbk.cell 12
  have k13 : w2.cell? ⟨p', 13, none⟩ = some (.bool x.said.master) := hbk.cell 13
  have k14 : w2.cell? ⟨p', 14, none⟩ = some (.int .i64 x.said.seq) := hbk.cell 14
  have k15 : w2.cell? ⟨p', 15, none⟩ = some (.slice AS nS cS) := hbk.cell 15
  have gz0 := fun n os => cell_grown (n := n) (os := os) hnl n0
  have gz1 := fun n os => cell_grown (n := n) (os := os) hnl n1
  have gz2 := fun n os => cell_grown (n := n) (os := os) hnl n2
  have gz3 := fun n os => cell_grown (n := n) (os := os) hnl n3
  have gz4 := fun n os => cell_grown (n := n) (os := os) hnl n4
  have g2 := fun n os => cell_grown (n := n) (os := os) hpl k2
  have g3 := fun n os => cell_grown (n := n) (os := os) hpl k3
  have g4 := fun n os => cell_grown (n := n) (os := os) hpl k4
  have g5 := fun n os => cell_grown (n := n) (os := os) hpl k5
  have g11 := fun n os => cell_grown (n := n) (os := os) hpl k11
  have g12 := fun n os => cell_grown (n := n) (os := os) hpl k12
  have g13 := fun n os => cell_grown (n := n) (os := os) hpl k13
  have g14 := fun n os => cell_grown (n := n) (os := os) hpl k14
  have g15 := fun n os => cell_grown (n := n) (os := os) hpl k15
  have bg : ∀ n os, Below w2.heap.size w2 (grow (w2.drewN n) os) := fun n os => below_grown13 ⟨n, os, rfl⟩
  have hnS : nS ≤ 3 := by
    have := hhd.1
    rw [List.length_take] at this
    omega
  have pS := fun n os => Calls.grown_of (same14_yes (w := grow (w2.drewN n) os) (B := w2.heap.size) (B' := w2.heap.size) (c := c1) (c' := cS) x.said x.said ((own_hds O2.out).below (bg n os)) (hhd.hds.below (bg n os)) (bg n os).size (bg n os).size (by omega) (by omega) rfl rfl)
  have pA := fun n os => grown_same (agreedX (w := grow (w2.drewN n) os) (hB.below (bg n os) hpl2))
  have pL := fun n os => grown_same (leadsX (w := grow (w2.drewN n) os) (hB.below (bg n os) hpl2))
  have pD := fun n os => grown_same (doneX (w := grow (w2.drewN n) os) (hB.below (bg n os) hpl2))
  have pQ := fun n os => grown_same (seqX (w := grow (w2.drewN n) os) X2.out.ok (hB.below (bg n os) hpl2))
  have e1 : (x.agreed == x.agreed) = true := by simp
  have e2 : (x.leads == x.leads) = true := by simp
  have e3 : (x.done == x.done) = true := by simp
  have e4 : (x.seq == x.seq) = true := by simp
  clear n0 n1 n2 n3 n4 k2 k3 k4 k5 k11 k12 k13 k14 k15 hbk hhd hB bg
  go_quiet_grown (first | (go_at_call 22; with_reducible exact pS _ _) | (go_at_call 23; with_reducible exact pA _ _) | (go_at_call 20; with_reducible exact pL _ _) | (go_at_call 19; with_reducible exact pD _ _) | (go_at_call 24; with_reducible exact pQ _ _))
  go_wp2
  go_ret
  exact ⟨rfl, B2.out.trans ((below_grown13 ⟨nq, osq, rfl⟩ : Below w2.heap.size w2 (grow (w2.drewN nq) osq)).mono B2.out.size)⟩
end Go.Proofs.Ytjinleakjkbbgaa
namespace Go.Proofs.Ytjinleakjkbbgaa
open Go.RowKit Go.Lib Go.Sort Go.Deep

theorem keepW {w w' : World} {z : Nat} (h : w'.heap[z]? = w.heap[z]?) : ∀ o, w'.cell? ⟨z, o, none⟩ = w.cell? ⟨z, o, none⟩ := fun o => World.cell?_of_block (a := ⟨z, o, none⟩) h
theorem dds_item {w : World} {B n k : Nat} {A : Option Addr} {L : List (Pc × Nat)} (h : Dds w B A n L) (hk : k < n) : ∃ (b o : Nat) (d : Pc × Nat) (Ah : Option Addr) (ch : Nat), A = some ⟨b, o, none⟩ ∧ b < B ∧ w.rangeAt b (o + k * 5) [.bool d.1.init, .bool d.1.more, .bool d.1.master, .int .i64 d.1.seq, .slice Ah d.2 ch] ∧ -9223372036854775808 ≤ d.1.seq ∧ d.1.seq ≤ 9223372036854775807 := by
  obtain ⟨b, o, d, rfl, hb, hx, Ah, ch, hr, h1, h2, -⟩ := Arr.at h hk
  exact ⟨b, o, d, Ah, ch, rfl, hb, hr, h1, h2⟩
set_option maxRecDepth 20000 in
set_option maxHeartbeats 16000000 in
theorem hears_walk (n0 n1 n2 : Int) {w : World} {A : Option Addr} {n c : Nat} {T : List La} {Ab : Option Addr} {nb cb : Nat} {Lb : List (Pc × Nat)} (hT : Las w w.heap.size A n T) (hn : n ≤ maxLen) (hL : Dds w w.heap.size Ab nb Lb) (hnb : nb ≤ maxLen) :
    Calls Try.prog 3 #[.agg #[.int .i64 n0, .int .i64 n1, .int .i64 n2], .slice A n c, .slice Ab nb cb] w fun e w' => e = .returned (.bool true) ∧ Below w.heap.size w w' := by
  have HT := Lib.hid hT
  have HL := Lib.hid hL
  have HN := Lib.hid hn
  have B0 := Lib.hid ((Below.refl w.heap.size w).alloc (Nat.le_refl _) (.cells #[.int .i64 n0, .int .i64 n1, .int .i64 n2] 22))
  have N0 := Lib.hid (Blk.new w 22 #[.int .i64 n0, .int .i64 n1, .int .i64 n2])
  obtain ⟨K, hK⟩ := told_ex T
  have HK := Lib.hid hK
  unfold maxLen at hnb
  clear hT hL hn hK
  go_enter Try.func3, Try.ntmps3
  go_wp2_with fail
  refine (wakes14 _).mono ?_
  rintro e1 w1 ⟨rfl, hb1⟩
  have B1 := Lib.hid (B0.out.trans (hb1.mono B0.out.size))
  have N1 := Lib.hid (N0.out.below hb1 N0.out.lt)
  clear hb1 B0 N0
  go_wp2_with fail
  refine (many14 A n c T w.heap.size w1 (HT.out.below B1.out) B1.out.size HN.out).mono ?_
  rintro e2 w2 ⟨⟨t, rfl, ht⟩, hb2⟩
  have B2 := Lib.hid (B1.out.trans (hb2.mono B1.out.size))
  have N2 := Lib.hid (N1.out.below hb2 N1.out.lt)
  clear hb2 B1 N1
  cases t
  case true =>
    go_wp2
    go_ret
    exact ⟨rfl, B2.out⟩
  obtain ⟨hn60, -⟩ := ht rfl
  clear ht HN
  by_cases hnb2 : 60 < nb
  · have d1 : decide (60 < (nb : Int)) = true := by simp; omega
    go_wp2
    go_ret
    exact ⟨rfl, B2.out⟩
  have d1 : decide (60 < (nb : Int)) = false := by simp; omega
  obtain ⟨m0, m1, m2⟩ := N2.out.three
  have hnl := N2.out.lt
  have BR : Below w2.heap.size w2 w2.drew := ⟨rfl, rfl, rfl, Nat.le_refl _, fun _ _ => rfl⟩
  go_wp2_with fail
  go_region_held3 (fun w' => Below w2.heap.size w2 w' ∧ (∀ b o, b < w2.heap.size → w'.cell? ⟨b, o, none⟩ = w2.cell? ⟨b, o, none⟩)) ((refine keepS ?_; first | with_reducible exact BR | with_reducible exact BR5 | with_reducible exact BR6)) (first | (go_at_call 10; refine (newX_any n0 n1 n2 _).mono ?_; rintro e5 w5 ⟨rfl, hx5, hb5⟩; have BR5 := BR.trans (show Below w2.heap.size w2.drew w5 from hb5); have hz5 := hx5.lt) | (go_at_call 11; refine (rnew_any n0 n1 n2 _).mono ?_; rintro e6 w6 ⟨rfl, hx6, hb6⟩; have BR6 := BR5.trans (show Below w2.heap.size w5 w6 from Below.mono hb6 BR5.size)))
  rename_i hHd
  clear hHd
  have hs2 := B2.out.size
  have ez : w2.drew.heap.size = w2.heap.size := rfl
  have P6 := Lib.hid (show PairAt w6 (fun q => q < w.heap.size) w2.heap.size w5.heap.size 0 (newE n0 n1 n2) (newE n0 n1 n2) from ⟨_, _, 0, hx5.below hb6, hx6, fun q hq => ⟨by
    have h1 : q = w2.heap.size := hq
    have h2 := hb6.size
    have h3 : w2.heap.size < w5.heap.size := hz5
    omega, by
    have h1 : q = w2.heap.size := hq
    omega, by
    have h1 : q = w2.heap.size := hq
    have h3 : w2.heap.size < w5.heap.size := hz5
    omega⟩, fun q hq => ⟨by
    have h3 : w2.heap.size < w5.heap.size := hz5
    have h4 : q = w5.heap.size := hq
    omega, fun e => by
    have h1 : q = w2.heap.size := e
    have h3 : w2.heap.size < w5.heap.size := hz5
    have h4 : q = w5.heap.size := hq
    omega⟩, Nat.le_refl _⟩)
  have B6 := Lib.hid (B2.out.trans (BR6.mono hs2))
  clear hx5 hb5 hx6 hb6 BR BR5 BR6 hz5 m0 m1 m2 hnl N2 B2 hs2 ez
  obtain ⟨p, hp⟩ : ∃ p, w2.heap.size = p := ⟨_, rfl⟩
  obtain ⟨p', hp'⟩ : ∃ p', w5.heap.size = p' := ⟨_, rfl⟩
  rw [hp, hp'] at P6
  rw [hp, hp']
  clear hp hp'
  go_wp2_with fail
  go_loopw [36] (fun s36 wr => ∃ (k : Nat) (x : Ex), s36 = .int .i64 k ∧ k ≤ nb ∧ Hid (PairAt wr (fun q => q < w.heap.size) p p' k x x) ∧ Hid (Below w.heap.size w wr)) (fun s36 _ => nb + 1 - (intOf s36).toNat)
  case atStart => exact ⟨0, _, rfl, Nat.zero_le _, P6, B6⟩
  case round =>
    clear P6 B6
    obtain ⟨k, x, rfl, hk, PR, BR⟩ := hrel
    by_cases hlt : k < nb
    · have hlt' : (k : Int) < (nb : Int) := by omega
      obtain ⟨b, o, d, Ah, ch, rfl, hb, hr, hd0, hd1⟩ := dds_item (HL.out.below BR.out) hlt
      obtain ⟨pc, nh⟩ := d
      dsimp only at hr hd0 hd1
      have HR := Lib.hid hr
      have B2 := Lib.hid (BR.out.alloc BR.out.size (.cells #[.bool pc.init, .bool pc.more, .bool pc.master, .int .i64 pc.seq, .slice Ah nh ch] 33))
      have P2 := Lib.hid ((PR.out.below ((Below.refl wr.heap.size wr).alloc (Nat.le_refl _) (.cells #[.bool pc.init, .bool pc.more, .bool pc.master, .int .i64 pc.seq, .slice Ah nh ch] 33))))
      have N2 := Lib.hid (Blk.new wr 33 #[.bool pc.init, .bool pc.more, .bool pc.master, .int .i64 pc.seq, .slice Ah nh ch])
      have P3 := Lib.hid (show PairAt (wr.alloc (.cells #[.bool pc.init, .bool pc.more, .bool pc.master, .int .i64 pc.seq, .slice Ah nh ch] 33)) (fun q => q < w.heap.size ∨ q = wr.heap.size) p p' k x x from by
        obtain ⟨E, F, a, h1, h2, h3, h4, h5⟩ := PR.out.keep (P' := fun q => q < w.heap.size ∨ q = wr.heap.size) (fun q hq => by
          rcases hq with hq | hq
          · exact .inl hq
          · exact .inr (by omega))
        exact ⟨E, F, a, h1.below ((Below.refl wr.heap.size wr).alloc (Nat.le_refl _) _), h2.below ((Below.refl wr.heap.size wr).alloc (Nat.le_refl _) _), fun q hq => ⟨by have := (h3 q hq).1; simp; omega, (h3 q hq).2⟩, h4, h5⟩)
      clear hr P2 PR
      by_cases hh : 60 < nh
      · have d2 : decide (60 < (nh : Int)) = true := by simp; omega
        go_wp2_with (refine wpList_load_row 33 _ _ (by rfl) (.tmp 38) rfl (by rfl) HR.out Try.underlying33 rfl (by kernel_rfl) ?_)
        go_ret
        exact ⟨rfl, B2.out⟩
      · have d2 : decide (60 < (nh : Int)) = false := by simp; omega
        go_wp2_with (refine wpList_load_row 33 _ _ (by rfl) (.tmp 38) rfl (by rfl) HR.out Try.underlying33 rfl (by kernel_rfl) ?_)
        obtain ⟨z, hz⟩ : ∃ z, wr.heap.size = z := ⟨_, rfl⟩
        have hzw : w.heap.size ≤ z := by have := BR.out.size; omega
        generalize wr.alloc (.cells #[.bool pc.init, .bool pc.more, .bool pc.master, .int .i64 pc.seq, .slice Ah nh ch] 33) = w3 at *
        rw [hz] at N2 P3 ⊢
        clear hz HR
        obtain ⟨m0, m1, m2, m3, m4⟩ := N2.out.five
        have hml := N2.out.lt
        have hs3 := B2.out.size
        obtain ⟨v, y, hv⟩ : ∃ v y, hearE x pc nh K = (v, y) := ⟨_, _, rfl⟩
        have HV := Lib.hid hv
        have d3 : (v != v) = false := by simp
        have kR : w3.drew.heap[z]? = w3.heap[z]? := rfl
        have PR3 := Lib.hid (show PairAt w3.drew (fun q => q < w.heap.size ∨ q = z) p p' k x x from P3.out.below ⟨rfl, rfl, rfl, Nat.le_refl _, fun _ _ => rfl⟩)
        have hPB : ∀ q, q < w.heap.size → (q < w.heap.size ∨ q = z) := fun q hq => .inl hq
        have HPB := Lib.hid hPB
        clear hv hPB P3 N2
        go_region_held3 (fun w' => ∀ o, w'.cell? ⟨z, o, none⟩ = w3.cell? ⟨z, o, none⟩) ((refine keepW ?_; first | with_reducible exact kR | with_reducible exact k4 | with_reducible exact k5 | with_reducible exact k6)) (first | (go_at_call 12; refine (pair_same PR3.out).mono ?_; rintro e4 w4 ⟨rfl, hb4⟩; have hs4 := hb4.size; have k4 : w4.heap[z]? = w3.heap[z]? := hb4.block z hml; have P4 := Lib.hid (PR3.out.below hb4); have B4 := Lib.hid (B2.out.trans ((⟨rfl, rfl, rfl, Nat.le_refl _, fun _ _ => rfl⟩ : Below w.heap.size w3 w3.drew).trans (hb4.mono hs3)))) | (go_at_call 13; have hq5 := pair_x pc (Ah := Ah) (nh := nh) (ch := ch) (c := c) P4.out hd0 hd1 (HT.out.below B4.out) B4.out.size (fun q hq => (by have := B4.out.size; have : z < w4.heap.size := Nat.lt_of_lt_of_le hml hs4; rcases hq with hq | hq <;> omega)) HPB.out (by omega) HK.out; rw [HV.out] at hq5; refine hq5.mono ?_; rintro e5 w5 ⟨rfl, hp5, hc5⟩; have hs5 := hc5.size; have k5 : w5.heap[z]? = w3.heap[z]? := (hc5.block z (Nat.lt_of_lt_of_le hml hs4) (fun e => e (.inr rfl))).trans k4; have P5 := Lib.hid hp5; have B5 := Lib.hid (B4.out.trans (chgP_below hc5 HPB.out B4.out.size))) | (go_at_call 14; have hq6 := pair_y pc (Ah := Ah) (nh := nh) (ch := ch) (c := c) P5.out (HT.out.below B5.out) B5.out.size (fun q hq => (by have := B5.out.size; have : z < w5.heap.size := Nat.lt_of_lt_of_le (Nat.lt_of_lt_of_le hml hs4) hs5; rcases hq with hq | hq <;> omega)) HPB.out (by omega) HK.out (by omega); rw [HV.out] at hq6; refine hq6.mono ?_; rintro e6 w6 ⟨rfl, hp6, hc6⟩; have k6 : w6.heap[z]? = w3.heap[z]? := (hc6.block z (Nat.lt_of_lt_of_le (Nat.lt_of_lt_of_le hml hs4) hs5) (fun e => e (.inr rfl))).trans k5; have P6 := Lib.hid (show PairAt w6 (fun q => q < w.heap.size) p p' (k + 1) y y from hp6.keep (fun q hq => .inl (.inl hq))); have B6 := Lib.hid (B5.out.trans (chgP_below hc6 HPB.out B5.out.size))))
        all_goals
          go_wp2
          go_roundw
          case rel => exact ⟨k + 1, y, by go_num, by omega, P6, B6⟩
          case measure => simp [intOf]; omega
    · have hlt' : ¬ (k : Int) < (nb : Int) := by omega
      go_wp2_with fail
      refine (pair_same PR.out).mono ?_
      rintro e7 w7 ⟨rfl, hb7⟩
      go_wp2
      go_ret
      exact ⟨rfl, BR.out.trans (hb7.mono BR.out.size)⟩
end Go.Proofs.Ytjinleakjkbbgaa
