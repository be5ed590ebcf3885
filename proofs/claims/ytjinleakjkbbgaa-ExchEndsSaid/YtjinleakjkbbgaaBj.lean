/- Hear of the program. Conditions: a number of 64 bits; at most 100 descriptions, on blocks below those of the exchange. -/
import Derived.Test.YtjinleakjkbbgaaBi
import Derived.Test.YtjinleakjkbbgaaUy
import Derived.Test.YtjinleakjkbbgaaUv
namespace Go.Proofs.Ytjinleakjkbbgaa
open Go.RowKit Go.Lib Go.Sort Go.Deep

/-- What Hear leaves: what came of the piece, and the exchange behind it. -/
def HearQ (F : Nat → Prop) (p : Nat) (r : Int × Ex) (w : World) (e : Ending) (w' : World) : Prop := e = .returned (.int .i64 r.1) ∧ ExAt w' (Fp F w w') p r.2 ∧ Chg F w w'
theorem Blk.five {w : World} {g : Nat} {t : TypeId} {a0 a1 a2 a3 a4 : Value} (h : Blk w g t #[a0, a1, a2, a3, a4]) : w.cell? ⟨g, 0, none⟩ = some a0 ∧ w.cell? ⟨g, 1, none⟩ = some a1 ∧ w.cell? ⟨g, 2, none⟩ = some a2 ∧ w.cell? ⟨g, 3, none⟩ = some a3 ∧ w.cell? ⟨g, 4, none⟩ = some a4 := ⟨h.cell 0, h.cell 1, h.cell 2, h.cell 3, h.cell 4⟩
section
variable {w : World} {F : Nat → Prop} {p : Nat} {x : Ex}
theorem fp_in {w w' : World} {q : Nat} (h : F q) : Fp F w w' q := .inl h
set_option maxRecDepth 8000 in
set_option maxHeartbeats 8000000 in
theorem hearX (pc : Pc) {Ah : Option Addr} {nh ch : Nat} {A : Option Addr} {n c B : Nat} {S : List La} {K : List Hd} (h0 : -9223372036854775808 ≤ pc.seq) (h1 : pc.seq ≤ 9223372036854775807) (hx : ExAt w F p x) (hFw : ∀ q, F q → q < w.heap.size)
    (hS : Las w B A n S) (hBw : B ≤ w.heap.size) (hFB : ∀ q, F q → B ≤ q) (hn : n ≤ 100) (hK : Told S K) :
    Calls Try.prog 13 #[.pointer (some ⟨p, 0, none⟩), .agg #[.bool pc.init, .bool pc.more, .bool pc.master, .int .i64 pc.seq, .slice Ah nh ch], .slice A n c] w (HearQ F p (hearE x pc nh K) w) := by
  generalize hQ : HearQ F p (hearE x pc nh K) w = Q
  have HQ := Lib.hid hQ
  have HF := Lib.hid hx.fp
  have HFW := Lib.hid hFw
  have HFB := Lib.hid hFB
  have HS := Lib.hid hS
  have HK := Lib.hid hK
  have HBW := Lib.hid hBw
  have B0 := (Below.refl w.heap.size w).alloc (Nat.le_refl _) (.cells #[.bool pc.init, .bool pc.more, .bool pc.master, .int .i64 pc.seq, .slice Ah nh ch] 33)
  have B1 := Lib.hid (B0.alloc (by simp) (.cells #[.int .i64 pc.seq] 3))
  have N1 := Lib.hid ((Blk.new w 33 #[.bool pc.init, .bool pc.more, .bool pc.master, .int .i64 pc.seq, .slice Ah nh ch]).alloc (.cells #[.int .i64 pc.seq] 3))
  have X1 := Lib.hid (hx.below B1.out)
  obtain ⟨n0, n1, n2, n3, n4⟩ := (Blk.new w 33 #[.bool pc.init, .bool pc.more, .bool pc.master, .int .i64 pc.seq, .slice Ah nh ch]).five
  have hnl := (Blk.new w 33 #[.bool pc.init, .bool pc.more, .bool pc.master, .int .i64 pc.seq, .slice Ah nh ch]).lt
  clear hQ hFw hFB hS hK hBw hx B0
  go_enter Try.func13, Try.ntmps13
  go_wp2_with fail
  refine (fits_one pc.seq _ _ (by simp) h0 h1).mono ?_
  rintro e1 w1 ⟨rfl, h2⟩
  rw [h2]
  clear h2 w1 n0 n1 n2 n3 n4 hnl h0 h1
  generalize (w.alloc (.cells #[.bool pc.init, .bool pc.more, .bool pc.master, .int .i64 pc.seq, .slice Ah nh ch] 33)).alloc (.cells #[.int .i64 pc.seq] 3) = w1 at *
  obtain ⟨z, hz⟩ : ∃ z, w.heap.size = z := ⟨_, rfl⟩
  rw [hz] at N1 ⊢
  have HZ := Lib.hid hz
  clear hz
  cases hok : okSeq pc.seq
  · have HE := Lib.hid (show hearE x pc nh K = (0, x) by
      unfold hearE
      rw [if_pos hok])
    clear hok
    go_wp2
    show Q (.returned (.int .i64 0)) _
    rw [← HQ.out, HE.out]
    exact ⟨rfl, X1.out.wide (fun q hq => .inl hq), Chg.of_below B1.out⟩
  have HOK := Lib.hid hok
  have hwr : IntKind.u32.wrap pc.seq = pc.seq := by
    have := (okSeq_iff _).1 hok
    rw [IntKind.wrap_u32]
    omega
  clear hok
  obtain ⟨n0, n1, n2, n3, n4⟩ := N1.out.five
  have hnl := N1.out.lt
  have hnz : w.heap.size ≤ w1.heap.size := B1.out.size
  have K2 := Blk.new w1 65 #[.bool false, .bool false, .bool false, .int .u32 0]
  have hup : ((B1.out.size : w.heap.size ≤ w1.heap.size) = hnz) := rfl
  clear hup
  cases hag : x.agreed
  · go_wp2_with (first | refine wpList_load_row 65 _ _ (by rfl) (.tmp 7) rfl (by rfl) R2 Try.underlying65 rfl (by kernel_rfl) ?_ | (refine wpList_store_in 65 [] [.bool false, .bool false, .bool false, .int .u32 0] [] [.bool pc.init, .bool pc.more, .bool pc.master, .int .u32 pc.seq] rfl (.tmp 7) (.tmp 26) rfl rfl rfl K2 rfl (by kernel_rfl) (pc_ones _ _ _ _) ?_; intro w2 HK2 HC2; have X2 := Lib.hid ((X1.out.below ((Below.refl w1.heap.size w1).alloc (Nat.le_refl _) _)).chg (F' := fun k => k = w1.heap.size) HC2.out (fun q hq e => by have := HFW.out q hq; have := HZ.out; omega)); have N2 := Lib.hid ((N1.out.alloc _).chg HC2.out (by omega)); have B2 := Lib.hid (B1.out.trans ((((Below.refl w1.heap.size w1).alloc (Nat.le_refl _) _).trans (HC2.out.to_below (fun k hk => by rw [hk]; exact Nat.le_refl _) (by simp))).mono hnz)); obtain ⟨hh, hhB, hhh⟩ := X2.out.mem; have c3 : w2.cell? ⟨p, 3, none⟩ = some (.bool x.agreed) := hhB.cell 3; rw [hag] at c3; have hpl := hhB.lt; obtain ⟨m0, m1, m2, m3⟩ := HK2.out.four; have hml := HK2.out.lt; have R2 : w2.rangeAt w1.heap.size 0 [.bool pc.init, .bool pc.more, .bool pc.master, .int .u32 pc.seq] := fun j v hv => (by rw [Nat.zero_add, HK2.out.cell, ← hv]; simp); obtain ⟨n0, n1, n2, n3, n4⟩ := N2.out.five; have hnl := N2.out.lt))
    refine (agreesX (x := x) pc nh hhB).mono ?_
    rintro e3 w3 ⟨rfl, hb3⟩
    have X3 := Lib.hid (X2.out.below hb3)
    have K3 := Lib.hid (HK2.out.below hb3 hml)
    have B3 := Lib.hid (B2.out.trans (hb3.mono B2.out.size))
    clear hb3 X2 N2 B2 hh hhB hhh c3 hpl m0 m1 m2 m3 hml R2 n0 n1 n2 n3 n4 hnl HK2 HC2 K2
    clear X1 N1 B1
    cases hg : agreesE x pc nh
    · have HE := Lib.hid (show hearE x pc nh K = (0, x) by
        unfold hearE
        rw [if_neg (by rw [HOK.out]; decide), if_pos hag, if_neg (by rw [hg]; decide)])
      obtain ⟨hh, hhB, hhh⟩ := X3.out.mem
      have c3 : w3.cell? ⟨p, 3, none⟩ = some (.bool x.agreed) := hhB.cell 3
      rw [hag] at c3
      have hpl := hhB.lt
      clear hg hag
      go_wp2
      show Q (.returned (.int .i64 0)) _
      rw [← HQ.out, HE.out]
      exact ⟨rfl, X3.out.wide (fun q hq => .inl hq), Chg.of_below B3.out⟩
    · have HE := Lib.hid (show hearE x pc nh K = (2, beginE x pc K) by
        unfold hearE
        rw [if_neg (by rw [HOK.out]; decide), if_pos hag, if_pos hg])
      have R3 := Lib.hid (show w3.rangeAt w1.heap.size 0 [.bool pc.init, .bool pc.more, .bool pc.master, .int .u32 pc.seq] from fun j v hv => by
        rw [Nat.zero_add, K3.out.cell, ← hv]
        simp)
      clear hg hag K3
      go_wp2_with (refine wpList_load_row 65 _ _ (by rfl) (.tmp 7) rfl (by rfl) R3.out Try.underlying65 rfl (by kernel_rfl) ?_)
      refine (beginX pc HOK.out X3.out (HS.out.below (B3.out.mono HBW.out)) (Nat.le_trans HBW.out B3.out.size) HFB.out hn HK.out).mono ?_
      rintro e4 w4 ⟨rfl, hx4, hc4⟩
      go_wp2
      show Q (.returned (.int .i64 2)) _
      rw [← HQ.out, HE.out]
      refine ⟨rfl, hx4.wide (fun q hq => ?_), (Chg.of_below B3.out).trans hc4 (fun q hq => .inl hq)⟩
      rcases hq with hq | hq
      · exact .inl hq
      · exact .inr ⟨Nat.le_trans B3.out.size hq.1, hq.2⟩
  · have eP := fun W => equalPc pc x.took W
    by_cases hpt : pc = x.took
    · rw [decide_eq_true hpt] at eP
      cases hld : x.leads
      · have HE := Lib.hid (show hearE x pc nh K = (1, x) by
          unfold hearE
          rw [if_neg (by rw [HOK.out]; decide), if_neg (by rw [hag]; decide), if_pos hpt, if_neg (by rw [hld]; decide)])
        clear hpt
        go_wp2_with (refine wpList_store_in 65 [] [.bool false, .bool false, .bool false, .int .u32 0] [] [.bool pc.init, .bool pc.more, .bool pc.master, .int .u32 pc.seq] rfl (.tmp 7) (.tmp 26) rfl rfl rfl K2 rfl (by kernel_rfl) (pc_ones _ _ _ _) ?_; intro w2 HK2 HC2; have X2 := Lib.hid ((X1.out.below ((Below.refl w1.heap.size w1).alloc (Nat.le_refl _) _)).chg (F' := fun k => k = w1.heap.size) HC2.out (fun q hq e => by have := HFW.out q hq; have := HZ.out; omega)); have N2 := Lib.hid ((N1.out.alloc _).chg HC2.out (by omega)); have B2 := Lib.hid (B1.out.trans ((((Below.refl w1.heap.size w1).alloc (Nat.le_refl _) _).trans (HC2.out.to_below (fun k hk => by rw [hk]; exact Nat.le_refl _) (by simp))).mono hnz)); obtain ⟨hh, hhB, hhh⟩ := X2.out.mem; have c3 : w2.cell? ⟨p, 3, none⟩ = some (.bool x.agreed) := hhB.cell 3; rw [hag] at c3; have hpl := hhB.lt; obtain ⟨m0, m1, m2, m3⟩ := HK2.out.four; have hml := HK2.out.lt; have R2 : w2.rangeAt w1.heap.size 0 [.bool pc.init, .bool pc.more, .bool pc.master, .int .u32 pc.seq] := fun j v hv => (by rw [Nat.zero_add, HK2.out.cell, ← hv]; simp); obtain ⟨n0, n1, n2, n3, n4⟩ := N2.out.five; have hnl := N2.out.lt; have c4 : w2.cell? ⟨p, 4, none⟩ = some (.bool x.leads) := hhB.cell 4; rw [hld] at c4; have p6 : w2.cell? ⟨p, 6, none⟩ = some (.bool x.took.init) := hhB.cell 6; have p7 : w2.cell? ⟨p, 7, none⟩ = some (.bool x.took.more) := hhB.cell 7; have p8 : w2.cell? ⟨p, 8, none⟩ = some (.bool x.took.master) := hhB.cell 8; have p9 : w2.cell? ⟨p, 9, none⟩ = some (.int .u32 x.took.seq) := hhB.cell 9)
        go_quiet (fail)
        go_wp2_with fail
        have c3d := c3
        go_quiet (fail)
        go_wp2
        show Q (.returned (.int .i64 1)) _
        rw [← HQ.out, HE.out]
        exact ⟨rfl, (X2.out.drewN _).drewN _ |>.wide (fun q hq => .inl hq), (Chg.of_below B2.out).trans ⟨rfl, rfl, rfl, Nat.le_refl _, fun _ _ _ => rfl⟩ (fun q hq => .inl hq)⟩
      · have HE := Lib.hid (show hearE x pc nh K = (0, x) by
          unfold hearE
          rw [if_neg (by rw [HOK.out]; decide), if_neg (by rw [hag]; decide), if_pos hpt, if_pos hld])
        clear hpt
        go_wp2_with (refine wpList_store_in 65 [] [.bool false, .bool false, .bool false, .int .u32 0] [] [.bool pc.init, .bool pc.more, .bool pc.master, .int .u32 pc.seq] rfl (.tmp 7) (.tmp 26) rfl rfl rfl K2 rfl (by kernel_rfl) (pc_ones _ _ _ _) ?_; intro w2 HK2 HC2; have X2 := Lib.hid ((X1.out.below ((Below.refl w1.heap.size w1).alloc (Nat.le_refl _) _)).chg (F' := fun k => k = w1.heap.size) HC2.out (fun q hq e => by have := HFW.out q hq; have := HZ.out; omega)); have N2 := Lib.hid ((N1.out.alloc _).chg HC2.out (by omega)); have B2 := Lib.hid (B1.out.trans ((((Below.refl w1.heap.size w1).alloc (Nat.le_refl _) _).trans (HC2.out.to_below (fun k hk => by rw [hk]; exact Nat.le_refl _) (by simp))).mono hnz)); obtain ⟨hh, hhB, hhh⟩ := X2.out.mem; have c3 : w2.cell? ⟨p, 3, none⟩ = some (.bool x.agreed) := hhB.cell 3; rw [hag] at c3; have hpl := hhB.lt; obtain ⟨m0, m1, m2, m3⟩ := HK2.out.four; have hml := HK2.out.lt; have R2 : w2.rangeAt w1.heap.size 0 [.bool pc.init, .bool pc.more, .bool pc.master, .int .u32 pc.seq] := fun j v hv => (by rw [Nat.zero_add, HK2.out.cell, ← hv]; simp); obtain ⟨n0, n1, n2, n3, n4⟩ := N2.out.five; have hnl := N2.out.lt; have c4 : w2.cell? ⟨p, 4, none⟩ = some (.bool x.leads) := hhB.cell 4; rw [hld] at c4; have p6 : w2.cell? ⟨p, 6, none⟩ = some (.bool x.took.init) := hhB.cell 6; have p7 : w2.cell? ⟨p, 7, none⟩ = some (.bool x.took.more) := hhB.cell 7; have p8 : w2.cell? ⟨p, 8, none⟩ = some (.bool x.took.master) := hhB.cell 8; have p9 : w2.cell? ⟨p, 9, none⟩ = some (.int .u32 x.took.seq) := hhB.cell 9)
        go_quiet (fail)
        go_wp2
        show Q (.returned (.int .i64 0)) _
        rw [← HQ.out, HE.out]
        exact ⟨rfl, (X2.out.drewN _).wide (fun q hq => .inl hq), (Chg.of_below B2.out).trans ⟨rfl, rfl, rfl, Nat.le_refl _, fun _ _ _ => rfl⟩ (fun q hq => .inl hq)⟩
    · rw [decide_eq_false hpt] at eP
      go_wp2_with (refine wpList_store_in 65 [] [.bool false, .bool false, .bool false, .int .u32 0] [] [.bool pc.init, .bool pc.more, .bool pc.master, .int .u32 pc.seq] rfl (.tmp 7) (.tmp 26) rfl rfl rfl K2 rfl (by kernel_rfl) (pc_ones _ _ _ _) ?_; intro w2 HK2 HC2; have X2 := Lib.hid ((X1.out.below ((Below.refl w1.heap.size w1).alloc (Nat.le_refl _) _)).chg (F' := fun k => k = w1.heap.size) HC2.out (fun q hq e => by have := HFW.out q hq; have := HZ.out; omega)); have N2 := Lib.hid ((N1.out.alloc _).chg HC2.out (by omega)); have B2 := Lib.hid (B1.out.trans ((((Below.refl w1.heap.size w1).alloc (Nat.le_refl _) _).trans (HC2.out.to_below (fun k hk => by rw [hk]; exact Nat.le_refl _) (by simp))).mono hnz)); obtain ⟨hh, hhB, hhh⟩ := X2.out.mem; have c3 : w2.cell? ⟨p, 3, none⟩ = some (.bool x.agreed) := hhB.cell 3; rw [hag] at c3; have hpl := hhB.lt; obtain ⟨m0, m1, m2, m3⟩ := HK2.out.four; have hml := HK2.out.lt; have R2 : w2.rangeAt w1.heap.size 0 [.bool pc.init, .bool pc.more, .bool pc.master, .int .u32 pc.seq] := fun j v hv => (by rw [Nat.zero_add, HK2.out.cell, ← hv]; simp); obtain ⟨n0, n1, n2, n3, n4⟩ := N2.out.five; have hnl := N2.out.lt; have c4 : w2.cell? ⟨p, 4, none⟩ = some (.bool x.leads) := hhB.cell 4; have p6 : w2.cell? ⟨p, 6, none⟩ = some (.bool x.took.init) := hhB.cell 6; have p7 : w2.cell? ⟨p, 7, none⟩ = some (.bool x.took.more) := hhB.cell 7; have p8 : w2.cell? ⟨p, 8, none⟩ = some (.bool x.took.master) := hhB.cell 8; have p9 : w2.cell? ⟨p, 9, none⟩ = some (.int .u32 x.took.seq) := hhB.cell 9)
      go_quiet (fail)
      revert nq
      intro nq_1
      go_wp2_with fail
      go_quiet (fail)
      rw [World.drewN_drewN]
      have HPT := Lib.hid hpt
      have HAG := Lib.hid hag
      have X3 := Lib.hid (X2.out.drewN (nq_1 + nq))
      have R3 := Lib.hid (show (w2.drewN (nq_1 + nq)).rangeAt w1.heap.size 0 [.bool pc.init, .bool pc.more, .bool pc.master, .int .u32 pc.seq] from R2)
      have K3 := Lib.hid (show Blk (w2.drewN (nq_1 + nq)) w1.heap.size 65 #[.bool pc.init, .bool pc.more, .bool pc.master, .int .u32 pc.seq] from HK2.out)
      have B3 := Lib.hid (B2.out.trans (⟨rfl, rfl, rfl, Nat.le_refl _, fun _ _ => rfl⟩ : Below w.heap.size w2 (w2.drewN (nq_1 + nq))))
      clear X2 N2 B2 hhB hhh c3 c4 p6 p7 p8 p9 hpl m0 m1 m2 m3 hml R2 n0 n1 n2 n3 n4 hnl HK2 HC2 K2 eP hpt hag
      clear X1 N1 B1
      generalize w2.drewN (nq_1 + nq) = w3 at *
      clear hh w2 nq
      obtain ⟨hh, hhB, hhh⟩ := X3.out.mem
      go_wp2_with (refine wpList_load_row 65 _ _ (by rfl) (.tmp 7) rfl (by rfl) R3.out Try.underlying65 rfl (by kernel_rfl) ?_)
      refine (fitsX pc hhB).mono ?_
      rintro e4 w4 ⟨rfl, hb4⟩
      have X4 := Lib.hid (X3.out.below hb4)
      have R4 := Lib.hid (show w4.rangeAt w1.heap.size 0 [.bool pc.init, .bool pc.more, .bool pc.master, .int .u32 pc.seq] from fun j v hv => by
        rw [Nat.zero_add, (K3.out.below hb4 K3.out.lt).cell, ← hv]
        simp)
      have B4 := Lib.hid (B3.out.trans (hb4.mono B3.out.size))
      clear hb4 X3 R3 K3 B3 hhB hhh
      cases hft : fitsE x pc
      · have HE := Lib.hid (show hearE x pc nh K = (3, x) by
          unfold hearE
          rw [if_neg (by rw [HOK.out]; decide), if_neg (by rw [HAG.out]; decide), if_neg HPT.out, if_neg (by rw [hft]; decide)])
        clear hft
        go_wp2
        show Q (.returned (.int .i64 3)) _
        rw [← HQ.out, HE.out]
        exact ⟨rfl, X4.out.wide (fun q hq => .inl hq), Chg.of_below B4.out⟩
      · have HE := Lib.hid (show hearE x pc nh K = (2, goOnE x pc) by
          unfold hearE
          rw [if_neg (by rw [HOK.out]; decide), if_neg (by rw [HAG.out]; decide), if_neg HPT.out, if_pos hft])
        clear hft
        go_wp2_with (refine wpList_load_row 65 _ _ (by rfl) (.tmp 7) rfl (by rfl) R4.out Try.underlying65 rfl (by kernel_rfl) ?_)
        refine (goOnX pc HOK.out X4.out).mono ?_
        rintro e5 w5 ⟨rfl, hx5, hc5⟩
        go_wp2
        show Q (.returned (.int .i64 2)) _
        rw [← HQ.out, HE.out]
        exact ⟨rfl, hx5.wide (fun q hq => .inl hq), (Chg.of_below B4.out).trans hc5 (fun q hq => .inl hq)⟩
end
end Go.Proofs.Ytjinleakjkbbgaa
