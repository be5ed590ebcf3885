/- The walks of PeersNil and PeersAgain. Conditions: what the words say. -/
import Derived.Test.YtfapphndfgoknaaHq
namespace Go.Proofs.Ytfapphndfgoknaa
open Go.RowKit Go.Deep

theorem Blk.rangeHl {w : World} {b : Nat} {h : Hl} {A : Option Addr} {n c : Nat} (hB : Blk w b 32 #[.int .i64 h.every, .int .i64 h.dead, .int .i64 h.prio, .int .i64 h.dr, .int .i64 h.bdr, .slice A n c]) : w.rangeAt b 0 [.int .i64 h.every, .int .i64 h.dead, .int .i64 h.prio, .int .i64 h.dr, .int .i64 h.bdr, .slice A n c] := by
  intro j v hv
  rw [Nat.zero_add, hB.cell, ← hv]
  simp
theorem wpList_load_hl {ops : Array Oper} {rest : List Oper} {op : Oper} {a : Act} {w : World} {Q : Exit → Act → World → Prop} {b o : Nat} {h : Hl} {A : Option Addr} {n c : Nat} (hw : Region.wanted op (yielded ops a.tmps) = true) (x : Operand) (ho : op.op = .load 32 x)
    (hx : a.eval x = .pointer (some ⟨b, o, none⟩)) (hR : w.rangeAt b o [.int .i64 h.every, .int .i64 h.dead, .int .i64 h.prio, .int .i64 h.dr, .int .i64 h.bdr, .slice A n c]) (hn : wpList Try.prog ops Q rest (a.put op.dst (.agg #[.int .i64 h.every, .int .i64 h.dead, .int .i64 h.prio, .int .i64 h.dr, .int .i64 h.bdr, .slice A n c])) w) : wpList Try.prog ops Q (op :: rest) a w :=
  wpList_load_row 32 [.int .i64 h.every, .int .i64 h.dead, .int .i64 h.prio, .int .i64 h.dr, .int .i64 h.bdr, .slice A n c] _ hw x ho hx hR Try.underlying32 rfl (by kernel_rfl) hn
set_option maxRecDepth 8000 in
set_option maxHeartbeats 4000000 in
theorem nil_walk (i : Int) (h : Hl) (A : Option Addr) (n c : Nat) (w : World) : Calls Try.prog 5 #[.int .i64 i, .agg #[.int .i64 h.every, .int .i64 h.dead, .int .i64 h.prio, .int .i64 h.dr, .int .i64 h.bdr, .slice A n c]] w fun e w' => e = .returned (.bool true) ∧ Below w.heap.size w w' := by
  have B0 := Lib.hid ((Below.refl w.heap.size w).alloc (Nat.le_refl _) (.cells #[.int .i64 h.every, .int .i64 h.dead, .int .i64 h.prio, .int .i64 h.dr, .int .i64 h.bdr, .slice A n c] 32))
  have K0 := Lib.hid (Blk.new w 32 #[.int .i64 h.every, .int .i64 h.dead, .int .i64 h.prio, .int .i64 h.dr, .int .i64 h.bdr, .slice A n c])
  have hb36 : ∀ W, (Instr.build 36 #[]).run Try.prog W = .ok (.agg #[.bool noHd.taken, .bool noHd.fresh, .bool noHd.two, .bool noHd.one, .bool noHd.bears]) W := fun W => by kernel_rfl
  have hEQ : ∀ W, (Op.equalIn 10000 36 (.agg #[.bool noHd.taken, .bool noHd.fresh, .bool noHd.two, .bool noHd.one, .bool noHd.bears]) (.agg #[.bool noHd.taken, .bool noHd.fresh, .bool noHd.two, .bool noHd.one, .bool noHd.bears])).run Try.prog W = .ok true W := fun W => (equalH noHd noHd W).trans (by rw [sameH_self])
  go_enter Try.func5, Try.ntmps5
  go_wp2_with fail
  generalize w.alloc (.cells #[.int .i64 h.every, .int .i64 h.dead, .int .i64 h.prio, .int .i64 h.dr, .int .i64 h.bdr, .slice A n c] 32) = w0 at *
  refine (wakes_any _).mono ?_
  rintro e1 w1 ⟨rfl, hb1⟩
  have K1 := Lib.hid (K0.out.below hb1 K0.out.lt)
  have B1 := Lib.hid (B0.out.trans (hb1.mono B0.out.size))
  clear hb1 K0 B0
  go_wp2_with fail
  refine (get_no i _).mono ?_
  rintro e2 w2 ⟨rfl, hb2⟩
  have K2 := Lib.hid (K1.out.below hb2 K1.out.lt)
  have B2 := Lib.hid (B1.out.trans (hb2.mono B1.out.size))
  clear hb2 K1 B1
  go_upto_region 5 with fail
  have K3 := Lib.hid (K2.out.alloc (.cells #[.int .i64 zeroP.id, .int .i64 zeroP.prio, .int .i64 zeroP.dr, .int .i64 zeroP.bdr, .int .i64 zeroP.st, .bool zeroP.two, .int .i64 zeroP.tick] 47))
  have B3 := Lib.hid (B2.out.alloc B2.out.size (.cells #[.int .i64 zeroP.id, .int .i64 zeroP.prio, .int .i64 zeroP.dr, .int .i64 zeroP.bdr, .int .i64 zeroP.st, .bool zeroP.two, .int .i64 zeroP.tick] 47))
  clear K2 B2
  generalize w2.alloc (.cells #[.int .i64 zeroP.id, .int .i64 zeroP.prio, .int .i64 zeroP.dr, .int .i64 zeroP.bdr, .int .i64 zeroP.st, .bool zeroP.two, .int .i64 zeroP.tick] 47) = w3 at *
  have hl3 := K3.out.lt
  have R3 := Lib.hid K3.out.rangeHl
  go_wp2_with (first
    | (refine wpList_load_hl (by rfl) _ rfl (by rfl) R3.out ?_)
    | (go_at_call 8; refine (hear_no i h i A n c _).mono ?_; rintro e4 w4 ⟨rfl, hb4⟩; have B4 := Lib.hid (B3.out.trans (hb4.mono B3.out.size)); clear hb4)
    | (go_at_call 11; refine (late_no i _).mono ?_; rintro e5 w5 ⟨⟨A5, c5, rfl⟩, hb5⟩; have B5 := Lib.hid (B4.out.trans (hb5.mono B4.out.size)); clear hb5)
    | (go_at_call 18; refine (all_no _).mono ?_; rintro e6 w6 ⟨rfl, hq⟩; rw [hq]; clear hq w6)
    | (go_at_call 20; refine (seen_no _).mono ?_; rintro e7 w7 ⟨⟨A7, c7, rfl⟩, hb7⟩; have B7 := Lib.hid (B5.out.trans (hb7.mono B5.out.size)); clear hb7)
    | (go_at_call 21; refine (cands_no _).mono ?_; rintro e8 w8 ⟨rfl, hq⟩; rw [hq]; clear hq w8)
    | (go_at_call 13; refine (drop_nil i _).mono ?_; rintro e9 w9 ⟨rfl, hq⟩; rw [hq]; clear hq w9)
    | (go_at_call 15; refine (set_nil i 1 _).mono ?_; rintro e10 w10 ⟨rfl, hq⟩; rw [hq]; clear hq w10))
  go_ret
  exact ⟨rfl, B7.out⟩
/-- A second Hello, as the first one. -/
theorem again_plain {i : Int} {h : Hl} {at_ : Int} (ht : takesB 1 0 i h = true) :
    (∃ x, hearX 1 0 [] i h 0 = [x] ∧ x.id = i ∧ hearX 1 0 [x] i h at_ = [⟨x.id, x.prio, x.dr, x.bdr, x.st, x.two, at_⟩] ∧ hearH 1 0 [x] i h at_ = ⟨true, false, x.two, false, false⟩) ∧ (hearH 1 0 [] i h 0).taken = true := by
  have e1 : hearX 1 0 [] i h 0 = [toldP 1 (newP i) h 0] := by unfold hearX; rw [if_pos ht]; rfl
  refine ⟨⟨toldP 1 (newP i) h 0, e1, rfl, ?_, ?_⟩, by unfold hearH; rw [if_pos ht]; rfl⟩
  · unfold hearX
    rw [if_pos ht]
    have e2 : wasP [toldP 1 (newP i) h 0] i = toldP 1 (newP i) h 0 := by simp [wasP, findP, toldP, newP]
    rw [e2]
    simp [putP, toldP]
  · unfold hearH
    rw [if_pos ht]
    have e2 : wasP [toldP 1 (newP i) h 0] i = toldP 1 (newP i) h 0 := by simp [wasP, findP, toldP, newP]
    have e3 : (findP [toldP 1 (newP i) h 0] i).isNone = false := by simp [findP, toldP, newP]
    rw [e2, e3]
    simp [ledH, bearsB, toldP]
theorem again_not {i : Int} {h : Hl} (ht : takesB 1 0 i h = false) : hearX 1 0 [] i h 0 = [] ∧ hearH 1 0 [] i h 0 = noHd := by
  unfold hearX hearH
  rw [ht]
  exact ⟨rfl, rfl⟩
set_option maxRecDepth 8000 in
set_option maxHeartbeats 8000000 in
theorem again_walk (f m : Int) (h : Hl) (A : Option Addr) (n c : Nat) (hh : wfHl h) (hf : 0 ≤ f ∧ f ≤ 255) (hm : 0 ≤ m ∧ m ≤ 255) (w : World) (hL : Row .i64 w w.heap.size A n h.seen) (hnm : n ≤ maxLen) :
    Calls Try.prog 4 #[.int .u8 f, .agg #[.int .i64 h.every, .int .i64 h.dead, .int .i64 h.prio, .int .i64 h.dr, .int .i64 h.bdr, .slice A n c], .int .u8 m] w fun e w' => e = .returned (.bool true) ∧ Below w.heap.size w w' := by
  have B0 := Lib.hid ((Below.refl w.heap.size w).alloc (Nat.le_refl _) (.cells #[.int .i64 h.every, .int .i64 h.dead, .int .i64 h.prio, .int .i64 h.dr, .int .i64 h.bdr, .slice A n c] 32))
  have K0 := Lib.hid (Blk.new w 32 #[.int .i64 h.every, .int .i64 h.dead, .int .i64 h.prio, .int .i64 h.dr, .int .i64 h.bdr, .slice A n c])
  have R0 := Lib.hid (hL.below B0.out)
  have HH := Lib.hid hh
  have HF := Lib.hid hf
  have HM := Lib.hid hm
  have HMX := Lib.hid hnm
  unfold maxLen at hnm
  clear hh hL hf hm
  have hfd : ∀ (W : World) (a b c d e : Bool), (Instr.field 36 (.agg #[.bool a, .bool b, .bool c, .bool d, .bool e]) 0).run Try.prog W = .ok (.bool a) W := fun _ _ _ _ _ _ => by kernel_rfl
  go_enter Try.func4, Try.ntmps4
  go_wp2_with fail
  generalize w.alloc (.cells #[.int .i64 h.every, .int .i64 h.dead, .int .i64 h.prio, .int .i64 h.dr, .int .i64 h.bdr, .slice A n c] 32) = w0 at *
  generalize hg : w.heap.size = g at *
  have HG := Lib.hid hg
  clear hg
  refine (wakes_any _).mono ?_
  rintro e1 w1 ⟨rfl, hb1⟩
  have K1 := Lib.hid (K0.out.below hb1 K0.out.lt)
  have B1 := Lib.hid (B0.out.trans (hb1.mono (by have := B0.out.size; have := HG.out; omega)))
  have R1 := Lib.hid (R0.out.below (hb1.mono (by have := B0.out.size; have := HG.out; omega)))
  clear hb1 K0 B0 R0
  obtain ⟨i0, i1, i2, i3, i4, i5⟩ := K1.out.six
  have hl1 := K1.out.lt
  by_cases hn : 40 < n
  · have hn' : (40 : Int) < n := by omega
    go_wp2
    go_ret
    exact ⟨rfl, by rw [HG.out]; exact B1.out⟩
  have hn' : ¬ (40 : Int) < n := by omega
  go_wp2_with fail
  clear i0 i1 i2 i3 i4 i5
  refine (new_any (sf := 1) (lan := 0) (by omega) (by omega) w1).mono ?_
  rintro e2 w2 ⟨rfl, hp2, hb2⟩
  have P2 := Lib.hid hp2
  have K2 := Lib.hid (K1.out.below hb2 hl1)
  have B2 := Lib.hid (B1.out.trans (hb2.mono (by have := B1.out.size; have := HG.out; omega)))
  have R2 := Lib.hid (R1.out.below (hb2.mono (by have := B1.out.size; have := HG.out; omega)))
  have HP := Lib.hid (show g ≤ w1.heap.size by omega)
  clear hp2 hb2 K1 B1 R1 hl1
  generalize w1.heap.size = p at *
  have RH := Lib.hid K2.out.rangeHl
  have hl2 := K2.out.lt
  have hf0 := HF.out.1
  have hf1 := HF.out.2
  go_wp2_with (refine wpList_load_hl (by rfl) _ rfl (by rfl) RH.out ?_)
  generalize (2 + f % 14) = i at *
  have HGS := Lib.hid (show g ≤ w2.heap.size by omega)
  refine (hear_any i h 0 A n c HH.out P2.out (R2.out.more HGS.out) HMX.out (by omega)).mono ?_
  rintro e3 w3 ⟨⟨r3, rfl, hr3⟩, ⟨F3, bk3, hp3, hf3⟩, hc3⟩
  have B3 := Lib.hid (show Below g w w3 from B2.out.trans (Chg.to_below (B := g) hc3 (fun k hk => by rw [hk]; exact HP.out) HGS.out))
  have K3 := Lib.hid (K2.out.below (Chg.to_below (B := g + 1) hc3 (fun k hk => by rw [hk]; have h1 := HP.out; have h2 := P2.out.obj; have h3 := K2.out; rcases Nat.lt_or_ge g p with h | h; exact h; exact absurd (show w2.heap[g]? = w2.heap[p]? by rw [show g = p by omega]) (by intro e; have e1 : w2.heap[g]? = _ := h3; have e2 : w2.heap[p]? = _ := h2; rw [e1, e2] at e; injection e with e; injection e with _ e; exact absurd e (by decide))) (by omega)) (Nat.lt_succ_self g))
  have R3 := Lib.hid (show Row .i64 w3 g A n h.seen from R2.out.below (Chg.to_below (B := g) hc3 (fun k hk => by rw [hk]; exact HP.out) HGS.out))
  have P3 := Lib.hid hp3
  have HF3 := Lib.hid (show ∀ k, F3 k → g ≤ k from fun k hk => by
    rcases hf3 k hk with h | h
    · rw [h]; exact HP.out
    · have := HGS.out; omega)
  have hs3 := hc3.size
  clear hc3 hp3 hf3 K2 B2 R2 P2 RH hl2
  cases ht : takesB 1 0 i h
  · obtain ⟨e1, e2⟩ := again_not ht
    rw [e2] at hr3
    have hr3' : r3 = ⟨false, false, false, false, false⟩ := hr3
    subst hr3'
    rw [e1] at P3
    clear e1 e2 ht hr3
    go_wp2_with fail
    refine (all_any P3.out).mono ?_
    rintro e4 w4 ⟨⟨A4, n4, c4, rfl, ho4⟩, hb4⟩
    have h4 := own_len encPe_len (by omega) ho4
    simp at h4
    subst h4
    have B4 := Lib.hid (B3.out.trans (hb4.mono (by have := HGS.out; omega)))
    clear hb4 ho4
    go_wp2
    go_ret
    exact ⟨rfl, by rw [HG.out]; exact B4.out⟩
  · obtain ⟨⟨x, e1, e2, -, -⟩, e5⟩ := again_plain (at_ := m) ht
    have HX2 := Lib.hid (show hearX 1 0 [x] i h m = [⟨x.id, x.prio, x.dr, x.bdr, x.st, x.two, m⟩] ∧ hearH 1 0 [x] i h m = ⟨true, false, x.two, false, false⟩ by
      obtain ⟨⟨x', e1', e2', e3', e4'⟩, -⟩ := again_plain (at_ := m) ht
      rw [e1'] at e1
      injection e1 with e1
      subst e1
      exact ⟨e3', e4'⟩)
    rw [e1] at P3
    obtain ⟨tk, fr, tw, on, be⟩ := r3
    have htk : tk = true := by rw [← hr3] at e5; exact e5
    subst htk
    have HM0 := HM.out.1
    have HM1 := HM.out.2
    clear e1 e2 e5 hr3 ht
    have RH3 := Lib.hid K3.out.rangeHl
    have hl3 := K3.out.lt
    go_wp2_with (refine wpList_load_hl (by rfl) _ rfl (by rfl) RH3.out ?_)
    have HGS3 := Lib.hid (show g ≤ w3.heap.size by have := HGS.out; omega)
    refine (hear_any i h m A n c HH.out P3.out (R3.out.more HGS3.out) HMX.out (by omega)).mono ?_
    rintro e6 w6 ⟨⟨r6, rfl, hr6⟩, ⟨F6, bk6, hp6, hf6⟩, hc6⟩
    rw [HX2.out.2] at hr6
    subst hr6
    rw [HX2.out.1] at hp6
    have P6 := Lib.hid hp6
    have B6 := Lib.hid (show Below g w w6 from B3.out.trans (Chg.to_below (B := g) hc6 HF3.out HGS3.out))
    have HGS6 := Lib.hid (show g ≤ w6.heap.size by have := HGS3.out; have := hc6.size; omega)
    clear hp6 hc6 hf6 K3 B3 R3 P3 RH3 hl3
    go_upto_region 11 with fail
    have P7 := Lib.hid (P6.out.below ((Below.refl _ _).alloc (Nat.le_refl _) (.cells #[.bool true, .bool false, .bool x.two, .bool false, .bool false] 36)))
    have B7 := Lib.hid (B6.out.alloc HGS6.out (.cells #[.bool true, .bool false, .bool x.two, .bool false, .bool false] 36))
    have K7 := Lib.hid (Blk.new w6 36 #[.bool true, .bool false, .bool x.two, .bool false, .bool false])
    have HGS7 := Lib.hid (show g ≤ (w6.alloc (.cells #[.bool true, .bool false, .bool x.two, .bool false, .bool false] 36)).heap.size by have := HGS6.out; simp; omega)
    generalize w6.alloc (.cells #[.bool true, .bool false, .bool x.two, .bool false, .bool false] 36) = w7 at *
    obtain ⟨m0, m1, m2, m3, m4⟩ := K7.out.five
    have hl7 := K7.out.lt
    have HL1 := Lib.hid (show lateL [⟨x.id, x.prio, x.dr, x.bdr, x.st, x.two, m⟩] (m + 8 - 1) = [] by
      have e : decide (8 ≤ m + 8 - 1 - m) = false := by simp; omega
      simp [lateL, lateB, e])
    have HL2 := Lib.hid (show lateL [⟨x.id, x.prio, x.dr, x.bdr, x.st, x.two, m⟩] (m + 8) = [x.id] by
      have e : decide (8 ≤ m + 8 - m) = true := by simp; omega
      simp [lateL, lateB, e])
    go_wp2_with fail
    refine (lateL_any (m + 8 - 1) (by omega) P7.out).mono ?_
    rintro e8 w8 ⟨⟨A8, n8, c8, rfl, ho8⟩, hb8⟩
    rw [HL1.out] at ho8
    have h8 := own_len encI_len (by omega) ho8
    simp at h8
    subst h8
    have P8 := Lib.hid (P7.out.below hb8)
    have B8 := Lib.hid (B7.out.trans (hb8.mono HGS7.out))
    have HGS8 := Lib.hid (show g ≤ w8.heap.size by have := HGS7.out; have := hb8.size; omega)
    clear hb8 ho8 m0 m1 m2 m3 m4 hl7
    go_wp2_with fail
    refine (lateL_any (m + 8) (by omega) P8.out).mono ?_
    rintro e9 w9 ⟨⟨A9, n9, c9, rfl, ho9⟩, hb9⟩
    rw [HL2.out] at ho9
    have h9 := own_len encI_len (by omega) ho9
    simp at h9
    subst h9
    have B9 := Lib.hid (B8.out.trans (hb9.mono HGS8.out))
    clear hb9 ho9
    go_wp2
    go_ret
    exact ⟨rfl, by rw [HG.out]; exact B9.out⟩
end Go.Proofs.Ytfapphndfgoknaa
