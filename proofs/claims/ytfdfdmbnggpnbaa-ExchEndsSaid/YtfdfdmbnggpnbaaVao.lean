/- say, neitherHasMore, agrees, fits of the program. Conditions: what the words say. · fits, goOn of the program. Conditions: what the words say. · goOn of the program. Conditions: what the words say. · begin of the program. Conditions: at most 100 descriptions. · Fits of one number. Conditions: an integer of 64 bits. · Hear of the program. Conditions: a number of 64 bits; at most 100 descriptions, on blocks below those of the exchange. -/
import Derived.Test.YtfdfdmbnggpnbaaVan
import Derived.Test.YtfdfdmbnggpnbaaVaa
import Derived.Test.YtfdfdmbnggpnbaaVab
import Derived.Test.YtfdfdmbnggpnbaaVah
namespace Go.Proofs.Ytfdfdmbnggpnbaa
open Go.RowKit Go.Lib Go.Sort Go.Deep

theorem belowD {B q : Nat} {w w' : World} (h : Below B w w') : Below B w (w'.drewN q) := ⟨h.os, h.tape, h.output, h.size, h.block⟩
section
variable {w : World} {F : Nat → Prop} {p : Nat} {x : Ex}
set_option maxRecDepth 8000 in
set_option maxHeartbeats 2000000 in
theorem sayX {h : Option Addr} (hB : Blk w p 108 (exC x h)) (hh : HeadsAt w F h x.K) (hn : x.K.length ≤ 1000) : Calls Try.prog 86 #[.pointer (some ⟨p, 0, none⟩)] w fun e w' => e = .returned (.tuple #[]) ∧ Blk w' p 108 (exC (sayE x) h) ∧ Chg (fun q => q = p) w w' := by
  obtain ⟨self, other, seq, agreed, leads, done, took, said, K⟩ := x
  dsimp only at hh hn
  have K0 := Lib.hid (show Blk w p 108 #[.int .i64 self, .int .i64 other, .int .u32 seq, .bool agreed, .bool leads, .bool done, .bool took.init, .bool took.more, .bool took.master, .int .u32 took.seq, .bool said.init, .bool said.more, .bool said.master, .int .u32 said.seq, .pointer h] from hB)
  clear hB
  have hpl := K0.out.lt
  have g14 := fun n' os => Go.cell_grown (n := n') (os := os) (a := ⟨p, 14, none⟩) hpl (K0.out.cell 14)
  have g4 := fun n' os => Go.cell_grown (n := n') (os := os) (a := ⟨p, 4, none⟩) hpl (K0.out.cell 4)
  have g2 := fun n' os => Go.cell_grown (n := n') (os := os) (a := ⟨p, 2, none⟩) hpl (K0.out.cell 2)
  have pc : ∀ n' os, Calls Try.prog 17 #[.pointer h] (Go.Sort.grow (w.drewN n') os) fun e w'' => e = .returned (.bool (decide (3 < K.length))) ∧ ∃ pp : GrownBy, w'' = Go.Sort.grow (w.drewN pp.n) pp.os := fun n' os => by
    refine Calls.grown_of ((moreO (hh.move (w' := Go.Sort.grow (w.drewN n') os) (fun q _ hq => heap_grow_old _ _ (by exact hq)) (by rw [Go.Sort.size_grow]; exact Nat.le_add_right _ _)) hn).mono ?_)
    rintro e w' ⟨rfl, q, rfl⟩
    exact ⟨rfl, q, #[], by rw [grow_empty]⟩
  obtain ⟨v, hv⟩ : ∃ v, decide (3 < K.length) = v := ⟨_, rfl⟩
  rw [hv] at pc
  have HV := Lib.hid hv
  clear hv hh hn
  go_enter Try.func86, Try.ntmps86
  go_wp2_with fail
  refine region_grown_tail 17 (by kernel_rfl) (by kernel_rfl) ?_
  simp only [List.take_succ_cons, List.take_zero, List.drop_succ_cons, List.drop_zero]
  repeat (quiet_step (first | (go_at_call 17; with_reducible exact pc _ _)))
  refine wpQuiet_nil ?_
  intro _ hw'
  obtain ⟨⟨nq, osq⟩, hw''⟩ := hw'
  subst hw''
  dsimp only
  have K2 := Lib.hid (show Blk (Go.Sort.grow (w.drewN nq) osq) p 108 #[.int .i64 self, .int .i64 other, .int .u32 seq, .bool agreed, .bool leads, .bool done, .bool took.init, .bool took.more, .bool took.master, .int .u32 took.seq, .bool said.init, .bool said.more, .bool said.master, .int .u32 said.seq, .pointer h] from K0.out.below grownW hpl)
  have C2 := Lib.hid (Chg.of_below (F := fun q => q = p) (grownW (w := w) (q := nq) (os := osq)))
  clear K0 g14 g4 g2 pc hpl
  generalize Go.Sort.grow (w.drewN nq) osq = w2 at *
  clear nq osq
  go_wp2_with (refine wpList_store_said (i := false) (m := v) (s := leads) (q := seq) rfl (.tmp 18) (.tmp 16) rfl rfl rfl K2.out ?_; intro w3 HK3 HC3)
  refine bodyPost_end (results_none rfl _ _ _) rfl ?_
  refine ⟨rfl, ?_, C2.out.trans HC3.out (fun q hq => .inl hq)⟩
  show Blk w3 p 108 #[.int .i64 self, .int .i64 other, .int .u32 seq, .bool agreed, .bool leads, .bool done, .bool took.init, .bool took.more, .bool took.master, .int .u32 took.seq, .bool false, .bool (decide (3 < K.length)), .bool leads, .int .u32 seq, .pointer h]
  rw [HV.out]
  exact HK3.out
def quietE (x : Ex) : Bool := !x.took.more && !x.said.more
set_option maxRecDepth 8000 in
set_option maxHeartbeats 2000000 in
theorem neitherX {h : Option Addr} (hB : Blk w p 108 (exC x h)) : Calls Try.prog 87 #[.pointer (some ⟨p, 0, none⟩)] w fun e w' => e = .returned (.bool (quietE x)) ∧ w' = w := by
  have c7 : w.cell? ⟨p, 7, none⟩ = some (.bool x.took.more) := hB.cell 7
  have c11 : w.cell? ⟨p, 11, none⟩ = some (.bool x.said.more) := hB.cell 11
  unfold quietE
  clear hB
  cases h1 : x.took.more
  all_goals
    rw [h1] at c7
    clear h1
    go_enter Try.func87, Try.ntmps87
    go_wp2
    go_ret
    exact ⟨rfl, rfl⟩
set_option maxRecDepth 8000 in
set_option maxHeartbeats 4000000 in
theorem agreesX {h : Option Addr} (pc : Pc) (n : Nat) (hB : Blk w p 108 (exC x h)) : Calls Try.prog 61 #[.pointer (some ⟨p, 0, none⟩), .agg #[.bool pc.init, .bool pc.more, .bool pc.master, .int .u32 pc.seq], .int .i64 n] w fun e w' => e = .returned (.bool (agreesE x pc n)) ∧ Below w.heap.size w w' := by
  obtain ⟨i, m, s, q⟩ := pc
  obtain ⟨v, hv⟩ : ∃ v, agreesE x ⟨i, m, s, q⟩ n = v := ⟨_, rfl⟩
  rw [hv]
  have HV := Lib.hid hv
  have B0 := Lib.hid ((Below.refl w.heap.size w).alloc (Nat.le_refl _) (.cells #[.bool i, .bool m, .bool s, .int .u32 q] 106))
  have K0 := hB.alloc (.cells #[.bool i, .bool m, .bool s, .int .u32 q] 106)
  obtain ⟨n0, n1, n2, n3⟩ := (Blk.new w 106 #[.bool i, .bool m, .bool s, .int .u32 q]).four
  have hpl := K0.lt
  have hnl := (Blk.new w 106 #[.bool i, .bool m, .bool s, .int .u32 q]).lt
  have c0 : (w.alloc (.cells #[.bool i, .bool m, .bool s, .int .u32 q] 106)).cell? ⟨p, 0, none⟩ = some (.int .i64 x.self) := K0.cell 0
  have c1 : (w.alloc (.cells #[.bool i, .bool m, .bool s, .int .u32 q] 106)).cell? ⟨p, 1, none⟩ = some (.int .i64 x.other) := K0.cell 1
  have c2 : (w.alloc (.cells #[.bool i, .bool m, .bool s, .int .u32 q] 106)).cell? ⟨p, 2, none⟩ = some (.int .u32 x.seq) := K0.cell 2
  clear hB hv K0
  by_cases h1 : x.self < x.other
  · have d1 : decide (x.self < x.other) = true := by simpa using h1
    have e1 := HV.out
    unfold agreesE at e1
    rw [if_pos h1] at e1
    have d2 : decide (n = 0) = ((n : Int) == 0) := by by_cases h : n = 0 <;> simp [h]
    rw [d2] at e1
    clear d2 h1 HV
    cases i
    all_goals
      cases m
      all_goals
        cases s
        all_goals
          simp only [Bool.false_and, Bool.true_and, Bool.and_false] at e1
          have HE := Lib.hid e1
          clear e1
          go_enter Try.func61, Try.ntmps61
          go_wp2_with fail
          go_quiet (fail)
          go_wp2
          go_ret
          exact ⟨ret_bool HE.out, belowD B0.out⟩
  · have d1 : decide (x.self < x.other) = false := by simpa using h1
    have e1 := HV.out
    unfold agreesE at e1
    rw [if_neg h1] at e1
    clear h1 HV
    by_cases h2 : x.other < x.self
    · have d2 : decide (x.other < x.self) = true := by simpa using h2
      rw [d2] at e1
      have d3 : decide (q = x.seq) = (q == x.seq) := by by_cases h : q = x.seq <;> simp [h]
      rw [show (⟨i, m, s, q⟩ : Pc).seq = q from rfl, d3] at e1
      clear d3 h2
      cases i
      all_goals
        cases s
        all_goals
          simp only [Bool.false_and, Bool.true_and, Bool.and_false, Bool.not_true, Bool.not_false] at e1
          have HE := Lib.hid e1
          clear e1
          go_enter Try.func61, Try.ntmps61
          go_wp2_with fail
          go_quiet (fail)
          go_wp2_with fail
          go_quiet (fail)
          go_wp2
          go_ret
          exact ⟨ret_bool HE.out, belowD (belowD B0.out)⟩
    · have d2 : decide (x.other < x.self) = false := by simpa using h2
      rw [d2] at e1
      simp only [Bool.false_and] at e1
      have HE := Lib.hid e1
      clear e1 h2
      go_enter Try.func61, Try.ntmps61
      go_wp2_with fail
      go_quiet (fail)
      go_wp2_with fail
      go_quiet (fail)
      go_wp2
      go_ret
      exact ⟨ret_bool HE.out, belowD (belowD B0.out)⟩
end
end Go.Proofs.Ytfdfdmbnggpnbaa
namespace Go.Proofs.Ytfdfdmbnggpnbaa
open Go.RowKit Go.Lib Go.Sort Go.Deep

section
variable {w : World} {F : Nat → Prop} {p : Nat} {x : Ex}
set_option maxRecDepth 8000 in
set_option maxHeartbeats 4000000 in
theorem fitsX {h : Option Addr} (pc : Pc) (hB : Blk w p 108 (exC x h)) : Calls Try.prog 63 #[.pointer (some ⟨p, 0, none⟩), .agg #[.bool pc.init, .bool pc.more, .bool pc.master, .int .u32 pc.seq]] w fun e w' => e = .returned (.bool (fitsE x pc)) ∧ Below w.heap.size w w' := by
  obtain ⟨self, other, seq, agreed, leads, done, took, said, K⟩ := x
  obtain ⟨i, m, s, q⟩ := pc
  obtain ⟨v, hv⟩ : ∃ v, fitsE ⟨self, other, seq, agreed, leads, done, took, said, K⟩ ⟨i, m, s, q⟩ = v := ⟨_, rfl⟩
  rw [hv]
  unfold fitsE at hv
  dsimp only at hv
  have B0 := Lib.hid ((Below.refl w.heap.size w).alloc (Nat.le_refl _) (.cells #[.bool i, .bool m, .bool s, .int .u32 q] 106))
  have K0 : Blk (w.alloc (.cells #[.bool i, .bool m, .bool s, .int .u32 q] 106)) p 108 #[.int .i64 self, .int .i64 other, .int .u32 seq, .bool agreed, .bool leads, .bool done, .bool took.init, .bool took.more, .bool took.master, .int .u32 took.seq, .bool said.init, .bool said.more, .bool said.master, .int .u32 said.seq, .pointer h] := hB.alloc (.cells #[.bool i, .bool m, .bool s, .int .u32 q] 106)
  obtain ⟨n0, n1, n2, n3⟩ := (Blk.new w 106 #[.bool i, .bool m, .bool s, .int .u32 q]).four
  have hpl := K0.lt
  have hnl := (Blk.new w 106 #[.bool i, .bool m, .bool s, .int .u32 q]).lt
  have c2 := K0.cell 2
  have c4 := K0.cell 4
  have c5 := K0.cell 5
  have hup : IntKind.u32.wrap (seq + 1) = up32 seq := u32_mod _
  simp at c2 c4 c5
  clear hB K0
  have dq : ∀ a b : Int, decide (a = b) = (a == b) := fun a b => by by_cases h : a = b <;> simp [h]
  rw [dq] at hv
  clear dq
  cases leads
  all_goals
    cases done
    all_goals
      cases i
      all_goals
        cases s
        all_goals
          have HE := Lib.hid hv
          clear hv
          go_enter Try.func63, Try.ntmps63
          go_wp2_with fail
          go_quiet (fail)
          go_wp2
          go_ret
          exact ⟨ret_bool HE.out, belowD B0.out⟩
end
end Go.Proofs.Ytfdfdmbnggpnbaa
namespace Go.Proofs.Ytfdfdmbnggpnbaa
open Go.RowKit Go.Lib Go.Sort Go.Deep

theorem Chg.wide {F F' : Nat → Prop} {w w' : World} (h : Chg F w w') (hF : ∀ q, F q → F' q) : Chg F' w w' := ⟨h.os, h.tape, h.output, h.size, fun k hk hf => h.block k hk (fun e => hf (hF k e))⟩
section
variable {w : World} {F : Nat → Prop} {p : Nat} {x : Ex}
set_option maxRecDepth 8000 in
set_option maxHeartbeats 4000000 in
theorem goOnX (pc : Pc) (hp : okSeq pc.seq = true) (hx : ExAt w F p x) : Calls Try.prog 64 #[.pointer (some ⟨p, 0, none⟩), .agg #[.bool pc.init, .bool pc.more, .bool pc.master, .int .u32 pc.seq]] w fun e w' => e = .returned (.tuple #[]) ∧ ExAt w' F p (goOnE x pc) ∧ Chg F w w' := by
  obtain ⟨hok, hfp, h, hB, hh⟩ := hx
  have GO := Lib.hid (hok.goOn hp)
  have HN := Lib.hid hok.len
  have HF := Lib.hid hfp
  have C0 := Lib.hid (Chg.of_below (F := F) ((Below.refl w.heap.size w).alloc (Nat.le_refl _) (.cells #[.bool pc.init, .bool pc.more, .bool pc.master, .int .u32 pc.seq] 106)))
  have K0 := Lib.hid (hB.alloc (.cells #[.bool pc.init, .bool pc.more, .bool pc.master, .int .u32 pc.seq] 106))
  have H0 := Lib.hid (hh.move (w' := w.alloc (.cells #[.bool pc.init, .bool pc.more, .bool pc.master, .int .u32 pc.seq] 106)) (fun q _ hq => Below.heap_alloc w _ q hq) (by simp))
  have N0 := Blk.new w 106 #[.bool pc.init, .bool pc.more, .bool pc.master, .int .u32 pc.seq]
  have R0 := Lib.hid (show (w.alloc (.cells #[.bool pc.init, .bool pc.more, .bool pc.master, .int .u32 pc.seq] 106)).rangeAt w.heap.size 0 [.bool pc.init, .bool pc.more, .bool pc.master, .int .u32 pc.seq] from fun j v hv => by
    rw [Nat.zero_add, N0.cell, ← hv]
    simp)
  clear hB hh hok hfp hp N0
  go_enter Try.func64, Try.ntmps64
  go_wp2_with (refine wpList_load_row 106 _ _ (by rfl) (.tmp 3) rfl (by rfl) R0.out Try.underlying106 rfl (by kernel_rfl) ?_)
  refine (takeX pc K0.out).mono ?_
  rintro e1 w1 ⟨rfl, hb1, hc1⟩
  have K1 := Lib.hid hb1
  have H1 := Lib.hid (show HeadsAt w1 (fun q => F q ∧ q ≠ p) h (takeE x pc).K from H0.out.chg (F' := fun q => q = p) hc1 (fun q hq e => hq.2 e))
  have C1 := Lib.hid (C0.out.trans (hc1.wide (F' := F) (fun q hq => by rw [hq]; exact HF.out)) (fun q hq => .inl hq))
  clear C0 K0 H0 R0 hb1 hc1
  have c4 : w1.cell? ⟨p, 4, none⟩ = some (.bool x.leads) := K1.out.cell 4
  have f5 := K1.out.frozen 5
  cases hl : x.leads
  · rw [hl] at c4
    have HL := Lib.hid hl
    have HG := Lib.hid (show goOnE x pc = { stepE (takeE x pc) with done := quietE (stepE (takeE x pc)) } by
      unfold goOnE quietE
      rw [hl]
      simp [stepE, sayE, takeE])
    clear hl
    have c14 : w1.cell? ⟨p, 14, none⟩ = some (.pointer h) := K1.out.cell 14
    go_wp2_with fail
    refine (stepO (F := fun q => F q ∧ q ≠ p) H1.out HN.out).mono ?_
    rintro e3 w3 ⟨⟨v3, rfl⟩, hh3, hc3⟩
    have K3 := Lib.hid (show Blk w3 p 108 (exC { takeE x pc with K := x.K.drop 3 } h) from K1.out.chg hc3 (fun hf => hf.2 rfl))
    have H3 := Lib.hid hh3
    have C3 := Lib.hid (C1.out.trans (hc3.wide (F' := F) (fun q hq => hq.1)) (fun q hq => .inl hq))
    clear hh3 hc3 K1 H1 C1 c4 f5 c14
    go_wp2_with fail
    refine (sayX (x := { takeE x pc with K := x.K.drop 3 }) K3.out H3.out (by have := HN.out; simp; omega)).mono ?_
    rintro e4 w4 ⟨rfl, hb4, hc4⟩
    have K4 := Lib.hid (show Blk w4 p 108 (exC (stepE (takeE x pc)) h) from hb4)
    have H4 := Lib.hid (H3.out.chg (F' := fun q => q = p) hc4 (fun q hq e => hq.2 e))
    have C4 := Lib.hid (C3.out.trans (hc4.wide (F' := F) (fun q hq => by rw [hq]; exact HF.out)) (fun q hq => .inl hq))
    clear hb4 hc4 K3 H3 C3
    have c4 : w4.cell? ⟨p, 4, none⟩ = some (.bool false) := by
      have := K4.out.cell 4
      rw [← HL.out]
      exact this
    have hpl := K4.out.lt
    have c5 := K4.out.cell 5
    have f5 := K4.out.frozen 5
    simp [exC] at c5
    go_wp2_with fail
    refine (neitherX K4.out).mono ?_
    rintro e5 w5 ⟨rfl, h5⟩
    rw [h5]
    clear h5 w5
    generalize quietE (stepE (takeE x pc)) = b at *
    go_wp2
    refine bodyPost_end (results_none rfl _ _ _) rfl ?_
    refine ⟨rfl, ⟨GO.out, HF.out, h, ?_, ?_⟩, C4.out.trans (chg_put (F := F) _ _ HF.out) (fun q hq => .inl hq)⟩
    · rw [HG.out]
      exact K4.out.put 5 (.bool (b))
    · rw [HG.out]
      exact H4.out.chg (chg_put (F := fun q => q = p) _ _ rfl) (fun q hq e => hq.2 e)
  · rw [hl] at c4
    have HL := Lib.hid hl
    clear hl
    go_wp2_with fail
    refine (neitherX K1.out).mono ?_
    rintro e2 w2 ⟨rfl, h2⟩
    rw [h2]
    clear h2 w2
    cases hq : quietE (takeE x pc)
    · have HG := Lib.hid (show goOnE x pc = { stepE (takeE x pc) with done := false } by
        unfold goOnE
        rw [HL.out]
        unfold quietE at hq
        rw [show (takeE x pc).took.more = pc.more from rfl, show (takeE x pc).said.more = x.said.more from rfl] at hq
        rw [Bool.true_and, hq]
        simp)
      clear hq
      have c14 : w1.cell? ⟨p, 14, none⟩ = some (.pointer h) := K1.out.cell 14
      go_wp2_with fail
      refine (stepO (F := fun q => F q ∧ q ≠ p) H1.out HN.out).mono ?_
      rintro e3 w3 ⟨⟨v3, rfl⟩, hh3, hc3⟩
      have K3 := Lib.hid (show Blk w3 p 108 (exC { takeE x pc with K := x.K.drop 3 } h) from K1.out.chg hc3 (fun hf => hf.2 rfl))
      have H3 := Lib.hid hh3
      have C3 := Lib.hid (C1.out.trans (hc3.wide (F' := F) (fun q hq => hq.1)) (fun q hq => .inl hq))
      clear hh3 hc3 K1 H1 C1 c4 f5 c14
      go_wp2_with fail
      refine (sayX (x := { takeE x pc with K := x.K.drop 3 }) K3.out H3.out (by have := HN.out; simp; omega)).mono ?_
      rintro e4 w4 ⟨rfl, hb4, hc4⟩
      have K4 := Lib.hid (show Blk w4 p 108 (exC (stepE (takeE x pc)) h) from hb4)
      have H4 := Lib.hid (H3.out.chg (F' := fun q => q = p) hc4 (fun q hq e => hq.2 e))
      have C4 := Lib.hid (C3.out.trans (hc4.wide (F' := F) (fun q hq => by rw [hq]; exact HF.out)) (fun q hq => .inl hq))
      clear hb4 hc4 K3 H3 C3
      have c4 : w4.cell? ⟨p, 4, none⟩ = some (.bool true) := by
        have := K4.out.cell 4
        rw [← HL.out]
        exact this
      have hpl := K4.out.lt
      have c5 := K4.out.cell 5
      have f5 := K4.out.frozen 5
      simp [exC] at c5
      go_wp2
      refine bodyPost_end (results_none rfl _ _ _) rfl ?_
      refine ⟨rfl, ⟨GO.out, HF.out, h, ?_, ?_⟩, C4.out.trans (chg_put (F := F) _ _ HF.out) (fun q hq => .inl hq)⟩
      · rw [HG.out]
        exact K4.out.put 5 (.bool (false))
      · rw [HG.out]
        exact H4.out.chg (chg_put (F := fun q => q = p) _ _ rfl) (fun q hq e => hq.2 e)
    · have HG := Lib.hid (show goOnE x pc = { takeE x pc with done := true } by
        unfold goOnE
        rw [HL.out]
        unfold quietE at hq
        rw [show (takeE x pc).took.more = pc.more from rfl, show (takeE x pc).said.more = x.said.more from rfl] at hq
        rw [Bool.true_and, hq]
        simp)
      clear hq
      have hpl := K1.out.lt
      have c5 := K1.out.cell 5
      simp [exC] at c5
      go_wp2
      refine bodyPost_ret (results_none rfl _ _ _) rfl ?_
      refine ⟨rfl, ⟨GO.out, HF.out, h, ?_, ?_⟩, C1.out.trans (chg_put (F := F) _ _ HF.out) (fun q hq => .inl hq)⟩
      · rw [HG.out]
        exact K1.out.put 5 (.bool true)
      · rw [HG.out]
        exact H1.out.chg (chg_put (F := fun q => q = p) _ _ rfl) (fun q hq e => hq.2 e)
end
end Go.Proofs.Ytfdfdmbnggpnbaa
namespace Go.Proofs.Ytfdfdmbnggpnbaa
open Go.RowKit Go.Lib Go.Sort Go.Deep

section
variable {α : Type} {lt : α → α → Bool}
end
/-- K are the heads that are told of S, in order. -/
def Told (S : List La) (K : List Hd) : Prop := Ord lessH K ∧ Stab lessH (toldL S) K
theorem told_len {S : List La} {K : List Hd} (h : Told S K) : K.length ≤ S.length := by
  have h2 := h.2.1
  have h4 : (toldL S).length ≤ S.length := by
    unfold toldL
    rw [List.length_map]
    exact List.length_filter_le _ _
  omega
/-- The blocks of F, and those that were made. -/
def Fp (F : Nat → Prop) (w w' : World) : Nat → Prop := fun q => F q ∨ (w.heap.size ≤ q ∧ q < w'.heap.size)
section
variable {w w' : World} {F : Nat → Prop} {p : Nat} {x : Ex}
theorem ExAt.wide {F' : Nat → Prop} (h : ExAt w F p x) (hF : ∀ q, F q → F' q) : ExAt w F' p x := by
  obtain ⟨hok, hfp, a, hB, hh⟩ := h
  exact ⟨hok, hF _ hfp, a, hB, hh.wide (fun q hq => ⟨hF _ hq.1, hq.2⟩)⟩
theorem sum_heads {w w' : World} {p : Nat} {A : Option Addr} {n c : Nat} {K : List Hd} (hp : w.heap.size ≤ p) (hB : Blk w' p 83 #[.slice A n c]) (hO : w'.ownsRow w.heap.size 43 7 (.slice A n c) n (cellsBy encHd K)) : HeadsAt w' (fun q => w.heap.size ≤ q ∧ q < w'.heap.size) (some ⟨p, 0, none⟩) K := .inr ⟨p, A, n, c, rfl, sum_new hp hB hO⟩
set_option maxRecDepth 8000 in
set_option maxHeartbeats 4000000 in
theorem beginX (pc : Pc) {A : Option Addr} {n c B : Nat} {S : List La} {K : List Hd} (hp : okSeq pc.seq = true) (hx : ExAt w F p x) (hS : Las w B A n S) (hBw : B ≤ w.heap.size) (hFB : ∀ q, F q → B ≤ q) (hn : n ≤ 100) (hK : Told S K) :
    Calls Try.prog 62 #[.pointer (some ⟨p, 0, none⟩), .agg #[.bool pc.init, .bool pc.more, .bool pc.master, .int .u32 pc.seq], .slice A n c] w fun e w' => e = .returned (.tuple #[]) ∧ ExAt w' (Fp F w w') p (beginE x pc K) ∧ Chg F w w' := by
  have hKl := told_len hK
  have hSl := hS.1
  obtain ⟨hok, hfp, h, hB, hh⟩ := hx
  have GO := Lib.hid (hok.begin (K := K) hp (by omega))
  have HF := Lib.hid hfp
  have HK := Lib.hid hK
  have HN := Lib.hid (show K.length ≤ 1000 by omega)
  have HS := Lib.hid hS
  have hpw := hB.lt
  have f3 := hB.frozen 3
  have c3 : w.cell? ⟨p, 3, none⟩ = some (.bool x.agreed) := hB.cell 3
  have C1 := Lib.hid ((chg_put (F := F) (a := ⟨p, 3, none⟩) w (.bool true) HF.out).trans (Chg.of_below (F := F) ((Below.refl (w.setCell ⟨p, 3, none⟩ (.bool true)).heap.size _).alloc (Nat.le_refl _) (.cells #[.bool pc.init, .bool pc.more, .bool pc.master, .int .u32 pc.seq] 106))) (fun q hq => .inl hq))
  have K1 := Lib.hid ((hB.put 3 (.bool true)).alloc (.cells #[.bool pc.init, .bool pc.more, .bool pc.master, .int .u32 pc.seq] 106))
  have N1 := Lib.hid (show Blk ((w.setCell ⟨p, 3, none⟩ (.bool true)).alloc (.cells #[.bool pc.init, .bool pc.more, .bool pc.master, .int .u32 pc.seq] 106)) w.heap.size 106 #[.bool pc.init, .bool pc.more, .bool pc.master, .int .u32 pc.seq] by
    have := Blk.new (w.setCell ⟨p, 3, none⟩ (.bool true)) 106 #[.bool pc.init, .bool pc.more, .bool pc.master, .int .u32 pc.seq]
    simpa using this)
  have HZ := Lib.hid (show w.heap.size < ((w.setCell ⟨p, 3, none⟩ (.bool true)).alloc (.cells #[.bool pc.init, .bool pc.more, .bool pc.master, .int .u32 pc.seq] 106)).heap.size from N1.out.lt)
  obtain ⟨v, hv⟩ : ∃ v, decide (x.other < x.self) = v := ⟨_, rfl⟩
  have HV := Lib.hid hv
  have HBW := Lib.hid hBw
  have HFB := Lib.hid hFB
  clear hFB
  clear hKl hSl hok hfp hh hp hB hK hS
  go_enter Try.func62, Try.ntmps62
  go_wp2_with fail
  generalize (w.setCell ⟨p, 3, none⟩ (.bool true)).alloc (.cells #[.bool pc.init, .bool pc.more, .bool pc.master, .int .u32 pc.seq] 106) = w1 at *
  obtain ⟨z, hz⟩ : ∃ z, w.heap.size = z := ⟨_, rfl⟩
  rw [hz] at N1 hpw HZ HBW ⊢
  have HZ2 := Lib.hid hz
  clear hz f3 c3 hBw
  have hpl := K1.out.lt
  have c0 : w1.cell? ⟨p, 0, none⟩ = some (.int .i64 x.self) := K1.out.cell 0
  have c1 : w1.cell? ⟨p, 1, none⟩ = some (.int .i64 x.other) := K1.out.cell 1
  have c4 : w1.cell? ⟨p, 4, none⟩ = some (.bool x.leads) := K1.out.cell 4
  have f4 := K1.out.frozen 4
  go_still_tail 12, (by kernel_rfl)
  change wpList Try.prog _ _ _ _ w1.drew
  have K1a := Lib.hid (K1.out.drew)
  have N1a := Lib.hid (N1.out.drew)
  have C1a := Lib.hid (C1.out.trans (⟨rfl, rfl, rfl, Nat.le_refl _, fun _ _ _ => rfl⟩ : Chg F w1 w1.drew) (fun q hq => .inl hq))
  have HZa := Lib.hid (show z < w1.drew.heap.size from HZ.out)
  clear c0 c1 c4 f4 hpl K1 N1 C1 HZ
  generalize w1.drew = w2 at *
  clear w1
  have hpl := K1a.out.lt
  have c4 : w2.cell? ⟨p, 4, none⟩ = some (.bool x.leads) := K1a.out.cell 4
  have f4 := K1a.out.frozen 4
  have K2 := Lib.hid (show Blk (w2.setCell ⟨p, 4, none⟩ (.bool v)) p 108 (exC { x with agreed := true, leads := decide (x.other < x.self), K := K } h) by rw [HV.out]; exact K1a.out.put 4 (.bool v))
  have N2 := Lib.hid (N1a.out.far (p := ⟨p, 4, none⟩) (by simp; omega) (.bool v))
  have C2 := Lib.hid (C1a.out.trans (chg_put (F := F) (a := ⟨p, 4, none⟩) _ (.bool v) HF.out) (fun q hq => .inl hq))
  have HZ3 := Lib.hid (show z < (w2.setCell ⟨p, 4, none⟩ (.bool v)).heap.size by simpa using HZa.out)
  clear K1a N1a C1a HZa hv
  go_wp2_with fail
  clear hpl c4 f4
  generalize w2.setCell ⟨p, 4, none⟩ (.bool v) = w3 at *
  clear w2
  have B3 := Lib.hid (C2.out.to_below HFB.out (by rw [HZ2.out]; exact HBW.out))
  have HBZ := Lib.hid (Nat.le_trans HBW.out (Nat.le_of_lt HZ3.out))
  refine (new_any (HS.out.below B3.out) HBZ.out hn).mono ?_
  rintro e4 w4 ⟨q, A1, N1, c1, K', rfl, hb4, hq4, hB4, hO4, hOrd, hStab⟩
  have hKK : K' = K := (stab_unique swo_less HK.out.1 hOrd (HK.out.2.symm.trans hStab)).symm
  subst hKK
  have H4 := Lib.hid (sum_heads hq4 hB4 hO4)
  have K4 := Lib.hid (K2.out.below hb4 K2.out.lt)
  have N4 := Lib.hid (N2.out.below hb4 N2.out.lt)
  have C4 := Lib.hid (C2.out.trans (Chg.of_below (F := F) hb4) (fun q hq => .inl hq))
  have HPQ := Lib.hid (show p ≠ q by have := K2.out.lt; omega)
  have HZP := Lib.hid (show ∀ k, w3.heap.size ≤ k → k ≠ p ∧ k ≠ z ∧ w.heap.size ≤ k from fun k hk => by
    have h1 := K2.out.lt
    have h2 := N2.out.lt
    have h3 := C2.out.size
    omega)
  clear hb4 hq4 hB4 hO4 hOrd hStab K2 N2 C2 HZ3 B3 HBZ HK HS
  have hpl := K4.out.lt
  have f14 := K4.out.frozen 14
  have c14 : w4.cell? ⟨p, 14, none⟩ = some (.pointer h) := K4.out.cell 14
  have N5 := Lib.hid (N4.out.far (p := ⟨p, 14, none⟩) (by simp; omega) (.pointer (some ⟨q, 0, none⟩)))
  have R5 := Lib.hid (show (w4.setCell ⟨p, 14, none⟩ (.pointer (some ⟨q, 0, none⟩))).rangeAt z 0 [.bool pc.init, .bool pc.more, .bool pc.master, .int .u32 pc.seq] from fun j v hv => by
    rw [Nat.zero_add, N5.out.cell, ← hv]
    simp)
  go_wp2_with (refine wpList_load_row 106 _ _ (by rfl) (.tmp 4) rfl (by rfl) R5.out Try.underlying106 rfl (by kernel_rfl) ?_)
  have K5 := Lib.hid (show Blk (w4.setCell ⟨p, 14, none⟩ (.pointer (some ⟨q, 0, none⟩))) p 108 (exC { x with agreed := true, leads := decide (x.other < x.self), K := K' } (some ⟨q, 0, none⟩)) from K4.out.put 14 (.pointer (some ⟨q, 0, none⟩)))
  have C5 := Lib.hid (C4.out.trans (chg_put (F := F) (a := ⟨p, 14, none⟩) _ (.pointer (some ⟨q, 0, none⟩)) HF.out) (fun q hq => .inl hq))
  have H5 := Lib.hid (show HeadsAt (w4.setCell ⟨p, 14, none⟩ (.pointer (some ⟨q, 0, none⟩))) (fun k => w3.heap.size ≤ k ∧ k < w4.heap.size) (some ⟨q, 0, none⟩) K' from H4.out.chg (chg_put (F := fun k => k = p) _ _ rfl) (fun k hk e => (HZP.out k hk.1).1 e))
  have HS5 := Lib.hid (show w4.heap.size ≤ (w4.setCell ⟨p, 14, none⟩ (.pointer (some ⟨q, 0, none⟩))).heap.size by simp)
  clear hpl f14 c14 N5 R5 N4 K4 C4 H4
  generalize w4.setCell ⟨p, 14, none⟩ (.pointer (some ⟨q, 0, none⟩)) = w5 at *
  refine (takeX pc K5.out).mono ?_
  rintro e6 w6 ⟨rfl, hb6, hc6⟩
  have K6 := Lib.hid hb6
  have C6 := Lib.hid (C5.out.trans (hc6.wide (F' := F) (fun k hk => by rw [hk]; exact HF.out)) (fun k hk => .inl hk))
  have H6 := Lib.hid (H5.out.chg hc6 (fun k hk e => (HZP.out k hk.1).1 e))
  have HS6 := Lib.hid (Nat.le_trans HS5.out hc6.size)
  clear hb6 hc6 K5 C5 H5 HS5
  clear w5
  go_wp2_with fail
  refine (sayX (x := takeE { x with agreed := true, leads := decide (x.other < x.self), K := K' } pc) K6.out H6.out HN.out).mono ?_
  rintro e7 w7 ⟨rfl, hb7, hc7⟩
  go_wp2
  refine bodyPost_end (results_none rfl _ _ _) rfl ?_
  refine ⟨rfl, ⟨GO.out, .inl HF.out, some ⟨q, 0, none⟩, hb7, (H6.out.chg hc7 (fun k hk e => (HZP.out k hk.1).1 e)).wide (fun k hk => ⟨.inr ⟨(HZP.out k hk.1).2.2, ?_⟩, (HZP.out k hk.1).1⟩)⟩, C6.out.trans (hc7.wide (F' := F) (fun k hk => by rw [hk]; exact HF.out)) (fun k hk => .inl hk)⟩
  have := HS6.out
  have := hc7.size
  have := hk.2
  omega
end
end Go.Proofs.Ytfdfdmbnggpnbaa
namespace Go.Proofs.Ytfdfdmbnggpnbaa
open Go.RowKit

set_option maxRecDepth 4000 in
set_option maxHeartbeats 400000 in
theorem fits_any (A2 : Option Addr) (k c2 B2 : Nat) (wd : Int) (zs : List Int) (w : World) (hr2 : Row .i64 w B2 A2 k zs) (h64 : I64 zs) (hk : k ≤ 100000) :
    Calls Try.prog 60 #[.int .i64 wd, .slice A2 k c2] w fun x w' => x = .returned (.bool (zs.all (fitB (hold wd).toNat))) ∧ w = w' := by
  have hh1 := hold_lo wd
  have hh4 := hold_hi wd
  obtain ⟨m, hm⟩ := Int.eq_ofNat_of_zero_le (a := hold wd) (by omega)
  have hm1 : 1 ≤ m := by omega
  have hm4 : m ≤ 4 := by omega
  have HM := Lib.hid hm
  rw [hm, Int.toNat_natCast]
  clear hm hh1 hh4
  have HR2 := Lib.hid hr2
  have H64 := Lib.hid h64
  clear hr2 h64
  go_enter Try.func60, Try.ntmps60
  go_wp2_with fail
  refine (held_any _ _).mono ?_
  rintro e1 w1 ⟨rfl, rfl⟩
  rw [HM.out]
  go_wp2_with fail
  go_loop [13] (fun i => ∃ q : Nat, q ≤ k ∧ i = .int .i64 q ∧ Hid ((zs.take q).all (fitB m) = true)) (fun i => k - (intOf i).toNat)
  case atStart => exact ⟨0, Nat.zero_le _, rfl, Lib.hid rfl⟩
  case round =>
    obtain ⟨q, hq, rfl, hall⟩ := hrel
    by_cases hlt : q < k
    · obtain ⟨b, o, rfl, hb, hc⟩ := HR2.out.2 (by omega)
      have hcx := hc q hlt
      clear hc
      have hf := fit_shift m (zs.getD q 0) (IntKind.u64.wrap (zs.getD q 0)) hm1 hm4 (by rw [IntKind.wrap_u64]) (H64.out.getD q).1 (H64.out.getD q).2
      have HX : Hid (zs.getD q 0 = zs.getD q 0) := rfl
      generalize hx : zs.getD q 0 = x at hcx hf
      have HX2 := Lib.hid hx
      clear HX hx
      by_cases hfit : fitB m x = true
      · have h0 := hf.2 hfit
        have HF := Lib.hid hfit
        have h1 : (IntKind.u64.wrap x / 2 ^ (8 * m) != 0) = false := by simp [h0]
        clear hf hfit h0
        go_wp2
        go_round
        case rel => exact ⟨q + 1, by omega, by go_num, Lib.hid (all_take_snoc _ _ _ (by rw [HR2.out.1]; exact hlt) hall.out (by rw [HX2.out]; exact HF.out))⟩
        case measure => simp [intOf]; omega
      · have h0 : ¬ (IntKind.u64.wrap x / 2 ^ (8 * m) = 0) := fun h => hfit (hf.1 h)
        have h1 : (IntKind.u64.wrap x / 2 ^ (8 * m) != 0) = true := by simp [h0]
        have HF := Lib.hid hfit
        clear hf hfit h0
        go_wp2
        go_ret
        exact ⟨ret_bool (all_false _ _ q (by rw [HR2.out.1]; exact hlt) (by rw [HX2.out]; simpa using HF.out)).symm, rfl⟩
    · go_wp2
      go_ret
      have h1 := hall.out
      rw [List.take_of_length_le (by rw [HR2.out.1]; omega)] at h1
      exact ⟨ret_bool h1.symm, rfl⟩
theorem fit_okSeq (q : Int) : fitB 4 q = okSeq q := by
  unfold fitB okSeq
  rw [show ((256 : Int) ^ 4) = 4294967296 by decide]
  by_cases h1 : 0 ≤ q <;> by_cases h2 : q < 4294967296 <;> simp [h1, h2]
/-- Fits of one number that was laid out for it. -/
theorem fits_one (x : Int) (W : World) (z : Nat) (hz : W.heap.size = z) (h0 : -9223372036854775808 ≤ x) (h1 : x ≤ 9223372036854775807) :
    Calls Try.prog 60 #[.int .i64 4, .slice (some ⟨z, 0, none⟩) 1 1] (W.alloc (.cells #[.int .i64 x] 3)) fun e w' => e = .returned (.bool (okSeq x)) ∧ w' = W.alloc (.cells #[.int .i64 x] 3) := by
  have hB : Blk (W.alloc (.cells #[.int .i64 x] 3)) z 3 #[.int .i64 x] := hz ▸ Blk.new W _ _
  have hR : Row .i64 (W.alloc (.cells #[.int .i64 x] 3)) (z + 1) (some ⟨z, 0, none⟩) 1 [x] := ⟨rfl, fun _ => ⟨z, 0, rfl, by omega, fun i hi => by
    obtain rfl : i = 0 := by omega
    exact hB.cell 0⟩⟩
  refine (fits_any (some ⟨z, 0, none⟩) 1 1 (z + 1) 4 [x] _ hR (fun y hy => by simp at hy; subst hy; exact ⟨h0, h1⟩) (by omega)).mono ?_
  rintro e w' ⟨rfl, rfl⟩
  refine ⟨?_, rfl⟩
  rw [← fit_okSeq]
  simp [hold]
end Go.Proofs.Ytfdfdmbnggpnbaa
namespace Go.Proofs.Ytfdfdmbnggpnbaa
open Go.RowKit Go.Lib Go.Sort Go.Deep

theorem underPc : Try.prog.underlying 106 = some (.struct (Try.prog.fieldsOf 106)) := by kernel_rfl
theorem stoodPc : Try.prog.stoodInHeld 106 = false := by kernel_rfl
theorem plainB : Try.prog.plainKey 4 = true := by kernel_rfl
theorem plainU : Try.prog.plainKey 104 = true := by kernel_rfl
theorem eqBoolK (W : World) (a b : Bool) : (Op.equalIn (9998 + 1) 4 (.bool a) (.bool b)).run Try.prog W = .ok (a == b) W := run_equalIn_bool W 9998 _ a b Try.underlying4
theorem eqU32K (W : World) (a b : Int) : (Op.equalIn (9998 + 1) 104 (.int .u32 a) (.int .u32 b)).run Try.prog W = .ok (a == b) W := run_equalIn_int W 9998 _ .u32 .u32 a b Try.underlying104
theorem equalPc (x y : Pc) (W : World) : (Op.equalIn 10000 106 (.agg #[.bool x.init, .bool x.more, .bool x.master, .int .u32 x.seq]) (.agg #[.bool y.init, .bool y.more, .bool y.master, .int .u32 y.seq])).run Try.prog W = .ok (decide (x = y)) W := by
  have q0 : ∀ z : Pc, (part 4 #[.bool z.init, .bool z.more, .bool z.master, .int .u32 z.seq] 0).run Try.prog W = .ok (.bool z.init) W := fun z => run_part_plain W plainB rfl
  have q1 : ∀ z : Pc, (part 4 #[.bool z.init, .bool z.more, .bool z.master, .int .u32 z.seq] 1).run Try.prog W = .ok (.bool z.more) W := fun z => run_part_plain W plainB rfl
  have q2 : ∀ z : Pc, (part 4 #[.bool z.init, .bool z.more, .bool z.master, .int .u32 z.seq] 2).run Try.prog W = .ok (.bool z.master) W := fun z => run_part_plain W plainB rfl
  have q3 : ∀ z : Pc, (part 104 #[.bool z.init, .bool z.more, .bool z.master, .int .u32 z.seq] 3).run Try.prog W = .ok (.int .u32 z.seq) W := fun z => run_part_plain W plainU rfl
  rw [show (10000 : Nat) = 9998 + 1 + 1 from rfl, run_equalIn_struct W (9998 + 1) _ _ _ underPc stoodPc]
  simp [Program.fieldsOf, Try.underlying106, Op.eqFields, q0, q1, q2, q3, eqBoolK, eqU32K]
  clear q0 q1 q2 q3
  obtain ⟨x0, x1, x2, x3⟩ := x
  obtain ⟨y0, y1, y2, y3⟩ := y
  by_cases h1 : x0 = y0
  · by_cases h2 : x1 = y1
    · by_cases h3 : x2 = y2
      · by_cases h4 : x3 = y3 <;> simp [h1, h2, h3, h4]
      · simp [h1, h2, h3]
    · simp [h1, h2]
  · simp [h1]
end Go.Proofs.Ytfdfdmbnggpnbaa
