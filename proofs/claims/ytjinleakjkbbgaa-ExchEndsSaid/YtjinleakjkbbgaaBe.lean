/- say, neitherHasMore, agrees, fits of the program. Conditions: what the words say. -/
import Derived.Test.YtjinleakjkbbgaaBc
namespace Go.Proofs.Ytjinleakjkbbgaa
open Go.RowKit Go.Lib Go.Sort Go.Deep

theorem belowD {B q : Nat} {w w' : World} (h : Below B w w') : Below B w (w'.drewN q) := ⟨h.os, h.tape, h.output, h.size, h.block⟩
section
variable {w : World} {F : Nat → Prop} {p : Nat} {x : Ex}
set_option maxRecDepth 8000 in
set_option maxHeartbeats 2000000 in
theorem sayX {h : Option Addr} (hB : Blk w p 68 (exC x h)) (hh : HeadsAt w F h x.K) (hn : x.K.length ≤ 1000) : Calls Try.prog 41 #[.pointer (some ⟨p, 0, none⟩)] w fun e w' => e = .returned (.tuple #[]) ∧ Blk w' p 68 (exC (sayE x) h) ∧ Chg (fun q => q = p) w w' := by
  obtain ⟨self, other, seq, agreed, leads, done, took, said, K⟩ := x
  dsimp only at hh hn
  have K0 := Lib.hid (show Blk w p 68 #[.int .i64 self, .int .i64 other, .int .u32 seq, .bool agreed, .bool leads, .bool done, .bool took.init, .bool took.more, .bool took.master, .int .u32 took.seq, .bool said.init, .bool said.more, .bool said.master, .int .u32 said.seq, .pointer h] from hB)
  clear hB
  have hpl := K0.out.lt
  have g14 := fun n' os => Go.cell_grown (n := n') (os := os) (a := ⟨p, 14, none⟩) hpl (K0.out.cell 14)
  have g4 := fun n' os => Go.cell_grown (n := n') (os := os) (a := ⟨p, 4, none⟩) hpl (K0.out.cell 4)
  have g2 := fun n' os => Go.cell_grown (n := n') (os := os) (a := ⟨p, 2, none⟩) hpl (K0.out.cell 2)
  have pc : ∀ n' os, Calls Try.prog 50 #[.pointer h] (Go.Sort.grow (w.drewN n') os) fun e w'' => e = .returned (.bool (decide (3 < K.length))) ∧ ∃ pp : GrownBy, w'' = Go.Sort.grow (w.drewN pp.n) pp.os := fun n' os => by
    refine Calls.grown_of ((moreO (hh.move (w' := Go.Sort.grow (w.drewN n') os) (fun q _ hq => heap_grow_old _ _ (by exact hq)) (by rw [Go.Sort.size_grow]; exact Nat.le_add_right _ _)) hn).mono ?_)
    rintro e w' ⟨rfl, q, rfl⟩
    exact ⟨rfl, q, #[], by rw [grow_empty]⟩
  obtain ⟨v, hv⟩ : ∃ v, decide (3 < K.length) = v := ⟨_, rfl⟩
  rw [hv] at pc
  have HV := Lib.hid hv
  clear hv hh hn
  go_enter Try.func41, Try.ntmps41
  go_wp2_with fail
  refine region_grown_tail 17 (by kernel_rfl) (by kernel_rfl) ?_
  simp only [List.take_succ_cons, List.take_zero, List.drop_succ_cons, List.drop_zero]
  repeat (quiet_step (first | (go_at_call 50; with_reducible exact pc _ _)))
  refine wpQuiet_nil ?_
  intro _ hw'
  obtain ⟨⟨nq, osq⟩, hw''⟩ := hw'
  subst hw''
  dsimp only
  have K2 := Lib.hid (show Blk (Go.Sort.grow (w.drewN nq) osq) p 68 #[.int .i64 self, .int .i64 other, .int .u32 seq, .bool agreed, .bool leads, .bool done, .bool took.init, .bool took.more, .bool took.master, .int .u32 took.seq, .bool said.init, .bool said.more, .bool said.master, .int .u32 said.seq, .pointer h] from K0.out.below grownW hpl)
  have C2 := Lib.hid (Chg.of_below (F := fun q => q = p) (grownW (w := w) (q := nq) (os := osq)))
  clear K0 g14 g4 g2 pc hpl
  generalize Go.Sort.grow (w.drewN nq) osq = w2 at *
  clear nq osq
  go_wp2_with (refine wpList_store_said (i := false) (m := v) (s := leads) (q := seq) rfl (.tmp 18) (.tmp 16) rfl rfl rfl K2.out ?_; intro w3 HK3 HC3)
  refine bodyPost_end (results_none rfl _ _ _) rfl ?_
  refine ⟨rfl, ?_, C2.out.trans HC3.out (fun q hq => .inl hq)⟩
  show Blk w3 p 68 #[.int .i64 self, .int .i64 other, .int .u32 seq, .bool agreed, .bool leads, .bool done, .bool took.init, .bool took.more, .bool took.master, .int .u32 took.seq, .bool false, .bool (decide (3 < K.length)), .bool leads, .int .u32 seq, .pointer h]
  rw [HV.out]
  exact HK3.out
def quietE (x : Ex) : Bool := !x.took.more && !x.said.more
set_option maxRecDepth 8000 in
set_option maxHeartbeats 2000000 in
theorem neitherX {h : Option Addr} (hB : Blk w p 68 (exC x h)) : Calls Try.prog 42 #[.pointer (some ⟨p, 0, none⟩)] w fun e w' => e = .returned (.bool (quietE x)) ∧ w' = w := by
  have c7 : w.cell? ⟨p, 7, none⟩ = some (.bool x.took.more) := hB.cell 7
  have c11 : w.cell? ⟨p, 11, none⟩ = some (.bool x.said.more) := hB.cell 11
  unfold quietE
  clear hB
  cases h1 : x.took.more
  all_goals
    rw [h1] at c7
    clear h1
    go_enter Try.func42, Try.ntmps42
    go_wp2
    go_ret
    exact ⟨rfl, rfl⟩
set_option maxRecDepth 8000 in
set_option maxHeartbeats 4000000 in
theorem agreesX {h : Option Addr} (pc : Pc) (n : Nat) (hB : Blk w p 68 (exC x h)) : Calls Try.prog 27 #[.pointer (some ⟨p, 0, none⟩), .agg #[.bool pc.init, .bool pc.more, .bool pc.master, .int .u32 pc.seq], .int .i64 n] w fun e w' => e = .returned (.bool (agreesE x pc n)) ∧ Below w.heap.size w w' := by
  obtain ⟨i, m, s, q⟩ := pc
  obtain ⟨v, hv⟩ : ∃ v, agreesE x ⟨i, m, s, q⟩ n = v := ⟨_, rfl⟩
  rw [hv]
  have HV := Lib.hid hv
  have B0 := Lib.hid ((Below.refl w.heap.size w).alloc (Nat.le_refl _) (.cells #[.bool i, .bool m, .bool s, .int .u32 q] 65))
  have K0 := hB.alloc (.cells #[.bool i, .bool m, .bool s, .int .u32 q] 65)
  obtain ⟨n0, n1, n2, n3⟩ := (Blk.new w 65 #[.bool i, .bool m, .bool s, .int .u32 q]).four
  have hpl := K0.lt
  have hnl := (Blk.new w 65 #[.bool i, .bool m, .bool s, .int .u32 q]).lt
  have c0 : (w.alloc (.cells #[.bool i, .bool m, .bool s, .int .u32 q] 65)).cell? ⟨p, 0, none⟩ = some (.int .i64 x.self) := K0.cell 0
  have c1 : (w.alloc (.cells #[.bool i, .bool m, .bool s, .int .u32 q] 65)).cell? ⟨p, 1, none⟩ = some (.int .i64 x.other) := K0.cell 1
  have c2 : (w.alloc (.cells #[.bool i, .bool m, .bool s, .int .u32 q] 65)).cell? ⟨p, 2, none⟩ = some (.int .u32 x.seq) := K0.cell 2
  clear hB hv K0
  by_cases h1 : x.self < x.other
  · have d1 : decide (x.self < x.other) = true := by simpa using h1
    have e1 := HV.out
    unfold agreesE at e1
    rw [if_pos h1] at e1
    have d2 : decide (n = 0) = ((n : Int) == 0) := by by_cases h : n = 0 <;> simp [h]
    rw [d2] at e1
    clear d2 h1 HV
    cases i
    all_goals
      cases m
      all_goals
        cases s
        all_goals
          simp only [Bool.false_and, Bool.true_and, Bool.and_false] at e1
          have HE := Lib.hid e1
          clear e1
          go_enter Try.func27, Try.ntmps27
          go_wp2_with fail
          go_quiet (fail)
          go_wp2
          go_ret
          exact ⟨ret_bool HE.out, belowD B0.out⟩
  · have d1 : decide (x.self < x.other) = false := by simpa using h1
    have e1 := HV.out
    unfold agreesE at e1
    rw [if_neg h1] at e1
    clear h1 HV
    by_cases h2 : x.other < x.self
    · have d2 : decide (x.other < x.self) = true := by simpa using h2
      rw [d2] at e1
      have d3 : decide (q = x.seq) = (q == x.seq) := by by_cases h : q = x.seq <;> simp [h]
      rw [show (⟨i, m, s, q⟩ : Pc).seq = q from rfl, d3] at e1
      clear d3 h2
      cases i
      all_goals
        cases s
        all_goals
          simp only [Bool.false_and, Bool.true_and, Bool.and_false, Bool.not_true, Bool.not_false] at e1
          have HE := Lib.hid e1
          clear e1
          go_enter Try.func27, Try.ntmps27
          go_wp2_with fail
          go_quiet (fail)
          go_wp2_with fail
          go_quiet (fail)
          go_wp2
          go_ret
          exact ⟨ret_bool HE.out, belowD (belowD B0.out)⟩
    · have d2 : decide (x.other < x.self) = false := by simpa using h2
      rw [d2] at e1
      simp only [Bool.false_and] at e1
      have HE := Lib.hid e1
      clear e1 h2
      go_enter Try.func27, Try.ntmps27
      go_wp2_with fail
      go_quiet (fail)
      go_wp2_with fail
      go_quiet (fail)
      go_wp2
      go_ret
      exact ⟨ret_bool HE.out, belowD (belowD B0.out)⟩
end
end Go.Proofs.Ytjinleakjkbbgaa
