/- goOn of the program. Conditions: what the words say. -/
import Derived.Test.YtjinleakjkbbgaaBf
namespace Go.Proofs.Ytjinleakjkbbgaa
open Go.RowKit Go.Lib Go.Sort Go.Deep

theorem Chg.wide {F F' : Nat → Prop} {w w' : World} (h : Chg F w w') (hF : ∀ q, F q → F' q) : Chg F' w w' := ⟨h.os, h.tape, h.output, h.size, fun k hk hf => h.block k hk (fun e => hf (hF k e))⟩
section
variable {w : World} {F : Nat → Prop} {p : Nat} {x : Ex}
set_option maxRecDepth 8000 in
set_option maxHeartbeats 4000000 in
theorem goOnX (pc : Pc) (hp : okSeq pc.seq = true) (hx : ExAt w F p x) : Calls Try.prog 30 #[.pointer (some ⟨p, 0, none⟩), .agg #[.bool pc.init, .bool pc.more, .bool pc.master, .int .u32 pc.seq]] w fun e w' => e = .returned (.tuple #[]) ∧ ExAt w' F p (goOnE x pc) ∧ Chg F w w' := by
  obtain ⟨hok, hfp, h, hB, hh⟩ := hx
  have GO := Lib.hid (hok.goOn hp)
  have HN := Lib.hid hok.len
  have HF := Lib.hid hfp
  have C0 := Lib.hid (Chg.of_below (F := F) ((Below.refl w.heap.size w).alloc (Nat.le_refl _) (.cells #[.bool pc.init, .bool pc.more, .bool pc.master, .int .u32 pc.seq] 65)))
  have K0 := Lib.hid (hB.alloc (.cells #[.bool pc.init, .bool pc.more, .bool pc.master, .int .u32 pc.seq] 65))
  have H0 := Lib.hid (hh.move (w' := w.alloc (.cells #[.bool pc.init, .bool pc.more, .bool pc.master, .int .u32 pc.seq] 65)) (fun q _ hq => Below.heap_alloc w _ q hq) (by simp))
  have N0 := Blk.new w 65 #[.bool pc.init, .bool pc.more, .bool pc.master, .int .u32 pc.seq]
  have R0 := Lib.hid (show (w.alloc (.cells #[.bool pc.init, .bool pc.more, .bool pc.master, .int .u32 pc.seq] 65)).rangeAt w.heap.size 0 [.bool pc.init, .bool pc.more, .bool pc.master, .int .u32 pc.seq] from fun j v hv => by
    rw [Nat.zero_add, N0.cell, ← hv]
    simp)
  clear hB hh hok hfp hp N0
  go_enter Try.func30, Try.ntmps30
  go_wp2_with (refine wpList_load_row 65 _ _ (by rfl) (.tmp 3) rfl (by rfl) R0.out Try.underlying65 rfl (by kernel_rfl) ?_)
  refine (takeX pc K0.out).mono ?_
  rintro e1 w1 ⟨rfl, hb1, hc1⟩
  have K1 := Lib.hid hb1
  have H1 := Lib.hid (show HeadsAt w1 (fun q => F q ∧ q ≠ p) h (takeE x pc).K from H0.out.chg (F' := fun q => q = p) hc1 (fun q hq e => hq.2 e))
  have C1 := Lib.hid (C0.out.trans (hc1.wide (F' := F) (fun q hq => by rw [hq]; exact HF.out)) (fun q hq => .inl hq))
  clear C0 K0 H0 R0 hb1 hc1
  have c4 : w1.cell? ⟨p, 4, none⟩ = some (.bool x.leads) := K1.out.cell 4
  have f5 := K1.out.frozen 5
  cases hl : x.leads
  · rw [hl] at c4
    have HL := Lib.hid hl
    have HG := Lib.hid (show goOnE x pc = { stepE (takeE x pc) with done := quietE (stepE (takeE x pc)) } by
      unfold goOnE quietE
      rw [hl]
      simp [stepE, sayE, takeE])
    clear hl
    have c14 : w1.cell? ⟨p, 14, none⟩ = some (.pointer h) := K1.out.cell 14
    go_wp2_with fail
    refine (stepO (F := fun q => F q ∧ q ≠ p) H1.out HN.out).mono ?_
    rintro e3 w3 ⟨⟨v3, rfl⟩, hh3, hc3⟩
    have K3 := Lib.hid (show Blk w3 p 68 (exC { takeE x pc with K := x.K.drop 3 } h) from K1.out.chg hc3 (fun hf => hf.2 rfl))
    have H3 := Lib.hid hh3
    have C3 := Lib.hid (C1.out.trans (hc3.wide (F' := F) (fun q hq => hq.1)) (fun q hq => .inl hq))
    clear hh3 hc3 K1 H1 C1 c4 f5 c14
    go_wp2_with fail
    refine (sayX (x := { takeE x pc with K := x.K.drop 3 }) K3.out H3.out (by have := HN.out; simp; omega)).mono ?_
    rintro e4 w4 ⟨rfl, hb4, hc4⟩
    have K4 := Lib.hid (show Blk w4 p 68 (exC (stepE (takeE x pc)) h) from hb4)
    have H4 := Lib.hid (H3.out.chg (F' := fun q => q = p) hc4 (fun q hq e => hq.2 e))
    have C4 := Lib.hid (C3.out.trans (hc4.wide (F' := F) (fun q hq => by rw [hq]; exact HF.out)) (fun q hq => .inl hq))
    clear hb4 hc4 K3 H3 C3
    have c4 : w4.cell? ⟨p, 4, none⟩ = some (.bool false) := by
      have := K4.out.cell 4
      rw [← HL.out]
      exact this
    have hpl := K4.out.lt
    have c5 := K4.out.cell 5
    have f5 := K4.out.frozen 5
    simp [exC] at c5
    go_wp2_with fail
    refine (neitherX K4.out).mono ?_
    rintro e5 w5 ⟨rfl, h5⟩
    rw [h5]
    clear h5 w5
    generalize quietE (stepE (takeE x pc)) = b at *
    go_wp2
    refine bodyPost_end (results_none rfl _ _ _) rfl ?_
    refine ⟨rfl, ⟨GO.out, HF.out, h, ?_, ?_⟩, C4.out.trans (chg_put (F := F) _ _ HF.out) (fun q hq => .inl hq)⟩
    · rw [HG.out]
      exact K4.out.put 5 (.bool (b))
    · rw [HG.out]
      exact H4.out.chg (chg_put (F := fun q => q = p) _ _ rfl) (fun q hq e => hq.2 e)
  · rw [hl] at c4
    have HL := Lib.hid hl
    clear hl
    go_wp2_with fail
    refine (neitherX K1.out).mono ?_
    rintro e2 w2 ⟨rfl, h2⟩
    rw [h2]
    clear h2 w2
    cases hq : quietE (takeE x pc)
    · have HG := Lib.hid (show goOnE x pc = { stepE (takeE x pc) with done := false } by
        unfold goOnE
        rw [HL.out]
        unfold quietE at hq
        rw [show (takeE x pc).took.more = pc.more from rfl, show (takeE x pc).said.more = x.said.more from rfl] at hq
        rw [Bool.true_and, hq]
        simp)
      clear hq
      have c14 : w1.cell? ⟨p, 14, none⟩ = some (.pointer h) := K1.out.cell 14
      go_wp2_with fail
      refine (stepO (F := fun q => F q ∧ q ≠ p) H1.out HN.out).mono ?_
      rintro e3 w3 ⟨⟨v3, rfl⟩, hh3, hc3⟩
      have K3 := Lib.hid (show Blk w3 p 68 (exC { takeE x pc with K := x.K.drop 3 } h) from K1.out.chg hc3 (fun hf => hf.2 rfl))
      have H3 := Lib.hid hh3
      have C3 := Lib.hid (C1.out.trans (hc3.wide (F' := F) (fun q hq => hq.1)) (fun q hq => .inl hq))
      clear hh3 hc3 K1 H1 C1 c4 f5 c14
      go_wp2_with fail
      refine (sayX (x := { takeE x pc with K := x.K.drop 3 }) K3.out H3.out (by have := HN.out; simp; omega)).mono ?_
      rintro e4 w4 ⟨rfl, hb4, hc4⟩
      have K4 := Lib.hid (show Blk w4 p 68 (exC (stepE (takeE x pc)) h) from hb4)
      have H4 := Lib.hid (H3.out.chg (F' := fun q => q = p) hc4 (fun q hq e => hq.2 e))
      have C4 := Lib.hid (C3.out.trans (hc4.wide (F' := F) (fun q hq => by rw [hq]; exact HF.out)) (fun q hq => .inl hq))
      clear hb4 hc4 K3 H3 C3
      have c4 : w4.cell? ⟨p, 4, none⟩ = some (.bool true) := by
        have := K4.out.cell 4
        rw [← HL.out]
        exact this
      have hpl := K4.out.lt
      have c5 := K4.out.cell 5
      have f5 := K4.out.frozen 5
      simp [exC] at c5
      go_wp2
      refine bodyPost_end (results_none rfl _ _ _) rfl ?_
      refine ⟨rfl, ⟨GO.out, HF.out, h, ?_, ?_⟩, C4.out.trans (chg_put (F := F) _ _ HF.out) (fun q hq => .inl hq)⟩
      · rw [HG.out]
        exact K4.out.put 5 (.bool (false))
      · rw [HG.out]
        exact H4.out.chg (chg_put (F := fun q => q = p) _ _ rfl) (fun q hq e => hq.2 e)
    · have HG := Lib.hid (show goOnE x pc = { takeE x pc with done := true } by
        unfold goOnE
        rw [HL.out]
        unfold quietE at hq
        rw [show (takeE x pc).took.more = pc.more from rfl, show (takeE x pc).said.more = x.said.more from rfl] at hq
        rw [Bool.true_and, hq]
        simp)
      clear hq
      have hpl := K1.out.lt
      have c5 := K1.out.cell 5
      simp [exC] at c5
      go_wp2
      refine bodyPost_ret (results_none rfl _ _ _) rfl ?_
      refine ⟨rfl, ⟨GO.out, HF.out, h, ?_, ?_⟩, C1.out.trans (chg_put (F := F) _ _ HF.out) (fun q hq => .inl hq)⟩
      · rw [HG.out]
        exact K1.out.put 5 (.bool true)
      · rw [HG.out]
        exact H1.out.chg (chg_put (F := fun q => q = p) _ _ rfl) (fun q hq e => hq.2 e)
end
end Go.Proofs.Ytjinleakjkbbgaa
