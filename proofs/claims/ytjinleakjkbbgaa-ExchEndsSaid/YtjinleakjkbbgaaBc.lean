/- An exchange in memory; what it tells; its small calls. Conditions: what the words say. -/
import Derived.Test.YtjinleakjkbbgaaBb
import Derived.Test.YtjinleakjkbbgaaUm
import Derived.Deep.MidRow
import Derived.BigQuiet
import Derived.StillTailTactics
namespace Go.Proofs.Ytjinleakjkbbgaa
open Go.RowKit Go.Lib Go.Sort Go.Deep

def exC (x : Ex) (h : Option Addr) : Array Value := #[.int .i64 x.self, .int .i64 x.other, .int .u32 x.seq, .bool x.agreed, .bool x.leads, .bool x.done, .bool x.took.init, .bool x.took.more, .bool x.took.master, .int .u32 x.took.seq, .bool x.said.init, .bool x.said.more, .bool x.said.master, .int .u32 x.said.seq, .pointer h]
/-- The summary of an exchange: none, or its block and row, on blocks of F. -/
def HeadsAt (w : World) (F : Nat → Prop) (h : Option Addr) (K : List Hd) : Prop := (h = none ∧ K = []) ∨ ∃ q A n c, h = some ⟨q, 0, none⟩ ∧ SumAt w F q A n c K
/-- An exchange in memory: its block p, and its summary on other blocks, all of them of F. -/
structure ExAt (w : World) (F : Nat → Prop) (p : Nat) (x : Ex) : Prop where
  ok : ExOk x
  fp : F p
  mem : ∃ h, Blk w p 68 (exC x h) ∧ HeadsAt w (fun q => F q ∧ q ≠ p) h x.K
section
variable {w w' : World} {F F' : Nat → Prop} {p : Nat} {x : Ex} {h : Option Addr} {K : List Hd}
theorem HeadsAt.move (hh : HeadsAt w F h K) (hk : ∀ q, F q → q < w.heap.size → w'.heap[q]? = w.heap[q]?) (hz : w.heap.size ≤ w'.heap.size) : HeadsAt w' F h K := by
  rcases hh with hh | ⟨q, A, n, c, e, hs⟩
  · exact .inl hh
  · exact .inr ⟨q, A, n, c, e, hs.move hk hz⟩
theorem HeadsAt.wide (hh : HeadsAt w F h K) (hF : ∀ q, F q → F' q) : HeadsAt w F' h K := by
  rcases hh with hh | ⟨q, A, n, c, e, hs⟩
  · exact .inl hh
  · refine .inr ⟨q, A, n, c, e, ⟨hs.blk, hF _ hs.fp, hs.len, hs.cap, hs.big, fun hn => ?_⟩⟩
    obtain ⟨g, o, e, hg, hne, hlt, hc⟩ := hs.row hn
    exact ⟨g, o, e, hF _ hg, hne, hlt, hc⟩
theorem HeadsAt.chg (hh : HeadsAt w F h K) (hc : Chg F' w w') (hF : ∀ q, F q → ¬ F' q) : HeadsAt w' F h K := hh.move (fun q hq hl => hc.block q hl (hF q hq)) hc.size
theorem ExAt.move (hx : ExAt w F p x) (hk : ∀ q, F q → q < w.heap.size → w'.heap[q]? = w.heap[q]?) (hz : w.heap.size ≤ w'.heap.size) : ExAt w' F p x := by
  obtain ⟨h, hb, hh⟩ := hx.mem
  exact ⟨hx.ok, hx.fp, h, (hk p hx.fp hb.lt).trans hb, hh.move (fun q hq hl => hk q hq.1 hl) hz⟩
theorem ExAt.chg (hx : ExAt w F p x) (hc : Chg F' w w') (hF : ∀ q, F q → ¬ F' q) : ExAt w' F p x := hx.move (fun q hq hl => hc.block q hl (hF q hq)) hc.size
theorem ExAt.below (hx : ExAt w F p x) (hb : Below w.heap.size w w') : ExAt w' F p x := hx.move (fun q _ hl => hb.block q hl) hb.size
theorem ExAt.drewN (hx : ExAt w F p x) (q : Nat) : ExAt (w.drewN q) F p x := hx.move (fun _ _ _ => rfl) (Nat.le_refl _)
theorem ExAt.lt (hx : ExAt w F p x) : p < w.heap.size := by
  obtain ⟨h, hb, hh⟩ := hx.mem
  exact hb.lt
end
theorem Blk.fifteen {w : World} {g : Nat} {t : TypeId} {a0 a1 a2 a3 a4 a5 a6 a7 a8 a9 b0 b1 b2 b3 b4 : Value} (h : Blk w g t #[a0, a1, a2, a3, a4, a5, a6, a7, a8, a9, b0, b1, b2, b3, b4]) :
    w.cell? ⟨g, 0, none⟩ = some a0 ∧ w.cell? ⟨g, 1, none⟩ = some a1 ∧ w.cell? ⟨g, 2, none⟩ = some a2 ∧ w.cell? ⟨g, 3, none⟩ = some a3 ∧ w.cell? ⟨g, 4, none⟩ = some a4 ∧ w.cell? ⟨g, 5, none⟩ = some a5 ∧ w.cell? ⟨g, 6, none⟩ = some a6 ∧ w.cell? ⟨g, 7, none⟩ = some a7 ∧ w.cell? ⟨g, 8, none⟩ = some a8 ∧ w.cell? ⟨g, 9, none⟩ = some a9 ∧ w.cell? ⟨g, 10, none⟩ = some b0 ∧ w.cell? ⟨g, 11, none⟩ = some b1 ∧ w.cell? ⟨g, 12, none⟩ = some b2 ∧ w.cell? ⟨g, 13, none⟩ = some b3 ∧ w.cell? ⟨g, 14, none⟩ = some b4 :=
  ⟨h.cell 0, h.cell 1, h.cell 2, h.cell 3, h.cell 4, h.cell 5, h.cell 6, h.cell 7, h.cell 8, h.cell 9, h.cell 10, h.cell 11, h.cell 12, h.cell 13, h.cell 14⟩
/-- Stores into a block: of one cell; of a piece. -/
theorem Blk.fill {b : Nat} {t : TypeId} (post : List Value) : ∀ (vs rest pre : List Value) (w : World), rest.length = vs.length → Blk w b t (pre ++ rest ++ post).toArray → Blk (w.setCells b pre.length vs) b t (pre ++ vs ++ post).toArray
  | [], rest, pre, w, hl, h => by
    have : rest = [] := List.eq_nil_of_length_eq_zero hl
    subst this
    exact h
  | v :: r, [], pre, w, hl, h => by simp at hl
  | v :: r, u :: rest, pre, w, hl, h => by
    have h1 := h.put pre.length v
    have e : (pre ++ u :: rest ++ post).toArray.setIfInBounds pre.length v = ((pre ++ [v]) ++ rest ++ post).toArray := by
      rw [List.setIfInBounds_toArray]
      congr 1
      simp
    rw [e] at h1
    have h2 := Blk.fill post r rest (pre ++ [v]) _ (by simpa using hl) h1
    rw [List.length_append, List.length_singleton] at h2
    have e2 : (pre ++ v :: r ++ post).toArray = ((pre ++ [v]) ++ r ++ post).toArray := by simp
    rw [e2]
    exact h2
theorem Blk.thereAll {w : World} {b : Nat} {t : TypeId} {cs : Array Value} (h : Blk w b t cs) (o n : Nat) (hn : o + n ≤ cs.size) : w.there b o n := fun j hj => by
  constructor
  · rw [h.cell, Array.getElem?_eq_getElem (by omega)]
    rfl
  · exact h.frozen _
section
variable {ops : Array Oper} {rest : List Oper} {op : Oper} {a : Act} {w : World} {Q : Exit → Act → World → Prop}
theorem wpList_store_in (ty : TypeId) (pre old post vs : List Value) (hg : op.guard = none) (x v : Operand) (ho : op.op = .store ty x v) {b : Nat} {t : TypeId}
    (hx : a.eval x = .pointer (some ⟨b, pre.length, none⟩)) (hv : a.eval v = .agg vs.toArray) (hB : Blk w b t (pre ++ old ++ post).toArray) (hl : old.length = vs.length) (hi : (Try.prog.info? ty).map (·.size) = some vs.length) (h1 : ∀ u ∈ vs, u.oneCell' = true)
    (hn : ∀ w', Hid (Blk w' b t (pre ++ vs ++ post).toArray) → Hid (Chg (fun k => k = b) w w') → wpList Try.prog ops Q rest (a.put op.dst undef) w') : wpList Try.prog ops Q (op :: rest) a w := by
  refine wpList_store_mid hg ty x v ho b pre.length vs.toArray hx hv (hB.thereAll _ _ (by simp [hl])) (by simpa using hi) (all_oneCell_toArray h1) (hn _ (Lib.hid ?_) (Lib.hid ?_))
  · exact Blk.fill post vs old pre w hl hB
  · exact chg_setCells b _ _ w
theorem pc_ones (i m s : Bool) (q : Int) : ∀ u ∈ [Value.bool i, .bool m, .bool s, .int .u32 q], u.oneCell' = true := by
  intro u hu
  simp at hu
  rcases hu with rfl | rfl | rfl | rfl <;> rfl
theorem wpList_store_took {i m s : Bool} {q : Int} (hg : op.guard = none) (x v : Operand) (ho : op.op = .store 65 x v) {b : Nat} {t : TypeId} {a0 a1 a2 a3 a4 a5 a6 a7 a8 a9 b0 b1 b2 b3 b4 : Value}
    (hx : a.eval x = .pointer (some ⟨b, 6, none⟩)) (hv : a.eval v = .agg #[.bool i, .bool m, .bool s, .int .u32 q]) (hB : Blk w b t #[a0, a1, a2, a3, a4, a5, a6, a7, a8, a9, b0, b1, b2, b3, b4])
    (hn : ∀ w', Hid (Blk w' b t #[a0, a1, a2, a3, a4, a5, .bool i, .bool m, .bool s, .int .u32 q, b0, b1, b2, b3, b4]) → Hid (Chg (fun k => k = b) w w') → wpList Try.prog ops Q rest (a.put op.dst undef) w') : wpList Try.prog ops Q (op :: rest) a w :=
  wpList_store_in 65 [a0, a1, a2, a3, a4, a5] [a6, a7, a8, a9] [b0, b1, b2, b3, b4] [.bool i, .bool m, .bool s, .int .u32 q] hg x v ho hx hv hB rfl (by kernel_rfl) (pc_ones i m s q) hn
theorem wpList_store_said {i m s : Bool} {q : Int} (hg : op.guard = none) (x v : Operand) (ho : op.op = .store 65 x v) {b : Nat} {t : TypeId} {a0 a1 a2 a3 a4 a5 a6 a7 a8 a9 b0 b1 b2 b3 b4 : Value}
    (hx : a.eval x = .pointer (some ⟨b, 10, none⟩)) (hv : a.eval v = .agg #[.bool i, .bool m, .bool s, .int .u32 q]) (hB : Blk w b t #[a0, a1, a2, a3, a4, a5, a6, a7, a8, a9, b0, b1, b2, b3, b4])
    (hn : ∀ w', Hid (Blk w' b t #[a0, a1, a2, a3, a4, a5, a6, a7, a8, a9, .bool i, .bool m, .bool s, .int .u32 q, b4]) → Hid (Chg (fun k => k = b) w w') → wpList Try.prog ops Q rest (a.put op.dst undef) w') : wpList Try.prog ops Q (op :: rest) a w :=
  wpList_store_in 65 [a0, a1, a2, a3, a4, a5, a6, a7, a8, a9] [b0, b1, b2, b3] [b4] [.bool i, .bool m, .bool s, .int .u32 q] hg x v ho hx hv hB rfl (by kernel_rfl) (pc_ones i m s q) hn
end
theorem chg_put {F : Nat → Prop} (w : World) {a : Addr} (u : Value) (h : F a.block) : Chg F w (w.setCell a u) := Chg.of_grown (grown_setCell w a u) (fun k hk => by injection hk with hk; rw [← hk]; exact h)

section
variable {w : World} {F : Nat → Prop} {p : Nat} {x : Ex}
/-- New. -/
theorem u32_mod (s : Int) : IntKind.u32.wrap s = s % 4294967296 := by rw [IntKind.wrap_u32]
theorem grownW {w : World} {q : Nat} {os : Array Obj} : Below w.heap.size w (Go.Sort.grow (w.drewN q) os) := ⟨rfl, rfl, rfl, by rw [Go.Sort.size_grow]; exact Nat.le_add_right _ _, fun k hk => heap_grow_old _ _ (by exact hk)⟩
set_option maxRecDepth 8000 in
set_option maxHeartbeats 2000000 in
theorem newX_any (a b s : Int) (w : World) : Calls Try.prog 10 #[.int .i64 a, .int .i64 b, .int .i64 s] w fun e w' => e = .returned (.pointer (some ⟨w.heap.size, 0, none⟩)) ∧ ExAt w' (fun q => q = w.heap.size) w.heap.size (newE a b s) ∧ Below w.heap.size w w' := by
  obtain ⟨m, hm⟩ : ∃ m, IntKind.u32.wrap s = m := ⟨_, rfl⟩
  have HM := Lib.hid ((u32_mod s).symm.trans hm)
  go_enter Try.func10, Try.ntmps10
  go_wp2
  go_ret
  refine ⟨rfl, ⟨newE_ok a b s, rfl, none, ?_, .inl ⟨rfl, rfl⟩⟩, (Below.refl _ _).alloc (Nat.le_refl _) _⟩
  rw [show exC (newE a b s) none = #[.int .i64 a, .int .i64 b, .int .u32 m, .bool false, .bool false, .bool false, .bool false, .bool false, .bool false, .int .u32 0, .bool true, .bool true, .bool true, .int .u32 m, .pointer none] by simp only [exC, newE, pc0, HM.out]]
  exact Blk.new w _ _
/-- What an exchange tells of itself. -/
theorem agreedX {h : Option Addr} (hB : Blk w p 68 (exC x h)) : Calls Try.prog 23 #[.pointer (some ⟨p, 0, none⟩)] w fun e w' => e = .returned (.bool x.agreed) ∧ w' = w := by
  have c3 : w.cell? ⟨p, 3, none⟩ = some (.bool x.agreed) := hB.cell 3
  clear hB
  go_enter Try.func23, Try.ntmps23
  go_wp2
  go_ret
  exact ⟨rfl, rfl⟩
theorem leadsX {h : Option Addr} (hB : Blk w p 68 (exC x h)) : Calls Try.prog 20 #[.pointer (some ⟨p, 0, none⟩)] w fun e w' => e = .returned (.bool x.leads) ∧ w' = w := by
  have c3 : w.cell? ⟨p, 4, none⟩ = some (.bool x.leads) := hB.cell 4
  clear hB
  go_enter Try.func20, Try.ntmps20
  go_wp2
  go_ret
  exact ⟨rfl, rfl⟩
theorem doneX {h : Option Addr} (hB : Blk w p 68 (exC x h)) : Calls Try.prog 19 #[.pointer (some ⟨p, 0, none⟩)] w fun e w' => e = .returned (.bool x.done) ∧ w' = w := by
  have c3 : w.cell? ⟨p, 5, none⟩ = some (.bool x.done) := hB.cell 5
  clear hB
  go_enter Try.func19, Try.ntmps19
  go_wp2
  go_ret
  exact ⟨rfl, rfl⟩
theorem i64_of_u32 {q : Int} (h : okSeq q = true) : IntKind.i64.wrap q = q := by
  rw [okSeq_iff] at h
  rw [IntKind.wrap_i64]
  omega
theorem seqX {h : Option Addr} (hx : ExOk x) (hB : Blk w p 68 (exC x h)) : Calls Try.prog 24 #[.pointer (some ⟨p, 0, none⟩)] w fun e w' => e = .returned (.int .i64 x.seq) ∧ w' = w := by
  have c3 : w.cell? ⟨p, 2, none⟩ = some (.int .u32 x.seq) := hB.cell 2
  have hw := i64_of_u32 hx.seq
  clear hB hx
  go_enter Try.func24, Try.ntmps24
  go_wp2
  go_ret
  exact ⟨rfl, rfl⟩
/-- Piece, More, Step of what may be none. -/
theorem pieceO {h : Option Addr} {K : List Hd} (hh : HeadsAt w F h K) (hn : K.length ≤ 1000) : Calls Try.prog 37 #[.pointer h] w (PieceQ K w) := by
  rcases hh with ⟨rfl, rfl⟩ | ⟨q, A, n, c, rfl, hs⟩
  · exact pieceP_nil w
  · exact pieceP_any hs (by rw [← hs.len]; exact hn)
theorem moreO {h : Option Addr} {K : List Hd} (hh : HeadsAt w F h K) (hn : K.length ≤ 1000) : Calls Try.prog 50 #[.pointer h] w fun e w' => e = .returned (.bool (decide (3 < K.length))) ∧ ∃ q, w' = w.drewN q := by
  rcases hh with ⟨rfl, rfl⟩ | ⟨q, A, n, c, rfl, hs⟩
  · exact more_nil w
  · have := more_any hs (by rw [← hs.len]; exact hn)
    rwa [← hs.len] at this
theorem stepO {h : Option Addr} {K : List Hd} (hh : HeadsAt w F h K) (hn : K.length ≤ 1000) : Calls Try.prog 43 #[.pointer h] w fun e w' => (∃ v, e = .returned (.bool v)) ∧ HeadsAt w' F h (K.drop 3) ∧ Chg F w w' := by
  rcases hh with ⟨rfl, rfl⟩ | ⟨q, A, n, c, rfl, hs⟩
  · refine (step_nil w).mono ?_
    rintro e w' ⟨rfl, rfl⟩
    exact ⟨⟨_, rfl⟩, .inl ⟨rfl, rfl⟩, Chg.refl _ _⟩
  · refine (step_any hs (by rw [← hs.len]; exact hn)).mono ?_
    rintro e w' ⟨rfl, A', n', c', hs', hc⟩
    exact ⟨⟨_, rfl⟩, .inr ⟨q, A', n', c', rfl, hs'⟩, ⟨hc.os, hc.tape, hc.output, hc.size, fun k hk hf => hc.block k hk (fun e => hf (by rw [e]; exact hs.fp))⟩⟩
set_option maxRecDepth 8000 in
set_option maxHeartbeats 2000000 in
theorem takeX {h : Option Addr} (pc : Pc) (hB : Blk w p 68 (exC x h)) : Calls Try.prog 40 #[.pointer (some ⟨p, 0, none⟩), .agg #[.bool pc.init, .bool pc.more, .bool pc.master, .int .u32 pc.seq]] w fun e w' => e = .returned (.tuple #[]) ∧ Blk w' p 68 (exC (takeE x pc) h) ∧ Chg (fun q => q = p) w w' := by
  obtain ⟨self, other, seq, agreed, leads, done, took, said, K⟩ := x
  have C0 := Lib.hid (Chg.of_below (F := fun q => q = p) ((Below.refl w.heap.size w).alloc (Nat.le_refl _) (.cells #[.bool pc.init, .bool pc.more, .bool pc.master, .int .u32 pc.seq] 65)))
  have K0 := Lib.hid (show Blk (w.alloc (.cells #[.bool pc.init, .bool pc.more, .bool pc.master, .int .u32 pc.seq] 65)) p 68 #[.int .i64 self, .int .i64 other, .int .u32 seq, .bool agreed, .bool leads, .bool done, .bool took.init, .bool took.more, .bool took.master, .int .u32 took.seq, .bool said.init, .bool said.more, .bool said.master, .int .u32 said.seq, .pointer h] from hB.alloc _)
  have N0 := Lib.hid (Blk.new w 65 #[.bool pc.init, .bool pc.more, .bool pc.master, .int .u32 pc.seq])
  have hne := hB.lt
  clear hB
  have hup : IntKind.u32.wrap (pc.seq + 1) = up32 pc.seq := u32_mod _
  have R0 := Lib.hid (show (w.alloc (.cells #[.bool pc.init, .bool pc.more, .bool pc.master, .int .u32 pc.seq] 65)).rangeAt w.heap.size 0 [.bool pc.init, .bool pc.more, .bool pc.master, .int .u32 pc.seq] from fun j v hv => by
    rw [Nat.zero_add, N0.out.cell, ← hv]
    simp)
  cases leads
  all_goals
    go_enter Try.func40, Try.ntmps40
    go_wp2_with (first | refine wpList_load_row 65 _ _ (by rfl) (.tmp 3) rfl (by rfl) R0.out Try.underlying65 rfl (by kernel_rfl) ?_ | (refine wpList_store_took (i := pc.init) (m := pc.more) (s := pc.master) (q := pc.seq) rfl (.tmp 7) (.tmp 5) rfl rfl rfl K0.out ?_; intro w1 HK1 HC1; have hpl := HK1.out.lt; have n3 := (N0.out.chg HC1.out (by omega)).cell 3; have h2 := HK1.out.cell 2; have f2 := HK1.out.frozen 2; have g4 := (HK1.out.put 2 (.int .u32 pc.seq)).cell 4; have g2 := (HK1.out.put 2 (.int .u32 pc.seq)).cell 2; have gf2 := (HK1.out.put 2 (.int .u32 pc.seq)).frozen 2; simp at n3 h2 g4 g2))
    refine bodyPost_end (results_none rfl _ _ _) rfl ?_
    refine ⟨rfl, ?_, ?_⟩
  · exact HK1.out.put 2 (.int .u32 pc.seq)
  · exact (C0.out.trans HC1.out (fun q hq => .inl hq)).trans (chg_put (F := fun q => q = p) _ _ rfl) (fun q hq => .inl hq)
  · exact (HK1.out.put 2 (.int .u32 pc.seq)).put 2 (.int .u32 (up32 pc.seq))
  · exact ((C0.out.trans HC1.out (fun q hq => .inl hq)).trans (chg_put (F := fun q => q = p) _ _ rfl) (fun q hq => .inl hq)).trans (chg_put (F := fun q => q = p) _ _ rfl) (fun q hq => .inl hq)
end
end Go.Proofs.Ytjinleakjkbbgaa
