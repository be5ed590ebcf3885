/- stands; appends of one item; which of the program. Conditions: what the words say. -/
import Derived.Test.YtfapphndfgoknaaHf
namespace Go.Proofs.Ytfapphndfgoknaa
open Go.RowKit Go.Deep

/-- What an election may hang on. -/
structure St where
  two : Bool
  prio : Int
  dr : Bool
  bdr : Bool
def standsP (x : Pe) : St := if x.two = true then ⟨true, x.prio, x.dr == x.id, x.bdr == x.id⟩ else ⟨false, 0, false, false⟩
def sameS (a b : St) : Bool := a.two == b.two && a.prio == b.prio && a.dr == b.dr && a.bdr == b.bdr
theorem bears_stands (i : Int) (was x : Pe) (h1 : was.id = i) (h2 : x.id = i) : (!(sameS (standsP x) (standsP was))) = bearsB i was x := by
  obtain ⟨a0, a1, a2, a3, a4, a5, a6⟩ := was
  obtain ⟨b0, b1, b2, b3, b4, b5, b6⟩ := x
  have e1 : a0 = i := h1
  have e2 : b0 = i := h2
  clear h1 h2
  subst e1 e2
  have e : (b1 == a1) = (a1 == b1) := by
    by_cases h : a1 = b1
    · rw [h]
    · have h2 : ¬ b1 = a1 := fun e => h e.symm
      rw [beq_eq_false_iff_ne.2 h, beq_eq_false_iff_ne.2 h2]
  cases a5 <;> cases b5
  · rfl
  · rfl
  · rfl
  · show (!(true == true && b1 == a1 && (b2 == b0) == (a2 == b0) && (b3 == b0) == (a3 == b0))) = ((true != true) || (true && ((a1 != b1) || ((a2 == b0) != (b2 == b0)) || ((a3 == b0) != (b3 == b0)))))
    rw [e]
    show _ = ((true != true) || (true && ((!(a1 == b1)) || ((a2 == b0) != (b2 == b0)) || ((a3 == b0) != (b3 == b0)))))
    generalize (a1 == b1) = t1
    generalize (a2 == b0) = t2
    generalize (b2 == b0) = t3
    generalize (a3 == b0) = t4
    generalize (b3 == b0) = t5
    revert t1 t2 t3 t4 t5
    decide
set_option maxRecDepth 8000 in
set_option maxHeartbeats 2000000 in
theorem stands_any (x : Pe) (w : World) : Calls Try.prog 24 #[.agg #[.int .i64 x.id, .int .i64 x.prio, .int .i64 x.dr, .int .i64 x.bdr, .int .i64 x.st, .bool x.two, .int .i64 x.tick]] w fun e w' => (∃ s : St, e = .returned (.agg #[.bool s.two, .int .i64 s.prio, .bool s.dr, .bool s.bdr]) ∧ s = standsP x) ∧ Below w.heap.size w w' := by
  have B0 := Lib.hid (((Below.refl w.heap.size w).alloc (Nat.le_refl _) (.cells #[.int .i64 x.id, .int .i64 x.prio, .int .i64 x.dr, .int .i64 x.bdr, .int .i64 x.st, .bool x.two, .int .i64 x.tick] 47)).alloc (by simp) (.cells #[.bool false, .int .i64 0, .bool false, .bool false] 60))
  have K0 := Lib.hid ((Blk.new w 47 #[.int .i64 x.id, .int .i64 x.prio, .int .i64 x.dr, .int .i64 x.bdr, .int .i64 x.st, .bool x.two, .int .i64 x.tick]).alloc (.cells #[.bool false, .int .i64 0, .bool false, .bool false] 60))
  have K1' := Blk.new (w.alloc (.cells #[.int .i64 x.id, .int .i64 x.prio, .int .i64 x.dr, .int .i64 x.bdr, .int .i64 x.st, .bool x.two, .int .i64 x.tick] 47)) 60 #[.bool false, .int .i64 0, .bool false, .bool false]
  rw [World.size_alloc] at K1'
  have K1 := Lib.hid K1'
  clear K1'
  have hb : ∀ W, (Instr.build 60 #[]).run Try.prog W = .ok (.agg #[.bool false, .int .i64 0, .bool false, .bool false]) W := fun W => by kernel_rfl
  generalize hQ : (fun (e : Ending) (w' : World) => (∃ s : St, e = .returned (.agg #[.bool s.two, .int .i64 s.prio, .bool s.dr, .bool s.bdr]) ∧ s = standsP x) ∧ Below w.heap.size w w') = Q
  have HQ := Lib.hid hQ
  clear hQ
  unfold standsP at HQ
  go_enter Try.func24, Try.ntmps24
  go_upto_region 1 with fail
  try simp only [World.size_alloc]
  generalize (w.alloc (.cells #[.int .i64 x.id, .int .i64 x.prio, .int .i64 x.dr, .int .i64 x.bdr, .int .i64 x.st, .bool x.two, .int .i64 x.tick] 47)).alloc (.cells #[.bool false, .int .i64 0, .bool false, .bool false] 60) = w0 at *
  generalize hg : w.heap.size = g at *
  have HG := Lib.hid hg
  clear hg
  obtain ⟨k0, k1, k2, k3, k4, k5, k6⟩ := K0.out.seven
  have hl0 := K1.out.lt
  cases ht : x.two
  · rw [ht] at HQ k5
    go_wp2_with (refine wpList_store_row 60 [.bool false, .int .i64 0, .bool false, .bool false] rfl _ _ rfl (cs := [.bool false, .int .i64 0, .bool false, .bool false]) rfl rfl K1.out rfl (by kernel_rfl) (by decide) ?_; intro w2 HK2 HC2)
    have B2 := Lib.hid (B0.out.trans (Chg.to_below (B := g) HC2.out (fun k hk => by rw [hk]; omega) (by omega)))
    obtain ⟨m0, m1, m2, m3⟩ : w2.cell? ⟨g + 1, 0, none⟩ = some (.bool false) ∧ w2.cell? ⟨g + 1, 1, none⟩ = some (.int .i64 0) ∧ w2.cell? ⟨g + 1, 2, none⟩ = some (.bool false) ∧ w2.cell? ⟨g + 1, 3, none⟩ = some (.bool false) := ⟨HK2.out.cell 0, HK2.out.cell 1, HK2.out.cell 2, HK2.out.cell 3⟩
    refine bodyPost_ret (v := .agg #[.bool false, .int .i64 0, .bool false, .bool false]) (by simp [results, Try.results24, go_sem, *]) rfl ?_
    rw [← HQ.out]
    exact ⟨⟨⟨false, 0, false, false⟩, rfl, rfl⟩, B2.out⟩
  · rw [ht] at HQ k5
    generalize hd : (x.dr == x.id) = d at *
    generalize hb : (x.bdr == x.id) = b at *
    go_wp2_with (refine wpList_store_row 60 [.bool true, .int .i64 x.prio, .bool d, .bool b] rfl _ _ rfl (cs := [.bool false, .int .i64 0, .bool false, .bool false]) rfl rfl K1.out rfl (by kernel_rfl) (by simp [Value.oneCell']) ?_; intro w2 HK2 HC2)
    have B2 := Lib.hid (B0.out.trans (Chg.to_below (B := g) HC2.out (fun k hk => by rw [hk]; omega) (by omega)))
    obtain ⟨m0, m1, m2, m3⟩ : w2.cell? ⟨g + 1, 0, none⟩ = some (.bool true) ∧ w2.cell? ⟨g + 1, 1, none⟩ = some (.int .i64 x.prio) ∧ w2.cell? ⟨g + 1, 2, none⟩ = some (.bool d) ∧ w2.cell? ⟨g + 1, 3, none⟩ = some (.bool b) := ⟨HK2.out.cell 0, HK2.out.cell 1, HK2.out.cell 2, HK2.out.cell 3⟩
    refine bodyPost_ret (v := .agg #[.bool true, .int .i64 x.prio, .bool d, .bool b]) (by simp [results, Try.results24, go_sem, *]) rfl ?_
    rw [← HQ.out]
    exact ⟨⟨⟨true, x.prio, d, b⟩, rfl, rfl⟩, B2.out⟩
theorem under60 : Try.prog.underlying 60 = some (.struct (Try.prog.fieldsOf 60)) := by kernel_rfl
theorem stood60 : Try.prog.stoodInHeld 60 = false := by kernel_rfl
theorem plain3 : Try.prog.plainKey 3 = true := by kernel_rfl
theorem plain4 : Try.prog.plainKey 4 = true := by kernel_rfl
theorem eqInt (W : World) (a b : Int) : (Op.equalIn (9998 + 1) 3 (.int .i64 a) (.int .i64 b)).run Try.prog W = .ok (a == b) W := run_equalIn_int W 9998 _ .i64 .i64 a b Try.underlying3
theorem eqBool (W : World) (a b : Bool) : (Op.equalIn (9998 + 1) 4 (.bool a) (.bool b)).run Try.prog W = .ok (a == b) W := by
  exact run_equalIn_bool' W 9998 _ a b Try.underlying4
theorem equalS (x y : St) (W : World) : (Op.equalIn 10000 60 (.agg #[.bool x.two, .int .i64 x.prio, .bool x.dr, .bool x.bdr]) (.agg #[.bool y.two, .int .i64 y.prio, .bool y.dr, .bool y.bdr])).run Try.prog W = .ok (sameS x y) W := by
  have q0 : ∀ z : St, (part 4 #[.bool z.two, .int .i64 z.prio, .bool z.dr, .bool z.bdr] 0).run Try.prog W = .ok (.bool z.two) W := fun z => run_part_plain W plain4 rfl
  have q1 : ∀ z : St, (part 3 #[.bool z.two, .int .i64 z.prio, .bool z.dr, .bool z.bdr] 1).run Try.prog W = .ok (.int .i64 z.prio) W := fun z => run_part_plain W plain3 rfl
  have q2 : ∀ z : St, (part 4 #[.bool z.two, .int .i64 z.prio, .bool z.dr, .bool z.bdr] 2).run Try.prog W = .ok (.bool z.dr) W := fun z => run_part_plain W plain4 rfl
  have q3 : ∀ z : St, (part 4 #[.bool z.two, .int .i64 z.prio, .bool z.dr, .bool z.bdr] 3).run Try.prog W = .ok (.bool z.bdr) W := fun z => run_part_plain W plain4 rfl
  rw [show (10000 : Nat) = 9998 + 1 + 1 from rfl, run_equalIn_struct W (9998 + 1) _ _ _ under60 stood60]
  simp [Program.fieldsOf, Try.underlying60, Op.eqFields, q0, q1, q2, q3, eqInt, eqBool]
  clear q0 q1 q2 q3
  unfold sameS
  by_cases h1 : x.two = y.two
  · by_cases h2 : x.prio = y.prio
    · by_cases h3 : x.dr = y.dr
      · by_cases h4 : x.bdr = y.bdr <;> simp [h1, h2, h3, h4]
      · simp [h1, h2, h3]
    · simp [h1, h2]
  · simp [h1]
end Go.Proofs.Ytfapphndfgoknaa
