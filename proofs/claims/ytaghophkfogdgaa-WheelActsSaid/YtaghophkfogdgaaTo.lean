/- The order of timers of a wheel, as the program's compare tells it. Conditions: numbers of 64 bits. -/
import Derived.Test.YtaghophkfogdgaaTn
import Derived.Test.YtaghophkfogdgaaSh
import Derived.StillTailTactics
import Derived.Test.YtaghophkfogdgaaQt
import Derived.Sort.Grow
namespace Go.Proofs.Ytaghophkfogdgaa
open Go.RowKit Go.Shelf Go.Lib Go.Sort

theorem cmp8 (x y : Int) (w : World) : Calls Try.prog 27 #[.int .i64 x, .int .i64 y] w fun e w' => e = .returned (.int .i64 (Lib.compareInt x y)) ∧ w' = w :=
  AnyG.cmp_Compare_int cmpInt8 x y w
/-- The first number but 0. -/
def orL : List Int → Int
  | [] => 0
  | a :: l => if a = 0 then orL l else a
set_option maxHeartbeats 2000000 in
theorem or8 (l : List Int) (n c g : Nat) (w : World) (hn : l.length = n) (hnc : n ≤ c) (hc : c ≤ 1000) (h : ∀ i x, l[i]? = some x → w.cell? ⟨g, i, none⟩ = some (.int .i64 x)) :
    Calls Try.prog 26 #[.slice (some ⟨g, 0, none⟩) n c] w fun e w' => e = .returned (.int .i64 (orL l)) ∧ w' = w := by
  have H := Lib.hid h
  obtain ⟨r, hr⟩ : ∃ r, orL l = r := ⟨_, rfl⟩
  rw [hr]
  have HR := Lib.hid hr
  clear h hr
  go_enter Try.func26, Try.ntmps26
  go_wp2
  go_loopw [8] (fun i wr => ∃ j : Nat, j ≤ n ∧ i = .int .i64 j ∧ wr = w ∧ Hid (orL (l.drop j) = r)) (fun i _ => n - (intOf i).toNat)
  case atStart => exact ⟨0, Nat.zero_le _, rfl, rfl, HR⟩
  case round =>
    obtain ⟨j, hj, rfl, rfl, HI⟩ := hrel
    by_cases hlt : j < n
    · have hlt' : (j : Int) < n := by omega
      have hjl : j < l.length := by omega
      have hcj := H.out j _ (List.getElem?_eq_getElem hjl)
      have HI2 := Lib.hid (show (if l[j] = 0 then orL (l.drop (j + 1)) else l[j]) = r by
        have := HI.out
        rw [List.drop_eq_getElem_cons hjl] at this
        exact this)
      generalize l[j] = x at *
      by_cases hx : x = 0
      · subst hx
        have HI3 := Lib.hid (show orL (l.drop (j + 1)) = r by simpa using HI2.out)
        clear HI2
        go_wp2
        go_roundw
        case rel => exact ⟨j + 1, by omega, by go_num, trivial, HI3⟩
        case measure => simp [intOf]; omega
      · have d1 : (x == 0) = false := by simpa using hx
        have HI3 := Lib.hid (show x = r by have := HI2.out; rwa [if_neg hx] at this)
        clear HI2 hx
        go_wp2
        go_ret
        exact ⟨by rw [← HI3.out]; rfl, rfl⟩
    · have HI3 := Lib.hid (show 0 = r by
        have := HI.out
        rw [List.drop_eq_nil_of_le (by omega)] at this
        exact this)
      go_wp2
      go_ret
      exact ⟨by rw [← HI3.out]; rfl, rfl⟩
/-- The order of two timers of a wheel. -/
def cmpT (R : List En) (a b : Tm) : Int := orL [Lib.compareInt (tickOf R a) (tickOf R b), Lib.compareInt a.kind b.kind, Lib.compareInt a.lan b.lan, Lib.compareInt a.id b.id, Lib.compareInt a.kk b.kk, Lib.compareInt a.ki b.ki, Lib.compareInt a.ka b.ka]
theorem look8f {w : World} {b : Nat} {R : List En} {t : Tm} (ht : wfTm t) (h : MapIs w b R) : (Instr.lookup 54 (.map (some b)) (.agg #[.int .i64 t.kind, .int .i64 t.lan, .int .i64 t.id, .int .i64 t.kk, .int .i64 t.ki, .int .i64 t.ka]) false).run Try.prog w = .ok (.int .i64 (tickOf R t)) w := by
  unfold tickOf
  cases hg : getR R t with
  | some r => exact (h.look_some ht hg).2
  | none =>
    have hn := h.nodup
    obtain ⟨hw, l, ho, hp⟩ := h
    have hat := (map_at hw hn hp ht).1
    obtain ⟨v', ps', h1', h2'⟩ := ho.lookup keyed8 Try.underlying54 (zero_int8 w) (zd := .held _) (zp := []) rfl (keyOf_tm ht)
    rw [(hat _ hg).1] at h2'
    rw [asIs_inj h2'] at h1'
    exact h1'
theorem orL_app (y : List Int) : ∀ l : List Int, orL (l ++ [orL y]) = orL (l ++ y)
  | [] => by
    show (if orL y = 0 then 0 else orL y) = orL y
    split
    · rename_i h
      exact h.symm
    · rfl
  | a :: l => by
    show (if a = 0 then orL (l ++ [orL y]) else a) = (if a = 0 then orL (l ++ y) else a)
    rw [orL_app y l]
theorem orL_nest (x0 x1 x2 x3 x4 x5 x6 : Int) : orL [x0, x1, x2, x3, orL [x4, x5, x6]] = orL [x0, x1, x2, x3, x4, x5, x6] := orL_app [x4, x5, x6] [x0, x1, x2, x3]
theorem grown_same {P : Program} {f : FuncId} {args : Array Value} {W : World} {v : Value} (h : Calls P f args W fun e w' => e = .returned v ∧ w' = W) : Calls P f args W fun e w' => e = .returned v ∧ ∃ q os', w' = grow (W.drewN q) os' :=
  h.mono fun _ _ ⟨he, hw⟩ => ⟨he, 0, #[], by rw [hw, grow_empty]; rfl⟩
theorem Blk.tri {w : World} {g : Nat} {t : TypeId} {a0 a1 a2 : Value} (h : Blk w g t #[a0, a1, a2]) : w.cell? ⟨g, 0, none⟩ = some a0 ∧ w.cell? ⟨g, 1, none⟩ = some a1 ∧ w.cell? ⟨g, 2, none⟩ = some a2 := ⟨h.cell 0, h.cell 1, h.cell 2⟩
set_option maxRecDepth 20000 in
set_option maxHeartbeats 8000000 in
/-- Two keys compared. -/
theorem keyCmp8 (a0 a1 a2 b0 b1 b2 : Int) (w : World) : Calls Try.prog 28 #[.agg #[.int .i64 a0, .int .i64 a1, .int .i64 a2], .agg #[.int .i64 b0, .int .i64 b1, .int .i64 b2]] w
    fun e w' => e = .returned (.int .i64 (orL [Lib.compareInt a0 b0, Lib.compareInt a1 b1, Lib.compareInt a2 b2])) ∧ ∃ q os', w' = grow (w.drewN q) os' := by
  obtain ⟨c0, c1, c2⟩ := Blk.tri (blk_new07 w #[.int .i64 a0, .int .i64 a1, .int .i64 a2] 31 (.cells #[.int .i64 b0, .int .i64 b1, .int .i64 b2] 31))
  obtain ⟨d0, d1, d2⟩ := Blk.tri (blk_new1 w (.cells #[.int .i64 a0, .int .i64 a1, .int .i64 a2] 31) 31 #[.int .i64 b0, .int .i64 b1, .int .i64 b2])
  have HG := Lib.hid (show ∃ os, (w.alloc (.cells #[.int .i64 a0, .int .i64 a1, .int .i64 a2] 31)).alloc (.cells #[.int .i64 b0, .int .i64 b1, .int .i64 b2] 31) = grow w os from ⟨_, by rw [alloc_eq_grow, alloc_eq_grow, grow_grow]⟩)
  have p1 := fun W => cmp8 a0 b0 W
  have p2 := fun W => cmp8 a1 b1 W
  have p3 := fun W => cmp8 a2 b2 W
  generalize Lib.compareInt a0 b0 = x1 at *
  generalize Lib.compareInt a1 b1 = x2 at *
  generalize Lib.compareInt a2 b2 = x3 at *
  go_enter Try.func28, Try.ntmps28
  go_wp2_with fail
  generalize (w.alloc (.cells #[.int .i64 a0, .int .i64 a1, .int .i64 a2] 31)).alloc (.cells #[.int .i64 b0, .int .i64 b1, .int .i64 b2] 31) = w0 at *
  refine wp_region_still_tail 15 (by kernel_rfl) (by kernel_rfl) ?_
  simp only [List.take_succ_cons, List.take_zero, List.drop_succ_cons, List.drop_zero]
  change wpStill _ _ w0.drew _ _ _
  repeat still_step
  still_call (p1 _)
  repeat still_step
  still_call (p2 _)
  repeat still_step
  still_call (p3 _)
  refine wpStill_nil ?_
  change wpList _ _ _ _ _ w0.drew
  obtain ⟨os, hos⟩ := HG.out
  have HW := Lib.hid (show w0.drew = grow (w.drewN 1) os by rw [hos]; rfl)
  clear HG hos c0 c1 c2 d0 d1 d2 p1 p2 p3
  generalize w0.drew = w2 at *
  have HC := Lib.hid (show ∀ i x, [x1, x2, x3][i]? = some x → (w2.alloc (.cells #[.int .i64 x1, .int .i64 x2, .int .i64 x3] 3)).cell? ⟨w2.heap.size, i, none⟩ = some (.int .i64 x) from fun i x hi => blk_int (x := [x1, x2, x3]) (Blk.new w2 3 _) hi)
  go_wp2_with (go_at_call 26; refine (or8 [x1, x2, x3] 3 3 _ _ rfl (by omega) (by omega) HC.out).mono ?_; rintro e w' ⟨rfl, rfl⟩)
  go_ret
  exact ⟨rfl, 1, _, by rw [HW.out, alloc_eq_grow, grow_grow]⟩
set_option maxRecDepth 20000 in
set_option maxHeartbeats 8000000 in
/-- The program's compare. -/
theorem compare8 {p bm : Nat} {R : List En} (a b : Tm) (ha : wfTm a) (hb : wfTm b) (w : World) (h : PWh w p bm R) : Calls Try.prog 22 #[.pointer (some ⟨p, 0, none⟩), .agg #[.int .i64 a.kind, .int .i64 a.lan, .int .i64 a.id, .int .i64 a.kk, .int .i64 a.ki, .int .i64 a.ka], .agg #[.int .i64 b.kind, .int .i64 b.lan, .int .i64 b.id, .int .i64 b.kk, .int .i64 b.ki, .int .i64 b.ka]] w
    fun e w' => e = .returned (.int .i64 (cmpT R a b)) ∧ ∃ q os', w' = grow (w.drewN q) os' := by
  obtain ⟨a0, a1, a2, a3, a4, a5⟩ := Blk.six (blk_new07 w #[.int .i64 a.kind, .int .i64 a.lan, .int .i64 a.id, .int .i64 a.kk, .int .i64 a.ki, .int .i64 a.ka] 33 (.cells #[.int .i64 b.kind, .int .i64 b.lan, .int .i64 b.id, .int .i64 b.kk, .int .i64 b.ki, .int .i64 b.ka] 33))
  obtain ⟨b0, b1, b2, b3, b4, b5⟩ := Blk.six (blk_new1 w (.cells #[.int .i64 a.kind, .int .i64 a.lan, .int .i64 a.id, .int .i64 a.kk, .int .i64 a.ki, .int .i64 a.ka] 33) 33 #[.int .i64 b.kind, .int .i64 b.lan, .int .i64 b.id, .int .i64 b.kk, .int .i64 b.ki, .int .i64 b.ka])
  have hP := h.below (below_new2 w (.cells #[.int .i64 a.kind, .int .i64 a.lan, .int .i64 a.id, .int .i64 a.kk, .int .i64 a.ki, .int .i64 a.ka] 33) (.cells #[.int .i64 b.kind, .int .i64 b.lan, .int .i64 b.id, .int .i64 b.kk, .int .i64 b.ki, .int .i64 b.ka] 33))
  have hpl := hP.1.lt
  have c0 := hP.1.one
  have HM := Lib.hid hP.2
  have HG := Lib.hid (show ∃ os, (w.alloc (.cells #[.int .i64 a.kind, .int .i64 a.lan, .int .i64 a.id, .int .i64 a.kk, .int .i64 a.ki, .int .i64 a.ka] 33)).alloc (.cells #[.int .i64 b.kind, .int .i64 b.lan, .int .i64 b.id, .int .i64 b.kk, .int .i64 b.ki, .int .i64 b.ka] 33) = grow w os from ⟨_, by rw [alloc_eq_grow, alloc_eq_grow, grow_grow]⟩)
  have HA := Lib.hid ha
  have HB := Lib.hid hb
  clear hP h ha hb
  obtain ⟨r, hr⟩ : ∃ r, cmpT R a b = r := ⟨_, rfl⟩
  rw [hr]
  unfold cmpT at hr
  have HR := Lib.hid hr
  clear hr
  go_enter Try.func22, Try.ntmps22
  go_wp2_with fail
  generalize (w.alloc (.cells #[.int .i64 a.kind, .int .i64 a.lan, .int .i64 a.id, .int .i64 a.kk, .int .i64 a.ki, .int .i64 a.ka] 33)).alloc (.cells #[.int .i64 b.kind, .int .i64 b.lan, .int .i64 b.id, .int .i64 b.kk, .int .i64 b.ki, .int .i64 b.ka] 33) = w0 at *
  have hgM : ∀ n os, MapIs (grow (w0.drewN n) os) bm R := fun n os => HM.out.heap (heap_grow_old _ _ HM.out.lt)
  have l1 := fun n os => look8f HA.out (hgM n os)
  have l2 := fun n os => look8f HB.out (hgM n os)
  have hpl0 := hpl
  generalize tickOf R a = ta at *
  generalize tickOf R b = tb at *
  have p0 := fun n os => Calls.grown_of (grown_same (cmp8 ta tb (grow (w0.drewN n) os)))
  have p1 := fun n os => Calls.grown_of (grown_same (cmp8 a.kind b.kind (grow (w0.drewN n) os)))
  have p2 := fun n os => Calls.grown_of (grown_same (cmp8 a.lan b.lan (grow (w0.drewN n) os)))
  have p3 := fun n os => Calls.grown_of (grown_same (cmp8 a.id b.id (grow (w0.drewN n) os)))
  have p4 := fun n os => Calls.grown_of (keyCmp8 a.kk a.ki a.ka b.kk b.ki b.ka (grow (w0.drewN n) os))
  have HN := Lib.hid (orL_nest (Lib.compareInt ta tb) (Lib.compareInt a.kind b.kind) (Lib.compareInt a.lan b.lan) (Lib.compareInt a.id b.id) (Lib.compareInt a.kk b.kk) (Lib.compareInt a.ki b.ki) (Lib.compareInt a.ka b.ka))
  have HR := Lib.hid (HN.out.trans HR.out)
  clear HN
  generalize orL [Lib.compareInt a.kk b.kk, Lib.compareInt a.ki b.ki, Lib.compareInt a.ka b.ka] = x4 at *
  generalize Lib.compareInt ta tb = x0 at *
  generalize Lib.compareInt a.kind b.kind = x1 at *
  generalize Lib.compareInt a.lan b.lan = x2 at *
  generalize Lib.compareInt a.id b.id = x3 at *
  have ga0 := fun n os => cell_grown (n := n) (os := os) (World.block_lt_of_cell? w0 _ a0) a0
  have ga1 := fun n os => cell_grown (n := n) (os := os) (World.block_lt_of_cell? w0 _ a1) a1
  have ga2 := fun n os => cell_grown (n := n) (os := os) (World.block_lt_of_cell? w0 _ a2) a2
  have ga3 := fun n os => cell_grown (n := n) (os := os) (World.block_lt_of_cell? w0 _ a3) a3
  have ga4 := fun n os => cell_grown (n := n) (os := os) (World.block_lt_of_cell? w0 _ a4) a4
  have ga5 := fun n os => cell_grown (n := n) (os := os) (World.block_lt_of_cell? w0 _ a5) a5
  have gb0 := fun n os => cell_grown (n := n) (os := os) (World.block_lt_of_cell? w0 _ b0) b0
  have gb1 := fun n os => cell_grown (n := n) (os := os) (World.block_lt_of_cell? w0 _ b1) b1
  have gb2 := fun n os => cell_grown (n := n) (os := os) (World.block_lt_of_cell? w0 _ b2) b2
  have gb3 := fun n os => cell_grown (n := n) (os := os) (World.block_lt_of_cell? w0 _ b3) b3
  have gb4 := fun n os => cell_grown (n := n) (os := os) (World.block_lt_of_cell? w0 _ b4) b4
  have gb5 := fun n os => cell_grown (n := n) (os := os) (World.block_lt_of_cell? w0 _ b5) b5
  have gc0 := fun n os => cell_grown (n := n) (os := os) (World.block_lt_of_cell? w0 _ c0) c0
  clear a0 a1 a2 a3 a4 a5 b0 b1 b2 b3 b4 b5 c0
  refine region_grown_tail 33 (by kernel_rfl) (by kernel_rfl) ?_
  simp only [List.take_succ_cons, List.take_zero, List.drop_succ_cons, List.drop_zero]
  repeat (quiet_step (first | (go_at_call 27; first | with_reducible exact p0 _ _ | with_reducible exact p1 _ _ | with_reducible exact p2 _ _ | with_reducible exact p3 _ _) | (go_at_call 28; with_reducible exact p4 _ _)))
  refine wpQuiet_nil ?_
  intro _ hw'
  obtain ⟨⟨nq, osq⟩, hw''⟩ := hw'
  subst hw''
  obtain ⟨os, hos⟩ := HG.out
  have HW := Lib.hid (show ∃ q os', grow (w0.drewN nq) osq = grow (w.drewN q) os' from ⟨nq, os ++ osq, by rw [hos, ← grow_grow]; rfl⟩)
  clear HG hos ga0 ga1 ga2 ga3 ga4 ga5 gb0 gb1 gb2 gb3 gb4 gb5 gc0 hpl hpl0 HM hgM l1 l2 p0 p1 p2 p3 p4 HA HB
  generalize grow (w0.drewN nq) osq = w2 at *
  have HC := Lib.hid (show ∀ i x, [x0, x1, x2, x3, x4][i]? = some x → (w2.alloc (.cells #[.int .i64 x0, .int .i64 x1, .int .i64 x2, .int .i64 x3, .int .i64 x4] 3)).cell? ⟨w2.heap.size, i, none⟩ = some (.int .i64 x) from fun i x hi => blk_int (x := [x0, x1, x2, x3, x4]) (Blk.new w2 3 _) hi)
  go_wp2_with (go_at_call 26; refine (or8 [x0, x1, x2, x3, x4] 5 5 _ _ rfl (by omega) (by omega) HC.out).mono ?_; rintro e w' ⟨rfl, rfl⟩)
  go_ret
  obtain ⟨q, os', hq⟩ := HW.out
  exact ⟨by rw [← HR.out]; rfl, q, _, by rw [hq, alloc_eq_grow, grow_grow]⟩
end Go.Proofs.Ytaghophkfogdgaa
