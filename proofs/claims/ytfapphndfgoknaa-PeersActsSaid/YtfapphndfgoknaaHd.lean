/- Get, New, router, stands of the program; stores of structs whole. Conditions: what the words say. -/
import Derived.Test.YtfapphndfgoknaaHc
namespace Go.Proofs.Ytfapphndfgoknaa
open Go.RowKit Go.Deep

theorem Blk.range7 {w : World} {b : Nat} {y : Pe} (h : Blk w b 47 #[.int .i64 y.id, .int .i64 y.prio, .int .i64 y.dr, .int .i64 y.bdr, .int .i64 y.st, .bool y.two, .int .i64 y.tick]) : w.rangeAt b 0 (encPe y) := by
  intro j v hv
  rw [Nat.zero_add, h.cell]
  rw [← hv]
  simp [encPe]
theorem wpList_load_pe {ops : Array Oper} {rest : List Oper} {op : Oper} {a : Act} {w : World} {Q : Exit → Act → World → Prop} {b o : Nat} {y : Pe} (hw : Region.wanted op (yielded ops a.tmps) = true) (x : Operand) (ho : op.op = .load 47 x)
    (hx : a.eval x = .pointer (some ⟨b, o, none⟩)) (hR : w.rangeAt b o (encPe y)) (hn : wpList Try.prog ops Q rest (a.put op.dst (.agg #[.int .i64 y.id, .int .i64 y.prio, .int .i64 y.dr, .int .i64 y.bdr, .int .i64 y.st, .bool y.two, .int .i64 y.tick])) w) : wpList Try.prog ops Q (op :: rest) a w :=
  wpList_load_row 47 (encPe y) _ hw x ho hx hR Try.underlying47 rfl (by kernel_rfl) hn
theorem chg_setCells (b : Nat) : ∀ (vs : List Value) (o : Nat) (w : World), Chg (fun k => k = b) w (w.setCells b o vs)
  | [], _, w => Chg.refl _ w
  | v :: r, o, w => (Chg.of_grown (F := fun k => k = b) (grown_setCell w ⟨b, o, none⟩ v) (fun k hk => by injection hk with hk; exact hk.symm)).trans (chg_setCells b r (o + 1) _) (fun k hk => .inl hk)
theorem Blk.fill {b : Nat} {t : TypeId} (post : List Value) : ∀ (vs rest pre : List Value) (w : World), rest.length = vs.length → Blk w b t (pre ++ rest ++ post).toArray → Blk (w.setCells b pre.length vs) b t (pre ++ vs ++ post).toArray
  | [], rest, pre, w, hl, h => by
    have : rest = [] := List.eq_nil_of_length_eq_zero hl
    subst this
    exact h
  | v :: r, [], pre, w, hl, h => by simp at hl
  | v :: r, u :: rest, pre, w, hl, h => by
    have h1 := h.put pre.length v
    have e : (pre ++ u :: rest ++ post).toArray.setIfInBounds pre.length v = ((pre ++ [v]) ++ rest ++ post).toArray := by
      rw [List.setIfInBounds_toArray]
      congr 1
      simp
    rw [e] at h1
    have h2 := Blk.fill post r rest (pre ++ [v]) _ (by simpa using hl) h1
    rw [List.length_append, List.length_singleton] at h2
    have e2 : (pre ++ v :: r ++ post).toArray = ((pre ++ [v]) ++ r ++ post).toArray := by simp
    rw [e2]
    exact h2
theorem Blk.thereAll {w : World} {b : Nat} {t : TypeId} {cs : Array Value} (h : Blk w b t cs) (o n : Nat) (hn : o + n ≤ cs.size) : w.there b o n := fun j hj => by
  constructor
  · rw [h.cell, Array.getElem?_eq_getElem (by omega)]
    rfl
  · exact h.frozen _
theorem wpList_store_row {ops : Array Oper} {rest : List Oper} {op : Oper} {a : Act} {w : World} {Q : Exit → Act → World → Prop} (ty : TypeId) (vs : List Value) (hg : op.guard = none) (x v : Operand) (ho : op.op = .store ty x v) {b : Nat} {cs : List Value}
    (hx : a.eval x = .pointer (some ⟨b, 0, none⟩)) (hv : a.eval v = .agg vs.toArray) (hB : Blk w b ty cs.toArray) (hl : cs.length = vs.length) (hi : (Try.prog.info? ty).map (·.size) = some vs.length) (h1 : ∀ u ∈ vs, u.oneCell' = true)
    (hn : ∀ w', Hid (Blk w' b ty vs.toArray) → Hid (Chg (fun k => k = b) w w') → wpList Try.prog ops Q rest (a.put op.dst undef) w') : wpList Try.prog ops Q (op :: rest) a w := by
  refine wpList_store_mid hg ty x v ho b 0 vs.toArray hx hv (hB.thereAll 0 _ (by simp [hl])) (by simpa using hi) (all_oneCell_toArray h1) (hn _ (Lib.hid ?_) (Lib.hid ?_))
  · have := Blk.fill [] vs cs [] w hl (by simpa using hB)
    simpa using this
  · exact chg_setCells b _ 0 w
theorem wpList_store_pe {ops : Array Oper} {rest : List Oper} {op : Oper} {a : Act} {w : World} {Q : Exit → Act → World → Prop} {b : Nat} {u0 u1 u2 u3 u4 u5 u6 : Value} (y : Pe) (hg : op.guard = none) (x v : Operand) (ho : op.op = .store 47 x v)
    (hx : a.eval x = .pointer (some ⟨b, 0, none⟩)) (hv : a.eval v = .agg #[.int .i64 y.id, .int .i64 y.prio, .int .i64 y.dr, .int .i64 y.bdr, .int .i64 y.st, .bool y.two, .int .i64 y.tick]) (hB : Blk w b 47 #[u0, u1, u2, u3, u4, u5, u6])
    (hn : ∀ w', Hid (Blk w' b 47 #[.int .i64 y.id, .int .i64 y.prio, .int .i64 y.dr, .int .i64 y.bdr, .int .i64 y.st, .bool y.two, .int .i64 y.tick]) → Hid (Chg (fun k => k = b) w w') → wpList Try.prog ops Q rest (a.put op.dst undef) w') : wpList Try.prog ops Q (op :: rest) a w :=
  wpList_store_row 47 (encPe y) hg x v ho (cs := [u0, u1, u2, u3, u4, u5, u6]) hx hv hB rfl (by kernel_rfl) (encPe_ones y) hn
def encHd (r : Hd) : List Value := [.bool r.taken, .bool r.fresh, .bool r.two, .bool r.one, .bool r.bears]
theorem encHd_ones (x : Hd) : ∀ v ∈ encHd x, v.oneCell' = true := by
  intro v hv
  simp [encHd] at hv
  rcases hv with rfl | rfl | rfl | rfl | rfl <;> rfl
theorem wpList_store_hd {ops : Array Oper} {rest : List Oper} {op : Oper} {a : Act} {w : World} {Q : Exit → Act → World → Prop} {b : Nat} {u0 u1 u2 u3 u4 : Value} (y : Hd) (hg : op.guard = none) (x v : Operand) (ho : op.op = .store 36 x v)
    (hx : a.eval x = .pointer (some ⟨b, 0, none⟩)) (hv : a.eval v = .agg #[.bool y.taken, .bool y.fresh, .bool y.two, .bool y.one, .bool y.bears]) (hB : Blk w b 36 #[u0, u1, u2, u3, u4])
    (hn : ∀ w', Hid (Blk w' b 36 #[.bool y.taken, .bool y.fresh, .bool y.two, .bool y.one, .bool y.bears]) → Hid (Chg (fun k => k = b) w w') → wpList Try.prog ops Q rest (a.put op.dst undef) w') : wpList Try.prog ops Q (op :: rest) a w :=
  wpList_store_row 36 (encHd y) hg x v ho (cs := [u0, u1, u2, u3, u4]) hx hv hB rfl (by kernel_rfl) (encHd_ones y) hn
theorem ptrP_some {X : List Pe} {bk : Int → Nat} {i : Int} {x : Pe} (h : findP X i = some x) : ptrP X bk i = .pointer (some ⟨bk i, 0, none⟩) := by
  unfold ptrP
  rw [h]
  rfl
theorem ptrP_none {X : List Pe} {bk : Int → Nat} {i : Int} (h : findP X i = none) : ptrP X bk i = .pointer none := by
  unfold ptrP
  rw [h]
  rfl
def zeroP : Pe := ⟨0, 0, 0, 0, 0, false, 0⟩
def getP (X : List Pe) (i : Int) : Pe := (findP X i).getD zeroP
theorem below_own {w w0 w1 : World} {g : Nat} (h0 : Below w.heap.size w w0) (hc : Chg (fun k => k = g) w0 w1) (hg : w.heap.size ≤ g) : Below w.heap.size w w1 := h0.trans (Chg.to_below (B := w.heap.size) hc (fun k hk => by rw [hk]; exact hg) h0.size)
set_option maxRecDepth 8000 in
set_option maxHeartbeats 2000000 in
theorem get_any {w : World} {p : Nat} {F : Nat → Prop} {sf lan : Int} {X : List Pe} {bk : Int → Nat} (i : Int) (h : PDb w p F sf lan X bk) :
    Calls Try.prog 19 #[.pointer (some ⟨p, 0, none⟩), .int .i64 i] w fun e w' => e = .returned (.tuple #[.agg #[.int .i64 (getP X i).id, .int .i64 (getP X i).prio, .int .i64 (getP X i).dr, .int .i64 (getP X i).bdr, .int .i64 (getP X i).st, .bool (getP X i).two, .int .i64 (getP X i).tick], .bool (findP X i).isSome]) ∧ Below w.heap.size w w' := by
  have B0 := Lib.hid ((Below.refl w.heap.size w).alloc (Nat.le_refl _) (.cells #[.int .i64 0, .int .i64 0, .int .i64 0, .int .i64 0, .int .i64 0, .bool false, .int .i64 0] 47))
  have D0 := Lib.hid (h.below B0.out)
  have K0 := Lib.hid (Blk.new w 47 #[.int .i64 0, .int .i64 0, .int .i64 0, .int .i64 0, .int .i64 0, .bool false, .int .i64 0])
  have hb : ∀ W, (Instr.build 47 #[]).run Try.prog W = .ok (.agg #[.int .i64 zeroP.id, .int .i64 zeroP.prio, .int .i64 zeroP.dr, .int .i64 zeroP.bdr, .int .i64 zeroP.st, .bool zeroP.two, .int .i64 zeroP.tick]) W := fun W => by kernel_rfl
  unfold getP
  cases hf : findP X i with
  | none =>
    have HE := Lib.hid (ptrP_none (bk := bk) hf)
    clear hf h
    go_enter Try.func19, Try.ntmps19
    go_wp2_with fail
    refine (at_any i D0.out).mono ?_
    rintro e1 w1 ⟨rfl, rfl⟩
    rw [HE.out]
    generalize w.alloc (.cells #[.int .i64 0, .int .i64 0, .int .i64 0, .int .i64 0, .int .i64 0, .bool false, .int .i64 0] 47) = w0 at *
    have hpl := K0.out.lt
    go_wp2_with (refine wpList_store_pe zeroP rfl _ _ rfl rfl rfl K0.out ?_; intro w2 HK2 HC2)
    have B2 := Lib.hid (below_own B0.out HC2.out (Nat.le_refl _))
    obtain ⟨k0, k1, k2, k3, k4, k5, k6⟩ := HK2.out.seven
    refine bodyPost_ret (v := .tuple #[.agg #[.int .i64 zeroP.id, .int .i64 zeroP.prio, .int .i64 zeroP.dr, .int .i64 zeroP.bdr, .int .i64 zeroP.st, .bool zeroP.two, .int .i64 zeroP.tick], .bool false]) (by simp [results, Try.results19, go_sem, *]) rfl ?_
    exact ⟨rfl, B2.out⟩
  | some x =>
    have HE := Lib.hid (ptrP_some (bk := bk) hf)
    have R0 := Lib.hid (D0.out.found hf).range7
    have hgl := (D0.out.found hf).lt
    clear hf h hb
    go_enter Try.func19, Try.ntmps19
    go_wp2_with fail
    refine (at_any i D0.out).mono ?_
    rintro e1 w1 ⟨rfl, rfl⟩
    rw [HE.out]
    generalize w.alloc (.cells #[.int .i64 0, .int .i64 0, .int .i64 0, .int .i64 0, .int .i64 0, .bool false, .int .i64 0] 47) = w0 at *
    generalize bk i = g at *
    have hpl := K0.out.lt
    have hnn : ((some (⟨g, 0, none⟩ : Addr)) == none) = false := rfl
    go_wp2_with (first
      | (refine wpList_load_pe (by rfl) _ rfl (by rfl) R0.out ?_)
      | (refine wpList_store_pe x rfl _ _ rfl rfl rfl K0.out ?_; intro w2 HK2 HC2))
    have B2 := Lib.hid (below_own B0.out HC2.out (Nat.le_refl _))
    obtain ⟨k0, k1, k2, k3, k4, k5, k6⟩ := HK2.out.seven
    refine bodyPost_ret (v := .tuple #[.agg #[.int .i64 x.id, .int .i64 x.prio, .int .i64 x.dr, .int .i64 x.bdr, .int .i64 x.st, .bool x.two, .int .i64 x.tick], .bool true]) (by simp [results, Try.results19, go_sem, *]) rfl ?_
    exact ⟨rfl, B2.out⟩
end Go.Proofs.Ytfapphndfgoknaa
