/- Copies of lists of the call's own, and of a description. Conditions: at most 1000 items. -/
import Derived.Test.YtlcaaoflbldocaaJan
import Derived.Test.YtlcaaoflbldocaaSh
import Derived.Test.YtlcaaoflbldocaaGb
import Derived.Deep.RegionHeld3
namespace Go.Proofs.Ytlcaaoflbldocaa
open Go.RowKit Go.Shelf Go.Lib

theorem blk_new07 (w : World) (cs : Array Value) (t : TypeId) (o : Obj) : Blk ((w.alloc (.cells cs t)).alloc o) w.heap.size t cs := (Blk.new w t cs).below ((Below.refl (w.alloc (.cells cs t)).heap.size (w.alloc (.cells cs t))).alloc (Nat.le_refl _) o) (by simp)
theorem own_cell7 {w : World} {base n size g : Nat} {e : TypeId} {c : Nat} {xs : List Value} (ho : w.ownsRow base e size (.slice (some ⟨g, 0, none⟩) n c) n xs) : ∀ j u, xs[j]? = some u → w.cell? ⟨g, 0 + j, none⟩ = some u := by
  intro j u hj
  have h1 := ho.cells (g := g) rfl j u hj
  have e : (⟨g, 0, none⟩ : Addr).add j = ⟨g, 0 + j, none⟩ := by
    cases j with
    | zero => rfl
    | succ j => rfl
  rwa [e] at h1
theorem own_addr7 {w : World} {base n size : Nat} {e : TypeId} {A : Option Addr} {c : Nat} {xs : List Value} (ho : w.ownsRow base e size (.slice A n c) n xs) : (A = none ∧ n = 0 ∧ c = 0) ∨ ∃ g, A = some ⟨g, 0, none⟩ := by
  rcases ho.2 with ⟨hv, hn⟩ | ⟨g, cap, cur, hv, _⟩
  · injection hv with e1 e2 e3
    exact .inl ⟨e1, e2, e3⟩
  · injection hv with e1 e2 e3
    exact .inr ⟨g, e1⟩
theorem own_drew7 {w : World} {base n size : Nat} {e : TypeId} {v : Value} {xs : List Value} (h : w.ownsRow base e size v n xs) : w.drew.ownsRow base e size v n xs := h
/-- What a copy is. -/
def CopyOk (w : World) (e : TypeId) (size : Nat) (A : Option Addr) (n : Nat) (xs : List Value) (x : Ending) (w' : World) : Prop :=
  ∃ A' c', x = .returned (.slice A' n c') ∧ w'.ownsRow w.heap.size e size (.slice A' n c') n xs ∧ Below w.heap.size w w' ∧ (A = none → A' = none ∧ c' = 0)
theorem copy_of7 {w w' : World} {e : TypeId} {size n : Nat} {g : Nat} {xs : List Value} {v : Value} (ho : w'.ownsRow w.heap.size e size v n xs) (hb : Below w.heap.size w w') : CopyOk w e size (some ⟨g, 0, none⟩) n xs (.returned v) w' := by
  obtain ⟨A', c', rfl⟩ := own_slice ho
  exact ⟨A', c', rfl, ho, hb, fun h => by cases h⟩
theorem infoLk7 : (Try.prog.info? 61).map (fun i => (i.zero, i.size, i.bytes)) = some (some (.agg #[.int .i64 0, .int .i64 0, .int .i64 0, .int .i64 0]), 4, 32) := by kernel_rfl
theorem infoInt7 : (Try.prog.info? 3).map (fun i => (i.zero, i.size, i.bytes)) = some (some (.int .i64 0), 1, 8) := by kernel_rfl
theorem lkCells_ones7 : ∀ (L : List Lk), ∀ u ∈ lkCells L, u.oneCell' = true
  | [], u, h => by cases h
  | k :: L, u, h => by
    unfold lkCells at h
    simp only [List.mem_cons] at h
    rcases h with rfl | rfl | rfl | rfl | h
    · rfl
    · rfl
    · rfl
    · rfl
    · exact lkCells_ones7 L u h
theorem ints_ones7 (M : List Int) : ∀ u ∈ M.map (Value.int .i64), u.oneCell' = true := by
  intro u hu
  obtain ⟨x, _, rfl⟩ := List.mem_map.1 hu
  rfl
theorem cloneLk_any {w : World} {lo n c : Nat} {A : Option Addr} {L : List Lk} (ho : w.ownsRow lo 61 4 (.slice A n c) n (lkCells L)) (hn : n ≤ 1000) :
    Calls Try.prog 46 #[.slice A n c] w (CopyOk w 61 4 A n (lkCells L)) := by
  rcases own_addr7 ho with ⟨rfl, rfl, rfl⟩ | ⟨g, rfl⟩
  · refine (AnyE.slices_Clone_nil cloneLk7 0 0 w).mono ?_
    rintro e w' ⟨rfl, rfl⟩
    have hl := ho.1
    exact ⟨none, 0, rfl, by rw [List.eq_nil_of_length_eq_zero (by omega : (lkCells L).length = 0)]; exact World.ownsRow_nil _ _ _ _, Below.refl _ _, fun _ => ⟨rfl, rfl⟩⟩
  · obtain ⟨i0, hi, hz0, hz1, hz2⟩ := info_parts infoLk7
    refine (AnyE.slices_Clone cloneLk7 i0 (.agg #[.int .i64 0, .int .i64 0, .int .i64 0, .int .i64 0]) 4 32 hi hz0 hz1 hz2 rfl (by decide) Try.sizeOf61 g 0 n c (lkCells L) w ho.1 (by unfold maxLen; omega) (by omega) (own_cell7 ho) (lkCells_ones7 L)).mono ?_
    rintro e w' ⟨v', rfl, h1, -, h2⟩
    exact copy_of7 h1 h2
theorem cloneInt_any {w : World} {lo n c : Nat} {A : Option Addr} {M : List Int} (ho : w.ownsRow lo 3 1 (.slice A n c) n (M.map (Value.int .i64))) (hn : n ≤ 1000) :
    Calls Try.prog 47 #[.slice A n c] w (CopyOk w 3 1 A n (M.map (Value.int .i64))) := by
  rcases own_addr7 ho with ⟨rfl, rfl, rfl⟩ | ⟨g, rfl⟩
  · refine (AnyE.slices_Clone_nil cloneInt7 0 0 w).mono ?_
    rintro e w' ⟨rfl, rfl⟩
    have hl := ho.1
    exact ⟨none, 0, rfl, by rw [List.eq_nil_of_length_eq_zero (by omega : (M.map (Value.int .i64)).length = 0)]; exact World.ownsRow_nil _ _ _ _, Below.refl _ _, fun _ => ⟨rfl, rfl⟩⟩
  · obtain ⟨i0, hi, hz0, hz1, hz2⟩ := info_parts infoInt7
    refine (AnyE.slices_Clone cloneInt7 i0 (.int .i64 0) 1 8 hi hz0 hz1 hz2 rfl (by decide) Try.sizeOf3 g 0 n c (M.map (Value.int .i64)) w ho.1 (by unfold maxLen; omega) (by omega) (own_cell7 ho) (ints_ones7 M)).mono ?_
    rintro e w' ⟨v', rfl, h1, -, h2⟩
    exact copy_of7 h1 h2
/-- What fresh answers. -/
def Fresh7 (w : World) (r : Rc) (x : La) (e : Ending) (w' : World) : Prop := ∃ r' : Rc, e = .returned (rcVal r') ∧ Below w.heap.size w w' ∧ RcIs w' w.heap.size r' x ∧ r'.p.n = r.p.n ∧ r'.q.n = r.q.n ∧ (r.p.a = none → r'.p = ⟨none, r.p.n, 0⟩) ∧ (r.q.a = none → r'.q = ⟨none, r.q.n, 0⟩)
theorem keep9c {w0 w' : World} {p g2 : Nat} {t : TypeId} {a0 a1 a2 a3 a4 a5 a6 a7 a8 : Value} (hk : Blk w0 p t #[a0, a1, a2, a3, a4, a5, a6, a7, a8]) (hne : p ≠ g2) (hc : Chg (fun q => q = g2) w0 w') :
    Chg (fun q => q = g2) w0 w' ∧ w'.cell? ⟨p, 0, none⟩ = some a0 ∧ w'.cell? ⟨p, 1, none⟩ = some a1 ∧ w'.cell? ⟨p, 2, none⟩ = some a2 ∧ w'.cell? ⟨p, 3, none⟩ = some a3 ∧ w'.cell? ⟨p, 4, none⟩ = some a4 ∧ w'.cell? ⟨p, 5, none⟩ = some a5 ∧ w'.cell? ⟨p, 6, none⟩ = some a6 ∧ w'.cell? ⟨p, 7, none⟩ = some a7 ∧ w'.cell? ⟨p, 8, none⟩ = some a8 :=
  ⟨hc, (hk.chg hc hne).nine⟩
theorem Chg.setCell {F : Nat → Prop} {w w' : World} (h : Chg F w w') (a : Addr) (ha : F a.block) (v : Value) : Chg F w (w'.setCell a v) :=
  h.trans (Chg.of_grown (grown_setCell w' a v) (fun _ hq => by cases hq; exact ha)) (fun _ hq => .inl hq)
theorem Chg.below {F : Nat → Prop} {w w' w'' : World} (h : Chg F w w') (hb : Below w'.heap.size w' w'') : Chg F w w'' := h.trans (Chg.of_below (F := F) hb) (fun _ hq => .inl hq)
theorem own_nine7 {w : World} {base n size g : Nat} {t : TypeId} {v : Value} {xs : List Value} (ho : w.ownsRow base t size v n xs) (hne : v.ownBlock ≠ some g) (u0 u1 u2 u3 u4 u5 u6 u7 u8 : Value) :
    (((((((((w.setCell ⟨g, 0, none⟩ u0).setCell ⟨g, 1, none⟩ u1).setCell ⟨g, 2, none⟩ u2).setCell ⟨g, 3, none⟩ u3).setCell ⟨g, 4, none⟩ u4).setCell ⟨g, 5, none⟩ u5).setCell ⟨g, 6, none⟩ u6).setCell ⟨g, 7, none⟩ u7).setCell ⟨g, 8, none⟩ u8).ownsRow base t size v n xs := (own_ne (own_ne (own_ne (own_ne (own_ne (own_ne (own_ne (own_ne (own_ne ho ⟨g, 0, none⟩ u0 hne) ⟨g, 1, none⟩ u1 hne) ⟨g, 2, none⟩ u2 hne) ⟨g, 3, none⟩ u3 hne) ⟨g, 4, none⟩ u4 hne) ⟨g, 5, none⟩ u5 hne) ⟨g, 6, none⟩ u6 hne) ⟨g, 7, none⟩ u7 hne) ⟨g, 8, none⟩ u8 hne)
set_option maxRecDepth 8000 in
set_option maxHeartbeats 8000000 in
theorem fresh7 {w : World} {lo : Nat} {r : Rc} {x : La} (h : RcIs w lo r x) (hp : r.p.n ≤ 1000) (hq : r.q.n ≤ 1000) : Calls Try.prog 31 #[rcVal r] w (Fresh7 w r x) := by
  obtain ⟨⟨a, k, i, v, s, u, l⟩, ⟨A, n, c⟩, ⟨A', n', c'⟩⟩ := r
  obtain ⟨h1, h2, h3, h4, h5⟩ := h
  simp only at h1 h2 h3 h4 h5 hp hq
  generalize hQ : Fresh7 w ⟨⟨a, k, i, v, s, u, l⟩, ⟨A, n, c⟩, ⟨A', n', c'⟩⟩ x = Q
  have HQ := Lib.hid hQ
  clear hQ
  unfold rcVal
  have K0 := Lib.hid (blk_new07 w #[.int .i64 a, .int .i64 k, .int .i64 i, .int .i64 v, .int .i64 s, .int .i64 u, .int .i64 l, .slice A n c, .slice A' n' c'] 34 (.cells #[.int .i64 0, .int .i64 0, .int .i64 0, .int .i64 0, .int .i64 0, .int .i64 0, .int .i64 0, .slice none 0 0, .slice none 0 0] 34))
  have K1 := Lib.hid (blk_new1 w (.cells #[.int .i64 a, .int .i64 k, .int .i64 i, .int .i64 v, .int .i64 s, .int .i64 u, .int .i64 l, .slice A n c, .slice A' n' c'] 34) 34 #[.int .i64 0, .int .i64 0, .int .i64 0, .int .i64 0, .int .i64 0, .int .i64 0, .int .i64 0, .slice none 0 0, .slice none 0 0])
  have B0 := Lib.hid (below_new2 w (.cells #[.int .i64 a, .int .i64 k, .int .i64 i, .int .i64 v, .int .i64 s, .int .i64 u, .int .i64 l, .slice A n c, .slice A' n' c'] 34) (.cells #[.int .i64 0, .int .i64 0, .int .i64 0, .int .i64 0, .int .i64 0, .int .i64 0, .int .i64 0, .slice none 0 0, .slice none 0 0] 34))
  have O2 := Lib.hid (own_below2 h2 B0.out)
  have O4 := Lib.hid (own_below2 h4 B0.out)
  go_enter Try.func31, Try.ntmps31
  go_wp2_with fail
  generalize (w.alloc (.cells #[.int .i64 a, .int .i64 k, .int .i64 i, .int .i64 v, .int .i64 s, .int .i64 u, .int .i64 l, .slice A n c, .slice A' n' c'] 34)).alloc (.cells #[.int .i64 0, .int .i64 0, .int .i64 0, .int .i64 0, .int .i64 0, .int .i64 0, .int .i64 0, .slice none 0 0, .slice none 0 0] 34) = w0 at *
  obtain ⟨k0, k1, k2, k3, k4, k5, k6, k7, k8⟩ := K0.out.nine
  obtain ⟨g0, g1, g2, g3, g4, g5, g6, g7, g8⟩ := K1.out.nineF
  have HNE := Lib.hid (show w.heap.size ≠ w.heap.size + 1 by omega)
  have C0 : Chg (fun q => q = w.heap.size + 1) w0 w0.drew := ⟨rfl, rfl, rfl, Nat.le_refl _, fun _ _ _ => rfl⟩
  have hlt1 := K1.out.lt
  go_region_held3 (fun w' => Chg (fun q => q = w.heap.size + 1) w0 w' ∧ w'.cell? ⟨w.heap.size, 0, none⟩ = some (.int .i64 a) ∧ w'.cell? ⟨w.heap.size, 1, none⟩ = some (.int .i64 k) ∧ w'.cell? ⟨w.heap.size, 2, none⟩ = some (.int .i64 i) ∧ w'.cell? ⟨w.heap.size, 3, none⟩ = some (.int .i64 v) ∧ w'.cell? ⟨w.heap.size, 4, none⟩ = some (.int .i64 s) ∧ w'.cell? ⟨w.heap.size, 5, none⟩ = some (.int .i64 u) ∧ w'.cell? ⟨w.heap.size, 6, none⟩ = some (.int .i64 l) ∧ w'.cell? ⟨w.heap.size, 7, none⟩ = some (.slice A n c) ∧ w'.cell? ⟨w.heap.size, 8, none⟩ = some (.slice A' n' c')) ((refine keep9c K0.out HNE.out ?_; first | with_reducible exact C0 | with_reducible exact hCL | with_reducible exact hCI | with_reducible exact hCI.setCell _ rfl _ | with_reducible exact (((((((((hCI.setCell _ rfl _).setCell _ rfl _).setCell _ rfl _).setCell _ rfl _).setCell _ rfl _).setCell _ rfl _).setCell _ rfl _).setCell _ rfl _).setCell _ rfl _)))
    (first
      | (go_at_call 46; refine (cloneLk_any (own_drew7 O2.out) hp).mono ?_; rintro eL wL ⟨AL, cL, rfl, hoL, hbL, hnL⟩; have hCL := C0.below hbL)
      | (go_at_call 47; refine (cloneInt_any (own_below2 (own_drew7 O4.out) hbL) hq).mono ?_; rintro eI wI ⟨AI, cI, rfl, hoI, hbI, hnI⟩; have hCI := hCL.below hbI; have KI := ((K1.out.drew.below hbL hlt1).below hbI (Nat.lt_of_lt_of_le hlt1 hbL.size)); obtain ⟨f0, f1, f2, f3, f4, f5, f6, f7, f8⟩ := KI.nineF; obtain ⟨z0, z1, z2, z3, z4, z5, z6, z7, z8⟩ := KI.nine))
  have hz0 := B0.out.size
  have hzL := hbL.size
  have BI : Below w.heap.size w wI := ((B0.out.trans (⟨rfl, rfl, rfl, Nat.le_refl _, fun _ _ => rfl⟩ : Below w.heap.size w0 w0.drew)).trans (hbL.mono hz0)).trans (hbI.mono (Nat.le_trans hz0 hzL))
  have neL := own_not hoL (.inl hlt1)
  have neI := own_not hoI (.inl (Nat.lt_of_lt_of_le hlt1 hzL))
  have OL := Lib.hid (own_low (own_nine7 (own_below2 hoL hbI) neL (.int .i64 a) (.int .i64 k) (.int .i64 i) (.int .i64 v) (.int .i64 s) (.int .i64 u) (.int .i64 l) (.slice AL n cL) (.slice AI n' cI)) hz0)
  have OI := Lib.hid (own_low (own_nine7 hoI neI (.int .i64 a) (.int .i64 k) (.int .i64 i) (.int .i64 v) (.int .i64 s) (.int .i64 u) (.int .i64 l) (.slice AL n cL) (.slice AI n' cI)) (Nat.le_trans hz0 hzL))
  have BB := Lib.hid (((((((((BI.setCell (p := ⟨w.heap.size + 1, 0, none⟩) (Nat.le_succ _) (.int .i64 a)).setCell (p := ⟨w.heap.size + 1, 1, none⟩) (Nat.le_succ _) (.int .i64 k)).setCell (p := ⟨w.heap.size + 1, 2, none⟩) (Nat.le_succ _) (.int .i64 i)).setCell (p := ⟨w.heap.size + 1, 3, none⟩) (Nat.le_succ _) (.int .i64 v)).setCell (p := ⟨w.heap.size + 1, 4, none⟩) (Nat.le_succ _) (.int .i64 s)).setCell (p := ⟨w.heap.size + 1, 5, none⟩) (Nat.le_succ _) (.int .i64 u)).setCell (p := ⟨w.heap.size + 1, 6, none⟩) (Nat.le_succ _) (.int .i64 l)).setCell (p := ⟨w.heap.size + 1, 7, none⟩) (Nat.le_succ _) (.slice AL n cL)).setCell (p := ⟨w.heap.size + 1, 8, none⟩) (Nat.le_succ _) (.slice AI n' cI))
  have NL := Lib.hid hnL
  have NI := Lib.hid hnI
  clear BI neL neI hoL hoI hbL hbI hCL hCI C0 hnL hnI KI k0 k1 k2 k3 k4 k5 k6 k7 k8 g0 g1 g2 g3 g4 g5 g6 g7 g8
  go_wp2_with fail
  refine bodyPost_ret (v := .agg #[.int .i64 a, .int .i64 k, .int .i64 i, .int .i64 v, .int .i64 s, .int .i64 u, .int .i64 l, .slice AL n cL, .slice AI n' cI]) (by simp [results, Try.results31, go_sem, *]) rfl ?_
  rw [← HQ.out]
  exact ⟨⟨⟨a, k, i, v, s, u, l⟩, ⟨AL, n, cL⟩, ⟨AI, n', cI⟩⟩, rfl, BB.out, ⟨h1, OL.out, h3, OI.out, h5⟩, rfl, rfl, fun hA => by obtain ⟨e1, e2⟩ := NL.out hA; rw [e1, e2], fun hA => by obtain ⟨e1, e2⟩ := NI.out hA; rw [e1, e2]⟩
end Go.Proofs.Ytlcaaoflbldocaa
