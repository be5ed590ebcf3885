/- The call link of package lsa: one link, read. Conditions: its twelve bytes are there. -/
import Derived.Test.YtidncajbedgplaaLsT
namespace Go.Proofs.Ytidncajbedgplaa
open Go.RowKit

/-- The link that twelve bytes tell. -/
def lkAt (l : List Int) (a : Nat) : Lk := ⟨wordAt l (a + 8) 1, wordAt l a 4, wordAt l (a + 4) 4, wordAt l (a + 10) 2⟩
theorem Blk.fourF {w : World} {g : Nat} {t : TypeId} {cs : Array Value} (h : Blk w g t cs) :
    w.frozen? ⟨g, 0, none⟩ = false ∧ w.frozen? ⟨g, 1, none⟩ = false ∧ w.frozen? ⟨g, 2, none⟩ = false ∧ w.frozen? ⟨g, 3, none⟩ = false :=
  ⟨h.frozen 0, h.frozen 1, h.frozen 2, h.frozen 3⟩

/-- What link answers, and leaves. -/
def GotK (w : World) (base g : Nat) (l : List Int) (a : Nat) (x : Ending) (w' : World) : Prop :=
  x = .returned (.tuple #[.agg #[.int .i64 (lkAt l a).kind, .int .i64 (lkAt l a).id, .int .i64 (lkAt l a).data, .int .i64 (lkAt l a).cost], .bool (decide (wordAt l (a + 9) 1 = 0))]) ∧ Rd w' base g l (a + 12) ∧ w.grownBy w' (some g)

set_option maxHeartbeats 8000000 in
theorem link_any (base g a : Nat) (l : List Int) (w : World) (h : Rd w base g l a) (ha : a + 12 ≤ l.length) :
    Calls Try.prog 63 #[.pointer (some ⟨g, 0, none⟩)] w (GotK w base g l a) := by
  generalize hQ : GotK w base g l a = Q
  have HQ := Lib.hid hQ
  have HA := Lib.hid ha
  have RD0 := Lib.hid ((h.alloc (.cells #[.int .i64 0, .int .i64 0, .int .i64 0, .int .i64 0] 53)).alloc (.cells #[.int .i64 0, .int .i64 0, .int .i64 0, .int .i64 0] 53))
  have KA0 := Lib.hid ((Blk.new w 53 #[.int .i64 0, .int .i64 0, .int .i64 0, .int .i64 0]).alloc (.cells #[.int .i64 0, .int .i64 0, .int .i64 0, .int .i64 0] 53))
  have KB0 := Lib.hid (show Blk ((w.alloc (.cells #[.int .i64 0, .int .i64 0, .int .i64 0, .int .i64 0] 53)).alloc (.cells #[.int .i64 0, .int .i64 0, .int .i64 0, .int .i64 0] 53)) (w.heap.size + 1) 53 #[.int .i64 0, .int .i64 0, .int .i64 0, .int .i64 0] by have := Blk.new (w.alloc (.cells #[.int .i64 0, .int .i64 0, .int .i64 0, .int .i64 0] 53)) 53 #[.int .i64 0, .int .i64 0, .int .i64 0, .int .i64 0]; rwa [World.size_alloc] at this)
  have GR0 := Lib.hid (grown_alloc (World.grownBy_alloc w (.cells #[.int .i64 0, .int .i64 0, .int .i64 0, .int .i64 0] 53) (some g)) (.cells #[.int .i64 0, .int .i64 0, .int .i64 0, .int .i64 0] 53))
  have hg0 := h.lt.1
  clear hQ h ha
  go_enter Try.func63, Try.ntmps63
  go_wp2_with fail
  refine (rd_num base g (a) 4 4 l _ RD0.out rfl (by have := HA.out; omega)).mono ?_
  rintro e1 v1 ⟨rfl, hrd, hgr⟩
  have RD1 := Lib.hid (show Rd v1 base g l (a + 4) from hrd)
  have KA1 := Lib.hid (KA0.out.grown hgr (by omega))
  have KB1 := Lib.hid (KB0.out.grown hgr (by omega))
  have GR1 := Lib.hid (grown_trans GR0.out hgr)
  clear hrd hgr RD0 KA0 KB0 GR0
  generalize hx0 : wordAt l (a) 4 = x0 at *
  have HX0 := Lib.hid hx0
  clear hx0
  go_wp2_with fail
  refine (rd_num base g (a + 4) 4 4 l _ RD1.out rfl (by have := HA.out; omega)).mono ?_
  rintro e2 v2 ⟨rfl, hrd, hgr⟩
  have RD2 := Lib.hid (show Rd v2 base g l (a + 8) from hrd)
  have KA2 := Lib.hid (KA1.out.grown hgr (by omega))
  have KB2 := Lib.hid (KB1.out.grown hgr (by omega))
  have GR2 := Lib.hid (grown_trans GR1.out hgr)
  clear hrd hgr RD1 KA1 KB1 GR1
  generalize hx1 : wordAt l (a + 4) 4 = x1 at *
  have HX1 := Lib.hid hx1
  clear hx1
  obtain ⟨k0, k1, k2, k3⟩ := KB2.out.four
  have f1 := KB2.out.frozen 1
  have f2 := KB2.out.frozen 2
  have RDa := Lib.hid (show Rd ((v2.setCell ⟨w.heap.size + 1, 1, none⟩ (.int .i64 x0)).setCell ⟨w.heap.size + 1, 2, none⟩ (.int .i64 x1)) base g l (a + 8) from ((RD2.out.far (p := ⟨w.heap.size + 1, 1, none⟩) (.inr (by simp; omega)) (.int .i64 x0)).far (p := ⟨w.heap.size + 1, 2, none⟩) (.inr (by simp; omega)) (.int .i64 x1)))
  have KAa := Lib.hid (show Blk ((v2.setCell ⟨w.heap.size + 1, 1, none⟩ (.int .i64 x0)).setCell ⟨w.heap.size + 1, 2, none⟩ (.int .i64 x1)) w.heap.size 53 #[.int .i64 0, .int .i64 0, .int .i64 0, .int .i64 0] from ((KA2.out.far (p := ⟨w.heap.size + 1, 1, none⟩) (by simp) (.int .i64 x0)).far (p := ⟨w.heap.size + 1, 2, none⟩) (by simp) (.int .i64 x1)))
  have KBa := Lib.hid (show Blk ((v2.setCell ⟨w.heap.size + 1, 1, none⟩ (.int .i64 x0)).setCell ⟨w.heap.size + 1, 2, none⟩ (.int .i64 x1)) (w.heap.size + 1) 53 #[.int .i64 0, .int .i64 x0, .int .i64 x1, .int .i64 0] from ((KB2.out.put 1 (.int .i64 x0)).put 2 (.int .i64 x1)))
  have GRa := Lib.hid (show w.grownBy ((v2.setCell ⟨w.heap.size + 1, 1, none⟩ (.int .i64 x0)).setCell ⟨w.heap.size + 1, 2, none⟩ (.int .i64 x1)) (some g) from (grown_set (grown_set GR2.out (p := ⟨w.heap.size + 1, 1, none⟩) (by simp) (.int .i64 x0)) (p := ⟨w.heap.size + 1, 2, none⟩) (by simp) (.int .i64 x1)))
  clear RD2 KA2 KB2 GR2
  go_wp2_with fail
  refine (rd_num base g (a + 8) 1 1 l _ RDa.out rfl (by have := HA.out; omega)).mono ?_
  rintro e3 v3 ⟨rfl, hrd, hgr⟩
  have RD3 := Lib.hid (show Rd v3 base g l (a + 9) from hrd)
  have KA3 := Lib.hid (KAa.out.grown hgr (by omega))
  have KB3 := Lib.hid (KBa.out.grown hgr (by omega))
  have GR3 := Lib.hid (grown_trans GRa.out hgr)
  clear hrd hgr RDa KAa KBa GRa
  generalize hx2 : wordAt l (a + 8) 1 = x2 at *
  have HX2 := Lib.hid hx2
  clear hx2
  clear k0 k1 k2 k3 f1 f2
  obtain ⟨k0, k1, k2, k3⟩ := KB3.out.four
  have f0 := KB3.out.frozen 0
  have RDb := Lib.hid (show Rd (v3.setCell ⟨w.heap.size + 1, 0, none⟩ (.int .i64 x2)) base g l (a + 9) from (RD3.out.far (p := ⟨w.heap.size + 1, 0, none⟩) (.inr (by simp; omega)) (.int .i64 x2)))
  have KAb := Lib.hid (show Blk (v3.setCell ⟨w.heap.size + 1, 0, none⟩ (.int .i64 x2)) w.heap.size 53 #[.int .i64 0, .int .i64 0, .int .i64 0, .int .i64 0] from (KA3.out.far (p := ⟨w.heap.size + 1, 0, none⟩) (by simp) (.int .i64 x2)))
  have KBb := Lib.hid (show Blk (v3.setCell ⟨w.heap.size + 1, 0, none⟩ (.int .i64 x2)) (w.heap.size + 1) 53 #[.int .i64 x2, .int .i64 x0, .int .i64 x1, .int .i64 0] from (KB3.out.put 0 (.int .i64 x2)))
  have GRb := Lib.hid (show w.grownBy (v3.setCell ⟨w.heap.size + 1, 0, none⟩ (.int .i64 x2)) (some g) from (grown_set GR3.out (p := ⟨w.heap.size + 1, 0, none⟩) (by simp) (.int .i64 x2)))
  clear RD3 KA3 KB3 GR3
  go_wp2_with fail
  refine (rd_num base g (a + 9) 1 1 l _ RDb.out rfl (by have := HA.out; omega)).mono ?_
  rintro e4 v4 ⟨rfl, hrd, hgr⟩
  have RD4 := Lib.hid (show Rd v4 base g l (a + 10) from hrd)
  have KA4 := Lib.hid (KAb.out.grown hgr (by omega))
  have KB4 := Lib.hid (KBb.out.grown hgr (by omega))
  have GR4 := Lib.hid (grown_trans GRb.out hgr)
  clear hrd hgr RDb KAb KBb GRb
  generalize hx3 : wordAt l (a + 9) 1 = x3 at *
  have HX3 := Lib.hid hx3
  clear hx3
  clear k0 k1 k2 k3 f0
  go_wp2_with fail
  refine (rd_num base g (a + 10) 2 2 l _ RD4.out rfl (by have := HA.out; omega)).mono ?_
  rintro e5 v5 ⟨rfl, hrd, hgr⟩
  have RD5 := Lib.hid (show Rd v5 base g l (a + 12) from hrd)
  have KA5 := Lib.hid (KA4.out.grown hgr (by omega))
  have KB5 := Lib.hid (KB4.out.grown hgr (by omega))
  have GR5 := Lib.hid (grown_trans GR4.out hgr)
  clear hrd hgr RD4 KA4 KB4 GR4
  generalize hx4 : wordAt l (a + 10) 2 = x4 at *
  have HX4 := Lib.hid hx4
  clear hx4
  obtain ⟨k0, k1, k2, k3⟩ := KB5.out.four
  have f3 := KB5.out.frozen 3
  have RDc := Lib.hid (show Rd (v5.setCell ⟨w.heap.size + 1, 3, none⟩ (.int .i64 x4)) base g l (a + 12) from (RD5.out.far (p := ⟨w.heap.size + 1, 3, none⟩) (.inr (by simp; omega)) (.int .i64 x4)))
  have KAc := Lib.hid (show Blk (v5.setCell ⟨w.heap.size + 1, 3, none⟩ (.int .i64 x4)) w.heap.size 53 #[.int .i64 0, .int .i64 0, .int .i64 0, .int .i64 0] from (KA5.out.far (p := ⟨w.heap.size + 1, 3, none⟩) (by simp) (.int .i64 x4)))
  have KBc := Lib.hid (show Blk (v5.setCell ⟨w.heap.size + 1, 3, none⟩ (.int .i64 x4)) (w.heap.size + 1) 53 #[.int .i64 x2, .int .i64 x0, .int .i64 x1, .int .i64 x4] from (KB5.out.put 3 (.int .i64 x4)))
  have GRc := Lib.hid (show w.grownBy (v5.setCell ⟨w.heap.size + 1, 3, none⟩ (.int .i64 x4)) (some g) from (grown_set GR5.out (p := ⟨w.heap.size + 1, 3, none⟩) (by simp) (.int .i64 x4)))
  obtain ⟨a0, a1, a2, a3⟩ := KA5.out.four
  obtain ⟨g0, g1, g2, g3⟩ := KA5.out.fourF
  clear RD5 KA5 KB5 GR5
  have HD := Lib.hid (show (x3 == 0) = decide (wordAt l (a + 9) 1 = 0) by rw [HX3.out, Bool.eq_iff_iff]; simp)
  go_wp2
  refine bodyPost_ret (v := .tuple #[.agg #[.int .i64 x2, .int .i64 x0, .int .i64 x1, .int .i64 x4], .bool (x3 == 0)]) (by simp [results, Try.results63, go_sem, *]) rfl ?_
  rw [← HQ.out]
  refine ⟨?_, (((RDc.out.far (.inr hg0) _).far (.inr hg0) _).far (.inr hg0) _).far (.inr hg0) _, grown_set (grown_set (grown_set (grown_set GRc.out (Nat.le_refl _) _) (Nat.le_refl _) _) (Nat.le_refl _) _) (Nat.le_refl _) _⟩
  unfold lkAt
  rw [HX0.out, HX1.out, HX2.out, HX4.out, HD.out]

theorem lkCells_one (k : Lk) : ∀ u ∈ [Value.int .i64 k.kind, .int .i64 k.id, .int .i64 k.data, .int .i64 k.cost], u.oneCell' = true := by
  intro u hu
  simp at hu
  rcases hu with rfl | rfl | rfl | rfl <;> rfl
/-- The cells of links, one behind the other. -/
def lkCells : List Lk → List Value
  | [] => []
  | k :: l => .int .i64 k.kind :: .int .i64 k.id :: .int .i64 k.data :: .int .i64 k.cost :: lkCells l
theorem lkCells_snoc (l : List Lk) (k : Lk) : lkCells (l ++ [k]) = lkCells l ++ [.int .i64 k.kind, .int .i64 k.id, .int .i64 k.data, .int .i64 k.cost] := by
  induction l with
  | nil => rfl
  | cons x l ih => simp [lkCells, ih]
theorem lkCells_get (l : List Lk) (j : Nat) (h : j < l.length) : (lkCells l)[j * 4]? = some (.int .i64 (l.getD j ⟨0, 0, 0, 0⟩).kind) ∧ (lkCells l)[j * 4 + 1]? = some (.int .i64 (l.getD j ⟨0, 0, 0, 0⟩).id) ∧ (lkCells l)[j * 4 + 2]? = some (.int .i64 (l.getD j ⟨0, 0, 0, 0⟩).data) ∧ (lkCells l)[j * 4 + 3]? = some (.int .i64 (l.getD j ⟨0, 0, 0, 0⟩).cost) := by
  induction l generalizing j with
  | nil => simp at h
  | cons x l ih =>
    cases j with
    | zero => simp [lkCells]
    | succ j =>
      have := ih j (by simpa using h)
      rw [show (j + 1) * 4 = j * 4 + 4 from by omega]
      simpa [lkCells] using this
/-- A row of links of the call's own reads as links. -/
theorem lnk_of_own {w : World} {base n : Nat} {v : Value} {L : List Lk} (h : w.ownsRow base 53 4 v n (lkCells L)) (hn : L.length = n) : ∃ A c, v = .slice A n c ∧ n ≤ c ∧ c ≤ maxLen ∧ Lnk w w.heap.size A n L := by
  rcases h.2 with ⟨rfl, rfl⟩ | ⟨g, cap, cur, rfl, hg, hh, hc, hm, hs, ht⟩
  · have : L = [] := List.eq_nil_of_length_eq_zero hn
    subst this
    exact ⟨_, _, rfl, Nat.le_refl _, by unfold maxLen; omega, Lnk.nil⟩
  · refine ⟨_, _, rfl, hc, hm, hn, fun _ => ⟨g, 0, rfl, Blk.lt hh, fun j hj => ?_⟩⟩
    have hcell : ∀ (p : Nat) (u : Value), (lkCells L)[p]? = some u → w.cell? ⟨g, 0 + p, none⟩ = some u := by
      intro p u hu
      have h1 := h.cells (g := g) rfl p u hu
      have e : (⟨g, 0, none⟩ : Addr).add p = ⟨g, 0 + p, none⟩ := by
        unfold Addr.add
        split <;> simp_all
      rwa [e] at h1
    obtain ⟨h0, h1, h2, h3⟩ := lkCells_get L j (by omega)
    exact ⟨hcell _ _ h0, hcell _ _ h1, hcell _ _ h2, hcell _ _ h3⟩
theorem row_of_ints {w : World} {base n : Nat} {v : Value} {M : List Int} (h : w.ownsRow base 3 1 v n (M.map (Value.int .i64))) (hn : M.length = n) : ∃ A c, v = .slice A n c ∧ n ≤ c ∧ c ≤ maxLen ∧ Row .i64 w w.heap.size A n M := by
  rcases h.2 with ⟨rfl, rfl⟩ | ⟨g, cap, cur, rfl, hg, hh, hc, hm, hs, ht⟩
  · have : M = [] := List.eq_nil_of_length_eq_zero hn
    subst this
    exact ⟨_, _, rfl, Nat.le_refl _, by unfold maxLen; omega, Row.nil⟩
  · refine ⟨_, _, rfl, hc, hm, hn, fun _ => ⟨g, 0, rfl, Blk.lt hh, fun j hj => ?_⟩⟩
    have hc := h.cells (g := g) rfl j (.int .i64 (M.getD j 0)) (by rw [List.getElem?_map, List.getD_eq_getElem?_getD, List.getElem?_eq_getElem (by omega)]; rfl)
    have e : (⟨g, 0, none⟩ : Addr).add j = ⟨g, 0 + j, none⟩ := by
      unfold Addr.add
      split <;> simp_all
    rw [e] at hc
    exact hc
end Go.Proofs.Ytidncajbedgplaa
