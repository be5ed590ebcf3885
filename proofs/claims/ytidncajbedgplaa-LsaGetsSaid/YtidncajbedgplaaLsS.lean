/- The call GetHead of package lsa. Conditions: the slice reads as bytes, at most 2^40 of them. -/
import Derived.Test.YtidncajbedgplaaLsR
namespace Go.Proofs.Ytidncajbedgplaa
open Go.RowKit

/-- A number of 32 bits that goes round below 0. -/
def sgn (n : Int) : Int := if 2147483648 ≤ n then n - 4294967296 else n
theorem sgn_wrap (n : Int) (h0 : 0 ≤ n) (h1 : n < 4294967296) : IntKind.i32.wrap n = sgn n := by
  unfold sgn
  rw [IntKind.wrap_i32]
  split <;> omega
/-- The head that twenty bytes tell. -/
def headOf (l : List Int) : Hd := ⟨wordAt l 0 2, wordAt l 3 1, wordAt l 4 4, wordAt l 8 4, sgn (wordAt l 12 4), wordAt l 16 2, wordAt l 18 2⟩
def zeroHd : Hd := ⟨0, 0, 0, 0, 0, 0, 0⟩
/-- Is the head that bytes tell formed as told? -/
def okHead (l : List Int) : Bool := decide (l.getD 2 0 = 0) && headB (headOf l)
/-- GetHead's error. -/
def hErr (l : List Int) : Int := if l.length < 20 then 3 else if okHead l = true then 0 else 4
/-- GetHead's head. -/
def hRes (l : List Int) : Hd := if l.length < 20 then zeroHd else if okHead l = true then headOf l else zeroHd

/-- What GetHead answers. -/
def GotH (w : World) (h : Hd) (e : Int) (x : Ending) (w' : World) : Prop :=
  x = .returned (.tuple #[.agg #[.int .i64 h.age, .int .i64 h.kind, .int .i64 h.id, .int .i64 h.adv, .int .i64 h.seq, .int .i64 h.sum, .int .i64 h.long], .int .i64 e]) ∧ Below w.heap.size w w'

set_option maxHeartbeats 4000000 in
theorem getHead_short (A : Option Addr) (n c : Nat) (w : World) (hn : n < 20) :
    Calls Try.prog 20 #[.slice A n c] w (GotH w zeroHd 3) := by
  generalize hQ : GotH w zeroHd 3 = Q
  have HQ := Lib.hid hQ
  clear hQ
  go_enter Try.func20, Try.ntmps20
  go_wp2
  refine scope_fwd 0 rfl ?_
  go_wp2
  refine bodyPost_ret (v := .tuple #[.agg #[.int .i64 0, .int .i64 0, .int .i64 0, .int .i64 0, .int .i64 0, .int .i64 0, .int .i64 0], .int .i64 3]) (by simp [results, Try.results20, go_sem]) rfl ?_
  rw [← HQ.out]
  exact ⟨rfl, ((Below.refl _ _).alloc (Nat.le_refl _) _).alloc (by simp) _⟩

theorem Blk.sevenF {w : World} {g : Nat} {t : TypeId} {cs : Array Value} (h : Blk w g t cs) :
    w.frozen? ⟨g, 0, none⟩ = false ∧ w.frozen? ⟨g, 1, none⟩ = false ∧ w.frozen? ⟨g, 2, none⟩ = false ∧ w.frozen? ⟨g, 3, none⟩ = false ∧ w.frozen? ⟨g, 4, none⟩ = false ∧ w.frozen? ⟨g, 5, none⟩ = false ∧ w.frozen? ⟨g, 6, none⟩ = false :=
  ⟨h.frozen 0, h.frozen 1, h.frozen 2, h.frozen 3, h.frozen 4, h.frozen 5, h.frozen 6⟩
theorem wordAt_take (l : List Int) (k a m : Nat) (h : a + m ≤ k) : wordAt (l.take k) a m = wordAt l a m := by
  unfold wordAt
  rw [List.drop_take, List.take_take, Nat.min_eq_left (by omega)]

set_option maxHeartbeats 8000000 in
theorem getHead_long (A : Option Addr) (n c B : Nat) (l : List Int) (w : World) (hr : Row .u8 w B A n l) (hby : Byt l) (hB : B ≤ w.heap.size) (hn : 20 ≤ n) (hnc : n ≤ c) (hc : c ≤ maxLen) :
    Calls Try.prog 20 #[.slice A n c] w (GotH w (if okHead l = true then headOf l else zeroHd) (if okHead l = true then 0 else 4)) := by
  generalize hQ : GotH w (if okHead l = true then headOf l else zeroHd) (if okHead l = true then 0 else 4) = Q
  have HQ := Lib.hid hQ
  have HY := Lib.hid hby
  have hlen := hr.1
  have h20 : (l.take 20).length = 20 := by simp; omega
  have H20 := Lib.hid h20
  unfold maxLen at hc
  obtain ⟨b0, o0, rfl, hb0, -⟩ := hr.2 (by omega)
  have HRr := Lib.hid (hr.head 20 hn)
  have HL2 := Lib.hid (show l.getD 2 0 = wordAt (l.take 20) 2 1 by rw [wordAt_take _ _ _ _ (by omega), wordAt_one l 2 (by omega)])
  have HH := Lib.hid (show headOf l = ⟨wordAt (l.take 20) 0 2, wordAt (l.take 20) 3 1, wordAt (l.take 20) 4 4, wordAt (l.take 20) 8 4, sgn (wordAt (l.take 20) 12 4), wordAt (l.take 20) 16 2, wordAt (l.take 20) 18 2⟩ by
    rw [wordAt_take _ _ _ _ (by omega), wordAt_take _ _ _ _ (by omega), wordAt_take _ _ _ _ (by omega), wordAt_take _ _ _ _ (by omega), wordAt_take _ _ _ _ (by omega), wordAt_take _ _ _ _ (by omega), wordAt_take _ _ _ _ (by omega)]
    rfl)
  have HS := Lib.hid (wordAt_bd (l.take 20) (hby.take 20) 12 4 (by rw [h20]; omega))
  have HYT := Lib.hid (hby.take 20)
  generalize l.take 20 = t at *
  clear hQ hr hby hlen h20
  have KA := Lib.hid ((Blk.new w 23 #[.int .i64 0, .int .i64 0, .int .i64 0, .int .i64 0, .int .i64 0, .int .i64 0, .int .i64 0]).alloc (.cells #[.int .i64 0, .int .i64 0, .int .i64 0, .int .i64 0, .int .i64 0, .int .i64 0, .int .i64 0] 23))
  have KB := Lib.hid (Blk.new (w.alloc (.cells #[.int .i64 0, .int .i64 0, .int .i64 0, .int .i64 0, .int .i64 0, .int .i64 0, .int .i64 0] 23)) 23 #[.int .i64 0, .int .i64 0, .int .i64 0, .int .i64 0, .int .i64 0, .int .i64 0, .int .i64 0])
  have BW := Lib.hid (((Below.refl w.heap.size w).alloc (Nat.le_refl _) (.cells #[.int .i64 0, .int .i64 0, .int .i64 0, .int .i64 0, .int .i64 0, .int .i64 0, .int .i64 0] 23)).alloc (by simp) (.cells #[.int .i64 0, .int .i64 0, .int .i64 0, .int .i64 0, .int .i64 0, .int .i64 0, .int .i64 0] 23))
  have HRw := Lib.hid ((HRr.out.alloc hB (.cells #[.int .i64 0, .int .i64 0, .int .i64 0, .int .i64 0, .int .i64 0, .int .i64 0, .int .i64 0] 23)).alloc (by simp; omega) (.cells #[.int .i64 0, .int .i64 0, .int .i64 0, .int .i64 0, .int .i64 0, .int .i64 0, .int .i64 0] 23))
  go_enter Try.func20, Try.ntmps20
  go_wp2
  refine scope_fwd 0 rfl ?_
  go_wp2_with fail
  refine (rd_read _ 20 c B t _ HRw.out HYT.out (by simp; omega) (by omega)).mono ?_
  rintro e0 w0 ⟨rfl, hb0', hrd⟩
  have KA0 := Lib.hid (KA.out.below hb0' (by simp; omega))
  have kb := KB.out.below hb0' (by simp)
  rw [World.size_alloc] at kb
  have KB0 := Lib.hid kb
  have BW0 := Lib.hid (BW.out.trans (hb0'.mono (by simp; omega)))
  simp only [World.size_alloc] at hrd
  have RD0 := Lib.hid hrd
  simp only [World.size_alloc]
  clear hb0' hrd KA KB BW HRw HRr kb
  go_wp2_with fail
  refine (rd_num _ _ 0 2 2 t _ RD0.out rfl (by rw [H20.out]; omega)).mono ?_
  rintro e1 v1 ⟨rfl, hrd, hgr⟩
  have RD1 := Lib.hid hrd
  have KA1 := Lib.hid (KA0.out.grown hgr (by omega))
  have KB1 := Lib.hid (KB0.out.grown hgr (by omega))
  have BW1 := Lib.hid (below_grown BW0.out hgr (Nat.le_refl _) (by omega))
  clear hrd hgr RD0 KA0 KB0 BW0
  generalize hx0 : wordAt t 0 2 = x0 at *
  have HX0 := Lib.hid hx0
  clear hx0
  obtain ⟨k0, k1, k2, k3, k4, k5, k6⟩ := KB1.out.seven
  have f0 := KB1.out.frozen 0
  have RDa := Lib.hid (show Rd (v1.setCell ⟨w.heap.size + 1, 0, none⟩ (.int .i64 x0)) (w.heap.size + 1 + 1) (w.heap.size + 1 + 1 + 1) t _ from (RD1.out.far (p := ⟨w.heap.size + 1, 0, none⟩) (.inl (by simp)) (.int .i64 x0)))
  have KAa := Lib.hid (show Blk (v1.setCell ⟨w.heap.size + 1, 0, none⟩ (.int .i64 x0)) w.heap.size 23 #[.int .i64 0, .int .i64 0, .int .i64 0, .int .i64 0, .int .i64 0, .int .i64 0, .int .i64 0] from (KA1.out.far (p := ⟨w.heap.size + 1, 0, none⟩) (by simp) (.int .i64 x0)))
  have KBa := Lib.hid (show Blk (v1.setCell ⟨w.heap.size + 1, 0, none⟩ (.int .i64 x0)) (w.heap.size + 1) 23 #[.int .i64 x0, .int .i64 0, .int .i64 0, .int .i64 0, .int .i64 0, .int .i64 0, .int .i64 0] from (KB1.out.put 0 (.int .i64 x0)))
  have BWa := Lib.hid (show Below w.heap.size w (v1.setCell ⟨w.heap.size + 1, 0, none⟩ (.int .i64 x0)) from (BW1.out.setCell (p := ⟨w.heap.size + 1, 0, none⟩) (by simp) (.int .i64 x0)))
  clear RD1 KA1 KB1 BW1
  go_wp2_with fail
  refine (rd_num _ _ 2 1 1 t _ RDa.out rfl (by rw [H20.out]; omega)).mono ?_
  rintro e2 v2 ⟨rfl, hrd, hgr⟩
  have RD2 := Lib.hid hrd
  have KA2 := Lib.hid (KAa.out.grown hgr (by omega))
  have KB2 := Lib.hid (KBa.out.grown hgr (by omega))
  have BW2 := Lib.hid (below_grown BWa.out hgr (Nat.le_refl _) (by omega))
  clear hrd hgr RDa KAa KBa BWa
  generalize hx1 : wordAt t 2 1 = x1 at *
  have HX1 := Lib.hid hx1
  clear hx1
  clear k0 k1 k2 k3 k4 k5 k6 f0
  by_cases hz : x1 = 0
  · subst hz
    go_wp2_with fail
    refine (rd_num _ _ 3 1 1 t _ RD2.out rfl (by rw [H20.out]; omega)).mono ?_
    rintro e3 v3 ⟨rfl, hrd, hgr⟩
    have RD3 := Lib.hid hrd
    have KA3 := Lib.hid (KA2.out.grown hgr (by omega))
    have KB3 := Lib.hid (KB2.out.grown hgr (by omega))
    have BW3 := Lib.hid (below_grown BW2.out hgr (Nat.le_refl _) (by omega))
    clear hrd hgr RD2 KA2 KB2 BW2
    generalize hx2 : wordAt t 3 1 = x2 at *
    have HX2 := Lib.hid hx2
    clear hx2
    obtain ⟨k0, k1, k2, k3, k4, k5, k6⟩ := KB3.out.seven
    have f1 := KB3.out.frozen 1
    have RDb := Lib.hid (show Rd (v3.setCell ⟨w.heap.size + 1, 1, none⟩ (.int .i64 x2)) (w.heap.size + 1 + 1) (w.heap.size + 1 + 1 + 1) t _ from (RD3.out.far (p := ⟨w.heap.size + 1, 1, none⟩) (.inl (by simp)) (.int .i64 x2)))
    have KAb := Lib.hid (show Blk (v3.setCell ⟨w.heap.size + 1, 1, none⟩ (.int .i64 x2)) w.heap.size 23 #[.int .i64 0, .int .i64 0, .int .i64 0, .int .i64 0, .int .i64 0, .int .i64 0, .int .i64 0] from (KA3.out.far (p := ⟨w.heap.size + 1, 1, none⟩) (by simp) (.int .i64 x2)))
    have KBb := Lib.hid (show Blk (v3.setCell ⟨w.heap.size + 1, 1, none⟩ (.int .i64 x2)) (w.heap.size + 1) 23 #[.int .i64 x0, .int .i64 x2, .int .i64 0, .int .i64 0, .int .i64 0, .int .i64 0, .int .i64 0] from (KB3.out.put 1 (.int .i64 x2)))
    have BWb := Lib.hid (show Below w.heap.size w (v3.setCell ⟨w.heap.size + 1, 1, none⟩ (.int .i64 x2)) from (BW3.out.setCell (p := ⟨w.heap.size + 1, 1, none⟩) (by simp) (.int .i64 x2)))
    clear RD3 KA3 KB3 BW3
    go_wp2_with fail
    refine (rd_num _ _ 4 4 4 t _ RDb.out rfl (by rw [H20.out]; omega)).mono ?_
    rintro e4 v4 ⟨rfl, hrd, hgr⟩
    have RD4 := Lib.hid hrd
    have KA4 := Lib.hid (KAb.out.grown hgr (by omega))
    have KB4 := Lib.hid (KBb.out.grown hgr (by omega))
    have BW4 := Lib.hid (below_grown BWb.out hgr (Nat.le_refl _) (by omega))
    clear hrd hgr RDb KAb KBb BWb
    generalize hx3 : wordAt t 4 4 = x3 at *
    have HX3 := Lib.hid hx3
    clear hx3
    clear k0 k1 k2 k3 k4 k5 k6 f1
    go_wp2_with fail
    refine (rd_num _ _ 8 4 4 t _ RD4.out rfl (by rw [H20.out]; omega)).mono ?_
    rintro e5 v5 ⟨rfl, hrd, hgr⟩
    have RD5 := Lib.hid hrd
    have KA5 := Lib.hid (KA4.out.grown hgr (by omega))
    have KB5 := Lib.hid (KB4.out.grown hgr (by omega))
    have BW5 := Lib.hid (below_grown BW4.out hgr (Nat.le_refl _) (by omega))
    clear hrd hgr RD4 KA4 KB4 BW4
    generalize hx4 : wordAt t 8 4 = x4 at *
    have HX4 := Lib.hid hx4
    clear hx4
    obtain ⟨k0, k1, k2, k3, k4, k5, k6⟩ := KB5.out.seven
    have f2 := KB5.out.frozen 2
    have f3 := KB5.out.frozen 3
    have RDc := Lib.hid (show Rd ((v5.setCell ⟨w.heap.size + 1, 2, none⟩ (.int .i64 x3)).setCell ⟨w.heap.size + 1, 3, none⟩ (.int .i64 x4)) (w.heap.size + 1 + 1) (w.heap.size + 1 + 1 + 1) t _ from ((RD5.out.far (p := ⟨w.heap.size + 1, 2, none⟩) (.inl (by simp)) (.int .i64 x3)).far (p := ⟨w.heap.size + 1, 3, none⟩) (.inl (by simp)) (.int .i64 x4)))
    have KAc := Lib.hid (show Blk ((v5.setCell ⟨w.heap.size + 1, 2, none⟩ (.int .i64 x3)).setCell ⟨w.heap.size + 1, 3, none⟩ (.int .i64 x4)) w.heap.size 23 #[.int .i64 0, .int .i64 0, .int .i64 0, .int .i64 0, .int .i64 0, .int .i64 0, .int .i64 0] from ((KA5.out.far (p := ⟨w.heap.size + 1, 2, none⟩) (by simp) (.int .i64 x3)).far (p := ⟨w.heap.size + 1, 3, none⟩) (by simp) (.int .i64 x4)))
    have KBc := Lib.hid (show Blk ((v5.setCell ⟨w.heap.size + 1, 2, none⟩ (.int .i64 x3)).setCell ⟨w.heap.size + 1, 3, none⟩ (.int .i64 x4)) (w.heap.size + 1) 23 #[.int .i64 x0, .int .i64 x2, .int .i64 x3, .int .i64 x4, .int .i64 0, .int .i64 0, .int .i64 0] from ((KB5.out.put 2 (.int .i64 x3)).put 3 (.int .i64 x4)))
    have BWc := Lib.hid (show Below w.heap.size w ((v5.setCell ⟨w.heap.size + 1, 2, none⟩ (.int .i64 x3)).setCell ⟨w.heap.size + 1, 3, none⟩ (.int .i64 x4)) from ((BW5.out.setCell (p := ⟨w.heap.size + 1, 2, none⟩) (by simp) (.int .i64 x3)).setCell (p := ⟨w.heap.size + 1, 3, none⟩) (by simp) (.int .i64 x4)))
    clear RD5 KA5 KB5 BW5
    go_wp2_with fail
    refine (rd_num _ _ 12 4 4 t _ RDc.out rfl (by rw [H20.out]; omega)).mono ?_
    rintro e6 v6 ⟨rfl, hrd, hgr⟩
    have RD6 := Lib.hid hrd
    have KA6 := Lib.hid (KAc.out.grown hgr (by omega))
    have KB6 := Lib.hid (KBc.out.grown hgr (by omega))
    have BW6 := Lib.hid (below_grown BWc.out hgr (Nat.le_refl _) (by omega))
    clear hrd hgr RDc KAc KBc BWc
    generalize hx5 : wordAt t 12 4 = x5 at *
    have HX5 := Lib.hid hx5
    clear hx5
    clear k0 k1 k2 k3 k4 k5 k6 f2 f3
    have hx50 := HS.out.1
    have hx51 : x5 < 4294967296 := HS.out.2
    have hw5 := sgn_wrap x5 hx50 hx51
    have HW5 := Lib.hid hw5
    generalize hy5 : IntKind.i32.wrap x5 = y5 at *
    have HY5 := Lib.hid hy5
    clear hw5
    obtain ⟨k0, k1, k2, k3, k4, k5, k6⟩ := KB6.out.seven
    have f4 := KB6.out.frozen 4
    have RDd := Lib.hid (show Rd (v6.setCell ⟨w.heap.size + 1, 4, none⟩ (.int .i64 y5)) (w.heap.size + 1 + 1) (w.heap.size + 1 + 1 + 1) t _ from (RD6.out.far (p := ⟨w.heap.size + 1, 4, none⟩) (.inl (by simp)) (.int .i64 y5)))
    have KAd := Lib.hid (show Blk (v6.setCell ⟨w.heap.size + 1, 4, none⟩ (.int .i64 y5)) w.heap.size 23 #[.int .i64 0, .int .i64 0, .int .i64 0, .int .i64 0, .int .i64 0, .int .i64 0, .int .i64 0] from (KA6.out.far (p := ⟨w.heap.size + 1, 4, none⟩) (by simp) (.int .i64 y5)))
    have KBd := Lib.hid (show Blk (v6.setCell ⟨w.heap.size + 1, 4, none⟩ (.int .i64 y5)) (w.heap.size + 1) 23 #[.int .i64 x0, .int .i64 x2, .int .i64 x3, .int .i64 x4, .int .i64 y5, .int .i64 0, .int .i64 0] from (KB6.out.put 4 (.int .i64 y5)))
    have BWd := Lib.hid (show Below w.heap.size w (v6.setCell ⟨w.heap.size + 1, 4, none⟩ (.int .i64 y5)) from (BW6.out.setCell (p := ⟨w.heap.size + 1, 4, none⟩) (by simp) (.int .i64 y5)))
    clear RD6 KA6 KB6 BW6
    have hy50 : -2147483648 ≤ y5 ∧ y5 ≤ 2147483647 := by
      rw [HW5.out]; unfold sgn; split <;> omega
    go_wp2_with fail
    refine (rd_num _ _ 16 2 2 t _ RDd.out rfl (by rw [H20.out]; omega)).mono ?_
    rintro e7 v7 ⟨rfl, hrd, hgr⟩
    have RD7 := Lib.hid hrd
    have KA7 := Lib.hid (KAd.out.grown hgr (by omega))
    have KB7 := Lib.hid (KBd.out.grown hgr (by omega))
    have BW7 := Lib.hid (below_grown BWd.out hgr (Nat.le_refl _) (by omega))
    clear hrd hgr RDd KAd KBd BWd
    generalize hx6 : wordAt t 16 2 = x6 at *
    have HX6 := Lib.hid hx6
    clear hx6
    clear k0 k1 k2 k3 k4 k5 k6 f4 hy5
    go_wp2_with fail
    refine (rd_num _ _ 18 2 2 t _ RD7.out rfl (by rw [H20.out]; omega)).mono ?_
    rintro e8 v8 ⟨rfl, hrd, hgr⟩
    have RD8 := Lib.hid hrd
    have KA8 := Lib.hid (KA7.out.grown hgr (by omega))
    have KB8 := Lib.hid (KB7.out.grown hgr (by omega))
    have BW8 := Lib.hid (below_grown BW7.out hgr (Nat.le_refl _) (by omega))
    clear hrd hgr RD7 KA7 KB7 BW7
    generalize hx7 : wordAt t 18 2 = x7 at *
    have HX7 := Lib.hid hx7
    clear hx7
    obtain ⟨k0, k1, k2, k3, k4, k5, k6⟩ := KB8.out.seven
    have f5 := KB8.out.frozen 5
    have f6 := KB8.out.frozen 6
    have RDe := Lib.hid (show Rd ((v8.setCell ⟨w.heap.size + 1, 5, none⟩ (.int .i64 x6)).setCell ⟨w.heap.size + 1, 6, none⟩ (.int .i64 x7)) (w.heap.size + 1 + 1) (w.heap.size + 1 + 1 + 1) t _ from ((RD8.out.far (p := ⟨w.heap.size + 1, 5, none⟩) (.inl (by simp)) (.int .i64 x6)).far (p := ⟨w.heap.size + 1, 6, none⟩) (.inl (by simp)) (.int .i64 x7)))
    have KAe := Lib.hid (show Blk ((v8.setCell ⟨w.heap.size + 1, 5, none⟩ (.int .i64 x6)).setCell ⟨w.heap.size + 1, 6, none⟩ (.int .i64 x7)) w.heap.size 23 #[.int .i64 0, .int .i64 0, .int .i64 0, .int .i64 0, .int .i64 0, .int .i64 0, .int .i64 0] from ((KA8.out.far (p := ⟨w.heap.size + 1, 5, none⟩) (by simp) (.int .i64 x6)).far (p := ⟨w.heap.size + 1, 6, none⟩) (by simp) (.int .i64 x7)))
    have KBe := Lib.hid (show Blk ((v8.setCell ⟨w.heap.size + 1, 5, none⟩ (.int .i64 x6)).setCell ⟨w.heap.size + 1, 6, none⟩ (.int .i64 x7)) (w.heap.size + 1) 23 #[.int .i64 x0, .int .i64 x2, .int .i64 x3, .int .i64 x4, .int .i64 y5, .int .i64 x6, .int .i64 x7] from ((KB8.out.put 5 (.int .i64 x6)).put 6 (.int .i64 x7)))
    have BWe := Lib.hid (show Below w.heap.size w ((v8.setCell ⟨w.heap.size + 1, 5, none⟩ (.int .i64 x6)).setCell ⟨w.heap.size + 1, 6, none⟩ (.int .i64 x7)) from ((BW8.out.setCell (p := ⟨w.heap.size + 1, 5, none⟩) (by simp) (.int .i64 x6)).setCell (p := ⟨w.heap.size + 1, 6, none⟩) (by simp) (.int .i64 x7)))
    clear RD8 KA8 KB8 BW8
    go_wp2_with fail
    refine (mayBe_any ⟨x0, x2, x3, x4, y5, x6, x7⟩ _).mono ?_
    rintro e9 wm ⟨rfl, hbm⟩
    have hsz := BWe.out.size
    have KAm := Lib.hid (KAe.out.below hbm KAe.out.lt)
    have KBm := Lib.hid (KBe.out.below hbm KBe.out.lt)
    have BWm := Lib.hid (BWe.out.trans (hbm.mono hsz))
    have HE := Lib.hid (show headOf l = ⟨x0, x2, x3, x4, y5, x6, x7⟩ by rw [HH.out, ← HW5.out])
    clear hbm hsz RDe KAe KBe BWe k0 k1 k2 k3 k4 k5 k6 f5 f6 HH
    obtain ⟨k0, k1, k2, k3, k4, k5, k6⟩ := KBm.out.seven
    obtain ⟨a0, a1, a2, a3, a4, a5, a6⟩ := KAm.out.seven
    obtain ⟨g0, g1, g2, g3, g4, g5, g6⟩ := KAm.out.sevenF
    cases hh : headB ⟨x0, x2, x3, x4, y5, x6, x7⟩
    · have HOK := Lib.hid (show okHead l = false by unfold okHead; rw [HE.out, hh]; simp)
      go_wp2
      go_step3
      refine ⟨rfl, ?_⟩
      go_wp2
      refine bodyPost_ret (v := .tuple #[.agg #[.int .i64 0, .int .i64 0, .int .i64 0, .int .i64 0, .int .i64 0, .int .i64 0, .int .i64 0], .int .i64 4]) (by simp [results, Try.results20, go_sem, *]) rfl ?_
      rw [← HQ.out, HOK.out]
      exact ⟨rfl, (((((((BWm.out.setCell (by simp) _).setCell (by simp) _).setCell (by simp) _).setCell (by simp) _).setCell (by simp) _).setCell (by simp) _).setCell (by simp) _)⟩
    · have HOK := Lib.hid (show okHead l = true by unfold okHead; rw [HE.out, hh, HL2.out]; rfl)
      go_wp2
      refine bodyPost_ret (v := .tuple #[.agg #[.int .i64 x0, .int .i64 x2, .int .i64 x3, .int .i64 x4, .int .i64 y5, .int .i64 x6, .int .i64 x7], .int .i64 0]) (by simp [results, Try.results20, go_sem, *]) rfl ?_
      rw [← HQ.out, HOK.out, HE.out]
      exact ⟨rfl, (((((((BWm.out.setCell (by simp) _).setCell (by simp) _).setCell (by simp) _).setCell (by simp) _).setCell (by simp) _).setCell (by simp) _).setCell (by simp) _)⟩
  · have HOK := Lib.hid (show okHead l = false by unfold okHead; rw [HL2.out, decide_eq_false hz]; rfl)
    have hd : (x1 != 0) = true := by simp [hz]
    obtain ⟨a0, a1, a2, a3, a4, a5, a6⟩ := KA2.out.seven
    obtain ⟨g0, g1, g2, g3, g4, g5, g6⟩ := KA2.out.sevenF
    clear hz
    go_wp2
    go_step3
    refine ⟨rfl, ?_⟩
    go_wp2
    refine bodyPost_ret (v := .tuple #[.agg #[.int .i64 0, .int .i64 0, .int .i64 0, .int .i64 0, .int .i64 0, .int .i64 0, .int .i64 0], .int .i64 4]) (by simp [results, Try.results20, go_sem, *]) rfl ?_
    rw [← HQ.out, HOK.out]
    exact ⟨rfl, (((((((BW2.out.setCell (by simp) _).setCell (by simp) _).setCell (by simp) _).setCell (by simp) _).setCell (by simp) _).setCell (by simp) _).setCell (by simp) _)⟩
end Go.Proofs.Ytidncajbedgplaa
