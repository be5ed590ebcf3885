/- A reader as a whole: its bytes, and where it stands. Conditions: at most 2^40 bytes. · The call GetHead of package lsa. Conditions: the slice reads as bytes, at most 2^40 of them. · The call members of package lsa: a network's members, read to the end. Conditions: at most 2^20 bytes. · The call link of package lsa: one link, read. Conditions: its twelve bytes are there. · The call links of package lsa: a router's links, read to the end. Conditions: at most 2^20 bytes. -/
import Derived.Test.YtnnkcgbnhjkahaaJae
namespace Go.Proofs.Ytnnkcgbnhjkahaa
open Go.RowKit

/-- The number in the w bytes from place a on. -/
def wordAt (l : List Int) (a w : Nat) : Int := num ((l.drop a).take w)
theorem wordAt_one (l : List Int) (a : Nat) (h : a < l.length) : wordAt l a 1 = l.getD a 0 := by
  unfold wordAt
  have e : (l.drop a).take 1 = [l.getD a 0] := by
    rw [List.drop_eq_getElem_cons h, List.getD_eq_getElem?_getD, List.getElem?_eq_getElem h]; rfl
  rw [e]
  simp [num]
theorem wordAt_bd (l : List Int) (h : Byt l) (a w : Nat) (hw : a + w ≤ l.length) : 0 ≤ wordAt l a w ∧ wordAt l a w < 256 ^ w := by
  have h1 := num_bd (l.drop a) (h.drop a) w (by rw [List.length_drop]; omega)
  exact h1

/-- In block g there is a reader of the bytes l, at place a, without an error; its bytes lie in a block from base on. -/
def Rd (w : World) (base g : Nat) (l : List Int) (a : Nat) : Prop :=
  ∃ d c, Blk w g 144 #[.slice (some ⟨d, 0, none⟩) l.length c, .int .i64 a, .int .i64 0] ∧ Row .u8 w (d + 1) (some ⟨d, 0, none⟩) l.length l ∧ base ≤ d ∧ d < g ∧ l.length ≤ c ∧ c ≤ maxLen ∧ a ≤ l.length ∧ Byt l
section
variable {w w' : World} {base b g a : Nat} {l : List Int}
theorem Rd.lt (h : Rd w base g l a) : g < w.heap.size ∧ base ≤ g := by
  obtain ⟨d, c, h1, _, h3, h4, _⟩ := h
  exact ⟨h1.lt, by omega⟩
theorem Rd.below (h : Rd w base g l a) (hb : Below b w w') (hg : g < b) : Rd w' base g l a := by
  obtain ⟨d, c, h1, h2, h3, h4, h5⟩ := h
  exact ⟨d, c, h1.below hb hg, h2.below (hb.mono (by omega)), h3, h4, h5⟩
theorem Rd.alloc (h : Rd w base g l a) (o : Obj) : Rd (w.alloc o) base g l a := h.below ((Below.refl _ _).alloc (Nat.le_refl _) o) h.lt.1
theorem Rd.far (h : Rd w base g l a) {p : Addr} (hp : p.block < base ∨ g < p.block) (u : Value) : Rd (w.setCell p u) base g l a := by
  obtain ⟨d, c, h1, h2, h3, h4, h5⟩ := h
  refine ⟨d, c, h1.far (by omega) u, h2.far ?_ u, h3, h4, h5⟩
  intro b o e
  injection e with e
  injection e with e
  omega
theorem Rd.lower (h : Rd w base g l a) (hb : b ≤ base) : Rd w b g l a := by
  obtain ⟨d, c, h1, h2, h3, h4⟩ := h
  exact ⟨d, c, h1, h2, by omega, h4⟩
end
theorem grown_of_below {w w1 : World} (h : Below w.heap.size w w1) (r : Option Nat) : w.grownBy w1 r := ⟨h.os, h.tape, h.output, h.size, fun k hk _ => h.block k hk⟩
theorem Blk.grown {w w1 : World} {g x : Nat} {t : TypeId} {cs : Array Value} (h : Blk w x t cs) (hg : w.grownBy w1 (some g)) (hne : x ≠ g) : Blk w1 x t cs :=
  (hg.block x h.lt (fun e => by injection e with e; exact hne e)).trans h
theorem below_grown {b g : Nat} {w w1 w2 : World} (h : Below b w w1) (hg : w1.grownBy w2 (some g)) (hs : b ≤ w.heap.size) (hb : b ≤ g) : Below b w w2 :=
  h.grown hg (Nat.le_trans hs h.size) (fun k hk => by injection hk with hk; omega)

theorem rd_read (A : Option Addr) (n c B : Nat) (l : List Int) (w : World) (hr : Row .u8 w B A n l) (hby : Byt l) (hB : B ≤ w.heap.size) (hn : n ≤ 1099511627776) :
    Calls Try.prog 93 #[.slice A n c] w fun x w' => x = .returned (.pointer (some ⟨w.heap.size + 1, 0, none⟩)) ∧ Below w.heap.size w w' ∧ Rd w' w.heap.size (w.heap.size + 1) l 0 := by
  refine (read_any A n c B l w hr hB hn).mono ?_
  rintro x w' ⟨rfl, h1, h2, h3⟩
  exact ⟨rfl, h1, w.heap.size, l.length, h3, h2, Nat.le_refl _, by omega, Nat.le_refl _, by have := hr.1; unfold maxLen; omega, Nat.zero_le _, hby⟩
/-- What Num answers, and leaves, where the bytes are there. -/
theorem rd_num (base g a m : Nat) (k : Int) (l : List Int) (w : World) (h : Rd w base g l a) (hm : (hold k).toNat = m) (ha : a + m ≤ l.length) :
    Calls Try.prog 94 #[.pointer (some ⟨g, 0, none⟩), .int .i64 k] w fun x w' => x = .returned (.int .i64 (wordAt l a m)) ∧ Rd w' base g l (a + m) ∧ w.grownBy w' (some g) := by
  obtain ⟨d, c, h1, h2, h3, h4, h5, h6, h7, h8⟩ := h
  have hk := hold_lo k
  refine (num_ok g (some ⟨d, 0, none⟩) l.length c (d + 1) a k l w h1 (by omega) (by omega) h5 h6 (by omega) h2 h8 (by omega)).mono ?_
  rintro x w' ⟨rfl, d', rfl⟩
  have hs := step_at h1 ((a : Int) + hold k) d'
  have e : (a : Int) + hold k = ((a + m : Nat) : Int) := by omega
  rw [e] at hs ⊢
  refine ⟨by rw [hm]; rfl, ⟨d, c, hs.2, ?_, h3, h4, h5, h6, ha, h8⟩, hs.1⟩
  refine h2.keep fun p hp => World.cell?_of_block (hs.1.block p.block ?_ ?_)
  · have := h1.lt; omega
  · intro q; injection q with q; omega
end Go.Proofs.Ytnnkcgbnhjkahaa
namespace Go.Proofs.Ytnnkcgbnhjkahaa
open Go.RowKit

/-- A number of 32 bits that goes round below 0. -/
def sgn (n : Int) : Int := if 2147483648 ≤ n then n - 4294967296 else n
theorem sgn_wrap (n : Int) (h0 : 0 ≤ n) (h1 : n < 4294967296) : IntKind.i32.wrap n = sgn n := by
  unfold sgn
  rw [IntKind.wrap_i32]
  split <;> omega
/-- The head that twenty bytes tell. -/
def headOf (l : List Int) : Hd := ⟨wordAt l 0 2, wordAt l 3 1, wordAt l 4 4, wordAt l 8 4, sgn (wordAt l 12 4), wordAt l 16 2, wordAt l 18 2⟩
def zeroHd : Hd := ⟨0, 0, 0, 0, 0, 0, 0⟩
/-- Is the head that bytes tell formed as told? -/
def okHead (l : List Int) : Bool := decide (l.getD 2 0 = 0) && headB (headOf l)
/-- What GetHead answers. -/
def GotH (w : World) (h : Hd) (e : Int) (x : Ending) (w' : World) : Prop :=
  x = .returned (.tuple #[.agg #[.int .i64 h.age, .int .i64 h.kind, .int .i64 h.id, .int .i64 h.adv, .int .i64 h.seq, .int .i64 h.sum, .int .i64 h.long], .int .i64 e]) ∧ Below w.heap.size w w'

theorem Blk.sevenF {w : World} {g : Nat} {t : TypeId} {cs : Array Value} (h : Blk w g t cs) :
    w.frozen? ⟨g, 0, none⟩ = false ∧ w.frozen? ⟨g, 1, none⟩ = false ∧ w.frozen? ⟨g, 2, none⟩ = false ∧ w.frozen? ⟨g, 3, none⟩ = false ∧ w.frozen? ⟨g, 4, none⟩ = false ∧ w.frozen? ⟨g, 5, none⟩ = false ∧ w.frozen? ⟨g, 6, none⟩ = false :=
  ⟨h.frozen 0, h.frozen 1, h.frozen 2, h.frozen 3, h.frozen 4, h.frozen 5, h.frozen 6⟩
theorem wordAt_take (l : List Int) (k a m : Nat) (h : a + m ≤ k) : wordAt (l.take k) a m = wordAt l a m := by
  unfold wordAt
  rw [List.drop_take, List.take_take, Nat.min_eq_left (by omega)]

set_option maxRecDepth 4000 in
set_option maxHeartbeats 8000000 in
theorem getHead_long (A : Option Addr) (n c B : Nat) (l : List Int) (w : World) (hr : Row .u8 w B A n l) (hby : Byt l) (hB : B ≤ w.heap.size) (hn : 20 ≤ n) (hnc : n ≤ c) (hc : c ≤ maxLen) :
    Calls Try.prog 69 #[.slice A n c] w (GotH w (if okHead l = true then headOf l else zeroHd) (if okHead l = true then 0 else 4)) := by
  generalize hQ : GotH w (if okHead l = true then headOf l else zeroHd) (if okHead l = true then 0 else 4) = Q
  have HQ := Lib.hid hQ
  have HY := Lib.hid hby
  have hlen := hr.1
  have h20 : (l.take 20).length = 20 := by simp; omega
  have H20 := Lib.hid h20
  unfold maxLen at hc
  obtain ⟨b0, o0, rfl, hb0, -⟩ := hr.2 (by omega)
  have HRr := Lib.hid (hr.head 20 hn)
  have HL2 := Lib.hid (show l.getD 2 0 = wordAt (l.take 20) 2 1 by rw [wordAt_take _ _ _ _ (by omega), wordAt_one l 2 (by omega)])
  have HH := Lib.hid (show headOf l = ⟨wordAt (l.take 20) 0 2, wordAt (l.take 20) 3 1, wordAt (l.take 20) 4 4, wordAt (l.take 20) 8 4, sgn (wordAt (l.take 20) 12 4), wordAt (l.take 20) 16 2, wordAt (l.take 20) 18 2⟩ by
    rw [wordAt_take _ _ _ _ (by omega), wordAt_take _ _ _ _ (by omega), wordAt_take _ _ _ _ (by omega), wordAt_take _ _ _ _ (by omega), wordAt_take _ _ _ _ (by omega), wordAt_take _ _ _ _ (by omega), wordAt_take _ _ _ _ (by omega)]
    rfl)
  have HS := Lib.hid (wordAt_bd (l.take 20) (hby.take 20) 12 4 (by rw [h20]; omega))
  have HYT := Lib.hid (hby.take 20)
  generalize l.take 20 = t at *
  clear hQ hr hby hlen h20
  have KA := Lib.hid ((Blk.new w 38 #[.int .i64 0, .int .i64 0, .int .i64 0, .int .i64 0, .int .i64 0, .int .i64 0, .int .i64 0]).alloc (.cells #[.int .i64 0, .int .i64 0, .int .i64 0, .int .i64 0, .int .i64 0, .int .i64 0, .int .i64 0] 38))
  have KB := Lib.hid (Blk.new (w.alloc (.cells #[.int .i64 0, .int .i64 0, .int .i64 0, .int .i64 0, .int .i64 0, .int .i64 0, .int .i64 0] 38)) 38 #[.int .i64 0, .int .i64 0, .int .i64 0, .int .i64 0, .int .i64 0, .int .i64 0, .int .i64 0])
  have BW := Lib.hid (((Below.refl w.heap.size w).alloc (Nat.le_refl _) (.cells #[.int .i64 0, .int .i64 0, .int .i64 0, .int .i64 0, .int .i64 0, .int .i64 0, .int .i64 0] 38)).alloc (by simp) (.cells #[.int .i64 0, .int .i64 0, .int .i64 0, .int .i64 0, .int .i64 0, .int .i64 0, .int .i64 0] 38))
  have HRw := Lib.hid ((HRr.out.alloc hB (.cells #[.int .i64 0, .int .i64 0, .int .i64 0, .int .i64 0, .int .i64 0, .int .i64 0, .int .i64 0] 38)).alloc (by simp; omega) (.cells #[.int .i64 0, .int .i64 0, .int .i64 0, .int .i64 0, .int .i64 0, .int .i64 0, .int .i64 0] 38))
  go_enter Try.func69, Try.ntmps69
  go_wp2
  refine scope_fwd 0 rfl ?_
  go_wp2_with fail
  refine (rd_read _ 20 c B t _ HRw.out HYT.out (by simp; omega) (by omega)).mono ?_
  rintro e0 w0 ⟨rfl, hb0', hrd⟩
  have KA0 := Lib.hid (KA.out.below hb0' (by simp; omega))
  have kb := KB.out.below hb0' (by simp)
  rw [World.size_alloc] at kb
  have KB0 := Lib.hid kb
  have BW0 := Lib.hid (BW.out.trans (hb0'.mono (by simp; omega)))
  simp only [World.size_alloc] at hrd
  have RD0 := Lib.hid hrd
  simp only [World.size_alloc]
  clear hb0' hrd KA KB BW HRw HRr kb
  go_wp2_with fail
  refine (rd_num _ _ 0 2 2 t _ RD0.out rfl (by rw [H20.out]; omega)).mono ?_
  rintro e1 v1 ⟨rfl, hrd, hgr⟩
  have RD1 := Lib.hid hrd
  have KA1 := Lib.hid (KA0.out.grown hgr (by omega))
  have KB1 := Lib.hid (KB0.out.grown hgr (by omega))
  have BW1 := Lib.hid (below_grown BW0.out hgr (Nat.le_refl _) (by omega))
  clear hrd hgr RD0 KA0 KB0 BW0
  generalize hx0 : wordAt t 0 2 = x0 at *
  have HX0 := Lib.hid hx0
  clear hx0
  obtain ⟨k0, k1, k2, k3, k4, k5, k6⟩ := KB1.out.seven
  have f0 := KB1.out.frozen 0
  have RDa := Lib.hid (show Rd (v1.setCell ⟨w.heap.size + 1, 0, none⟩ (.int .i64 x0)) (w.heap.size + 1 + 1) (w.heap.size + 1 + 1 + 1) t _ from (RD1.out.far (p := ⟨w.heap.size + 1, 0, none⟩) (.inl (by simp)) (.int .i64 x0)))
  have KAa := Lib.hid (show Blk (v1.setCell ⟨w.heap.size + 1, 0, none⟩ (.int .i64 x0)) w.heap.size 38 #[.int .i64 0, .int .i64 0, .int .i64 0, .int .i64 0, .int .i64 0, .int .i64 0, .int .i64 0] from (KA1.out.far (p := ⟨w.heap.size + 1, 0, none⟩) (by simp) (.int .i64 x0)))
  have KBa := Lib.hid (show Blk (v1.setCell ⟨w.heap.size + 1, 0, none⟩ (.int .i64 x0)) (w.heap.size + 1) 38 #[.int .i64 x0, .int .i64 0, .int .i64 0, .int .i64 0, .int .i64 0, .int .i64 0, .int .i64 0] from (KB1.out.put 0 (.int .i64 x0)))
  have BWa := Lib.hid (show Below w.heap.size w (v1.setCell ⟨w.heap.size + 1, 0, none⟩ (.int .i64 x0)) from (BW1.out.setCell (p := ⟨w.heap.size + 1, 0, none⟩) (by simp) (.int .i64 x0)))
  clear RD1 KA1 KB1 BW1
  go_wp2_with fail
  refine (rd_num _ _ 2 1 1 t _ RDa.out rfl (by rw [H20.out]; omega)).mono ?_
  rintro e2 v2 ⟨rfl, hrd, hgr⟩
  have RD2 := Lib.hid hrd
  have KA2 := Lib.hid (KAa.out.grown hgr (by omega))
  have KB2 := Lib.hid (KBa.out.grown hgr (by omega))
  have BW2 := Lib.hid (below_grown BWa.out hgr (Nat.le_refl _) (by omega))
  clear hrd hgr RDa KAa KBa BWa
  generalize hx1 : wordAt t 2 1 = x1 at *
  have HX1 := Lib.hid hx1
  clear hx1
  clear k0 k1 k2 k3 k4 k5 k6 f0
  by_cases hz : x1 = 0
  · subst hz
    go_wp2_with fail
    refine (rd_num _ _ 3 1 1 t _ RD2.out rfl (by rw [H20.out]; omega)).mono ?_
    rintro e3 v3 ⟨rfl, hrd, hgr⟩
    have RD3 := Lib.hid hrd
    have KA3 := Lib.hid (KA2.out.grown hgr (by omega))
    have KB3 := Lib.hid (KB2.out.grown hgr (by omega))
    have BW3 := Lib.hid (below_grown BW2.out hgr (Nat.le_refl _) (by omega))
    clear hrd hgr RD2 KA2 KB2 BW2
    generalize hx2 : wordAt t 3 1 = x2 at *
    have HX2 := Lib.hid hx2
    clear hx2
    obtain ⟨k0, k1, k2, k3, k4, k5, k6⟩ := KB3.out.seven
    have f1 := KB3.out.frozen 1
    have RDb := Lib.hid (show Rd (v3.setCell ⟨w.heap.size + 1, 1, none⟩ (.int .i64 x2)) (w.heap.size + 1 + 1) (w.heap.size + 1 + 1 + 1) t _ from (RD3.out.far (p := ⟨w.heap.size + 1, 1, none⟩) (.inl (by simp)) (.int .i64 x2)))
    have KAb := Lib.hid (show Blk (v3.setCell ⟨w.heap.size + 1, 1, none⟩ (.int .i64 x2)) w.heap.size 38 #[.int .i64 0, .int .i64 0, .int .i64 0, .int .i64 0, .int .i64 0, .int .i64 0, .int .i64 0] from (KA3.out.far (p := ⟨w.heap.size + 1, 1, none⟩) (by simp) (.int .i64 x2)))
    have KBb := Lib.hid (show Blk (v3.setCell ⟨w.heap.size + 1, 1, none⟩ (.int .i64 x2)) (w.heap.size + 1) 38 #[.int .i64 x0, .int .i64 x2, .int .i64 0, .int .i64 0, .int .i64 0, .int .i64 0, .int .i64 0] from (KB3.out.put 1 (.int .i64 x2)))
    have BWb := Lib.hid (show Below w.heap.size w (v3.setCell ⟨w.heap.size + 1, 1, none⟩ (.int .i64 x2)) from (BW3.out.setCell (p := ⟨w.heap.size + 1, 1, none⟩) (by simp) (.int .i64 x2)))
    clear RD3 KA3 KB3 BW3
    go_wp2_with fail
    refine (rd_num _ _ 4 4 4 t _ RDb.out rfl (by rw [H20.out]; omega)).mono ?_
    rintro e4 v4 ⟨rfl, hrd, hgr⟩
    have RD4 := Lib.hid hrd
    have KA4 := Lib.hid (KAb.out.grown hgr (by omega))
    have KB4 := Lib.hid (KBb.out.grown hgr (by omega))
    have BW4 := Lib.hid (below_grown BWb.out hgr (Nat.le_refl _) (by omega))
    clear hrd hgr RDb KAb KBb BWb
    generalize hx3 : wordAt t 4 4 = x3 at *
    have HX3 := Lib.hid hx3
    clear hx3
    clear k0 k1 k2 k3 k4 k5 k6 f1
    go_wp2_with fail
    refine (rd_num _ _ 8 4 4 t _ RD4.out rfl (by rw [H20.out]; omega)).mono ?_
    rintro e5 v5 ⟨rfl, hrd, hgr⟩
    have RD5 := Lib.hid hrd
    have KA5 := Lib.hid (KA4.out.grown hgr (by omega))
    have KB5 := Lib.hid (KB4.out.grown hgr (by omega))
    have BW5 := Lib.hid (below_grown BW4.out hgr (Nat.le_refl _) (by omega))
    clear hrd hgr RD4 KA4 KB4 BW4
    generalize hx4 : wordAt t 8 4 = x4 at *
    have HX4 := Lib.hid hx4
    clear hx4
    obtain ⟨k0, k1, k2, k3, k4, k5, k6⟩ := KB5.out.seven
    have f2 := KB5.out.frozen 2
    have f3 := KB5.out.frozen 3
    have RDc := Lib.hid (show Rd ((v5.setCell ⟨w.heap.size + 1, 2, none⟩ (.int .i64 x3)).setCell ⟨w.heap.size + 1, 3, none⟩ (.int .i64 x4)) (w.heap.size + 1 + 1) (w.heap.size + 1 + 1 + 1) t _ from ((RD5.out.far (p := ⟨w.heap.size + 1, 2, none⟩) (.inl (by simp)) (.int .i64 x3)).far (p := ⟨w.heap.size + 1, 3, none⟩) (.inl (by simp)) (.int .i64 x4)))
    have KAc := Lib.hid (show Blk ((v5.setCell ⟨w.heap.size + 1, 2, none⟩ (.int .i64 x3)).setCell ⟨w.heap.size + 1, 3, none⟩ (.int .i64 x4)) w.heap.size 38 #[.int .i64 0, .int .i64 0, .int .i64 0, .int .i64 0, .int .i64 0, .int .i64 0, .int .i64 0] from ((KA5.out.far (p := ⟨w.heap.size + 1, 2, none⟩) (by simp) (.int .i64 x3)).far (p := ⟨w.heap.size + 1, 3, none⟩) (by simp) (.int .i64 x4)))
    have KBc := Lib.hid (show Blk ((v5.setCell ⟨w.heap.size + 1, 2, none⟩ (.int .i64 x3)).setCell ⟨w.heap.size + 1, 3, none⟩ (.int .i64 x4)) (w.heap.size + 1) 38 #[.int .i64 x0, .int .i64 x2, .int .i64 x3, .int .i64 x4, .int .i64 0, .int .i64 0, .int .i64 0] from ((KB5.out.put 2 (.int .i64 x3)).put 3 (.int .i64 x4)))
    have BWc := Lib.hid (show Below w.heap.size w ((v5.setCell ⟨w.heap.size + 1, 2, none⟩ (.int .i64 x3)).setCell ⟨w.heap.size + 1, 3, none⟩ (.int .i64 x4)) from ((BW5.out.setCell (p := ⟨w.heap.size + 1, 2, none⟩) (by simp) (.int .i64 x3)).setCell (p := ⟨w.heap.size + 1, 3, none⟩) (by simp) (.int .i64 x4)))
    clear RD5 KA5 KB5 BW5
    go_wp2_with fail
    refine (rd_num _ _ 12 4 4 t _ RDc.out rfl (by rw [H20.out]; omega)).mono ?_
    rintro e6 v6 ⟨rfl, hrd, hgr⟩
    have RD6 := Lib.hid hrd
    have KA6 := Lib.hid (KAc.out.grown hgr (by omega))
    have KB6 := Lib.hid (KBc.out.grown hgr (by omega))
    have BW6 := Lib.hid (below_grown BWc.out hgr (Nat.le_refl _) (by omega))
    clear hrd hgr RDc KAc KBc BWc
    generalize hx5 : wordAt t 12 4 = x5 at *
    have HX5 := Lib.hid hx5
    clear hx5
    clear k0 k1 k2 k3 k4 k5 k6 f2 f3
    have hx50 := HS.out.1
    have hx51 : x5 < 4294967296 := HS.out.2
    have hw5 := sgn_wrap x5 hx50 hx51
    have HW5 := Lib.hid hw5
    generalize hy5 : IntKind.i32.wrap x5 = y5 at *
    have HY5 := Lib.hid hy5
    clear hw5
    obtain ⟨k0, k1, k2, k3, k4, k5, k6⟩ := KB6.out.seven
    have f4 := KB6.out.frozen 4
    have RDd := Lib.hid (show Rd (v6.setCell ⟨w.heap.size + 1, 4, none⟩ (.int .i64 y5)) (w.heap.size + 1 + 1) (w.heap.size + 1 + 1 + 1) t _ from (RD6.out.far (p := ⟨w.heap.size + 1, 4, none⟩) (.inl (by simp)) (.int .i64 y5)))
    have KAd := Lib.hid (show Blk (v6.setCell ⟨w.heap.size + 1, 4, none⟩ (.int .i64 y5)) w.heap.size 38 #[.int .i64 0, .int .i64 0, .int .i64 0, .int .i64 0, .int .i64 0, .int .i64 0, .int .i64 0] from (KA6.out.far (p := ⟨w.heap.size + 1, 4, none⟩) (by simp) (.int .i64 y5)))
    have KBd := Lib.hid (show Blk (v6.setCell ⟨w.heap.size + 1, 4, none⟩ (.int .i64 y5)) (w.heap.size + 1) 38 #[.int .i64 x0, .int .i64 x2, .int .i64 x3, .int .i64 x4, .int .i64 y5, .int .i64 0, .int .i64 0] from (KB6.out.put 4 (.int .i64 y5)))
    have BWd := Lib.hid (show Below w.heap.size w (v6.setCell ⟨w.heap.size + 1, 4, none⟩ (.int .i64 y5)) from (BW6.out.setCell (p := ⟨w.heap.size + 1, 4, none⟩) (by simp) (.int .i64 y5)))
    clear RD6 KA6 KB6 BW6
    have hy50 : -2147483648 ≤ y5 ∧ y5 ≤ 2147483647 := by
      rw [HW5.out]; unfold sgn; split <;> omega
    go_wp2_with fail
    refine (rd_num _ _ 16 2 2 t _ RDd.out rfl (by rw [H20.out]; omega)).mono ?_
    rintro e7 v7 ⟨rfl, hrd, hgr⟩
    have RD7 := Lib.hid hrd
    have KA7 := Lib.hid (KAd.out.grown hgr (by omega))
    have KB7 := Lib.hid (KBd.out.grown hgr (by omega))
    have BW7 := Lib.hid (below_grown BWd.out hgr (Nat.le_refl _) (by omega))
    clear hrd hgr RDd KAd KBd BWd
    generalize hx6 : wordAt t 16 2 = x6 at *
    have HX6 := Lib.hid hx6
    clear hx6
    clear k0 k1 k2 k3 k4 k5 k6 f4 hy5
    go_wp2_with fail
    refine (rd_num _ _ 18 2 2 t _ RD7.out rfl (by rw [H20.out]; omega)).mono ?_
    rintro e8 v8 ⟨rfl, hrd, hgr⟩
    have RD8 := Lib.hid hrd
    have KA8 := Lib.hid (KA7.out.grown hgr (by omega))
    have KB8 := Lib.hid (KB7.out.grown hgr (by omega))
    have BW8 := Lib.hid (below_grown BW7.out hgr (Nat.le_refl _) (by omega))
    clear hrd hgr RD7 KA7 KB7 BW7
    generalize hx7 : wordAt t 18 2 = x7 at *
    have HX7 := Lib.hid hx7
    clear hx7
    obtain ⟨k0, k1, k2, k3, k4, k5, k6⟩ := KB8.out.seven
    have f5 := KB8.out.frozen 5
    have f6 := KB8.out.frozen 6
    have RDe := Lib.hid (show Rd ((v8.setCell ⟨w.heap.size + 1, 5, none⟩ (.int .i64 x6)).setCell ⟨w.heap.size + 1, 6, none⟩ (.int .i64 x7)) (w.heap.size + 1 + 1) (w.heap.size + 1 + 1 + 1) t _ from ((RD8.out.far (p := ⟨w.heap.size + 1, 5, none⟩) (.inl (by simp)) (.int .i64 x6)).far (p := ⟨w.heap.size + 1, 6, none⟩) (.inl (by simp)) (.int .i64 x7)))
    have KAe := Lib.hid (show Blk ((v8.setCell ⟨w.heap.size + 1, 5, none⟩ (.int .i64 x6)).setCell ⟨w.heap.size + 1, 6, none⟩ (.int .i64 x7)) w.heap.size 38 #[.int .i64 0, .int .i64 0, .int .i64 0, .int .i64 0, .int .i64 0, .int .i64 0, .int .i64 0] from ((KA8.out.far (p := ⟨w.heap.size + 1, 5, none⟩) (by simp) (.int .i64 x6)).far (p := ⟨w.heap.size + 1, 6, none⟩) (by simp) (.int .i64 x7)))
    have KBe := Lib.hid (show Blk ((v8.setCell ⟨w.heap.size + 1, 5, none⟩ (.int .i64 x6)).setCell ⟨w.heap.size + 1, 6, none⟩ (.int .i64 x7)) (w.heap.size + 1) 38 #[.int .i64 x0, .int .i64 x2, .int .i64 x3, .int .i64 x4, .int .i64 y5, .int .i64 x6, .int .i64 x7] from ((KB8.out.put 5 (.int .i64 x6)).put 6 (.int .i64 x7)))
    have BWe := Lib.hid (show Below w.heap.size w ((v8.setCell ⟨w.heap.size + 1, 5, none⟩ (.int .i64 x6)).setCell ⟨w.heap.size + 1, 6, none⟩ (.int .i64 x7)) from ((BW8.out.setCell (p := ⟨w.heap.size + 1, 5, none⟩) (by simp) (.int .i64 x6)).setCell (p := ⟨w.heap.size + 1, 6, none⟩) (by simp) (.int .i64 x7)))
    clear RD8 KA8 KB8 BW8
    go_wp2_with fail
    refine (mayBe_any ⟨x0, x2, x3, x4, y5, x6, x7⟩ _).mono ?_
    rintro e9 wm ⟨rfl, hbm⟩
    have hsz := BWe.out.size
    have KAm := Lib.hid (KAe.out.below hbm KAe.out.lt)
    have KBm := Lib.hid (KBe.out.below hbm KBe.out.lt)
    have BWm := Lib.hid (BWe.out.trans (hbm.mono hsz))
    have HE := Lib.hid (show headOf l = ⟨x0, x2, x3, x4, y5, x6, x7⟩ by rw [HH.out, ← HW5.out])
    clear hbm hsz RDe KAe KBe BWe k0 k1 k2 k3 k4 k5 k6 f5 f6 HH
    obtain ⟨k0, k1, k2, k3, k4, k5, k6⟩ := KBm.out.seven
    obtain ⟨a0, a1, a2, a3, a4, a5, a6⟩ := KAm.out.seven
    obtain ⟨g0, g1, g2, g3, g4, g5, g6⟩ := KAm.out.sevenF
    cases hh : headB ⟨x0, x2, x3, x4, y5, x6, x7⟩
    · have HOK := Lib.hid (show okHead l = false by unfold okHead; rw [HE.out, hh]; simp)
      go_wp2
      go_step3
      refine ⟨rfl, ?_⟩
      go_wp2
      refine bodyPost_ret (v := .tuple #[.agg #[.int .i64 0, .int .i64 0, .int .i64 0, .int .i64 0, .int .i64 0, .int .i64 0, .int .i64 0], .int .i64 4]) (by simp [results, Try.results69, go_sem, *]) rfl ?_
      rw [← HQ.out, HOK.out]
      exact ⟨rfl, (((((((BWm.out.setCell (by simp) _).setCell (by simp) _).setCell (by simp) _).setCell (by simp) _).setCell (by simp) _).setCell (by simp) _).setCell (by simp) _)⟩
    · have HOK := Lib.hid (show okHead l = true by unfold okHead; rw [HE.out, hh, HL2.out]; rfl)
      go_wp2
      refine bodyPost_ret (v := .tuple #[.agg #[.int .i64 x0, .int .i64 x2, .int .i64 x3, .int .i64 x4, .int .i64 y5, .int .i64 x6, .int .i64 x7], .int .i64 0]) (by simp [results, Try.results69, go_sem, *]) rfl ?_
      rw [← HQ.out, HOK.out, HE.out]
      exact ⟨rfl, (((((((BWm.out.setCell (by simp) _).setCell (by simp) _).setCell (by simp) _).setCell (by simp) _).setCell (by simp) _).setCell (by simp) _).setCell (by simp) _)⟩
  · have HOK := Lib.hid (show okHead l = false by unfold okHead; rw [HL2.out, decide_eq_false hz]; rfl)
    have hd : (x1 != 0) = true := by simp [hz]
    obtain ⟨a0, a1, a2, a3, a4, a5, a6⟩ := KA2.out.seven
    obtain ⟨g0, g1, g2, g3, g4, g5, g6⟩ := KA2.out.sevenF
    clear hz
    go_wp2
    go_step3
    refine ⟨rfl, ?_⟩
    go_wp2
    refine bodyPost_ret (v := .tuple #[.agg #[.int .i64 0, .int .i64 0, .int .i64 0, .int .i64 0, .int .i64 0, .int .i64 0, .int .i64 0], .int .i64 4]) (by simp [results, Try.results69, go_sem, *]) rfl ?_
    rw [← HQ.out, HOK.out]
    exact ⟨rfl, (((((((BW2.out.setCell (by simp) _).setCell (by simp) _).setCell (by simp) _).setCell (by simp) _).setCell (by simp) _).setCell (by simp) _).setCell (by simp) _)⟩
end Go.Proofs.Ytnnkcgbnhjkahaa
namespace Go.Proofs.Ytnnkcgbnhjkahaa
open Go.RowKit

theorem Try.info3 : (Try.prog.info? 3).map (fun i => (i.zero, i.size, i.bytes)) = some (some (.int .i64 0), 1, 8) := by kernel_rfl
theorem Try.info53 : (Try.prog.info? 96).map (fun i => (i.zero, i.size, i.bytes)) = some (some (.agg #[.int .i64 0, .int .i64 0, .int .i64 0, .int .i64 0]), 4, 32) := by kernel_rfl

/-- The first k words of four bytes. -/
def words (l : List Int) (k : Nat) : List Int := (List.range k).map fun j => wordAt l (4 * j) 4
theorem own_grown {w w' : World} {base g : Nat} {t : TypeId} {size n : Nat} {v : Value} {xs : List Value} (h : w.ownsRow base t size v n xs) (hg : w.grownBy w' (some g)) (hb : g < base) : w'.ownsRow base t size v n xs :=
  h.kept hg (by
    cases hv : v.ownBlock with
    | none => exact .inl rfl
    | some k =>
      refine .inr fun e => ?_
      injection e with e
      have := (h.lt k hv).1
      omega)
end Go.Proofs.Ytnnkcgbnhjkahaa
namespace Go.Proofs.Ytnnkcgbnhjkahaa
open Go.RowKit

/-- The cells of links, one behind the other. -/
def lkCells : List Lk → List Value
  | [] => []
  | k :: l => .int .i64 k.kind :: .int .i64 k.id :: .int .i64 k.data :: .int .i64 k.cost :: lkCells l
theorem lkCells_get (l : List Lk) (j : Nat) (h : j < l.length) : (lkCells l)[j * 4]? = some (.int .i64 (l.getD j ⟨0, 0, 0, 0⟩).kind) ∧ (lkCells l)[j * 4 + 1]? = some (.int .i64 (l.getD j ⟨0, 0, 0, 0⟩).id) ∧ (lkCells l)[j * 4 + 2]? = some (.int .i64 (l.getD j ⟨0, 0, 0, 0⟩).data) ∧ (lkCells l)[j * 4 + 3]? = some (.int .i64 (l.getD j ⟨0, 0, 0, 0⟩).cost) := by
  induction l generalizing j with
  | nil => simp at h
  | cons x l ih =>
    cases j with
    | zero => simp [lkCells]
    | succ j =>
      have := ih j (by simpa using h)
      rw [show (j + 1) * 4 = j * 4 + 4 from by omega]
      simpa [lkCells] using this
/-- A row of links of the call's own reads as links. -/
theorem lnk_of_own {w : World} {base n : Nat} {v : Value} {L : List Lk} (h : w.ownsRow base 96 4 v n (lkCells L)) (hn : L.length = n) : ∃ A c, v = .slice A n c ∧ n ≤ c ∧ c ≤ maxLen ∧ Lnk w w.heap.size A n L := by
  rcases h.2 with ⟨rfl, rfl⟩ | ⟨g, cap, cur, rfl, hg, hh, hc, hm, hs, ht⟩
  · have : L = [] := List.eq_nil_of_length_eq_zero hn
    subst this
    exact ⟨_, _, rfl, Nat.le_refl _, by unfold maxLen; omega, Lnk.nil⟩
  · refine ⟨_, _, rfl, hc, hm, hn, fun _ => ⟨g, 0, rfl, Blk.lt hh, fun j hj => ?_⟩⟩
    have hcell : ∀ (p : Nat) (u : Value), (lkCells L)[p]? = some u → w.cell? ⟨g, 0 + p, none⟩ = some u := by
      intro p u hu
      have h1 := h.cells (g := g) rfl p u hu
      have e : (⟨g, 0, none⟩ : Addr).add p = ⟨g, 0 + p, none⟩ := by
        unfold Addr.add
        split <;> simp_all
      rwa [e] at h1
    obtain ⟨h0, h1, h2, h3⟩ := lkCells_get L j (by omega)
    exact ⟨hcell _ _ h0, hcell _ _ h1, hcell _ _ h2, hcell _ _ h3⟩
theorem row_of_ints {w : World} {base n : Nat} {v : Value} {M : List Int} (h : w.ownsRow base 3 1 v n (M.map (Value.int .i64))) (hn : M.length = n) : ∃ A c, v = .slice A n c ∧ n ≤ c ∧ c ≤ maxLen ∧ Row .i64 w w.heap.size A n M := by
  rcases h.2 with ⟨rfl, rfl⟩ | ⟨g, cap, cur, rfl, hg, hh, hc, hm, hs, ht⟩
  · have : M = [] := List.eq_nil_of_length_eq_zero hn
    subst this
    exact ⟨_, _, rfl, Nat.le_refl _, by unfold maxLen; omega, Row.nil⟩
  · refine ⟨_, _, rfl, hc, hm, hn, fun _ => ⟨g, 0, rfl, Blk.lt hh, fun j hj => ?_⟩⟩
    have hc := h.cells (g := g) rfl j (.int .i64 (M.getD j 0)) (by rw [List.getElem?_map, List.getD_eq_getElem?_getD, List.getElem?_eq_getElem (by omega)]; rfl)
    have e : (⟨g, 0, none⟩ : Addr).add j = ⟨g, 0 + j, none⟩ := by
      unfold Addr.add
      split <;> simp_all
    rw [e] at hc
    exact hc
end Go.Proofs.Ytnnkcgbnhjkahaa
namespace Go.Proofs.Ytnnkcgbnhjkahaa
open Go.RowKit

/-- How many links there is room for. -/
def many (l : List Int) : Nat := (l.length - 4) / 12
theorem blk_new1 (w : World) (o : Obj) (t : TypeId) (cs : Array Value) : Blk ((w.alloc o).alloc (.cells cs t)) (w.heap.size + 1) t cs := by
  have := Blk.new (w.alloc o) t cs
  rwa [World.size_alloc] at this
end Go.Proofs.Ytnnkcgbnhjkahaa
