/- The methods ack and dd of packet's reader. Conditions: at most 2^20 bytes. -/
import Derived.Test.YtekhgkkgmkodmaaGreatJat
namespace Go.Proofs.YtekhgkkgmkodmaaGreat
open Go.RowKit

/-- What ack leaves. -/
def AckR (w : World) (g q : Nat) (v : Pv) (wr : Bool) (er : Int) (l : List Int) (a : Nat) (e : Int) (x : Ending) (w' : World) : Prop :=
  ∃ A k c, x = .returned (.tuple #[]) ∧ k = (l.length - a) / 20 ∧ w'.ownsRow w.heap.size 44 7 (.slice A k c) k (hdCells (hdsAt l a k)) ∧ RSE w' g q ⟨v.kind, v.sender, v.every, v.dead, v.prio, v.dr, v.bdr, v.seen, v.ini, v.mor, v.mas, v.seq, v.heads, v.wants, v.lsas, ⟨A, k, c⟩⟩ (wr || !okHds l a k) er l (a + 20 * k) e ∧ Below g w w'
set_option maxRecDepth 8000 in
set_option maxHeartbeats 8000000 in
theorem ack_any (v : Pv) (wr : Bool) (er : Int) (g q a : Nat) (e : Int) (l : List Int) (w : World) (h : RSE w g q v wr er l a e) (hl : l.length ≤ 1048576) :
    Calls Tryz.prog 93 #[.pointer (some ⟨g, 0, none⟩)] w (AckR w g q v wr er l a e) := by
  generalize hQ : AckR w g q v wr er l a e = Q
  have HQ := Lib.hid hQ
  have HRS := Lib.hid h
  have hgw : g < w.heap.size := h.1.lt
  clear hQ h
  go_enter Tryz.func93, Tryz.ntmps93
  go_wp2_with fail
  refine (heads_any v wr er g q a e l _ HRS.out hl).mono ?_
  rintro e1 w1 ⟨A, k, c, rfl, hk, hown, ⟨hkb, hrd⟩, hb⟩
  obtain ⟨y, hy⟩ : ∃ y, (wr || !okHds l a k) = y := ⟨_, rfl⟩
  rw [hy] at hkb
  have HY := Lib.hid hy
  clear hy
  have HK := Lib.hid hk
  have OW := Lib.hid hown
  have KB := Lib.hid hkb
  have RD := Lib.hid hrd
  have B1 := Lib.hid hb
  clear hk hown hkb hrd hb HRS
  obtain ⟨a0, a1, a2, a3, a4, a5, a6, a7, a8, a9, a10, a11, a12, a13, a14, a15, a16, a17, a18⟩ := KB.out.nt
  have f16 := KB.out.frozen 16
  go_wp2
  refine bodyPost_end (results_none rfl _ _ _) rfl ?_
  rw [← HQ.out]
  refine ⟨A, k, c, rfl, HK.out, own_set OW.out ⟨g, 16, none⟩ _ hgw, ⟨?_, RD.out.far (.inl (by simp)) _⟩, B1.out.setCell (by simp) _⟩
  rw [HY.out]
  have h9 := KB.out.put 16 (.slice A k c)
  simp only [List.setIfInBounds_toArray, List.set_cons_zero, List.set_cons_succ] at h9
  exact h9

/-- What dd leaves. -/
def DdR (w : World) (g q : Nat) (v : Pv) (wr : Bool) (er : Int) (l : List Int) (a : Nat) (e : Int) (x : Ending) (w' : World) : Prop :=
  ∃ (y1 y2 fl sq : Int) (a1 a2 a3 a4 : Nat) (e1 e2 e3 e4 : Int) (b1 b2 b3 : Bool) (A : Option Addr) (k c : Nat), x = .returned (.tuple #[]) ∧ NxP l a e 2 y1 a1 e1 ∧ NxP l a1 e1 1 y2 a2 e2 ∧ NxP l a2 e2 1 fl a3 e3 ∧ NxP l a3 e3 4 sq a4 e4 ∧
    b1 = (bits .and .i64 fl 4 != 0) ∧ b2 = (bits .and .i64 fl 2 != 0) ∧ b3 = (bits .and .i64 fl 1 != 0) ∧ k = (l.length - a4) / 20 ∧ w'.ownsRow w.heap.size 44 7 (.slice A k c) k (hdCells (hdsAt l a4 k)) ∧
    RSE w' g q ⟨v.kind, v.sender, v.every, v.dead, v.prio, v.dr, v.bdr, v.seen, b1, b2, b3, sq, ⟨A, k, c⟩, v.wants, v.lsas, v.acks⟩ ((((wr || decide (y1 ≠ 0)) || decide (y2 ≠ 0)) || decide (7 < fl)) || !okHds l a4 k) er l (a4 + 20 * k) e4 ∧ Below g w w'
set_option maxRecDepth 8000 in
set_option maxHeartbeats 8000000 in
theorem dd_any (v : Pv) (wr : Bool) (er : Int) (g q a : Nat) (e : Int) (l : List Int) (w : World) (h : RSE w g q v wr er l a e) (hl : l.length ≤ 1048576) :
    Calls Tryz.prog 90 #[.pointer (some ⟨g, 0, none⟩)] w (DdR w g q v wr er l a e) := by
  generalize hQ : DdR w g q v wr er l a e = Q
  have HQ := Lib.hid hQ
  have HRS := Lib.hid h
  have hgw : g < w.heap.size := h.1.lt
  have hgq : g < q := by have := h.2.lt.2; omega
  clear hQ h
  go_enter Tryz.func90, Tryz.ntmps90
  go_wp2_with fail
  refine (zero_any v wr er g q a 2 e 2 l _ HRS.out rfl).mono ?_
  rintro e1 w1 ⟨y1, p1, x1, rfl, hrs, hb, hn⟩
  have N1 := Lib.hid hn
  have RS1 := Lib.hid hrs
  have B1 := Lib.hid hb
  clear hn hrs hb HRS
  go_wp2_with fail
  refine (zero_any v _ er g q p1 1 x1 1 l _ RS1.out rfl).mono ?_
  rintro e2 w2 ⟨y2, p2, x2, rfl, ⟨hkb, hrd⟩, hb, hn⟩
  obtain ⟨u2, hu2⟩ : ∃ u, ((wr || decide (y1 ≠ 0)) || decide (y2 ≠ 0)) = u := ⟨_, rfl⟩
  rw [hu2] at hkb
  have HU2 := Lib.hid hu2
  have N2 := Lib.hid hn
  have KB2 := Lib.hid hkb
  have RD2 := Lib.hid hrd
  have B2 := Lib.hid (B1.out.trans hb)
  clear hn hkb hrd hb hu2 RS1 B1
  obtain ⟨a0, a1, a2, a3, a4, a5, a6, a7, a8, a9, a10, a11, a12, a13, a14, a15, a16, a17, a18⟩ := KB2.out.nt
  go_wp2_with fail
  refine (rde_num (g + 1) q p2 1 x2 1 l _ RD2.out rfl).mono ?_
  rintro e3 w3 ⟨fl, p3, x3, rfl, hrd, hgr, hn, hf0, hf1⟩
  rw [show (256 : Int) ^ 1 = 256 by decide] at hf1
  have N3 := Lib.hid hn
  have KB3 := Lib.hid (KB2.out.grown hgr (by omega))
  have RD3 := Lib.hid hrd
  have B3 := Lib.hid (B2.out.trans (grown_below hgr (by omega) (by have := B2.out.size; omega)))
  clear hn hrd hgr KB2 RD2 B2 a0 a1 a2 a3 a4 a5 a6 a7 a8 a9 a10 a11 a12 a13 a14 a15 a16 a17 a18
  obtain ⟨a0, a1, a2, a3, a4, a5, a6, a7, a8, a9, a10, a11, a12, a13, a14, a15, a16, a17, a18⟩ := KB3.out.nt
  have f9 := KB3.out.frozen 9
  have f10 := KB3.out.frozen 10
  have f11 := KB3.out.frozen 11
  have f17 := KB3.out.frozen 17
  go_upto_region 5 with fail
  generalize hb1 : (bits .and .i64 fl 4 != 0) = b1 at *
  generalize hb2 : (bits .and .i64 fl 2 != 0) = b2 at *
  generalize hb3 : (bits .and .i64 fl 1 != 0) = b3 at *
  have HB1 := Lib.hid hb1
  have HB2 := Lib.hid hb2
  have HB3 := Lib.hid hb3
  have KB4 := Lib.hid (show Blk (((w3.setCell ⟨g, 9, none⟩ (.bool b1)).setCell ⟨g, 10, none⟩ (.bool b2)).setCell ⟨g, 11, none⟩ (.bool b3)) g 95 #[.pointer (some ⟨q, 0, none⟩), .int .i64 v.kind, .int .i64 v.sender, .int .i64 v.every, .int .i64 v.dead, .int .i64 v.prio, .int .i64 v.dr, .int .i64 v.bdr, .slice v.seen.a v.seen.n v.seen.c, .bool b1, .bool b2, .bool b3, .int .i64 v.seq, .slice v.heads.a v.heads.n v.heads.c, .slice v.wants.a v.wants.n v.wants.c, .slice v.lsas.a v.lsas.n v.lsas.c, .slice v.acks.a v.acks.n v.acks.c, .bool u2, .int .i64 er] from ((KB3.out.put 9 (.bool b1)).put 10 (.bool b2)).put 11 (.bool b3))
  have RD4 := Lib.hid (((RD3.out.far (p := ⟨g, 9, none⟩) (.inl (by simp)) (.bool b1)).far (p := ⟨g, 10, none⟩) (.inl (by simp)) (.bool b2)).far (p := ⟨g, 11, none⟩) (.inl (by simp)) (.bool b3))
  have B4 := Lib.hid (((B3.out.setCell (p := ⟨g, 9, none⟩) (by simp) (.bool b1)).setCell (p := ⟨g, 10, none⟩) (by simp) (.bool b2)).setCell (p := ⟨g, 11, none⟩) (by simp) (.bool b3))
  clear hb1 hb2 hb3 f9 f10 f11 f17 KB3 RD3 B3 a0 a1 a2 a3 a4 a5 a6 a7 a8 a9 a10 a11 a12 a13 a14 a15 a16 a17 a18
  generalize ((w3.setCell ⟨g, 9, none⟩ (.bool b1)).setCell ⟨g, 10, none⟩ (.bool b2)).setCell ⟨g, 11, none⟩ (.bool b3) = w4 at *
  obtain ⟨a0, a1, a2, a3, a4, a5, a6, a7, a8, a9, a10, a11, a12, a13, a14, a15, a16, a17, a18⟩ := KB4.out.nt
  have f17 := KB4.out.frozen 17
  by_cases h7 : 7 < fl
  · have HU := Lib.hid (show (u2 || decide (7 < fl)) = true by rw [decide_eq_true h7, Bool.or_true])
    have KB5 := Lib.hid (show Blk (w4.setCell ⟨g, 17, none⟩ (.bool true)) g 95 #[.pointer (some ⟨q, 0, none⟩), .int .i64 v.kind, .int .i64 v.sender, .int .i64 v.every, .int .i64 v.dead, .int .i64 v.prio, .int .i64 v.dr, .int .i64 v.bdr, .slice v.seen.a v.seen.n v.seen.c, .bool b1, .bool b2, .bool b3, .int .i64 v.seq, .slice v.heads.a v.heads.n v.heads.c, .slice v.wants.a v.wants.n v.wants.c, .slice v.lsas.a v.lsas.n v.lsas.c, .slice v.acks.a v.acks.n v.acks.c, .bool true, .int .i64 er] from KB4.out.put 17 (.bool true))
    have RD5 := Lib.hid (RD4.out.far (p := ⟨g, 17, none⟩) (.inl (by simp)) (.bool true))
    have B5 := Lib.hid (B4.out.setCell (p := ⟨g, 17, none⟩) (by simp) (.bool true))
    go_upto_region 7 with fail
    clear f17 h7 KB4 RD4 B4
    generalize w4.setCell ⟨g, 17, none⟩ (.bool true) = w5 at *
    clear a0 a1 a2 a3 a4 a5 a6 a7 a8 a9 a10 a11 a12 a13 a14 a15 a16 a17 a18
    obtain ⟨a0, a1, a2, a3, a4, a5, a6, a7, a8, a9, a10, a11, a12, a13, a14, a15, a16, a17, a18⟩ := KB5.out.nt
    have f12 := KB5.out.frozen 12
    go_wp2_with fail
    refine (rde_num (g + 1) q p3 4 x3 4 l _ RD5.out rfl).mono ?_
    rintro e6 w6 ⟨sq, p4, x4, rfl, hrd, hgr, hn, -, -⟩
    have N4 := Lib.hid hn
    have KB6 := Lib.hid (KB5.out.grown hgr (by omega))
    have RD6 := Lib.hid hrd
    have B6 := Lib.hid (B5.out.trans (grown_below hgr (by omega) (by have := B5.out.size; omega)))
    clear hn hrd hgr KB5 RD5 B5 a0 a1 a2 a3 a4 a5 a6 a7 a8 a9 a10 a11 a12 a13 a14 a15 a16 a17 a18 f12
    obtain ⟨a0, a1, a2, a3, a4, a5, a6, a7, a8, a9, a10, a11, a12, a13, a14, a15, a16, a17, a18⟩ := KB6.out.nt
    have f12 := KB6.out.frozen 12
    have KB7 := Lib.hid (show Blk (w6.setCell ⟨g, 12, none⟩ (.int .i64 sq)) g 95 #[.pointer (some ⟨q, 0, none⟩), .int .i64 v.kind, .int .i64 v.sender, .int .i64 v.every, .int .i64 v.dead, .int .i64 v.prio, .int .i64 v.dr, .int .i64 v.bdr, .slice v.seen.a v.seen.n v.seen.c, .bool b1, .bool b2, .bool b3, .int .i64 sq, .slice v.heads.a v.heads.n v.heads.c, .slice v.wants.a v.wants.n v.wants.c, .slice v.lsas.a v.lsas.n v.lsas.c, .slice v.acks.a v.acks.n v.acks.c, .bool true, .int .i64 er] from KB6.out.put 12 (.int .i64 sq))
    have RD7 := Lib.hid (RD6.out.far (p := ⟨g, 12, none⟩) (.inl (by simp)) (.int .i64 sq))
    have B7 := Lib.hid (B6.out.setCell (p := ⟨g, 12, none⟩) (by simp) (.int .i64 sq))
    go_wp2_with fail
    refine (heads_any ⟨v.kind, v.sender, v.every, v.dead, v.prio, v.dr, v.bdr, v.seen, b1, b2, b3, sq, v.heads, v.wants, v.lsas, v.acks⟩ true er g q p4 x4 l _ ⟨KB7.out, RD7.out⟩ hl).mono ?_
    rintro e8 w8 ⟨A, k, c, rfl, hk, hown, ⟨hkb, hrd⟩, hb⟩
    have OW8 := Lib.hid (own_low hown B7.out.size)
    have B8 := Lib.hid (B7.out.trans hb)
    obtain ⟨z, hz⟩ : ∃ z, (true || !okHds l p4 k) = z := ⟨_, rfl⟩
    rw [hz] at hkb
    have HZ := Lib.hid hz
    have HK := Lib.hid hk
    have KB8 := Lib.hid (show Blk w8 g 95 #[.pointer (some ⟨q, 0, none⟩), .int .i64 v.kind, .int .i64 v.sender, .int .i64 v.every, .int .i64 v.dead, .int .i64 v.prio, .int .i64 v.dr, .int .i64 v.bdr, .slice v.seen.a v.seen.n v.seen.c, .bool b1, .bool b2, .bool b3, .int .i64 sq, .slice v.heads.a v.heads.n v.heads.c, .slice v.wants.a v.wants.n v.wants.c, .slice v.lsas.a v.lsas.n v.lsas.c, .slice v.acks.a v.acks.n v.acks.c, .bool z, .int .i64 er] from hkb)
    have RD8 := Lib.hid hrd
    clear hown hb hz hk hkb hrd KB7 RD7 B7 a0 a1 a2 a3 a4 a5 a6 a7 a8 a9 a10 a11 a12 a13 a14 a15 a16 a17 a18 f12 KB6 RD6 B6
    obtain ⟨a0, a1, a2, a3, a4, a5, a6, a7, a8, a9, a10, a11, a12, a13, a14, a15, a16, a17, a18⟩ := KB8.out.nt
    have f13 := KB8.out.frozen 13
    go_wp2
    refine bodyPost_end (results_none rfl _ _ _) rfl ?_
    rw [← HQ.out]
    refine ⟨y1, y2, fl, sq, p1, p2, p3, p4, x1, x2, x3, x4, b1, b2, b3, A, k, c, rfl, N1.out, N2.out, N3.out, N4.out, HB1.out.symm, HB2.out.symm, HB3.out.symm, HK.out, own_set OW8.out ⟨g, 13, none⟩ _ hgw, ⟨?_, RD8.out.far (.inl (by simp)) _⟩, B8.out.setCell (by simp) _⟩
    rw [HU2.out, HU.out, HZ.out]
    have h9 := KB8.out.put 13 (.slice A k c)
    simp only [List.setIfInBounds_toArray, List.set_cons_zero, List.set_cons_succ] at h9
    exact h9
  · have HU := Lib.hid (show (u2 || decide (7 < fl)) = u2 by rw [decide_eq_false h7, Bool.or_false])
    have KB5 := KB4
    have RD5 := RD4
    have B5 := B4
    go_upto_region 7 with fail
    clear f17 h7 KB4 RD4 B4
    clear a0 a1 a2 a3 a4 a5 a6 a7 a8 a9 a10 a11 a12 a13 a14 a15 a16 a17 a18
    obtain ⟨a0, a1, a2, a3, a4, a5, a6, a7, a8, a9, a10, a11, a12, a13, a14, a15, a16, a17, a18⟩ := KB5.out.nt
    have f12 := KB5.out.frozen 12
    go_wp2_with fail
    refine (rde_num (g + 1) q p3 4 x3 4 l _ RD5.out rfl).mono ?_
    rintro e6 w6 ⟨sq, p4, x4, rfl, hrd, hgr, hn, -, -⟩
    have N4 := Lib.hid hn
    have KB6 := Lib.hid (KB5.out.grown hgr (by omega))
    have RD6 := Lib.hid hrd
    have B6 := Lib.hid (B5.out.trans (grown_below hgr (by omega) (by have := B5.out.size; omega)))
    clear hn hrd hgr KB5 RD5 B5 a0 a1 a2 a3 a4 a5 a6 a7 a8 a9 a10 a11 a12 a13 a14 a15 a16 a17 a18 f12
    obtain ⟨a0, a1, a2, a3, a4, a5, a6, a7, a8, a9, a10, a11, a12, a13, a14, a15, a16, a17, a18⟩ := KB6.out.nt
    have f12 := KB6.out.frozen 12
    have KB7 := Lib.hid (show Blk (w6.setCell ⟨g, 12, none⟩ (.int .i64 sq)) g 95 #[.pointer (some ⟨q, 0, none⟩), .int .i64 v.kind, .int .i64 v.sender, .int .i64 v.every, .int .i64 v.dead, .int .i64 v.prio, .int .i64 v.dr, .int .i64 v.bdr, .slice v.seen.a v.seen.n v.seen.c, .bool b1, .bool b2, .bool b3, .int .i64 sq, .slice v.heads.a v.heads.n v.heads.c, .slice v.wants.a v.wants.n v.wants.c, .slice v.lsas.a v.lsas.n v.lsas.c, .slice v.acks.a v.acks.n v.acks.c, .bool u2, .int .i64 er] from KB6.out.put 12 (.int .i64 sq))
    have RD7 := Lib.hid (RD6.out.far (p := ⟨g, 12, none⟩) (.inl (by simp)) (.int .i64 sq))
    have B7 := Lib.hid (B6.out.setCell (p := ⟨g, 12, none⟩) (by simp) (.int .i64 sq))
    go_wp2_with fail
    refine (heads_any ⟨v.kind, v.sender, v.every, v.dead, v.prio, v.dr, v.bdr, v.seen, b1, b2, b3, sq, v.heads, v.wants, v.lsas, v.acks⟩ u2 er g q p4 x4 l _ ⟨KB7.out, RD7.out⟩ hl).mono ?_
    rintro e8 w8 ⟨A, k, c, rfl, hk, hown, ⟨hkb, hrd⟩, hb⟩
    have OW8 := Lib.hid (own_low hown B7.out.size)
    have B8 := Lib.hid (B7.out.trans hb)
    obtain ⟨z, hz⟩ : ∃ z, (u2 || !okHds l p4 k) = z := ⟨_, rfl⟩
    rw [hz] at hkb
    have HZ := Lib.hid hz
    have HK := Lib.hid hk
    have KB8 := Lib.hid (show Blk w8 g 95 #[.pointer (some ⟨q, 0, none⟩), .int .i64 v.kind, .int .i64 v.sender, .int .i64 v.every, .int .i64 v.dead, .int .i64 v.prio, .int .i64 v.dr, .int .i64 v.bdr, .slice v.seen.a v.seen.n v.seen.c, .bool b1, .bool b2, .bool b3, .int .i64 sq, .slice v.heads.a v.heads.n v.heads.c, .slice v.wants.a v.wants.n v.wants.c, .slice v.lsas.a v.lsas.n v.lsas.c, .slice v.acks.a v.acks.n v.acks.c, .bool z, .int .i64 er] from hkb)
    have RD8 := Lib.hid hrd
    clear hown hb hz hk hkb hrd KB7 RD7 B7 a0 a1 a2 a3 a4 a5 a6 a7 a8 a9 a10 a11 a12 a13 a14 a15 a16 a17 a18 f12 KB6 RD6 B6
    obtain ⟨a0, a1, a2, a3, a4, a5, a6, a7, a8, a9, a10, a11, a12, a13, a14, a15, a16, a17, a18⟩ := KB8.out.nt
    have f13 := KB8.out.frozen 13
    go_wp2
    refine bodyPost_end (results_none rfl _ _ _) rfl ?_
    rw [← HQ.out]
    refine ⟨y1, y2, fl, sq, p1, p2, p3, p4, x1, x2, x3, x4, b1, b2, b3, A, k, c, rfl, N1.out, N2.out, N3.out, N4.out, HB1.out.symm, HB2.out.symm, HB3.out.symm, HK.out, own_set OW8.out ⟨g, 13, none⟩ _ hgw, ⟨?_, RD8.out.far (.inl (by simp)) _⟩, B8.out.setCell (by simp) _⟩
    rw [HU2.out, HU.out, HZ.out]
    have h9 := KB8.out.put 13 (.slice A k c)
    simp only [List.setIfInBounds_toArray, List.set_cons_zero, List.set_cons_succ] at h9
    exact h9
end Go.Proofs.YtekhgkkgmkodmaaGreat
