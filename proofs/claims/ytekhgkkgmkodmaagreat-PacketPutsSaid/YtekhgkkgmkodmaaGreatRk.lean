/- The statement PacketPuts, of a packet that is not right; and packets that are alike. Conditions: the lists read as such. -/
import Derived.Test.YtekhgkkgmkodmaaGreatRi3
import Derived.Test.YtekhgkkgmkodmaaGreatRj
import Derived.Test.YtekhgkkgmkodmaaGreatJbf
import Derived.Test.YtekhgkkgmkodmaaGreatJat
import Derived.Test.YtekhgkkgmkodmaaGreatJbe
namespace Go.Proofs.YtekhgkkgmkodmaaGreat
open Go.RowKit
set_option linter.unusedVariables false

theorem sameN_symm {v x : Pv} (h : SameN x v) : SameN v x := by
  obtain ⟨h1, h2, h3, h4, h5, h6, h7, h8, h9, h10, h11⟩ := h
  exact ⟨h1.symm, h2.symm, h3.symm, h4.symm, h5.symm, h6.symm, h7.symm, h8.symm, h9.symm, h10.symm, h11.symm⟩
theorem same_all (v x : Pv) (l : Pl) (B B2 : Nat) (w : World) (h : PkIn w B x l) (h2 : PkIn w B2 v l) (hs : PkSm x) (hB : B ≤ w.heap.size) (hB2 : B2 ≤ w.heap.size) (hn : SameN v x) :
    Calls Tryz.prog 13 #[.agg #[.int .i64 x.kind, .int .i64 x.sender, .int .i64 x.every, .int .i64 x.dead, .int .i64 x.prio, .int .i64 x.dr, .int .i64 x.bdr, .slice x.seen.a x.seen.n x.seen.c, .bool x.ini, .bool x.mor, .bool x.mas, .int .i64 x.seq, .slice x.heads.a x.heads.n x.heads.c, .slice x.wants.a x.wants.n x.wants.c, .slice x.lsas.a x.lsas.n x.lsas.c, .slice x.acks.a x.acks.n x.acks.c], .agg #[.int .i64 v.kind, .int .i64 v.sender, .int .i64 v.every, .int .i64 v.dead, .int .i64 v.prio, .int .i64 v.dr, .int .i64 v.bdr, .slice v.seen.a v.seen.n v.seen.c, .bool v.ini, .bool v.mor, .bool v.mas, .int .i64 v.seq, .slice v.heads.a v.heads.n v.heads.c, .slice v.wants.a v.wants.n v.wants.c, .slice v.lsas.a v.lsas.n v.lsas.c, .slice v.acks.a v.acks.n v.acks.c]] w fun y w' => y = .returned (.bool true) ∧ Below w.heap.size w w' := by
  obtain ⟨n1, n2, n3, n4, n5, n6, n7, n8, n9, n10, n11⟩ := hn
  have e1 : v.seen.n = x.seen.n := h2.1.1.symm.trans h.1.1
  have e2 : v.heads.n = x.heads.n := h2.2.1.1.symm.trans h.2.1.1
  have e3 : v.wants.n = x.wants.n := h2.2.2.1.1.symm.trans h.2.2.1.1
  have e4 : v.lsas.n = x.lsas.n := h2.2.2.2.1.1.symm.trans h.2.2.2.1.1
  have e5 : v.acks.n = x.acks.n := h2.2.2.2.2.1.symm.trans h.2.2.2.2.1
  obtain ⟨q1, q2, q3, q4, q5⟩ := h2
  rw [e1] at q1
  rw [e2] at q2
  rw [e3] at q3
  rw [e4] at q4
  rw [e5] at q5
  exact psame_any x v l true true true true true B B2 w h hs hB hB2 n1 n2 ⟨n3, n4, n5, n6, n7, e1, q1⟩ ⟨n8, n9, n10, n11, e2, q2⟩ ⟨e3, q3⟩ ⟨e4, q4⟩ ⟨e5, q5⟩

set_option maxRecDepth 100000 in
set_option maxHeartbeats 16000000 in
theorem puts_no (v : Pv) (l : Pl) (w : World) (h : PkIn w w.heap.size v l) (hs : PkSm v) (hr : rightP v l = false) :
    Calls Tryz.prog 3 #[.agg #[.int .i64 v.kind, .int .i64 v.sender, .int .i64 v.every, .int .i64 v.dead, .int .i64 v.prio, .int .i64 v.dr, .int .i64 v.bdr, .slice v.seen.a v.seen.n v.seen.c, .bool v.ini, .bool v.mor, .bool v.mas, .int .i64 v.seq, .slice v.heads.a v.heads.n v.heads.c, .slice v.wants.a v.wants.n v.wants.c, .slice v.lsas.a v.lsas.n v.lsas.c, .slice v.acks.a v.acks.n v.acks.c]] w fun e w' => e = .returned (.bool true) ∧ Below w.heap.size w w' := by
  have K0 := Lib.hid (Blk.new w 31 #[.int .i64 v.kind, .int .i64 v.sender, .int .i64 v.every, .int .i64 v.dead, .int .i64 v.prio, .int .i64 v.dr, .int .i64 v.bdr, .slice v.seen.a v.seen.n v.seen.c, .bool v.ini, .bool v.mor, .bool v.mas, .int .i64 v.seq, .slice v.heads.a v.heads.n v.heads.c, .slice v.wants.a v.wants.n v.wants.c, .slice v.lsas.a v.lsas.n v.lsas.c, .slice v.acks.a v.acks.n v.acks.c])
  have B0 := Lib.hid ((Below.refl w.heap.size w).alloc (Nat.le_refl _) (.cells #[.int .i64 v.kind, .int .i64 v.sender, .int .i64 v.every, .int .i64 v.dead, .int .i64 v.prio, .int .i64 v.dr, .int .i64 v.bdr, .slice v.seen.a v.seen.n v.seen.c, .bool v.ini, .bool v.mor, .bool v.mas, .int .i64 v.seq, .slice v.heads.a v.heads.n v.heads.c, .slice v.wants.a v.wants.n v.wants.c, .slice v.lsas.a v.lsas.n v.lsas.c, .slice v.acks.a v.acks.n v.acks.c] 31))
  have HS := Lib.hid hs
  have HP := Lib.hid h
  have hz0 : w.heap.size ≤ (w.alloc (.cells #[.int .i64 v.kind, .int .i64 v.sender, .int .i64 v.every, .int .i64 v.dead, .int .i64 v.prio, .int .i64 v.dr, .int .i64 v.bdr, .slice v.seen.a v.seen.n v.seen.c, .bool v.ini, .bool v.mor, .bool v.mas, .int .i64 v.seq, .slice v.heads.a v.heads.n v.heads.c, .slice v.wants.a v.wants.n v.wants.c, .slice v.lsas.a v.lsas.n v.lsas.c, .slice v.acks.a v.acks.n v.acks.c] 31)).heap.size := by simp
  have HR := Lib.hid hr
  clear h hs hr
  go_enter Tryz.func3, Tryz.ntmps3
  go_upto_region 1 with fail
  have hlt0 := K0.out.lt
  generalize w.alloc (.cells #[.int .i64 v.kind, .int .i64 v.sender, .int .i64 v.every, .int .i64 v.dead, .int .i64 v.prio, .int .i64 v.dr, .int .i64 v.bdr, .slice v.seen.a v.seen.n v.seen.c, .bool v.ini, .bool v.mor, .bool v.mas, .int .i64 v.seq, .slice v.heads.a v.heads.n v.heads.c, .slice v.wants.a v.wants.n v.wants.c, .slice v.lsas.a v.lsas.n v.lsas.c, .slice v.acks.a v.acks.n v.acks.c] 31) = w0 at *
  go_wp2_with fail
  refine (wakes_any _).mono ?_
  rintro e1 w1 ⟨rfl, hb1⟩
  have K1 := Lib.hid (K0.out.below hb1 hlt0)
  have B1 := Lib.hid (B0.out.trans (hb1.mono hz0))
  have hlt1 := K1.out.lt
  have hs1 := B1.out.size
  clear hb1 K0 B0
  go_wp2_with (refine wpList_load_pkt (by rfl) (.tmp 1) rfl (by rfl) K1.out ?_)
  refine (long_any v l w.heap.size _ (HP.out.below B1.out) HS.out hs1).mono ?_
  rintro e2 w2 ⟨⟨b2, rfl⟩, hb2⟩
  have K2 := Lib.hid (K1.out.below hb2 hlt1)
  have B2 := Lib.hid (B1.out.trans (hb2.mono hs1))
  have hlt2 := K2.out.lt
  have hs2 := B2.out.size
  clear hb2 K1 B1
  cases b2
  case true =>
    go_wp2
    go_ret
    exact ⟨rfl, B2.out⟩
  case false =>
  go_wp2_with (refine wpList_load_pkt (by rfl) (.tmp 1) rfl (by rfl) K2.out ?_)
  refine (pput_no v l w.heap.size _ (HP.out.below B2.out) HS.out hs2 HR.out).mono ?_
  rintro e3 w3 ⟨rfl, hb3⟩
  have K3 := Lib.hid (K2.out.below hb3 hlt2)
  have B3 := Lib.hid (B2.out.trans (hb3.mono hs2))
  have hlt3 := K3.out.lt
  have hs3 := B3.out.size
  clear hb3 K2 B2
  go_wp2_with (refine wpList_load_pkt (by rfl) (.tmp 1) rfl (by rfl) K3.out ?_)
  refine (r5Right_any v l w.heap.size _ (HP.out.below B3.out) HS.out hs3).mono ?_
  rintro e4 w4 ⟨rfl, hb4⟩
  rw [HR.out]
  have K4 := Lib.hid (K3.out.below hb4 hlt3)
  have B4 := Lib.hid (B3.out.trans (hb4.mono hs3))
  have hs4 := B4.out.size
  clear hb4 K3 B3
  go_wp2_with (refine wpList_load_pkt (by rfl) (.tmp 1) rfl (by rfl) K4.out ?_)
  refine (pright_any v l w.heap.size _ (HP.out.below B4.out) HS.out hs4).mono ?_
  rintro e5 w5 ⟨rfl, hb5⟩
  rw [HR.out]
  have B5 := Lib.hid (B4.out.trans (hb5.mono hs4))
  clear hb5 K4
  go_wp2
  go_ret
  exact ⟨rfl, B5.out⟩

end Go.Proofs.YtekhgkkgmkodmaaGreat
