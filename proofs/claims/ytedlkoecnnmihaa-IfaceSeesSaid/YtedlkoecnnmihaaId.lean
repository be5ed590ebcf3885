/- What an election makes of a router, as a closure. Conditions: numbers unlike, from 1 on; at most 1,000,000 others. -/
import Derived.Test.YtedlkoecnnmihaaIc
namespace Go.Proofs.Ytedlkoecnnmihaa
open Go.RowKit
set_option maxRecDepth 8000 in
set_option maxHeartbeats 8000000 in
theorem vote_at {w : World} {B n c p q : Nat} {A : Option Addr} {L : List Cd} {i : If} (hp : Blk w p 23 #[.int .i64 i.self, .int .i64 i.prio, .int .i64 i.state, .int .i64 i.dr, .int .i64 i.bdr]) (hq : Blk w q 24 #[.slice A n c]) (hs : Cds w B A n L) (hB : B ≤ w.heap.size) (hn : n ≤ 1000000) (ha : ApartC (ownI i :: L)) :
    Calls Try.prog 21 #[.pointer (some ⟨p, 0, none⟩), .pointer (some ⟨q, 0, none⟩)] w fun e w' => e = .returned (.agg #[.int .i64 (voteI i L).self, .int .i64 (voteI i L).prio, .int .i64 (voteI i L).state, .int .i64 (voteI i L).dr, .int .i64 (voteI i L).bdr]) ∧ Below w.heap.size w w' := by
  have HP := Lib.hid (hs.more hB)
  have KI := Lib.hid hp
  have KQ := Lib.hid hq
  have HAP := Lib.hid ha
  have hlp := hp.lt
  have hlq := hq.lt
  clear hs hB ha hp hq
  have HV := Lib.hid (fun (W : World) (h : Cds W w.heap.size A n L) (hh : w.heap.size ≤ W.heap.size) => elected_any (c := c) i h hh hn HAP.out)
  generalize voteI i L = x at *
  have B0 := Lib.hid ((Below.refl w.heap.size w).alloc (Nat.le_refl _) (.cells #[.int .i64 0, .int .i64 0, .int .i64 0, .int .i64 0, .int .i64 0] 23))
  have R0 := Lib.hid (Blk.new w 23 #[.int .i64 0, .int .i64 0, .int .i64 0, .int .i64 0, .int .i64 0])
  have K0 := Lib.hid (KI.out.below B0.out hlp)
  have Q0 := Lib.hid (KQ.out.below B0.out hlq)
  have P0 := Lib.hid (HP.out.below B0.out)
  obtain ⟨k0, k1, k2, k3, k4⟩ := K0.out.five
  have q0 := Q0.out.cell 0
  simp at q0
  go_enter Try.func21, Try.ntmps21
  go_wp2_with fail
  generalize hr : w.heap.size = r at *
  generalize w.alloc (.cells #[.int .i64 0, .int .i64 0, .int .i64 0, .int .i64 0, .int .i64 0] 23) = w1 at *
  have hr1 := R0.out.lt
  refine (HV.out _ P0.out (Nat.le_of_lt hr1)).mono ?_
  rintro e2 w2 ⟨rfl, hb2⟩
  clear k0 k1 k2 k3 k4 q0
  have R2 := Lib.hid (R0.out.below hb2 hr1)
  have B2 := Lib.hid (B0.out.trans (hb2.mono (Nat.le_of_lt hr1)))
  obtain ⟨k0, k1, k2, k3, k4⟩ := R2.out.five
  obtain ⟨z0, z1, z2, z3, z4⟩ := R2.out.thaw
  have hr2 := R2.out.lt
  clear hb2 R0 B0 hr1
  go_wp2_with fail
  have KF := blk_put5 (v0 := .int .i64 x.self) (v1 := .int .i64 x.prio) (v2 := .int .i64 x.state) (v3 := .int .i64 x.dr) (v4 := .int .i64 x.bdr) R2.out
  have BF := below_put5 (v0 := .int .i64 x.self) (v1 := .int .i64 x.prio) (v2 := .int .i64 x.state) (v3 := .int .i64 x.dr) (v4 := .int .i64 x.bdr) B2.out (Nat.le_refl _)
  clear k0 k1 k2 k3 k4 z0 z1 z2 z3 z4
  generalize ((((w2.setCell ⟨r, 0, none⟩ (.int .i64 x.self)).setCell ⟨r, 1, none⟩ (.int .i64 x.prio)).setCell ⟨r, 2, none⟩ (.int .i64 x.state)).setCell ⟨r, 3, none⟩ (.int .i64 x.dr)).setCell ⟨r, 4, none⟩ (.int .i64 x.bdr) = wz at *
  obtain ⟨k0, k1, k2, k3, k4⟩ := KF.five
  refine bodyPost_ret (v := .agg #[.int .i64 x.self, .int .i64 x.prio, .int .i64 x.state, .int .i64 x.dr, .int .i64 x.bdr]) (by simp [results, Try.results21, go_sem, *]) rfl ?_
  exact ⟨rfl, hr ▸ BF⟩
end Go.Proofs.Ytedlkoecnnmihaa
