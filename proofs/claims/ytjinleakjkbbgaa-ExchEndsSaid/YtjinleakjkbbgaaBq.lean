/- Same of the reference, where pieces are alike. Conditions: what the words say. -/
import Derived.Test.YtjinleakjkbbgaaBl
namespace Go.Proofs.Ytjinleakjkbbgaa
open Go.RowKit Go.Lib Go.Sort Go.Deep

theorem drewN_growB (w : World) (os : Array Obj) (n : Nat) : (grow w os).drewN n = grow (w.drewN n) os := rfl
set_option maxRecDepth 8000 in
set_option maxHeartbeats 4000000 in
theorem same14_yes {w : World} {A A' : Option Addr} {n c n' c' B B' : Nat} {L L' : List Hd} (a b : Pc) (hL : Hds w B A n L) (hL' : Hds w B' A' n' L') (hB : B ≤ w.heap.size) (hB' : B' ≤ w.heap.size) (hn : n ≤ 1000) (hn' : n' ≤ 1000) (e : a = b) (e' : L = L') :
    Calls Try.prog 22 #[.agg #[.bool a.init, .bool a.more, .bool a.master, .int .i64 a.seq, .slice A n c], .agg #[.bool b.init, .bool b.more, .bool b.master, .int .i64 b.seq, .slice A' n' c']] w fun e w' => e = .returned (.bool true) ∧ ∃ q os', w' = grow (w.drewN q) os' := by
  have eq0 : (w.alloc (.cells #[.bool a.init, .bool a.more, .bool a.master, .int .i64 a.seq, .slice A n c] 33)).alloc (.cells #[.bool b.init, .bool b.more, .bool b.master, .int .i64 b.seq, .slice A' n' c'] 33) = grow (w.drewN 0) #[.cells #[.bool a.init, .bool a.more, .bool a.master, .int .i64 a.seq, .slice A n c] 33, .cells #[.bool b.init, .bool b.more, .bool b.master, .int .i64 b.seq, .slice A' n' c'] 33] := by
    rw [alloc_eq_grow, alloc_eq_grow, grow_grow]
    rfl
  have HG := Lib.hid (show ∃ q os', (w.alloc (.cells #[.bool a.init, .bool a.more, .bool a.master, .int .i64 a.seq, .slice A n c] 33)).alloc (.cells #[.bool b.init, .bool b.more, .bool b.master, .int .i64 b.seq, .slice A' n' c'] 33) = grow (w.drewN q) os' from ⟨0, _, eq0⟩)
  have B2 := Lib.hid (show Below w.heap.size w ((w.alloc (.cells #[.bool a.init, .bool a.more, .bool a.master, .int .i64 a.seq, .slice A n c] 33)).alloc (.cells #[.bool b.init, .bool b.more, .bool b.master, .int .i64 b.seq, .slice A' n' c'] 33)) from ((Below.refl w.heap.size w).alloc (Nat.le_refl _) _).alloc (by simp) _)
  have N2 := Lib.hid ((Blk.new w 33 #[.bool a.init, .bool a.more, .bool a.master, .int .i64 a.seq, .slice A n c]).alloc (.cells #[.bool b.init, .bool b.more, .bool b.master, .int .i64 b.seq, .slice A' n' c'] 33))
  have M2 := Lib.hid (show Blk ((w.alloc (.cells #[.bool a.init, .bool a.more, .bool a.master, .int .i64 a.seq, .slice A n c] 33)).alloc (.cells #[.bool b.init, .bool b.more, .bool b.master, .int .i64 b.seq, .slice A' n' c'] 33)) (w.heap.size + 1) 33 #[.bool b.init, .bool b.more, .bool b.master, .int .i64 b.seq, .slice A' n' c'] by
    have := Blk.new (w.alloc (.cells #[.bool a.init, .bool a.more, .bool a.master, .int .i64 a.seq, .slice A n c] 33)) 33 #[.bool b.init, .bool b.more, .bool b.master, .int .i64 b.seq, .slice A' n' c']
    simpa using this)
  have HL := Lib.hid hL
  have HL' := Lib.hid hL'
  have HE := Lib.hid e'
  have HA := Lib.hid (decide_eq_true e)
  clear hL hL' eq0 e e'
  go_enter Try.func22, Try.ntmps22
  go_wp2_with fail
  refine (alike_any a b A A' n c n' c' _).mono ?_
  rintro e1 w1 ⟨rfl, hg1⟩
  rw [HA.out]
  have b1 := below_grown13 hg1
  have N1 := Lib.hid (N2.out.below b1 N2.out.lt)
  have M1 := Lib.hid (M2.out.below b1 M2.out.lt)
  have B1 := Lib.hid (B2.out.trans (b1.mono B2.out.size))
  have HG1 := Lib.hid (show ∃ q os', w1 = grow (w.drewN q) os' by
    obtain ⟨q, os, h1⟩ := HG.out
    obtain ⟨q', os', h2⟩ := hg1
    rw [h1] at h2
    exact ⟨q + q', os ++ os', by rw [h2, drewN_growB, grow_grow, World.drewN_drewN]⟩)
  clear hg1 b1 N2 M2 B2 HG
  obtain ⟨n0, n1, n2, n3, n4⟩ := N1.out.five
  obtain ⟨m0, m1, m2, m3, m4⟩ := M1.out.five
  have hnl := N1.out.lt
  have hml := M1.out.lt
  have hz := B1.out.size
  go_wp2_with fail
  refine (same13_yes (HL.out.below (B1.out.mono hB)) (HL'.out.below (B1.out.mono hB')) (Nat.le_trans hB hz) (Nat.le_trans hB' hz) hn hn' HE.out).mono ?_
  rintro e2 w2 ⟨rfl, q, rfl⟩
  go_wp2
  go_ret
  obtain ⟨q1, os1, h1⟩ := HG1.out
  exact ⟨rfl, q1 + q, os1, by rw [h1, drewN_growB, World.drewN_drewN]⟩
end Go.Proofs.Ytjinleakjkbbgaa
