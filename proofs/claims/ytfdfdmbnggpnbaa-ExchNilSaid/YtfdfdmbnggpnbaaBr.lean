/- The walk of the statement ExchNil. No conditions. -/
import Derived.Test.YtfdfdmbnggpnbaaBzv
import Derived.Test.YtfdfdmbnggpnbaaVas
namespace Go.Proofs.Ytfdfdmbnggpnbaa
open Go.RowKit Go.Lib Go.Sort Go.Deep

set_option maxRecDepth 8000 in
set_option maxHeartbeats 4000000 in
theorem nil14_walk (p : Pc) (A : Option Addr) (n c : Nat) (w : World) : Calls Try.prog 10 #[.agg #[.bool p.init, .bool p.more, .bool p.master, .int .i64 p.seq, .slice A n c]] w fun e w' => e = .returned (.bool true) ∧ Below w.heap.size w w' := by
  have B0 := Lib.hid ((Below.refl w.heap.size w).alloc (Nat.le_refl _) (.cells #[.bool p.init, .bool p.more, .bool p.master, .int .i64 p.seq, .slice A n c] 53))
  have N0 := Lib.hid (Blk.new w 53 #[.bool p.init, .bool p.more, .bool p.master, .int .i64 p.seq, .slice A n c])
  go_enter Try.func10, Try.ntmps10
  go_wp2_with fail
  refine (wakes14 _).mono ?_
  rintro e1 w1 ⟨rfl, hb1⟩
  have B1 := Lib.hid (B0.out.trans (hb1.mono B0.out.size))
  have N1 := Lib.hid (N0.out.below hb1 N0.out.lt)
  clear hb1 B0 N0
  go_wp2_with fail
  refine (sayN _).mono ?_
  rintro e2 w2 ⟨rfl, hb2⟩
  have B2 := Lib.hid (B1.out.trans (hb2.mono B1.out.size))
  have N2 := Lib.hid (N1.out.below hb2 N1.out.lt)
  clear hb2 B1 N1
  have B3 := Lib.hid (B2.out.alloc B2.out.size (.cells #[.bool false, .bool false, .bool false, .int .i64 0, .slice none 0 0] 53))
  have N3 := Lib.hid (N2.out.alloc (.cells #[.bool false, .bool false, .bool false, .int .i64 0, .slice none 0 0] 53))
  have M3 := Lib.hid (Blk.new w2 53 #[.bool false, .bool false, .bool false, .int .i64 0, .slice none 0 0])
  obtain ⟨n0, n1, n2, n3, n4⟩ := N3.out.five
  have hnl := N3.out.lt
  go_wp2_with fail
  refine (hearN _ _ _ _ _ _ _ _ _).mono ?_
  rintro e3 w3 ⟨rfl, hb3⟩
  clear n0 n1 n2 n3 n4 hnl
  have B4 := Lib.hid (B3.out.trans (hb3.mono B3.out.size))
  have M4 := Lib.hid (M3.out.below hb3 M3.out.lt)
  clear hb3 B3 N3 M3 N2 B2
  obtain ⟨m0, m1, m2, m3, m4⟩ := M4.out.five
  have hml := M4.out.lt
  go_wp2_with fail
  refine (same14_yes ⟨false, false, false, 0⟩ ⟨false, false, false, 0⟩ (L := []) (L' := []) (B := 0) (B' := 0) Arr.nil Arr.nil (Nat.zero_le _) (Nat.zero_le _) (by decide) (by decide) rfl rfl).mono ?_
  rintro e4 w4 ⟨rfl, hg4⟩
  have B5 := Lib.hid (B4.out.trans ((below_grown13 hg4).mono B4.out.size))
  clear hg4 B4 M4 m0 m1 m2 m3 m4 hml
  go_wp2_with fail
  refine (agreedN _).mono ?_
  rintro e5 w5 ⟨rfl, h5⟩
  rw [h5]
  clear h5 w5
  go_wp2_with fail
  refine (leadsN _).mono ?_
  rintro e5 w5 ⟨rfl, h5⟩
  rw [h5]
  clear h5 w5
  go_wp2_with fail
  refine (doneN _).mono ?_
  rintro e5 w5 ⟨rfl, h5⟩
  rw [h5]
  clear h5 w5
  go_wp2_with fail
  refine (seqN _).mono ?_
  rintro e5 w5 ⟨rfl, h5⟩
  rw [h5]
  clear h5 w5
  go_wp2
  go_ret
  exact ⟨rfl, B5.out⟩
end Go.Proofs.Ytfdfdmbnggpnbaa
