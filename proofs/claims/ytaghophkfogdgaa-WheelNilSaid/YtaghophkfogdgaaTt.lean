/- The walk of the statement WheelNil, of any sort that does what a sort must of two timers. Conditions: what the words say. -/
import Derived.Test.YtaghophkfogdgaaTr
namespace Go.Proofs.Ytaghophkfogdgaa
open Go.RowKit

set_option maxRecDepth 8000 in
set_option maxHeartbeats 4000000 in
theorem nil_walk {k : Nat} (hS : SortUpto k) (hk : 2 ≤ k) (hk2 : k ≤ 1000) (t : Tm) (z : Int) (w : World) : Calls Try.prog 5 #[.agg #[.int .i64 t.kind, .int .i64 t.lan, .int .i64 t.id, .int .i64 t.kk, .int .i64 t.ki, .int .i64 t.ka], .int .i64 z] w
    fun e w' => e = .returned (.bool true) ∧ Below w.heap.size w w' := by
  have K0 := Lib.hid (Blk.new w 33 #[.int .i64 t.kind, .int .i64 t.lan, .int .i64 t.id, .int .i64 t.kk, .int .i64 t.ki, .int .i64 t.ka])
  have B0 := Lib.hid ((Below.refl w.heap.size w).alloc (Nat.le_refl _) (.cells #[.int .i64 t.kind, .int .i64 t.lan, .int .i64 t.id, .int .i64 t.kk, .int .i64 t.ki, .int .i64 t.ka] 33))
  go_enter Try.func5, Try.ntmps5
  go_wp2_with fail
  generalize w.alloc (.cells #[.int .i64 t.kind, .int .i64 t.lan, .int .i64 t.id, .int .i64 t.kk, .int .i64 t.ki, .int .i64 t.ka] 33) = w0 at *
  refine (wakes_any hS hk hk2 _).mono ?_
  rintro e1 w1 ⟨rfl, hb1⟩
  have K1 := Lib.hid (K0.out.below hb1 K0.out.lt)
  have B1 := Lib.hid (B0.out.trans (hb1.mono B0.out.size))
  obtain ⟨k0, k1, k2, k3, k4, k5⟩ := K1.out.six
  have hl1 := K1.out.lt
  clear hb1 K0 B0
  go_wp2_with fail
  have B2 := Lib.hid (B1.out.alloc B1.out.size (.cells #[.int .i64 t.kind, .int .i64 t.lan, .int .i64 t.id, .int .i64 t.kk, .int .i64 t.ki, .int .i64 t.ka] 33))
  have K2 := Lib.hid (K1.out.alloc (.cells #[.int .i64 t.kind, .int .i64 t.lan, .int .i64 t.id, .int .i64 t.kk, .int .i64 t.ki, .int .i64 t.ka] 33))
  refine (arm_no z _ _).mono ?_
  rintro e2 w2 ⟨rfl, rfl⟩
  clear k0 k1 k2 k3 k4 k5
  generalize w1.alloc (.cells #[.int .i64 t.kind, .int .i64 t.lan, .int .i64 t.id, .int .i64 t.kk, .int .i64 t.ki, .int .i64 t.ka] 33) = w2 at *
  obtain ⟨k0, k1, k2, k3, k4, k5⟩ := K2.out.six
  have hl2 := K2.out.lt
  go_wp2_with fail
  refine (at_no t _).mono ?_
  rintro e3 w3 ⟨rfl, hb3⟩
  have K3 := Lib.hid (K2.out.below hb3 K2.out.lt)
  have B3 := Lib.hid (B2.out.trans (hb3.mono B2.out.size))
  clear k0 k1 k2 k3 k4 k5 hb3
  obtain ⟨k0, k1, k2, k3, k4, k5⟩ := K3.out.six
  have hl3 := K3.out.lt
  have B4 := Lib.hid (B3.out.alloc B3.out.size (.cells #[.int .i64 t.kind, .int .i64 t.lan, .int .i64 t.id, .int .i64 t.kk, .int .i64 t.ki, .int .i64 t.ka] 33))
  go_wp2_with (first
    | (go_at_call 10; refine (cancel_no _ _).mono ?_; rintro e4 w4 ⟨rfl, rfl⟩)
    | (go_at_call 15; refine (drop_no _ _).mono ?_; rintro e5 w5 ⟨rfl, rfl⟩)
    | (go_at_call 19; refine (len_no _).mono ?_; rintro e6 w6 ⟨rfl, rfl⟩)
    | (go_at_call 13; refine (due_no _ _).mono ?_; rintro e7 w7 ⟨rfl, rfl⟩))
  go_ret
  exact ⟨rfl, B4.out⟩
end Go.Proofs.Ytaghophkfogdgaa
