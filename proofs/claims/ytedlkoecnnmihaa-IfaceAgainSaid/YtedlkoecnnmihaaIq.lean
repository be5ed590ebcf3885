/- The walk of the statement IfaceAgain. Conditions: state of 64 bits. -/
import Derived.Test.YtedlkoecnnmihaaIo
namespace Go.Proofs.Ytedlkoecnnmihaa
open Go.RowKit
set_option maxRecDepth 8000 in
set_option maxHeartbeats 8000000 in
theorem again_walk {n c : Nat} {A : Option Addr} (i : If) (L : List Cd) (w : World) (hL : Cds w w.heap.size A n L) (hst : wf64 i.state) : Calls Try.prog 6 #[.agg #[.int .i64 i.self, .int .i64 i.prio, .int .i64 i.state, .int .i64 i.dr, .int .i64 i.bdr], .slice A n c] w fun e w' => e = .returned (.bool true) ∧ Below w.heap.size w w' := by
  have HS := Lib.hid hst
  clear hst
  have B0 := Lib.hid ((Below.refl w.heap.size w).alloc (Nat.le_refl _) (.cells #[.int .i64 i.self, .int .i64 i.prio, .int .i64 i.state, .int .i64 i.dr, .int .i64 i.bdr] 23))
  have K0 := Lib.hid (Blk.new w 23 #[.int .i64 i.self, .int .i64 i.prio, .int .i64 i.state, .int .i64 i.dr, .int .i64 i.bdr])
  have P0 := Lib.hid (hL.below B0.out)
  go_enter Try.func6, Try.ntmps6
  go_wp2_with fail
  generalize w.alloc (.cells #[.int .i64 i.self, .int .i64 i.prio, .int .i64 i.state, .int .i64 i.dr, .int .i64 i.bdr] 23) = w0 at *
  generalize hp : w.heap.size = p at *
  have hk0 := K0.out.lt
  refine (wakes_any _).mono ?_
  rintro e1 w1 ⟨rfl, hb1⟩
  have K1 := Lib.hid (K0.out.below hb1 hk0)
  have B1 := Lib.hid (B0.out.trans (hb1.mono (by omega)))
  have P1 := Lib.hid (hL.below B1.out)
  have hk1 := K1.out.lt
  clear hb1 K0 B0 P0 hk0 hL
  obtain ⟨k0, k1, k2, k3, k4⟩ := K1.out.five
  by_cases h0 : 20 < n
  · have h0' : (20 : Int) < n := by omega
    have d0 : decide ((20 : Int) < n) = true := by simp; omega
    go_wp2
    go_ret
    exact ⟨rfl, hp ▸ B1.out⟩
  · have hn : n ≤ 20 := by omega
    have h0' : (n : Int) ≤ 20 := by omega
    have d0 : decide ((20 : Int) < n) = false := by simp; omega
    clear h0
    go_wp2_with fail
    refine (apartL_any i P1.out (by omega) (by omega)).mono ?_
    rintro e2 w2 ⟨⟨b, rfl, hb⟩, hb2⟩
    have K2 := Lib.hid (K1.out.below hb2 hk1)
    have B2 := Lib.hid (B1.out.trans (hb2.mono (by omega)))
    have P2 := Lib.hid (P1.out.below (hb2.mono (by omega)))
    have hk2 := K2.out.lt
    clear hb2 K1 B1 P1 hk1 k0 k1 k2 k3 k4 d0
    obtain ⟨k0, k1, k2, k3, k4⟩ := K2.out.five
    cases b with
    | false =>
      go_wp2
      go_ret
      exact ⟨rfl, hp ▸ B2.out⟩
    | true =>
      have HA := Lib.hid (hb.1 rfl)
      clear hb
      go_wp2_with fail
      refine (step_any i 4 P2.out (by omega) (by omega) HA.out HS.out (by decide)).mono ?_
      rintro e3 w3 ⟨rfl, hb3⟩
      have HA3 := Lib.hid (apart_if (step_self i 4 L) HA.out)
      have HS3 := Lib.hid (step_wf HS.out 4 L)
      have HX3 := Lib.hid (step_again HA.out)
      generalize stepI i 4 L = x at *
      generalize (!sameI x i) = bx at *
      have K3 := Lib.hid (K2.out.below hb3 hk2)
      have B3 := Lib.hid (B2.out.trans (hb3.mono (by omega)))
      have P3 := Lib.hid (P2.out.below (hb3.mono (by omega)))
      have hk3 := K3.out.lt
      have B4 := Lib.hid (B3.out.alloc (by omega) (.cells #[.int .i64 x.self, .int .i64 x.prio, .int .i64 x.state, .int .i64 x.dr, .int .i64 x.bdr] 23))
      have X4 := Lib.hid (Blk.new w3 23 #[.int .i64 x.self, .int .i64 x.prio, .int .i64 x.state, .int .i64 x.dr, .int .i64 x.bdr])
      have P4 := Lib.hid (P3.out.below ((Below.refl w3.heap.size w3).alloc (Nat.le_refl _) (.cells #[.int .i64 x.self, .int .i64 x.prio, .int .i64 x.state, .int .i64 x.dr, .int .i64 x.bdr] 23) |>.mono (by omega)))
      clear hb3 K2 B2 P2 hk2 k0 k1 k2 k3 k4
      obtain ⟨k0, k1, k2, k3, k4⟩ := X4.out.five
      go_wp2_with fail
      generalize hz : w3.heap.size = z at *
      generalize w3.alloc (.cells #[.int .i64 x.self, .int .i64 x.prio, .int .i64 x.state, .int .i64 x.dr, .int .i64 x.bdr] 23) = w4 at *
      have hx4 := X4.out.lt
      refine (step_any x 4 P4.out (by omega) (by omega) HA3.out HS3.out (by decide)).mono ?_
      rw [HX3.out, sameI_self]
      rintro e5 w5 ⟨rfl, hb5⟩
      have X5 := Lib.hid (X4.out.below hb5 hx4)
      have B5 := Lib.hid (B4.out.trans (hb5.mono (by omega)))
      have X6 := Lib.hid (X5.out.alloc (.cells #[.int .i64 x.self, .int .i64 x.prio, .int .i64 x.state, .int .i64 x.dr, .int .i64 x.bdr] 23))
      have Y6 := Lib.hid (Blk.new w5 23 #[.int .i64 x.self, .int .i64 x.prio, .int .i64 x.state, .int .i64 x.dr, .int .i64 x.bdr])
      have hzz := X5.out.lt
      have B6 := Lib.hid (B5.out.alloc (by omega) (.cells #[.int .i64 x.self, .int .i64 x.prio, .int .i64 x.state, .int .i64 x.dr, .int .i64 x.bdr] 23))
      have hEQ : ∀ W, (Op.equalIn 10000 23 (.agg #[.int .i64 x.self, .int .i64 x.prio, .int .i64 x.state, .int .i64 x.dr, .int .i64 x.bdr]) (.agg #[.int .i64 x.self, .int .i64 x.prio, .int .i64 x.state, .int .i64 x.dr, .int .i64 x.bdr])).run Try.prog W = .ok true W := fun W => by rw [equalI, sameI_self]
      clear hb5 X4 B4 P4 k0 k1 k2 k3 k4
      obtain ⟨k0, k1, k2, k3, k4⟩ := X6.out.five
      obtain ⟨j0, j1, j2, j3, j4⟩ := Y6.out.five
      go_wp2
      go_ret
      exact ⟨rfl, hp ▸ B6.out⟩
end Go.Proofs.Ytedlkoecnnmihaa
