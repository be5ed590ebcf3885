/- The example that each statement on lsa asks first, and whether a description is more than a statement takes. No conditions. -/
import Derived.Test.YtidncajbedgplaaLtB
import Derived.Test.YtidncajbedgplaaLtC
import Derived.Test.YtidncajbedgplaaLtD
import Derived.Test.YtidncajbedgplaaW
namespace Go.Proofs.Ytidncajbedgplaa
open Go.RowKit

/-- The example's head. -/
def exHd : Hd := ⟨0, 1, 1, 1, 0, 0, 0⟩
theorem ex_right : rightB exHd [] [] = true := by decide
theorem ex_len : (lsaBytes exHd [] []).length = 24 := by
  rw [lsaBytes_length]
  rfl
theorem ex_get : gErr (lsaBytes exHd [] []) = 0 := by
  have := (get_put ex_right []).1
  rwa [List.append_nil] at this

set_option maxHeartbeats 4000000 in
theorem wakes_any (w : World) : Calls Try.prog 8 #[] w fun x w' => x = .returned (.bool true) ∧ Below w.heap.size w w' := by
  go_enter Try.func8, Try.ntmps8
  go_wp2_with fail
  refine (lput_yes exHd [] [] none none 0 0 0 0 0 24 _ Lnk.nil Row.nil (Nat.zero_le _) (by omega) (by omega) ex_right ex_len).mono ?_
  rintro e1 w1 ⟨v1, rfl, ha1⟩
  obtain ⟨A1, c1, rfl, hc1, hm1, hr1⟩ := ha1.form
  have R1 := Lib.hid hr1
  have B1 := Lib.hid ha1.2
  have C1 := Lib.hid hm1
  clear ha1 hr1
  go_wp2_with fail
  refine (get_any A1 24 c1 w1.heap.size _ _ R1.out (lsaBytes_byt _ _ _) (Nat.le_refl _) (by omega) hc1 C1.out).mono ?_
  rintro e2 w2 ⟨A2, n2, c2, A3, n3, c3, rfl, -, -, -, -, hb2⟩
  rw [ex_get]
  have B2 := Lib.hid (B1.out.trans (hb2.mono B1.out.size))
  clear hb2 R1 B1
  generalize gHead (lsaBytes exHd [] []) = h at *
  go_wp2_with fail
  refine (get_any none 0 0 0 [] _ Row.nil Byt.nil (Nat.zero_le _) (by omega) (by omega) (by unfold maxLen; omega)).mono ?_
  rintro e3 w3 ⟨A4, n4, c4, A5, n5, c5, rfl, -, -, -, -, hb3⟩
  rw [show gErr [] = 3 by rfl]
  have B3 := Lib.hid ((B2.out.alloc B2.out.size _).trans (hb3.mono (by have := B2.out.size; simp; omega)))
  clear hb3 B2
  generalize gHead [] = h2 at *
  go_wp2
  go_ret
  exact ⟨rfl, B3.out.alloc B3.out.size _⟩

set_option maxHeartbeats 2000000 in
theorem long_yes (h : Hd) (A A' : Option Addr) (n c n' c' : Nat) (w : World) (hn : n ≤ maxLen) (hn' : n' ≤ maxLen) (hl : 50 < n ∨ 50 < n') :
    Calls Try.prog 9 #[.agg #[.int .i64 h.age, .int .i64 h.kind, .int .i64 h.id, .int .i64 h.adv, .int .i64 h.seq, .int .i64 h.sum, .int .i64 h.long, .slice A n c, .slice A' n' c']] w fun e w' => e = .returned (.bool true) ∧ Below w.heap.size w w' := by
  unfold maxLen at hn hn'
  by_cases h1 : 50 < n
  · clear hl
    go_enter Try.func9, Try.ntmps9
    go_wp2
    go_ret
    exact ⟨ret_bool (by simp), (Below.refl _ _).alloc (Nat.le_refl _) _⟩
  · have h2 : 50 < n' := by omega
    clear hl
    go_enter Try.func9, Try.ntmps9
    go_wp2
    go_ret
    exact ⟨ret_bool (by simp; omega), (Below.refl _ _).alloc (Nat.le_refl _) _⟩
set_option maxHeartbeats 2000000 in
theorem long_no (h : Hd) (A A' : Option Addr) (n c n' c' : Nat) (w : World) (h1 : n ≤ 50) (h2 : n' ≤ 50) :
    Calls Try.prog 9 #[.agg #[.int .i64 h.age, .int .i64 h.kind, .int .i64 h.id, .int .i64 h.adv, .int .i64 h.seq, .int .i64 h.sum, .int .i64 h.long, .slice A n c, .slice A' n' c']] w fun e w' => e = .returned (.bool false) ∧ Below w.heap.size w w' := by
  go_enter Try.func9, Try.ntmps9
  go_wp2
  go_ret
  exact ⟨ret_bool (by simp; omega), (Below.refl _ _).alloc (Nat.le_refl _) _⟩
end Go.Proofs.Ytidncajbedgplaa
