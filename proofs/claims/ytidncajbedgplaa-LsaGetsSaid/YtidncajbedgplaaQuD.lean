/- The Reader's calls Num and Bytes over a reader whose bytes are known. Conditions: the reader's three fields as they stand, and its bytes in another block. -/
import Derived.Test.YtidncajbedgplaaQuB
import Derived.Test.YtidncajbedgplaaQuC
namespace Go.Proofs.Ytidncajbedgplaa
open Go.RowKit

theorem ofInt_nat (a : Nat) (ha : a < 9223372036854775808) : (BitVec.ofInt 64 (a : Int)).toNat = a := by
  rw [BitVec.ofInt_natCast, BitVec.toNat_ofNat]; exact Nat.mod_eq_of_lt (by omega)
theorem or_low (x y : Int) (hx : 0 ≤ x) (hx' : x ≤ 16777215) (hy : 0 ≤ y) (hy' : y ≤ 255) : bits .or .i64 (x * 256) y = 256 * x + y := by
  obtain ⟨a, rfl⟩ := Int.eq_ofNat_of_zero_le hx
  obtain ⟨b, rfl⟩ := Int.eq_ofNat_of_zero_le hy
  have e1 : ((a : Int) * 256) = ((a * 256 : Nat) : Int) := by omega
  rw [e1]
  show IntKind.i64.wrap ((BitVec.ofInt 64 ((a * 256 : Nat) : Int) ||| BitVec.ofInt 64 (b : Int)).toNat : Int) = _
  rw [BitVec.toNat_or, ofInt_nat _ (by omega), ofInt_nat _ (by omega), IntKind.wrap_i64]
  have e2 := Nat.shiftLeft_add_eq_or_of_lt (i := 8) (b := b) (by omega) a
  rw [Nat.shiftLeft_eq] at e2
  have e3 : a * 256 ||| b = a * 256 + b := by rw [← e2]
  rw [e3]
  omega

set_option maxHeartbeats 400000 in
theorem num_nilr (k : Int) (w : World) : Calls Try.prog 35 #[.pointer none, .int .i64 k] w fun e' w' => e' = .returned (.int .i64 0) ∧ w = w' := by
  go_enter Try.func35, Try.ntmps35
  go_wp2_with fail
  refine (held_any _ _).mono ?_
  rintro e1 w1 ⟨rfl, rfl⟩
  go_wp2_with fail
  refine (take_nil _ _).mono ?_
  rintro e1 w1 ⟨rfl, rfl⟩
  go_wp2_with fail
  go_loop [5, 13] (fun v i => v = .int .i64 0 ∧ i = .int .i64 0) (fun _ _ => 0)
  case atStart => exact ⟨rfl, rfl⟩
  case round =>
    obtain ⟨rfl, rfl⟩ := hrel
    go_wp2
    go_ret
    exact ⟨rfl, rfl⟩

set_option maxHeartbeats 400000 in
theorem num_bad (g : Nat) (A : Option Addr) (n c : Nat) (a k e : Int) (w : World) (hb : Blk w g 72 #[.slice A n c, .int .i64 a, .int .i64 e]) (he : (e != 0) = true) :
    Calls Try.prog 35 #[.pointer (some ⟨g, 0, none⟩), .int .i64 k] w fun e' w' => e' = .returned (.int .i64 0) ∧ w.setCell ⟨g, 2, none⟩ (.int .i64 3) = w' := by
  have HB := Lib.hid hb
  have HE := Lib.hid he
  clear hb he
  go_enter Try.func35, Try.ntmps35
  go_wp2_with fail
  refine (held_any _ _).mono ?_
  rintro e1 w1 ⟨rfl, rfl⟩
  go_wp2_with fail
  refine (take_bad g A n c a _ e _ HB.out HE.out).mono ?_
  rintro e1 w1 ⟨rfl, rfl⟩
  go_wp2_with fail
  go_loop [5, 13] (fun v i => v = .int .i64 0 ∧ i = .int .i64 0) (fun _ _ => 0)
  case atStart => exact ⟨rfl, rfl⟩
  case round =>
    obtain ⟨rfl, rfl⟩ := hrel
    go_wp2
    go_ret
    exact ⟨rfl, rfl⟩

set_option maxHeartbeats 400000 in
theorem num_short (g : Nat) (A : Option Addr) (n c : Nat) (a k : Int) (w : World) (hb : Blk w g 72 #[.slice A n c, .int .i64 a, .int .i64 0]) (h0 : 0 ≤ a) (h1 : a ≤ n) (h2 : n ≤ maxLen) (hk : n - a < hold k) :
    Calls Try.prog 35 #[.pointer (some ⟨g, 0, none⟩), .int .i64 k] w fun e' w' => e' = .returned (.int .i64 0) ∧ ∃ d, w' = (w.setCell ⟨g, 2, none⟩ (.int .i64 3)).drewN d := by
  have HB := Lib.hid hb
  clear hb
  go_enter Try.func35, Try.ntmps35
  go_wp2_with fail
  refine (held_any _ _).mono ?_
  rintro e1 w1 ⟨rfl, rfl⟩
  go_wp2_with fail
  refine (take_short g A n c a _ _ HB.out h0 h1 h2 hk).mono ?_
  rintro e1 w1 ⟨rfl, d, rfl⟩
  go_wp2_with fail
  go_loop [5, 13] (fun v i => v = .int .i64 0 ∧ i = .int .i64 0) (fun _ _ => 0)
  case atStart => exact ⟨rfl, rfl⟩
  case round =>
    obtain ⟨rfl, rfl⟩ := hrel
    go_wp2
    go_ret
    exact ⟨rfl, d, rfl⟩

set_option maxHeartbeats 400000 in
theorem num_ok (g : Nat) (A : Option Addr) (n c B : Nat) (a k : Int) (l : List Int) (w : World) (hb : Blk w g 72 #[.slice A n c, .int .i64 a, .int .i64 0]) (h0 : 0 ≤ a) (h1 : a ≤ n) (h2 : n ≤ c) (h3 : c ≤ maxLen) (hk : hold k ≤ n - a)
    (hr : Row .u8 w B A n l) (hby : Byt l) (hg : B ≤ g) :
    Calls Try.prog 35 #[.pointer (some ⟨g, 0, none⟩), .int .i64 k] w fun e' w' => e' = .returned (.int .i64 (num ((l.drop a.toNat).take (hold k).toNat))) ∧ ∃ d, w' = (w.setCell ⟨g, 1, none⟩ (.int .i64 (a + hold k))).drewN d := by
  have HB := Lib.hid hb
  have HR := Lib.hid hr
  have HY := Lib.hid ((hby.drop a.toNat).take (hold k).toNat)
  clear hb hr hby
  have hk1 := hold_lo k
  have hk4 := hold_hi k
  go_enter Try.func35, Try.ntmps35
  go_wp2_with fail
  refine (held_any _ _).mono ?_
  rintro e1 w1 ⟨rfl, rfl⟩
  go_wp2_with fail
  refine (take_ok g A n c a _ _ HB.out h0 h1 h2 h3 (by omega) hk).mono ?_
  rintro e1 w1 ⟨A', c', d, rfl, hc1, hc2, hcut, rfl⟩
  have hrow := hcut _ _ _ _ ((HR.out.far (p := ⟨g, 1, none⟩) (fun b o e => by
    intro q
    obtain ⟨b', o', e', hlt, _⟩ := HR.out.2 (by omega)
    rw [e'] at e
    injection e with e
    injection e with e
    subst e
    simp at q
    omega) (.int .i64 (a + hold k))).drewN d)
  generalize hl : (l.drop a.toNat).take (hold k).toNat = l' at *
  generalize hm : (hold k).toNat = m at *
  have hm4 : m ≤ 4 := by omega
  clear hcut
  have HR' := Lib.hid hrow
  have HL := Lib.hid hl
  have HM := Lib.hid hm
  clear hrow hl hm
  go_wp2_with fail
  go_loop [5, 13] (fun v i => ∃ j : Nat, j ≤ m ∧ i = .int .i64 j ∧ v = .int .i64 (num (l'.take j))) (fun _ i => m - (intOf i).toNat)
  case atStart => exact ⟨0, Nat.zero_le _, rfl, rfl⟩
  case round =>
    obtain ⟨j, hj, rfl, rfl⟩ := hrel
    have hlen := HR'.out.1
    by_cases hlt : j < m
    · have HS := Lib.hid (num_take l' j (by omega))
      have hb1 := num_bd3 l' HY.out j (by omega) (by omega)
      have hb2 := HY.out.getD j
      rw [List.getD_eq_getElem?_getD] at hb2
      obtain ⟨b, o, rfl, hb, hc⟩ := HR'.out.2 (by omega)
      have hc' := hc j hlt
      clear hc hlen
      go_wp2
      go_round
      case rel => exact ⟨j + 1, by omega, by go_num, by rw [HS.out, List.getD_eq_getElem?_getD, or_low _ _ hb1.1 hb1.2 hb2.1 hb2.2]⟩
      case measure => simp [intOf]; omega
    · clear hlen
      go_wp2
      go_ret
      exact ⟨ret_int (by rw [List.take_of_length_le (by have := HR'.out.1; omega), HM.out, HL.out]), d, rfl⟩

end Go.Proofs.Ytidncajbedgplaa
