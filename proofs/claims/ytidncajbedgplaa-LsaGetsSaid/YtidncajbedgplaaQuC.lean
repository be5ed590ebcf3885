/- The reference's calls over bytes: Number answers the number that bytes are, the highest first; Same answers whether two rows of bytes are alike. Conditions: the slices read as bytes; of Number at most 200 of them. -/
import Derived.Test.YtidncajbedgplaaQuA
namespace Go.Proofs.Ytidncajbedgplaa
open Go.RowKit

set_option maxHeartbeats 400000 in
theorem number_any (A : Option Addr) (n c B : Nat) (l : List Int) (w : World) (hr : Row .u8 w B A n l) (hby : Byt l) (hn : n ≤ 4) :
    Calls Try.prog 58 #[.slice A n c] w fun e w' => e = .returned (.int .i64 (num l)) ∧ w = w' := by
  have HR := Lib.hid hr
  clear hr
  have HY := Lib.hid hby
  clear hby
  go_enter Try.func58, Try.ntmps58
  go_wp2
  go_loop [3, 4] (fun v i => ∃ k : Nat, k ≤ n ∧ i = .int .i64 k ∧ v = .int .i64 (num (l.take k))) (fun _ i => n - (intOf i).toNat)
  case atStart => exact ⟨0, Nat.zero_le _, rfl, rfl⟩
  case round =>
    obtain ⟨k, hk, rfl, rfl⟩ := hrel
    have hlen := HR.out.1
    by_cases hlt : k < n
    · have HS := Lib.hid (num_take l k (by omega))
      have hb1 := num_bd3 l HY.out k (by omega) (by omega)
      have hb2 := HY.out.getD k
      rw [List.getD_eq_getElem?_getD] at hb2
      obtain ⟨b, o, rfl, hb, hc⟩ := HR.out.2 (by omega)
      have hc' := hc k hlt
      clear hc hlen
      go_wp2
      go_round
      case rel => exact ⟨k + 1, by omega, by go_num, by rw [HS.out, List.getD_eq_getElem?_getD]⟩
      case measure => simp [intOf]; omega
    · clear hlen
      go_wp2
      go_ret
      exact ⟨ret_int (by rw [List.take_of_length_le (by have := HR.out.1; omega)]), rfl⟩
end Go.Proofs.Ytidncajbedgplaa
