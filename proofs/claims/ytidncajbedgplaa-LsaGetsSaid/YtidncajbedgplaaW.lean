/- The reference's call Same: two rows of bytes that are alike. Conditions: the slices read as bytes. -/
import Derived.Test.YtidncajbedgplaaR
namespace Go.Proofs.Ytidncajbedgplaa
open Go.RowKit

set_option maxHeartbeats 400000 in
/-- Two rows of bytes that are alike. -/
theorem same_yes (A A' : Option Addr) (n c c' B B' : Nat) (l : List Int) (w : World) (hr : Row .u8 w B A n l) (hr' : Row .u8 w B' A' n l) (hn : n ≤ maxLen) :
    Calls Try.prog 16 #[.slice A n c, .slice A' n c'] w fun e w' => e = .returned (.bool true) ∧ ∃ d, w' = w.drewN d := by
  unfold maxLen at hn
  have HR := Lib.hid hr
  have HR' := Lib.hid hr'
  clear hr hr'
  go_enter Try.func16, Try.ntmps16
  go_wp2
  go_loopw [5] (fun i wr => ∃ k d : Nat, k ≤ n ∧ i = .int .i64 k ∧ wr = w.drewN d) (fun i _ => n - (intOf i).toNat)
  case atStart => exact ⟨0, 0, Nat.zero_le _, rfl, rfl⟩
  case round =>
    obtain ⟨k, d, hk, rfl, rfl⟩ := hrel
    by_cases hlt : k < n
    · obtain ⟨b, o, rfl, hb, hc⟩ := HR.out.2 (by omega)
      obtain ⟨b', o', rfl, hb', hc'⟩ := HR'.out.2 (by omega)
      have hx := hc k hlt
      have hy := hc' k hlt
      clear hc hc'
      have hlt' : (k : Int) < n := by omega
      go_wp2
      go_quiet (fail)
      go_wp2
      go_roundw
      case rel => exact ⟨k + 1, _, by omega, by go_num, rfl⟩
      case measure => simp [intOf]; omega
    · go_wp2
      go_ret
      exact ⟨rfl, _, rfl⟩
end Go.Proofs.Ytidncajbedgplaa
