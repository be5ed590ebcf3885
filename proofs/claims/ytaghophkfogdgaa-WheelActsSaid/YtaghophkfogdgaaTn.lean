/- The document's Same, of lists that are alike. Conditions: what the words say. -/
import Derived.Test.YtaghophkfogdgaaTm
namespace Go.Proofs.Ytaghophkfogdgaa
open Go.RowKit

set_option maxRecDepth 8000 in
set_option maxHeartbeats 4000000 in
theorem same_ref {w : World} {lo lo' n c c' : Nat} {A A' : Option Addr} {L : List Tm} (hO : w.ownsRow lo 33 6 (.slice A n c) n (cellsBy encTm L)) (hO' : w.ownsRow lo' 33 6 (.slice A' n c') n (cellsBy encTm L)) (hw : ∀ t ∈ L, wfTm t) :
    Calls Try.prog 12 #[.slice A n c, .slice A' n c'] w fun e w' => e = .returned (.bool true) ∧ Below w.heap.size w w' := by
  have hl := own_len encTm_len (by omega) hO
  have HO := Lib.hid hO
  have HO' := Lib.hid hO'
  have HW := Lib.hid hw
  clear hO hO' hw
  go_enter Try.func12, Try.ntmps12
  go_wp2_with fail
  go_loopw [5] (fun i wr => ∃ j : Nat, j ≤ n ∧ i = .int .i64 j ∧ Hid (Below w.heap.size w wr)) (fun i _ => n - (intOf i).toNat)
  case atStart => exact ⟨0, Nat.zero_le _, rfl, Lib.hid (Below.refl _ _)⟩
  case round =>
    obtain ⟨j, hj, rfl, hb⟩ := hrel
    by_cases hlt : j < n
    · have hlt' : (j : Int) < n := by omega
      obtain ⟨x, hx⟩ : ∃ x, L[j]? = some x := ⟨L[j]'(by omega), List.getElem?_eq_getElem (by omega)⟩
      obtain ⟨g, rfl, -, hgl2, hnc, hcm, y0, y1, y2, y3, y4, y5⟩ := own_tm (own_below2 HO.out hb.out) hx
      obtain ⟨g', rfl, -, hgl2', hnc', hcm', z0, z1, z2, z3, z4, z5⟩ := own_tm (own_below2 HO'.out hb.out) hx
      unfold maxLen at hcm hcm'
      have heq := fun W => equal_tm (HW.out x (List.mem_of_getElem? hx)) (HW.out x (List.mem_of_getElem? hx)) W
      have hd : decide (x = x) = true := decide_eq_true rfl
      rw [hd] at heq
      clear hx hd
      go_wp2_with fail
      go_quiet (fail)
      go_wp2
      go_roundw
      case rel => exact ⟨j + 1, by omega, by go_num, Lib.hid (below_drewN hb.out _)⟩
      case measure => simp [intOf]; omega
    · go_wp2
      go_ret
      exact ⟨rfl, hb.out⟩
end Go.Proofs.Ytaghophkfogdgaa
