/- The walk of the statement NearOthers. No conditions. -/
import Derived.Test.YtohfoopagbajnaaDoorNe
namespace Go.Proofs.YtohfoopagbajnaaDoor
open Go.RowKit Go.Deep
set_option maxRecDepth 8000 in
set_option maxHeartbeats 4000000 in
theorem others_walk {n c : Nat} {A : Option Addr} {L : List Int} (w : World) (hL : Row .i64 w w.heap.size A n L) (hT : Tab w) : Calls Tryd.prog 6 #[.slice A n c] w fun x w' => x = .returned (.bool true) ∧ Below w.heap.size w w' := by
  have HT := Lib.hid hT
  have HL := Lib.hid hL
  clear hT hL
  go_enter Tryd.func6, Tryd.ntmps6
  go_wp2_with fail
  refine (wakes_any HT.out).mono ?_
  rintro e1 w1 ⟨rfl, hb1⟩
  have B1 := Lib.hid hb1
  have T1 := Lib.hid (HT.out.next hb1)
  have L1 := Lib.hid (HL.out.below hb1)
  have hs1 := hb1.size
  clear hb1 HT HL
  by_cases hn : 100 < n
  · have hn' : (100 : Int) < n := by omega
    go_wp2
    go_ret
    exact ⟨rfl, B1.out⟩
  have hn' : ¬ (100 : Int) < n := by omega
  go_wp2_with fail
  go_loopw [3, 13] (fun s i wr => ∃ (k : Nat) (v : Int), k ≤ n ∧ i = .int .i64 k ∧ s = .int .i64 v ∧ 0 ≤ v ∧ v ≤ 2 ∧ Hid (Below w1.heap.size w1 wr)) (fun s i _ => n - (intOf i).toNat)
  case atStart => exact ⟨0, 0, Nat.zero_le _, rfl, rfl, by omega, by omega, Lib.hid (Below.refl _ _)⟩
  case round =>
    obtain ⟨k, s, hk, rfl, rfl, hv0, hv1, hb⟩ := hrel
    have hsz := hb.out.size
    by_cases hlt : k < n
    · have hlt' : (k : Int) < n := by omega
      have hrow := L1.out.below (hb.out.mono hs1)
      obtain ⟨b, o, x, rfl, hb1, hx, hc⟩ := hrow.at hlt
      clear hx hrow
      have H2 := step_others x ⟨hv0, hv1⟩
      go_wp2_with fail
      refine (step_any s x false wr (T1.out.next hb.out)).mono ?_
      rintro x2 w2 ⟨rfl, hb2⟩
      have B2 := Lib.hid (hb.out.trans (hb2.mono hsz))
      clear hb2
      generalize stepF s x false = v at *
      have hv2 : ¬ (2 : Int) < v := by omega
      go_wp2_with fail
      go_roundw
      case rel => exact ⟨k + 1, v, by omega, by go_num, rfl, H2.1, H2.2, B2⟩
      case measure => simp [intOf]; omega
    · obtain rfl : k = n := by omega
      go_wp2
      go_ret
      exact ⟨rfl, B1.out.trans (hb.out.mono hs1)⟩
end Go.Proofs.YtohfoopagbajnaaDoor
