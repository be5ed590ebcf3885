/- The state of a neighbor behind some events, the program's; the example. Conditions: at most maxLen events. -/
import Derived.Test.YtohfoopagbajnaaDoorNc
namespace Go.Proofs.YtohfoopagbajnaaDoor
open Go.RowKit Go.Deep
theorem Row.at {w : World} {B n : Nat} {A : Option Addr} {L : List Int} (h : Row .i64 w B A n L) {k : Nat} (hk : k < n) : ∃ b o x, A = some ⟨b, o, none⟩ ∧ b < B ∧ L[k]? = some x ∧ w.cell? ⟨b, o + k, none⟩ = some (.int .i64 x) := by
  obtain ⟨b, o, e, hb, hc⟩ := h.2 (by omega)
  have hl := h.1
  have hx : L[k]? = some (L[k]'(by omega)) := List.getElem?_eq_getElem (by omega)
  have := hc k hk
  rw [List.getD_eq_getElem?_getD, hx] at this
  exact ⟨b, o, _, e, hb, hx, this⟩

set_option maxRecDepth 8000 in
set_option maxHeartbeats 4000000 in
theorem path_any {w : World} {B n c : Nat} {A : Option Addr} {L : List Int} (hL : Row .i64 w B A n L) (hB : B ≤ w.heap.size) (hn : n ≤ maxLen) (hT : Tab w) :
    Calls Tryd.prog 10 #[.slice A n c] w fun x w' => x = .returned (.int .i64 (pathF L)) ∧ Below w.heap.size w w' := by
  have HL := Lib.hid (hL.more hB)
  have HT := Lib.hid hT
  have hlen := hL.1
  unfold maxLen at hn
  clear hL hB hT
  obtain ⟨v, hv⟩ : ∃ v, v = pathF L := ⟨_, rfl⟩
  rw [← hv]
  have HV := Lib.hid hv
  clear hv
  go_enter Tryd.func10, Tryd.ntmps10
  go_wp2_with fail
  go_loopw [3, 8] (fun s i wr => ∃ k : Nat, k ≤ n ∧ i = .int .i64 k ∧ s = .int .i64 (pathF (L.take k)) ∧ Hid (Below w.heap.size w wr)) (fun s i _ => n - (intOf i).toNat)
  case atStart => exact ⟨0, Nat.zero_le _, rfl, rfl, Lib.hid (Below.refl _ _)⟩
  case round =>
    obtain ⟨k, hk, rfl, rfl, hb⟩ := hrel
    have hsz := hb.out.size
    by_cases hlt : k < n
    · have hlt' : (k : Int) < n := by omega
      obtain ⟨b, o, x, rfl, hb1, hx, hc⟩ := (HL.out.below hb.out).at hlt
      have HX := Lib.hid (show stepF (pathF (L.take k)) x true = pathF (L.take (k + 1)) by rw [take_snocA L k x hx, pathF_snoc])
      clear hx
      generalize pathF (L.take k) = s at *
      go_wp2_with fail
      refine (step_any s x true wr (HT.out.next hb.out)).mono ?_
      rintro x2 w2 ⟨rfl, hb2⟩
      rw [HX.out]
      have B2 := Lib.hid (hb.out.trans (hb2.mono hsz))
      clear hb2
      go_wp2_with fail
      go_roundw
      case rel => exact ⟨k + 1, by omega, by go_num, rfl, B2⟩
      case measure => simp [intOf]; omega
    · obtain rfl : k = n := by omega
      have HE := Lib.hid (show pathF (L.take k) = v by rw [HV.out, List.take_of_length_le (by omega)])
      rw [HE.out]
      go_wp2
      go_ret
      exact ⟨rfl, hb.out⟩
theorem path_none {w : World} (hT : Tab w) : Calls Tryd.prog 10 #[.slice none 0 0] w fun x w' => x = .returned (.int .i64 0) ∧ Below w.heap.size w w' := by
  have h : Row .i64 w w.heap.size none 0 [] := Row.nil
  exact path_any h (Nat.le_refl _) (Nat.zero_le _) hT

theorem row_blk2 {w : World} {g : Nat} {t : TypeId} {x y : Int} (h : Blk w g t #[.int .i64 x, .int .i64 y]) : Row .i64 w (g + 1) (some ⟨g, 0, none⟩) 2 [x, y] :=
  ⟨rfl, fun _ => ⟨g, 0, rfl, by omega, fun j hj => by
    rw [h.cell]
    match j, hj with
    | 0, _ => rfl
    | 1, _ => rfl⟩⟩
set_option maxRecDepth 8000 in
set_option maxHeartbeats 2000000 in
theorem wakes_any {w : World} (hT : Tab w) : Calls Tryd.prog 7 #[] w fun x w' => x = .returned (.bool true) ∧ Below w.heap.size w w' := by
  have HT := Lib.hid hT
  clear hT
  have B0 := Lib.hid ((Below.refl w.heap.size w).alloc (Nat.le_refl _) (.cells #[.int .i64 0, .int .i64 1] 3))
  have K0 := Lib.hid (Blk.new w 3 #[.int .i64 0, .int .i64 1])
  go_enter Tryd.func7, Tryd.ntmps7
  go_wp2_with fail
  have HR : Row .i64 (w.alloc (.cells #[.int .i64 0, .int .i64 1] 3)) (w.heap.size + 1) (some ⟨w.heap.size, 0, none⟩) 2 [0, 1] := row_blk2 K0.out
  refine (path_any HR (by simp) (by decide) (HT.out.next B0.out)).mono ?_
  rintro x2 w2 ⟨rfl, hb2⟩
  rw [show pathF [0, 1] = 3 from by decide]
  have B2 := Lib.hid (B0.out.trans (hb2.mono (by simp)))
  clear hb2
  go_wp2
  go_ret
  exact ⟨rfl, B2.out⟩
end Go.Proofs.YtohfoopagbajnaaDoor
