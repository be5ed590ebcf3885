/- The reference of elections: whether numbers are unlike. No conditions. -/
import Derived.Test.YtedlkoecnnmihaaEj
import Derived.Test.YtedlkoecnnmihaaEk
import Derived.BigQuiet
namespace Go.Proofs.Ytedlkoecnnmihaa
open Go.RowKit
theorem apart_next {L : List Cd} {j : Nat} {x : Cd} (hx : L[j]? = some x) (h : ApartC (L.take j)) (h1 : 1 ≤ x.id) (hn : ∀ i y, i < j → L[i]? = some y → y.id ≠ x.id) : ApartC (L.take (j + 1)) := by
  rw [take_snocA L j x hx]
  refine ⟨?_, fun c hc => ?_⟩
  · rw [List.map_append, List.nodup_append]
    refine ⟨h.1, by simp, fun a ha b hb e => ?_⟩
    subst e
    obtain ⟨y, hy, e2⟩ := List.mem_map.1 ha
    obtain ⟨i, hi⟩ := List.getElem?_of_mem hy
    rw [List.getElem?_take] at hi
    split at hi
    · rename_i hij
      simp at hb
      exact hn i y hij hi (e2.trans hb)
    · cases hi
  · rcases List.mem_append.1 hc with hc | hc
    · exact h.2 c hc
    · rw [List.mem_singleton.1 hc]
      exact h1
theorem apart_not1 {L : List Cd} {x : Cd} (hx : x ∈ L) (h1 : x.id < 1) : ¬ ApartC L := fun h => by
  have := h.2 x hx
  omega
theorem apart_not2 {L : List Cd} {i j : Nat} {x y : Cd} (hi : L[i]? = some x) (hj : L[j]? = some y) (hij : i < j) (e : x.id = y.id) : ¬ ApartC L := fun h => by
  have := h.at_inj hi hj e
  omega

set_option maxRecDepth 8000 in
set_option maxHeartbeats 4000000 in
theorem apart_any {w : World} {B n c : Nat} {A : Option Addr} {L : List Cd} (hs : Cds w B A n L) (hB : B ≤ w.heap.size) (hn : n ≤ maxLen) :
    Calls Try.prog 13 #[.slice A n c] w fun e w' => (∃ r : Bool, e = .returned (.bool r) ∧ (r = true ↔ ApartC L)) ∧ Below w.heap.size w w' := by
  unfold maxLen at hn
  have HP := Lib.hid (hs.more hB)
  have HLEN := Lib.hid hs.1
  clear hs
  go_enter Try.func13, Try.ntmps13
  go_wp2_with fail
  go_loopw [3] (fun i wr => ∃ j : Nat, j ≤ n ∧ i = .int .i64 j ∧ Hid (ApartC (L.take j)) ∧ Hid (Below w.heap.size w wr)) (fun i _ => n - (intOf i).toNat)
  case atStart => exact ⟨0, Nat.zero_le _, rfl, Lib.hid ⟨by simp, fun c hc => by simp at hc⟩, Lib.hid (Below.refl _ _)⟩
  case round =>
    obtain ⟨j, hj, rfl, HA, HB⟩ := hrel
    by_cases hlt : j < n
    · have hlt' : (j : Int) < n := by omega
      obtain ⟨b, o, x, rfl, hbb, hx, hat⟩ := Arr.at (HP.out.below HB.out) hlt
      have HX := Lib.hid hx
      obtain ⟨y0, y1, y2, y3⟩ := hat
      clear hx
      by_cases h1 : x.id < 1
      · have d1 : decide (x.id < 1) = true := by simpa using h1
        have HR := Lib.hid (show ¬ ApartC L from apart_not1 (List.mem_of_getElem? HX.out) h1)
        clear h1
        go_wp2
        go_ret
        exact ⟨⟨false, rfl, by simp [HR.out]⟩, HB.out⟩
      · have d1 : decide (x.id < 1) = false := by simpa using h1
        have H1 := Lib.hid (show 1 ≤ x.id by omega)
        clear h1 y1 y2 y3
        go_wp2_with fail
        go_loopw [4] (fun i wx => ∃ m : Nat, m ≤ j ∧ i = .int .i64 m ∧ Hid (∀ i y, i < m → L[i]? = some y → y.id ≠ x.id) ∧ Hid (Below w.heap.size w wx)) (fun i _ => j - (intOf i).toNat)
        case atStart => exact ⟨0, Nat.zero_le _, rfl, Lib.hid (fun i y hi => by omega), HB⟩
        case round =>
          clear y0 hbb
          obtain ⟨m, hm, rfl, HM, HB2⟩ := hrel
          by_cases hlm : m < j
          · have hlm' : (m : Int) < j := by omega
            have hmn : (m : Int) < n := by omega
            obtain ⟨b1, o1, x1, e1, hb1, hx1, hat1⟩ := Arr.at (HP.out.below HB2.out) hlt
            obtain ⟨b2, o2, y, e2, hb2, hy, hat2⟩ := Arr.at (HP.out.below HB2.out) (show m < n by omega)
            injection e1 with e1
            injection e1 with e1 e1'
            subst e1 e1'
            injection e2 with e2
            injection e2 with e2 e2'
            subst e2 e2'
            obtain rfl : x = x1 := by rw [HX.out] at hx1; injection hx1
            have HY := Lib.hid hy
            obtain ⟨y0, -, -, -⟩ := hat1
            obtain ⟨z0, -, -, -⟩ := hat2
            clear hx1 hy hb1 hb2
            by_cases he : y.id = x.id
            · have dq : (y.id == x.id) = true := by simp [he]
              have HR := Lib.hid (show ¬ ApartC L from apart_not2 HY.out HX.out hlm he)
              clear he
              go_wp2_with fail
              go_quiet (fail)
              go_wp2
              go_ret
              exact ⟨⟨false, rfl, by simp [HR.out]⟩, below_drewN HB2.out _⟩
            · have dq : (y.id == x.id) = false := by simp [he]
              have HM2 := Lib.hid (show ∀ i y, i < m + 1 → L[i]? = some y → y.id ≠ x.id from fun i y' hi hy' => by
                rcases Nat.lt_or_ge i m with h | h
                · exact HM.out i y' h hy'
                · obtain rfl : i = m := by omega
                  rw [HY.out] at hy'
                  injection hy' with hy'
                  rw [← hy']
                  exact he)
              clear he
              go_wp2_with fail
              go_quiet (fail)
              go_wp2
              go_roundw
              case rel => exact ⟨m + 1, by omega, by go_num, HM2, Lib.hid (below_drewN HB2.out _)⟩
              case measure => simp [intOf]; omega
          · have hmj : m = j := by omega
            have HA2 := Lib.hid (show ApartC (L.take (j + 1)) from apart_next HX.out HA.out H1.out (by rw [← hmj]; exact HM.out))
            clear hmj
            go_wp2_with fail
            go_roundw
            case rel => exact ⟨j + 1, by omega, by go_num, HA2, HB2⟩
            case measure => simp [intOf]; omega
    · have hjn : j = n := by omega
      have HR := Lib.hid (show ApartC L by
        have := HA.out
        rwa [hjn, ← HLEN.out, List.take_length] at this)
      clear hjn
      go_wp2
      go_ret
      exact ⟨⟨true, rfl, by simp [HR.out]⟩, HB.out⟩

end Go.Proofs.Ytedlkoecnnmihaa
