/- Whether a statement takes what came in. No conditions. -/
import Derived.Test.YtnnkcgbnhjkahaaAz
import Derived.Test.YtnnkcgbnhjkahaaJas
namespace Go.Proofs.Ytnnkcgbnhjkahaa
open Go.RowKit Go.Lib Go.Sort Go.Deep

set_option maxRecDepth 8000 in
set_option maxHeartbeats 4000000 in
theorem many15_any (A : Option Addr) (n c : Nat) (T : List La) (B : Nat) (w : World) (h : Las w B A n T) (hB : B ≤ w.heap.size) (hn : n ≤ maxLen) :
    Calls Try.prog 25 #[.slice A n c] w fun e w' => (∃ t : Bool, e = .returned (.bool t) ∧ (t = false → n ≤ 60 ∧ ∀ a ∈ T, a.L.length ≤ 20 ∧ a.M.length ≤ 20)) ∧ Below w.heap.size w w' := by
  unfold maxLen at hn
  have HP := Lib.hid h
  clear h
  go_enter Try.func25, Try.ntmps25
  go_wp2_with fail
  go_loopw [7] (fun i wr => ∃ k : Nat, k ≤ n ∧ i = .int .i64 k ∧ Hid (∀ (m : Nat) (a : La), m < k → T[m]? = some a → a.L.length ≤ 20 ∧ a.M.length ≤ 20) ∧ Hid (Below w.heap.size w wr)) (fun i _ => n - (intOf i).toNat)
  case atStart => exact ⟨0, Nat.zero_le _, rfl, Lib.hid (fun m a hm => absurd hm (by omega)), Lib.hid (Below.refl _ _)⟩
  case round =>
    obtain ⟨k, hk, rfl, HA, hb⟩ := hrel
    have hsz := hb.out.size
    by_cases hlt : k < n
    · obtain ⟨b, o, a, A1, n1, c1, A2, n2, c2, rfl, hbb, hx, hr, hL, hM, hn1, hn2⟩ := las_item (HP.out.below (hb.out.mono hB)) hlt
      have hl1 := hL.1
      have hl2 := hM.1
      have HX := Lib.hid hx
      have HR := Lib.hid hr
      unfold maxLen at hn1 hn2
      clear hx hr hL hM
      have hlt' : (k : Int) < n := by omega
      have BN := Lib.hid (hb.out.alloc hsz (.cells #[.int .i64 a.h.age, .int .i64 a.h.kind, .int .i64 a.h.id, .int .i64 a.h.adv, .int .i64 a.h.seq, .int .i64 a.h.sum, .int .i64 a.h.long, .slice A1 n1 c1, .slice A2 n2 c2] 62))
      by_cases h1 : 20 < n1
      · have d1 : decide (20 < (n1 : Int)) = true := by simp; omega
        go_wp2_with (refine wpList_load_row 62 _ _ (by rfl) (.tmp 9) rfl (by rfl) HR.out Try.underlying62 rfl (by kernel_rfl) ?_)
        go_ret
        exact ⟨⟨true, rfl, fun h => by cases h⟩, BN.out⟩
      · have d1 : decide (20 < (n1 : Int)) = false := by simp; omega
        by_cases h2 : 20 < n2
        · have d2 : decide (20 < (n2 : Int)) = true := by simp; omega
          go_wp2_with (refine wpList_load_row 62 _ _ (by rfl) (.tmp 9) rfl (by rfl) HR.out Try.underlying62 rfl (by kernel_rfl) ?_)
          go_ret
          exact ⟨⟨true, rfl, fun h => by cases h⟩, BN.out⟩
        · have d2 : decide (20 < (n2 : Int)) = false := by simp; omega
          have HN := Lib.hid (show ∀ (m : Nat) (a : La), m < k + 1 → T[m]? = some a → a.L.length ≤ 20 ∧ a.M.length ≤ 20 from fun m a' hm ha => by
            by_cases hmk : m = k
            · subst hmk
              rw [HX.out] at ha
              injection ha with ha
              subst ha
              omega
            · exact HA.out m a' (by omega) ha)
          go_wp2_with (refine wpList_load_row 62 _ _ (by rfl) (.tmp 9) rfl (by rfl) HR.out Try.underlying62 rfl (by kernel_rfl) ?_)
          go_roundw
          case rel => exact ⟨k + 1, by omega, by go_num, HN, BN⟩
          case measure => simp [intOf]; omega
    · have HT := Lib.hid (show ∀ a ∈ T, a.L.length ≤ 20 ∧ a.M.length ≤ 20 from fun a ha => by
        obtain ⟨m, hm⟩ := List.getElem?_of_mem ha
        exact HA.out m a (by have := (List.getElem?_eq_some_iff.1 hm).1; have := HP.out.1; omega) hm)
      by_cases h3 : 60 < n
      · have d3 : decide (60 < (n : Int)) = true := by simp; omega
        go_wp2
        go_ret
        exact ⟨⟨true, rfl, fun h => by cases h⟩, hb.out⟩
      · have d3 : decide (60 < (n : Int)) = false := by simp; omega
        go_wp2
        go_ret
        exact ⟨⟨false, rfl, fun _ => ⟨by omega, HT.out⟩⟩, hb.out⟩
/-- What may answers. -/
def MayQ15 (n : Nat) (L : List Hd) (e : Ending) : Prop := ∃ t : Bool, e = .returned (.bool t) ∧ (t = true → n ≤ 50 ∧ ∀ x ∈ L, ageB x = true)
set_option maxRecDepth 8000 in
set_option maxHeartbeats 4000000 in
theorem may15_any (A : Option Addr) (n c : Nat) (L : List Hd) (B : Nat) (w : World) (h : Hds w B A n L) (hB : B ≤ w.heap.size) (hn : n ≤ maxLen) :
    Calls Try.prog 10 #[.slice A n c] w fun e w' => MayQ15 n L e ∧ Below w.heap.size w w' := by
  unfold maxLen at hn
  have HP := Lib.hid h
  clear h
  go_enter Try.func10, Try.ntmps10
  go_wp2_with fail
  go_loopw [7] (fun i wr => ∃ k : Nat, k ≤ n ∧ i = .int .i64 k ∧ Hid (∀ (m : Nat) (a : Hd), m < k → L[m]? = some a → ageB a = true) ∧ Hid (Below w.heap.size w wr)) (fun i _ => n - (intOf i).toNat)
  case atStart => exact ⟨0, Nat.zero_le _, rfl, Lib.hid (fun m a hm => absurd hm (by omega)), Lib.hid (Below.refl _ _)⟩
  case round =>
    obtain ⟨k, hk, rfl, HA, hb⟩ := hrel
    have hsz := hb.out.size
    by_cases hlt : k < n
    · obtain ⟨b, o, a, rfl, hbb, hx, hr⟩ := hds_item (HP.out.below (hb.out.mono hB)) hlt
      have HX := Lib.hid hx
      have HR := Lib.hid hr
      clear hx hr
      have hlt' : (k : Int) < n := by omega
      have BN := Lib.hid (hb.out.alloc hsz (.cells #[.int .i64 a.age, .int .i64 a.kind, .int .i64 a.id, .int .i64 a.adv, .int .i64 a.seq, .int .i64 a.sum, .int .i64 a.long] 38))
      by_cases h1 : a.age < 0
      · have d1 : decide (a.age < 0) = true := by simp; omega
        go_wp2_with (refine wpList_load_row 38 _ _ (by rfl) (.tmp 9) rfl (by rfl) HR.out Try.underlying38 rfl (by kernel_rfl) ?_)
        go_ret
        exact ⟨⟨false, rfl, fun h => by cases h⟩, BN.out⟩
      · have d1 : decide (a.age < 0) = false := by simp; omega
        by_cases h2 : 60 < a.age
        · have d2 : decide (60 < a.age) = true := by simp; omega
          go_wp2_with (refine wpList_load_row 38 _ _ (by rfl) (.tmp 9) rfl (by rfl) HR.out Try.underlying38 rfl (by kernel_rfl) ?_)
          go_ret
          exact ⟨⟨false, rfl, fun h => by cases h⟩, BN.out⟩
        · have d2 : decide (60 < a.age) = false := by simp; omega
          have HN := Lib.hid (show ∀ (m : Nat) (a : Hd), m < k + 1 → L[m]? = some a → ageB a = true from fun m a' hm ha => by
            by_cases hmk : m = k
            · subst hmk
              rw [HX.out] at ha
              injection ha with ha
              subst ha
              rw [ageB_iff]
              omega
            · exact HA.out m a' (by omega) ha)
          go_wp2_with (refine wpList_load_row 38 _ _ (by rfl) (.tmp 9) rfl (by rfl) HR.out Try.underlying38 rfl (by kernel_rfl) ?_)
          go_roundw
          case rel => exact ⟨k + 1, by omega, by go_num, HN, BN⟩
          case measure => simp [intOf]; omega
    · have HT := Lib.hid (show ∀ a ∈ L, ageB a = true from fun a ha => by
        obtain ⟨m, hm⟩ := List.getElem?_of_mem ha
        exact HA.out m a (by have := (List.getElem?_eq_some_iff.1 hm).1; have := HP.out.1; omega) hm)
      by_cases h3 : n ≤ 50
      · have d3 : decide ((n : Int) ≤ 50) = true := by simp; omega
        go_wp2
        go_ret
        exact ⟨⟨true, rfl, fun _ => ⟨h3, HT.out⟩⟩, hb.out⟩
      · have d3 : decide ((n : Int) ≤ 50) = false := by simp; omega
        go_wp2
        go_ret
        exact ⟨⟨false, rfl, fun h => by cases h⟩, hb.out⟩

end Go.Proofs.Ytnnkcgbnhjkahaa
