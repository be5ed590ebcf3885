/- The statements' small calls: wakes, many, begins. Conditions: what the words say. -/
import Derived.Test.YtjinleakjkbbgaaBk
namespace Go.Proofs.Ytjinleakjkbbgaa
open Go.RowKit Go.Lib Go.Sort Go.Deep

def exW : Ex := ⟨1, 2, 9, true, false, false, ⟨true, true, true, 9⟩, ⟨false, false, false, 9⟩, []⟩
theorem hear_w : hearE (newE 1 2 5) ⟨true, true, true, 9⟩ 0 [] = (2, exW) := by rfl
theorem told_nil : Told [] [] := ⟨List.Pairwise.nil, Stab.refl _⟩
set_option maxRecDepth 8000 in
set_option maxHeartbeats 4000000 in
theorem wakes14 (w : World) : Calls Try.prog 8 #[] w fun e w' => e = .returned (.bool true) ∧ Below w.heap.size w w' := by
  go_enter Try.func8, Try.ntmps8
  go_wp2_with fail
  refine (newX_any 1 2 5 w).mono ?_
  rintro e1 w1 ⟨rfl, hx1, hb1⟩
  have X1 := Lib.hid hx1
  have B1 := Lib.hid hb1
  have HZ := Lib.hid hx1.lt
  clear hx1 hb1
  go_wp2_with fail
  refine (hearX ⟨true, true, true, 9⟩ (Ah := none) (nh := 0) (ch := 0) (A := none) (n := 0) (c := 0) (B := w.heap.size) (S := []) (K := []) (by decide) (by decide) X1.out (fun q hq => by rw [hq]; exact HZ.out) Arr.nil B1.out.size (fun q hq => by rw [hq]; exact Nat.le_refl _) (by decide) told_nil).mono ?_
  rintro e2 w2 ⟨rfl, hx2, hc2⟩
  rw [hear_w] at hx2 ⊢
  obtain ⟨h, hB, hh⟩ := hx2.mem
  have B2 := Lib.hid (B1.out.trans (hc2.to_below (B := w.heap.size) (fun q hq => by rw [hq]; exact Nat.le_refl _) B1.out.size))
  have hok := hx2.ok
  clear hx2 hc2 X1 B1 HZ hh
  obtain ⟨z, hz⟩ : ∃ z, w.heap.size = z := ⟨_, rfl⟩
  rw [hz] at hB ⊢
  rw [hz] at B2
  have HZ := Lib.hid hz
  clear hz
  go_wp2_with fail
  refine (agreedX hB).mono ?_
  rintro e3 w3 ⟨rfl, h3⟩
  rw [h3]
  clear h3 w3
  go_wp2_with fail
  refine (leadsX hB).mono ?_
  rintro e3 w3 ⟨rfl, h3⟩
  rw [h3]
  clear h3 w3
  go_wp2_with fail
  refine (seqX hok hB).mono ?_
  rintro e3 w3 ⟨rfl, h3⟩
  rw [h3]
  clear h3 w3
  go_wp2
  go_ret
  rw [HZ.out]
  exact ⟨rfl, B2.out⟩
set_option maxRecDepth 8000 in
set_option maxHeartbeats 4000000 in
theorem many14 (A : Option Addr) (n c : Nat) (T : List La) (B : Nat) (w : World) (h : Las w B A n T) (hB : B ≤ w.heap.size) (hn : n ≤ maxLen) :
    Calls Try.prog 9 #[.slice A n c] w fun e w' => (∃ t : Bool, e = .returned (.bool t) ∧ (t = false → n ≤ 60 ∧ ∀ a ∈ T, a.L.length ≤ 20 ∧ a.M.length ≤ 20)) ∧ Below w.heap.size w w' := by
  unfold maxLen at hn
  have HP := Lib.hid h
  clear h
  go_enter Try.func9, Try.ntmps9
  go_wp2_with fail
  go_loopw [7] (fun i wr => ∃ k : Nat, k ≤ n ∧ i = .int .i64 k ∧ Hid (∀ (m : Nat) (a : La), m < k → T[m]? = some a → a.L.length ≤ 20 ∧ a.M.length ≤ 20) ∧ Hid (Below w.heap.size w wr)) (fun i _ => n - (intOf i).toNat)
  case atStart => exact ⟨0, Nat.zero_le _, rfl, Lib.hid (fun m a hm => absurd hm (by omega)), Lib.hid (Below.refl _ _)⟩
  case round =>
    obtain ⟨k, hk, rfl, HA, hb⟩ := hrel
    have hsz := hb.out.size
    by_cases hlt : k < n
    · obtain ⟨b, o, a, A1, n1, c1, A2, n2, c2, rfl, hbb, hx, hr, hL, hM, hn1, hn2⟩ := las_item (HP.out.below (hb.out.mono hB)) hlt
      have hl1 := hL.1
      have hl2 := hM.1
      have HX := Lib.hid hx
      have HR := Lib.hid hr
      unfold maxLen at hn1 hn2
      clear hx hr hL hM
      have hlt' : (k : Int) < n := by omega
      have BN := Lib.hid (hb.out.alloc hsz (.cells #[.int .i64 a.h.age, .int .i64 a.h.kind, .int .i64 a.h.id, .int .i64 a.h.adv, .int .i64 a.h.seq, .int .i64 a.h.sum, .int .i64 a.h.long, .slice A1 n1 c1, .slice A2 n2 c2] 62))
      by_cases h1 : 20 < n1
      · have d1 : decide (20 < (n1 : Int)) = true := by simp; omega
        go_wp2_with (refine wpList_load_row 62 _ _ (by rfl) (.tmp 9) rfl (by rfl) HR.out Try.underlying62 rfl (by kernel_rfl) ?_)
        go_ret
        exact ⟨⟨true, rfl, fun h => by cases h⟩, BN.out⟩
      · have d1 : decide (20 < (n1 : Int)) = false := by simp; omega
        by_cases h2 : 20 < n2
        · have d2 : decide (20 < (n2 : Int)) = true := by simp; omega
          go_wp2_with (refine wpList_load_row 62 _ _ (by rfl) (.tmp 9) rfl (by rfl) HR.out Try.underlying62 rfl (by kernel_rfl) ?_)
          go_ret
          exact ⟨⟨true, rfl, fun h => by cases h⟩, BN.out⟩
        · have d2 : decide (20 < (n2 : Int)) = false := by simp; omega
          have HN := Lib.hid (show ∀ (m : Nat) (a : La), m < k + 1 → T[m]? = some a → a.L.length ≤ 20 ∧ a.M.length ≤ 20 from fun m a' hm ha => by
            by_cases hmk : m = k
            · subst hmk
              rw [HX.out] at ha
              injection ha with ha
              subst ha
              omega
            · exact HA.out m a' (by omega) ha)
          go_wp2_with (refine wpList_load_row 62 _ _ (by rfl) (.tmp 9) rfl (by rfl) HR.out Try.underlying62 rfl (by kernel_rfl) ?_)
          go_roundw
          case rel => exact ⟨k + 1, by omega, by go_num, HN, BN⟩
          case measure => simp [intOf]; omega
    · have HT := Lib.hid (show ∀ a ∈ T, a.L.length ≤ 20 ∧ a.M.length ≤ 20 from fun a ha => by
        obtain ⟨m, hm⟩ := List.getElem?_of_mem ha
        exact HA.out m a (by have := (List.getElem?_eq_some_iff.1 hm).1; have := HP.out.1; omega) hm)
      by_cases h3 : 60 < n
      · have d3 : decide (60 < (n : Int)) = true := by simp; omega
        go_wp2
        go_ret
        exact ⟨⟨true, rfl, fun h => by cases h⟩, hb.out⟩
      · have d3 : decide (60 < (n : Int)) = false := by simp; omega
        go_wp2
        go_ret
        exact ⟨⟨false, rfl, fun _ => ⟨by omega, HT.out⟩⟩, hb.out⟩
set_option maxRecDepth 8000 in
set_option maxHeartbeats 4000000 in
theorem begins_yes {w : World} {A A' : Option Addr} {n c n' c' B B' : Nat} {L L' : List Hd} (hL : Hds w B A n L) (hL' : Hds w B' A' n' L') (hB : B ≤ w.heap.size) (hB' : B' ≤ w.heap.size) (hn : n ≤ 1000) (hc : n' ≤ c') (h1 : L.length ≤ L'.length) (h2 : L = L'.take L.length) :
    Calls Try.prog 18 #[.slice A n c, .slice A' n' c'] w fun e w' => e = .returned (.bool true) ∧ ∃ q, w' = w.drewN q := by
  have hl := hL.1
  have hl' := hL'.1
  have d1 : decide ((n : Int) ≤ (n' : Int)) = true := by simp; omega
  have HP := Lib.hid (hL'.take n (by omega))
  have H1 := Lib.hid hL
  have HE := Lib.hid (show L = L'.take n by rw [← hl]; exact h2)
  have hle : n ≤ n' := by omega
  have hcn : (n : Int) ≤ (c' : Int) := by omega
  have hnn : n ≤ c' := by omega
  clear hL hL' h1 h2
  go_enter Try.func18, Try.ntmps18
  go_wp2_with fail
  refine (same13_yes H1.out HP.out hB hB' hn (by omega) HE.out).mono ?_
  rintro e1 w1 ⟨rfl, q, rfl⟩
  go_wp2
  go_ret
  exact ⟨rfl, q, rfl⟩
end Go.Proofs.Ytjinleakjkbbgaa
