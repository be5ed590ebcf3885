/- The reference's Of, and the call Good of package ipsum. Conditions: the slices read as bytes, at most 2^40 of them. -/
import Derived.Test.YtnjboddijdekgaaB
import Derived.Test.YtnjboddijdekgaaW
namespace Go.Proofs.Ytnjboddijdekgaa
open Go.RowKit

theorem tot_two (l : List Int) (k : Nat) (he : k % 2 = 0) (h : k + 1 < l.length) : tot (l.take (k + 2)) = tot (l.take k) + (256 * l.getD k 0 + l.getD (k + 1) 0) := by
  rw [take_snoc l (k + 1) h, take_snoc l k (by omega), tot_snoc, tot_snoc]
  simp only [List.length_append, List.length_take, List.length_cons, List.length_nil]
  unfold wgt
  rw [if_pos (by omega), if_neg (by omega)]
  omega
theorem tot_one (l : List Int) (k : Nat) (he : k % 2 = 0) (h : k + 1 = l.length) : tot (l.take (k + 2)) = tot (l.take k) + 256 * l.getD k 0 := by
  rw [List.take_of_length_le (by omega), ← List.take_of_length_le (l := l) (i := k + 1) (by omega), take_snoc l k (by omega), tot_snoc]
  simp only [List.length_take]
  unfold wgt
  rw [if_pos (by omega)]
  simp only [List.take_append, List.take_take, List.length_take]
  have e1 : min k k = k := by omega
  rw [e1]
  have e2 : k - min k l.length = 0 := by omega
  rw [e2, List.take_zero, List.append_nil]
  have e3 : (List.take k l ++ [l.getD k 0]).getD k 0 = l.getD k 0 := by
    rw [← take_snoc l k (by omega), List.take_of_length_le (by omega)]
  rw [e3]

set_option maxHeartbeats 1000000 in
theorem refOf_any (A : Option Addr) (n c B : Nat) (l : List Int) (w : World) (hr : Row .u8 w B A n l) (hby : Byt l) (hn : n ≤ 1099511627776) :
    Calls Try.prog 8 #[.slice A n c] w fun e w' => e = .returned (.int .i64 (sumOf l)) ∧ w = w' := by
  have HR := Lib.hid hr
  have HY := Lib.hid hby
  clear hr hby
  go_enter Try.func8, Try.ntmps8
  go_wp2_with fail
  go_loop [3, 4] (fun v i => ∃ (q : Nat) (f : Int), 2 * q ≤ n + 1 ∧ i = .int .i64 ((2 * q : Nat) : Int) ∧ v = .int .i64 f ∧ Hid (f = fold (tot (l.take (2 * q))))) (fun _ i => n + 1 - (intOf i).toNat)
  case atStart => exact ⟨0, 0, by omega, rfl, rfl, Lib.hid rfl⟩
  case round =>
    obtain ⟨q, f, hq, rfl, rfl, hf⟩ := hrel
    have hlen := HR.out.1
    have hf1 := fold_bd (tot (l.take (2 * q)))
    rw [← hf.out] at hf1
    generalize hk : 2 * q = k at *
    have HK := Lib.hid hk
    clear hk
    by_cases hlt : k < n
    · obtain ⟨b, o, rfl, hb, hc⟩ := HR.out.2 (by omega)
      have hx := hc k hlt
      have hbx := HY.out.getD k
      have ht0 := (tot_bd _ (HY.out.take k)).1
      have he : k % 2 = 0 := by have := HK.out; omega
      by_cases hlt2 : k + 1 < n
      · have hy := hc (k + 1) hlt2
        have hbyy := HY.out.getD (k + 1)
        have e1 := tot_two l k he (by omega)
        generalize l.getD k 0 = x at *
        generalize l.getD (k + 1) 0 = y at *
        have e2 := fold_add (tot (l.take k)) (256 * x + y) ht0 (by omega) (by omega)
        rw [← e1, ← hf.out] at e2
        have HE := Lib.hid e2
        clear e1 e2 hc hlen he ht0 hf
        by_cases hbig : 65535 < f + (256 * x + y)
        · have h2 := HE.out
          rw [if_pos hbig] at h2
          have H2 := Lib.hid h2
          clear h2 HE
          go_wp2
          go_round
          case rel => exact ⟨q + 1, f + (256 * x + y) - 65535, by have := HK.out; omega, by have := HK.out; go_num, by go_num, Lib.hid (by rw [← H2.out, ← HK.out]; rfl)⟩
          case measure => simp [intOf]; omega
        · have h2 := HE.out
          rw [if_neg hbig] at h2
          have H2 := Lib.hid h2
          clear h2 HE
          go_wp2
          go_round
          case rel => exact ⟨q + 1, f + (256 * x + y), by have := HK.out; omega, by have := HK.out; go_num, by go_num, Lib.hid (by rw [← H2.out, ← HK.out]; rfl)⟩
          case measure => simp [intOf]; omega
      · have e1 := tot_one l k he (by omega)
        generalize l.getD k 0 = x at *
        have e2 := fold_add (tot (l.take k)) (256 * x) ht0 (by omega) (by omega)
        rw [← e1, ← hf.out] at e2
        have HE := Lib.hid e2
        clear e1 e2 hc hlen he ht0 hf
        by_cases hbig : 65535 < f + 256 * x
        · have h2 := HE.out
          rw [if_pos hbig] at h2
          have H2 := Lib.hid h2
          clear h2 HE
          go_wp2
          go_round
          case rel => exact ⟨q + 1, f + 256 * x - 65535, by have := HK.out; omega, by have := HK.out; go_num, by go_num, Lib.hid (by rw [← H2.out, ← HK.out]; rfl)⟩
          case measure => simp [intOf]; omega
        · have h2 := HE.out
          rw [if_neg hbig] at h2
          have H2 := Lib.hid h2
          clear h2 HE
          go_wp2
          go_round
          case rel => exact ⟨q + 1, f + 256 * x, by have := HK.out; omega, by have := HK.out; go_num, by go_num, Lib.hid (by rw [← H2.out, ← HK.out]; rfl)⟩
          case measure => simp [intOf]; omega
    · have h2 := hf.out
      rw [List.take_of_length_le (by omega)] at h2
      have HF := Lib.hid (show 65535 - f = sumOf l by rw [h2]; rfl)
      clear h2 hlen hf
      go_wp2
      go_ret
      exact ⟨ret_int HF.out, rfl⟩

/-- Are bytes good? -/
def goodB (l : List Int) : Bool := decide (l.length % 2 = 0 ∧ 2 ≤ l.length ∧ sumOf l = 0)

theorem rows2_one {w : World} {A : Option Addr} {n c B : Nat} {l : List Int} (h : Row .u8 w B A n l) (hB : B ≤ w.heap.size) (hc : n ≤ c) (t : TypeId) : Rows2 (w.alloc (.cells #[.slice A n c] t)) (w.heap.size + 1) (some ⟨w.heap.size, 0, none⟩) 1 [l] := by
  refine ⟨rfl, fun _ => ⟨_, _, rfl, by omega, fun j hj => ?_⟩⟩
  obtain rfl : j = 0 := by omega
  refine ⟨A, n, c, ?_, hc, ?_⟩
  · rw [(Blk.new w t #[.slice A n c]).cell]; rfl
  · exact (h.alloc hB _).more (by omega)

set_option maxHeartbeats 1000000 in
theorem good_any (A : Option Addr) (n c B : Nat) (l : List Int) (w : World) (hr : Row .u8 w B A n l) (hby : Byt l) (hn : n ≤ 1099511627776) (hB : B ≤ w.heap.size) (hc : n ≤ c) :
    Calls Try.prog 9 #[.slice A n c] w fun e w' => e = .returned (.bool (goodB l)) ∧ Below w.heap.size w w' := by
  have HR := Lib.hid hr
  have HY := Lib.hid hby
  clear hr hby
  have hlen := HR.out.1
  go_enter Try.func9, Try.ntmps9
  go_wp2_with fail
  refine (even_any _ _).mono ?_
  rintro e1 w1 ⟨rfl, rfl⟩
  by_cases he : n % 2 = 0
  · have hd : decide ((n : Int) % 2 = 0) = true := by simp; omega
    rw [hd]
    clear hd
    by_cases h2 : 2 ≤ n
    · have HG := Lib.hid (show goodB l = decide (sumOf l = 0) by unfold goodB; rw [hlen]; simp [he, h2])
      clear hlen
      go_wp2_with fail
      refine (of_any _ 1 1 (w.heap.size + 1) [l] _ (rows2_one HR.out hB hc _) (by simpa using HY.out) (by simpa [HR.out.1] using hn) (by omega)).mono ?_
      rintro e2 w2 ⟨rfl, rfl⟩
      simp only [List.flatten_cons, List.flatten_nil, List.append_nil]
      go_wp2
      go_ret
      exact ⟨by rw [HG.out]; rfl, (Below.refl _ _).alloc (Nat.le_refl _) _⟩
    · have HG := Lib.hid (show goodB l = false by unfold goodB; rw [hlen]; simp [h2])
      clear hlen
      go_wp2
      go_ret
      exact ⟨by rw [HG.out]; rfl, Below.refl _ _⟩
  · have hd : decide ((n : Int) % 2 = 0) = false := by simp; omega
    rw [hd]
    have HG := Lib.hid (show goodB l = false by unfold goodB; rw [hlen]; simp [he])
    clear hd hlen
    go_wp2
    go_ret
    exact ⟨by rw [HG.out]; rfl, Below.refl _ _⟩
end Go.Proofs.Ytnjboddijdekgaa
