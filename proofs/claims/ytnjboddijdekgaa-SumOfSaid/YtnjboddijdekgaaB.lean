/- The call Of of package ipsum. Conditions: what is handed in reads as rows of bytes, at most 2^40 of them in all. -/
import Derived.Test.YtnjboddijdekgaaA
namespace Go.Proofs.Ytnjboddijdekgaa
open Go.RowKit

/-- A slice value '.slice A n c' whose elements are slices of bytes, that read as ls; what they lead to lies below block B. -/
def Rows2 (w : World) (B : Nat) (A : Option Addr) (n : Nat) (ls : List (List Int)) : Prop :=
  ls.length = n ∧ (0 < n → ∃ b o, A = some ⟨b, o, none⟩ ∧ b < B ∧ ∀ j, j < n → ∃ A' m c, w.cell? ⟨b, o + j, none⟩ = some (.slice A' m c) ∧ m ≤ c ∧ Row .u8 w B A' m (ls.getD j []))
section
variable {w w' : World} {B B' n : Nat} {A : Option Addr} {ls : List (List Int)}
theorem Rows2.nil : Rows2 w B A 0 [] := ⟨rfl, fun h => absurd h (by omega)⟩
theorem Rows2.below (h : Rows2 w B A n ls) (hb : Below B w w') : Rows2 w' B A n ls :=
  ⟨h.1, fun hn => by
    obtain ⟨b, o, e, hB, hc⟩ := h.2 hn
    refine ⟨b, o, e, hB, fun j hj => ?_⟩
    obtain ⟨A', m, c, h1, h2, h3⟩ := hc j hj
    exact ⟨A', m, c, (hb.cell (p := ⟨b, o + j, none⟩) hB).trans h1, h2, h3.below hb⟩⟩
end

/-- Behind the bytes l: their sum, and how far the next one is shifted. -/
def Acc (l : List Int) (x s : Int) : Prop := x = tot l ∧ s = (if l.length % 2 = 0 then 8 else 0)
theorem Acc.nil : Acc [] 0 8 := ⟨rfl, rfl⟩
theorem Acc.or {l : List Int} {x s : Int} (h : Acc l x s) : s = 8 ∨ s = 0 := by
  have := h.2
  split at this <;> omega
theorem Acc.hi {l : List Int} {x : Int} (h : Acc l x 8) (y : Int) : Acc (l ++ [y]) (x + y * 256) 0 := by
  have h2 := h.2
  split at h2
  · rename_i he
    refine ⟨?_, ?_⟩
    · rw [tot_snoc, h.1, wgt, if_pos he]; omega
    · rw [if_neg (by simp; omega)]
  · omega
theorem Acc.lo {l : List Int} {x : Int} (h : Acc l x 0) (y : Int) : Acc (l ++ [y]) (x + y) 8 := by
  have h2 := h.2
  split at h2
  · omega
  · rename_i he
    refine ⟨?_, ?_⟩
    · rw [tot_snoc, h.1, wgt, if_neg he]; omega
    · rw [if_pos (by simp; omega)]
theorem Acc.bd {l : List Int} {x s : Int} (h : Acc l x s) (hl : Byt l) (hn : l.length ≤ 1099511627776) : 0 ≤ x ∧ x ≤ 72057594037927936 := by
  have := tot_bd l hl
  rw [h.1]; omega

theorem flat_snoc (ls : List (List Int)) (q : Nat) (h : q < ls.length) : (ls.take (q + 1)).flatten = (ls.take q).flatten ++ ls.getD q [] := by
  rw [List.take_succ_eq_append_getElem h, List.flatten_append, List.getD_eq_getElem?_getD, List.getElem?_eq_getElem h]; simp
theorem flat_le (ls : List (List Int)) (q : Nat) : (ls.take q).flatten.length ≤ ls.flatten.length := by
  conv => rhs; rw [← List.take_append_drop q ls]
  rw [List.flatten_append, List.length_append]; omega
theorem flat_byt (ls : List (List Int)) (h : Byt ls.flatten) (q : Nat) : Byt (ls.take q).flatten := by
  rw [← List.take_append_drop q ls, List.flatten_append] at h
  exact fun x hx => h x (List.mem_append.2 (.inl hx))

set_option maxHeartbeats 1000000 in
theorem of_any (A : Option Addr) (n c B : Nat) (ls : List (List Int)) (w : World) (hr : Rows2 w B A n ls) (hb : Byt ls.flatten) (hz : ls.flatten.length ≤ 1099511627776) (hn : n ≤ 1099511627776) :
    Calls Try.prog 7 #[.slice A n c] w fun e w' => e = .returned (.int .i64 (sumOf ls.flatten)) ∧ w = w' := by
  have HR := Lib.hid hr
  have HB := Lib.hid hb
  have HZ := Lib.hid hz
  clear hr hb hz
  go_enter Try.func7, Try.ntmps7
  go_wp2_with fail
  go_loop [3, 4, 11] (fun t s i => ∃ (q : Nat) (x y : Int), q ≤ n ∧ i = .int .i64 q ∧ t = .int .u64 x ∧ s = .int .i64 y ∧ Hid (Acc (ls.take q).flatten x y)) (fun _ _ i => n - (intOf i).toNat)
  case atStart => exact ⟨0, 0, 8, Nat.zero_le _, rfl, rfl, rfl, Lib.hid Acc.nil⟩
  case round =>
    obtain ⟨q, x, y, hq, rfl, rfl, rfl, hacc⟩ := hrel
    by_cases hlt : q < n
    · obtain ⟨b, o, rfl, hb, hc⟩ := HR.out.2 (by omega)
      obtain ⟨A', m, c', hcell, hmc, hrow⟩ := hc q hlt
      have HW := Lib.hid hrow
      have hf := flat_snoc ls q (by rw [HR.out.1]; exact hlt)
      have hle := flat_le ls (q + 1)
      have hby := flat_byt ls HB.out (q + 1)
      rw [hf] at hle hby
      generalize ls.getD q [] = r at *
      have hm : m ≤ 1099511627776 := by
        have h1 := hrow.1
        have h2 := HZ.out
        rw [List.length_append] at hle
        omega
      have HF := Lib.hid hf
      have HLE := Lib.hid (Nat.le_trans hle HZ.out)
      have HBY := Lib.hid hby
      clear hc hrow hf hle hby
      go_wp2_with fail
      go_loop [3, 4, 17] (fun t s i => ∃ (p : Nat) (x y : Int), p ≤ m ∧ i = .int .i64 p ∧ t = .int .u64 x ∧ s = .int .i64 y ∧ Hid (Acc ((ls.take q).flatten ++ r.take p) x y)) (fun _ _ i => m - (intOf i).toNat)
      case atStart => exact ⟨0, x, y, Nat.zero_le _, rfl, rfl, rfl, Lib.hid (by simpa using hacc.out)⟩
      case round =>
        clear hacc
        obtain ⟨p, x, y, hp, rfl, rfl, rfl, hacc⟩ := hrel
        by_cases hlt2 : p < m
        · obtain ⟨b2, o2, rfl, hb2, hc2⟩ := HW.out.2 (by omega)
          have hcx := hc2 p hlt2
          have hbx : 0 ≤ r.getD p 0 ∧ r.getD p 0 ≤ 255 := Byt.getD (fun z hz => HBY.out z (List.mem_append.2 (.inr hz))) p
          have hl1 := HW.out.1
          have HL := Lib.hid (take_snoc r p (by omega))
          have hbd := hacc.out.bd (fun z hz => HBY.out z (by
            rcases List.mem_append.1 hz with h | h
            · exact List.mem_append.2 (.inl h)
            · exact List.mem_append.2 (.inr (List.mem_of_mem_take h)))) (by
            have := HLE.out
            rw [List.length_append] at this ⊢
            rw [List.length_take]
            omega)
          generalize r.getD p 0 = z at *
          clear hc2 hl1
          rcases hacc.out.or with rfl | rfl
          · have HA := Lib.hid (hacc.out.hi z)
            rw [List.append_assoc, ← HL.out] at HA
            go_wp2
            go_round
            case rel => exact ⟨p + 1, x + z * 256, 0, by omega, by go_num, by go_num, rfl, HA⟩
            case measure => simp [intOf]; omega
          · have HA := Lib.hid (hacc.out.lo z)
            rw [List.append_assoc, ← HL.out] at HA
            go_wp2
            go_round
            case rel => exact ⟨p + 1, x + z, 8, by omega, by go_num, by go_num, rfl, HA⟩
            case measure => simp [intOf]; omega
        · obtain rfl : p = m := by omega
          have ha := hacc.out
          rw [List.take_of_length_le (l := r) (by rw [HW.out.1]; exact Nat.le_refl _), ← HF.out] at ha
          have HA := Lib.hid ha
          clear ha
          go_wp2
          go_round
          case rel => exact ⟨q + 1, x, y, by omega, by go_num, rfl, rfl, HA⟩
          case measure => simp [intOf]; omega
    · obtain rfl : q = n := by omega
      have ha := hacc.out
      rw [List.take_of_length_le (by rw [HR.out.1]; exact Nat.le_refl _)] at ha
      have hbd := ha.bd HB.out HZ.out
      have HA := Lib.hid ha.1
      clear ha
      go_wp2_with fail
      refine (folded_any x hbd.1 (by omega) _).mono ?_
      rintro e1 w1 ⟨rfl, rfl⟩
      have hs : sumOf ls.flatten = 65535 - fold x := by rw [HA.out]; rfl
      have HS := Lib.hid hs
      have hf := fold_bd x
      clear hs
      generalize fold x = f at *
      have hnm := not_mask f hf.1 hf.2
      go_wp2
      go_ret
      exact ⟨congrArg (fun x => Ending.returned (.int .i64 x)) HS.out.symm, rfl⟩
end Go.Proofs.Ytnjboddijdekgaa
