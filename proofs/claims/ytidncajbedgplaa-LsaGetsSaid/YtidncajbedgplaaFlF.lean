/- Whole numbers as float64: they are put, added, compared with 0 and made whole exactly. Conditions: below 2^53. -/
import Derived.Laws.FloatArith
import Derived.Laws.ComplexArith
namespace Go.Proofs.Ytidncajbedgplaa
open Ieee

theorem log2_shift (n k : Nat) (h : n ≠ 0) : (n * 2 ^ k).log2 = n.log2 + k := by
  have hp : 0 < 2 ^ k := Nat.two_pow_pos k
  have h1 := (Nat.le_log2 h).1 (Nat.le_refl n.log2)
  have h2 := (Nat.log2_lt h).1 (Nat.lt_succ_self n.log2)
  have hn : n * 2 ^ k ≠ 0 := Nat.mul_ne_zero h (by omega)
  apply Nat.le_antisymm
  · refine Nat.le_of_lt_succ ((Nat.log2_lt hn).2 ?_)
    rw [show (n.log2 + k).succ = n.log2.succ + k from by omega, Nat.pow_add]
    exact Nat.mul_lt_mul_of_pos_right h2 hp
  · refine (Nat.le_log2 hn).2 ?_
    rw [Nat.pow_add]
    exact Nat.mul_le_mul_right _ h1

/-- Nothing is lost where what is dropped is 0. -/
theorem cut_exact (way : Toward) (hw : way = .even ∨ way = .zero) (n k : Nat) : way.cut false (n * 2 ^ k) k = n := by
  unfold Toward.cut
  by_cases h : n = 0
  · subst h
    rcases hw with rfl | rfl <;> simp
  · have e : min k ((n * 2 ^ k).log2 + 2) = k := by rw [log2_shift n k h]; omega
    have hp : 0 < 2 ^ k := Nat.two_pow_pos k
    simp only [e, Nat.one_shiftLeft, Nat.mul_mod_left, Nat.mul_div_cancel _ hp]
    rcases hw with rfl | rfl <;> simp

theorem format_f64 : FloatKind.f64.format = double := rfl

/-- The word of a whole number above 0. -/
theorem nearest_pos (n M : Nat) (h0 : n ≠ 0) (h : n < 2 ^ 53) : double.nearest false (n * 2 ^ M) (-(M : Int)) = (n.log2 + 1022) * 2 ^ 52 + n * 2 ^ (52 - n.log2) := by
  have hl : n.log2 ≤ 52 := Nat.le_of_lt_succ ((Nat.log2_lt h0).2 h)
  have h1 := (Nat.le_log2 h0).1 (Nat.le_refl n.log2)
  have h2 := (Nat.log2_lt h0).1 (Nat.lt_succ_self n.log2)
  have hp : 0 < 2 ^ M := Nat.two_pow_pos M
  have hm : n * 2 ^ M ≠ 0 := Nat.mul_ne_zero h0 (by omega)
  have k2 : n * 2 ^ (52 - n.log2) < 2 ^ 53 := by
    have := Nat.mul_lt_mul_of_pos_right h2 (Nat.two_pow_pos (52 - n.log2))
    rw [← Nat.pow_add, show n.log2 + 1 + (52 - n.log2) = 53 from by omega] at this
    exact this
  unfold Format.nearest
  rw [if_neg hm]
  simp only [log2_shift n M h0]
  have e1 : max (-(M : Int) + ((n.log2 + M : Nat) : Int) - (double.fractionBits : Int)) double.leastPlace = (n.log2 : Int) - 52 := by
    have a : double.leastPlace = -1074 := by decide
    have b : double.fractionBits = 52 := rfl
    rw [a, b]
    omega
  rw [e1]
  have e2 : (((n.log2 : Int) - 52) - double.leastPlace).toNat = n.log2 + 1022 := by
    have a : double.leastPlace = -1074 := by decide
    rw [a]
    omega
  rw [e2]
  have e3 : Toward.even.cut false ((n * 2 ^ M) <<< (-(M : Int) - ((n.log2 : Int) - 52)).toNat) (((n.log2 : Int) - 52) - -(M : Int)).toNat = n * 2 ^ (52 - n.log2) := by
    by_cases hc : 52 - n.log2 ≤ M
    · have a : (-(M : Int) - ((n.log2 : Int) - 52)).toNat = 0 := by omega
      have b : (((n.log2 : Int) - 52) - -(M : Int)).toNat = M - (52 - n.log2) := by omega
      rw [a, b, Nat.shiftLeft_zero]
      have c : n * 2 ^ M = n * 2 ^ (52 - n.log2) * 2 ^ (M - (52 - n.log2)) := by
        rw [Nat.mul_assoc, ← Nat.pow_add]; congr 2; omega
      rw [c]
      exact cut_exact _ (.inl rfl) _ _
    · have a : (-(M : Int) - ((n.log2 : Int) - 52)).toNat = 52 - n.log2 - M := by omega
      have b : (((n.log2 : Int) - 52) - -(M : Int)).toNat = 0 := by omega
      rw [a, b, Nat.shiftLeft_eq, Nat.mul_assoc, ← Nat.pow_add]
      have c := cut_exact .even (.inl rfl) (n * 2 ^ (M + (52 - n.log2 - M))) 0
      rw [Nat.pow_zero, Nat.mul_one] at c
      rw [c]
      congr 2
      omega
  rw [e3]
  have hb : double.binade = 2 ^ 52 := rfl
  have hi : double.infRung = 2047 * 2 ^ 52 := by decide
  rw [hb, hi, Nat.min_eq_left (by omega)]
  rfl

/-- The word of a whole number. -/
def flo (n : Nat) : Nat := floatOfInt .f64 n
theorem flo_eq (n : Nat) : flo n = double.nearest false n 0 := by
  unfold flo floatOfInt FloatKind.nearest FloatKind.encode
  have : decide ((n : Int) < 0) = false := by simp
  rw [this]
  rfl
theorem flo_zero : flo 0 = 0 := by decide
theorem nearest_flo (n M : Nat) (h : n < 2 ^ 53) : double.nearest false (n * 2 ^ M) (-(M : Int)) = flo n := by
  rw [flo_eq]
  by_cases h0 : n = 0
  · subst h0
    simp [Format.nearest]
  · rw [nearest_pos n M h0 h]
    have := nearest_pos n 0 h0 h
    simp only [Nat.pow_zero, Nat.mul_one] at this
    exact this.symm

theorem read_zero : double.read 0 = .number false 0 (-1074) := by decide
theorem read_flo (n : Nat) (h : n < 2 ^ 53) : ∃ k : Nat, k ≤ 1074 ∧ double.read (flo n) = .number false (n * 2 ^ k) (-(k : Int)) := by
  by_cases h0 : n = 0
  · subst h0
    generalize hE : 1074 = E
    refine ⟨E, Nat.le_refl _, ?_⟩
    rw [flo_zero, Nat.zero_mul, ← hE]
    exact read_zero
  · have hl : n.log2 ≤ 52 := Nat.le_of_lt_succ ((Nat.log2_lt h0).2 h)
    have h1 := (Nat.le_log2 h0).1 (Nat.le_refl n.log2)
    have h2 := (Nat.log2_lt h0).1 (Nat.lt_succ_self n.log2)
    have k2 : n * 2 ^ (52 - n.log2) < 2 ^ 53 := by
      have := Nat.mul_lt_mul_of_pos_right h2 (Nat.two_pow_pos (52 - n.log2))
      rw [← Nat.pow_add, show n.log2 + 1 + (52 - n.log2) = 53 from by omega] at this
      exact this
    have k1 : 2 ^ 52 ≤ n * 2 ^ (52 - n.log2) := by
      have := Nat.mul_le_mul_right (2 ^ (52 - n.log2)) h1
      rw [← Nat.pow_add, show n.log2 + (52 - n.log2) = 52 from by omega] at this
      exact this
    have e := nearest_flo n 0 h
    rw [nearest_pos n 0 h0 h] at e
    rw [← e]
    refine ⟨52 - n.log2, by omega, ?_⟩
    generalize n * 2 ^ (52 - n.log2) = m at *
    generalize n.log2 = L at *
    have hb : double.binade = 4503599627370496 := by decide
    have hi : double.infRung = 9218868437227405312 := by decide
    have hs : double.signWeight = 9223372036854775808 := by decide
    have hl' : double.leastPlace = -1074 := by decide
    have p52 : 2 ^ 52 = 4503599627370496 := by decide
    have p53 : 2 ^ 53 = 9007199254740992 := by decide
    rw [p52] at k1 ⊢
    rw [p53] at k2
    clear h h1 h2 e p52 p53
    refine (fun (key : ∀ W, W = (L + 1022) * 4503599627370496 + m → double.read W = .number false m (-((52 - L : Nat) : Int))) => key _ rfl) (fun W hW => ?_)
    unfold Format.read
    simp only [hb, hi, hs, hl']
    have a1 : W % 9223372036854775808 = W := Nat.mod_eq_of_lt (by omega)
    have a2 : W / 9223372036854775808 = 0 := Nat.div_eq_of_lt (by omega)
    have a3 : 4503599627370496 + W % 4503599627370496 = m := by omega
    have a4 : W / 4503599627370496 = L + 1023 := by omega
    rw [a1, a2, a3, a4, if_neg (by omega), if_pos (by omega)]
    have a5 : (-1074 : Int) + ((L + 1023 - 1 : Nat) : Int) = -((52 - L : Nat) : Int) := by omega
    rw [a5]
    rfl

theorem signed_up (n i M : Nat) (h : i ≤ M) : signed false (n * 2 ^ i) ((-(i : Int)) - (-(M : Int))).toNat = ((n * 2 ^ M : Nat) : Int) := by
  have e : ((-(i : Int)) - (-(M : Int))).toNat = M - i := by omega
  unfold signed
  rw [e, Nat.shiftLeft_eq, Nat.mul_assoc, ← Nat.pow_add, show i + (M - i) = M from by omega]
  rfl

theorem add_flo (a b : Nat) (h : a + b < 2 ^ 53) : floatBits .add .f64 (flo a) (flo b) = some (flo (a + b)) := by
  obtain ⟨i, hi, ei⟩ := read_flo a (by omega)
  obtain ⟨j, hj, ej⟩ := read_flo b (by omega)
  show Format.add double (flo a) (flo b) = _
  unfold Format.add
  rw [ei, ej]
  simp only [Datum.sum]
  have hm : min (-(i : Int)) (-(j : Int)) = -((max i j : Nat) : Int) := by omega
  rw [hm, signed_up a i (max i j) (by omega), signed_up b j (max i j) (by omega)]
  generalize max i j = M at *
  have e : ((a * 2 ^ M : Nat) : Int) + ((b * 2 ^ M : Nat) : Int) = (((a + b) * 2 ^ M : Nat) : Int) := by rw [Nat.add_mul]; rfl
  rw [e]
  have e2 : (if (((a + b) * 2 ^ M : Nat) : Int) = 0 then (false && false) else decide ((((a + b) * 2 ^ M : Nat) : Int) < 0)) = false := by
    split
    · rfl
    · exact decide_eq_false (by omega)
  rw [e2, Int.natAbs_natCast]
  simp only [Option.map_some, Format.write]
  rw [nearest_flo (a + b) M h]

theorem int_flo (n : Nat) (h : n < 2 ^ 53) : floatToIntVal .f64 (flo n) .i64 = some n := by
  obtain ⟨k, hk, e⟩ := read_flo n h
  unfold floatToIntVal FloatKind.decode
  rw [format_f64, e]
  have e1 : ((-(k : Int))).toNat = 0 := by omega
  have e2 : (- -(k : Int)).toNat = k := by omega
  simp only [Datum.toInt, Datum.integral, e1, e2, Nat.shiftLeft_zero, cut_exact .zero (.inr rfl), signed]
  have hb : IntKind.i64.min ≤ (n : Int) ∧ (n : Int) ≤ IntKind.i64.max := by
    have a : IntKind.i64.min = -9223372036854775808 := by decide
    have b : IntKind.i64.max = 9223372036854775807 := by decide
    rw [a, b]
    omega
  simpa using hb

theorem eq_flo (n : Nat) (h : n < 2 ^ 53) : (FloatKind.f64.format.order (flo n) 0 == some .eq) = decide (n = 0) := by
  obtain ⟨k, hk, e⟩ := read_flo n h
  rw [format_f64]
  unfold Format.order
  rw [e, read_zero]
  simp only [Datum.order]
  have hm : min (-(k : Int)) (-1074) = -((1074 : Nat) : Int) := by omega
  have h00 : signed false 0 ((-1074 : Int) - (-((1074 : Nat) : Int))).toNat = 0 := by decide
  rw [hm, signed_up n k 1074 hk, h00]
  generalize hE : (1074 : Nat) = E
  by_cases h0 : n = 0
  · subst h0
    rw [Nat.zero_mul]
    decide
  · rw [decide_eq_false h0]
    have : compare ((n * 2 ^ E : Nat) : Int) 0 = .gt := by
      have h2 : 0 < n * 2 ^ E := Nat.mul_pos (by omega) (Nat.two_pow_pos _)
      generalize n * 2 ^ E = q at *
      show compareOfLessAndEq _ _ = _
      unfold compareOfLessAndEq
      rw [if_neg (by omega), if_neg (by omega)]
    rw [this]
    rfl
end Go.Proofs.Ytidncajbedgplaa
