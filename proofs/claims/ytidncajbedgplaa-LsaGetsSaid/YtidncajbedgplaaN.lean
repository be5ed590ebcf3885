/- Plain facts on lists of bytes and the numbers that they are, the highest byte first. No program, no conditions. -/
namespace Go.Proofs.Ytidncajbedgplaa

def hold (n : Int) : Int := if n < 1 then 1 else if 4 < n then 4 else n
theorem hold_lo (n : Int) : 1 ≤ hold n := by unfold hold; split <;> (try split) <;> omega
theorem hold_hi (n : Int) : hold n ≤ 4 := by unfold hold; split <;> (try split) <;> omega

/-- Each is a byte. -/
def Byt (l : List Int) : Prop := ∀ x ∈ l, 0 ≤ x ∧ x ≤ 255
theorem Byt.getD {l : List Int} (h : Byt l) (k : Nat) : 0 ≤ l.getD k 0 ∧ l.getD k 0 ≤ 255 := by
  rw [List.getD_eq_getElem?_getD]
  cases hk : l[k]? with
  | none => simp
  | some x => exact h x (List.mem_of_getElem? hk)
theorem Byt.nil : Byt [] := fun _ h => by cases h
theorem Byt.append {a b : List Int} (h : Byt a) (k : Byt b) : Byt (a ++ b) := fun x hx => by
  rcases List.mem_append.1 hx with hx | hx
  · exact h x hx
  · exact k x hx
theorem Byt.take {l : List Int} (h : Byt l) (k : Nat) : Byt (l.take k) := fun x hx => h x (List.mem_of_mem_take hx)
theorem Byt.drop {l : List Int} (h : Byt l) (k : Nat) : Byt (l.drop k) := fun x hx => h x (List.mem_of_mem_drop hx)

theorem Byt.set {l : List Int} (h : Byt l) (k : Nat) {y : Int} (h0 : 0 ≤ y) (h1 : y ≤ 255) : Byt (l.set k y) := fun x hx => by
  rcases List.mem_or_eq_of_mem_set hx with hx | rfl
  · exact h x hx
  · exact ⟨h0, h1⟩

/-- The number that bytes are. -/
def num (l : List Int) : Int := l.foldl (fun n x => 256 * n + x) 0
theorem num_nil : num [] = 0 := rfl
theorem num_snoc (l : List Int) (x : Int) : num (l ++ [x]) = 256 * num l + x := by simp [num]
theorem take_snoc (l : List Int) (k : Nat) (h : k < l.length) : l.take (k + 1) = l.take k ++ [l.getD k 0] := by
  rw [List.take_succ_eq_append_getElem h, List.getD_eq_getElem?_getD, List.getElem?_eq_getElem h]; rfl
theorem num_take (l : List Int) (k : Nat) (h : k < l.length) : num (l.take (k + 1)) = 256 * num (l.take k) + l.getD k 0 := by
  rw [take_snoc l k h, num_snoc]
theorem num_bd (l : List Int) (h : Byt l) : ∀ k, k ≤ l.length → 0 ≤ num (l.take k) ∧ num (l.take k) < 256 ^ k := by
  intro k
  induction k with
  | zero => intro _; simp [num]
  | succ k ih =>
    intro hk
    have := ih (by omega)
    have hb := h.getD k
    rw [num_take l k (by omega), Int.pow_succ]
    omega
theorem num_bd3 (l : List Int) (h : Byt l) (k : Nat) (hk : k ≤ 3) (hl : k ≤ l.length) : 0 ≤ num (l.take k) ∧ num (l.take k) ≤ 16777215 := by
  have hb := num_bd l h k hl
  have hp : (256 : Int) ^ k ≤ 256 ^ 3 := by
    match k, hk with
    | 0, _ => decide
    | 1, _ => decide
    | 2, _ => decide
    | 3, _ => decide
  have : (256 : Int) ^ 3 = 16777216 := by decide
  omega

/-- Byte j of a number, the lowest being 0: as it stands in a number of 64 bits that goes round. -/
def byteAt (n : Int) (j : Nat) : Int := n / 256 ^ j % 256
theorem byteAt_bd (n : Int) (j : Nat) : 0 ≤ byteAt n j ∧ byteAt n j ≤ 255 := by unfold byteAt; omega
/-- A number's lowest w bytes, the highest first. -/
def enc (n : Int) : Nat → List Int
  | 0 => []
  | w + 1 => byteAt n w :: enc n w
theorem enc_length (n : Int) (w : Nat) : (enc n w).length = w := by
  induction w with
  | zero => rfl
  | succ w ih => simp [enc, ih]
theorem enc_byt (n : Int) (w : Nat) : Byt (enc n w) := by
  induction w with
  | zero => exact Byt.nil
  | succ w ih =>
    intro x hx
    rcases List.mem_cons.1 hx with rfl | hx
    · exact byteAt_bd n w
    · exact ih x hx
theorem enc_getD (n : Int) (w j : Nat) (h : j < w) : (enc n w).getD j 0 = byteAt n (w - 1 - j) := by
  induction w generalizing j with
  | zero => omega
  | succ w ih =>
    cases j with
    | zero => simp [enc]
    | succ j =>
      have := ih j (by omega)
      simp only [enc, List.getD_cons_succ, this]
      congr 1
      omega
theorem num_enc (n : Int) (w : Nat) (h1 : 1 ≤ w) (h4 : w ≤ 4) : num (enc n w) = n % 256 ^ w := by
  match w, h1, h4 with
  | 1, _, _ => simp [enc, num, byteAt]
  | 2, _, _ => simp [enc, num, byteAt]; omega
  | 3, _, _ => simp [enc, num, byteAt]; omega
  | 4, _, _ => simp [enc, num, byteAt]; omega
/-- All numbers' bytes, one behind the other. -/
def encs (w : Nat) : List Int → List Int
  | [] => []
  | n :: l => enc n w ++ encs w l
theorem encs_append (w : Nat) (a b : List Int) : encs w (a ++ b) = encs w a ++ encs w b := by
  induction a with
  | nil => rfl
  | cons x a ih => simp [encs, ih]
theorem encs_length (w : Nat) (l : List Int) : (encs w l).length = l.length * w := by
  induction l with
  | nil => simp [encs]
  | cons x l ih => simp [encs, ih, enc_length, Nat.succ_mul, Nat.add_comm]
theorem encs_byt (w : Nat) (l : List Int) : Byt (encs w l) := by
  induction l with
  | nil => exact Byt.nil
  | cons x l ih => exact (enc_byt x w).append ih
theorem encs_snoc (w : Nat) (l : List Int) (k : Nat) (h : k < l.length) : encs w (l.take (k + 1)) = encs w (l.take k) ++ enc (l.getD k 0) w := by
  rw [take_snoc l k h, encs_append]; simp [encs]
/-- The bytes of u as a number of 64 bits. -/
theorem u64_byte (n : Int) (j : Nat) (h : j ≤ 3) : n % 18446744073709551616 / 256 ^ j % 256 = byteAt n j := by
  unfold byteAt
  match j, h with
  | 0, _ => simp
  | 1, _ => simp; omega
  | 2, _ => simp; omega
  | 3, _ => simp; omega
theorem u64_byte2 (n U : Int) (hU : U = n % 18446744073709551616) (r : Nat) (h0 : 0 < r) (h : r ≤ 4) : U / 2 ^ (8 * (r - 1)) % 256 = byteAt n (r - 1) := by
  subst hU
  rw [Int.pow_mul]
  exact u64_byte n (r - 1) (by omega)
theorem enc_take (n : Int) (m r : Nat) (h0 : 0 < r) (h : r ≤ m) : (enc n m).take (m - (r - 1)) = (enc n m).take (m - r) ++ [byteAt n (r - 1)] := by
  have e : m - (r - 1) = (m - r) + 1 := by omega
  rw [e, take_snoc _ _ (by rw [enc_length]; omega), enc_getD n m (m - r) (by omega)]
  congr 3
  omega
theorem encs_drop (m : Nat) (l : List Int) (q : Nat) (h : q < l.length) : ((encs m l).drop (q * m)).take m = enc (l.getD q 0) m := by
  induction l generalizing q with
  | nil => simp at h
  | cons x l ih =>
    cases q with
    | zero =>
      simp only [encs, Nat.zero_mul, List.drop_zero, List.getD_cons_zero]
      rw [List.take_append_of_le_length (by rw [enc_length]; exact Nat.le_refl _)]
      exact List.take_of_length_le (by rw [enc_length]; exact Nat.le_refl _)
    | succ q =>
      have e : (q + 1) * m = (enc x m).length + q * m := by rw [enc_length, Nat.succ_mul, Nat.add_comm]
      simp only [encs, List.getD_cons_succ]
      rw [e, ← List.drop_drop, List.drop_left]
      exact ih q (by simpa using h)
theorem num_small (x : Int) (m : Nat) (h2 : 2 ≤ m) (h4 : m ≤ 4) (h0 : 0 ≤ x) (hx : x ≤ 65535) : num (enc x m) = x := by
  rw [num_enc x m (by omega) h4]
  match m, h2, h4 with
  | 2, _, _ => simp; omega
  | 3, _, _ => simp; omega
  | 4, _, _ => simp; omega
theorem hold_id (m : Nat) (h1 : 1 ≤ m) (h4 : m ≤ 4) : hold m = m := by
  unfold hold
  rw [if_neg (by omega), if_neg (by omega)]
/-- Is it a number in m bytes? -/
def fitB (m : Nat) (x : Int) : Bool := decide (0 ≤ x ∧ x < 256 ^ m)
theorem fit_iff (m : Nat) (x : Int) (h1 : 1 ≤ m) (h4 : m ≤ 4) : fitB m x = decide (num (enc x m) = x) := by
  rw [num_enc x m h1 h4]
  unfold fitB
  rw [decide_eq_decide]
  have : (0 : Int) < 256 ^ m := Int.pow_pos (by decide)
  constructor
  · rintro ⟨a, b⟩
    exact Int.emod_eq_of_lt a b
  · intro h
    have a := Int.emod_nonneg x (b := 256 ^ m) (by omega)
    have b := Int.emod_lt_of_pos x this
    omega
theorem fit_shift (m : Nat) (x U : Int) (h1 : 1 ≤ m) (h4 : m ≤ 4) (hU : U = x % 18446744073709551616) (hlo : -9223372036854775808 ≤ x) (hhi : x ≤ 9223372036854775807) : (U / 2 ^ (8 * m) = 0) ↔ fitB m x = true := by
  unfold fitB
  rw [decide_eq_true_iff]
  subst hU
  match m, h1, h4 with
  | 1, _, _ => simp; omega
  | 2, _, _ => simp; omega
  | 3, _, _ => simp; omega
  | 4, _, _ => simp; omega
theorem all_take_snoc (f : Int → Bool) (l : List Int) (k : Nat) (h : k < l.length) (h1 : (l.take k).all f = true) (h2 : f (l.getD k 0) = true) : (l.take (k + 1)).all f = true := by
  rw [take_snoc l k h, List.all_append, h1, List.all_cons, h2]; rfl
theorem all_false (f : Int → Bool) (l : List Int) (k : Nat) (h : k < l.length) (h2 : f (l.getD k 0) = false) : l.all f = false := by
  rw [List.all_eq_false]
  refine ⟨l.getD k 0, ?_, by rw [h2]; decide⟩
  rw [List.getD_eq_getElem?_getD, List.getElem?_eq_getElem h]
  exact List.getElem_mem h
end Go.Proofs.Ytidncajbedgplaa
