/- Plain facts on the Internet checksum: the sum of bytes as numbers of two bytes, and its folding into 16 bits. No program, no conditions. -/
import Derived.Test.YtnjboddijdekgaaN
import Derived.Laws.BitsAllLaws
namespace Go.Proofs.Ytnjboddijdekgaa

/-- What a byte at place i counts. -/
def wgt (i : Nat) : Int := if i % 2 = 0 then 256 else 1
theorem wgt_pos (i : Nat) : 1 ≤ wgt i ∧ wgt i ≤ 256 := by unfold wgt; split <;> omega
/-- The bytes l, the first of them at place i, as numbers of two bytes, added. -/
def totFrom : Nat → List Int → Int
  | _, [] => 0
  | i, x :: l => wgt i * x + totFrom (i + 1) l
def tot (l : List Int) : Int := totFrom 0 l
theorem totFrom_append (a b : List Int) (i : Nat) : totFrom i (a ++ b) = totFrom i a + totFrom (i + a.length) b := by
  induction a generalizing i with
  | nil => simp [totFrom]
  | cons x a ih =>
    have e : i + (a.length + 1) = i + 1 + a.length := by omega
    simp only [List.cons_append, totFrom, ih, List.length_cons, e]
    omega
theorem tot_nil : tot [] = 0 := rfl
theorem tot_snoc (l : List Int) (x : Int) : tot (l ++ [x]) = tot l + wgt l.length * x := by
  simp [tot, totFrom_append, totFrom]
theorem totFrom_bd (l : List Int) (h : Byt l) (i : Nat) : 0 ≤ totFrom i l ∧ totFrom i l ≤ 65536 * l.length := by
  induction l generalizing i with
  | nil => simp [totFrom]
  | cons x l ih =>
    have h1 := ih (fun y hy => h y (List.mem_cons_of_mem _ hy)) (i + 1)
    have h2 := h x (List.mem_cons_self ..)
    simp only [totFrom, List.length_cons]
    unfold wgt
    split <;> omega
theorem tot_bd (l : List Int) (h : Byt l) : 0 ≤ tot l ∧ tot l ≤ 65536 * l.length := totFrom_bd l h 0
theorem totFrom_set (l : List Int) (i k : Nat) (y : Int) (hk : k < l.length) : totFrom i (l.set k y) = totFrom i l + wgt (i + k) * (y - l.getD k 0) := by
  induction l generalizing i k with
  | nil => simp at hk
  | cons x l ih =>
    cases k with
    | zero => simp only [List.set_cons_zero, totFrom, List.getD_cons_zero, Nat.add_zero, Int.mul_sub]; omega
    | succ k =>
      have e : i + 1 + k = i + (k + 1) := by omega
      simp only [List.set_cons_succ, totFrom, List.getD_cons_succ]
      rw [ih (i + 1) k (by simpa using hk), e]
      omega
theorem tot_set (l : List Int) (k : Nat) (y : Int) (hk : k < l.length) : tot (l.set k y) = tot l + wgt k * (y - l.getD k 0) := by
  have := totFrom_set l 0 k y hk
  rwa [Nat.zero_add] at this

/-- A sum folded into 16 bits: what goes beyond them is added again, till nothing does. -/
def fold (t : Int) : Int := if t = 0 then 0 else (t - 1) % 65535 + 1
theorem fold_bd (t : Int) : 0 ≤ fold t ∧ fold t ≤ 65535 := by unfold fold; split <;> omega
theorem fold_small (t : Int) (h0 : 0 ≤ t) (h1 : t ≤ 65535) : fold t = t := by unfold fold; split <;> omega
theorem fold_step (t : Int) (h : 65535 < t) : fold (t / 65536 + t % 65536) = fold t := by
  unfold fold
  rw [if_neg (by omega), if_neg (by omega)]
  omega
theorem fold_add (t v : Int) (h0 : 0 ≤ t) (v0 : 0 ≤ v) (v1 : v ≤ 65535) : fold (t + v) = if 65535 < fold t + v then fold t + v - 65535 else fold t + v := by
  unfold fold
  split <;> split <;> split <;> omega
/-- The sum that the document says. -/
def sumOf (l : List Int) : Int := 65535 - fold (tot l)
theorem sumOf_bd (l : List Int) : 0 ≤ sumOf l ∧ sumOf l ≤ 65535 := by
  have := fold_bd (tot l)
  unfold sumOf; omega
theorem sumOf_zero (l : List Int) (h : 0 ≤ tot l) : sumOf l = 0 ↔ (tot l % 65535 = 0 ∧ 0 < tot l) := by
  unfold sumOf fold
  split <;> omega

theorem and_mask (t : Int) (h0 : 0 ≤ t) (h1 : t < 18446744073709551616) : bits .and .u64 t 65535 = t % 65536 := by
  rw [u64_and t 65535 h0 h1 (by decide) (by decide), show (65535 : Int).toNat = 65535 from rfl, nat_mask16]
  omega
theorem not_mask (r : Int) (h0 : 0 ≤ r) (h1 : r ≤ 65535) : bits .andNot .u64 65535 r = 65535 - r := by
  rw [u64_andNot 65535 r (by decide) (by decide) h0 (by omega), show (65535 : Int).toNat = 65535 from rfl, nat_mask16']
  omega

/-- One byte of good bytes is changed: the sum isn't 0. -/
theorem changed (l : List Int) (hl : Byt l) (k : Nat) (y : Int) (hk : k < l.length) (h : sumOf l = 0) (hy0 : 0 ≤ y) (hy1 : y ≤ 255) (hne : y ≠ l.getD k 0) : sumOf (l.set k y) ≠ 0 := by
  have hb := hl.getD k
  have hbyt : Byt (l.set k y) := fun x hx => by
    rcases List.mem_or_eq_of_mem_set hx with hx | rfl
    · exact hl x hx
    · exact ⟨hy0, hy1⟩
  have h0 := (tot_bd l hl).1
  have h1 := (tot_bd _ hbyt).1
  rw [sumOf_zero l h0] at h
  rw [Ne, sumOf_zero _ h1, tot_set l k y hk]
  unfold wgt
  split <;> omega

/-- The two bytes of a sum, put where zeros are, make it good. -/
theorem filled (l : List Int) (hl : Byt l) (k : Nat) (hk : k + 1 < l.length) (he : k % 2 = 0) (h0 : l.getD k 0 = 0) (h1 : l.getD (k + 1) 0 = 0) :
    sumOf ((l.set k (sumOf l / 256)).set (k + 1) (sumOf l % 256)) = 0 := by
  have hb := sumOf_bd l
  have ht := (tot_bd l hl).1
  have e1 : (l.set k (sumOf l / 256)).getD (k + 1) 0 = 0 := by
    refine Eq.trans ?_ h1
    simp only [List.getD_eq_getElem?_getD]
    rw [List.getElem?_set_ne (by omega)]
  have e2 : tot ((l.set k (sumOf l / 256)).set (k + 1) (sumOf l % 256)) = tot l + sumOf l := by
    rw [tot_set _ _ _ (by simpa using hk), tot_set _ _ _ (by omega), e1, h0]
    unfold wgt
    rw [if_pos he, if_neg (by omega)]
    omega
  rw [sumOf_zero _ (by omega), e2]
  have hf := fold_bd (tot l)
  have hs : sumOf l = 65535 - fold (tot l) := rfl
  unfold fold at hs
  split at hs <;> omega
end Go.Proofs.Ytnjboddijdekgaa
