/- Plain facts on the two sums of bytes modulo 255. No program, no conditions. -/
import Derived.Test.YtidncajbedgplaaN
namespace Go.Proofs.Ytidncajbedgplaa

/-- The sum of all. -/
def ffst : List Int → Int
  | [] => 0
  | b :: l => b + ffst l
/-- The sum of each times how many stand from it on. -/
def fsnd : List Int → Int
  | [] => 0
  | b :: l => (l.length + 1 : Int) * b + fsnd l
theorem ffst_append (a b : List Int) : ffst (a ++ b) = ffst a + ffst b := by
  induction a with
  | nil => simp [ffst]
  | cons x a ih => simp only [List.cons_append, ffst, ih]; omega
theorem fsnd_append (a b : List Int) : fsnd (a ++ b) = fsnd a + b.length * ffst a + fsnd b := by
  induction a with
  | nil => simp [fsnd, ffst]
  | cons x a ih =>
    simp only [List.cons_append, fsnd, ffst, ih, List.length_append]
    grind
theorem ffst_snoc (l : List Int) (b : Int) : ffst (l ++ [b]) = ffst l + b := by
  rw [ffst_append]; simp [ffst]
theorem fsnd_snoc (l : List Int) (b : Int) : fsnd (l ++ [b]) = fsnd l + (ffst l + b) := by
  rw [fsnd_append]; simp [fsnd]; omega
theorem ffst_set (l : List Int) (k : Nat) (h : k < l.length) (y : Int) : ffst (l.set k y) = ffst l + (y - l.getD k 0) := by
  induction l generalizing k with
  | nil => simp at h
  | cons x l ih =>
    cases k with
    | zero => simp [ffst]; omega
    | succ k =>
      have := ih k (by simpa using h)
      simp only [List.set_cons_succ, ffst, this, List.getD_cons_succ]; omega
theorem fsnd_set (l : List Int) (k : Nat) (h : k < l.length) (y : Int) : fsnd (l.set k y) = fsnd l + ((l.length : Int) - k) * (y - l.getD k 0) := by
  induction l generalizing k with
  | nil => simp at h
  | cons x l ih =>
    cases k with
    | zero =>
      simp only [List.set_cons_zero, fsnd, List.getD_cons_zero, List.length_cons]
      grind
    | succ k =>
      have := ih k (by simpa using h)
      simp only [List.set_cons_succ, fsnd, this, List.getD_cons_succ, List.length_set, List.length_cons]
      grind
theorem ffst_bd (l : List Int) (h : Byt l) : 0 ≤ ffst l ∧ ffst l ≤ 255 * l.length := by
  induction l with
  | nil => simp [ffst]
  | cons x l ih =>
    have h1 := h x (List.mem_cons_self ..)
    have h2 := ih (fun y hy => h y (List.mem_cons_of_mem _ hy))
    simp only [ffst, List.length_cons]
    omega

/-- Behind the bytes l: both sums modulo 255, as whole numbers. -/
def Two (l : List Int) (x y : Nat) : Prop := (x : Int) = ffst l % 255 ∧ (y : Int) = fsnd l % 255
theorem Two.nil : Two [] 0 0 := ⟨rfl, rfl⟩
theorem Two.lt {l : List Int} {x y : Nat} (h : Two l x y) : x < 255 ∧ y < 255 := by
  have h1 := h.1
  have h2 := h.2
  omega
theorem Two.snoc {l : List Int} {x y : Nat} (h : Two l x y) (z : Nat) : Two (l ++ [(z : Int)]) ((x + z) % 255) ((y + (x + z)) % 255) := by
  have h1 := h.1
  have h2 := h.2
  unfold Two
  rw [ffst_snoc, fsnd_snoc]
  omega
theorem two_of (l : List Int) : ∃ x y, Two l x y := ⟨(ffst l % 255).toNat, (fsnd l % 255).toNat, by unfold Two; omega⟩
theorem Two.unique {l : List Int} {x y u v : Nat} (h : Two l x y) (k : Two l u v) : x = u ∧ y = v := by
  have h1 := h.1
  have h2 := h.2
  have k1 := k.1
  have k2 := k.2
  omega

/-- Are bytes whole? -/
def wholeB (l : List Int) : Bool := decide (0 < l.length ∧ ffst l % 255 = 0 ∧ fsnd l % 255 = 0)
theorem Two.whole {l : List Int} {x y : Nat} (h : Two l x y) (h0 : 0 < l.length) : wholeB l = (decide (x = 0) && decide (y = 0)) := by
  have h1 := h.1
  have h2 := h.2
  unfold wholeB
  rw [Bool.eq_iff_iff]
  simp [h0]
  omega

/-- Bytes with two zeros from k on. -/
def fzero (l : List Int) (k : Nat) : List Int := (l.set k 0).set (k + 1) 0
/-- Bytes with two others from k on. -/
def put2 (l : List Int) (k : Nat) (x y : Int) : List Int := (l.set k x).set (k + 1) y
theorem put2_length (l : List Int) (k : Nat) (x y : Int) : (put2 l k x y).length = l.length := by simp [put2]
theorem fzero_eq (l : List Int) (k : Nat) : fzero l k = put2 l k 0 0 := rfl
theorem put2_put2 (l : List Int) (k : Nat) (a b x y : Int) : put2 (put2 l k a b) k x y = put2 l k x y := by
  unfold put2
  rw [List.set_comm _ _ (by omega : k + 1 ≠ k), List.set_set, List.set_set]
theorem set_byt {l : List Int} (h : Byt l) (k : Nat) {y : Int} (h0 : 0 ≤ y) (h1 : y ≤ 255) : Byt (l.set k y) := fun x hx => by
  rcases List.mem_or_eq_of_mem_set hx with hx | rfl
  · exact h x hx
  · exact ⟨h0, h1⟩
theorem put2_byt {l : List Int} (h : Byt l) (k : Nat) {x y : Int} (h0 : 0 ≤ x) (h1 : x ≤ 255) (k0 : 0 ≤ y) (k1 : y ≤ 255) : Byt (put2 l k x y) := set_byt (set_byt h k h0 h1) (k + 1) k0 k1
theorem put2_at (l : List Int) (k : Nat) (h : k + 1 < l.length) (x y : Int) : (put2 l k x y).getD k 0 = x ∧ (put2 l k x y).getD (k + 1) 0 = y := by
  unfold put2
  constructor
  · rw [List.getD_eq_getElem?_getD, List.getElem?_set_ne (by omega), List.getElem?_set_self (by omega)]; rfl
  · rw [List.getD_eq_getElem?_getD, List.getElem?_set_self (by simpa using h)]; rfl
theorem put2_fst (l : List Int) (k : Nat) (h : k + 1 < l.length) (x y : Int) : ffst (put2 l k x y) = ffst (fzero l k) + (x + y) := by
  have e : put2 l k x y = put2 (fzero l k) k x y := (put2_put2 l k 0 0 x y).symm
  have h0 := put2_at l k h 0 0
  have hl := put2_length l k 0 0
  rw [e]
  rw [fzero_eq]
  generalize put2 l k 0 0 = z at *
  unfold put2
  rw [ffst_set _ _ (by simp; omega), ffst_set _ _ (by omega), List.getD_eq_getElem?_getD (i := k + 1), List.getElem?_set_ne (by omega), ← List.getD_eq_getElem?_getD, h0.1, h0.2]
  omega
theorem put2_snd (l : List Int) (k : Nat) (h : k + 1 < l.length) (x y : Int) : fsnd (put2 l k x y) = fsnd (fzero l k) + (((l.length : Int) - k - 1) * (x + y) + x) := by
  have e : put2 l k x y = put2 (fzero l k) k x y := (put2_put2 l k 0 0 x y).symm
  have h0 := put2_at l k h 0 0
  have hl := put2_length l k 0 0
  rw [e]
  rw [fzero_eq]
  generalize put2 l k 0 0 = z at *
  unfold put2
  rw [fsnd_set _ _ (by simp; omega), fsnd_set _ _ (by omega), List.getD_eq_getElem?_getD (i := k + 1), List.getElem?_set_ne (by omega), ← List.getD_eq_getElem?_getD, h0.1, h0.2, List.length_set, hl]
  push_cast
  grind

/-- The first byte that is lacking, of both sums of the rest and how many stand from the second one on. -/
def lackX (x y s : Int) : Int := (s % 255 * x - y) % 255
/-- The second one. -/
def lackY (x X : Int) : Int := (-x - X) % 255
theorem lackX_bd (x y s : Int) : 0 ≤ lackX x y s ∧ lackX x y s ≤ 254 := by unfold lackX; omega
theorem lackY_bd (x X : Int) : 0 ≤ lackY x X ∧ lackY x X ≤ 254 := by unfold lackY; omega
/-- Bytes, made whole from k on. -/
def ffill (l : List Int) (k : Nat) : List Int :=
  put2 l k (lackX (ffst (fzero l k) % 255) (fsnd (fzero l k) % 255) ((l.length : Int) - k - 1)) (lackY (ffst (fzero l k) % 255) (lackX (ffst (fzero l k) % 255) (fsnd (fzero l k) % 255) ((l.length : Int) - k - 1)))
theorem ffill_length (l : List Int) (k : Nat) : (ffill l k).length = l.length := put2_length _ _ _ _
theorem ffill_byt {l : List Int} (h : Byt l) (k : Nat) : Byt (ffill l k) := by
  have h1 := lackX_bd (ffst (fzero l k) % 255) (fsnd (fzero l k) % 255) ((l.length : Int) - k - 1)
  have h2 := lackY_bd (ffst (fzero l k) % 255) (lackX (ffst (fzero l k) % 255) (fsnd (fzero l k) % 255) ((l.length : Int) - k - 1))
  exact put2_byt h k h1.1 (by omega) h2.1 (by omega)
theorem mod_of (a b q : Int) (h : a = b + 255 * q) : a % 255 = b % 255 := by omega

/-- Two bytes of which the sum is right: both sums are, just if the first byte is the one that is lacking. -/
theorem whole_iff (l : List Int) (k : Nat) (h : k + 1 < l.length) (i j : Int) (hi : 0 ≤ i) (hi2 : i ≤ 254) (hj : j = (-(ffst (fzero l k) % 255) - i) % 255) :
    wholeB (put2 l k i j) = decide (i = lackX (ffst (fzero l k) % 255) (fsnd (fzero l k) % 255) ((l.length : Int) - k - 1)) := by
  unfold wholeB
  rw [put2_fst l k h, put2_snd l k h, put2_length, decide_eq_decide]
  generalize ffst (fzero l k) = a at *
  generalize fsnd (fzero l k) = b at *
  generalize (l.length : Int) - k - 1 = s
  have hl : 0 < l.length := by omega
  unfold lackX
  obtain ⟨qa, ha⟩ : ∃ q, a % 255 = a + 255 * q := ⟨-(a / 255), by omega⟩
  obtain ⟨qb, hb⟩ : ∃ q, b % 255 = b + 255 * q := ⟨-(b / 255), by omega⟩
  obtain ⟨qs, hs⟩ : ∃ q, s % 255 = s + 255 * q := ⟨-(s / 255), by omega⟩
  obtain ⟨qj, hqj⟩ : ∃ q, j = -a - i + 255 * q := by
    refine ⟨-qa - ((-(a % 255) - i) / 255), ?_⟩
    have : (-(a % 255) - i) % 255 = (-(a % 255) - i) - 255 * ((-(a % 255) - i) / 255) := by omega
    rw [hj, this, ha]; omega
  have e1 : (a + (i + j)) % 255 = 0 := by rw [hqj]; omega
  have e2 : b + (s * (i + j) + i) = b + i - s * a + 255 * (s * qj) := by rw [hqj]; grind
  have e3 : s % 255 * (a % 255) - b % 255 = s * a - b + 255 * (s * qa + qs * a + 255 * (qs * qa) - qb) := by rw [ha, hb, hs]; grind
  rw [mod_of _ _ _ e2, mod_of _ _ _ e3, e1]
  generalize s * a = p
  omega
theorem ffill_whole (l : List Int) (k : Nat) (h : k + 1 < l.length) : wholeB (ffill l k) = true := by
  have h1 := lackX_bd (ffst (fzero l k) % 255) (fsnd (fzero l k) % 255) ((l.length : Int) - k - 1)
  exact (whole_iff l k h _ _ h1.1 h1.2 rfl).trans (decide_eq_true rfl)
/-- Whole bytes of which one is changed, but by 255. -/
theorem whole_changed (p : List Int) (k : Nat) (hk : k < p.length) (y : Int) (h : wholeB p = true) (h0 : y ≠ p.getD k 0) (h1 : y - p.getD k 0 < 255) (h2 : -255 < y - p.getD k 0) : wholeB (p.set k y) = false := by
  unfold wholeB at h ⊢
  rw [decide_eq_true_iff] at h
  rw [decide_eq_false_iff_not, ffst_set p k hk]
  intro h3
  have h4 := h.2.1
  have h5 := h3.2.1
  omega
end Go.Proofs.Ytidncajbedgplaa
