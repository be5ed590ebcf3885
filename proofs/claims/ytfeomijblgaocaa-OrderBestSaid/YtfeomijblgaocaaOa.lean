/- Plain words for the order of descriptions: heads, which of two is newer, the best of many. No program, no conditions. -/
import Derived.Lib.Hide
namespace Go.Proofs.Ytfeomijblgaocaa

/-- A head. -/
structure Hd where
  age : Int
  kind : Int
  id : Int
  adv : Int
  seq : Int
  sum : Int
  long : Int

/-- Is an age from 0 to 60? -/
def ageB (h : Hd) : Bool := decide (0 ≤ h.age) && decide (h.age ≤ 60)
theorem ageB_iff (h : Hd) : ageB h = true ↔ 0 ≤ h.age ∧ h.age ≤ 60 := by simp [ageB]
/-- Which of two numbers is greater: -1, 0, 1. -/
def cmpI (a b : Int) : Int := if a < b then -1 else if b < a then 1 else 0
/-- Which of two ages is of the newer one. -/
def frI (a b : Int) : Int :=
  if a = 60 ∧ b ≠ 60 then 1 else if b = 60 ∧ a ≠ 60 then -1 else if a + 6 < b then 1 else if b + 6 < a then -1 else 0
/-- Which of two heads is newer. -/
def nw (a b : Hd) : Int := if a.seq ≠ b.seq then cmpI a.seq b.seq else if a.sum ≠ b.sum then cmpI a.sum b.sum else frI a.age b.age

theorem cmpI_flip (a b : Int) : cmpI b a = -cmpI a b := by
  unfold cmpI
  repeat' split
  all_goals omega
theorem frI_flip (a b : Int) : frI b a = -frI a b := by
  unfold frI
  repeat' split
  all_goals omega
theorem nw_flip (a b : Hd) : nw b a = -nw a b := by
  unfold nw
  by_cases h : a.seq = b.seq
  · by_cases h2 : a.sum = b.sum
    · rw [if_neg (by simp [h]), if_neg (by simp [h2]), if_neg (by simp [h]), if_neg (by simp [h2]), frI_flip]
    · rw [if_neg (by simp [h]), if_pos (fun e => h2 e.symm), if_neg (by simp [h]), if_pos h2, cmpI_flip]
  · rw [if_pos (fun e => h e.symm), if_pos h, cmpI_flip]
theorem nw_self (a : Hd) : nw a a = 0 := by
  have := nw_flip a a
  omega
theorem cmpI_one (a b : Int) : cmpI a b = 1 ↔ b < a := by
  unfold cmpI
  repeat' split
  all_goals omega
theorem frI_one {a b : Int} (ha : 0 ≤ a) (ha' : a ≤ 60) (hb : 0 ≤ b) (hb' : b ≤ 60) : frI a b = 1 ↔ (a = 60 ∧ b ≠ 60) ∨ (b ≠ 60 ∧ a + 6 < b) := by
  unfold frI
  repeat' split
  all_goals omega
theorem nw_one {a b : Hd} (ha : ageB a = true) (hb : ageB b = true) :
    nw a b = 1 ↔ b.seq < a.seq ∨ (a.seq = b.seq ∧ (b.sum < a.sum ∨ (a.sum = b.sum ∧ ((a.age = 60 ∧ b.age ≠ 60) ∨ (b.age ≠ 60 ∧ a.age + 6 < b.age))))) := by
  rw [ageB_iff] at ha hb
  unfold nw
  by_cases h : a.seq = b.seq
  · by_cases h2 : a.sum = b.sum
    · rw [if_neg (by simp [h]), if_neg (by simp [h2]), frI_one ha.1 ha.2 hb.1 hb.2]
      omega
    · rw [if_neg (by simp [h]), if_pos h2, cmpI_one]
      omega
  · rw [if_pos h, cmpI_one]
    omega
theorem nw_trans {a b c : Hd} (ha : ageB a = true) (hb : ageB b = true) (hc : ageB c = true) (h1 : nw a b = 1) (h2 : nw b c = 1) : nw a c = 1 := by
  rw [nw_one ha hb] at h1
  rw [nw_one hb hc] at h2
  rw [nw_one ha hc]
  rw [ageB_iff] at ha hb hc
  omega
theorem nw_seq {a b : Hd} (h : b.seq < a.seq) : nw a b = 1 := by
  unfold nw
  rw [if_pos (by omega), cmpI_one]
  exact h
theorem nw_three (a b : Hd) : nw a b = 1 ∨ nw a b = 0 ∨ nw a b = -1 := by
  unfold nw cmpI frI
  repeat' split
  all_goals omega

/-- Which place is the best one of the first k heads. -/
def bestOf (L : List Hd) : Nat → Int
  | 0 => -1
  | k + 1 => match L[k]? with
    | none => bestOf L k
    | some h => if bestOf L k < 0 then k else match L[(bestOf L k).toNat]? with
      | none => bestOf L k
      | some g => if 0 < nw h g then k else bestOf L k
theorem bestOf_bd (L : List Hd) (k : Nat) : -1 ≤ bestOf L k ∧ bestOf L k < k ∨ bestOf L k = -1 := by
  induction k with
  | zero => simp [bestOf]
  | succ k ih =>
    unfold bestOf
    repeat' split
    all_goals omega
theorem bestOf_pos (L : List Hd) (k : Nat) (h0 : 0 < k) (hk : k ≤ L.length) : 0 ≤ bestOf L k := by
  induction k with
  | zero => omega
  | succ k ih =>
    have hx : L[k]? = some (L[k]'(by omega)) := List.getElem?_eq_getElem (by omega)
    unfold bestOf
    rw [hx]
    dsimp only
    by_cases hb : bestOf L k < 0
    · rw [if_pos hb]
      omega
    · rw [if_neg hb]
      repeat' split
      all_goals omega
theorem bestOf_first (L : List Hd) (k : Nat) (h : Hd) (hx : L[k]? = some h) (hb : bestOf L k < 0) : bestOf L (k + 1) = k := by
  rw [bestOf, hx]
  dsimp only
  rw [if_pos hb]
theorem bestOf_new (L : List Hd) (k : Nat) (h g : Hd) (hx : L[k]? = some h) (hb : ¬ bestOf L k < 0) (hg : L[(bestOf L k).toNat]? = some g) (hn : 0 < nw h g) : bestOf L (k + 1) = k := by
  rw [bestOf, hx]
  dsimp only
  rw [if_neg hb, hg]
  dsimp only
  rw [if_pos hn]
theorem bestOf_old (L : List Hd) (k : Nat) (h g : Hd) (hx : L[k]? = some h) (hb : ¬ bestOf L k < 0) (hg : L[(bestOf L k).toNat]? = some g) (hn : ¬ 0 < nw h g) : bestOf L (k + 1) = bestOf L k := by
  rw [bestOf, hx]
  dsimp only
  rw [if_neg hb, hg]
  dsimp only
  rw [if_neg hn]
/-- Of heads of unlike numbers the best one has the greatest. -/
theorem bestOf_max (L : List Hd) (hu : ∀ (i j : Nat) (x y : Hd), i < j → L[i]? = some x → L[j]? = some y → x.seq ≠ y.seq) (k : Nat) (hk : k ≤ L.length) :
    ∀ (g : Hd), L[(bestOf L k).toNat]? = some g → ∀ (i : Nat) (x : Hd), i < k → L[i]? = some x → (i : Int) ≠ bestOf L k → x.seq < g.seq := by
  induction k with
  | zero => intro g _ i x hi; omega
  | succ k ih =>
    intro g hg i x hi hx hne
    have hk0 : L[k]? = some (L[k]'(by omega)) := List.getElem?_eq_getElem (by omega)
    generalize hh : L[k]'(by omega) = h at hk0
    by_cases hb : bestOf L k < 0
    · rw [bestOf_first L k h hk0 hb] at hg hne
      have hz : k = 0 := by
        rcases Nat.eq_zero_or_pos k with e | e
        · exact e
        · have := bestOf_pos L k e (by omega)
          omega
      omega
    · have hbl : (bestOf L k).toNat < k := by
        have := bestOf_bd L k
        omega
      have hg0 : L[(bestOf L k).toNat]? = some (L[(bestOf L k).toNat]'(by omega)) := List.getElem?_eq_getElem (by omega)
      generalize hgg : L[(bestOf L k).toNat]'(by omega) = g0 at hg0
      have hun := hu _ _ _ _ hbl hg0 hk0
      have ihh := ih (by omega) g0 hg0
      by_cases hn : 0 < nw h g0
      · rw [bestOf_new L k h g0 hk0 hb hg0 hn] at hg hne
        have e : (k : Int).toNat = k := by omega
        rw [e, hk0] at hg
        injection hg with hg
        subst hg
        have hlt : g0.seq < h.seq := by
          rw [nw, if_pos (fun e => hun e.symm)] at hn
          unfold cmpI at hn
          repeat' split at hn
          all_goals omega
        by_cases hib : (i : Int) = bestOf L k
        · have e2 : i = (bestOf L k).toNat := by omega
          rw [e2, hg0] at hx
          injection hx with hx
          subst hx
          exact hlt
        · have := ihh i x (by omega) hx hib
          omega
      · rw [bestOf_old L k h g0 hk0 hb hg0 hn] at hg hne
        rw [hg0] at hg
        injection hg with hg
        subst hg
        by_cases hik : i = k
        · subst hik
          rw [hk0] at hx
          injection hx with hx
          subst hx
          rw [nw, if_pos (fun e => hun e.symm)] at hn
          unfold cmpI at hn
          repeat' split at hn
          all_goals omega
        · exact ihh i x (by omega) hx hne
end Go.Proofs.Ytfeomijblgaocaa
