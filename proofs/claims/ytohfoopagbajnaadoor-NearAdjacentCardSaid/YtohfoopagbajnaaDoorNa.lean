/- The moves of a neighbor, the program's and the reference's, in plain words: no model. -/
namespace Go.Proofs.YtohfoopagbajnaaDoor
/-- A row of the program's table. -/
structure Mv where
  least : Int
  most : Int
  event : Int
  adj : Int
  apart : Int
def mvs : List Mv := [⟨0, 0, 0, 1, 1⟩, ⟨1, 1, 1, 3, 2⟩, ⟨2, 6, 2, 1, 1⟩, ⟨2, 2, 3, 3, -1⟩, ⟨3, 6, 3, -1, 2⟩, ⟨3, 3, 4, 4, 4⟩, ⟨4, 4, 5, 5, 5⟩, ⟨4, 5, 6, 6, 6⟩, ⟨4, 6, 7, 3, 3⟩, ⟨0, 6, 8, 0, 0⟩]
/-- Does a row speak of this state and event? -/
def Mv.hit (m : Mv) (s e : Int) : Bool := m.event == e && (decide (m.least ≤ s) && decide (s ≤ m.most))
def Mv.to (m : Mv) : Bool → Int
  | true => m.adj
  | false => m.apart
def Mv.leads (m : Mv) (s : Int) (a : Bool) : Int := if m.to a = -1 then s else m.to a
def stepR (s e : Int) (a : Bool) : List Mv → Int
  | [] => s
  | m :: r => if m.hit s e = true then m.leads s a else stepR s e a r
def stepF (s e : Int) (a : Bool) : Int := stepR s e a mvs
theorem stepR_hit {s e : Int} {a : Bool} : ∀ {l : List Mv} {k : Nat} {m : Mv}, l[k]? = some m → m.hit s e = true → (∀ j x, j < k → l[j]? = some x → x.hit s e = false) → stepR s e a l = m.leads s a
  | [], _, _, h, _, _ => by simp at h
  | x :: r, 0, m, h, hm, _ => by
    simp at h
    subst h
    exact if_pos hm
  | x :: r, k + 1, m, h, hm, hn => by
    have h0 := hn 0 x (by omega) rfl
    unfold stepR
    rw [if_neg (by simp [h0])]
    exact stepR_hit (by simpa using h) hm fun j y hj hy => hn (j + 1) y (by omega) (by simpa using hy)
theorem stepR_none {s e : Int} {a : Bool} : ∀ {l : List Mv}, (∀ x ∈ l, x.hit s e = false) → stepR s e a l = s
  | [], _ => rfl
  | x :: r, h => by
    have h0 := h x (by simp)
    unfold stepR
    rw [if_neg (by simp [h0])]
    exact stepR_none fun y hy => h y (by simp [hy])
theorem stepF_hit {s e : Int} {a : Bool} {k : Nat} {m : Mv} (h : mvs[k]? = some m) (hm : m.hit s e = true) (hn : ∀ j x, j < k → mvs[j]? = some x → x.hit s e = false) : stepF s e a = m.leads s a := stepR_hit h hm hn
theorem stepF_none {s e : Int} {a : Bool} (hn : ∀ j x, j < 10 → mvs[j]? = some x → x.hit s e = false) : stepF s e a = s :=
  stepR_none fun x hx => by
    obtain ⟨j, hj⟩ := List.getElem?_of_mem hx
    have := (List.getElem?_eq_some_iff.1 hj).1
    exact hn j x (by simpa [mvs] using this) hj
/-- The document's table, as the reference asks it. -/
def refF (s e : Int) (a : Bool) : Int :=
  if e = 0 ∧ s = 0 then 1
  else if e = 1 ∧ s = 1 then (if a = true then 3 else 2)
  else if e = 2 ∧ 2 ≤ s ∧ s ≤ 6 then 1
  else if e = 3 ∧ s = 2 ∧ a = true then 3
  else if e = 3 ∧ 3 ≤ s ∧ s ≤ 6 ∧ a = false then 2
  else if e = 4 ∧ s = 3 then 4
  else if e = 5 ∧ s = 4 then 5
  else if e = 6 ∧ (s = 4 ∨ s = 5) then 6
  else if e = 7 ∧ 4 ≤ s ∧ s ≤ 6 then 3
  else if e = 8 ∧ 0 ≤ s ∧ s ≤ 6 then 0
  else s
theorem step_ref_in : ∀ (s : Fin 7) (e : Fin 9) (a : Bool), stepF ((s : Nat) : Int) ((e : Nat) : Int) a = refF ((s : Nat) : Int) ((e : Nat) : Int) a := by decide
theorem no_hit {s e : Int} (h : ¬ ((0 ≤ s ∧ s ≤ 6) ∧ 0 ≤ e ∧ e ≤ 8)) : ∀ x ∈ mvs, x.hit s e = false := by
  simp only [mvs, List.mem_cons, List.not_mem_nil, or_false, Mv.hit]
  rintro x (rfl | rfl | rfl | rfl | rfl | rfl | rfl | rfl | rfl | rfl) <;> simp <;> omega
theorem step_ref (s e : Int) (a : Bool) : stepF s e a = refF s e a := by
  by_cases h : (0 ≤ s ∧ s ≤ 6) ∧ 0 ≤ e ∧ e ≤ 8
  · have := step_ref_in ⟨s.toNat, by omega⟩ ⟨e.toNat, by omega⟩ a
    simpa [Int.toNat_of_nonneg h.1.1, Int.toNat_of_nonneg h.2.1] using this
  · rw [show stepF s e a = s from stepR_none (no_hit h)]
    unfold refF
    rw [if_neg (by omega), if_neg (by omega), if_neg (by omega), if_neg (fun hh => by omega), if_neg (fun hh => by omega), if_neg (by omega), if_neg (by omega), if_neg (by omega), if_neg (by omega), if_neg (by omega)]
/-- Behind some events, one behind the other. -/
def pathF (l : List Int) : Int := l.foldl (fun s e => stepF s e true) 0
theorem pathF_snoc (l : List Int) (e : Int) : pathF (l ++ [e]) = stepF (pathF l) e true := by simp [pathF]
/-- The state of a neighbor is one of the seven. -/
theorem step_in {s : Int} (e : Int) (a : Bool) (h : 0 ≤ s ∧ s ≤ 6) : 0 ≤ stepF s e a ∧ stepF s e a ≤ 6 := by
  rw [step_ref]
  unfold refF
  cases a <;> (repeat' split) <;> omega
theorem path_in (l : List Int) : 0 ≤ pathF l ∧ pathF l ≤ 6 := by
  suffices h : ∀ s : Int, (0 ≤ s ∧ s ≤ 6) → 0 ≤ l.foldl (fun s e => stepF s e true) s ∧ l.foldl (fun s e => stepF s e true) s ≤ 6 from h 0 (by omega)
  induction l with
  | nil => exact fun s h => h
  | cons e l ih => exact fun s h => ih _ (step_in e true h)
theorem path_gone (l : List Int) : pathF (l ++ [8]) = 0 := by
  have h := path_in l
  rw [pathF_snoc, step_ref]
  unfold refF
  simp only [show ¬ ((8 : Int) = 0) from by decide, show ¬ ((8 : Int) = 1) from by decide, show ¬ ((8 : Int) = 2) from by decide, show ¬ ((8 : Int) = 3) from by decide, show ¬ ((8 : Int) = 4) from by decide, show ¬ ((8 : Int) = 5) from by decide, show ¬ ((8 : Int) = 6) from by decide, show ¬ ((8 : Int) = 7) from by decide, false_and, if_false, true_and]
  rw [if_pos h]
/-- Two that are no such ones stay at most at the third state. -/
theorem step_others {s : Int} (e : Int) (h : 0 ≤ s ∧ s ≤ 2) : 0 ≤ stepF s e false ∧ stepF s e false ≤ 2 := by
  rw [step_ref]
  unfold refF
  (repeat' split) <;> simp_all <;> omega
end Go.Proofs.YtohfoopagbajnaaDoor
