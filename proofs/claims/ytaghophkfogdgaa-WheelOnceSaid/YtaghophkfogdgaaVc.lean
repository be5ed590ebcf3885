/- The order of timers: plain facts. No conditions. -/
import Derived.Test.YtaghophkfogdgaaTp
import Derived.Test.YtaghophkfogdgaaTh
import Derived.Sort.Statements
import Derived.Shelf.SlSortCmp.Insertion
namespace Go.Proofs.Ytaghophkfogdgaa
open Go.RowKit Go.Lib Go.Sort

theorem lessL_irrefl : ∀ x : List Int, lessL x x = false
  | [] => rfl
  | a :: x => by
    unfold lessL
    rw [if_pos rfl]
    exact lessL_irrefl x
theorem lessL_trans : ∀ x y z : List Int, lessL x y = true → lessL y z = true → lessL x z = true
  | [], _, _, h, _ => by simp [lessL] at h
  | _ :: _, [], _, h, _ => by simp [lessL] at h
  | _ :: _, _ :: _, [], _, h => by simp [lessL] at h
  | a :: x, b :: y, c :: z, h1, h2 => by
    unfold lessL at *
    by_cases e1 : a = b
    · rw [if_pos e1] at h1
      by_cases e2 : b = c
      · rw [if_pos e2] at h2
        rw [if_pos (e1.trans e2)]
        exact lessL_trans x y z h1 h2
      · rw [if_neg e2] at h2
        rw [if_neg (by omega), e1]
        exact h2
    · rw [if_neg e1] at h1
      have := of_decide_eq_true h1
      by_cases e2 : b = c
      · rw [if_neg (by omega), ← e2]
        exact h1
      · rw [if_neg e2] at h2
        have := of_decide_eq_true h2
        rw [if_neg (by omega)]
        exact decide_eq_true (by omega)
theorem lessL_total : ∀ x y : List Int, x.length = y.length → lessL x y = false → lessL y x = false → x = y
  | [], [], _, _, _ => rfl
  | [], _ :: _, h, _, _ => by simp at h
  | _ :: _, [], h, _, _ => by simp at h
  | a :: x, b :: y, h, h1, h2 => by
    unfold lessL at *
    by_cases e : a = b
    · rw [if_pos e] at h1
      rw [if_pos e.symm] at h2
      rw [e, lessL_total x y (by simpa using h) h1 h2]
    · rw [if_neg e] at h1
      rw [if_neg (fun q => e q.symm)] at h2
      have := of_decide_eq_false h1
      have := of_decide_eq_false h2
      omega
theorem lessL_ntrans {x y z : List Int} (h1 : x.length = y.length) (e1 : lessL x y = false) (e2 : lessL y z = false) : lessL x z = false := by
  cases h : lessL x z
  · rfl
  · exfalso
    cases h3 : lessL y x
    · rw [lessL_total x y h1 e1 h3, e2] at h
      cases h
    · rw [lessL_trans y x z h3 h] at e2
      cases e2
theorem or_less : ∀ x y : List Int, x.length = y.length → decide (orL (List.zipWith Lib.compareInt x y) < 0) = lessL x y
  | [], [], _ => rfl
  | [], _ :: _, h => by simp at h
  | _ :: _, [], h => by simp at h
  | a :: x, b :: y, h => by
    have ih := or_less x y (by simpa using h)
    show decide ((if Lib.compareInt a b = 0 then orL (List.zipWith Lib.compareInt x y) else Lib.compareInt a b) < 0) = (if a = b then lessL x y else decide (a < b))
    unfold Lib.compareInt at *
    by_cases e1 : a < b
    · have e2 : ¬ a = b := by omega
      simp [e1, e2]
    · by_cases e2 : b < a
      · have e3 : ¬ a = b := by omega
        simp [e1, e2, e3]
      · have e3 : a = b := by omega
        subst e3
        simpa using ih
/-- What a wheel's timers are in order by. -/
def keyT (R : List En) (t : Tm) : List Int := [tickOf R t, t.kind, t.lan, t.id, t.kk, t.ki, t.ka]
theorem cmpT_less (R : List En) (a b : Tm) : decide (cmpT R a b < 0) = lessL (keyT R a) (keyT R b) := or_less (keyT R a) (keyT R b) rfl
theorem leT_eq (R : List En) (a b : Tm) : leT R a b = !lessL (keyT R b) (keyT R a) := by
  unfold leT
  rw [cmpT_less]
theorem keyT_inj {R : List En} {a b : Tm} (h : keyT R a = keyT R b) : a = b := by
  obtain ⟨a1, a2, a3, a4, a5, a6⟩ := a
  obtain ⟨b1, b2, b3, b4, b5, b6⟩ := b
  simp [keyT] at h
  simp [h]
/-- Timers of 64 bits. -/
structure WT where
  t : Tm
  ok : wfTm t
theorem WT.eq : ∀ {x y : WT}, x.t = y.t → x = y
  | ⟨_, _⟩, ⟨_, _⟩, rfl => rfl
instance : Inhabited WT := ⟨⟨⟨0, 0, 0, 0, 0, 0⟩, by unfold wfTm inI; decide⟩⟩
def cfW (R : List En) (x y : WT) : Int := cmpT R x.t y.t
theorem ltW (R : List En) (x y : WT) : ltOf (cfW R) x y = lessL (keyT R x.t) (keyT R y.t) := cmpT_less R x.t y.t
theorem swoW (R : List En) : SWO (ltOf (cfW R)) where
  irrefl x := by rw [ltW]; exact lessL_irrefl _
  trans x y z h1 h2 := by rw [ltW] at *; exact lessL_trans _ _ _ h1 h2
  ntrans x y z h1 h2 := by
    rw [ltW] at h1 h2 ⊢
    exact lessL_ntrans (x := keyT R x.t) (y := keyT R y.t) (z := keyT R z.t) rfl h1 h2
theorem totW (R : List En) (x y : WT) (h1 : ltOf (cfW R) x y = false) (h2 : ltOf (cfW R) y x = false) : x = y := by
  rw [ltW] at h1 h2
  exact WT.eq (keyT_inj (lessL_total _ _ rfl h1 h2))
end Go.Proofs.Ytaghophkfogdgaa
