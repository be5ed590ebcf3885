/- Plain facts on merging two rows in order by a rotation. No program, no conditions but a strict weak order. -/
import Derived.Test.YtjinleakjkbbgaaUa
namespace Go.Proofs.Ytjinleakjkbbgaa
open Go.Sort
section
variable {α : Type} [Inhabited α] {lt : α → α → Bool}
theorem sorted_le (hS : SWO lt) {d : Array α} {a b i j : Nat} (h : SortedIn lt a b d) (h1 : a ≤ i) (h2 : i ≤ j) (h3 : j < b) : lt d[j]! d[i]! = false := by
  rcases Nat.lt_or_ge i j with h4 | h4
  · exact h i j h1 h4 h3
  · rw [show j = i by omega]
    exact hS.irrefl _
theorem sorted_join {d : Array α} {a c b : Nat} (h1 : SortedIn lt a c d) (h2 : SortedIn lt c b d) (hx : ∀ i j, a ≤ i → i < c → c ≤ j → j < b → lt d[j]! d[i]! = false) : SortedIn lt a b d := fun i j hi hij hj => by
  by_cases c1 : j < c
  · exact h1 i j hi hij c1
  · by_cases c2 : i < c
    · exact hx i j hi c2 (by omega) hj
    · exact h2 i j (by omega) hij hj
theorem sorted_part {d : Array α} {a b a' b' : Nat} (h : SortedIn lt a b d) (h1 : a ≤ a') (h2 : b' ≤ b) : SortedIn lt a' b' d := fun i j hi hij hj => h i j (by omega) hij (by omega)
theorem sorted_one (d : Array α) {a b : Nat} (h : b ≤ a + 1) : SortedIn lt a b d := fun i j hi hij hj => by omega
/-- What stands where behind a rotation. -/
theorem rot_at {d d' : Array α} {s m e mid : Nat} (h : RotOk d s m e d') (h1 : s ≤ m) (h2 : m ≤ e) (h3 : mid + m = s + e) (t : Nat) :
    (t < s → d'[t]! = d[t]!) ∧ (s ≤ t → t < mid → d'[t]! = d[m + (t - s)]!) ∧ (mid ≤ t → t < e → d'[t]! = d[s + (t - mid)]!) ∧ (e ≤ t → d'[t]! = d[t]!) := by
  obtain ⟨-, ho, ha, hb⟩ := h
  refine ⟨fun c => ho t (.inl c), fun c1 c2 => ?_, fun c1 c2 => ?_, fun c => ho t (.inr c)⟩
  · have := ha (t - s) (by omega)
    rwa [show s + (t - s) = t by omega] at this
  · have := hb (t - mid) (by omega)
    rwa [show s + (e - m) + (t - mid) = t by omega] at this
theorem merge_rot (hS : SWO lt) {d d1 : Array α} {a s m e b mid : Nat} (hA : SortedIn lt a m d) (hB : SortedIn lt m b d) (h : RotOk d s m e d1) (g1 : a ≤ s) (g2 : s ≤ m) (g3 : m ≤ e) (g4 : e ≤ b) (g5 : b ≤ d.size) (g6 : mid + m = s + e)
    (ho : s = a ∨ e = b ∨ lt d[e]! d[s - 1]! = false) (hs : s = m ∨ e = m ∨ lt d[e - 1]! d[s]! = true) (hp : PermIn a b d d1) :
    Mix lt a b d d1 ∧ SortedIn lt a s d1 ∧ SortedIn lt s mid d1 ∧ SortedIn lt mid e d1 ∧ SortedIn lt e b d1 ∧ ∀ i j, a ≤ i → i < mid → mid ≤ j → j < b → lt d1[j]! d1[i]! = false := by
  have strict : ∀ i j, s ≤ i → i < m → m ≤ j → j < e → lt d[j]! d[i]! = true := fun i j i1 i2 j1 j2 => by
    rcases hs with hs | hs | hs
    · omega
    · omega
    · have a1 : lt d[i]! d[s]! = false := sorted_le hS hA g1 i1 i2
      have a2 : lt d[e - 1]! d[j]! = false := sorted_le hS hB j1 (by omega) (by omega)
      exact swo_le_lt hS a2 (swo_lt_le hS hs a1)
  refine ⟨⟨hp, rot_stab hS h g2 g3 (by omega) strict⟩, fun i j i1 ij j2 => ?_, fun i j i1 ij j2 => ?_, fun i j i1 ij j2 => ?_, fun i j i1 ij j2 => ?_, fun i j i1 i2 j1 j2 => ?_⟩
  · rw [(rot_at h g2 g3 g6 i).1 (by omega), (rot_at h g2 g3 g6 j).1 (by omega)]
    exact hA i j i1 ij (by omega)
  · rw [(rot_at h g2 g3 g6 i).2.1 (by omega) (by omega), (rot_at h g2 g3 g6 j).2.1 (by omega) (by omega)]
    exact hB _ _ (by omega) (by omega) (by omega)
  · rw [(rot_at h g2 g3 g6 i).2.2.1 (by omega) (by omega), (rot_at h g2 g3 g6 j).2.2.1 (by omega) (by omega)]
    exact hA _ _ (by omega) (by omega) (by omega)
  · rw [(rot_at h g2 g3 g6 i).2.2.2 (by omega), (rot_at h g2 g3 g6 j).2.2.2 (by omega)]
    exact hB _ _ (by omega) (by omega) (by omega)
  · by_cases c1 : i < s
    · rw [(rot_at h g2 g3 g6 i).1 c1]
      by_cases c2 : j < e
      · rw [(rot_at h g2 g3 g6 j).2.2.1 j1 c2]
        exact hA _ _ i1 (by omega) (by omega)
      · rw [(rot_at h g2 g3 g6 j).2.2.2 (by omega)]
        rcases ho with ho | ho | ho
        · omega
        · omega
        · have a1 : lt d[s - 1]! d[i]! = false := sorted_le hS hA i1 (by omega) (by omega)
          have a2 : lt d[j]! d[e]! = false := sorted_le hS hB (by omega) (by omega) j2
          exact hS.ntrans _ _ _ (hS.ntrans _ _ _ a2 ho) a1
    · rw [(rot_at h g2 g3 g6 i).2.1 (by omega) i2]
      by_cases c2 : j < e
      · rw [(rot_at h g2 g3 g6 j).2.2.1 j1 c2]
        exact swo_asymm hS (strict _ _ (by omega) (by omega) (by omega) (by omega))
      · rw [(rot_at h g2 g3 g6 j).2.2.2 (by omega)]
        exact hB _ _ (by omega) (by omega) j2
/-- Both halves are put in order, each for itself. -/
theorem merge_end {d1 d2 d3 : Array α} {a mid b : Nat} (h1 : a ≤ mid) (h2 : mid ≤ b) (h3 : b ≤ d1.size) (hx : ∀ i j, a ≤ i → i < mid → mid ≤ j → j < b → lt d1[j]! d1[i]! = false) (m1 : Mix lt a mid d1 d2) (s1 : SortedIn lt a mid d2) (m2 : Mix lt mid b d2 d3) (s2 : SortedIn lt mid b d3) :
    Mix lt a b d1 d3 ∧ SortedIn lt a b d3 := by
  have hz := m1.size
  refine ⟨(m1.wide (Nat.le_refl _) h2 h3).trans (m2.wide h1 (Nat.le_refl _) (by omega)), sorted_join ?_ s2 ?_⟩
  · intro i j hi hij hj
    rw [m2.out i (.inl (by omega)), m2.out j (.inl hj)]
    exact s1 i j hi hij hj
  · intro i j i1 i2 j1 j2
    rw [m2.out i (.inl i2)]
    refine m2.all (by omega) (fun y => lt y d2[i]! = false) (fun j' b1 b2 => ?_) j j1 j2
    rw [m1.out j' (.inr b1)]
    exact m1.all (by omega) (fun x => lt d1[j']! x = false) (fun i' c1 c2 => hx i' j' c1 c2 b1 b2) i i1 i2
/-- One item finds its place among those behind it. -/
theorem merge_left (hS : SWO lt) {d d1 : Array α} {a i b : Nat} (hB : SortedIn lt (a + 1) b d) (h : RotOk d a (a + 1) i d1) (g1 : a + 1 ≤ i) (g2 : i ≤ b) (g3 : b ≤ d.size) (hl : ∀ t, a + 1 ≤ t → t < i → lt d[t]! d[a]! = true) (hr : i = b ∨ lt d[i]! d[a]! = false) (hp : PermIn a b d d1) :
    Mix lt a b d d1 ∧ SortedIn lt a b d1 := by
  have e : i - 1 + (a + 1) = a + i := by omega
  obtain ⟨m1, -, s1, s2, s3, hx⟩ := merge_rot hS (mid := i - 1) (sorted_one d (by omega)) hB h (Nat.le_refl _) (by omega) g1 g2 g3 e (.inl rfl) (by
    by_cases c : i = a + 1
    · exact .inr (.inl c)
    · exact .inr (.inr (hl _ (by omega) (by omega)))) hp
  refine ⟨m1, sorted_join s1 (sorted_join s2 s3 fun x y x1 x2 y1 y2 => ?_) hx⟩
  obtain rfl : x = i - 1 := by omega
  rw [(rot_at h (by omega) g1 e (i - 1)).2.2.1 (Nat.le_refl _) (by omega), (rot_at h (by omega) g1 e y).2.2.2 y1, show a + (i - 1 - (i - 1)) = a by omega]
  rcases hr with hr | hr
  · omega
  · exact hS.ntrans _ _ _ (sorted_le hS hB g1 y1 y2) hr
/-- One item finds its place among those ahead of it. -/
theorem merge_right (hS : SWO lt) {d d1 : Array α} {a i m : Nat} (hA : SortedIn lt a m d) (h : RotOk d i m (m + 1) d1) (g1 : a ≤ i) (g2 : i ≤ m) (g3 : m + 1 ≤ d.size) (hl : ∀ t, a ≤ t → t < i → lt d[m]! d[t]! = false) (hr : i = m ∨ lt d[m]! d[i]! = true) (hp : PermIn a (m + 1) d d1) :
    Mix lt a (m + 1) d d1 ∧ SortedIn lt a (m + 1) d1 := by
  have e : i + 1 + m = i + (m + 1) := by omega
  obtain ⟨m1, s0, -, s2, -, hx⟩ := merge_rot hS (mid := i + 1) hA (sorted_one d (by omega)) h g1 g2 (by omega) (Nat.le_refl _) g3 e (.inr (.inl rfl)) (by
    rcases hr with hr | hr
    · exact .inl hr
    · exact .inr (.inr (by rwa [show m + 1 - 1 = m by omega]))) hp
  refine ⟨m1, sorted_join (c := i + 1) (sorted_join (c := i) s0 (sorted_one d1 (by omega)) fun x y x1 x2 y1 y2 => ?_) s2 hx⟩
  obtain rfl : y = i := by omega
  rw [(rot_at h g2 (by omega) e x).1 x2, (rot_at h g2 (by omega) e y).2.1 (Nat.le_refl _) (by omega), show m + (y - y) = m by omega]
  exact hl x x1 x2
theorem RotOk.refl (d : Array α) (s m : Nat) : RotOk d s m m d := ⟨rfl, fun _ _ => rfl, fun t h => absurd h (by omega), fun t h => by
  rw [show s + (m - m) + t = s + t by omega]⟩
theorem RotOk.refl' (d : Array α) (m e : Nat) : RotOk d m m e d := ⟨rfl, fun _ _ => rfl, fun _ _ => rfl, fun t h => absurd h (by omega)⟩
/-- An item one further on. -/
theorem rot_on {d dk : Array α} {a j : Nat} (h : RotOk d a (a + 1) (j + 1) dk) (g : a ≤ j) (g2 : j + 1 < d.size) : RotOk d a (a + 1) (j + 2) (swp dk j (j + 1)) := by
  obtain ⟨hs, ho, ha, hb⟩ := h
  refine ⟨by rw [size_swp, hs], fun t ht => ?_, fun t ht => ?_, fun t ht => ?_⟩
  · rw [swp_other _ _ _ _ (by omega) (by omega)]
    exact ho t (by omega)
  · by_cases c : a + t = j
    · rw [c, swp_left _ _ _ (by omega) (by omega), ho (j + 1) (.inr (Nat.le_refl _)), show a + 1 + t = j + 1 by omega]
    · rw [swp_other _ _ _ _ c (by omega)]
      exact ha t (by omega)
  · obtain rfl : t = 0 := by omega
    rw [show a + (j + 2 - (a + 1)) + 0 = j + 1 by omega, swp_right _ _ _ (by omega)]
    have := hb 0 (by omega)
    rwa [show a + (j + 1 - (a + 1)) + 0 = j by omega] at this
theorem rot_off {d dk : Array α} {j m : Nat} (h : RotOk d (j + 1) m (m + 1) dk) (g : j + 1 ≤ m) (g2 : m < d.size) : RotOk d j m (m + 1) (swp dk (j + 1) j) := by
  obtain ⟨hs, ho, ha, hb⟩ := h
  refine ⟨by rw [size_swp, hs], fun t ht => ?_, fun t ht => ?_, fun t ht => ?_⟩
  · rw [swp_other _ _ _ _ (by omega) (by omega)]
    exact ho t (by omega)
  · obtain rfl : t = 0 := by omega
    rw [show j + 0 = j by omega, swp_right _ _ _ (by omega)]
    have := ha 0 (by omega)
    rwa [show j + 1 + 0 = j + 1 by omega] at this
  · by_cases c : t = 0
    · subst c
      rw [show j + (m + 1 - m) + 0 = j + 1 by omega, swp_left _ _ _ (by omega) (by omega), ho j (.inl (by omega))]
      rfl
    · rw [swp_other _ _ _ _ (by omega) (by omega)]
      have := hb (t - 1) (by omega)
      rwa [show j + 1 + (m + 1 - m) + (t - 1) = j + (m + 1 - m) + t by omega, show j + 1 + (t - 1) = j + t by omega] at this
end
end Go.Proofs.Ytjinleakjkbbgaa
