/- Neighbors, Hellos and what they lead to, plain. No conditions. -/
namespace Go.Proofs.Ytfapphndfgoknaa

/-- A neighbor. -/
structure Pe where
  id : Int
  prio : Int
  dr : Int
  bdr : Int
  st : Int
  two : Bool
  tick : Int
/-- A Hello. -/
structure Hl where
  every : Int
  dead : Int
  prio : Int
  dr : Int
  bdr : Int
  seen : List Int
/-- A candidate. -/
structure Cd where
  id : Int
  prio : Int
  dr : Int
  bdr : Int
/-- What a Hello leads to. -/
structure Hd where
  taken : Bool
  fresh : Bool
  two : Bool
  one : Bool
  bears : Bool
def noHd : Hd := ⟨false, false, false, false, false⟩
def findP (X : List Pe) (i : Int) : Option Pe := X.find? (fun x => x.id == i)
def onB (lan addr : Int) : Bool := addr == 0 || (decide (1 ≤ addr - lan * 16) && decide (addr - lan * 16 ≤ 15))
def whoI (addr : Int) : Int := addr.tmod 16
def takesB (self lan i : Int) (h : Hl) : Bool := decide (1 ≤ i) && decide (i ≤ 15) && i != self && h.every == 2 && h.dead == 8 && onB lan h.dr && onB lan h.bdr
def newP (i : Int) : Pe := ⟨i, 0, 0, 0, 1, false, 0⟩
def wasP (X : List Pe) (i : Int) : Pe := (findP X i).getD (newP i)
def toldP (self : Int) (x : Pe) (h : Hl) (now : Int) : Pe := ⟨x.id, h.prio, whoI h.dr, whoI h.bdr, x.st, h.seen.contains self, now⟩
def putP (y : Pe) : List Pe → List Pe
  | [] => [y]
  | x :: l => if y.id < x.id then y :: x :: l else if y.id = x.id then y :: l else x :: putP y l
def bearsB (i : Int) (was x : Pe) : Bool := (was.two != x.two) || (x.two && ((was.prio != x.prio) || ((was.dr == i) != (x.dr == i)) || ((was.bdr == i) != (x.bdr == i))))
def ledH (i : Int) (fresh : Bool) (was x : Pe) : Hd := ⟨true, fresh, x.two, was.two && !x.two, bearsB i was x⟩
def hearX (self lan : Int) (X : List Pe) (i : Int) (h : Hl) (now : Int) : List Pe := if takesB self lan i h = true then putP (toldP self (wasP X i) h now) X else X
def hearH (self lan : Int) (X : List Pe) (i : Int) (h : Hl) (now : Int) : Hd := if takesB self lan i h = true then ledH i (findP X i).isNone (wasP X i) (toldP self (wasP X i) h now) else noHd
def lateB (now : Int) (x : Pe) : Bool := decide (8 ≤ now - x.tick)
def lateL (X : List Pe) (now : Int) : List Int := (X.filter (lateB now)).map (·.id)
def dropX (X : List Pe) (i : Int) : List Pe := X.filter (fun x => x.id != i)
def setB (X : List Pe) (i s : Int) : Bool := (findP X i).isSome && decide (0 ≤ s) && decide (s ≤ 6)
def setP (s : Int) (x : Pe) : Pe := ⟨x.id, x.prio, x.dr, x.bdr, s, x.two, x.tick⟩
def setX (X : List Pe) (i s : Int) : List Pe := if setB X i s = true then putP (setP s (wasP X i)) X else X
def cdP (x : Pe) : Cd := ⟨x.id, x.prio, x.dr, x.bdr⟩
def cdsL (X : List Pe) : List Cd := (X.filter (·.two)).map cdP
/-- Neighbors by their numbers, rising; when they were heard. -/
structure Srt (X : List Pe) : Prop where
  rise : X.Pairwise (fun a b => a.id < b.id)
  ids : ∀ x ∈ X, 1 ≤ x.id ∧ x.id ≤ 15
  ticks : ∀ x ∈ X, 0 ≤ x.tick ∧ x.tick ≤ 1048576
theorem Srt.nil : Srt [] := ⟨List.Pairwise.nil, fun x h => absurd h (by simp), fun x h => absurd h (by simp)⟩
theorem findP_is {X : List Pe} {i : Int} {x : Pe} (h : findP X i = some x) : x ∈ X ∧ x.id = i := ⟨List.mem_of_find?_eq_some h, by simpa using List.find?_some h⟩
theorem findP_no {X : List Pe} {i : Int} (h : findP X i = none) : ∀ x ∈ X, x.id ≠ i := fun x hx => by simpa using List.find?_eq_none.1 h x hx
theorem Srt.find {X : List Pe} (hs : Srt X) {x : Pe} (hx : x ∈ X) : findP X x.id = some x := by
  have hr := hs.rise
  clear hs
  induction X with
  | nil => cases hx
  | cons y l ih =>
    have hp := List.pairwise_cons.1 hr
    rcases List.mem_cons.1 hx with rfl | hx
    · simp [findP]
    · have h1 := hp.1 x hx
      have h2 : (y.id == x.id) = false := by simp; omega
      unfold findP
      rw [List.find?_cons, h2]
      exact ih hx hp.2
theorem Srt.find_range {X : List Pe} (hs : Srt X) {i : Int} {x : Pe} (h : findP X i = some x) : 1 ≤ i ∧ i ≤ 15 := by
  obtain ⟨h1, h2⟩ := findP_is h
  have := hs.ids x h1
  omega
theorem findP_off {X : List Pe} (hs : Srt X) {i : Int} (h : ¬ (1 ≤ i ∧ i ≤ 15)) : findP X i = none := by
  cases hf : findP X i with
  | none => rfl
  | some x => exact absurd (hs.find_range hf) h
theorem Srt.low {X : List Pe} {a : Int} (hr : X.Pairwise (fun a b => a.id < b.id)) (ha : ∀ x ∈ X, a ≤ x.id) : ∀ (j : Nat) (x : Pe), X[j]? = some x → a + j ≤ x.id := by
  induction X generalizing a with
  | nil => intro j x h; simp at h
  | cons y l ih =>
    intro j x h
    have hp := List.pairwise_cons.1 hr
    cases j with
    | zero =>
      simp at h
      subst h
      have := ha y (by simp)
      simpa using this
    | succ j =>
      have := ih (a := a + 1) hp.2 (fun z hz => by have h1 := hp.1 z hz; have h2 := ha y (by simp); omega) j x (by simpa using h)
      push_cast
      omega
theorem Srt.len {X : List Pe} (hs : Srt X) : X.length ≤ 15 := by
  rcases Nat.lt_or_ge 15 X.length with h | h
  · have hx : X[15]? = some X[15] := List.getElem?_eq_getElem h
    have h1 := Srt.low hs.rise (fun x hx => (hs.ids x hx).1) 15 _ hx
    have h2 := hs.ids _ (List.mem_of_getElem? hx)
    omega
  · exact h
theorem putP_mem {y : Pe} : ∀ {X : List Pe} {x : Pe}, x ∈ putP y X → x = y ∨ x ∈ X
  | [], x, h => by simpa [putP] using h
  | z :: l, x, h => by
    unfold putP at h
    split at h
    · rcases List.mem_cons.1 h with h | h
      · exact Or.inl h
      · exact Or.inr h
    · split at h
      · rcases List.mem_cons.1 h with h | h
        · exact Or.inl h
        · exact Or.inr (List.mem_cons_of_mem _ h)
      · rcases List.mem_cons.1 h with h | h
        · exact Or.inr (by rw [h]; exact List.mem_cons_self)
        · rcases putP_mem h with h | h
          · exact Or.inl h
          · exact Or.inr (List.mem_cons_of_mem _ h)
theorem putP_rise {y : Pe} : ∀ {X : List Pe}, X.Pairwise (fun a b => a.id < b.id) → (putP y X).Pairwise (fun a b => a.id < b.id)
  | [], _ => by simp [putP]
  | z :: l, h => by
    have hp := List.pairwise_cons.1 h
    unfold putP
    split
    · rename_i h1
      refine List.pairwise_cons.2 ⟨fun x hx => ?_, h⟩
      rcases List.mem_cons.1 hx with rfl | hx
      · exact h1
      · have := hp.1 x hx; omega
    · split
      · rename_i h1 h2
        exact List.pairwise_cons.2 ⟨fun x hx => by rw [h2]; exact hp.1 x hx, hp.2⟩
      · rename_i h1 h2
        refine List.pairwise_cons.2 ⟨fun x hx => ?_, putP_rise hp.2⟩
        rcases putP_mem hx with rfl | hx
        · omega
        · exact hp.1 x hx
theorem Srt.put {X : List Pe} (hs : Srt X) {y : Pe} (h1 : 1 ≤ y.id ∧ y.id ≤ 15) (h2 : 0 ≤ y.tick ∧ y.tick ≤ 1048576) : Srt (putP y X) :=
  ⟨putP_rise hs.rise, fun x hx => by
    rcases putP_mem hx with rfl | hx
    · exact h1
    · exact hs.ids x hx, fun x hx => by
    rcases putP_mem hx with rfl | hx
    · exact h2
    · exact hs.ticks x hx⟩
theorem find_put {y : Pe} {i : Int} : ∀ {X : List Pe}, X.Pairwise (fun a b => a.id < b.id) → findP (putP y X) i = if i = y.id then some y else findP X i
  | [], _ => by
    unfold putP findP
    by_cases h : i = y.id
    · simp [h]
    · have : (y.id == i) = false := by simp; omega
      simp [h, this]
  | z :: l, hr => by
    have hp := List.pairwise_cons.1 hr
    unfold putP
    split
    · rename_i h1
      unfold findP
      rw [List.find?_cons]
      by_cases h : i = y.id
      · simp [h]
      · have : (y.id == i) = false := by simp; omega
        simp [h, this]
    · split
      · rename_i h1 h2
        unfold findP
        rw [List.find?_cons]
        by_cases h : i = y.id
        · simp [h]
        · have e1 : (y.id == i) = false := by simp; omega
          have e2 : (z.id == i) = false := by simp; omega
          simp [h, e1, e2]
      · rename_i h1 h2
        have ih := find_put (y := y) (i := i) hp.2
        unfold findP at ih ⊢
        rw [List.find?_cons, List.find?_cons]
        by_cases h : z.id = i
        · have e1 : (z.id == i) = true := by simp [h]
          have e2 : i ≠ y.id := by omega
          simp [e1, e2]
        · have e1 : (z.id == i) = false := by simp [h]
          simp only [e1]
          exact ih
theorem Srt.drop {X : List Pe} (hs : Srt X) (i : Int) : Srt (dropX X i) :=
  ⟨hs.rise.filter _, fun x hx => hs.ids x (List.mem_filter.1 hx).1, fun x hx => hs.ticks x (List.mem_filter.1 hx).1⟩
theorem find_drop {X : List Pe} (i j : Int) : findP (dropX X i) j = if j = i then none else findP X j := by
  unfold dropX findP
  induction X with
  | nil => simp
  | cons z l ih =>
    rw [List.filter_cons]
    by_cases h : z.id = i
    · have e1 : (z.id != i) = false := by simp [h]
      rw [e1]
      simp only [Bool.false_eq_true, if_false]
      rw [ih, List.find?_cons]
      by_cases h2 : j = i
      · simp [h2]
      · have e2 : (z.id == j) = false := by simp; omega
        simp [h2, e2]
    · have e1 : (z.id != i) = true := by simp [h]
      rw [e1]
      simp only [if_true]
      rw [List.find?_cons, List.find?_cons, ih]
      by_cases h3 : z.id = j
      · have e3 : (z.id == j) = true := by simp [h3]
        have e4 : j ≠ i := by omega
        simp [e3, e4]
      · have e3 : (z.id == j) = false := by simp [h3]
        simp [e3]
theorem drop_no {X : List Pe} {i : Int} (h : findP X i = none) : dropX X i = X := by
  unfold dropX
  rw [List.filter_eq_self]
  intro x hx
  have := findP_no h x hx
  simp [this]
/-- Those below a number. -/
def belowP (X : List Pe) (k : Int) : List Pe := X.filter (fun x => decide (x.id < k))
theorem below_no {X : List Pe} {k : Int} (h : findP X k = none) : belowP X (k + 1) = belowP X k := by
  unfold belowP
  refine List.filter_congr (fun x hx => ?_)
  have := findP_no h x hx
  have e : (x.id < k + 1) ↔ (x.id < k) := by omega
  simp [e]
theorem below_some {X : List Pe} {k : Int} {x : Pe} (hr : X.Pairwise (fun a b => a.id < b.id)) (h : findP X k = some x) : belowP X (k + 1) = belowP X k ++ [x] := by
  induction X with
  | nil => cases h
  | cons y l ih =>
    have hp := List.pairwise_cons.1 hr
    obtain ⟨hm, hid⟩ := findP_is h
    by_cases hy : y.id = k
    · have e1 : (y.id == k) = true := by simp [hy]
      unfold findP at h
      rw [List.find?_cons, e1] at h
      injection h with h
      subst h
      have n1 : l.filter (fun x => decide (x.id < k + 1)) = [] := List.filter_eq_nil_iff.2 (fun z hz => by have := hp.1 z hz; simp; omega)
      have n2 : l.filter (fun x => decide (x.id < k)) = [] := List.filter_eq_nil_iff.2 (fun z hz => by have := hp.1 z hz; simp; omega)
      unfold belowP
      rw [List.filter_cons, List.filter_cons, n1, n2]
      have d1 : decide (y.id < k + 1) = true := by simp; omega
      have d2 : decide (y.id < k) = false := by simp; omega
      rw [d1, d2]
      rfl
    · have e1 : (y.id == k) = false := by simp [hy]
      unfold findP at h
      rw [List.find?_cons, e1] at h
      have ih := ih hp.2 h
      have hxl := List.mem_of_find?_eq_some h
      have hlt := hp.1 x hxl
      unfold belowP at ih ⊢
      rw [List.filter_cons, List.filter_cons, ih]
      have d1 : decide (y.id < k + 1) = true := by simp; omega
      have d2 : decide (y.id < k) = true := by simp; omega
      rw [d1, d2]
      rfl
theorem below_none {X : List Pe} (hs : Srt X) {k : Int} (hk : k ≤ 1) : belowP X k = [] := List.filter_eq_nil_iff.2 (fun x hx => by have := hs.ids x hx; simp; omega)
theorem below_all {X : List Pe} (hs : Srt X) : belowP X 16 = X := List.filter_eq_self.2 (fun x hx => by have := hs.ids x hx; simp; omega)
/-- A neighbor's place; -1: there is none. -/
def posI (i : Int) : List Pe → Int
  | [] => -1
  | x :: l => if x.id = i then 0 else if posI i l = -1 then -1 else posI i l + 1
theorem posI_at {i : Int} : ∀ {X : List Pe} {j : Nat} {x : Pe}, X[j]? = some x → x.id = i → (∀ k y, k < j → X[k]? = some y → y.id ≠ i) → posI i X = j
  | [], j, x, h, _, _ => by simp at h
  | c :: l, 0, x, h, hx, _ => by
    simp at h
    subst h
    simp [posI, hx]
  | c :: l, j + 1, x, h, hx, hj => by
    have h0 : c.id ≠ i := hj 0 c (by omega) rfl
    have ih := posI_at (X := l) (j := j) (by simpa using h) hx (fun k y hi hy => hj (k + 1) y (by omega) (by simpa using hy))
    unfold posI
    rw [if_neg h0, ih, if_neg (by omega)]
    omega
theorem posI_no {i : Int} : ∀ {X : List Pe}, (∀ y ∈ X, y.id ≠ i) → posI i X = -1
  | [], _ => rfl
  | c :: l, h => by
    unfold posI
    rw [if_neg (h c (by simp)), if_pos (posI_no fun y hy => h y (by simp [hy]))]
theorem posI_cases (i : Int) : ∀ X : List Pe, (posI i X = -1 ∧ findP X i = none) ∨ ∃ (k : Nat) (x : Pe), posI i X = k ∧ X[k]? = some x ∧ findP X i = some x
  | [] => .inl ⟨rfl, rfl⟩
  | c :: l => by
    unfold posI findP
    rw [List.find?_cons]
    by_cases h : c.id = i
    · refine .inr ⟨0, c, ?_, rfl, ?_⟩
      · simp [h]
      · simp [h]
    · have e : (c.id == i) = false := by simp [h]
      rw [if_neg h, e]
      rcases posI_cases i l with ⟨h1, h2⟩ | ⟨k, x, h1, h2, h3⟩
      · exact .inl ⟨by rw [if_pos h1], h2⟩
      · exact .inr ⟨k + 1, x, by rw [h1, if_neg (by omega)]; omega, by simpa using h2, h3⟩
/-- What is found is put in its place. -/
theorem set_put {i : Int} {y : Pe} (hy : y.id = i) : ∀ {X : List Pe} {k : Nat} {x : Pe}, X.Pairwise (fun a b => a.id < b.id) → X[k]? = some x → x.id = i → X.set k y = putP y X
  | [], k, x, _, h, _ => by simp at h
  | c :: l, 0, x, _, h, hx => by
    simp at h
    subst h
    unfold putP
    rw [if_neg (by omega), if_pos (by omega)]
    rfl
  | c :: l, k + 1, x, hr, h, hx => by
    have hp := List.pairwise_cons.1 hr
    have hl : l[k]? = some x := by simpa using h
    have := hp.1 x (List.mem_of_getElem? hl)
    unfold putP
    rw [if_neg (by omega), if_neg (by omega), List.set_cons_succ, set_put hy hp.2 hl hx]
/-- One is put ahead of the first greater one. -/
def stepN (n : Pe) (s : List Pe × Bool) (x : Pe) : List Pe × Bool := if s.2 = false ∧ n.id < x.id then (s.1 ++ [n, x], true) else (s.1 ++ [x], s.2)
def endN (n : Pe) (s : List Pe × Bool) : List Pe := if s.2 = false then s.1 ++ [n] else s.1
theorem foldN_done (n : Pe) : ∀ (L A : List Pe), L.foldl (stepN n) (A, true) = (A ++ L, true)
  | [], A => by simp
  | x :: l, A => by
    rw [List.foldl_cons]
    have : stepN n (A, true) x = (A ++ [x], true) := by simp [stepN]
    rw [this, foldN_done n l]
    simp
theorem foldN_end (n : Pe) : ∀ (L A : List Pe), (∀ x ∈ L, x.id ≠ n.id) → endN n (L.foldl (stepN n) (A, false)) = A ++ putP n L
  | [], A, _ => by simp [endN, putP]
  | x :: l, A, h => by
    rw [List.foldl_cons]
    have h0 := h x (by simp)
    unfold putP
    by_cases h1 : n.id < x.id
    · have : stepN n (A, false) x = (A ++ [n, x], true) := by simp [stepN, h1]
      rw [this, foldN_done, if_pos h1]
      simp [endN]
    · have : stepN n (A, false) x = (A ++ [x], false) := by simp [stepN, h1]
      rw [this, foldN_end n l _ (fun z hz => h z (by simp [hz])), if_neg h1, if_neg (by omega)]
      simp
def foldN (n : Pe) (L : List Pe) : List Pe × Bool := L.foldl (stepN n) ([], false)
theorem foldN_all {n : Pe} {X : List Pe} (h : ∀ x ∈ X, x.id ≠ n.id) : endN n (foldN n X) = putP n X := by
  have := foldN_end n X [] h
  simpa [foldN] using this
theorem foldN_len (n : Pe) : ∀ (L : List Pe) (s : List Pe × Bool), (L.foldl (stepN n) s).1.length ≤ s.1.length + L.length + 1 + (if s.2 = true then 0 else 0) ∧ (s.2 = true → (L.foldl (stepN n) s).1.length = s.1.length + L.length)
  | [], s => by simp
  | x :: l, s => by
    rw [List.foldl_cons]
    have ih := foldN_len n l (stepN n s x)
    obtain ⟨A, d⟩ := s
    cases d
    · by_cases h1 : n.id < x.id
      · have e : stepN n (A, false) x = (A ++ [n, x], true) := by simp [stepN, h1]
        rw [e] at ih ⊢
        have := ih.2 rfl
        simp at this ⊢
        omega
      · have e : stepN n (A, false) x = (A ++ [x], false) := by simp [stepN, h1]
        rw [e] at ih ⊢
        have := ih.1
        simp at this ⊢
        omega
    · have e : stepN n (A, true) x = (A ++ [x], true) := by simp [stepN]
      rw [e] at ih ⊢
      have := ih.2 rfl
      simp at this ⊢
      omega
theorem toldP_id (self : Int) (x : Pe) (h : Hl) (now : Int) : (toldP self x h now).id = x.id := rfl
theorem wasP_id (X : List Pe) (i : Int) : (wasP X i).id = i := by
  unfold wasP
  cases h : findP X i with
  | none => rfl
  | some x => exact (findP_is h).2
theorem Srt.hear {X : List Pe} (hs : Srt X) {self lan i now : Int} {h : Hl} (hn : 0 ≤ now ∧ now ≤ 1048576) : Srt (hearX self lan X i h now) := by
  unfold hearX
  split
  · rename_i ht
    refine hs.put ?_ hn
    rw [toldP_id, wasP_id]
    simp [takesB] at ht
    omega
  · exact hs
theorem setB_find {X : List Pe} {i s : Int} (h : setB X i s = true) : findP X i = some (wasP X i) ∧ 0 ≤ s ∧ s ≤ 6 := by
  simp [setB] at h
  obtain ⟨⟨h1, h2⟩, h3⟩ := h
  obtain ⟨x, hx⟩ := Option.isSome_iff_exists.1 h1
  refine ⟨?_, h2, h3⟩
  unfold wasP
  rw [hx]
  rfl
theorem Srt.set {X : List Pe} (hs : Srt X) (i s : Int) : Srt (setX X i s) := by
  unfold setX
  split
  · rename_i ht
    obtain ⟨hf, h1, h2⟩ := setB_find ht
    obtain ⟨hm, -⟩ := findP_is hf
    exact hs.put (y := setP s (wasP X i)) (hs.ids (wasP X i) hm) (hs.ticks (wasP X i) hm)
  · exact hs
end Go.Proofs.Ytfapphndfgoknaa
