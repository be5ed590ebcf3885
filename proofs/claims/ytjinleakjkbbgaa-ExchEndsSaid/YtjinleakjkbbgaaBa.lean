/- Plain words of an exchange: what comes of a piece; two that hear each other. No program. -/
import Derived.Test.YtjinleakjkbbgaaJag
namespace Go.Proofs.Ytjinleakjkbbgaa
open Go.Lib

/-- What a piece is told apart by. -/
structure Pc where
  init : Bool
  more : Bool
  master : Bool
  seq : Int
deriving DecidableEq
/-- One side of an exchange; K is what of its heads is left to tell. -/
structure Ex where
  self : Int
  other : Int
  seq : Int
  agreed : Bool
  leads : Bool
  done : Bool
  took : Pc
  said : Pc
  K : List Hd
/-- One more, round at 2^32. -/
def up32 (q : Int) : Int := (q + 1) % 4294967296
def pc0 : Pc := ⟨false, false, false, 0⟩
def newE (self other seq : Int) : Ex := ⟨self, other, seq % 4294967296, false, false, false, pc0, ⟨true, true, true, seq % 4294967296⟩, []⟩
def okSeq (q : Int) : Bool := decide (0 ≤ q) && decide (q < 4294967296)
def agreesE (x : Ex) (p : Pc) (n : Nat) : Bool :=
  if x.self < x.other then p.init && p.more && p.master && decide (n = 0)
  else decide (x.other < x.self) && !p.init && !p.master && decide (p.seq = x.seq)
def sayE (x : Ex) : Ex := { x with said := ⟨false, decide (3 < x.K.length), x.leads, x.seq⟩ }
def takeE (x : Ex) (p : Pc) : Ex := { x with took := p, seq := if x.leads then up32 p.seq else p.seq }
def beginE (x : Ex) (p : Pc) (K : List Hd) : Ex := sayE (takeE { x with agreed := true, leads := decide (x.other < x.self), K := K } p)
def fitsE (x : Ex) (p : Pc) : Bool := !x.done && !p.init && (p.master != x.leads) && decide (p.seq = if x.leads then x.seq else up32 x.seq)
def stepE (x : Ex) : Ex := sayE { x with K := x.K.drop 3 }
def goOnE (x : Ex) (p : Pc) : Ex :=
  if x.leads && !p.more && !x.said.more then { takeE x p with done := true }
  else { stepE (takeE x p) with done := !x.leads && !p.more && !(stepE (takeE x p)).said.more }
/-- What comes of a piece with n heads, where K are the heads to tell; what is behind it. -/
def hearE (x : Ex) (p : Pc) (n : Nat) (K : List Hd) : Int × Ex :=
  if okSeq p.seq = false then (0, x)
  else if x.agreed = false then if agreesE x p n then (2, beginE x p K) else (0, x)
  else if p = x.took then if x.leads then (0, x) else (1, x)
  else if fitsE x p then (2, goOnE x p) else (3, x)

/-- One side of two: its exchange, and what it took. -/
structure Sd where
  x : Ex
  took : List Hd
def hearsC (K : List Hd) (a b : Sd) : Int := (hearE a.x b.x.said (b.x.K.take 3).length K).1
def hearsS (K : List Hd) (a b : Sd) : Sd := ⟨(hearE a.x b.x.said (b.x.K.take 3).length K).2, if hearsC K a b = 2 then a.took ++ b.x.K.take 3 else a.took⟩

/-- What is left at piece i; is there one behind it? -/
def leftAt (K : List Hd) (i : Nat) : List Hd := K.drop (3 * i)
def moreAt (K : List Hd) (i : Nat) : Bool := decide (3 < (leftAt K i).length)
def numAt (s : Int) (i : Nat) : Int := (s + i) % 4294967296
def fP (s : Int) (KF : List Hd) (i : Nat) : Pc := ⟨false, moreAt KF i, false, numAt s i⟩
def lP (s : Int) (KL : List Hd) (i : Nat) : Pc := ⟨false, moreAt KL i, true, numAt s (i + 1)⟩
/-- The one that leads, when it has taken m pieces. -/
def LS (hi lo s : Int) (KL KF : List Hd) : Nat → Ex
  | 0 => newE hi lo s
  | m + 1 => ⟨hi, lo, numAt s (m + 1), true, true, false, fP s KF m, lP s KL m, leftAt KL m⟩
/-- The one that leads, done. -/
def LE (hi lo s : Int) (KL KF : List Hd) (m : Nat) : Ex := ⟨hi, lo, numAt s (m + 2), true, true, true, fP s KF (m + 1), lP s KL m, leftAt KL m⟩
def FD (KL KF : List Hd) : Nat → Bool
  | 0 => false
  | 1 => false
  | m + 2 => !moreAt KL m && !moreAt KF (m + 1)
/-- The one that follows, when it has taken m pieces. -/
def FS (lo hi s sF : Int) (KL KF : List Hd) : Nat → Ex
  | 0 => newE lo hi sF
  | 1 => ⟨lo, hi, numAt s 0, true, false, false, ⟨true, true, true, numAt s 0⟩, fP s KF 0, leftAt KF 0⟩
  | m + 2 => ⟨lo, hi, numAt s (m + 1), true, false, !moreAt KL m && !moreAt KF (m + 1), lP s KL m, fP s KF (m + 1), leftAt KF (m + 1)⟩
theorem more_fold (K : List Hd) (i : Nat) : decide (3 < (leftAt K i).length) = moreAt K i := rfl
theorem numAt_ok (s : Int) (i : Nat) : okSeq (numAt s i) = true := by
  unfold okSeq numAt
  simp only [Bool.and_eq_true, decide_eq_true_eq]
  omega
theorem numAt_up (s : Int) (i : Nat) : up32 (numAt s i) = numAt s (i + 1) := by
  unfold up32 numAt
  omega
theorem numAt_next (s : Int) (i : Nat) : ¬ numAt s (i + 1) = numAt s i := by
  unfold numAt
  omega
theorem numAt_zero (s : Int) : s % 4294967296 = numAt s 0 := by
  unfold numAt
  rw [show s + ((0 : Nat) : Int) = s by omega]
theorem left_drop (K : List Hd) (i : Nat) : (leftAt K i).drop 3 = leftAt K (i + 1) := by
  unfold leftAt
  rw [List.drop_drop, show 3 * i + 3 = 3 * (i + 1) by omega]
theorem left_zero (K : List Hd) : leftAt K 0 = K := by simp [leftAt]
theorem take_left (K : List Hd) (i : Nat) : K.take (3 * i) ++ (leftAt K i).take 3 = K.take (3 * (i + 1)) := by
  unfold leftAt
  rw [show 3 * (i + 1) = 3 * i + 3 by omega, List.take_add]
theorem FS_done (lo hi s sF : Int) (KL KF : List Hd) (b : Nat) : (FS lo hi s sF KL KF b).done = FD KL KF b := by
  match b with
  | 0 => rfl
  | 1 => rfl
  | m + 2 => rfl
section
variable (hi lo s sF : Int) (KL KF K : List Hd)
/-- Neither has agreed: the one that leads hears the other one. -/
theorem l00 (h : lo < hi) (n : Nat) : hearE (LS hi lo s KL KF 0) (FS lo hi s sF KL KF 0).said n K = (0, LS hi lo s KL KF 0) := by
  have h1 : ¬ hi < lo := by omega
  simp only [hearE, LS, FS, newE, numAt_zero, numAt_ok, agreesE, h1]
  simp
theorem f00 (h : lo < hi) : hearE (FS lo hi s sF KL KF 0) (LS hi lo s KL KF 0).said 0 KF = (2, FS lo hi s sF KL KF 1) := by
  have h2 : decide (hi < lo) = false := by simp; omega
  simp only [hearE, LS, FS, newE, numAt_zero, numAt_ok, agreesE, h, beginE, sayE, takeE, h2, fP, left_zero, moreAt]
  simp
theorem l01 (h : lo < hi) (n : Nat) : hearE (LS hi lo s KL KF 0) (FS lo hi s sF KL KF 1).said n KL = (2, LS hi lo s KL KF 1) := by
  have h1 : ¬ hi < lo := by omega
  simp only [hearE, LS, FS, newE, numAt_zero, numAt_ok, agreesE, h1, beginE, sayE, takeE, h, fP, lP, left_zero, moreAt, numAt_up]
  simp
theorem f01 (n : Nat) : hearE (FS lo hi s sF KL KF 1) (LS hi lo s KL KF 0).said n K = (1, FS lo hi s sF KL KF 1) := by
  simp only [hearE, LS, FS, newE, numAt_zero, numAt_ok]
  simp
/-- Both have taken as many. -/
theorem laa (m n : Nat) : hearE (LS hi lo s KL KF (m + 1)) (FS lo hi s sF KL KF (m + 1)).said n K = (0, LS hi lo s KL KF (m + 1)) := by
  have e : (FS lo hi s sF KL KF (m + 1)).said = fP s KF m := by cases m <;> rfl
  rw [e]
  simp only [hearE, LS, fP, numAt_ok]
  simp
theorem faa (m n : Nat) (hd : FD KL KF (m + 1) = false) : hearE (FS lo hi s sF KL KF (m + 1)) (LS hi lo s KL KF (m + 1)).said n K = (2, FS lo hi s sF KL KF (m + 2)) := by
  have hn := numAt_next s m
  have hu := numAt_up s m
  match m with
  | 0 =>
    simp only [hearE, LS, FS, fP, lP, numAt_ok, fitsE, goOnE, stepE, sayE, takeE, left_drop, moreAt, numAt_up]
    simp
  | m + 1 =>
    simp only [FD] at hd
    simp only [hearE, LS, FS, fP, lP, numAt_ok, fitsE, goOnE, stepE, sayE, takeE, left_drop, more_fold, numAt_up, hd]
    simp [hn]
/-- The one that follows is one ahead. -/
theorem fab (m n : Nat) : hearE (FS lo hi s sF KL KF (m + 2)) (LS hi lo s KL KF (m + 1)).said n K = (1, FS lo hi s sF KL KF (m + 2)) := by
  simp only [hearE, LS, FS, lP, numAt_ok]
  simp
theorem lab (m n : Nat) : hearE (LS hi lo s KL KF (m + 1)) (FS lo hi s sF KL KF (m + 2)).said n K = (2, if FD KL KF (m + 2) = true then LE hi lo s KL KF m else LS hi lo s KL KF (m + 2)) := by
  have hn := numAt_next s m
  simp only [hearE, LS, LE, FS, FD, fP, lP, numAt_ok, fitsE, goOnE, stepE, sayE, takeE, left_drop, numAt_up, more_fold]
  rcases Bool.eq_false_or_eq_true (moreAt KL m) with h1 | h1 <;> rcases Bool.eq_false_or_eq_true (moreAt KF (m + 1)) with h2 | h2 <;> simp [hn, h1, h2]
/-- Both are done. -/
theorem lE (m n : Nat) : hearE (LE hi lo s KL KF m) (FS lo hi s sF KL KF (m + 2)).said n K = (0, LE hi lo s KL KF m) := by
  simp only [hearE, LE, FS, fP, numAt_ok]
  simp
theorem fE (m n : Nat) : hearE (FS lo hi s sF KL KF (m + 2)) (LE hi lo s KL KF m).said n K = (1, FS lo hi s sF KL KF (m + 2)) := by
  simp only [hearE, LE, FS, lP, numAt_ok]
  simp
end
/-- One leads, one follows; q is how often at least they have gone on; lt: is it the turn of the one that leads? -/
def Joint (hi lo s sF : Int) (KL KF : List Hd) (q : Nat) (lt : Bool) (L F : Sd) : Prop :=
  (∃ a b : Nat, (b = a ∨ b = a + 1) ∧ FD KL KF a = false ∧ L = ⟨LS hi lo s KL KF a, KF.take (3 * a)⟩ ∧ F = ⟨FS lo hi s sF KL KF b, KL.take (3 * (b - 1))⟩ ∧ (q ≤ a + b ∨ (q ≤ a + b + 1 ∧ (lt = true ↔ b = a + 1)))) ∨
  ∃ m : Nat, FD KL KF (m + 2) = true ∧ L = ⟨LE hi lo s KL KF m, KF.take (3 * (m + 2))⟩ ∧ F = ⟨FS lo hi s sF KL KF (m + 2), KL.take (3 * (m + 1))⟩
section
variable {hi lo s sF : Int} {KL KF : List Hd} {q : Nat} {lt : Bool} {L F : Sd}
theorem Joint.start : Joint hi lo s sF KL KF 0 lt ⟨newE hi lo s, []⟩ ⟨newE lo hi sF, []⟩ := .inl ⟨0, 0, .inl rfl, rfl, rfl, rfl, .inl (Nat.zero_le _)⟩
theorem Joint.weak (h : Joint hi lo s sF KL KF q lt L F) (lt' : Bool) : Joint hi lo s sF KL KF 0 lt' L F := by
  rcases h with ⟨a, b, h1, h2, h3, h4, _⟩ | h
  · exact .inl ⟨a, b, h1, h2, h3, h4, .inl (Nat.zero_le _)⟩
  · exact .inr h
theorem hears_of {K : List Hd} {a b : Sd} {x : Ex} {t : List Hd} {c : Int} (h : hearE a.x b.x.said (b.x.K.take 3).length K = (c, x)) (hc : c ≠ 3) (ht : (if c = 2 then a.took ++ b.x.K.take 3 else a.took) = t) : hearsC K a b ≠ 3 ∧ hearsS K a b = ⟨x, t⟩ := by
  have hcc : hearsC K a b = c := by unfold hearsC; rw [h]
  refine ⟨by rw [hcc]; exact hc, ?_⟩
  unfold hearsS
  rw [hcc, h, ht]
theorem FS_left (lo hi s sF : Int) (KL KF : List Hd) (m : Nat) : (FS lo hi s sF KL KF (m + 1)).K = leftAt KF m := by cases m <;> rfl
theorem Joint.lead (h : Joint hi lo s sF KL KF q true L F) (hlt : lo < hi) : hearsC KL L F ≠ 3 ∧ Joint hi lo s sF KL KF (q + 1) false (hearsS KL L F) F := by
  rcases h with ⟨a, b, h1, h2, rfl, rfl, h5⟩ | ⟨m, h2, rfl, rfl⟩
  · have h6 : b = a → q ≤ a + b := fun e => by
      rcases h5 with h5 | ⟨_, h5⟩
      · exact h5
      · have := h5.1 rfl
        omega
    have h7 : q ≤ a + b + 1 := by omega
    rcases h1 with h1 | h1
    · subst h1
      have h6 := h6 rfl
      cases b with
      | zero =>
        obtain ⟨e1, e2⟩ := hears_of (K := KL) (a := ⟨LS hi lo s KL KF 0, KF.take (3 * 0)⟩) (b := ⟨FS lo hi s sF KL KF 0, KL.take (3 * (0 - 1))⟩) (l00 hi lo s sF KL KF KL hlt _) (by decide) rfl
        rw [e2]
        exact ⟨e1, .inl ⟨0, 0, .inl rfl, h2, rfl, rfl, .inr ⟨by omega, by simp⟩⟩⟩
      | succ m =>
        obtain ⟨e1, e2⟩ := hears_of (K := KL) (a := ⟨LS hi lo s KL KF (m + 1), KF.take (3 * (m + 1))⟩) (b := ⟨FS lo hi s sF KL KF (m + 1), KL.take (3 * (m + 1 - 1))⟩) (laa hi lo s sF KL KF KL m _) (by decide) rfl
        rw [e2]
        exact ⟨e1, .inl ⟨m + 1, m + 1, .inl rfl, h2, rfl, rfl, .inr ⟨by omega, by simp⟩⟩⟩
    · subst h1
      cases a with
      | zero =>
        obtain ⟨e1, e2⟩ := hears_of (K := KL) (a := ⟨LS hi lo s KL KF 0, KF.take (3 * 0)⟩) (b := ⟨FS lo hi s sF KL KF (0 + 1), KL.take (3 * (0 + 1 - 1))⟩) (t := KF.take (3 * 1)) (l01 hi lo s sF KL KF hlt _) (by decide) (by
          rw [if_pos rfl]
          exact take_left KF 0)
        rw [e2]
        exact ⟨e1, .inl ⟨1, 1, .inl rfl, rfl, rfl, rfl, .inr ⟨by omega, by simp⟩⟩⟩
      | succ m =>
        obtain ⟨e1, e2⟩ := hears_of (K := KL) (a := ⟨LS hi lo s KL KF (m + 1), KF.take (3 * (m + 1))⟩) (b := ⟨FS lo hi s sF KL KF (m + 1 + 1), KL.take (3 * (m + 1 + 1 - 1))⟩) (t := KF.take (3 * (m + 2))) (lab hi lo s sF KL KF KL m _) (by decide) (by
          rw [if_pos rfl]
          exact take_left KF (m + 1))
        rw [e2]
        refine ⟨e1, ?_⟩
        by_cases hd : FD KL KF (m + 2) = true
        · rw [if_pos hd]
          exact .inr ⟨m, hd, rfl, rfl⟩
        · rw [if_neg hd]
          exact .inl ⟨m + 2, m + 2, .inl rfl, by simpa using hd, rfl, rfl, .inr ⟨by omega, by simp⟩⟩
  · obtain ⟨e1, e2⟩ := hears_of (K := KL) (a := ⟨LE hi lo s KL KF m, KF.take (3 * (m + 2))⟩) (b := ⟨FS lo hi s sF KL KF (m + 2), KL.take (3 * (m + 1))⟩) (lE hi lo s sF KL KF KL m _) (by decide) rfl
    rw [e2]
    exact ⟨e1, .inr ⟨m, h2, rfl, rfl⟩⟩
theorem Joint.foll (h : Joint hi lo s sF KL KF q false L F) (hlt : lo < hi) : hearsC KF F L ≠ 3 ∧ Joint hi lo s sF KL KF (q + 1) true L (hearsS KF F L) := by
  rcases h with ⟨a, b, h1, h2, rfl, rfl, h5⟩ | ⟨m, h2, rfl, rfl⟩
  · have h6 : b = a + 1 → q ≤ a + b := fun e => by
      rcases h5 with h5 | ⟨_, h5⟩
      · exact h5
      · have := h5.2 e
        simp at this
    have h7 : q ≤ a + b + 1 := by omega
    rcases h1 with h1 | h1
    · subst h1
      cases b with
      | zero =>
        obtain ⟨e1, e2⟩ := hears_of (K := KF) (a := ⟨FS lo hi s sF KL KF 0, KL.take (3 * (0 - 1))⟩) (b := ⟨LS hi lo s KL KF 0, KF.take (3 * 0)⟩) (t := []) (f00 hi lo s sF KL KF hlt) (by decide) (by simp [LS, newE])
        rw [e2]
        exact ⟨e1, .inl ⟨0, 1, .inr rfl, h2, rfl, by simp, .inr ⟨by omega, by simp⟩⟩⟩
      | succ m =>
        obtain ⟨e1, e2⟩ := hears_of (K := KF) (a := ⟨FS lo hi s sF KL KF (m + 1), KL.take (3 * (m + 1 - 1))⟩) (b := ⟨LS hi lo s KL KF (m + 1), KF.take (3 * (m + 1))⟩) (t := KL.take (3 * (m + 1))) (faa hi lo s sF KL KF KF m _ h2) (by decide) (by
          rw [if_pos rfl]
          exact take_left KL m)
        rw [e2]
        exact ⟨e1, .inl ⟨m + 1, m + 2, .inr rfl, h2, rfl, rfl, .inr ⟨by omega, by simp⟩⟩⟩
    · subst h1
      have h6 := h6 rfl
      cases a with
      | zero =>
        obtain ⟨e1, e2⟩ := hears_of (K := KF) (a := ⟨FS lo hi s sF KL KF (0 + 1), KL.take (3 * (0 + 1 - 1))⟩) (b := ⟨LS hi lo s KL KF 0, KF.take (3 * 0)⟩) (f01 hi lo s sF KL KF KF _) (by decide) rfl
        rw [e2]
        exact ⟨e1, .inl ⟨0, 1, .inr rfl, h2, rfl, rfl, .inr ⟨by omega, by simp⟩⟩⟩
      | succ m =>
        obtain ⟨e1, e2⟩ := hears_of (K := KF) (a := ⟨FS lo hi s sF KL KF (m + 1 + 1), KL.take (3 * (m + 1 + 1 - 1))⟩) (b := ⟨LS hi lo s KL KF (m + 1), KF.take (3 * (m + 1))⟩) (fab hi lo s sF KL KF KF m _) (by decide) rfl
        rw [e2]
        exact ⟨e1, .inl ⟨m + 1, m + 2, .inr rfl, h2, rfl, rfl, .inr ⟨by omega, by simp⟩⟩⟩
  · obtain ⟨e1, e2⟩ := hears_of (K := KF) (a := ⟨FS lo hi s sF KL KF (m + 2), KL.take (3 * (m + 1))⟩) (b := ⟨LE hi lo s KL KF m, KF.take (3 * (m + 2))⟩) (fE hi lo s sF KL KF KF m _) (by decide) rfl
    rw [e2]
    exact ⟨e1, .inr ⟨m, h2, rfl, rfl⟩⟩
end
end Go.Proofs.Ytjinleakjkbbgaa
