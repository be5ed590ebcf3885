/- Plain facts on two that hear each other: what was taken, when both are done; of one that is done; of two of one number. No program. -/
import Derived.Test.YtjinleakjkbbgaaBa
namespace Go.Proofs.Ytjinleakjkbbgaa
open Go.Lib

theorem more_of {K : List Hd} {i : Nat} (h : moreAt K i = true) : 3 * i + 3 < K.length := by
  unfold moreAt leftAt at h
  rw [decide_eq_true_iff, List.length_drop] at h
  omega
theorem no_more {K : List Hd} {i : Nat} (h : moreAt K i = false) : K.length ≤ 3 * (i + 1) := by
  unfold moreAt leftAt at h
  rw [decide_eq_false_iff_not, List.length_drop] at h
  omega
theorem FD_small {KL KF : List Hd} (hL : KL.length ≤ 60) (hF : KF.length ≤ 60) : ∀ {a : Nat}, FD KL KF a = false → a ≤ 20
  | 0, _ => by omega
  | 1, _ => by omega
  | m + 2, h => by
    simp only [FD] at h
    cases h1 : moreAt KL m
    · cases h2 : moreAt KF (m + 1)
      · rw [h1, h2] at h
        cases h
      · have := more_of h2
        omega
    · have := more_of h1
      omega
theorem FD_all {KL KF : List Hd} {m : Nat} (h : FD KL KF (m + 2) = true) : KL.take (3 * (m + 1)) = KL ∧ KF.take (3 * (m + 2)) = KF := by
  simp only [FD, Bool.and_eq_true, Bool.not_eq_true'] at h
  exact ⟨List.take_of_length_le (no_more h.1), List.take_of_length_le (no_more h.2)⟩
theorem LS_done (hi lo s : Int) (KL KF : List Hd) (a : Nat) : (LS hi lo s KL KF a).done = false := by cases a <;> rfl
theorem beg_take (K : List Hd) (k : Nat) : (K.take k).length ≤ K.length ∧ K.take k = K.take (K.take k).length := by
  rw [List.length_take]
  refine ⟨by omega, ?_⟩
  rw [List.take_eq_take_iff]
  omega
/-- What one has took: a beginning; all of it, if it is done. -/
def Beg (d : Bool) (T K : List Hd) : Prop := T.length ≤ K.length ∧ T = K.take T.length ∧ (d = true → T = K)
theorem Beg.of {d : Bool} {K : List Hd} {k : Nat} (h : d = true → K.take k = K) : Beg d (K.take k) K := ⟨(beg_take K k).1, (beg_take K k).2, h⟩
section
variable {hi lo s sF : Int} {KL KF : List Hd} {q : Nat} {lt : Bool} {L F : Sd}
theorem Joint.took (h : Joint hi lo s sF KL KF q lt L F) : Beg L.x.done L.took KF ∧ Beg F.x.done F.took KL := by
  rcases h with ⟨a, b, h1, h2, rfl, rfl, _⟩ | ⟨m, h2, rfl, rfl⟩
  · refine ⟨Beg.of (fun h => ?_), Beg.of (fun h => ?_)⟩
    · rw [LS_done] at h
      cases h
    · rw [FS_done] at h
      match b, h with
      | m + 2, h => exact (FD_all h).1
  · exact ⟨Beg.of (fun _ => (FD_all h2).2), Beg.of (fun _ => (FD_all h2).1)⟩
theorem Joint.ends (h : Joint hi lo s sF KL KF q lt L F) (hq : 43 ≤ q) (hL : KL.length ≤ 60) (hF : KF.length ≤ 60) :
    L.x.done = true ∧ F.x.done = true ∧ L.x.leads = true ∧ F.x.leads = false ∧ L.x.agreed = true ∧ F.x.agreed = true ∧ L.x.took = F.x.said ∧ F.x.took = L.x.said := by
  rcases h with ⟨a, b, h1, h2, rfl, rfl, h5⟩ | ⟨m, h2, rfl, rfl⟩
  · have := FD_small hL hF h2
    omega
  · exact ⟨rfl, h2, rfl, rfl, rfl, rfl, rfl, rfl⟩
end
/-- Duo of unlike numbers n0, n1, which began with s0, s1 and have K0, K1 to tell; q: how often at least they have gone on; t: is it the first one's turn? -/
def Duo (n0 n1 s0 s1 : Int) (K0 K1 : List Hd) (q : Nat) (t : Bool) (x y : Sd) : Prop :=
  if n1 < n0 then Joint n0 n1 s0 s1 K0 K1 q t x y else Joint n1 n0 s1 s0 K1 K0 q (!t) y x
section
variable {n0 n1 s0 s1 : Int} {K0 K1 : List Hd} {q : Nat} {t : Bool} {x y : Sd}
theorem Duo.start : Duo n0 n1 s0 s1 K0 K1 0 t ⟨newE n0 n1 s0, []⟩ ⟨newE n1 n0 s1, []⟩ := by
  unfold Duo
  split
  · exact Joint.start
  · exact Joint.start
theorem Duo.weak (h : Duo n0 n1 s0 s1 K0 K1 q t x y) (t' : Bool) : Duo n0 n1 s0 s1 K0 K1 0 t' x y := by
  unfold Duo at h ⊢
  split at h
  next hh => rw [if_pos hh]; exact h.weak _
  next hh => rw [if_neg hh]; exact h.weak _
theorem Duo.first (h : Duo n0 n1 s0 s1 K0 K1 q true x y) (hn : n0 ≠ n1) : hearsC K0 x y ≠ 3 ∧ Duo n0 n1 s0 s1 K0 K1 (q + 1) false (hearsS K0 x y) y := by
  unfold Duo at h ⊢
  split at h
  next hh => rw [if_pos hh]; exact h.lead hh
  next hh => rw [if_neg hh]; exact h.foll (by omega)
theorem Duo.second (h : Duo n0 n1 s0 s1 K0 K1 q false x y) (hn : n0 ≠ n1) : hearsC K1 y x ≠ 3 ∧ Duo n0 n1 s0 s1 K0 K1 (q + 1) true x (hearsS K1 y x) := by
  unfold Duo at h ⊢
  split at h
  next hh => rw [if_pos hh]; exact h.foll hh
  next hh => rw [if_neg hh]; exact h.lead (by omega)
theorem Duo.took (h : Duo n0 n1 s0 s1 K0 K1 q t x y) : Beg x.x.done x.took K1 ∧ Beg y.x.done y.took K0 := by
  unfold Duo at h
  split at h
  · exact h.took
  · exact ⟨h.took.2, h.took.1⟩
theorem Duo.ends (h : Duo n0 n1 s0 s1 K0 K1 q t x y) (hq : 43 ≤ q) (h0 : K0.length ≤ 60) (h1 : K1.length ≤ 60) :
    x.x.done = true ∧ y.x.done = true ∧ x.x.leads = decide (n1 < n0) ∧ y.x.leads = !decide (n1 < n0) ∧ x.x.agreed = true ∧ y.x.agreed = true ∧ x.x.took = y.x.said := by
  unfold Duo at h
  split at h
  next hh =>
    obtain ⟨a, b, c, d, e, f, g, i⟩ := h.ends hq h0 h1
    rw [decide_eq_true hh]
    exact ⟨a, b, c, d, e, f, g⟩
  next hh =>
    obtain ⟨a, b, c, d, e, f, g, i⟩ := h.ends hq h1 h0
    rw [decide_eq_false hh]
    exact ⟨b, a, d, c, f, e, i⟩
end
/-- One that is done takes no piece any more. -/
theorem done_hear {x : Ex} {p : Pc} {n : Nat} {K : List Hd} (ha : x.agreed = true) (hd : x.done = true) (hp : okSeq p.seq = true) : hearE x p n K = (if p = x.took then (if x.leads = true then 0 else 1) else 3, x) := by
  unfold hearE
  rw [hp, ha, if_neg (by decide), if_neg (by decide)]
  split
  · split <;> rfl
  · rw [show fitsE x p = false by unfold fitsE; rw [hd]; rfl]
    rfl
/-- Duo of one number hear nothing. -/
theorem self_hear {x : Ex} {p : Pc} {n : Nat} {K : List Hd} (ha : x.agreed = false) (hs : x.self = x.other) : hearE x p n K = (0, x) := by
  unfold hearE
  rw [ha, show agreesE x p n = false by unfold agreesE; rw [hs]; simp]
  simp
theorem self_hears {x y : Sd} {K : List Hd} (ha : x.x.agreed = false) (hs : x.x.self = x.x.other) : hearsC K x y = 0 ∧ hearsS K x y = x := by
  have h := self_hear (p := y.x.said) (n := (y.x.K.take 3).length) (K := K) ha hs
  have h1 : hearsC K x y = 0 := by unfold hearsC; rw [h]
  refine ⟨h1, ?_⟩
  unfold hearsS
  rw [h1, h]
  rfl
/-- The numbers of an exchange are from 0 to 2^32 - 1; there aren't more than 1000 heads. -/
structure ExOk (x : Ex) : Prop where
  seq : okSeq x.seq = true
  took : okSeq x.took.seq = true
  said : okSeq x.said.seq = true
  len : x.K.length ≤ 1000
theorem okSeq_iff (q : Int) : okSeq q = true ↔ 0 ≤ q ∧ q < 4294967296 := by simp [okSeq]
theorem up32_ok (q : Int) : okSeq (up32 q) = true := by
  rw [okSeq_iff]
  unfold up32
  omega
theorem newE_ok (a b s : Int) : ExOk (newE a b s) := by
  have h : okSeq (s % 4294967296) = true := by
    rw [okSeq_iff]
    omega
  exact ⟨h, rfl, h, Nat.zero_le _⟩
theorem ExOk.say {x : Ex} (h : ExOk x) : ExOk (sayE x) := ⟨h.seq, h.took, h.seq, h.len⟩
theorem ExOk.take {x : Ex} {p : Pc} (h : ExOk x) (hp : okSeq p.seq = true) : ExOk (takeE x p) := ⟨by
  unfold takeE
  dsimp only
  split
  · exact up32_ok _
  · exact hp, hp, h.said, h.len⟩
theorem ExOk.step {x : Ex} (h : ExOk x) : ExOk (stepE x) := ExOk.say ⟨h.seq, h.took, h.said, by
  have := h.len
  simp
  omega⟩
theorem ExOk.begin {x : Ex} {p : Pc} {K : List Hd} (h : ExOk x) (hp : okSeq p.seq = true) (hK : K.length ≤ 1000) : ExOk (beginE x p K) := (ExOk.take (x := { x with agreed := true, leads := decide (x.other < x.self), K := K }) ⟨h.seq, h.took, h.said, hK⟩ hp).say
theorem ExOk.goOn {x : Ex} {p : Pc} (h : ExOk x) (hp : okSeq p.seq = true) : ExOk (goOnE x p) := by
  unfold goOnE
  split
  · exact ⟨(h.take hp).seq, (h.take hp).took, (h.take hp).said, (h.take hp).len⟩
  · exact ⟨(h.take hp).step.seq, (h.take hp).step.took, (h.take hp).step.said, (h.take hp).step.len⟩
theorem ExOk.hear {x : Ex} {p : Pc} {n : Nat} {K : List Hd} (h : ExOk x) (hK : K.length ≤ 1000) : ExOk (hearE x p n K).2 := by
  unfold hearE
  split
  · exact h
  next hp =>
    have hp : okSeq p.seq = true := by simpa using hp
    split
    · split
      · exact h.begin hp hK
      · exact h
    · split
      · split <;> exact h
      · split
        · exact h.goOn hp
        · exact h
end Go.Proofs.Ytjinleakjkbbgaa
