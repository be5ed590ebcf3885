/- Plain facts for the statements RxmtDrops, RxmtOthers and RxmtRounds. No program; no conditions. -/
import Derived.Test.YtndjoanlbaiaeaaKa
namespace Go.Proofs.Ytndjoanlbaiaeaa

/-- A row of two keys on some neighbors' lists. -/
structure DR (k o : Ky) (L : List Rw) (n : Nat) : Prop where
  len : L.length = 2 * n
  drop : (dropK L k).length = n
  both : ∀ x, Rw.mk x k ∈ L ↔ Rw.mk x o ∈ L
  keys : ∀ r ∈ L, r.k = k ∨ r.k = o
  nodup : L.Nodup
section
variable {k o : Ky} {L : List Rw} {n : Nat} {x : Int × Int}
theorem DR.start (k o : Ky) : DR k o [] 0 := ⟨rfl, rfl, fun x => by simp, fun r h => (by cases h), List.nodup_nil⟩
theorem DR.again (h : DR k o L n) (hx : Rw.mk x k ∈ L) : putsK L x [k, o] = L := by
  have h2 := (h.both x).1 hx
  show putK x (putK x L k) o = L
  unfold putK
  rw [if_pos hx, if_pos h2]
theorem DR.new (h : DR k o L n) (hne : k ≠ o) (hx : Rw.mk x k ∉ L) : DR k o (putsK L x [k, o]) (n + 1) := by
  have h2 : Rw.mk x o ∉ L := fun e => hx ((h.both x).2 e)
  have hno : ¬ o = k := fun e => hne e.symm
  have e : putsK L x [k, o] = L ++ [⟨x, k⟩, ⟨x, o⟩] := by
    show putK x (putK x L k) o = _
    unfold putK
    rw [if_neg hx, if_neg]
    · simp
    · rw [List.mem_append, List.mem_singleton]
      rintro (h3 | h3)
      · exact h2 h3
      · injection h3 with _ h3
        exact hno h3
  have hp := puts_all (n := x) (K := [k, o]) h.nodup
  refine ⟨?_, ?_, fun y => ?_, fun r hr => ?_, hp.1⟩
  · rw [e, List.length_append, h.len]
    simp
    omega
  · rw [e]
    unfold dropK
    rw [List.filter_append, List.length_append]
    have h3 := h.drop
    unfold dropK at h3
    rw [h3]
    simp [hno]
  · rw [hp.2, hp.2, h.both y]
    simp
  · rcases (hp.2 r).1 hr with h3 | ⟨-, h3⟩
    · exact h.keys r h3
    · simpa using h3
theorem DR.mem (h : DR k o L n) : ∀ y, y ∈ putsK L x [k, o] ↔ y ∈ L ∨ (y.n = x ∧ (y.k = k ∨ y.k = o)) := fun y => by
  rw [(puts_all (n := x) (K := [k, o]) h.nodup).2 y]
  simp
theorem DR.has (h : DR k o L n) : hasK L k = decide (0 < n) := by
  rw [Bool.eq_iff_iff, decide_eq_true_iff, hasK_iff]
  constructor
  · rintro ⟨y, hy⟩
    have := List.length_pos_of_mem hy
    have := h.len
    omega
  · intro hn
    have h1 : L ≠ [] := fun e => by
      have := h.len
      rw [e] at this
      simp at this
      omega
    obtain ⟨r, hr⟩ := List.exists_mem_of_ne_nil _ h1
    obtain ⟨rn, rk⟩ := r
    rcases h.keys _ hr with e | e
    · simp only at e
      subst e
      exact ⟨rn, hr⟩
    · simp only at e
      subst e
      exact ⟨rn, (h.both rn).2 hr⟩
theorem DR.dropN (h : DR k o L n) : L.length - (dropK L k).length = n := by
  rw [h.len, h.drop]
  omega
theorem DR.has0 (L : List Rw) (k : Ky) : hasK (dropK L k) k = false := by
  cases hh : hasK (dropK L k) k with
  | false => rfl
  | true =>
    obtain ⟨y, hy⟩ := hasK_iff.1 hh
    exact absurd rfl (mem_dropK.1 hy).2
theorem DR.hasO (h : DR k o L n) (hne : k ≠ o) : hasK (dropK L k) o = decide (0 < n) := by
  rw [← h.has, Bool.eq_iff_iff, hasK_iff, hasK_iff]
  constructor
  · rintro ⟨y, hy⟩
    exact ⟨y, (h.both y).2 (mem_dropK.1 hy).1⟩
  · rintro ⟨y, hy⟩
    exact ⟨y, mem_dropK.2 ⟨(h.both y).1 hy, fun e => hne e.symm⟩⟩
theorem DR.drop0 (L : List Rw) (k : Ky) : dropK (dropK L k) k = dropK L k := drop_none fun _ hx => (mem_dropK.1 hx).2
theorem DR.one (h : DR k o L n) (hne : k ≠ o) (hx : Rw.mk x k ∈ L) : Rw.mk x k ∉ dropK L k ∧ Rw.mk x o ∈ dropK L k ∧ (onL (dropK L k) x).length = 1 := by
  have ho : Rw.mk x o ∈ dropK L k := mem_dropK.2 ⟨(h.both x).1 hx, fun e => hne e.symm⟩
  refine ⟨fun h2 => (mem_dropK.1 h2).2 rfl, ho, ?_⟩
  have hnd : (dropK L k).Nodup := h.nodup.filter _
  have hp : (onL (dropK L k) x).Perm [o] := (List.perm_ext_iff_of_nodup (nodup_onL hnd x) (List.pairwise_singleton _ _)).2 fun y => by
    rw [mem_onL, mem_dropK, List.mem_singleton]
    constructor
    · rintro ⟨h1, h2⟩
      rcases h.keys _ h1 with e | e
      · exact absurd e h2
      · exact e
    · intro e
      subst e
      exact mem_dropK.1 ho
  exact hp.length_eq
end
/-- Keys on two lists. -/
theorem two_same (a b : Int × Int) (K : List Ky) : (onL (putsK [] a K) a).length = (onL (putsK (putsK [] a K) b K) b).length ∧ ((putsK (putsK [] a K) b K).Nodup ∧ ∀ x, x ∈ putsK (putsK [] a K) b K ↔ (x.n = a ∨ x.n = b) ∧ x.k ∈ K) := by
  obtain ⟨p1, p2⟩ := puts_all (n := a) (K := K) (L := []) List.nodup_nil
  obtain ⟨q1, q2⟩ := puts_all (n := b) (K := K) (L := putsK [] a K) p1
  refine ⟨?_, q1, fun x => ?_⟩
  · refine ((List.perm_ext_iff_of_nodup (nodup_onL p1 a) (nodup_onL q1 b)).2 fun y => ?_).length_eq
    rw [mem_onL, mem_onL, q2, p2, p2]
    simp
  · rw [q2, p2]
    simp
    constructor
    · rintro (⟨h1, h2⟩ | ⟨h1, h2⟩)
      · exact ⟨.inl h1, h2⟩
      · exact ⟨.inr h1, h2⟩
    · rintro ⟨h1 | h1, h2⟩
      · exact .inl ⟨h1, h2⟩
      · exact .inr ⟨h1, h2⟩
theorem len_mem {L : List Rw} {n : Int × Int} {K : List Ky} (h : L.Nodup) (hm : ∀ y, Rw.mk n y ∈ L ↔ y ∈ K) : (onL L n).length = (srtK K).length :=
  ((List.perm_ext_iff_of_nodup (nodup_onL h n) (strict_nodup (srt_all K).1)).2 fun y => by rw [mem_onL, hm, (srt_all K).2]).length_eq
/-- All keys are on one list; on the other one are some. -/
structure OT (a b : Int × Int) (K : List Ky) (L : List Rw) : Prop where
  on : ∀ y, Rw.mk b y ∈ L ↔ y ∈ K
  some : ∀ y, Rw.mk a y ∈ L → y ∈ K
section
variable {a b : Int × Int} {K : List Ky} {L : List Rw} {k : Ky}
theorem OT.ack (h : OT a b K L) (hne : a ≠ b) (k : Ky) : OT a b K (ackK L a k) ∧ Rw.mk a k ∉ ackK L a k := by
  refine ⟨⟨fun y => ?_, fun y hy => h.some y (mem_ackK.1 hy).1⟩, fun hy => (mem_ackK.1 hy).2 rfl⟩
  rw [mem_ackK, h.on]
  exact ⟨fun hy => hy.1, fun hy => ⟨hy, fun e => hne (by injection e with e; exact e.symm)⟩⟩
theorem OT.start (a b : Int × Int) (K : List Ky) : OT a b K (putsK (putsK [] a K) b K) := by
  obtain ⟨-, -, h⟩ := two_same a b K
  refine ⟨fun y => ?_, fun y hy => ((h _).1 hy).2⟩
  rw [h]
  simp
theorem OT.again (h : OT a b K L) (hn : L.Nodup) (hne : a ≠ b) : (∀ y, Rw.mk a y ∈ putsK L a K ↔ y ∈ K) ∧ (∀ y, Rw.mk b y ∈ forgetK (putsK L a K) a ↔ y ∈ K) ∧ onL (forgetK (putsK L a K) a) a = [] := by
  obtain ⟨-, p2⟩ := puts_all (n := a) (K := K) hn
  refine ⟨fun y => ?_, fun y => ?_, ?_⟩
  · rw [p2]
    exact ⟨fun hy => hy.elim (h.some y) (fun hy => hy.2), fun hy => .inr ⟨rfl, hy⟩⟩
  · rw [mem_forgetK, p2]
    simp only
    rw [h.on]
    exact ⟨fun hy => hy.1.elim id (fun h2 => h2.2), fun hy => ⟨.inl hy, Ne.symm hne⟩⟩
  · rw [List.eq_nil_iff_forall_not_mem]
    intro y hy
    exact (mem_forgetK.1 (mem_onL.1 hy)).2 rfl
end
/-- One neighbor's keys alone. -/
theorem len_all {L : List Rw} {n : Int × Int} (h : ∀ x ∈ L, x.n = n) : (onL L n).length = L.length := by
  unfold onL
  rw [List.length_map, List.filter_eq_self.2 fun x hx => by simp [h x hx]]
end Go.Proofs.Ytndjoanlbaiaeaa
