/- Lists of keys by neighbors: plain facts. No program; no conditions. -/
import Derived.Test.YtndjoanlbaiaeaaJai
import Derived.Test.YtndjoanlbaiaeaaJaj
namespace Go.Proofs.Ytndjoanlbaiaeaa

/-- A key on a neighbor's list. -/
structure Rw where
  n : Int × Int
  k : Ky
deriving DecidableEq
/-- The keys on a list. -/
def onL (L : List Rw) (n : Int × Int) : List Ky := (L.filter fun r => decide (r.n = n)).map Rw.k
def putK (n : Int × Int) (L : List Rw) (k : Ky) : List Rw := if Rw.mk n k ∈ L then L else L ++ [⟨n, k⟩]
def putsK (L : List Rw) (n : Int × Int) (K : List Ky) : List Rw := K.foldl (putK n) L
def ackK (L : List Rw) (n : Int × Int) (k : Ky) : List Rw := L.filter fun r => !decide (r = ⟨n, k⟩)
def forgetK (L : List Rw) (n : Int × Int) : List Rw := L.filter fun r => !decide (r.n = n)
def dropK (L : List Rw) (k : Ky) : List Rw := L.filter fun r => !decide (r.k = k)
def hasK (L : List Rw) (k : Ky) : Bool := L.any fun r => decide (r.k = k)
/-- In order. -/
def srtK (K : List Ky) : List Ky := K.foldl (fun o k => insK k o) []
theorem mem_onL {L : List Rw} {n : Int × Int} {k : Ky} : k ∈ onL L n ↔ Rw.mk n k ∈ L := by
  unfold onL
  rw [List.mem_map]
  constructor
  · rintro ⟨r, hr, rfl⟩
    obtain ⟨h1, h2⟩ := List.mem_filter.1 hr
    have h3 : r.n = n := of_decide_eq_true h2
    subst h3
    exact h1
  · intro h
    exact ⟨⟨n, k⟩, List.mem_filter.2 ⟨h, by simp⟩, rfl⟩
theorem nodup_onL {L : List Rw} (h : L.Nodup) (n : Int × Int) : (onL L n).Nodup := by
  unfold onL
  have h2 := h.filter (fun r => decide (r.n = n))
  rw [List.Nodup, List.pairwise_map]
  refine List.Pairwise.imp_of_mem (fun {a b} ha hb hne e => hne ?_) h2
  have e1 : a.n = n := of_decide_eq_true (List.mem_filter.1 ha).2
  have e2 : b.n = n := of_decide_eq_true (List.mem_filter.1 hb).2
  obtain ⟨an, ak⟩ := a
  obtain ⟨bn, bk⟩ := b
  simp only at e e1 e2
  rw [e, e1, e2]
theorem mem_putK {L : List Rw} {n : Int × Int} {k : Ky} {x : Rw} : x ∈ putK n L k ↔ x ∈ L ∨ x = ⟨n, k⟩ := by
  unfold putK
  split
  · rename_i h
    exact ⟨.inl, fun h2 => h2.elim id (fun e => e ▸ h)⟩
  · simp
theorem nodup_putK {L : List Rw} (h : L.Nodup) (n : Int × Int) (k : Ky) : (putK n L k).Nodup := by
  unfold putK
  split
  · exact h
  · rename_i hn
    exact List.nodup_append.2 ⟨h, List.pairwise_singleton _ _, fun a ha b hb e => hn (by rw [← List.mem_singleton.1 hb, ← e]; exact ha)⟩
theorem putsK_snoc (L : List Rw) (n : Int × Int) (K : List Ky) (k : Ky) : putsK L n (K ++ [k]) = putK n (putsK L n K) k := by
  unfold putsK
  rw [List.foldl_append]
  rfl
theorem puts_all {n : Int × Int} : ∀ {K : List Ky} {L : List Rw}, L.Nodup → (putsK L n K).Nodup ∧ ∀ x, x ∈ putsK L n K ↔ x ∈ L ∨ (x.n = n ∧ x.k ∈ K)
  | [], L, h => ⟨h, fun x => by simp [putsK]⟩
  | k :: K, L, h => by
    obtain ⟨h1, h2⟩ := puts_all (K := K) (nodup_putK h n k)
    refine ⟨h1, fun x => (h2 x).trans ?_⟩
    rw [mem_putK, List.mem_cons]
    constructor
    · rintro ((h | rfl) | ⟨h, h'⟩)
      · exact .inl h
      · exact .inr ⟨rfl, .inl rfl⟩
      · exact .inr ⟨h, .inr h'⟩
    · rintro (h | ⟨h, rfl | h'⟩)
      · exact .inl (.inl h)
      · subst h
        exact .inl (.inr rfl)
      · exact .inr ⟨h, h'⟩
theorem putsK_len (n : Int × Int) : ∀ (K : List Ky) (L : List Rw), (putsK L n K).length ≤ L.length + K.length
  | [], L => by simp [putsK]
  | k :: K, L => by
    have h1 := putsK_len n K (putK n L k)
    have h2 : (putK n L k).length ≤ L.length + 1 := by
      unfold putK
      split <;> simp
    have h3 : putsK L n (k :: K) = putsK (putK n L k) n K := rfl
    rw [h3, List.length_cons]
    omega
theorem mem_ackK {L : List Rw} {n : Int × Int} {k : Ky} {x : Rw} : x ∈ ackK L n k ↔ x ∈ L ∧ x ≠ ⟨n, k⟩ := by
  unfold ackK
  rw [List.mem_filter]
  simp
theorem mem_forgetK {L : List Rw} {n : Int × Int} {x : Rw} : x ∈ forgetK L n ↔ x ∈ L ∧ x.n ≠ n := by
  unfold forgetK
  rw [List.mem_filter]
  simp
theorem mem_dropK {L : List Rw} {k : Ky} {x : Rw} : x ∈ dropK L k ↔ x ∈ L ∧ x.k ≠ k := by
  unfold dropK
  rw [List.mem_filter]
  simp
theorem hasK_iff {L : List Rw} {k : Ky} : hasK L k = true ↔ ∃ n, Rw.mk n k ∈ L := by
  unfold hasK
  rw [List.any_eq_true]
  constructor
  · rintro ⟨x, hx, e⟩
    have e2 : x.k = k := of_decide_eq_true e
    exact ⟨x.n, by subst e2; exact hx⟩
  · rintro ⟨n, hn⟩
    exact ⟨_, hn, by simp⟩
theorem ackK_none {L : List Rw} {n : Int × Int} {k : Ky} (h : Rw.mk n k ∉ L) : ackK L n k = L := by
  unfold ackK
  rw [List.filter_eq_self]
  intro r hr
  have : r ≠ ⟨n, k⟩ := fun e => h (e ▸ hr)
  simp [this]
theorem forgetK_none {L : List Rw} {n : Int × Int} (h : onL L n = []) : forgetK L n = L := by
  unfold forgetK
  rw [List.filter_eq_self]
  intro r hr
  have : r.n ≠ n := fun e => by
    have h2 : r.k ∈ onL L n := mem_onL.2 (by subst e; exact hr)
    rw [h] at h2
    cases h2
  simp [this]
theorem ackK_len {L : List Rw} (h : L.Nodup) {n : Int × Int} {k : Ky} (hm : Rw.mk n k ∈ L) : (ackK L n k).length + 1 = L.length := by
  have e : ackK L n k = L.erase ⟨n, k⟩ := by
    rw [h.erase_eq_filter]
    unfold ackK
    refine List.filter_congr fun x _ => ?_
    by_cases hx : x = ⟨n, k⟩
    · simp [hx]
    · simp [hx]
  rw [e, List.length_erase_of_mem hm]
  have := List.length_pos_of_mem hm
  omega
theorem drop_ack (L : List Rw) (n : Int × Int) (k : Ky) : dropK (ackK L n k) k = dropK L k := by
  unfold dropK ackK
  rw [List.filter_filter]
  refine List.filter_congr fun x _ => ?_
  by_cases hx : x.k = k
  · simp [hx]
  · have : x ≠ ⟨n, k⟩ := fun e => hx (by rw [e])
    simp [hx, this]
theorem drop_none {L : List Rw} {k : Ky} (h : ∀ x ∈ L, x.k ≠ k) : dropK L k = L := by
  unfold dropK
  rw [List.filter_eq_self]
  intro r hr
  simp [h r hr]
theorem forget_len (L : List Rw) (n : Int × Int) : (forgetK L n).length + (onL L n).length = L.length := by
  unfold forgetK onL
  rw [List.length_map]
  induction L with
  | nil => rfl
  | cons r L ih =>
    by_cases h : r.n = n
    · simp [h]
      omega
    · simp [h]
      omega
theorem srt_all (K : List Ky) : Strict (srtK K) ∧ ∀ x, x ∈ srtK K ↔ x ∈ K := by
  obtain ⟨h1, h2⟩ := foldK (K := K) (L := []) List.Pairwise.nil
  exact ⟨h1, fun x => (h2 x).trans (by simp)⟩
theorem srt_ext {K K' : List Ky} (h : ∀ x, x ∈ K ↔ x ∈ K') : srtK K = srtK K' := ky_ext (srt_all K).1 (srt_all K').1 fun x => ((srt_all K).2 x).trans ((h x).trans ((srt_all K').2 x).symm)
theorem strict_nodup {K : List Ky} (h : Strict K) : K.Nodup := h.imp fun {a b} h e => by
  subst e
  rw [lessKy_irrefl] at h
  cases h
theorem srt_perm {K : List Ky} (h : K.Nodup) : (srtK K).Perm K := (List.perm_ext_iff_of_nodup (strict_nodup (srt_all K).1) h).2 (srt_all K).2
theorem srt_len {K : List Ky} (h : K.Nodup) : (srtK K).length = K.length := (srt_perm h).length_eq
theorem srt_snoc (K : List Ky) (k : Ky) : srtK (K ++ [k]) = insK k (srtK K) := by
  unfold srtK
  rw [List.foldl_append]
  rfl
/-- A neighbor, where its map lies, what is on its list. -/
structure Nb where
  n : Int × Int
  b : Nat
  ks : List Ky
def getN (R : List Nb) (n : Int × Int) : Option Nb := R.find? fun r => decide (r.n = n)
def restN (R : List Nb) (n : Int × Int) : List Nb := R.filter fun r => !decide (r.n = n)
theorem getN_some {R : List Nb} {n : Int × Int} {r : Nb} (h : getN R n = some r) : r ∈ R ∧ r.n = n := by
  unfold getN at h
  exact ⟨List.mem_of_find?_eq_some h, of_decide_eq_true (List.find?_some (p := fun r : Nb => decide (r.n = n)) h)⟩
theorem getN_none {R : List Nb} {n : Int × Int} (h : getN R n = none) : ∀ r ∈ R, r.n ≠ n := by
  unfold getN at h
  rw [List.find?_eq_none] at h
  exact fun r hr e => h r hr (by simp [e])
theorem mem_restN {R : List Nb} {n : Int × Int} {r : Nb} : r ∈ restN R n ↔ r ∈ R ∧ r.n ≠ n := by
  unfold restN
  rw [List.mem_filter]
  simp
/-- The neighbors' lists are the rows. -/
structure Rep (R : List Nb) (L : List Rw) : Prop where
  one : R.Pairwise fun r s => r.n ≠ s.n
  each : ∀ r ∈ R, r.ks.Nodup ∧ r.ks ≠ []
  nodup : L.Nodup
  mem : ∀ x, x ∈ L ↔ ∃ r ∈ R, r.n = x.n ∧ x.k ∈ r.ks
theorem one_of {R : List Nb} (h : R.Pairwise fun r s => r.n ≠ s.n) : ∀ {r s : Nb}, r ∈ R → s ∈ R → r.n = s.n → r = s := by
  induction R with
  | nil => exact fun hr => by cases hr
  | cons x R ih =>
    obtain ⟨h1, h2⟩ := List.pairwise_cons.1 h
    intro r s hr hs e
    rcases List.mem_cons.1 hr with rfl | hr'
    · rcases List.mem_cons.1 hs with rfl | hs'
      · rfl
      · exact absurd e (h1 s hs')
    · rcases List.mem_cons.1 hs with rfl | hs'
      · exact absurd e.symm (h1 r hr')
      · exact ih h2 hr' hs' e
theorem Rep.nil : Rep [] [] := ⟨List.Pairwise.nil, fun r hr => (by cases hr), List.nodup_nil, fun x => ⟨fun h => (by cases h), fun ⟨r, hr, _⟩ => (by cases hr)⟩⟩
section
variable {R : List Nb} {L : List Rw} {n : Int × Int} {k : Ky} {r : Nb}
theorem Rep.got (h : Rep R L) (hg : getN R n = some r) : (onL L n).Perm r.ks := by
  obtain ⟨hr, rfl⟩ := getN_some hg
  refine (List.perm_ext_iff_of_nodup (nodup_onL h.nodup _) (h.each r hr).1).2 fun x => ?_
  rw [mem_onL, h.mem]
  constructor
  · rintro ⟨s, hs, e, hx⟩
    rw [one_of h.one hs hr e] at hx
    exact hx
  · exact fun hx => ⟨r, hr, rfl, hx⟩
theorem Rep.no (h : Rep R L) (hg : getN R n = none) : onL L n = [] := by
  rw [List.eq_nil_iff_forall_not_mem]
  intro x hx
  obtain ⟨s, hs, e, -⟩ := (h.mem _).1 (mem_onL.1 hx)
  exact getN_none hg s hs e
theorem Rep.get (h : Rep R L) (hr : r ∈ R) : getN R r.n = some r := by
  cases hg : getN R r.n with
  | none => exact absurd rfl (getN_none hg r hr)
  | some s =>
    obtain ⟨hs, e⟩ := getN_some hg
    rw [one_of h.one hs hr e]
theorem rest_one (h : R.Pairwise fun r s => r.n ≠ s.n) (n : Int × Int) : (restN R n).Pairwise fun r s => r.n ≠ s.n := h.filter _
theorem Rep.put (h : Rep R L) {b : Nat} {K ks : List Ky} (hn : ks.Nodup) (h0 : ks ≠ []) (hk : ∀ x, x ∈ ks ↔ x ∈ onL L n ∨ x ∈ K) : Rep (⟨n, b, ks⟩ :: restN R n) (putsK L n K) := by
  obtain ⟨p1, p2⟩ := puts_all (n := n) (K := K) h.nodup
  refine ⟨List.pairwise_cons.2 ⟨fun s hs e => (mem_restN.1 hs).2 e.symm, rest_one h.one n⟩, fun r hr => ?_, p1, fun x => (p2 x).trans ?_⟩
  · rcases List.mem_cons.1 hr with rfl | hr
    · exact ⟨hn, h0⟩
    · exact h.each r (mem_restN.1 hr).1
  · obtain ⟨xn, xk⟩ := x
    simp only
    constructor
    · intro hx
      by_cases e : xn = n
      · subst e
        refine ⟨_, List.mem_cons_self, rfl, (hk xk).2 ?_⟩
        rcases hx with hx | ⟨-, hx⟩
        · exact .inl (mem_onL.2 hx)
        · exact .inr hx
      · rcases hx with hx | ⟨e2, -⟩
        · obtain ⟨s, hs, e2, hx⟩ := (h.mem _).1 hx
          exact ⟨s, List.mem_cons_of_mem _ (mem_restN.2 ⟨hs, by rw [e2]; exact e⟩), e2, hx⟩
        · exact absurd e2 e
    · rintro ⟨s, hs, e, hx⟩
      rcases List.mem_cons.1 hs with rfl | hs
      · simp only at e hx
        subst e
        rcases (hk xk).1 hx with hx | hx
        · exact .inl (mem_onL.1 hx)
        · exact .inr ⟨rfl, hx⟩
      · exact .inl ((h.mem _).2 ⟨s, (mem_restN.1 hs).1, e, hx⟩)
theorem Rep.rest (h : Rep R L) (n : Int × Int) : Rep (restN R n) (forgetK L n) := by
  refine ⟨rest_one h.one n, fun r hr => h.each r (mem_restN.1 hr).1, h.nodup.filter _, fun x => ?_⟩
  rw [mem_forgetK, h.mem]
  constructor
  · rintro ⟨⟨s, hs, e, hx⟩, hne⟩
    exact ⟨s, mem_restN.2 ⟨hs, by rw [e]; exact hne⟩, e, hx⟩
  · rintro ⟨s, hs, e, hx⟩
    obtain ⟨hs, hne⟩ := mem_restN.1 hs
    exact ⟨⟨s, hs, e, hx⟩, by rw [← e]; exact hne⟩
/-- One key less of a list. -/
def lessOne (ks : List Ky) (k : Ky) : List Ky := ks.filter fun x => !decide (x = k)
theorem mem_lessOne {ks : List Ky} {x : Ky} : x ∈ lessOne ks k ↔ x ∈ ks ∧ x ≠ k := by
  unfold lessOne
  rw [List.mem_filter]
  simp
theorem Rep.ack (h : Rep R L) (hg : getN R n = some r) (k : Ky) (h0 : lessOne r.ks k ≠ []) (b : Nat) : Rep (⟨n, b, lessOne r.ks k⟩ :: restN R n) (ackK L n k) := by
  have hr := (getN_some hg).1
  have ho := h.got hg
  refine ⟨List.pairwise_cons.2 ⟨fun s hs e => (mem_restN.1 hs).2 e.symm, rest_one h.one n⟩, fun r' hr' => ?_, h.nodup.filter _, fun x => mem_ackK.trans ?_⟩
  · rcases List.mem_cons.1 hr' with rfl | hr'
    · exact ⟨(h.each r hr).1.filter _, h0⟩
    · exact h.each r' (mem_restN.1 hr').1
  · obtain ⟨xn, xk⟩ := x
    simp only
    constructor
    · rintro ⟨hx, hne⟩
      by_cases e : xn = n
      · subst e
        exact ⟨_, List.mem_cons_self, rfl, mem_lessOne.2 ⟨ho.mem_iff.1 (mem_onL.2 hx), fun e => hne (by rw [e])⟩⟩
      · obtain ⟨s, hs, e2, hx⟩ := (h.mem _).1 hx
        exact ⟨s, List.mem_cons_of_mem _ (mem_restN.2 ⟨hs, by rw [e2]; exact e⟩), e2, hx⟩
    · rintro ⟨s, hs, e, hx⟩
      rcases List.mem_cons.1 hs with rfl | hs
      · simp only at e hx
        subst e
        obtain ⟨h1, h2⟩ := mem_lessOne.1 hx
        exact ⟨mem_onL.1 (ho.mem_iff.2 h1), fun e => h2 (by injection e)⟩
      · obtain ⟨hs, hne⟩ := mem_restN.1 hs
        exact ⟨(h.mem _).2 ⟨s, hs, e, hx⟩, fun e2 => hne (by injection e2 with e2; rw [e, e2])⟩
theorem Rep.ackAll (h : Rep R L) (hg : getN R n = some r) (k : Ky) (h0 : lessOne r.ks k = []) : Rep (restN R n) (ackK L n k) := by
  have ho := h.got hg
  have h1 := h.rest n
  refine ⟨h1.one, h1.each, h.nodup.filter _, fun x => mem_ackK.trans (Iff.trans ?_ (h1.mem x))⟩
  rw [mem_forgetK]
  obtain ⟨xn, xk⟩ := x
  simp only
  constructor
  · rintro ⟨hx, hne⟩
    refine ⟨hx, fun e => ?_⟩
    subst e
    have h2 : xk ∈ lessOne r.ks k := mem_lessOne.2 ⟨ho.mem_iff.1 (mem_onL.2 hx), fun e => hne (by rw [e])⟩
    rw [h0] at h2
    cases h2
  · rintro ⟨hx, hne⟩
    exact ⟨hx, fun e => hne (by injection e)⟩
theorem Rep.on (h : Rep R L) : Rw.mk n k ∈ L ↔ ∃ r, getN R n = some r ∧ k ∈ r.ks := by
  rw [← mem_onL]
  cases hg : getN R n with
  | none => rw [h.no hg]; simp
  | some r => rw [(h.got hg).mem_iff]; simp
end
/-- There are no more lists than rows. -/
theorem Rep.short : ∀ {R : List Nb} {L : List Rw}, Rep R L → R.length ≤ L.length
  | [], L, _ => Nat.zero_le _
  | r :: R, L, h => by
    have h1 := h.rest r.n
    have e : restN (r :: R) r.n = R := by
      unfold restN
      rw [List.filter_cons_of_neg (by simp), List.filter_eq_self]
      intro s hs
      have := (List.pairwise_cons.1 h.one).1 s hs
      simp [Ne.symm this]
    rw [e] at h1
    have h2 := Rep.short h1
    have h3 := forget_len L r.n
    have h4 := (h.got (h.get List.mem_cons_self)).length_eq
    have h5 := List.length_pos_iff.2 (h.each r List.mem_cons_self).2
    rw [List.length_cons]
    omega
end Go.Proofs.Ytndjoanlbaiaeaa
