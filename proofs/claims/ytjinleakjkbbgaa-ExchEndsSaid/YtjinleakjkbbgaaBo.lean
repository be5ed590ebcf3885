/- Two sides in memory, on blocks of their own; there is an order of what is told. Conditions: what the words say. -/
import Derived.Test.YtjinleakjkbbgaaBn
namespace Go.Proofs.Ytjinleakjkbbgaa
open Go.RowKit Go.Lib Go.Sort Go.Deep

theorem place_ex (K : List Hd) (x : Hd) : ∀ k, k ≤ K.length → Above K k x → ∃ j, Above K j x ∧ (j = 0 ∨ ∃ y, K[j - 1]? = some y ∧ lessH x y = false)
  | 0, _, h => ⟨0, h, .inl rfl⟩
  | k + 1, hk, h => by
    have hy : K[k]? = some (K[k]'(by omega)) := List.getElem?_eq_getElem (by omega)
    cases hl : lessH x (K[k]'(by omega))
    · exact ⟨k + 1, h, .inr ⟨_, hy, hl⟩⟩
    · exact place_ex K x k (by omega) (h.step hy hl)
theorem order_rev : ∀ R : List Hd, ∃ K, Ord lessH K ∧ Stab lessH R.reverse K
  | [] => ⟨[], List.Pairwise.nil, Stab.refl _⟩
  | x :: R => by
    obtain ⟨K, h1, h2⟩ := order_rev R
    obtain ⟨j, h3, h4⟩ := place_ex K x K.length (Nat.le_refl _) (Above.end_ K _)
    refine ⟨insAt K j x, h3.ord h1 h4, ?_⟩
    rw [List.reverse_cons]
    exact (h2.app (Stab.refl [x])).trans h3.stab
theorem order_ex (L : List Hd) : ∃ K, Ord lessH K ∧ Stab lessH L K := by
  have := order_rev L.reverse
  rwa [List.reverse_reverse] at this
theorem told_ex (S : List La) : ∃ K, Told S K := order_ex (toldL S)
/-- Two sides in memory, on blocks from B on, none on one of the other's. -/
def DuoAt (w : World) (B s p s' p' : Nat) (A : Option Addr) (n c : Nat) (A' : Option Addr) (n' c' : Nat) (a b : Sd) : Prop :=
  ∃ F G : Nat → Prop, SdAt w F s p A n c a ∧ SdAt w G s' p' A' n' c' b ∧ (∀ q, F q → B ≤ q ∧ ¬ G q) ∧ (∀ q, G q → B ≤ q ∧ ¬ F q)
section
variable {w w' : World} {B s p s' p' : Nat} {A A' : Option Addr} {n c n' c' : Nat} {a b : Sd} {S : List La} {K : List Hd}
theorem DuoAt.below (h : DuoAt w B s p s' p' A n c A' n' c' a b) (hb : Below w.heap.size w w') : DuoAt w' B s p s' p' A n c A' n' c' a b := by
  obtain ⟨F, G, h1, h2, h3, h4⟩ := h
  exact ⟨F, G, h1.below hb, h2.below hb, h3, h4⟩
theorem DuoAt.drewN (h : DuoAt w B s p s' p' A n c A' n' c' a b) (q : Nat) : DuoAt (w.drewN q) B s p s' p' A n c A' n' c' a b := h.below ⟨rfl, rfl, rfl, Nat.le_refl _, fun _ _ => rfl⟩
theorem DuoAt.swap (h : DuoAt w B s p s' p' A n c A' n' c' a b) : DuoAt w B s' p' s p A' n' c' A n c b a := by
  obtain ⟨F, G, h1, h2, h3, h4⟩ := h
  exact ⟨G, F, h2, h1, h4, h3⟩
theorem duo_first (h : DuoAt w B s p s' p' A n c A' n' c' a b) (hS : Las w B A n S) (hBw : B ≤ w.heap.size) (hn : n ≤ 100) (hK : Told S K) (ht : a.took.length ≤ 1000) :
    Calls Try.prog 17 #[.pointer (some ⟨s, 0, none⟩), .pointer (some ⟨s', 0, none⟩)] w fun e w' => e = .returned (.bool (decide (hearsC K a b ≠ 3))) ∧ DuoAt w' B s p s' p' A n c A' n' c' (hearsS K a b) b ∧ Below B w w' := by
  obtain ⟨F, G, h1, h2, h3, h4⟩ := h
  refine (hears_any h1 h2 hS hBw (fun q hq => (h3 q hq).1) hn hK ht).mono ?_
  rintro e w1 ⟨rfl, ha, hc⟩
  refine ⟨rfl, ⟨Fp F w w1, G, ha, h2.chg hc (fun q hq => (h4 q hq).2), fun q hq => ?_, fun q hq => ⟨(h4 q hq).1, fun e => ?_⟩⟩, hc.to_below (fun q hq => (h3 q hq).1) hBw⟩
  · rcases hq with hq | hq
    · exact h3 q hq
    · exact ⟨by omega, fun e => by have := h2.bound q e; omega⟩
  · rcases e with e | e
    · exact (h4 q hq).2 e
    · have := h2.bound q hq
      omega
theorem DuoAt.side (h : DuoAt w B s p s' p' A n c A' n' c' a b) : w.cell? ⟨s, 0, none⟩ = some (.pointer (some ⟨p, 0, none⟩)) ∧ s < w.heap.size ∧ (∃ E, ExAt w E p a.x) ∧
    ∃ (At : Option Addr) (nt ct : Nat), w.cell? ⟨s, 2, none⟩ = some (.slice At nt ct) ∧ nt = a.took.length ∧ Hds w w.heap.size At nt a.took ∧ nt ≤ ct ∧ ct ≤ maxLen := by
  obtain ⟨F, G, h1, -, -, -⟩ := h
  obtain ⟨E, At, nt, ct, hb, ho, hx, -, -⟩ := h1.mem
  refine ⟨hb.cell 0, hb.lt, ⟨E, hx⟩, At, nt, ct, hb.cell 2, (own_lenH encHd_len (by omega) ho).symm, own_hds ho, ?_⟩
  rcases ho.2 with ⟨hv, hz⟩ | ⟨g, cap, cur, hv, hb, hg, h1, h2, h3, h4⟩
  · cases hv
    unfold maxLen
    omega
  · cases hv
    exact ⟨h1, h2⟩
theorem duo_new {n0 n1 n2 n3 : Int} {e : Ending} (h : DuoQ n0 n1 n2 n3 A n c A' n' c' w e w') (hB : B ≤ w.heap.size) :
    ∃ s p s' p', e = .returned (.tuple #[.pointer (some ⟨s, 0, none⟩), .pointer (some ⟨s', 0, none⟩)]) ∧ DuoAt w' B s p s' p' A n c A' n' c' ⟨newE n0 n1 n2, []⟩ ⟨newE n1 n0 n3, []⟩ ∧ Below w.heap.size w w' := by
  obtain ⟨F, G, s, p, s', p', he, h1, h2, h3, h4, h5⟩ := h
  exact ⟨s, p, s', p', he, ⟨F, G, h1, h2, fun q hq => ⟨Nat.le_trans hB (h3 q hq).1, (h3 q hq).2⟩, fun q hq => ⟨Nat.le_trans hB (h4 q hq).1, (h4 q hq).2⟩⟩, h5⟩
end
end Go.Proofs.Ytjinleakjkbbgaa
