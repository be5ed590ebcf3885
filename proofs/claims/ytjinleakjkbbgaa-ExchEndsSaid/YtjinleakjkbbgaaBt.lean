/- Two sides in memory beside what stays; the heads of both. Conditions: at most 100 descriptions. -/
import Derived.Test.YtjinleakjkbbgaaBo
import Derived.Test.YtjinleakjkbbgaaBp
import Derived.Deep.RegionHeld3
namespace Go.Proofs.Ytjinleakjkbbgaa
open Go.RowKit Go.Lib Go.Sort Go.Deep

/-- Two sides in memory, on blocks that are none of P and none of the other one's. -/
def DuoP (w : World) (P : Nat → Prop) (s p s' p' : Nat) (A : Option Addr) (n c : Nat) (A' : Option Addr) (n' c' : Nat) (a b : Sd) : Prop :=
  ∃ F G : Nat → Prop, SdAt w F s p A n c a ∧ SdAt w G s' p' A' n' c' b ∧ (∀ q, F q → ¬ P q ∧ ¬ G q) ∧ (∀ q, G q → ¬ P q ∧ ¬ F q)
section
variable {w w' : World} {P : Nat → Prop} {B s p s' p' : Nat} {A A' : Option Addr} {n c n' c' : Nat} {a b : Sd} {S : List La} {K : List Hd}
theorem DuoP.below (h : DuoP w P s p s' p' A n c A' n' c' a b) (hb : Below w.heap.size w w') : DuoP w' P s p s' p' A n c A' n' c' a b := by
  obtain ⟨F, G, h1, h2, h3, h4⟩ := h
  exact ⟨F, G, h1.below hb, h2.below hb, h3, h4⟩
theorem DuoP.drewN (h : DuoP w P s p s' p' A n c A' n' c' a b) (q : Nat) : DuoP (w.drewN q) P s p s' p' A n c A' n' c' a b := h.below ⟨rfl, rfl, rfl, Nat.le_refl _, fun _ _ => rfl⟩
theorem DuoP.swap (h : DuoP w P s p s' p' A n c A' n' c' a b) : DuoP w P s' p' s p A' n' c' A n c b a := by
  obtain ⟨F, G, h1, h2, h3, h4⟩ := h
  exact ⟨G, F, h2, h1, h4, h3⟩
theorem duoP_first (h : DuoP w P s p s' p' A n c A' n' c' a b) (hS : Las w B A n S) (hBw : B ≤ w.heap.size) (hP : ∀ q, P q → q < w.heap.size) (hPB : ∀ q, q < B → P q) (hn : n ≤ 100) (hK : Told S K) (ht : a.took.length ≤ 1000) :
    Calls Try.prog 17 #[.pointer (some ⟨s, 0, none⟩), .pointer (some ⟨s', 0, none⟩)] w fun e w' => e = .returned (.bool (decide (hearsC K a b ≠ 3))) ∧ DuoP w' P s p s' p' A n c A' n' c' (hearsS K a b) b ∧ Chg (fun q => ¬ P q) w w' := by
  obtain ⟨F, G, h1, h2, h3, h4⟩ := h
  refine (hears_any h1 h2 hS hBw (fun q hq => ?_) hn hK ht).mono ?_
  · rcases Nat.lt_or_ge q B with hb | hb
    · exact absurd (hPB q hb) (h3 q hq).1
    · exact hb
  rintro e w1 ⟨rfl, ha, hc⟩
  refine ⟨rfl, ⟨Fp F w w1, G, ha, h2.chg hc (fun q hq => (h4 q hq).2), fun q hq => ?_, fun q hq => ⟨(h4 q hq).1, fun e => ?_⟩⟩, hc.wide (fun q hq => (h3 q hq).1)⟩
  · rcases hq with hq | hq
    · exact h3 q hq
    · exact ⟨fun e => by have := hP q e; omega, fun e => by have := h2.bound q e; omega⟩
  · rcases e with e | e
    · exact (h4 q hq).2 e
    · have := h2.bound q hq
      omega
theorem DuoP.side (h : DuoP w P s p s' p' A n c A' n' c' a b) : w.cell? ⟨s, 0, none⟩ = some (.pointer (some ⟨p, 0, none⟩)) ∧ s < w.heap.size ∧ (∃ E, ExAt w E p a.x) ∧
    ∃ (At : Option Addr) (nt ct : Nat), w.cell? ⟨s, 2, none⟩ = some (.slice At nt ct) ∧ nt = a.took.length ∧ Hds w w.heap.size At nt a.took ∧ nt ≤ ct ∧ ct ≤ maxLen := by
  obtain ⟨F, G, h1, -, -, -⟩ := h
  obtain ⟨E, At, nt, ct, hb, ho, hx, -, -⟩ := h1.mem
  refine ⟨hb.cell 0, hb.lt, ⟨E, hx⟩, At, nt, ct, hb.cell 2, (own_lenH encHd_len (by omega) ho).symm, own_hds ho, ?_⟩
  rcases ho.2 with ⟨hv, hz⟩ | ⟨g, cap, cur, hv, hb, hg, h1, h2, h3, h4⟩
  · cases hv
    unfold maxLen
    omega
  · cases hv
    exact ⟨h1, h2⟩
/-- What came ahead stays. -/
theorem chgP_below (hc : Chg (fun q => ¬ P q) w w') (hPB : ∀ q, q < B → P q) (hB : B ≤ w.heap.size) : Below B w w' := ⟨hc.os, hc.tape, hc.output, hc.size, fun k hk => hc.block k (by omega) (fun e => e (hPB k hk))⟩
theorem chgP_own {base size : Nat} {t : TypeId} {v : Value} {m : Nat} {xs : List Value} (ho : w.ownsRow base t size v m xs) (hc : Chg (fun q => ¬ P q) w w') (hP : ∀ g, v.ownBlock = some g → P g ∧ g < w.heap.size) : w'.ownsRow base t size v m xs := own_move ho (fun g hg => hc.block g (hP g hg).2 (fun e => e (hP g hg).1))
theorem chgP_trans {w'' : World} (h : Chg (fun q => ¬ P q) w w') (h' : Chg (fun q => ¬ P q) w' w'') : Chg (fun q => ¬ P q) w w'' := h.trans h' (fun _ hq => .inl hq)
end
/-- The two new sides, and what stays: all that there is but their blocks, whatever is made behind them. -/
theorem duoP_new {n0 n1 n2 n3 : Int} {A A' : Option Addr} {n c n' c' : Nat} {w w' : World} {e : Ending} (h : DuoQ n0 n1 n2 n3 A n c A' n' c' w e w') :
    ∃ (s p s' p' : Nat) (N : Nat → Prop), e = .returned (.tuple #[.pointer (some ⟨s, 0, none⟩), .pointer (some ⟨s', 0, none⟩)]) ∧ (∀ M : Nat, DuoP w' (fun q => q < M ∧ ¬ N q) s p s' p' A n c A' n' c' ⟨newE n0 n1 n2, []⟩ ⟨newE n1 n0 n3, []⟩) ∧ (∀ q, N q → w.heap.size ≤ q ∧ q < w'.heap.size) ∧ Below w.heap.size w w' := by
  obtain ⟨F, G, s, p, s', p', he, h1, h2, h3, h4, h5⟩ := h
  refine ⟨s, p, s', p', fun q => F q ∨ G q, he, fun M => ⟨F, G, h1, h2, fun q hq => ⟨fun e => e.2 (.inl hq), (h3 q hq).2⟩, fun q hq => ⟨fun e => e.2 (.inr hq), (h4 q hq).2⟩⟩, fun q hq => ?_, h5⟩
  rcases hq with hq | hq
  · exact ⟨(h3 q hq).1, h1.bound q hq⟩
  · exact ⟨(h4 q hq).1, h2.bound q hq⟩
end Go.Proofs.Ytjinleakjkbbgaa
