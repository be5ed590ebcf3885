/- Two sides in memory beside what stays; the heads of both. Conditions: at most 100 descriptions. · The walk of the statement ExchAnyOrder. Conditions: what the words say. · Same of the reference, where pieces are alike. Conditions: what the words say. · Pieces in a row, one more ahead of them; one of two sides hears a piece of anybody's. Conditions: what the words say. -/
import Derived.Deep.RegionHeld3
import Derived.Test.YtfdfdmbnggpnbaaVar
namespace Go.Proofs.Ytfdfdmbnggpnbaa
open Go.RowKit Go.Lib Go.Sort Go.Deep

/-- Two sides in memory, on blocks that are none of P and none of the other one's. -/
def DuoP (w : World) (P : Nat → Prop) (s p s' p' : Nat) (A : Option Addr) (n c : Nat) (A' : Option Addr) (n' c' : Nat) (a b : Sd) : Prop :=
  ∃ F G : Nat → Prop, SdAt w F s p A n c a ∧ SdAt w G s' p' A' n' c' b ∧ (∀ q, F q → ¬ P q ∧ ¬ G q) ∧ (∀ q, G q → ¬ P q ∧ ¬ F q)
section
variable {w w' : World} {P : Nat → Prop} {B s p s' p' : Nat} {A A' : Option Addr} {n c n' c' : Nat} {a b : Sd} {S : List La} {K : List Hd}
theorem DuoP.below (h : DuoP w P s p s' p' A n c A' n' c' a b) (hb : Below w.heap.size w w') : DuoP w' P s p s' p' A n c A' n' c' a b := by
  obtain ⟨F, G, h1, h2, h3, h4⟩ := h
  exact ⟨F, G, h1.below hb, h2.below hb, h3, h4⟩
theorem DuoP.drewN (h : DuoP w P s p s' p' A n c A' n' c' a b) (q : Nat) : DuoP (w.drewN q) P s p s' p' A n c A' n' c' a b := h.below ⟨rfl, rfl, rfl, Nat.le_refl _, fun _ _ => rfl⟩
theorem DuoP.swap (h : DuoP w P s p s' p' A n c A' n' c' a b) : DuoP w P s' p' s p A' n' c' A n c b a := by
  obtain ⟨F, G, h1, h2, h3, h4⟩ := h
  exact ⟨G, F, h2, h1, h4, h3⟩
theorem duoP_first (h : DuoP w P s p s' p' A n c A' n' c' a b) (hS : Las w B A n S) (hBw : B ≤ w.heap.size) (hP : ∀ q, P q → q < w.heap.size) (hPB : ∀ q, q < B → P q) (hn : n ≤ 100) (hK : Told S K) (ht : a.took.length ≤ 1000) :
    Calls Try.prog 33 #[.pointer (some ⟨s, 0, none⟩), .pointer (some ⟨s', 0, none⟩)] w fun e w' => e = .returned (.bool (decide (hearsC K a b ≠ 3))) ∧ DuoP w' P s p s' p' A n c A' n' c' (hearsS K a b) b ∧ Chg (fun q => ¬ P q) w w' := by
  obtain ⟨F, G, h1, h2, h3, h4⟩ := h
  refine (hears_any h1 h2 hS hBw (fun q hq => ?_) hn hK ht).mono ?_
  · rcases Nat.lt_or_ge q B with hb | hb
    · exact absurd (hPB q hb) (h3 q hq).1
    · exact hb
  rintro e w1 ⟨rfl, ha, hc⟩
  refine ⟨rfl, ⟨Fp F w w1, G, ha, h2.chg hc (fun q hq => (h4 q hq).2), fun q hq => ?_, fun q hq => ⟨(h4 q hq).1, fun e => ?_⟩⟩, hc.wide (fun q hq => (h3 q hq).1)⟩
  · rcases hq with hq | hq
    · exact h3 q hq
    · exact ⟨fun e => by have := hP q e; omega, fun e => by have := h2.bound q e; omega⟩
  · rcases e with e | e
    · exact (h4 q hq).2 e
    · have := h2.bound q hq
      omega
theorem DuoP.side (h : DuoP w P s p s' p' A n c A' n' c' a b) : w.cell? ⟨s, 0, none⟩ = some (.pointer (some ⟨p, 0, none⟩)) ∧ s < w.heap.size ∧ (∃ E, ExAt w E p a.x) ∧
    ∃ (At : Option Addr) (nt ct : Nat), w.cell? ⟨s, 2, none⟩ = some (.slice At nt ct) ∧ nt = a.took.length ∧ Hds w w.heap.size At nt a.took ∧ nt ≤ ct ∧ ct ≤ maxLen := by
  obtain ⟨F, G, h1, -, -, -⟩ := h
  obtain ⟨E, At, nt, ct, hb, ho, hx, -, -⟩ := h1.mem
  refine ⟨hb.cell 0, hb.lt, ⟨E, hx⟩, At, nt, ct, hb.cell 2, (own_lenH encHd_len (by omega) ho).symm, own_hds ho, ?_⟩
  rcases ho.2 with ⟨hv, hz⟩ | ⟨g, cap, cur, hv, hb, hg, h1, h2, h3, h4⟩
  · cases hv
    unfold maxLen
    omega
  · cases hv
    exact ⟨h1, h2⟩
/-- What came ahead stays. -/
theorem chgP_below (hc : Chg (fun q => ¬ P q) w w') (hPB : ∀ q, q < B → P q) (hB : B ≤ w.heap.size) : Below B w w' := ⟨hc.os, hc.tape, hc.output, hc.size, fun k hk => hc.block k (by omega) (fun e => e (hPB k hk))⟩
theorem chgP_own {base size : Nat} {t : TypeId} {v : Value} {m : Nat} {xs : List Value} (ho : w.ownsRow base t size v m xs) (hc : Chg (fun q => ¬ P q) w w') (hP : ∀ g, v.ownBlock = some g → P g ∧ g < w.heap.size) : w'.ownsRow base t size v m xs := own_move ho (fun g hg => hc.block g (hP g hg).2 (fun e => e (hP g hg).1))
theorem chgP_trans {w'' : World} (h : Chg (fun q => ¬ P q) w w') (h' : Chg (fun q => ¬ P q) w' w'') : Chg (fun q => ¬ P q) w w'' := h.trans h' (fun _ hq => .inl hq)
end
/-- The two new sides, and what stays: all that there is but their blocks, whatever is made behind them. -/
theorem duoP_new {n0 n1 n2 n3 : Int} {A A' : Option Addr} {n c n' c' : Nat} {w w' : World} {e : Ending} (h : DuoQ n0 n1 n2 n3 A n c A' n' c' w e w') :
    ∃ (s p s' p' : Nat) (N : Nat → Prop), e = .returned (.tuple #[.pointer (some ⟨s, 0, none⟩), .pointer (some ⟨s', 0, none⟩)]) ∧ (∀ M : Nat, DuoP w' (fun q => q < M ∧ ¬ N q) s p s' p' A n c A' n' c' ⟨newE n0 n1 n2, []⟩ ⟨newE n1 n0 n3, []⟩) ∧ (∀ q, N q → w.heap.size ≤ q ∧ q < w'.heap.size) ∧ Below w.heap.size w w' := by
  obtain ⟨F, G, s, p, s', p', he, h1, h2, h3, h4, h5⟩ := h
  refine ⟨s, p, s', p', fun q => F q ∨ G q, he, fun M => ⟨F, G, h1, h2, fun q hq => ⟨fun e => e.2 (.inl hq), (h3 q hq).2⟩, fun q hq => ⟨fun e => e.2 (.inr hq), (h4 q hq).2⟩⟩, fun q hq => ?_, h5⟩
  rcases hq with hq | hq
  · exact ⟨(h3 q hq).1, h1.bound q hq⟩
  · exact ⟨(h4 q hq).1, h2.bound q hq⟩
end Go.Proofs.Ytfdfdmbnggpnbaa
namespace Go.Proofs.Ytfdfdmbnggpnbaa
open Go.RowKit Go.Lib Go.Sort Go.Deep

theorem belowD1 {B : Nat} {w w' : World} (h : Below B w w') : Below B w w'.drew := ⟨h.os, h.tape, h.output, h.size, h.block⟩
theorem own_lt {w : World} {base n size q : Nat} {t : TypeId} {v : Value} {xs : List Value} (h : w.ownsRow base t size v n xs) (hq : v.ownBlock = some q) : q < w.heap.size := by
  rcases h.2 with ⟨hv, _⟩ | ⟨g, cap, cur, hv, hb, hg, -⟩
  · subst hv
    cases hq
  · subst hv
    have h2 : some g = some q := hq
    injection h2 with h2
    rw [← h2]
    exact (Array.getElem?_eq_some_iff.1 hg).1
set_option maxRecDepth 20000 in
set_option maxHeartbeats 16000000 in
theorem any_walk (n0 n1 n2 n3 : Int) {w : World} {A A' : Option Addr} {n c n' c' : Nat} {S S' : List La} {Ab : Option Addr} {nb cb : Nat} {Lb : List Bool} (hS : Las w w.heap.size A n S) (hn : n ≤ maxLen) (hS' : Las w w.heap.size A' n' S') (hn' : n' ≤ maxLen) (hL : Bls w w.heap.size Ab nb Lb) (hnb : nb ≤ maxLen) :
    Calls Try.prog 7 #[.agg #[.int .i64 n0, .int .i64 n1, .int .i64 n2, .int .i64 n3], .agg #[.slice A n c, .slice A' n' c'], .slice Ab nb cb] w fun e w' => e = .returned (.bool true) ∧ Below w.heap.size w w' := by
  have HS := Lib.hid hS
  have HS' := Lib.hid hS'
  have HL := Lib.hid hL
  have HN := Lib.hid hn
  have HN' := Lib.hid hn'
  have B0 := Lib.hid (((Below.refl w.heap.size w).alloc (Nat.le_refl _) (.cells #[.int .i64 n0, .int .i64 n1, .int .i64 n2, .int .i64 n3] 58)).alloc (by simp) (.cells #[.slice A n c, .slice A' n' c'] 59))
  have N0 := Lib.hid ((Blk.new w 58 #[.int .i64 n0, .int .i64 n1, .int .i64 n2, .int .i64 n3]).alloc (.cells #[.slice A n c, .slice A' n' c'] 59))
  have M0 := Lib.hid (show Blk ((w.alloc (.cells #[.int .i64 n0, .int .i64 n1, .int .i64 n2, .int .i64 n3] 58)).alloc (.cells #[.slice A n c, .slice A' n' c'] 59)) (w.heap.size + 1) 59 #[.slice A n c, .slice A' n' c'] by
    have := Blk.new (w.alloc (.cells #[.int .i64 n0, .int .i64 n1, .int .i64 n2, .int .i64 n3] 58)) 59 #[.slice A n c, .slice A' n' c']
    simpa using this)
  unfold maxLen at hnb
  clear hS hS' hL hn hn'
  go_enter Try.func7, Try.ntmps7
  go_wp2_with fail
  refine (wakes14 _).mono ?_
  rintro e1 w1 ⟨rfl, hb1⟩
  have B1 := Lib.hid (B0.out.trans (hb1.mono B0.out.size))
  have N1 := Lib.hid (N0.out.below hb1 N0.out.lt)
  have M1 := Lib.hid (M0.out.below hb1 M0.out.lt)
  clear hb1 B0 N0 M0
  have m0 : w1.cell? ⟨w.heap.size + 1, 0, none⟩ = some (.slice A n c) := M1.out.cell 0
  have m1 : w1.cell? ⟨w.heap.size + 1, 1, none⟩ = some (.slice A' n' c') := M1.out.cell 1
  have hml := M1.out.lt
  go_wp2_with fail
  refine (many14 A n c S w.heap.size w1 (HS.out.below B1.out) B1.out.size HN.out).mono ?_
  rintro e2 w2 ⟨⟨t, rfl, ht⟩, hb2⟩
  have B2 := Lib.hid (B1.out.trans (hb2.mono B1.out.size))
  have N2 := Lib.hid (N1.out.below hb2 N1.out.lt)
  have M2 := Lib.hid (M1.out.below hb2 M1.out.lt)
  clear hb2 B1 N1 M1 m0 m1 hml
  cases t
  case true =>
    go_wp2
    go_ret
    exact ⟨rfl, B2.out⟩
  obtain ⟨hn60, -⟩ := ht rfl
  clear ht HN
  have m1 : w2.cell? ⟨w.heap.size + 1, 1, none⟩ = some (.slice A' n' c') := M2.out.cell 1
  have hml := M2.out.lt
  go_wp2_with fail
  refine (many14 A' n' c' S' w.heap.size w2 (HS'.out.below B2.out) B2.out.size HN'.out).mono ?_
  rintro e3 w3 ⟨⟨t, rfl, ht⟩, hb3⟩
  have B3 := Lib.hid (B2.out.trans (hb3.mono B2.out.size))
  have N3 := Lib.hid (N2.out.below hb3 N2.out.lt)
  have M3 := Lib.hid (M2.out.below hb3 M2.out.lt)
  clear hb3 B2 N2 M2 m1 hml
  cases t
  case true =>
    go_wp2
    go_ret
    exact ⟨rfl, B3.out⟩
  obtain ⟨hn60', -⟩ := ht rfl
  clear ht HN'
  by_cases hnb2 : 200 < nb
  · have d1 : decide (200 < (nb : Int)) = true := by simp; omega
    go_wp2
    go_ret
    exact ⟨rfl, B3.out⟩
  have d1 : decide (200 < (nb : Int)) = false := by simp; omega
  obtain ⟨k0, k1, k2, k3⟩ := N3.out.four
  have hkl := N3.out.lt
  have m0 : w3.cell? ⟨w.heap.size + 1, 0, none⟩ = some (.slice A n c) := M3.out.cell 0
  have m1 : w3.cell? ⟨w.heap.size + 1, 1, none⟩ = some (.slice A' n' c') := M3.out.cell 1
  have hml := M3.out.lt
  by_cases hne : n0 = n1
  · have d2 : (n0 == n1) = true := by simpa using hne
    clear hne
    go_wp2
    go_ret
    exact ⟨rfl, B3.out⟩
  have d2 : (n0 == n1) = false := by simpa using hne
  have HNE := Lib.hid hne
  clear hne
  go_wp2_with fail
  refine (two_any n0 n1 n2 n3 A n c A' n' c' _).mono ?_
  rintro e4 w4 h4
  obtain ⟨s, p, s', p', N, rfl, hd4, hN4, hb4⟩ := duoP_new h4
  have D4 := Lib.hid hd4
  have B4 := Lib.hid (B3.out.trans (hb4.mono B3.out.size))
  have N4 := Lib.hid (N3.out.below hb4 N3.out.lt)
  have M4 := Lib.hid (M3.out.below hb4 M3.out.lt)
  have HNZ := Lib.hid (show ∀ q, N q → w.heap.size + 1 < q ∧ q < w4.heap.size from fun q hq => by
    have h1 := hN4 q hq
    have h2 := M3.out.lt
    exact ⟨by omega, h1.2⟩)
  clear h4 hd4 hb4 hN4 k0 k1 k2 k3 hkl m0 m1 hml N3 B3 M3
  have LS4 := Lib.hid (show Las w4.drew w.heap.size A n S from HS.out.below (belowD1 B4.out))
  have m0 : w4.cell? ⟨w.heap.size + 1, 0, none⟩ = some (.slice A n c) := M4.out.cell 0
  have m1 : w4.cell? ⟨w.heap.size + 1, 1, none⟩ = some (.slice A' n' c') := M4.out.cell 1
  have hml := M4.out.lt
  have BR : Below w4.heap.size w4 w4.drew := ⟨rfl, rfl, rfl, Nat.le_refl _, fun _ _ => rfl⟩
  have hzw : w.heap.size ≤ w4.drew.heap.size := B4.out.size
  go_wp2_with fail
  go_region_held3 (fun w' => Below w4.heap.size w4 w' ∧ (∀ b o, b < w4.heap.size → w'.cell? ⟨b, o, none⟩ = w4.cell? ⟨b, o, none⟩)) ((refine keepS ?_; first | with_reducible exact BR | with_reducible exact BR5 | with_reducible exact BR6)) (first | (go_at_call 14; first | (have hsecond := BR5; refine (heads_any (HS'.out.below (B4.out.trans (BR5.mono B4.out.size))) (Nat.le_trans B4.out.size BR5.size) (by omega)).mono ?_; rintro e6 w6 ⟨A6, N6, c6, K1, rfl, hb6, hO6, hOrd6, hStab6⟩; have BR6 := BR5.trans (show Below w4.heap.size w5 w6 from Below.mono hb6 BR5.size)) | (refine (heads_any LS4.out hzw (by omega)).mono ?_; rintro e5 w5 ⟨A5, N5, c5, K0, rfl, hb5, hO5, hOrd5, hStab5⟩; have BR5 := BR.trans (show Below w4.heap.size w4.drew w5 from hb5))))
  rename_i hHd
  clear hHd
  have HK0 := Lib.hid (show Told S K0 from ⟨hOrd5, hStab5⟩)
  have HK1 := Lib.hid (show Told S' K1 from ⟨hOrd6, hStab6⟩)
  have HK0l := Lib.hid (show K0.length ≤ 60 by have := told_len HK0.out; have := HS.out.1; omega)
  have HK1l := Lib.hid (show K1.length ≤ 60 by have := told_len HK1.out; have := HS'.out.1; omega)
  have hO56 := own_chg hO5 (Chg.of_below (F := fun _ => False) hb6) (fun _ _ hf => hf)
  have OA := Lib.hid (own_base hO56 (Nat.zero_le _))
  have OB := Lib.hid (own_base hO6 (Nat.zero_le _))
  have HNA := Lib.hid (own_lenH encHd_len (by omega) hO5)
  have HNB := Lib.hid (own_lenH encHd_len (by omega) hO6)
  have HCA := Lib.hid (show N5 ≤ c5 by
    rcases hO5.2 with ⟨hv, hz⟩ | ⟨g, cap, cur, hv, hb, hg, h1, h2, h3, h4⟩
    · omega
    · cases hv
      exact h1)
  have HCB := Lib.hid (show N6 ≤ c6 by
    rcases hO6.2 with ⟨hv, hz⟩ | ⟨g, cap, cur, hv, hb, hg, h1, h2, h3, h4⟩
    · omega
    · cases hv
      exact h1)
  obtain ⟨P, hP⟩ : ∃ P : Nat → Prop, (fun q => q < w6.heap.size ∧ ¬ N q) = P := ⟨_, rfl⟩
  have HPlt := Lib.hid (show ∀ q, P q → q < w6.heap.size from fun q hq => by
    rw [← hP] at hq
    exact hq.1)
  have hs46 := BR6.size
  have HPB := Lib.hid (show ∀ q, q < w.heap.size + 2 → P q from fun q hq => by
    rw [← hP]
    exact ⟨by have := hml; omega, fun e => by have := (HNZ.out q e).1; omega⟩)
  have HPA := Lib.hid (show ∀ g, (Value.slice A5 N5 c5).ownBlock = some g → P g ∧ g < w6.heap.size from fun g hg => by
    have h1 : w4.heap.size ≤ g := own_base_le hO5 hg
    have h2 := own_lt hO56 hg
    rw [← hP]
    exact ⟨⟨h2, fun e => by have := (HNZ.out g e).2; omega⟩, h2⟩)
  have HPC := Lib.hid (show ∀ g, (Value.slice A6 N6 c6).ownBlock = some g → P g ∧ g < w6.heap.size from fun g hg => by
    have h1 := own_base_le hO6 hg
    have h2 := own_lt hO6 hg
    have h3 := BR5.size
    rw [← hP]
    exact ⟨⟨h2, fun e => by have := (HNZ.out g e).2; omega⟩, h2⟩)
  have D6 := Lib.hid (show DuoP w6 P s p s' p' A n c A' n' c' ⟨newE n0 n1 n2, []⟩ ⟨newE n1 n0 n3, []⟩ by
    rw [← hP]
    exact (D4.out w6.heap.size).below BR6)
  have B6 := Lib.hid (B4.out.trans (BR6.mono B4.out.size))
  have N6b := Lib.hid (N4.out.below BR6 N4.out.lt)
  clear hP hsecond BR BR5 BR6 hb5 hb6 hO5 hO6 hO56 hOrd5 hOrd6 hStab5 hStab6 m0 m1 hml hzw LS4 D4 B4 N4 M4 HNZ hs46
  clear w4 w5
  have J6 := Lib.hid (show Duo n0 n1 n2 n3 K0 K1 (0 - nb) (decide (0 % 2 = 0)) ⟨newE n0 n1 n2, []⟩ ⟨newE n1 n0 n3, []⟩ by
    rw [Nat.zero_sub]
    exact Duo.start)
  have C6 := Lib.hid (Chg.refl (fun q => ¬ P q) w6)
  go_wp2_with fail
  go_loopw [50] (fun s50 wr => ∃ (k : Nat) (x y : Sd), s50 = .int .i64 k ∧ k ≤ nb + 100 ∧ Hid (DuoP wr P s p s' p' A n c A' n' c' x y) ∧ Hid (Chg (fun q => ¬ P q) w6 wr) ∧ Hid (Duo n0 n1 n2 n3 K0 K1 (k - nb) (decide (k % 2 = 0)) x y)) (fun s50 _ => nb + 101 - (intOf s50).toNat)
  case atStart => exact ⟨0, _, _, rfl, by omega, D6, C6, J6⟩
  case round =>
    clear D6 C6 J6
    obtain ⟨k, x, y, rfl, hk, DR, CR, JR⟩ := hrel
    have BR := Lib.hid (B6.out.trans (chgP_below CR.out (fun q hq => HPB.out q (by omega)) B6.out.size))
    have HPr := Lib.hid (show ∀ q, P q → q < wr.heap.size from fun q hq => Nat.lt_of_lt_of_le (HPlt.out q hq) CR.out.size)
    by_cases hlt : k < nb + 100
    · have hlt' : (k : Int) < (nb : Int) + 100 := by omega
      by_cases hkn : k < nb
      · have hkn' : (k : Int) < (nb : Int) := by omega
        obtain ⟨bb, bo, tv, rfl, hbb, hx, hcell⟩ := bls_item (HL.out.below BR.out) hkn
        have hbl : bb < wr.heap.size := Nat.lt_of_lt_of_le hbb BR.out.size
        clear hx
        cases tv
        · go_wp2_with fail
          refine (duoP_first DR.out.swap (HS'.out.below BR.out) BR.out.size HPr.out (fun q hq => HPB.out q (by omega)) (by omega) HK1.out (by have h1 := JR.out.took.2.1; have h2 := HK0l.out; omega)).mono ?_
          rintro e7 w7 ⟨rfl, hd7, hc7⟩
          obtain ⟨hc3, J7'⟩ := (JR.out.weak false).second HNE.out
          have J7 := Lib.hid J7'
          rw [show decide (hearsC K1 y x ≠ 3) = true from decide_eq_true hc3]
          clear hc3 J7'
          have D7 := Lib.hid hd7.swap
          have C7 := Lib.hid (chgP_trans CR.out hc7)
          have OA7 := Lib.hid (chgP_own OA.out C7.out HPA.out)
          have OB7 := Lib.hid (chgP_own OB.out C7.out HPC.out)
          clear hd7 hc7 DR CR BR HPr
          clear JR
          generalize hearsS K1 y x = x7 at *
          obtain ⟨c0, hsl, ⟨E, hx⟩, At, nt, ct, c2, h0, hHt, hct, hcm⟩ := D7.out.side
          obtain ⟨c0', hsl', ⟨E', hx'⟩, At', nt', ct', c2', h0', hHt', hct', hcm'⟩ := D7.out.swap.side
          obtain ⟨h, hB, -⟩ := hx.mem
          obtain ⟨h', hB', -⟩ := hx'.mem
          have HBx := Lib.hid hB
          have HBy := Lib.hid hB'
          obtain ⟨⟨g1, g2, g3⟩, ⟨g1', g2', g3'⟩⟩ := J7.out.took
          have HDx := Lib.hid g3
          have HDy := Lib.hid g3'
          have HTx := Lib.hid h0
          have HTy := Lib.hid h0'
          clear hx hx' hB hB' g3 g3' h0 h0' hct hct' hcm hcm'
          have hcc := HCB.out
          have hcc' := HCA.out
          have hH1 := own_hds OA7.out
          have hH2 := own_hds OB7.out
          have HX1 := Lib.hid hHt
          have HX2 := Lib.hid hHt'
          have HX3 := Lib.hid hH1
          have HX4 := Lib.hid hH2
          have HG := Lib.hid g1
          have HG2 := Lib.hid g2
          have HG' := Lib.hid g1'
          have HG2' := Lib.hid g2'
          clear hHt hHt' hH1 hH2 g1 g2 g1' g2'
          go_wp2_with fail
          refine (begins_yes HX1.out HX4.out (Nat.le_refl _) (Nat.le_refl _) (by have := HTx.out; have := HG.out; have := HK1l.out; omega) hcc HG.out HG2.out).mono ?_
          rintro e8 w8 ⟨rfl, q8, rfl⟩
          go_wp2_with fail
          refine (begins_yes (w := w7.drewN q8) HX2.out HX3.out (Nat.le_refl _) (Nat.le_refl _) (by have := HTy.out; have := HG'.out; have := HK0l.out; omega) hcc' HG'.out HG2'.out).mono ?_
          rintro e9 w9 ⟨rfl, q9, rfl⟩
          rw [World.drewN_drewN]
          have D9 := Lib.hid (D7.out.drewN (q8 + q9))
          have C9 := Lib.hid (chgP_trans C7.out (⟨rfl, rfl, rfl, Nat.le_refl _, fun _ _ _ => rfl⟩ : Chg (fun q => ¬ P q) w7 (w7.drewN (q8 + q9))))
          have hdx := doneX (w := w7.drewN (q8 + q9)) (p := p) (x := x.x) HBx.out
          have hdy := doneX (w := w7.drewN (q8 + q9)) (p := p') (x := x7.x) HBy.out
          have b0 : (w7.drewN (q8 + q9)).cell? ⟨s, 0, none⟩ = some (.pointer (some ⟨p, 0, none⟩)) := c0
          have b2 : (w7.drewN (q8 + q9)).cell? ⟨s, 2, none⟩ = some (.slice At nt ct) := c2
          have b0' : (w7.drewN (q8 + q9)).cell? ⟨s', 0, none⟩ = some (.pointer (some ⟨p', 0, none⟩)) := c0'
          have b2' : (w7.drewN (q8 + q9)).cell? ⟨s', 2, none⟩ = some (.slice At' nt' ct') := c2'
          have bsl : s < (w7.drewN (q8 + q9)).heap.size := hsl
          have bsl' : s' < (w7.drewN (q8 + q9)).heap.size := hsl'
          clear c0 c2 c0' c2' hsl hsl'
          clear D7 C7 OA7 OB7 HX1 HX2 HX3 HX4 HG HG2 HG' HG2' hcc hcc' HBx HBy
          generalize w7.drewN (q8 + q9) = w9 at *
          clear w7
          have l1 : x.x.done = true → N6 ≤ nt := fun hh => by
            have h1 := HDx.out hh
            have h2 := HTx.out
            have h3 := HNB.out
            rw [h1] at h2
            omega
          have l2 : x7.x.done = true → N5 ≤ nt' := fun hh => by
            have h1 := HDy.out hh
            have h2 := HTy.out
            have h3 := HNA.out
            rw [h1] at h2
            omega
          have HL1 := Lib.hid l1
          have HL2 := Lib.hid l2
          clear l1 l2 HDx HDy HTx HTy
          have JN := Lib.hid (show Duo n0 n1 n2 n3 K0 K1 (k + 1 - nb) (decide ((k + 1) % 2 = 0)) x x7 from by
            rw [show k + 1 - nb = 0 by omega]
            exact J7.out.weak _)
          clear J7
          generalize hdn1 : x.x.done = dn1 at *
          generalize hdn2 : x7.x.done = dn2 at *
          clear hdn1 hdn2
          cases dn1
          all_goals
            cases dn2
            all_goals
              try have l1 := HL1.out rfl
              try have l1a : decide ((nt : Int) < (N6 : Int)) = false := decide_eq_false (by omega)
              try have l1b : decide (nt < N6) = false := decide_eq_false (by omega)
              try have l1c : ¬ nt < N6 := by omega
              try have l2 := HL2.out rfl
              try have l2a : decide ((nt' : Int) < (N5 : Int)) = false := decide_eq_false (by omega)
              try have l2b : decide (nt' < N5) = false := decide_eq_false (by omega)
              try have l2c : ¬ nt' < N5 := by omega
              go_wp2_with fail
              refine hdx.mono ?_
              rintro e10 w10 ⟨rfl, h10⟩
              rw [h10]
              clear h10 w10
              go_wp2_with fail
              refine hdy.mono ?_
              rintro e10 w10 ⟨rfl, h10⟩
              rw [h10]
              clear h10 w10 hdx hdy
              go_wp2
              go_roundw
              case rel => exact ⟨k + 1, x, x7, by go_num, by omega, D9, C9, JN⟩
              case measure => simp [intOf]; omega
        · go_wp2_with fail
          refine (duoP_first DR.out (HS.out.below BR.out) BR.out.size HPr.out (fun q hq => HPB.out q (by omega)) (by omega) HK0.out (by have h1 := JR.out.took.1.1; have h2 := HK1l.out; omega)).mono ?_
          rintro e7 w7 ⟨rfl, hd7, hc7⟩
          obtain ⟨hc3, J7'⟩ := (JR.out.weak true).first HNE.out
          have J7 := Lib.hid J7'
          rw [show decide (hearsC K0 x y ≠ 3) = true from decide_eq_true hc3]
          clear hc3 J7'
          have D7 := Lib.hid hd7
          have C7 := Lib.hid (chgP_trans CR.out hc7)
          have OA7 := Lib.hid (chgP_own OA.out C7.out HPA.out)
          have OB7 := Lib.hid (chgP_own OB.out C7.out HPC.out)
          clear hd7 hc7 DR CR BR HPr
          clear JR
          generalize hearsS K0 x y = x7 at *
          obtain ⟨c0, hsl, ⟨E, hx⟩, At, nt, ct, c2, h0, hHt, hct, hcm⟩ := D7.out.side
          obtain ⟨c0', hsl', ⟨E', hx'⟩, At', nt', ct', c2', h0', hHt', hct', hcm'⟩ := D7.out.swap.side
          obtain ⟨h, hB, -⟩ := hx.mem
          obtain ⟨h', hB', -⟩ := hx'.mem
          have HBx := Lib.hid hB
          have HBy := Lib.hid hB'
          obtain ⟨⟨g1, g2, g3⟩, ⟨g1', g2', g3'⟩⟩ := J7.out.took
          have HDx := Lib.hid g3
          have HDy := Lib.hid g3'
          have HTx := Lib.hid h0
          have HTy := Lib.hid h0'
          clear hx hx' hB hB' g3 g3' h0 h0' hct hct' hcm hcm'
          have hcc := HCB.out
          have hcc' := HCA.out
          have hH1 := own_hds OA7.out
          have hH2 := own_hds OB7.out
          have HX1 := Lib.hid hHt
          have HX2 := Lib.hid hHt'
          have HX3 := Lib.hid hH1
          have HX4 := Lib.hid hH2
          have HG := Lib.hid g1
          have HG2 := Lib.hid g2
          have HG' := Lib.hid g1'
          have HG2' := Lib.hid g2'
          clear hHt hHt' hH1 hH2 g1 g2 g1' g2'
          go_wp2_with fail
          refine (begins_yes HX1.out HX4.out (Nat.le_refl _) (Nat.le_refl _) (by have := HTx.out; have := HG.out; have := HK1l.out; omega) hcc HG.out HG2.out).mono ?_
          rintro e8 w8 ⟨rfl, q8, rfl⟩
          go_wp2_with fail
          refine (begins_yes (w := w7.drewN q8) HX2.out HX3.out (Nat.le_refl _) (Nat.le_refl _) (by have := HTy.out; have := HG'.out; have := HK0l.out; omega) hcc' HG'.out HG2'.out).mono ?_
          rintro e9 w9 ⟨rfl, q9, rfl⟩
          rw [World.drewN_drewN]
          have D9 := Lib.hid (D7.out.drewN (q8 + q9))
          have C9 := Lib.hid (chgP_trans C7.out (⟨rfl, rfl, rfl, Nat.le_refl _, fun _ _ _ => rfl⟩ : Chg (fun q => ¬ P q) w7 (w7.drewN (q8 + q9))))
          have hdx := doneX (w := w7.drewN (q8 + q9)) (p := p) (x := x7.x) HBx.out
          have hdy := doneX (w := w7.drewN (q8 + q9)) (p := p') (x := y.x) HBy.out
          have b0 : (w7.drewN (q8 + q9)).cell? ⟨s, 0, none⟩ = some (.pointer (some ⟨p, 0, none⟩)) := c0
          have b2 : (w7.drewN (q8 + q9)).cell? ⟨s, 2, none⟩ = some (.slice At nt ct) := c2
          have b0' : (w7.drewN (q8 + q9)).cell? ⟨s', 0, none⟩ = some (.pointer (some ⟨p', 0, none⟩)) := c0'
          have b2' : (w7.drewN (q8 + q9)).cell? ⟨s', 2, none⟩ = some (.slice At' nt' ct') := c2'
          have bsl : s < (w7.drewN (q8 + q9)).heap.size := hsl
          have bsl' : s' < (w7.drewN (q8 + q9)).heap.size := hsl'
          clear c0 c2 c0' c2' hsl hsl'
          clear D7 C7 OA7 OB7 HX1 HX2 HX3 HX4 HG HG2 HG' HG2' hcc hcc' HBx HBy
          generalize w7.drewN (q8 + q9) = w9 at *
          clear w7
          have l1 : x7.x.done = true → N6 ≤ nt := fun hh => by
            have h1 := HDx.out hh
            have h2 := HTx.out
            have h3 := HNB.out
            rw [h1] at h2
            omega
          have l2 : y.x.done = true → N5 ≤ nt' := fun hh => by
            have h1 := HDy.out hh
            have h2 := HTy.out
            have h3 := HNA.out
            rw [h1] at h2
            omega
          have HL1 := Lib.hid l1
          have HL2 := Lib.hid l2
          clear l1 l2 HDx HDy HTx HTy
          have JN := Lib.hid (show Duo n0 n1 n2 n3 K0 K1 (k + 1 - nb) (decide ((k + 1) % 2 = 0)) x7 y from by
            rw [show k + 1 - nb = 0 by omega]
            exact J7.out.weak _)
          clear J7
          generalize hdn1 : x7.x.done = dn1 at *
          generalize hdn2 : y.x.done = dn2 at *
          clear hdn1 hdn2
          cases dn1
          all_goals
            cases dn2
            all_goals
              try have l1 := HL1.out rfl
              try have l1a : decide ((nt : Int) < (N6 : Int)) = false := decide_eq_false (by omega)
              try have l1b : decide (nt < N6) = false := decide_eq_false (by omega)
              try have l1c : ¬ nt < N6 := by omega
              try have l2 := HL2.out rfl
              try have l2a : decide ((nt' : Int) < (N5 : Int)) = false := decide_eq_false (by omega)
              try have l2b : decide (nt' < N5) = false := decide_eq_false (by omega)
              try have l2c : ¬ nt' < N5 := by omega
              go_wp2_with fail
              refine hdx.mono ?_
              rintro e10 w10 ⟨rfl, h10⟩
              rw [h10]
              clear h10 w10
              go_wp2_with fail
              refine hdy.mono ?_
              rintro e10 w10 ⟨rfl, h10⟩
              rw [h10]
              clear h10 w10 hdx hdy
              go_wp2
              go_roundw
              case rel => exact ⟨k + 1, x7, y, by go_num, by omega, D9, C9, JN⟩
              case measure => simp [intOf]; omega
      · have hkn' : ¬ (k : Int) < (nb : Int) := by omega
        by_cases hpar : k % 2 = 0
        · have JT := Lib.hid (show Duo n0 n1 n2 n3 K0 K1 (k - nb) true x y by
            have := JR.out
            rwa [decide_eq_true hpar] at this)
          have d5 : ((k : Int).tmod 2 == 0) = true := by
            rw [Int.tmod_eq_emod_of_nonneg (by omega)]
            simp
            omega
          go_wp2_with fail
          refine (duoP_first DR.out (HS.out.below BR.out) BR.out.size HPr.out (fun q hq => HPB.out q (by omega)) (by omega) HK0.out (by have h1 := JR.out.took.1.1; have h2 := HK1l.out; omega)).mono ?_
          rintro e7 w7 ⟨rfl, hd7, hc7⟩
          obtain ⟨hc3, J7'⟩ := (JT.out).first HNE.out
          have J7 := Lib.hid J7'
          rw [show decide (hearsC K0 x y ≠ 3) = true from decide_eq_true hc3]
          clear hc3 J7'
          have D7 := Lib.hid hd7
          have C7 := Lib.hid (chgP_trans CR.out hc7)
          have OA7 := Lib.hid (chgP_own OA.out C7.out HPA.out)
          have OB7 := Lib.hid (chgP_own OB.out C7.out HPC.out)
          clear hd7 hc7 DR CR BR HPr
          clear JR JT d5 hpar
          generalize hearsS K0 x y = x7 at *
          obtain ⟨c0, hsl, ⟨E, hx⟩, At, nt, ct, c2, h0, hHt, hct, hcm⟩ := D7.out.side
          obtain ⟨c0', hsl', ⟨E', hx'⟩, At', nt', ct', c2', h0', hHt', hct', hcm'⟩ := D7.out.swap.side
          obtain ⟨h, hB, -⟩ := hx.mem
          obtain ⟨h', hB', -⟩ := hx'.mem
          have HBx := Lib.hid hB
          have HBy := Lib.hid hB'
          obtain ⟨⟨g1, g2, g3⟩, ⟨g1', g2', g3'⟩⟩ := J7.out.took
          have HDx := Lib.hid g3
          have HDy := Lib.hid g3'
          have HTx := Lib.hid h0
          have HTy := Lib.hid h0'
          clear hx hx' hB hB' g3 g3' h0 h0' hct hct' hcm hcm'
          have hcc := HCB.out
          have hcc' := HCA.out
          have hH1 := own_hds OA7.out
          have hH2 := own_hds OB7.out
          have HX1 := Lib.hid hHt
          have HX2 := Lib.hid hHt'
          have HX3 := Lib.hid hH1
          have HX4 := Lib.hid hH2
          have HG := Lib.hid g1
          have HG2 := Lib.hid g2
          have HG' := Lib.hid g1'
          have HG2' := Lib.hid g2'
          clear hHt hHt' hH1 hH2 g1 g2 g1' g2'
          go_wp2_with fail
          refine (begins_yes HX1.out HX4.out (Nat.le_refl _) (Nat.le_refl _) (by have := HTx.out; have := HG.out; have := HK1l.out; omega) hcc HG.out HG2.out).mono ?_
          rintro e8 w8 ⟨rfl, q8, rfl⟩
          go_wp2_with fail
          refine (begins_yes (w := w7.drewN q8) HX2.out HX3.out (Nat.le_refl _) (Nat.le_refl _) (by have := HTy.out; have := HG'.out; have := HK0l.out; omega) hcc' HG'.out HG2'.out).mono ?_
          rintro e9 w9 ⟨rfl, q9, rfl⟩
          rw [World.drewN_drewN]
          have D9 := Lib.hid (D7.out.drewN (q8 + q9))
          have C9 := Lib.hid (chgP_trans C7.out (⟨rfl, rfl, rfl, Nat.le_refl _, fun _ _ _ => rfl⟩ : Chg (fun q => ¬ P q) w7 (w7.drewN (q8 + q9))))
          have hdx := doneX (w := w7.drewN (q8 + q9)) (p := p) (x := x7.x) HBx.out
          have hdy := doneX (w := w7.drewN (q8 + q9)) (p := p') (x := y.x) HBy.out
          have b0 : (w7.drewN (q8 + q9)).cell? ⟨s, 0, none⟩ = some (.pointer (some ⟨p, 0, none⟩)) := c0
          have b2 : (w7.drewN (q8 + q9)).cell? ⟨s, 2, none⟩ = some (.slice At nt ct) := c2
          have b0' : (w7.drewN (q8 + q9)).cell? ⟨s', 0, none⟩ = some (.pointer (some ⟨p', 0, none⟩)) := c0'
          have b2' : (w7.drewN (q8 + q9)).cell? ⟨s', 2, none⟩ = some (.slice At' nt' ct') := c2'
          have bsl : s < (w7.drewN (q8 + q9)).heap.size := hsl
          have bsl' : s' < (w7.drewN (q8 + q9)).heap.size := hsl'
          clear c0 c2 c0' c2' hsl hsl'
          clear D7 C7 OA7 OB7 HX1 HX2 HX3 HX4 HG HG2 HG' HG2' hcc hcc' HBx HBy
          generalize w7.drewN (q8 + q9) = w9 at *
          clear w7
          have l1 : x7.x.done = true → N6 ≤ nt := fun hh => by
            have h1 := HDx.out hh
            have h2 := HTx.out
            have h3 := HNB.out
            rw [h1] at h2
            omega
          have l2 : y.x.done = true → N5 ≤ nt' := fun hh => by
            have h1 := HDy.out hh
            have h2 := HTy.out
            have h3 := HNA.out
            rw [h1] at h2
            omega
          have HL1 := Lib.hid l1
          have HL2 := Lib.hid l2
          clear l1 l2 HDx HDy HTx HTy
          have JN := Lib.hid (show Duo n0 n1 n2 n3 K0 K1 (k + 1 - nb) (decide ((k + 1) % 2 = 0)) x7 y from by
            have := J7.out
            rwa [show k - nb + 1 = k + 1 - nb by omega, show false = decide ((k + 1) % 2 = 0) by first | (symm; rw [decide_eq_true_iff]; omega) | (symm; rw [decide_eq_false_iff_not]; omega)] at this)
          clear J7
          generalize hdn1 : x7.x.done = dn1 at *
          generalize hdn2 : y.x.done = dn2 at *
          clear hdn1 hdn2
          cases dn1
          all_goals
            cases dn2
            all_goals
              try have l1 := HL1.out rfl
              try have l1a : decide ((nt : Int) < (N6 : Int)) = false := decide_eq_false (by omega)
              try have l1b : decide (nt < N6) = false := decide_eq_false (by omega)
              try have l1c : ¬ nt < N6 := by omega
              try have l2 := HL2.out rfl
              try have l2a : decide ((nt' : Int) < (N5 : Int)) = false := decide_eq_false (by omega)
              try have l2b : decide (nt' < N5) = false := decide_eq_false (by omega)
              try have l2c : ¬ nt' < N5 := by omega
              go_wp2_with fail
              refine hdx.mono ?_
              rintro e10 w10 ⟨rfl, h10⟩
              rw [h10]
              clear h10 w10
              go_wp2_with fail
              refine hdy.mono ?_
              rintro e10 w10 ⟨rfl, h10⟩
              rw [h10]
              clear h10 w10 hdx hdy
              go_wp2
              go_roundw
              case rel => exact ⟨k + 1, x7, y, by go_num, by omega, D9, C9, JN⟩
              case measure => simp [intOf]; omega
        · have JT := Lib.hid (show Duo n0 n1 n2 n3 K0 K1 (k - nb) false x y by
            have := JR.out
            rwa [decide_eq_false hpar] at this)
          have d5 : ((k : Int).tmod 2 == 0) = false := by
            rw [Int.tmod_eq_emod_of_nonneg (by omega)]
            simp
            omega
          go_wp2_with fail
          refine (duoP_first DR.out.swap (HS'.out.below BR.out) BR.out.size HPr.out (fun q hq => HPB.out q (by omega)) (by omega) HK1.out (by have h1 := JR.out.took.2.1; have h2 := HK0l.out; omega)).mono ?_
          rintro e7 w7 ⟨rfl, hd7, hc7⟩
          obtain ⟨hc3, J7'⟩ := (JT.out).second HNE.out
          have J7 := Lib.hid J7'
          rw [show decide (hearsC K1 y x ≠ 3) = true from decide_eq_true hc3]
          clear hc3 J7'
          have D7 := Lib.hid hd7.swap
          have C7 := Lib.hid (chgP_trans CR.out hc7)
          have OA7 := Lib.hid (chgP_own OA.out C7.out HPA.out)
          have OB7 := Lib.hid (chgP_own OB.out C7.out HPC.out)
          clear hd7 hc7 DR CR BR HPr
          clear JR JT d5 hpar
          generalize hearsS K1 y x = x7 at *
          obtain ⟨c0, hsl, ⟨E, hx⟩, At, nt, ct, c2, h0, hHt, hct, hcm⟩ := D7.out.side
          obtain ⟨c0', hsl', ⟨E', hx'⟩, At', nt', ct', c2', h0', hHt', hct', hcm'⟩ := D7.out.swap.side
          obtain ⟨h, hB, -⟩ := hx.mem
          obtain ⟨h', hB', -⟩ := hx'.mem
          have HBx := Lib.hid hB
          have HBy := Lib.hid hB'
          obtain ⟨⟨g1, g2, g3⟩, ⟨g1', g2', g3'⟩⟩ := J7.out.took
          have HDx := Lib.hid g3
          have HDy := Lib.hid g3'
          have HTx := Lib.hid h0
          have HTy := Lib.hid h0'
          clear hx hx' hB hB' g3 g3' h0 h0' hct hct' hcm hcm'
          have hcc := HCB.out
          have hcc' := HCA.out
          have hH1 := own_hds OA7.out
          have hH2 := own_hds OB7.out
          have HX1 := Lib.hid hHt
          have HX2 := Lib.hid hHt'
          have HX3 := Lib.hid hH1
          have HX4 := Lib.hid hH2
          have HG := Lib.hid g1
          have HG2 := Lib.hid g2
          have HG' := Lib.hid g1'
          have HG2' := Lib.hid g2'
          clear hHt hHt' hH1 hH2 g1 g2 g1' g2'
          go_wp2_with fail
          refine (begins_yes HX1.out HX4.out (Nat.le_refl _) (Nat.le_refl _) (by have := HTx.out; have := HG.out; have := HK1l.out; omega) hcc HG.out HG2.out).mono ?_
          rintro e8 w8 ⟨rfl, q8, rfl⟩
          go_wp2_with fail
          refine (begins_yes (w := w7.drewN q8) HX2.out HX3.out (Nat.le_refl _) (Nat.le_refl _) (by have := HTy.out; have := HG'.out; have := HK0l.out; omega) hcc' HG'.out HG2'.out).mono ?_
          rintro e9 w9 ⟨rfl, q9, rfl⟩
          rw [World.drewN_drewN]
          have D9 := Lib.hid (D7.out.drewN (q8 + q9))
          have C9 := Lib.hid (chgP_trans C7.out (⟨rfl, rfl, rfl, Nat.le_refl _, fun _ _ _ => rfl⟩ : Chg (fun q => ¬ P q) w7 (w7.drewN (q8 + q9))))
          have hdx := doneX (w := w7.drewN (q8 + q9)) (p := p) (x := x.x) HBx.out
          have hdy := doneX (w := w7.drewN (q8 + q9)) (p := p') (x := x7.x) HBy.out
          have b0 : (w7.drewN (q8 + q9)).cell? ⟨s, 0, none⟩ = some (.pointer (some ⟨p, 0, none⟩)) := c0
          have b2 : (w7.drewN (q8 + q9)).cell? ⟨s, 2, none⟩ = some (.slice At nt ct) := c2
          have b0' : (w7.drewN (q8 + q9)).cell? ⟨s', 0, none⟩ = some (.pointer (some ⟨p', 0, none⟩)) := c0'
          have b2' : (w7.drewN (q8 + q9)).cell? ⟨s', 2, none⟩ = some (.slice At' nt' ct') := c2'
          have bsl : s < (w7.drewN (q8 + q9)).heap.size := hsl
          have bsl' : s' < (w7.drewN (q8 + q9)).heap.size := hsl'
          clear c0 c2 c0' c2' hsl hsl'
          clear D7 C7 OA7 OB7 HX1 HX2 HX3 HX4 HG HG2 HG' HG2' hcc hcc' HBx HBy
          generalize w7.drewN (q8 + q9) = w9 at *
          clear w7
          have l1 : x.x.done = true → N6 ≤ nt := fun hh => by
            have h1 := HDx.out hh
            have h2 := HTx.out
            have h3 := HNB.out
            rw [h1] at h2
            omega
          have l2 : x7.x.done = true → N5 ≤ nt' := fun hh => by
            have h1 := HDy.out hh
            have h2 := HTy.out
            have h3 := HNA.out
            rw [h1] at h2
            omega
          have HL1 := Lib.hid l1
          have HL2 := Lib.hid l2
          clear l1 l2 HDx HDy HTx HTy
          have JN := Lib.hid (show Duo n0 n1 n2 n3 K0 K1 (k + 1 - nb) (decide ((k + 1) % 2 = 0)) x x7 from by
            have := J7.out
            rwa [show k - nb + 1 = k + 1 - nb by omega, show true = decide ((k + 1) % 2 = 0) by first | (symm; rw [decide_eq_true_iff]; omega) | (symm; rw [decide_eq_false_iff_not]; omega)] at this)
          clear J7
          generalize hdn1 : x.x.done = dn1 at *
          generalize hdn2 : x7.x.done = dn2 at *
          clear hdn1 hdn2
          cases dn1
          all_goals
            cases dn2
            all_goals
              try have l1 := HL1.out rfl
              try have l1a : decide ((nt : Int) < (N6 : Int)) = false := decide_eq_false (by omega)
              try have l1b : decide (nt < N6) = false := decide_eq_false (by omega)
              try have l1c : ¬ nt < N6 := by omega
              try have l2 := HL2.out rfl
              try have l2a : decide ((nt' : Int) < (N5 : Int)) = false := decide_eq_false (by omega)
              try have l2b : decide (nt' < N5) = false := decide_eq_false (by omega)
              try have l2c : ¬ nt' < N5 := by omega
              go_wp2_with fail
              refine hdx.mono ?_
              rintro e10 w10 ⟨rfl, h10⟩
              rw [h10]
              clear h10 w10
              go_wp2_with fail
              refine hdy.mono ?_
              rintro e10 w10 ⟨rfl, h10⟩
              rw [h10]
              clear h10 w10 hdx hdy
              go_wp2
              go_roundw
              case rel => exact ⟨k + 1, x, x7, by go_num, by omega, D9, C9, JN⟩
              case measure => simp [intOf]; omega
    · have hlt' : ¬ (k : Int) < (nb : Int) + 100 := by omega
      have hk2 : 43 ≤ k - nb := by omega
      obtain ⟨e1, e2, e3, e4, -, -, -⟩ := JR.out.ends hk2 HK0l.out HK1l.out
      obtain ⟨c0, hsl, ⟨E, hx⟩, -⟩ := DR.out.side
      obtain ⟨c0', hsl', ⟨E', hx'⟩, -⟩ := DR.out.swap.side
      obtain ⟨h, hB, -⟩ := hx.mem
      obtain ⟨h', hB', -⟩ := hx'.mem
      have NR := N6b.out.chg CR.out (fun e => e (HPB.out _ (by omega)))
      obtain ⟨k0, k1, k2, k3⟩ := NR.four
      have hkl := NR.lt
      have dx : ∀ q, Calls Try.prog 35 #[.pointer (some ⟨p, 0, none⟩)] (wr.drewN q) fun e w'' => e = .returned (.bool true) ∧ ∃ m, w'' = wr.drewN m := fun q => by
        have := Calls.quiet_of_same (doneX (w := wr.drewN q) (x := x.x) hB)
        rwa [e1] at this
      have dy : ∀ q, Calls Try.prog 35 #[.pointer (some ⟨p', 0, none⟩)] (wr.drewN q) fun e w'' => e = .returned (.bool true) ∧ ∃ m, w'' = wr.drewN m := fun q => by
        have := Calls.quiet_of_same (doneX (w := wr.drewN q) (x := y.x) hB')
        rwa [e2] at this
      by_cases hv : n1 < n0
      · rw [decide_eq_true hv] at e3 e4
        have lx : ∀ q, Calls Try.prog 36 #[.pointer (some ⟨p, 0, none⟩)] (wr.drewN q) fun e w'' => e = .returned (.bool true) ∧ ∃ m, w'' = wr.drewN m := fun q => by
          have := Calls.quiet_of_same (leadsX (w := wr.drewN q) (x := x.x) hB)
          rwa [e3] at this
        have ly : ∀ q, Calls Try.prog 36 #[.pointer (some ⟨p', 0, none⟩)] (wr.drewN q) fun e w'' => e = .returned (.bool false) ∧ ∃ m, w'' = wr.drewN m := fun q => by
          have := Calls.quiet_of_same (leadsX (w := wr.drewN q) (x := y.x) hB')
          rwa [e4] at this
        have d7 : decide (n1 < n0) = true := decide_eq_true hv
        clear e1 e2 e3 e4 hx hx' hB hB' NR hv
        go_wp2_with fail
        go_quiet (first | (go_at_call 35; first | with_reducible exact dx _ | with_reducible exact dy _) | (go_at_call 36; first | with_reducible exact lx _ | with_reducible exact ly _))
        go_wp2
        go_ret
        exact ⟨rfl, belowD BR.out⟩
      · rw [decide_eq_false hv] at e3 e4
        have lx : ∀ q, Calls Try.prog 36 #[.pointer (some ⟨p, 0, none⟩)] (wr.drewN q) fun e w'' => e = .returned (.bool false) ∧ ∃ m, w'' = wr.drewN m := fun q => by
          have := Calls.quiet_of_same (leadsX (w := wr.drewN q) (x := x.x) hB)
          rwa [e3] at this
        have ly : ∀ q, Calls Try.prog 36 #[.pointer (some ⟨p', 0, none⟩)] (wr.drewN q) fun e w'' => e = .returned (.bool true) ∧ ∃ m, w'' = wr.drewN m := fun q => by
          have := Calls.quiet_of_same (leadsX (w := wr.drewN q) (x := y.x) hB')
          rwa [e4] at this
        have d7 : decide (n1 < n0) = false := decide_eq_false hv
        clear e1 e2 e3 e4 hx hx' hB hB' NR hv
        go_wp2_with fail
        go_quiet (first | (go_at_call 35; first | with_reducible exact dx _ | with_reducible exact dy _) | (go_at_call 36; first | with_reducible exact lx _ | with_reducible exact ly _))
        go_wp2
        go_ret
        exact ⟨rfl, belowD BR.out⟩
end Go.Proofs.Ytfdfdmbnggpnbaa
namespace Go.Proofs.Ytfdfdmbnggpnbaa
open Go.RowKit Go.Lib Go.Sort Go.Deep

theorem drewN_growB (w : World) (os : Array Obj) (n : Nat) : (grow w os).drewN n = grow (w.drewN n) os := rfl
set_option maxRecDepth 8000 in
set_option maxHeartbeats 4000000 in
theorem same14_yes {w : World} {A A' : Option Addr} {n c n' c' B B' : Nat} {L L' : List Hd} (a b : Pc) (hL : Hds w B A n L) (hL' : Hds w B' A' n' L') (hB : B ≤ w.heap.size) (hB' : B' ≤ w.heap.size) (hn : n ≤ 1000) (hn' : n' ≤ 1000) (e : a = b) (e' : L = L') :
    Calls Try.prog 38 #[.agg #[.bool a.init, .bool a.more, .bool a.master, .int .i64 a.seq, .slice A n c], .agg #[.bool b.init, .bool b.more, .bool b.master, .int .i64 b.seq, .slice A' n' c']] w fun e w' => e = .returned (.bool true) ∧ ∃ q os', w' = grow (w.drewN q) os' := by
  have eq0 : (w.alloc (.cells #[.bool a.init, .bool a.more, .bool a.master, .int .i64 a.seq, .slice A n c] 53)).alloc (.cells #[.bool b.init, .bool b.more, .bool b.master, .int .i64 b.seq, .slice A' n' c'] 53) = grow (w.drewN 0) #[.cells #[.bool a.init, .bool a.more, .bool a.master, .int .i64 a.seq, .slice A n c] 53, .cells #[.bool b.init, .bool b.more, .bool b.master, .int .i64 b.seq, .slice A' n' c'] 53] := by
    rw [alloc_eq_grow, alloc_eq_grow, grow_grow]
    rfl
  have HG := Lib.hid (show ∃ q os', (w.alloc (.cells #[.bool a.init, .bool a.more, .bool a.master, .int .i64 a.seq, .slice A n c] 53)).alloc (.cells #[.bool b.init, .bool b.more, .bool b.master, .int .i64 b.seq, .slice A' n' c'] 53) = grow (w.drewN q) os' from ⟨0, _, eq0⟩)
  have B2 := Lib.hid (show Below w.heap.size w ((w.alloc (.cells #[.bool a.init, .bool a.more, .bool a.master, .int .i64 a.seq, .slice A n c] 53)).alloc (.cells #[.bool b.init, .bool b.more, .bool b.master, .int .i64 b.seq, .slice A' n' c'] 53)) from ((Below.refl w.heap.size w).alloc (Nat.le_refl _) _).alloc (by simp) _)
  have N2 := Lib.hid ((Blk.new w 53 #[.bool a.init, .bool a.more, .bool a.master, .int .i64 a.seq, .slice A n c]).alloc (.cells #[.bool b.init, .bool b.more, .bool b.master, .int .i64 b.seq, .slice A' n' c'] 53))
  have M2 := Lib.hid (show Blk ((w.alloc (.cells #[.bool a.init, .bool a.more, .bool a.master, .int .i64 a.seq, .slice A n c] 53)).alloc (.cells #[.bool b.init, .bool b.more, .bool b.master, .int .i64 b.seq, .slice A' n' c'] 53)) (w.heap.size + 1) 53 #[.bool b.init, .bool b.more, .bool b.master, .int .i64 b.seq, .slice A' n' c'] by
    have := Blk.new (w.alloc (.cells #[.bool a.init, .bool a.more, .bool a.master, .int .i64 a.seq, .slice A n c] 53)) 53 #[.bool b.init, .bool b.more, .bool b.master, .int .i64 b.seq, .slice A' n' c']
    simpa using this)
  have HL := Lib.hid hL
  have HL' := Lib.hid hL'
  have HE := Lib.hid e'
  have HA := Lib.hid (decide_eq_true e)
  clear hL hL' eq0 e e'
  go_enter Try.func38, Try.ntmps38
  go_wp2_with fail
  refine (alike_any a b A A' n c n' c' _).mono ?_
  rintro e1 w1 ⟨rfl, hg1⟩
  rw [HA.out]
  have b1 := below_grown13 hg1
  have N1 := Lib.hid (N2.out.below b1 N2.out.lt)
  have M1 := Lib.hid (M2.out.below b1 M2.out.lt)
  have B1 := Lib.hid (B2.out.trans (b1.mono B2.out.size))
  have HG1 := Lib.hid (show ∃ q os', w1 = grow (w.drewN q) os' by
    obtain ⟨q, os, h1⟩ := HG.out
    obtain ⟨q', os', h2⟩ := hg1
    rw [h1] at h2
    exact ⟨q + q', os ++ os', by rw [h2, drewN_growB, grow_grow, World.drewN_drewN]⟩)
  clear hg1 b1 N2 M2 B2 HG
  obtain ⟨n0, n1, n2, n3, n4⟩ := N1.out.five
  obtain ⟨m0, m1, m2, m3, m4⟩ := M1.out.five
  have hnl := N1.out.lt
  have hml := M1.out.lt
  have hz := B1.out.size
  go_wp2_with fail
  refine (same13_yes (HL.out.below (B1.out.mono hB)) (HL'.out.below (B1.out.mono hB')) (Nat.le_trans hB hz) (Nat.le_trans hB' hz) hn hn' HE.out).mono ?_
  rintro e2 w2 ⟨rfl, q, rfl⟩
  go_wp2
  go_ret
  obtain ⟨q1, os1, h1⟩ := HG1.out
  exact ⟨rfl, q1 + q, os1, by rw [h1, drewN_growB, World.drewN_drewN]⟩
end Go.Proofs.Ytfdfdmbnggpnbaa
namespace Go.Proofs.Ytfdfdmbnggpnbaa
open Go.RowKit Go.Lib Go.Sort Go.Deep

theorem dds_itemE {w : World} {B n k : Nat} {A : Option Addr} {L : List (Pc × Nat)} (h : Dds w B A n L) (hk : k < n) : ∃ (b o : Nat) (d : Pc × Nat) (Ah : Option Addr) (ch : Nat), A = some ⟨b, o, none⟩ ∧ b < B ∧ w.rangeAt b (o + k * 5) [.bool d.1.init, .bool d.1.more, .bool d.1.master, .int .i64 d.1.seq, .slice Ah d.2 ch] ∧ -9223372036854775808 ≤ d.1.seq ∧ d.1.seq ≤ 9223372036854775807 := by
  obtain ⟨b, o, d, rfl, hb, hx, Ah, ch, hr, h1, h2, -⟩ := Arr.at h hk
  exact ⟨b, o, d, Ah, ch, rfl, hb, hr, h1, h2⟩
theorem wpList_append_atE {w : World} {ops : Array Oper} {rest : List Oper} {o : Oper} {a : Act} {Q : Exit → Act → World → Prop} (hgd : o.guard = none) (s x : Operand) (t e : TypeId) (z : Value) (size bytes : Nat)
    (ht : Try.prog.underlying t = some (.slice e)) (hinfo : (Try.prog.info? e).map (fun i => (i.zero, i.size, i.bytes)) = some (some z, size, bytes)) (hzs : z.cells.size = size) (hsz : 0 < size) (hby : bytes ≤ 1024)
    (ho : o.op = .call { callee := .builtin .append, args := #[s, x], argTypes := #[t, t] }) (base : Nat) (v : Value) (n : Nat) (xs : List Value) (hs : a.eval s = v) (hown : w.ownsRow base e size v n xs)
    (A : Option Addr) (m c : Nat) (news : List Value) (hx : a.eval x = .slice A m c) (hl : news.length = m * size) (hA : A = none → m = 0)
    (hnews : ∀ ad, A = some ad → ∀ j u, news[j]? = some u → w.cell? (ad.add j) = some u) (h1 : ∀ u ∈ news, u.oneCell' = true) (hz : n + m ≤ 1048576) (hbase : base ≤ w.heap.size)
    (h : ∀ v' w', Hid (w'.ownsRow base e size v' (n + m) (xs ++ news)) → Hid (w.grownBy w' v.ownBlock) → Hid (v'.ownBlock = v.ownBlock ∨ v'.ownBlock = some w.heap.size) → wpList Try.prog ops Q rest (a.put o.dst v') w') : wpList Try.prog ops Q (o :: rest) a w := by
  refine wpList_plain hgd fun K hK => ?_
  obtain ⟨v', w', hrun, h2, h3, h4⟩ := run_append_at w t e o.type z size bytes ht hinfo hzs hsz hby base v n xs hown A m c news hl hA hnews h1 hz hbase
  unfold Oper.wp execOp
  simp only [ho, resolve, invoke, builtin, Sem.run_bind, Sem.run_pure, Result.andThen_ok, List.map_toArray, List.map_cons, List.map_nil, hs, hx, hrun]
  exact hK _ _ (h v' w' h2 h3 h4)
theorem dd_onesE (i m s : Bool) (q : Int) (A : Option Addr) (n c : Nat) : ∀ u ∈ [Value.bool i, .bool m, .bool s, .int .i64 q, .slice A n c], u.oneCell' = true := by
  intro u hu
  simp at hu
  rcases hu with rfl | rfl | rfl | rfl | rfl <;> rfl
theorem own_ltE {w : World} {base n size q : Nat} {t : TypeId} {v : Value} {xs : List Value} (h : w.ownsRow base t size v n xs) (hq : v.ownBlock = some q) : q < w.heap.size := by
  rcases h.2 with ⟨hv, _⟩ | ⟨g, cap, cur, hv, hb, hg, -⟩
  · subst hv
    cases hq
  · subst hv
    have h2 : some g = some q := hq
    injection h2 with h2
    rw [← h2]
    exact (Array.getElem?_eq_some_iff.1 hg).1
abbrev D4 := Pc × Option Addr × Nat × Nat
def encD (d : D4) : List Value := [.bool d.1.init, .bool d.1.more, .bool d.1.master, .int .i64 d.1.seq, .slice d.2.1 d.2.2.1 d.2.2.2]
theorem encD_len (d : D4) : (encD d).length = 5 := rfl
theorem encD_ones (d : D4) : ∀ u ∈ encD d, u.oneCell' = true   := dd_onesE _ _ _ _ _ _ _
theorem infoDd : (Try.prog.info? 53).map (fun i => (i.zero, i.size, i.bytes)) = some (some (.agg #[.bool false, .bool false, .bool false, .int .i64 0, .slice none 0 0]), 5, 40) := by kernel_rfl
theorem dds_cells {w : World} {B n : Nat} {A : Option Addr} {L : List (Pc × Nat)} (h : Dds w B A n L) : ∃ M : List D4, M.length = n ∧ (A = none → n = 0) ∧ (∀ ad, A = some ad → ∀ j u, (cellsBy encD M)[j]? = some u → w.cell? (ad.add j) = some u) ∧ ∀ d ∈ M, -9223372036854775808 ≤ d.1.seq ∧ d.1.seq ≤ 9223372036854775807 := by
  have hc : ∀ i, ∃ d : D4, i < n → (∀ b o, A = some ⟨b, o, none⟩ → w.rangeAt b (o + i * 5) (encD d)) ∧ -9223372036854775808 ≤ d.1.seq ∧ d.1.seq ≤ 9223372036854775807 := fun i => by
    by_cases hi : i < n
    · obtain ⟨b, o, d, Ah, ch, e, hb, hr, h1, h2⟩ := dds_itemE h hi
      refine ⟨(d.1, Ah, d.2, ch), fun _ => ⟨fun b' o' e' => ?_, h1, h2⟩⟩
      rw [e] at e'
      injection e' with e'
      injection e' with e1 e2 e3
      subst e1 e2
      exact hr
    · exact ⟨(pc0, none, 0, 0), fun h => absurd h hi⟩
  refine ⟨(List.range n).map fun i => Classical.choose (hc i), by simp, fun e => ?_, fun ad e j u hu => ?_, fun d hd => ?_⟩
  · rcases Nat.eq_zero_or_pos n with h0 | h0
    · exact h0
    · obtain ⟨_, _, e2, _⟩ := h.2 h0
      rw [e] at e2
      cases e2
  · have hj : j < n * 5 := by
      rcases Nat.lt_or_ge j (n * 5) with hj | hj
      · exact hj
      · rw [List.getElem?_eq_none (by rw [by_length encD_len]; simpa using hj)] at hu
        cases hu
    obtain ⟨b, o, e2, -, -⟩ := h.2 (by omega)
    rw [e] at e2
    injection e2 with e2
    subst e2
    have hx : ((List.range n).map fun i => Classical.choose (hc i))[j / 5]? = some (Classical.choose (hc (j / 5))) := by
      rw [List.getElem?_map, List.getElem?_range (by omega)]
      rfl
    have hb := by_at encD_len _ _ _ hx (j % 5) (by omega)
    rw [show j / 5 * 5 + j % 5 = j by omega, hu] at hb
    have hr := (Classical.choose_spec (hc (j / 5)) (by omega)).1 b o e
    rw [addr_add, show o + j = o + j / 5 * 5 + j % 5 by omega]
    exact hr (j % 5) u hb.symm
  · obtain ⟨i, hi, rfl⟩ := List.mem_map.1 hd
    exact (Classical.choose_spec (hc i) (List.mem_range.1 hi)).2
/-- One piece of a row of the call's own. -/
theorem own_dd {w : World} {n c k : Nat} {A : Option Addr} {M : List D4} (h : w.ownsRow 0 53 5 (.slice A n c) n (cellsBy encD M)) (hk : k < n) : ∃ (g : Nat) (d : D4), A = some ⟨g, 0, none⟩ ∧ g < w.heap.size ∧ M[k]? = some d ∧ w.rangeAt g (k * 5) [.bool d.1.init, .bool d.1.more, .bool d.1.master, .int .i64 d.1.seq, .slice d.2.1 d.2.2.1 d.2.2.2] := by
  have hl := own_lenH encD_len (by omega) h
  obtain ⟨d, hd⟩ : ∃ d, M[k]? = some d := ⟨_, List.getElem?_eq_getElem (by omega)⟩
  obtain ⟨g, e, -, hg, -, -, hc⟩ := own_item encD_len (by omega) h hd
  refine ⟨g, d, e, hg, hd, fun j v hv => ?_⟩
  have hj : j < 5 := (List.getElem?_eq_some_iff.1 hv).1
  exact (hc j hj).trans hv
section
variable {w w' : World} {P : Nat → Prop} {B s p s' p' : Nat} {A A' : Option Addr} {n c n' c' : Nat} {a b : Sd} {S : List La} {K : List Hd}
/-- What the blocks of the two are. -/
theorem DuoP.blocks (h : DuoP w P s p s' p' A n c A' n' c' a b) : ∃ N : Nat → Prop, (∀ q, N q → ¬ P q ∧ q < w.heap.size) ∧ ∀ M : Nat, DuoP w (fun q => q < M ∧ ¬ N q) s p s' p' A n c A' n' c' a b := by
  obtain ⟨F, G, h1, h2, h3, h4⟩ := h
  refine ⟨fun q => F q ∨ G q, fun q hq => ?_, fun M => ⟨F, G, h1, h2, fun q hq => ⟨fun e => e.2 (.inl hq), (h3 q hq).2⟩, fun q hq => ⟨fun e => e.2 (.inr hq), (h4 q hq).2⟩⟩⟩
  rcases hq with hq | hq
  · exact ⟨(h3 q hq).1, h1.bound q hq⟩
  · exact ⟨(h4 q hq).1, h2.bound q hq⟩
theorem duoP_hear (pc : Pc) {Ah : Option Addr} {nh ch : Nat} {Al : Option Addr} {nl cl : Nat} (h : DuoP w P s p s' p' A n c A' n' c' a b) (h0 : -9223372036854775808 ≤ pc.seq) (h1 : pc.seq ≤ 9223372036854775807) (hS : Las w B Al nl S) (hBw : B ≤ w.heap.size) (hP : ∀ q, P q → q < w.heap.size) (hPB : ∀ q, q < B → P q) (hn : nl ≤ 100) (hK : Told S K) :
    Calls Try.prog 30 #[.pointer (some ⟨p, 0, none⟩), .agg #[.bool pc.init, .bool pc.more, .bool pc.master, .int .i64 pc.seq, .slice Ah nh ch], .slice Al nl cl] w fun e w' => e = .returned (.int .i64 (hearE a.x pc nh K).1) ∧ DuoP w' P s p s' p' A n c A' n' c' ⟨(hearE a.x pc nh K).2, a.took⟩ b ∧ Chg (fun q => ¬ P q) w w' := by
  obtain ⟨F, G, hA, hB, h3, h4⟩ := h
  obtain ⟨E, At, nt, ct, hb, ho, hx, hE, hg⟩ := hA.mem
  refine (hearX pc h0 h1 hx (fun q hq => hA.bound q (hE q hq).1) hS hBw (fun q hq => ?_) hn hK).mono ?_
  · rcases Nat.lt_or_ge q B with hb | hb
    · exact absurd (hPB q hb) (h3 q (hE q hq).1).1
    · exact hb
  rintro e w1 ⟨rfl, hx1, hc1⟩
  have hs := hc1.size
  refine ⟨rfl, ⟨Fp F w w1, G, ⟨.inl hA.fs, fun q hq => ?_, Fp E w w1, At, nt, ct, hb.chg hc1 (fun he => (hE s he).2 rfl), own_move ho (fun g e => hc1.block g (hA.bound g (hg g e).1) (hg g e).2.2), hx1, fun q hq => ?_, fun g e => ?_⟩, hB.chg hc1 (fun q hq e => (h4 q hq).2 (hE q e).1), fun q hq => ?_, fun q hq => ⟨(h4 q hq).1, fun e => ?_⟩⟩, hc1.wide (fun q hq => (h3 q (hE q hq).1).1)⟩
  · rcases hq with hq | hq
    · exact Nat.lt_of_lt_of_le (hA.bound q hq) hs
    · exact hq.2
  · rcases hq with hq | hq
    · exact ⟨.inl (hE q hq).1, (hE q hq).2⟩
    · exact ⟨.inr hq, by have := hb.lt; omega⟩
  · obtain ⟨g1, g2, g3⟩ := hg g e
    refine ⟨.inl g1, g2, fun e2 => ?_⟩
    rcases e2 with e2 | e2
    · exact g3 e2
    · have := hA.bound g g1
      omega
  · rcases hq with hq | hq
    · exact h3 q hq
    · exact ⟨fun e => by have := hP q e; omega, fun e => by have := hB.bound q e; omega⟩
  · rcases e with e | e
    · exact (h4 q hq).2 e
    · have := hB.bound q hq
      omega
end
end Go.Proofs.Ytfdfdmbnggpnbaa
