/- The walk of the statement ExchAnyOrder. Conditions: what the words say. -/
import Derived.Test.YtjinleakjkbbgaaBs
import Derived.Test.YtjinleakjkbbgaaBt
namespace Go.Proofs.Ytjinleakjkbbgaa
open Go.RowKit Go.Lib Go.Sort Go.Deep

theorem belowD1 {B : Nat} {w w' : World} (h : Below B w w') : Below B w w'.drew := ⟨h.os, h.tape, h.output, h.size, h.block⟩
theorem own_lt {w : World} {base n size q : Nat} {t : TypeId} {v : Value} {xs : List Value} (h : w.ownsRow base t size v n xs) (hq : v.ownBlock = some q) : q < w.heap.size := by
  rcases h.2 with ⟨hv, _⟩ | ⟨g, cap, cur, hv, hb, hg, -⟩
  · subst hv
    cases hq
  · subst hv
    have h2 : some g = some q := hq
    injection h2 with h2
    rw [← h2]
    exact (Array.getElem?_eq_some_iff.1 hg).1
set_option maxRecDepth 20000 in
set_option maxHeartbeats 16000000 in
theorem any_walk (n0 n1 n2 n3 : Int) {w : World} {A A' : Option Addr} {n c n' c' : Nat} {S S' : List La} {Ab : Option Addr} {nb cb : Nat} {Lb : List Bool} (hS : Las w w.heap.size A n S) (hn : n ≤ maxLen) (hS' : Las w w.heap.size A' n' S') (hn' : n' ≤ maxLen) (hL : Bls w w.heap.size Ab nb Lb) (hnb : nb ≤ maxLen) :
    Calls Try.prog 4 #[.agg #[.int .i64 n0, .int .i64 n1, .int .i64 n2, .int .i64 n3], .agg #[.slice A n c, .slice A' n' c'], .slice Ab nb cb] w fun e w' => e = .returned (.bool true) ∧ Below w.heap.size w w' := by
  have HS := Lib.hid hS
  have HS' := Lib.hid hS'
  have HL := Lib.hid hL
  have HN := Lib.hid hn
  have HN' := Lib.hid hn'
  have B0 := Lib.hid (((Below.refl w.heap.size w).alloc (Nat.le_refl _) (.cells #[.int .i64 n0, .int .i64 n1, .int .i64 n2, .int .i64 n3] 38)).alloc (by simp) (.cells #[.slice A n c, .slice A' n' c'] 39))
  have N0 := Lib.hid ((Blk.new w 38 #[.int .i64 n0, .int .i64 n1, .int .i64 n2, .int .i64 n3]).alloc (.cells #[.slice A n c, .slice A' n' c'] 39))
  have M0 := Lib.hid (show Blk ((w.alloc (.cells #[.int .i64 n0, .int .i64 n1, .int .i64 n2, .int .i64 n3] 38)).alloc (.cells #[.slice A n c, .slice A' n' c'] 39)) (w.heap.size + 1) 39 #[.slice A n c, .slice A' n' c'] by
    have := Blk.new (w.alloc (.cells #[.int .i64 n0, .int .i64 n1, .int .i64 n2, .int .i64 n3] 38)) 39 #[.slice A n c, .slice A' n' c']
    simpa using this)
  unfold maxLen at hnb
  clear hS hS' hL hn hn'
  go_enter Try.func4, Try.ntmps4
  go_wp2_with fail
  refine (wakes14 _).mono ?_
  rintro e1 w1 ⟨rfl, hb1⟩
  have B1 := Lib.hid (B0.out.trans (hb1.mono B0.out.size))
  have N1 := Lib.hid (N0.out.below hb1 N0.out.lt)
  have M1 := Lib.hid (M0.out.below hb1 M0.out.lt)
  clear hb1 B0 N0 M0
  have m0 : w1.cell? ⟨w.heap.size + 1, 0, none⟩ = some (.slice A n c) := M1.out.cell 0
  have m1 : w1.cell? ⟨w.heap.size + 1, 1, none⟩ = some (.slice A' n' c') := M1.out.cell 1
  have hml := M1.out.lt
  go_wp2_with fail
  refine (many14 A n c S w.heap.size w1 (HS.out.below B1.out) B1.out.size HN.out).mono ?_
  rintro e2 w2 ⟨⟨t, rfl, ht⟩, hb2⟩
  have B2 := Lib.hid (B1.out.trans (hb2.mono B1.out.size))
  have N2 := Lib.hid (N1.out.below hb2 N1.out.lt)
  have M2 := Lib.hid (M1.out.below hb2 M1.out.lt)
  clear hb2 B1 N1 M1 m0 m1 hml
  cases t
  case true =>
    go_wp2
    go_ret
    exact ⟨rfl, B2.out⟩
  obtain ⟨hn60, -⟩ := ht rfl
  clear ht HN
  have m1 : w2.cell? ⟨w.heap.size + 1, 1, none⟩ = some (.slice A' n' c') := M2.out.cell 1
  have hml := M2.out.lt
  go_wp2_with fail
  refine (many14 A' n' c' S' w.heap.size w2 (HS'.out.below B2.out) B2.out.size HN'.out).mono ?_
  rintro e3 w3 ⟨⟨t, rfl, ht⟩, hb3⟩
  have B3 := Lib.hid (B2.out.trans (hb3.mono B2.out.size))
  have N3 := Lib.hid (N2.out.below hb3 N2.out.lt)
  have M3 := Lib.hid (M2.out.below hb3 M2.out.lt)
  clear hb3 B2 N2 M2 m1 hml
  cases t
  case true =>
    go_wp2
    go_ret
    exact ⟨rfl, B3.out⟩
  obtain ⟨hn60', -⟩ := ht rfl
  clear ht HN'
  by_cases hnb2 : 200 < nb
  · have d1 : decide (200 < (nb : Int)) = true := by simp; omega
    go_wp2
    go_ret
    exact ⟨rfl, B3.out⟩
  have d1 : decide (200 < (nb : Int)) = false := by simp; omega
  obtain ⟨k0, k1, k2, k3⟩ := N3.out.four
  have hkl := N3.out.lt
  have m0 : w3.cell? ⟨w.heap.size + 1, 0, none⟩ = some (.slice A n c) := M3.out.cell 0
  have m1 : w3.cell? ⟨w.heap.size + 1, 1, none⟩ = some (.slice A' n' c') := M3.out.cell 1
  have hml := M3.out.lt
  by_cases hne : n0 = n1
  · have d2 : (n0 == n1) = true := by simpa using hne
    clear hne
    go_wp2
    go_ret
    exact ⟨rfl, B3.out⟩
  have d2 : (n0 == n1) = false := by simpa using hne
  have HNE := Lib.hid hne
  clear hne
  go_wp2_with fail
  refine (two_any n0 n1 n2 n3 A n c A' n' c' _).mono ?_
  rintro e4 w4 h4
  obtain ⟨s, p, s', p', N, rfl, hd4, hN4, hb4⟩ := duoP_new h4
  have D4 := Lib.hid hd4
  have B4 := Lib.hid (B3.out.trans (hb4.mono B3.out.size))
  have N4 := Lib.hid (N3.out.below hb4 N3.out.lt)
  have M4 := Lib.hid (M3.out.below hb4 M3.out.lt)
  have HNZ := Lib.hid (show ∀ q, N q → w.heap.size + 1 < q ∧ q < w4.heap.size from fun q hq => by
    have h1 := hN4 q hq
    have h2 := M3.out.lt
    exact ⟨by omega, h1.2⟩)
  clear h4 hd4 hb4 hN4 k0 k1 k2 k3 hkl m0 m1 hml N3 B3 M3
  have LS4 := Lib.hid (show Las w4.drew w.heap.size A n S from HS.out.below (belowD1 B4.out))
  have m0 : w4.cell? ⟨w.heap.size + 1, 0, none⟩ = some (.slice A n c) := M4.out.cell 0
  have m1 : w4.cell? ⟨w.heap.size + 1, 1, none⟩ = some (.slice A' n' c') := M4.out.cell 1
  have hml := M4.out.lt
  have BR : Below w4.heap.size w4 w4.drew := ⟨rfl, rfl, rfl, Nat.le_refl _, fun _ _ => rfl⟩
  have hzw : w.heap.size ≤ w4.drew.heap.size := B4.out.size
  go_wp2_with fail
  go_region_held3 (fun w' => Below w4.heap.size w4 w' ∧ (∀ b o, b < w4.heap.size → w'.cell? ⟨b, o, none⟩ = w4.cell? ⟨b, o, none⟩)) ((refine keepS ?_; first | with_reducible exact BR | with_reducible exact BR5 | with_reducible exact BR6)) (first | (go_at_call 16; first | (have hsecond := BR5; refine (heads_any (HS'.out.below (B4.out.trans (BR5.mono B4.out.size))) (Nat.le_trans B4.out.size BR5.size) (by omega)).mono ?_; rintro e6 w6 ⟨A6, N6, c6, K1, rfl, hb6, hO6, hOrd6, hStab6⟩; have BR6 := BR5.trans (show Below w4.heap.size w5 w6 from Below.mono hb6 BR5.size)) | (refine (heads_any LS4.out hzw (by omega)).mono ?_; rintro e5 w5 ⟨A5, N5, c5, K0, rfl, hb5, hO5, hOrd5, hStab5⟩; have BR5 := BR.trans (show Below w4.heap.size w4.drew w5 from hb5))))
  rename_i hHd
  clear hHd
  have HK0 := Lib.hid (show Told S K0 from ⟨hOrd5, hStab5⟩)
  have HK1 := Lib.hid (show Told S' K1 from ⟨hOrd6, hStab6⟩)
  have HK0l := Lib.hid (show K0.length ≤ 60 by have := told_len HK0.out; have := HS.out.1; omega)
  have HK1l := Lib.hid (show K1.length ≤ 60 by have := told_len HK1.out; have := HS'.out.1; omega)
  have hO56 := own_chg hO5 (Chg.of_below (F := fun _ => False) hb6) (fun _ _ hf => hf)
  have OA := Lib.hid (own_base hO56 (Nat.zero_le _))
  have OB := Lib.hid (own_base hO6 (Nat.zero_le _))
  have HNA := Lib.hid (own_lenH encHd_len (by omega) hO5)
  have HNB := Lib.hid (own_lenH encHd_len (by omega) hO6)
  have HCA := Lib.hid (show N5 ≤ c5 by
    rcases hO5.2 with ⟨hv, hz⟩ | ⟨g, cap, cur, hv, hb, hg, h1, h2, h3, h4⟩
    · omega
    · cases hv
      exact h1)
  have HCB := Lib.hid (show N6 ≤ c6 by
    rcases hO6.2 with ⟨hv, hz⟩ | ⟨g, cap, cur, hv, hb, hg, h1, h2, h3, h4⟩
    · omega
    · cases hv
      exact h1)
  obtain ⟨P, hP⟩ : ∃ P : Nat → Prop, (fun q => q < w6.heap.size ∧ ¬ N q) = P := ⟨_, rfl⟩
  have HPlt := Lib.hid (show ∀ q, P q → q < w6.heap.size from fun q hq => by
    rw [← hP] at hq
    exact hq.1)
  have hs46 := BR6.size
  have HPB := Lib.hid (show ∀ q, q < w.heap.size + 2 → P q from fun q hq => by
    rw [← hP]
    exact ⟨by have := hml; omega, fun e => by have := (HNZ.out q e).1; omega⟩)
  have HPA := Lib.hid (show ∀ g, (Value.slice A5 N5 c5).ownBlock = some g → P g ∧ g < w6.heap.size from fun g hg => by
    have h1 : w4.heap.size ≤ g := own_base_le hO5 hg
    have h2 := own_lt hO56 hg
    rw [← hP]
    exact ⟨⟨h2, fun e => by have := (HNZ.out g e).2; omega⟩, h2⟩)
  have HPC := Lib.hid (show ∀ g, (Value.slice A6 N6 c6).ownBlock = some g → P g ∧ g < w6.heap.size from fun g hg => by
    have h1 := own_base_le hO6 hg
    have h2 := own_lt hO6 hg
    have h3 := BR5.size
    rw [← hP]
    exact ⟨⟨h2, fun e => by have := (HNZ.out g e).2; omega⟩, h2⟩)
  have D6 := Lib.hid (show DuoP w6 P s p s' p' A n c A' n' c' ⟨newE n0 n1 n2, []⟩ ⟨newE n1 n0 n3, []⟩ by
    rw [← hP]
    exact (D4.out w6.heap.size).below BR6)
  have B6 := Lib.hid (B4.out.trans (BR6.mono B4.out.size))
  have N6b := Lib.hid (N4.out.below BR6 N4.out.lt)
  clear hP hsecond BR BR5 BR6 hb5 hb6 hO5 hO6 hO56 hOrd5 hOrd6 hStab5 hStab6 m0 m1 hml hzw LS4 D4 B4 N4 M4 HNZ hs46
  clear w4 w5
  have J6 := Lib.hid (show Duo n0 n1 n2 n3 K0 K1 (0 - nb) (decide (0 % 2 = 0)) ⟨newE n0 n1 n2, []⟩ ⟨newE n1 n0 n3, []⟩ by
    rw [Nat.zero_sub]
    exact Duo.start)
  have C6 := Lib.hid (Chg.refl (fun q => ¬ P q) w6)
  go_wp2_with fail
  go_loopw [50] (fun s50 wr => ∃ (k : Nat) (x y : Sd), s50 = .int .i64 k ∧ k ≤ nb + 100 ∧ Hid (DuoP wr P s p s' p' A n c A' n' c' x y) ∧ Hid (Chg (fun q => ¬ P q) w6 wr) ∧ Hid (Duo n0 n1 n2 n3 K0 K1 (k - nb) (decide (k % 2 = 0)) x y)) (fun s50 _ => nb + 101 - (intOf s50).toNat)
  case atStart => exact ⟨0, _, _, rfl, by omega, D6, C6, J6⟩
  case round =>
    clear D6 C6 J6
    obtain ⟨k, x, y, rfl, hk, DR, CR, JR⟩ := hrel
    have BR := Lib.hid (B6.out.trans (chgP_below CR.out (fun q hq => HPB.out q (by omega)) B6.out.size))
    have HPr := Lib.hid (show ∀ q, P q → q < wr.heap.size from fun q hq => Nat.lt_of_lt_of_le (HPlt.out q hq) CR.out.size)
    by_cases hlt : k < nb + 100
    · have hlt' : (k : Int) < (nb : Int) + 100 := by omega
      by_cases hkn : k < nb
      · have hkn' : (k : Int) < (nb : Int) := by omega
        obtain ⟨bb, bo, tv, rfl, hbb, hx, hcell⟩ := bls_item (HL.out.below BR.out) hkn
        have hbl : bb < wr.heap.size := Nat.lt_of_lt_of_le hbb BR.out.size
        clear hx
        cases tv
        · go_wp2_with fail
          refine (duoP_first DR.out.swap (HS'.out.below BR.out) BR.out.size HPr.out (fun q hq => HPB.out q (by omega)) (by omega) HK1.out (by have h1 := JR.out.took.2.1; have h2 := HK0l.out; omega)).mono ?_
          rintro e7 w7 ⟨rfl, hd7, hc7⟩
          obtain ⟨hc3, J7'⟩ := (JR.out.weak false).second HNE.out
          have J7 := Lib.hid J7'
          rw [show decide (hearsC K1 y x ≠ 3) = true from decide_eq_true hc3]
          clear hc3 J7'
          have D7 := Lib.hid hd7.swap
          have C7 := Lib.hid (chgP_trans CR.out hc7)
          have OA7 := Lib.hid (chgP_own OA.out C7.out HPA.out)
          have OB7 := Lib.hid (chgP_own OB.out C7.out HPC.out)
          clear hd7 hc7 DR CR BR HPr
          clear JR
          generalize hearsS K1 y x = x7 at *
          obtain ⟨c0, hsl, ⟨E, hx⟩, At, nt, ct, c2, h0, hHt, hct, hcm⟩ := D7.out.side
          obtain ⟨c0', hsl', ⟨E', hx'⟩, At', nt', ct', c2', h0', hHt', hct', hcm'⟩ := D7.out.swap.side
          obtain ⟨h, hB, -⟩ := hx.mem
          obtain ⟨h', hB', -⟩ := hx'.mem
          have HBx := Lib.hid hB
          have HBy := Lib.hid hB'
          obtain ⟨⟨g1, g2, g3⟩, ⟨g1', g2', g3'⟩⟩ := J7.out.took
          have HDx := Lib.hid g3
          have HDy := Lib.hid g3'
          have HTx := Lib.hid h0
          have HTy := Lib.hid h0'
          clear hx hx' hB hB' g3 g3' h0 h0' hct hct' hcm hcm'
          have hcc := HCB.out
          have hcc' := HCA.out
          have hH1 := own_hds OA7.out
          have hH2 := own_hds OB7.out
          have HX1 := Lib.hid hHt
          have HX2 := Lib.hid hHt'
          have HX3 := Lib.hid hH1
          have HX4 := Lib.hid hH2
          have HG := Lib.hid g1
          have HG2 := Lib.hid g2
          have HG' := Lib.hid g1'
          have HG2' := Lib.hid g2'
          clear hHt hHt' hH1 hH2 g1 g2 g1' g2'
          go_wp2_with fail
          refine (begins_yes HX1.out HX4.out (Nat.le_refl _) (Nat.le_refl _) (by have := HTx.out; have := HG.out; have := HK1l.out; omega) hcc HG.out HG2.out).mono ?_
          rintro e8 w8 ⟨rfl, q8, rfl⟩
          go_wp2_with fail
          refine (begins_yes (w := w7.drewN q8) HX2.out HX3.out (Nat.le_refl _) (Nat.le_refl _) (by have := HTy.out; have := HG'.out; have := HK0l.out; omega) hcc' HG'.out HG2'.out).mono ?_
          rintro e9 w9 ⟨rfl, q9, rfl⟩
          rw [World.drewN_drewN]
          have D9 := Lib.hid (D7.out.drewN (q8 + q9))
          have C9 := Lib.hid (chgP_trans C7.out (⟨rfl, rfl, rfl, Nat.le_refl _, fun _ _ _ => rfl⟩ : Chg (fun q => ¬ P q) w7 (w7.drewN (q8 + q9))))
          have hdx := doneX (w := w7.drewN (q8 + q9)) (p := p) (x := x.x) HBx.out
          have hdy := doneX (w := w7.drewN (q8 + q9)) (p := p') (x := x7.x) HBy.out
          have b0 : (w7.drewN (q8 + q9)).cell? ⟨s, 0, none⟩ = some (.pointer (some ⟨p, 0, none⟩)) := c0
          have b2 : (w7.drewN (q8 + q9)).cell? ⟨s, 2, none⟩ = some (.slice At nt ct) := c2
          have b0' : (w7.drewN (q8 + q9)).cell? ⟨s', 0, none⟩ = some (.pointer (some ⟨p', 0, none⟩)) := c0'
          have b2' : (w7.drewN (q8 + q9)).cell? ⟨s', 2, none⟩ = some (.slice At' nt' ct') := c2'
          have bsl : s < (w7.drewN (q8 + q9)).heap.size := hsl
          have bsl' : s' < (w7.drewN (q8 + q9)).heap.size := hsl'
          clear c0 c2 c0' c2' hsl hsl'
          clear D7 C7 OA7 OB7 HX1 HX2 HX3 HX4 HG HG2 HG' HG2' hcc hcc' HBx HBy
          generalize w7.drewN (q8 + q9) = w9 at *
          clear w7
          have l1 : x.x.done = true → N6 ≤ nt := fun hh => by
            have h1 := HDx.out hh
            have h2 := HTx.out
            have h3 := HNB.out
            rw [h1] at h2
            omega
          have l2 : x7.x.done = true → N5 ≤ nt' := fun hh => by
            have h1 := HDy.out hh
            have h2 := HTy.out
            have h3 := HNA.out
            rw [h1] at h2
            omega
          have HL1 := Lib.hid l1
          have HL2 := Lib.hid l2
          clear l1 l2 HDx HDy HTx HTy
          have JN := Lib.hid (show Duo n0 n1 n2 n3 K0 K1 (k + 1 - nb) (decide ((k + 1) % 2 = 0)) x x7 from by
            rw [show k + 1 - nb = 0 by omega]
            exact J7.out.weak _)
          clear J7
          generalize hdn1 : x.x.done = dn1 at *
          generalize hdn2 : x7.x.done = dn2 at *
          clear hdn1 hdn2
          cases dn1
          all_goals
            cases dn2
            all_goals
              try have l1 := HL1.out rfl
              try have l1a : decide ((nt : Int) < (N6 : Int)) = false := decide_eq_false (by omega)
              try have l1b : decide (nt < N6) = false := decide_eq_false (by omega)
              try have l1c : ¬ nt < N6 := by omega
              try have l2 := HL2.out rfl
              try have l2a : decide ((nt' : Int) < (N5 : Int)) = false := decide_eq_false (by omega)
              try have l2b : decide (nt' < N5) = false := decide_eq_false (by omega)
              try have l2c : ¬ nt' < N5 := by omega
              go_wp2_with fail
              refine hdx.mono ?_
              rintro e10 w10 ⟨rfl, h10⟩
              rw [h10]
              clear h10 w10
              go_wp2_with fail
              refine hdy.mono ?_
              rintro e10 w10 ⟨rfl, h10⟩
              rw [h10]
              clear h10 w10 hdx hdy
              go_wp2
              go_roundw
              case rel => exact ⟨k + 1, x, x7, by go_num, by omega, D9, C9, JN⟩
              case measure => simp [intOf]; omega
        · go_wp2_with fail
          refine (duoP_first DR.out (HS.out.below BR.out) BR.out.size HPr.out (fun q hq => HPB.out q (by omega)) (by omega) HK0.out (by have h1 := JR.out.took.1.1; have h2 := HK1l.out; omega)).mono ?_
          rintro e7 w7 ⟨rfl, hd7, hc7⟩
          obtain ⟨hc3, J7'⟩ := (JR.out.weak true).first HNE.out
          have J7 := Lib.hid J7'
          rw [show decide (hearsC K0 x y ≠ 3) = true from decide_eq_true hc3]
          clear hc3 J7'
          have D7 := Lib.hid hd7
          have C7 := Lib.hid (chgP_trans CR.out hc7)
          have OA7 := Lib.hid (chgP_own OA.out C7.out HPA.out)
          have OB7 := Lib.hid (chgP_own OB.out C7.out HPC.out)
          clear hd7 hc7 DR CR BR HPr
          clear JR
          generalize hearsS K0 x y = x7 at *
          obtain ⟨c0, hsl, ⟨E, hx⟩, At, nt, ct, c2, h0, hHt, hct, hcm⟩ := D7.out.side
          obtain ⟨c0', hsl', ⟨E', hx'⟩, At', nt', ct', c2', h0', hHt', hct', hcm'⟩ := D7.out.swap.side
          obtain ⟨h, hB, -⟩ := hx.mem
          obtain ⟨h', hB', -⟩ := hx'.mem
          have HBx := Lib.hid hB
          have HBy := Lib.hid hB'
          obtain ⟨⟨g1, g2, g3⟩, ⟨g1', g2', g3'⟩⟩ := J7.out.took
          have HDx := Lib.hid g3
          have HDy := Lib.hid g3'
          have HTx := Lib.hid h0
          have HTy := Lib.hid h0'
          clear hx hx' hB hB' g3 g3' h0 h0' hct hct' hcm hcm'
          have hcc := HCB.out
          have hcc' := HCA.out
          have hH1 := own_hds OA7.out
          have hH2 := own_hds OB7.out
          have HX1 := Lib.hid hHt
          have HX2 := Lib.hid hHt'
          have HX3 := Lib.hid hH1
          have HX4 := Lib.hid hH2
          have HG := Lib.hid g1
          have HG2 := Lib.hid g2
          have HG' := Lib.hid g1'
          have HG2' := Lib.hid g2'
          clear hHt hHt' hH1 hH2 g1 g2 g1' g2'
          go_wp2_with fail
          refine (begins_yes HX1.out HX4.out (Nat.le_refl _) (Nat.le_refl _) (by have := HTx.out; have := HG.out; have := HK1l.out; omega) hcc HG.out HG2.out).mono ?_
          rintro e8 w8 ⟨rfl, q8, rfl⟩
          go_wp2_with fail
          refine (begins_yes (w := w7.drewN q8) HX2.out HX3.out (Nat.le_refl _) (Nat.le_refl _) (by have := HTy.out; have := HG'.out; have := HK0l.out; omega) hcc' HG'.out HG2'.out).mono ?_
          rintro e9 w9 ⟨rfl, q9, rfl⟩
          rw [World.drewN_drewN]
          have D9 := Lib.hid (D7.out.drewN (q8 + q9))
          have C9 := Lib.hid (chgP_trans C7.out (⟨rfl, rfl, rfl, Nat.le_refl _, fun _ _ _ => rfl⟩ : Chg (fun q => ¬ P q) w7 (w7.drewN (q8 + q9))))
          have hdx := doneX (w := w7.drewN (q8 + q9)) (p := p) (x := x7.x) HBx.out
          have hdy := doneX (w := w7.drewN (q8 + q9)) (p := p') (x := y.x) HBy.out
          have b0 : (w7.drewN (q8 + q9)).cell? ⟨s, 0, none⟩ = some (.pointer (some ⟨p, 0, none⟩)) := c0
          have b2 : (w7.drewN (q8 + q9)).cell? ⟨s, 2, none⟩ = some (.slice At nt ct) := c2
          have b0' : (w7.drewN (q8 + q9)).cell? ⟨s', 0, none⟩ = some (.pointer (some ⟨p', 0, none⟩)) := c0'
          have b2' : (w7.drewN (q8 + q9)).cell? ⟨s', 2, none⟩ = some (.slice At' nt' ct') := c2'
          have bsl : s < (w7.drewN (q8 + q9)).heap.size := hsl
          have bsl' : s' < (w7.drewN (q8 + q9)).heap.size := hsl'
          clear c0 c2 c0' c2' hsl hsl'
          clear D7 C7 OA7 OB7 HX1 HX2 HX3 HX4 HG HG2 HG' HG2' hcc hcc' HBx HBy
          generalize w7.drewN (q8 + q9) = w9 at *
          clear w7
          have l1 : x7.x.done = true → N6 ≤ nt := fun hh => by
            have h1 := HDx.out hh
            have h2 := HTx.out
            have h3 := HNB.out
            rw [h1] at h2
            omega
          have l2 : y.x.done = true → N5 ≤ nt' := fun hh => by
            have h1 := HDy.out hh
            have h2 := HTy.out
            have h3 := HNA.out
            rw [h1] at h2
            omega
          have HL1 := Lib.hid l1
          have HL2 := Lib.hid l2
          clear l1 l2 HDx HDy HTx HTy
          have JN := Lib.hid (show Duo n0 n1 n2 n3 K0 K1 (k + 1 - nb) (decide ((k + 1) % 2 = 0)) x7 y from by
            rw [show k + 1 - nb = 0 by omega]
            exact J7.out.weak _)
          clear J7
          generalize hdn1 : x7.x.done = dn1 at *
          generalize hdn2 : y.x.done = dn2 at *
          clear hdn1 hdn2
          cases dn1
          all_goals
            cases dn2
            all_goals
              try have l1 := HL1.out rfl
              try have l1a : decide ((nt : Int) < (N6 : Int)) = false := decide_eq_false (by omega)
              try have l1b : decide (nt < N6) = false := decide_eq_false (by omega)
              try have l1c : ¬ nt < N6 := by omega
              try have l2 := HL2.out rfl
              try have l2a : decide ((nt' : Int) < (N5 : Int)) = false := decide_eq_false (by omega)
              try have l2b : decide (nt' < N5) = false := decide_eq_false (by omega)
              try have l2c : ¬ nt' < N5 := by omega
              go_wp2_with fail
              refine hdx.mono ?_
              rintro e10 w10 ⟨rfl, h10⟩
              rw [h10]
              clear h10 w10
              go_wp2_with fail
              refine hdy.mono ?_
              rintro e10 w10 ⟨rfl, h10⟩
              rw [h10]
              clear h10 w10 hdx hdy
              go_wp2
              go_roundw
              case rel => exact ⟨k + 1, x7, y, by go_num, by omega, D9, C9, JN⟩
              case measure => simp [intOf]; omega
      · have hkn' : ¬ (k : Int) < (nb : Int) := by omega
        by_cases hpar : k % 2 = 0
        · have JT := Lib.hid (show Duo n0 n1 n2 n3 K0 K1 (k - nb) true x y by
            have := JR.out
            rwa [decide_eq_true hpar] at this)
          have d5 : ((k : Int).tmod 2 == 0) = true := by
            rw [Int.tmod_eq_emod_of_nonneg (by omega)]
            simp
            omega
          go_wp2_with fail
          refine (duoP_first DR.out (HS.out.below BR.out) BR.out.size HPr.out (fun q hq => HPB.out q (by omega)) (by omega) HK0.out (by have h1 := JR.out.took.1.1; have h2 := HK1l.out; omega)).mono ?_
          rintro e7 w7 ⟨rfl, hd7, hc7⟩
          obtain ⟨hc3, J7'⟩ := (JT.out).first HNE.out
          have J7 := Lib.hid J7'
          rw [show decide (hearsC K0 x y ≠ 3) = true from decide_eq_true hc3]
          clear hc3 J7'
          have D7 := Lib.hid hd7
          have C7 := Lib.hid (chgP_trans CR.out hc7)
          have OA7 := Lib.hid (chgP_own OA.out C7.out HPA.out)
          have OB7 := Lib.hid (chgP_own OB.out C7.out HPC.out)
          clear hd7 hc7 DR CR BR HPr
          clear JR JT d5 hpar
          generalize hearsS K0 x y = x7 at *
          obtain ⟨c0, hsl, ⟨E, hx⟩, At, nt, ct, c2, h0, hHt, hct, hcm⟩ := D7.out.side
          obtain ⟨c0', hsl', ⟨E', hx'⟩, At', nt', ct', c2', h0', hHt', hct', hcm'⟩ := D7.out.swap.side
          obtain ⟨h, hB, -⟩ := hx.mem
          obtain ⟨h', hB', -⟩ := hx'.mem
          have HBx := Lib.hid hB
          have HBy := Lib.hid hB'
          obtain ⟨⟨g1, g2, g3⟩, ⟨g1', g2', g3'⟩⟩ := J7.out.took
          have HDx := Lib.hid g3
          have HDy := Lib.hid g3'
          have HTx := Lib.hid h0
          have HTy := Lib.hid h0'
          clear hx hx' hB hB' g3 g3' h0 h0' hct hct' hcm hcm'
          have hcc := HCB.out
          have hcc' := HCA.out
          have hH1 := own_hds OA7.out
          have hH2 := own_hds OB7.out
          have HX1 := Lib.hid hHt
          have HX2 := Lib.hid hHt'
          have HX3 := Lib.hid hH1
          have HX4 := Lib.hid hH2
          have HG := Lib.hid g1
          have HG2 := Lib.hid g2
          have HG' := Lib.hid g1'
          have HG2' := Lib.hid g2'
          clear hHt hHt' hH1 hH2 g1 g2 g1' g2'
          go_wp2_with fail
          refine (begins_yes HX1.out HX4.out (Nat.le_refl _) (Nat.le_refl _) (by have := HTx.out; have := HG.out; have := HK1l.out; omega) hcc HG.out HG2.out).mono ?_
          rintro e8 w8 ⟨rfl, q8, rfl⟩
          go_wp2_with fail
          refine (begins_yes (w := w7.drewN q8) HX2.out HX3.out (Nat.le_refl _) (Nat.le_refl _) (by have := HTy.out; have := HG'.out; have := HK0l.out; omega) hcc' HG'.out HG2'.out).mono ?_
          rintro e9 w9 ⟨rfl, q9, rfl⟩
          rw [World.drewN_drewN]
          have D9 := Lib.hid (D7.out.drewN (q8 + q9))
          have C9 := Lib.hid (chgP_trans C7.out (⟨rfl, rfl, rfl, Nat.le_refl _, fun _ _ _ => rfl⟩ : Chg (fun q => ¬ P q) w7 (w7.drewN (q8 + q9))))
          have hdx := doneX (w := w7.drewN (q8 + q9)) (p := p) (x := x7.x) HBx.out
          have hdy := doneX (w := w7.drewN (q8 + q9)) (p := p') (x := y.x) HBy.out
          have b0 : (w7.drewN (q8 + q9)).cell? ⟨s, 0, none⟩ = some (.pointer (some ⟨p, 0, none⟩)) := c0
          have b2 : (w7.drewN (q8 + q9)).cell? ⟨s, 2, none⟩ = some (.slice At nt ct) := c2
          have b0' : (w7.drewN (q8 + q9)).cell? ⟨s', 0, none⟩ = some (.pointer (some ⟨p', 0, none⟩)) := c0'
          have b2' : (w7.drewN (q8 + q9)).cell? ⟨s', 2, none⟩ = some (.slice At' nt' ct') := c2'
          have bsl : s < (w7.drewN (q8 + q9)).heap.size := hsl
          have bsl' : s' < (w7.drewN (q8 + q9)).heap.size := hsl'
          clear c0 c2 c0' c2' hsl hsl'
          clear D7 C7 OA7 OB7 HX1 HX2 HX3 HX4 HG HG2 HG' HG2' hcc hcc' HBx HBy
          generalize w7.drewN (q8 + q9) = w9 at *
          clear w7
          have l1 : x7.x.done = true → N6 ≤ nt := fun hh => by
            have h1 := HDx.out hh
            have h2 := HTx.out
            have h3 := HNB.out
            rw [h1] at h2
            omega
          have l2 : y.x.done = true → N5 ≤ nt' := fun hh => by
            have h1 := HDy.out hh
            have h2 := HTy.out
            have h3 := HNA.out
            rw [h1] at h2
            omega
          have HL1 := Lib.hid l1
          have HL2 := Lib.hid l2
          clear l1 l2 HDx HDy HTx HTy
          have JN := Lib.hid (show Duo n0 n1 n2 n3 K0 K1 (k + 1 - nb) (decide ((k + 1) % 2 = 0)) x7 y from by
            have := J7.out
            rwa [show k - nb + 1 = k + 1 - nb by omega, show false = decide ((k + 1) % 2 = 0) by first | (symm; rw [decide_eq_true_iff]; omega) | (symm; rw [decide_eq_false_iff_not]; omega)] at this)
          clear J7
          generalize hdn1 : x7.x.done = dn1 at *
          generalize hdn2 : y.x.done = dn2 at *
          clear hdn1 hdn2
          cases dn1
          all_goals
            cases dn2
            all_goals
              try have l1 := HL1.out rfl
              try have l1a : decide ((nt : Int) < (N6 : Int)) = false := decide_eq_false (by omega)
              try have l1b : decide (nt < N6) = false := decide_eq_false (by omega)
              try have l1c : ¬ nt < N6 := by omega
              try have l2 := HL2.out rfl
              try have l2a : decide ((nt' : Int) < (N5 : Int)) = false := decide_eq_false (by omega)
              try have l2b : decide (nt' < N5) = false := decide_eq_false (by omega)
              try have l2c : ¬ nt' < N5 := by omega
              go_wp2_with fail
              refine hdx.mono ?_
              rintro e10 w10 ⟨rfl, h10⟩
              rw [h10]
              clear h10 w10
              go_wp2_with fail
              refine hdy.mono ?_
              rintro e10 w10 ⟨rfl, h10⟩
              rw [h10]
              clear h10 w10 hdx hdy
              go_wp2
              go_roundw
              case rel => exact ⟨k + 1, x7, y, by go_num, by omega, D9, C9, JN⟩
              case measure => simp [intOf]; omega
        · have JT := Lib.hid (show Duo n0 n1 n2 n3 K0 K1 (k - nb) false x y by
            have := JR.out
            rwa [decide_eq_false hpar] at this)
          have d5 : ((k : Int).tmod 2 == 0) = false := by
            rw [Int.tmod_eq_emod_of_nonneg (by omega)]
            simp
            omega
          go_wp2_with fail
          refine (duoP_first DR.out.swap (HS'.out.below BR.out) BR.out.size HPr.out (fun q hq => HPB.out q (by omega)) (by omega) HK1.out (by have h1 := JR.out.took.2.1; have h2 := HK0l.out; omega)).mono ?_
          rintro e7 w7 ⟨rfl, hd7, hc7⟩
          obtain ⟨hc3, J7'⟩ := (JT.out).second HNE.out
          have J7 := Lib.hid J7'
          rw [show decide (hearsC K1 y x ≠ 3) = true from decide_eq_true hc3]
          clear hc3 J7'
          have D7 := Lib.hid hd7.swap
          have C7 := Lib.hid (chgP_trans CR.out hc7)
          have OA7 := Lib.hid (chgP_own OA.out C7.out HPA.out)
          have OB7 := Lib.hid (chgP_own OB.out C7.out HPC.out)
          clear hd7 hc7 DR CR BR HPr
          clear JR JT d5 hpar
          generalize hearsS K1 y x = x7 at *
          obtain ⟨c0, hsl, ⟨E, hx⟩, At, nt, ct, c2, h0, hHt, hct, hcm⟩ := D7.out.side
          obtain ⟨c0', hsl', ⟨E', hx'⟩, At', nt', ct', c2', h0', hHt', hct', hcm'⟩ := D7.out.swap.side
          obtain ⟨h, hB, -⟩ := hx.mem
          obtain ⟨h', hB', -⟩ := hx'.mem
          have HBx := Lib.hid hB
          have HBy := Lib.hid hB'
          obtain ⟨⟨g1, g2, g3⟩, ⟨g1', g2', g3'⟩⟩ := J7.out.took
          have HDx := Lib.hid g3
          have HDy := Lib.hid g3'
          have HTx := Lib.hid h0
          have HTy := Lib.hid h0'
          clear hx hx' hB hB' g3 g3' h0 h0' hct hct' hcm hcm'
          have hcc := HCB.out
          have hcc' := HCA.out
          have hH1 := own_hds OA7.out
          have hH2 := own_hds OB7.out
          have HX1 := Lib.hid hHt
          have HX2 := Lib.hid hHt'
          have HX3 := Lib.hid hH1
          have HX4 := Lib.hid hH2
          have HG := Lib.hid g1
          have HG2 := Lib.hid g2
          have HG' := Lib.hid g1'
          have HG2' := Lib.hid g2'
          clear hHt hHt' hH1 hH2 g1 g2 g1' g2'
          go_wp2_with fail
          refine (begins_yes HX1.out HX4.out (Nat.le_refl _) (Nat.le_refl _) (by have := HTx.out; have := HG.out; have := HK1l.out; omega) hcc HG.out HG2.out).mono ?_
          rintro e8 w8 ⟨rfl, q8, rfl⟩
          go_wp2_with fail
          refine (begins_yes (w := w7.drewN q8) HX2.out HX3.out (Nat.le_refl _) (Nat.le_refl _) (by have := HTy.out; have := HG'.out; have := HK0l.out; omega) hcc' HG'.out HG2'.out).mono ?_
          rintro e9 w9 ⟨rfl, q9, rfl⟩
          rw [World.drewN_drewN]
          have D9 := Lib.hid (D7.out.drewN (q8 + q9))
          have C9 := Lib.hid (chgP_trans C7.out (⟨rfl, rfl, rfl, Nat.le_refl _, fun _ _ _ => rfl⟩ : Chg (fun q => ¬ P q) w7 (w7.drewN (q8 + q9))))
          have hdx := doneX (w := w7.drewN (q8 + q9)) (p := p) (x := x.x) HBx.out
          have hdy := doneX (w := w7.drewN (q8 + q9)) (p := p') (x := x7.x) HBy.out
          have b0 : (w7.drewN (q8 + q9)).cell? ⟨s, 0, none⟩ = some (.pointer (some ⟨p, 0, none⟩)) := c0
          have b2 : (w7.drewN (q8 + q9)).cell? ⟨s, 2, none⟩ = some (.slice At nt ct) := c2
          have b0' : (w7.drewN (q8 + q9)).cell? ⟨s', 0, none⟩ = some (.pointer (some ⟨p', 0, none⟩)) := c0'
          have b2' : (w7.drewN (q8 + q9)).cell? ⟨s', 2, none⟩ = some (.slice At' nt' ct') := c2'
          have bsl : s < (w7.drewN (q8 + q9)).heap.size := hsl
          have bsl' : s' < (w7.drewN (q8 + q9)).heap.size := hsl'
          clear c0 c2 c0' c2' hsl hsl'
          clear D7 C7 OA7 OB7 HX1 HX2 HX3 HX4 HG HG2 HG' HG2' hcc hcc' HBx HBy
          generalize w7.drewN (q8 + q9) = w9 at *
          clear w7
          have l1 : x.x.done = true → N6 ≤ nt := fun hh => by
            have h1 := HDx.out hh
            have h2 := HTx.out
            have h3 := HNB.out
            rw [h1] at h2
            omega
          have l2 : x7.x.done = true → N5 ≤ nt' := fun hh => by
            have h1 := HDy.out hh
            have h2 := HTy.out
            have h3 := HNA.out
            rw [h1] at h2
            omega
          have HL1 := Lib.hid l1
          have HL2 := Lib.hid l2
          clear l1 l2 HDx HDy HTx HTy
          have JN := Lib.hid (show Duo n0 n1 n2 n3 K0 K1 (k + 1 - nb) (decide ((k + 1) % 2 = 0)) x x7 from by
            have := J7.out
            rwa [show k - nb + 1 = k + 1 - nb by omega, show true = decide ((k + 1) % 2 = 0) by first | (symm; rw [decide_eq_true_iff]; omega) | (symm; rw [decide_eq_false_iff_not]; omega)] at this)
          clear J7
          generalize hdn1 : x.x.done = dn1 at *
          generalize hdn2 : x7.x.done = dn2 at *
          clear hdn1 hdn2
          cases dn1
          all_goals
            cases dn2
            all_goals
              try have l1 := HL1.out rfl
              try have l1a : decide ((nt : Int) < (N6 : Int)) = false := decide_eq_false (by omega)
              try have l1b : decide (nt < N6) = false := decide_eq_false (by omega)
              try have l1c : ¬ nt < N6 := by omega
              try have l2 := HL2.out rfl
              try have l2a : decide ((nt' : Int) < (N5 : Int)) = false := decide_eq_false (by omega)
              try have l2b : decide (nt' < N5) = false := decide_eq_false (by omega)
              try have l2c : ¬ nt' < N5 := by omega
              go_wp2_with fail
              refine hdx.mono ?_
              rintro e10 w10 ⟨rfl, h10⟩
              rw [h10]
              clear h10 w10
              go_wp2_with fail
              refine hdy.mono ?_
              rintro e10 w10 ⟨rfl, h10⟩
              rw [h10]
              clear h10 w10 hdx hdy
              go_wp2
              go_roundw
              case rel => exact ⟨k + 1, x, x7, by go_num, by omega, D9, C9, JN⟩
              case measure => simp [intOf]; omega
    · have hlt' : ¬ (k : Int) < (nb : Int) + 100 := by omega
      have hk2 : 43 ≤ k - nb := by omega
      obtain ⟨e1, e2, e3, e4, -, -, -⟩ := JR.out.ends hk2 HK0l.out HK1l.out
      obtain ⟨c0, hsl, ⟨E, hx⟩, -⟩ := DR.out.side
      obtain ⟨c0', hsl', ⟨E', hx'⟩, -⟩ := DR.out.swap.side
      obtain ⟨h, hB, -⟩ := hx.mem
      obtain ⟨h', hB', -⟩ := hx'.mem
      have NR := N6b.out.chg CR.out (fun e => e (HPB.out _ (by omega)))
      obtain ⟨k0, k1, k2, k3⟩ := NR.four
      have hkl := NR.lt
      have dx : ∀ q, Calls Try.prog 19 #[.pointer (some ⟨p, 0, none⟩)] (wr.drewN q) fun e w'' => e = .returned (.bool true) ∧ ∃ m, w'' = wr.drewN m := fun q => by
        have := Calls.quiet_of_same (doneX (w := wr.drewN q) (x := x.x) hB)
        rwa [e1] at this
      have dy : ∀ q, Calls Try.prog 19 #[.pointer (some ⟨p', 0, none⟩)] (wr.drewN q) fun e w'' => e = .returned (.bool true) ∧ ∃ m, w'' = wr.drewN m := fun q => by
        have := Calls.quiet_of_same (doneX (w := wr.drewN q) (x := y.x) hB')
        rwa [e2] at this
      by_cases hv : n1 < n0
      · rw [decide_eq_true hv] at e3 e4
        have lx : ∀ q, Calls Try.prog 20 #[.pointer (some ⟨p, 0, none⟩)] (wr.drewN q) fun e w'' => e = .returned (.bool true) ∧ ∃ m, w'' = wr.drewN m := fun q => by
          have := Calls.quiet_of_same (leadsX (w := wr.drewN q) (x := x.x) hB)
          rwa [e3] at this
        have ly : ∀ q, Calls Try.prog 20 #[.pointer (some ⟨p', 0, none⟩)] (wr.drewN q) fun e w'' => e = .returned (.bool false) ∧ ∃ m, w'' = wr.drewN m := fun q => by
          have := Calls.quiet_of_same (leadsX (w := wr.drewN q) (x := y.x) hB')
          rwa [e4] at this
        have d7 : decide (n1 < n0) = true := decide_eq_true hv
        clear e1 e2 e3 e4 hx hx' hB hB' NR hv
        go_wp2_with fail
        go_quiet (first | (go_at_call 19; first | with_reducible exact dx _ | with_reducible exact dy _) | (go_at_call 20; first | with_reducible exact lx _ | with_reducible exact ly _))
        go_wp2
        go_ret
        exact ⟨rfl, belowD BR.out⟩
      · rw [decide_eq_false hv] at e3 e4
        have lx : ∀ q, Calls Try.prog 20 #[.pointer (some ⟨p, 0, none⟩)] (wr.drewN q) fun e w'' => e = .returned (.bool false) ∧ ∃ m, w'' = wr.drewN m := fun q => by
          have := Calls.quiet_of_same (leadsX (w := wr.drewN q) (x := x.x) hB)
          rwa [e3] at this
        have ly : ∀ q, Calls Try.prog 20 #[.pointer (some ⟨p', 0, none⟩)] (wr.drewN q) fun e w'' => e = .returned (.bool true) ∧ ∃ m, w'' = wr.drewN m := fun q => by
          have := Calls.quiet_of_same (leadsX (w := wr.drewN q) (x := y.x) hB')
          rwa [e4] at this
        have d7 : decide (n1 < n0) = false := decide_eq_false hv
        clear e1 e2 e3 e4 hx hx' hB hB' NR hv
        go_wp2_with fail
        go_quiet (first | (go_at_call 19; first | with_reducible exact dx _ | with_reducible exact dy _) | (go_at_call 20; first | with_reducible exact lx _ | with_reducible exact ly _))
        go_wp2
        go_ret
        exact ⟨rfl, belowD BR.out⟩
end Go.Proofs.Ytjinleakjkbbgaa
