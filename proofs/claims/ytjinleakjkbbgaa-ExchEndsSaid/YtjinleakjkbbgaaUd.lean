/- The library's rotation, walked over any program and any struct. Conditions: what the words say; fewer than 2 to the 62 items. -/
import Derived.Test.YtjinleakjkbbgaaUc
namespace Go.Proofs.Ytjinleakjkbbgaa
open Go.Shelf Go.RowKit Go.Lib Go.Sort
variable {P : Program} {α : Type} [Inhabited α]
variable {fs fr fm fi fb ft ts te tc ti tb tu t0 k : Nat} {enc : α → List Value} {cf : α → α → Int} {g : Nat} {cb : Array Value} {blk off : Nat} {d0 : Array α} {w0 : World}
set_option maxHeartbeats 8000000 in
set_option maxRecDepth 1000000 in
theorem rotate_any (L : StabLays P fs fr fm fi fb ft ts te tc ti tb tu t0) (F : StabFam P te k enc cf g cb blk off d0 w0) (cap a m b : Nat) (d : Array α) (W : World) (hs : d0.size = d.size) (S : SWK enc k w0 blk off d W) (ham : a < m) (hmb : m < b) (hb : b ≤ d.size) (hsz : d.size < 4611686018427387904) :
    Calls P fr #[.slice (some ⟨blk, off, none⟩) d.size cap, .int .i64 a, .int .i64 m, .int .i64 b, .func (.func g) #[] cb] W fun e w' =>
      e = .returned (.tuple #[]) ∧ ∃ d', SWK enc k w0 blk off d' w' ∧ RotOk d a m b d' ∧ ∀ lo hi, lo ≤ a → b ≤ hi → hi ≤ d.size → PermIn lo hi d d' := by
  have mixed := L.mixed; have u0 := L.u0; have a0 := L.a0; have z0 := L.z0; have v0 := L.v0; have ui := L.ui; have ai := L.ai; have zi := L.zi; have vi := L.vi; have ub := L.ub; have ab := L.ab; have zb := L.zb; have vb := L.vb; have us := L.us; have aS := L.aS; have zs := L.zs; have vs := L.vs; have uc := L.uc; have ac := L.ac; have zc := L.zc; have vc := L.vc
  have es := L.es
  have SR := Lib.hid (fun (W' : World) (p q n : Nat) (dj : Array α) (hj : dj.size = d.size) (S' : SWK enc k w0 blk off dj W') (h1 : p + n ≤ q) (h2 : q + n ≤ d.size) => swapRange_any L F cap p q n dj W' (by omega) S' h1 (by omega) (by omega))
  obtain ⟨nm, FG⟩ := L.fro
  have S0 := Lib.hid S
  clear S F
  obtain ⟨i0, hi0⟩ : ∃ i, i = m - a := ⟨_, rfl⟩
  obtain ⟨j0, hj0⟩ : ∃ j, j = b - m := ⟨_, rfl⟩
  have e1 : (m : Int) - (a : Int) = (i0 : Int) := by omega
  have e2 : (b : Int) - (m : Int) = (j0 : Int) := by omega
  have w_i0 : IntKind.i64.wrap (i0 : Int) = (i0 : Int) := by rw [IntKind.wrap_i64]; omega
  have w_j0 : IntKind.i64.wrap (j0 : Int) = (j0 : Int) := by rw [IntKind.wrap_i64]; omega
  have h1 : 0 < i0 := by omega
  have h2 : 0 < j0 := by omega
  have h3 : a + i0 ≤ m := by omega
  have h3' : m ≤ a + i0 := by omega
  have h4 : m + j0 ≤ b := by omega
  have C0 := Lib.hid (show ∀ d', RotOk d (m - i0) m (m + j0) d' → RotOk d a m b d' from fun d' h => by
    rwa [show m - i0 = a by omega, show m + j0 = b by omega] at h)
  have P0 := Lib.hid (show ∀ lo hi, lo ≤ a → b ≤ hi → hi ≤ d.size → PermIn lo hi d d from fun lo hi _ _ _ => permIn_refl d lo hi)
  clear hi0 hj0
  go_enter FG, bRot_n nm fs ts te tc ti tb t0
  go_wp2
  go_loopw [10, 11] (fun vi vj wr => ∃ (i j : Nat) (dk : Array α), vi = .int .i64 i ∧ vj = .int .i64 j ∧ 0 < i ∧ 0 < j ∧ i ≤ i0 ∧ j ≤ j0 ∧ dk.size = d.size ∧ Hid (SWK enc k w0 blk off dk wr) ∧ Hid (∀ d', RotOk dk (m - i) m (m + j) d' → RotOk d a m b d') ∧ Hid (∀ lo hi, lo ≤ a → b ≤ hi → hi ≤ d.size → PermIn lo hi d dk)) (fun vi vj _ => (intOf vi).toNat + (intOf vj).toNat)
  case atStart => exact ⟨i0, j0, d, rfl, rfl, h1, h2, Nat.le_refl _, Nat.le_refl _, rfl, S0, C0, P0⟩
  case round =>
    clear S0 C0 P0
    obtain ⟨i, j, dk, rfl, rfl, hi, hj, hi0, hj0, hsk, SK, CK, PK⟩ := hrel
    obtain ⟨p, hp⟩ : ∃ p, p = m - i := ⟨_, rfl⟩
    have e3 : (m : Int) - (i : Int) = (p : Int) := by omega
    have w_p : IntKind.i64.wrap (p : Int) = (p : Int) := by rw [IntKind.wrap_i64]; omega
    have hpi : p + i ≤ m := by omega
    have hpi' : m ≤ p + i := by omega
    rw [← hp] at CK
    clear hp
    rcases Nat.lt_trichotomy i j with hij | hij | hij
    · have d1 : ((i : Int) == (j : Int)) = false := by simp; omega
      have d2 : ¬ (j : Int) < (i : Int) := by omega
      obtain ⟨s, hs2⟩ : ∃ s, s = m + j := ⟨_, rfl⟩
      have g1 : s ≤ m + j := by omega
      have g2 : m + j ≤ s := by omega
      have e4 : (m : Int) + (j : Int) = (s : Int) := by omega
      have w_s : IntKind.i64.wrap (s : Int) = (s : Int) := by rw [IntKind.wrap_i64]; omega
      clear hs2
      obtain ⟨q, hq⟩ : ∃ q, q = s - i := ⟨_, rfl⟩
      have g3 : q + i ≤ s := by omega
      have g4 : s ≤ q + i := by omega
      have e5 : (s : Int) - (i : Int) = (q : Int) := by omega
      have w_q : IntKind.i64.wrap (q : Int) = (q : Int) := by rw [IntKind.wrap_i64]; omega
      clear hq
      obtain ⟨j2, hj2⟩ : ∃ j2, j2 = j - i := ⟨_, rfl⟩
      have g5 : j2 + i ≤ j := by omega
      have g6 : j ≤ j2 + i := by omega
      have e6 : (j : Int) - (i : Int) = (j2 : Int) := by omega
      clear hj2
      have w_j2 : IntKind.i64.wrap (j2 : Int) = (j2 : Int) := by rw [IntKind.wrap_i64]; omega
      have hc := SR.out wr p q i dk hsk SK.out (by omega) (by omega)
      rw [hsk] at hc
      have HC := Lib.hid hc
      clear hc SK
      go_wp2_with (go_at_fn fs; refine HC.out.mono ?_; rintro e w1 ⟨rfl, dz, S2, O2, P2⟩)
      have SZ := Lib.hid S2
      have CZ := Lib.hid (show ∀ d', RotOk dz (m - i) m (m + j2) d' → RotOk d a m b d' from fun d' h => CK.out d' (rot_back (i := i) (j := j) (by omega) rfl hij (by rwa [show m + j - i = q by omega]) (by rwa [show p = m - i by omega, show m + j - i = m + j2 by omega])))
      have PZ := Lib.hid (show ∀ lo hi, lo ≤ a → b ≤ hi → hi ≤ d.size → PermIn lo hi d dz from fun lo hi h1 h2 h3 => permIn_trans _ _ _ _ _ (PK.out lo hi h1 h2 h3) (P2 lo hi (by omega) (by omega) (by omega)))
      have hz := O2.1
      clear S2 O2 P2 CK PK HC
      go_wp2
      go_roundw
      case rel => exact ⟨i, j2, dz, rfl, rfl, hi, by omega, hi0, by omega, by omega, SZ, CZ, PZ⟩
      case measure => simp [intOf]; omega
    · subst hij
      have hc := SR.out wr p m i dk hsk SK.out (by omega) (by omega)
      rw [hsk] at hc
      have HC := Lib.hid hc
      clear hc SK
      go_wp2_with (go_at_fn fs; refine HC.out.mono ?_; rintro e w1 ⟨rfl, dz, S2, O2, P2⟩)
      go_end0
      exact ⟨rfl, dz, S2, CK.out dz (rot_same (by omega) rfl O2), fun lo hi h1 h2 h3 => permIn_trans _ _ _ _ _ (PK.out lo hi h1 h2 h3) (P2 lo hi (by omega) (by omega) (by omega))⟩
    · have d1 : ((i : Int) == (j : Int)) = false := by simp; omega
      have d2 : (j : Int) < (i : Int) := by omega
      obtain ⟨i2, hi2⟩ : ∃ i2, i2 = i - j := ⟨_, rfl⟩
      have g1 : i2 + j ≤ i := by omega
      have g2 : i ≤ i2 + j := by omega
      have e6 : (i : Int) - (j : Int) = (i2 : Int) := by omega
      clear hi2
      have w_i2 : IntKind.i64.wrap (i2 : Int) = (i2 : Int) := by rw [IntKind.wrap_i64]; omega
      have hc := SR.out wr p m j dk hsk SK.out (by omega) (by omega)
      rw [hsk] at hc
      have HC := Lib.hid hc
      clear hc SK
      go_wp2_with (go_at_fn fs; refine HC.out.mono ?_; rintro e w1 ⟨rfl, dz, S2, O2, P2⟩)
      have SZ := Lib.hid S2
      have CZ := Lib.hid (show ∀ d', RotOk dz (m - i2) m (m + j) d' → RotOk d a m b d' from fun d' h => CK.out d' (rot_front (i := i) (j := j) (by omega) rfl hij O2 (by rwa [show p + j = m - i2 by omega])))
      have PZ := Lib.hid (show ∀ lo hi, lo ≤ a → b ≤ hi → hi ≤ d.size → PermIn lo hi d dz from fun lo hi h1 h2 h3 => permIn_trans _ _ _ _ _ (PK.out lo hi h1 h2 h3) (P2 lo hi (by omega) (by omega) (by omega)))
      have hz := O2.1
      clear S2 O2 P2 CK PK HC
      go_wp2
      go_roundw
      case rel => exact ⟨i2, j, dz, rfl, rfl, by omega, hj, by omega, hj0, by omega, SZ, CZ, PZ⟩
      case measure => simp [intOf]; omega
end Go.Proofs.Ytjinleakjkbbgaa
