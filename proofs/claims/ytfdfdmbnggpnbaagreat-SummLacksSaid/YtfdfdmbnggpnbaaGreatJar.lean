/- The library's stable sort, walked over any program and any struct: rows change places, and are rotated. Conditions: what the words say; fewer than 2 to the 62 items. · The library's rotation, walked over any program and any struct. Conditions: what the words say; fewer than 2 to the 62 items. · Plain facts on merging two rows in order by a rotation. No program, no conditions but a strict weak order. · The library's symmetric merge where one row is one item, walked over any program and any struct. Conditions: what the words say; fewer than 2 to the 62 items. · The library's symmetric merge where the second row is one item, walked over any program and any struct. Conditions: what the words say; fewer than 2 to the 62 items. -/
import Derived.Lib.Hide
import Derived.BigRegion
import Derived.Deep.LoopGhost
import Derived.Test.YtfdfdmbnggpnbaaGreatJaq
import Derived.Test.YtfdfdmbnggpnbaaGreatJap
namespace Go.Proofs.YtfdfdmbnggpnbaaGreat
open Go.Shelf Go.RowKit Go.Lib Go.Sort
variable {P : Program} {α : Type} [Inhabited α]

/-- What the sort is told once: rows of k cells, the compare's function g, with what it has caught. -/
structure StabFam (P : Program) (te k : Nat) (enc : α → List Value) (cf : α → α → Int) (g : Nat) (cb : Array Value) (blk off : Nat) (d0 : Array α) (w0 : World) : Prop where
  agg : ∀ w, (isAgg te).run P w = .ok true w
  cells : ∀ w, (Go.sizeOf te).run P w = .ok k w
  ent : ∀ args w, (callFunc g args).run P w = .ok (.enter g args) w
  cmp : CmpLays P g cb enc k cf blk off d0.size w0
  swo : SWO (ltOf cf)
  row : RowK enc k w0 blk off d0
variable {fs fr fm fi fb ft ts te tc ti tb tu t0 k : Nat} {enc : α → List Value} {cf : α → α → Int} {g : Nat} {cb : Array Value} {blk off : Nat} {d0 : Array α} {w0 : World}
set_option maxHeartbeats 8000000 in
set_option maxRecDepth 1000000 in
theorem swapRange_any (L : StabLays P fs fr fm fi fb ft ts te tc ti tb tu t0) (F : StabFam P te k enc cf g cb blk off d0 w0) (cap a b n : Nat) (d : Array α) (W : World) (hs : d0.size = d.size) (S : SWK enc k w0 blk off d W) (hab : a + n ≤ b) (hb : b + n ≤ d.size) (hsz : d.size < 4611686018427387904) :
    Calls P fs #[.slice (some ⟨blk, off, none⟩) d.size cap, .int .i64 a, .int .i64 b, .int .i64 n, .func (.func g) #[] cb] W fun e w' =>
      e = .returned (.tuple #[]) ∧ ∃ d', SWK enc k w0 blk off d' w' ∧ SwpOk d a b n d' ∧ ∀ lo hi, lo ≤ a → b + n ≤ hi → hi ≤ d.size → PermIn lo hi d d' := by
  have mixed := L.mixed; have u0 := L.u0; have a0 := L.a0; have z0 := L.z0; have v0 := L.v0; have ui := L.ui; have ai := L.ai; have zi := L.zi; have vi := L.vi; have ub := L.ub; have ab := L.ab; have zb := L.zb; have vb := L.vb; have us := L.us; have aS := L.aS; have zs := L.zs; have vs := L.vs; have uc := L.uc; have ac := L.ac; have zc := L.zc; have vc := L.vc
  obtain ⟨nm, FG⟩ := L.fsw
  obtain ⟨aE, zE, eg, hcmp, -, R⟩ := F
  have S0 := Lib.hid S
  clear hcmp S eg
  go_enter FG, bSwap_n nm ts te tc ti tb t0
  go_wp2
  go_loopw [10] (fun vi wr => ∃ (i : Nat) (dk : Array α), vi = .int .i64 i ∧ i ≤ n ∧ dk.size = d.size ∧ Hid (SWK enc k w0 blk off dk wr) ∧ Hid (SwpOk d a b i dk) ∧ Hid (∀ lo hi, lo ≤ a → b + n ≤ hi → hi ≤ d.size → PermIn lo hi d dk)) (fun vi _ => n - (intOf vi).toNat)
  case atStart => exact ⟨0, d, rfl, Nat.zero_le _, rfl, S0, Lib.hid (SwpOk.zero d a b), Lib.hid (fun lo hi _ _ _ => permIn_refl d lo hi)⟩
  case round =>
    clear S0
    obtain ⟨i, dk, rfl, hin, hsk, SK, OK, PK⟩ := hrel
    by_cases hlt : i < n
    · have hlt' : (i : Int) < (n : Int) := by omega
      obtain ⟨p, hp⟩ : ∃ p, p = a + i := ⟨_, rfl⟩
      obtain ⟨q, hq⟩ : ∃ q, q = b + i := ⟨_, rfl⟩
      have e1 : (a : Int) + (i : Int) = (p : Int) := by omega
      have e2 : (b : Int) + (i : Int) = (q : Int) := by omega
      have p_p : (0 : Int) ≤ (p : Int) := by omega
      have p_u : (p : Int) < (d.size : Int) := by omega
      have p_n : ((p : Int)).toNat = p := by omega
      have p_w : IntKind.i64.wrap (p : Int) = (p : Int) := by rw [IntKind.wrap_i64]; omega
      have q_p : (0 : Int) ≤ (q : Int) := by omega
      have q_u : (q : Int) < (d.size : Int) := by omega
      have q_n : ((q : Int)).toNat = q := by omega
      have q_w : IntKind.i64.wrap (q : Int) = (q : Int) := by rw [IntKind.wrap_i64]; omega
      have OZ := Lib.hid (show SwpOk d a b (i + 1) (swp dk p q) by rw [hp, hq]; exact OK.out.step n hlt hab hb)
      have PZ := Lib.hid (show ∀ lo hi, lo ≤ a → b + n ≤ hi → hi ≤ d.size → PermIn lo hi d (swp dk p q) from fun lo hi h1 h2 h3 => permIn_trans _ _ _ _ _ (PK.out lo hi h1 h2 h3) (swp_permIn dk lo hi p q (by omega) (by omega) (by omega) (by omega) (by omega)))
      have hpd : p < dk.size := by omega
      have hqd : q < dk.size := by omega
      clear hp hq OK PK
      go_wp2_with fail
      have SW := Lib.hid (SK.out.swapped R p q hpd hqd)
      have l1 := SK.out.ld1 R (by omega) P p hpd
      have l2 := SK.out.ld1 R (by omega) P q hqd
      have s1 := SK.out.st1 R (by omega) P p hpd dk[q]!
      have s2 := SK.out.st2 R (by omega) P p q hpd hqd dk[q]! dk[p]!
      have n1 : (enc dk[p]!).length = k := R.hk _
      have n2 : (enc dk[q]!).length = k := R.hk _
      generalize enc dk[p]! = cI at SW l1 s2 n1
      generalize enc dk[q]! = cJ at SW l2 s1 s2 n2
      clear SK
      go_wp2_with fail
      go_big_region_o
      clear l1 l2 s1 s2 n1 n2
      generalize (wr.drew.setCells blk (off + p * k) cJ).setCells blk (off + q * k) cI = wz at SW ⊢
      go_wp2
      go_roundw
      case rel => exact ⟨i + 1, _, by go_num, by omega, by rw [size_swp]; exact hsk, SW, OZ, PZ⟩
      case measure => simp [intOf]; omega
    · have hin' : i = n := by omega
      subst hin'
      go_wp2
      go_end0
      exact ⟨rfl, dk, SK.out, OK.out, PK.out⟩
end Go.Proofs.YtfdfdmbnggpnbaaGreat
namespace Go.Proofs.YtfdfdmbnggpnbaaGreat
open Go.Shelf Go.RowKit Go.Lib Go.Sort
variable {P : Program} {α : Type} [Inhabited α]
variable {fs fr fm fi fb ft ts te tc ti tb tu t0 k : Nat} {enc : α → List Value} {cf : α → α → Int} {g : Nat} {cb : Array Value} {blk off : Nat} {d0 : Array α} {w0 : World}
set_option maxHeartbeats 8000000 in
set_option maxRecDepth 1000000 in
theorem rotate_any (L : StabLays P fs fr fm fi fb ft ts te tc ti tb tu t0) (F : StabFam P te k enc cf g cb blk off d0 w0) (cap a m b : Nat) (d : Array α) (W : World) (hs : d0.size = d.size) (S : SWK enc k w0 blk off d W) (ham : a < m) (hmb : m < b) (hb : b ≤ d.size) (hsz : d.size < 4611686018427387904) :
    Calls P fr #[.slice (some ⟨blk, off, none⟩) d.size cap, .int .i64 a, .int .i64 m, .int .i64 b, .func (.func g) #[] cb] W fun e w' =>
      e = .returned (.tuple #[]) ∧ ∃ d', SWK enc k w0 blk off d' w' ∧ RotOk d a m b d' ∧ ∀ lo hi, lo ≤ a → b ≤ hi → hi ≤ d.size → PermIn lo hi d d' := by
  have mixed := L.mixed; have u0 := L.u0; have a0 := L.a0; have z0 := L.z0; have v0 := L.v0; have ui := L.ui; have ai := L.ai; have zi := L.zi; have vi := L.vi; have ub := L.ub; have ab := L.ab; have zb := L.zb; have vb := L.vb; have us := L.us; have aS := L.aS; have zs := L.zs; have vs := L.vs; have uc := L.uc; have ac := L.ac; have zc := L.zc; have vc := L.vc
  have es := L.es
  have SR := Lib.hid (fun (W' : World) (p q n : Nat) (dj : Array α) (hj : dj.size = d.size) (S' : SWK enc k w0 blk off dj W') (h1 : p + n ≤ q) (h2 : q + n ≤ d.size) => swapRange_any L F cap p q n dj W' (by omega) S' h1 (by omega) (by omega))
  obtain ⟨nm, FG⟩ := L.fro
  have S0 := Lib.hid S
  clear S F
  obtain ⟨i0, hi0⟩ : ∃ i, i = m - a := ⟨_, rfl⟩
  obtain ⟨j0, hj0⟩ : ∃ j, j = b - m := ⟨_, rfl⟩
  have e1 : (m : Int) - (a : Int) = (i0 : Int) := by omega
  have e2 : (b : Int) - (m : Int) = (j0 : Int) := by omega
  have w_i0 : IntKind.i64.wrap (i0 : Int) = (i0 : Int) := by rw [IntKind.wrap_i64]; omega
  have w_j0 : IntKind.i64.wrap (j0 : Int) = (j0 : Int) := by rw [IntKind.wrap_i64]; omega
  have h1 : 0 < i0 := by omega
  have h2 : 0 < j0 := by omega
  have h3 : a + i0 ≤ m := by omega
  have h3' : m ≤ a + i0 := by omega
  have h4 : m + j0 ≤ b := by omega
  have C0 := Lib.hid (show ∀ d', RotOk d (m - i0) m (m + j0) d' → RotOk d a m b d' from fun d' h => by
    rwa [show m - i0 = a by omega, show m + j0 = b by omega] at h)
  have P0 := Lib.hid (show ∀ lo hi, lo ≤ a → b ≤ hi → hi ≤ d.size → PermIn lo hi d d from fun lo hi _ _ _ => permIn_refl d lo hi)
  clear hi0 hj0
  go_enter FG, bRot_n nm fs ts te tc ti tb t0
  go_wp2
  go_loopw [10, 11] (fun vi vj wr => ∃ (i j : Nat) (dk : Array α), vi = .int .i64 i ∧ vj = .int .i64 j ∧ 0 < i ∧ 0 < j ∧ i ≤ i0 ∧ j ≤ j0 ∧ dk.size = d.size ∧ Hid (SWK enc k w0 blk off dk wr) ∧ Hid (∀ d', RotOk dk (m - i) m (m + j) d' → RotOk d a m b d') ∧ Hid (∀ lo hi, lo ≤ a → b ≤ hi → hi ≤ d.size → PermIn lo hi d dk)) (fun vi vj _ => (intOf vi).toNat + (intOf vj).toNat)
  case atStart => exact ⟨i0, j0, d, rfl, rfl, h1, h2, Nat.le_refl _, Nat.le_refl _, rfl, S0, C0, P0⟩
  case round =>
    clear S0 C0 P0
    obtain ⟨i, j, dk, rfl, rfl, hi, hj, hi0, hj0, hsk, SK, CK, PK⟩ := hrel
    obtain ⟨p, hp⟩ : ∃ p, p = m - i := ⟨_, rfl⟩
    have e3 : (m : Int) - (i : Int) = (p : Int) := by omega
    have w_p : IntKind.i64.wrap (p : Int) = (p : Int) := by rw [IntKind.wrap_i64]; omega
    have hpi : p + i ≤ m := by omega
    have hpi' : m ≤ p + i := by omega
    rw [← hp] at CK
    clear hp
    rcases Nat.lt_trichotomy i j with hij | hij | hij
    · have d1 : ((i : Int) == (j : Int)) = false := by simp; omega
      have d2 : ¬ (j : Int) < (i : Int) := by omega
      obtain ⟨s, hs2⟩ : ∃ s, s = m + j := ⟨_, rfl⟩
      have g1 : s ≤ m + j := by omega
      have g2 : m + j ≤ s := by omega
      have e4 : (m : Int) + (j : Int) = (s : Int) := by omega
      have w_s : IntKind.i64.wrap (s : Int) = (s : Int) := by rw [IntKind.wrap_i64]; omega
      clear hs2
      obtain ⟨q, hq⟩ : ∃ q, q = s - i := ⟨_, rfl⟩
      have g3 : q + i ≤ s := by omega
      have g4 : s ≤ q + i := by omega
      have e5 : (s : Int) - (i : Int) = (q : Int) := by omega
      have w_q : IntKind.i64.wrap (q : Int) = (q : Int) := by rw [IntKind.wrap_i64]; omega
      clear hq
      obtain ⟨j2, hj2⟩ : ∃ j2, j2 = j - i := ⟨_, rfl⟩
      have g5 : j2 + i ≤ j := by omega
      have g6 : j ≤ j2 + i := by omega
      have e6 : (j : Int) - (i : Int) = (j2 : Int) := by omega
      clear hj2
      have w_j2 : IntKind.i64.wrap (j2 : Int) = (j2 : Int) := by rw [IntKind.wrap_i64]; omega
      have hc := SR.out wr p q i dk hsk SK.out (by omega) (by omega)
      rw [hsk] at hc
      have HC := Lib.hid hc
      clear hc SK
      go_wp2_with (go_at_fn fs; refine HC.out.mono ?_; rintro e w1 ⟨rfl, dz, S2, O2, P2⟩)
      have SZ := Lib.hid S2
      have CZ := Lib.hid (show ∀ d', RotOk dz (m - i) m (m + j2) d' → RotOk d a m b d' from fun d' h => CK.out d' (rot_back (i := i) (j := j) (by omega) rfl hij (by rwa [show m + j - i = q by omega]) (by rwa [show p = m - i by omega, show m + j - i = m + j2 by omega])))
      have PZ := Lib.hid (show ∀ lo hi, lo ≤ a → b ≤ hi → hi ≤ d.size → PermIn lo hi d dz from fun lo hi h1 h2 h3 => permIn_trans _ _ _ _ _ (PK.out lo hi h1 h2 h3) (P2 lo hi (by omega) (by omega) (by omega)))
      have hz := O2.1
      clear S2 O2 P2 CK PK HC
      go_wp2
      go_roundw
      case rel => exact ⟨i, j2, dz, rfl, rfl, hi, by omega, hi0, by omega, by omega, SZ, CZ, PZ⟩
      case measure => simp [intOf]; omega
    · subst hij
      have hc := SR.out wr p m i dk hsk SK.out (by omega) (by omega)
      rw [hsk] at hc
      have HC := Lib.hid hc
      clear hc SK
      go_wp2_with (go_at_fn fs; refine HC.out.mono ?_; rintro e w1 ⟨rfl, dz, S2, O2, P2⟩)
      go_end0
      exact ⟨rfl, dz, S2, CK.out dz (rot_same (by omega) rfl O2), fun lo hi h1 h2 h3 => permIn_trans _ _ _ _ _ (PK.out lo hi h1 h2 h3) (P2 lo hi (by omega) (by omega) (by omega))⟩
    · have d1 : ((i : Int) == (j : Int)) = false := by simp; omega
      have d2 : (j : Int) < (i : Int) := by omega
      obtain ⟨i2, hi2⟩ : ∃ i2, i2 = i - j := ⟨_, rfl⟩
      have g1 : i2 + j ≤ i := by omega
      have g2 : i ≤ i2 + j := by omega
      have e6 : (i : Int) - (j : Int) = (i2 : Int) := by omega
      clear hi2
      have w_i2 : IntKind.i64.wrap (i2 : Int) = (i2 : Int) := by rw [IntKind.wrap_i64]; omega
      have hc := SR.out wr p m j dk hsk SK.out (by omega) (by omega)
      rw [hsk] at hc
      have HC := Lib.hid hc
      clear hc SK
      go_wp2_with (go_at_fn fs; refine HC.out.mono ?_; rintro e w1 ⟨rfl, dz, S2, O2, P2⟩)
      have SZ := Lib.hid S2
      have CZ := Lib.hid (show ∀ d', RotOk dz (m - i2) m (m + j) d' → RotOk d a m b d' from fun d' h => CK.out d' (rot_front (i := i) (j := j) (by omega) rfl hij O2 (by rwa [show p + j = m - i2 by omega])))
      have PZ := Lib.hid (show ∀ lo hi, lo ≤ a → b ≤ hi → hi ≤ d.size → PermIn lo hi d dz from fun lo hi h1 h2 h3 => permIn_trans _ _ _ _ _ (PK.out lo hi h1 h2 h3) (P2 lo hi (by omega) (by omega) (by omega)))
      have hz := O2.1
      clear S2 O2 P2 CK PK HC
      go_wp2
      go_roundw
      case rel => exact ⟨i2, j, dz, rfl, rfl, by omega, hj, by omega, hj0, by omega, SZ, CZ, PZ⟩
      case measure => simp [intOf]; omega
end Go.Proofs.YtfdfdmbnggpnbaaGreat
namespace Go.Proofs.YtfdfdmbnggpnbaaGreat
open Go.Sort
section
variable {α : Type} [Inhabited α] {lt : α → α → Bool}
theorem sorted_le (hS : SWO lt) {d : Array α} {a b i j : Nat} (h : SortedIn lt a b d) (h1 : a ≤ i) (h2 : i ≤ j) (h3 : j < b) : lt d[j]! d[i]! = false := by
  rcases Nat.lt_or_ge i j with h4 | h4
  · exact h i j h1 h4 h3
  · rw [show j = i by omega]
    exact hS.irrefl _
theorem sorted_join {d : Array α} {a c b : Nat} (h1 : SortedIn lt a c d) (h2 : SortedIn lt c b d) (hx : ∀ i j, a ≤ i → i < c → c ≤ j → j < b → lt d[j]! d[i]! = false) : SortedIn lt a b d := fun i j hi hij hj => by
  by_cases c1 : j < c
  · exact h1 i j hi hij c1
  · by_cases c2 : i < c
    · exact hx i j hi c2 (by omega) hj
    · exact h2 i j (by omega) hij hj
theorem sorted_part {d : Array α} {a b a' b' : Nat} (h : SortedIn lt a b d) (h1 : a ≤ a') (h2 : b' ≤ b) : SortedIn lt a' b' d := fun i j hi hij hj => h i j (by omega) hij (by omega)
theorem sorted_one (d : Array α) {a b : Nat} (h : b ≤ a + 1) : SortedIn lt a b d := fun i j hi hij hj => by omega
/-- What stands where behind a rotation. -/
theorem rot_at {d d' : Array α} {s m e mid : Nat} (h : RotOk d s m e d') (h1 : s ≤ m) (h2 : m ≤ e) (h3 : mid + m = s + e) (t : Nat) :
    (t < s → d'[t]! = d[t]!) ∧ (s ≤ t → t < mid → d'[t]! = d[m + (t - s)]!) ∧ (mid ≤ t → t < e → d'[t]! = d[s + (t - mid)]!) ∧ (e ≤ t → d'[t]! = d[t]!) := by
  obtain ⟨-, ho, ha, hb⟩ := h
  refine ⟨fun c => ho t (.inl c), fun c1 c2 => ?_, fun c1 c2 => ?_, fun c => ho t (.inr c)⟩
  · have := ha (t - s) (by omega)
    rwa [show s + (t - s) = t by omega] at this
  · have := hb (t - mid) (by omega)
    rwa [show s + (e - m) + (t - mid) = t by omega] at this
theorem merge_rot (hS : SWO lt) {d d1 : Array α} {a s m e b mid : Nat} (hA : SortedIn lt a m d) (hB : SortedIn lt m b d) (h : RotOk d s m e d1) (g1 : a ≤ s) (g2 : s ≤ m) (g3 : m ≤ e) (g4 : e ≤ b) (g5 : b ≤ d.size) (g6 : mid + m = s + e)
    (ho : s = a ∨ e = b ∨ lt d[e]! d[s - 1]! = false) (hs : s = m ∨ e = m ∨ lt d[e - 1]! d[s]! = true) (hp : PermIn a b d d1) :
    Mix lt a b d d1 ∧ SortedIn lt a s d1 ∧ SortedIn lt s mid d1 ∧ SortedIn lt mid e d1 ∧ SortedIn lt e b d1 ∧ ∀ i j, a ≤ i → i < mid → mid ≤ j → j < b → lt d1[j]! d1[i]! = false := by
  have strict : ∀ i j, s ≤ i → i < m → m ≤ j → j < e → lt d[j]! d[i]! = true := fun i j i1 i2 j1 j2 => by
    rcases hs with hs | hs | hs
    · omega
    · omega
    · have a1 : lt d[i]! d[s]! = false := sorted_le hS hA g1 i1 i2
      have a2 : lt d[e - 1]! d[j]! = false := sorted_le hS hB j1 (by omega) (by omega)
      exact swo_le_lt hS a2 (swo_lt_le hS hs a1)
  refine ⟨⟨hp, rot_stab hS h g2 g3 (by omega) strict⟩, fun i j i1 ij j2 => ?_, fun i j i1 ij j2 => ?_, fun i j i1 ij j2 => ?_, fun i j i1 ij j2 => ?_, fun i j i1 i2 j1 j2 => ?_⟩
  · rw [(rot_at h g2 g3 g6 i).1 (by omega), (rot_at h g2 g3 g6 j).1 (by omega)]
    exact hA i j i1 ij (by omega)
  · rw [(rot_at h g2 g3 g6 i).2.1 (by omega) (by omega), (rot_at h g2 g3 g6 j).2.1 (by omega) (by omega)]
    exact hB _ _ (by omega) (by omega) (by omega)
  · rw [(rot_at h g2 g3 g6 i).2.2.1 (by omega) (by omega), (rot_at h g2 g3 g6 j).2.2.1 (by omega) (by omega)]
    exact hA _ _ (by omega) (by omega) (by omega)
  · rw [(rot_at h g2 g3 g6 i).2.2.2 (by omega), (rot_at h g2 g3 g6 j).2.2.2 (by omega)]
    exact hB _ _ (by omega) (by omega) (by omega)
  · by_cases c1 : i < s
    · rw [(rot_at h g2 g3 g6 i).1 c1]
      by_cases c2 : j < e
      · rw [(rot_at h g2 g3 g6 j).2.2.1 j1 c2]
        exact hA _ _ i1 (by omega) (by omega)
      · rw [(rot_at h g2 g3 g6 j).2.2.2 (by omega)]
        rcases ho with ho | ho | ho
        · omega
        · omega
        · have a1 : lt d[s - 1]! d[i]! = false := sorted_le hS hA i1 (by omega) (by omega)
          have a2 : lt d[j]! d[e]! = false := sorted_le hS hB (by omega) (by omega) j2
          exact hS.ntrans _ _ _ (hS.ntrans _ _ _ a2 ho) a1
    · rw [(rot_at h g2 g3 g6 i).2.1 (by omega) i2]
      by_cases c2 : j < e
      · rw [(rot_at h g2 g3 g6 j).2.2.1 j1 c2]
        exact swo_asymm hS (strict _ _ (by omega) (by omega) (by omega) (by omega))
      · rw [(rot_at h g2 g3 g6 j).2.2.2 (by omega)]
        exact hB _ _ (by omega) (by omega) j2
/-- Both halves are put in order, each for itself. -/
theorem merge_end {d1 d2 d3 : Array α} {a mid b : Nat} (h1 : a ≤ mid) (h2 : mid ≤ b) (h3 : b ≤ d1.size) (hx : ∀ i j, a ≤ i → i < mid → mid ≤ j → j < b → lt d1[j]! d1[i]! = false) (m1 : Mix lt a mid d1 d2) (s1 : SortedIn lt a mid d2) (m2 : Mix lt mid b d2 d3) (s2 : SortedIn lt mid b d3) :
    Mix lt a b d1 d3 ∧ SortedIn lt a b d3 := by
  have hz := m1.size
  refine ⟨(m1.wide (Nat.le_refl _) h2 h3).trans (m2.wide h1 (Nat.le_refl _) (by omega)), sorted_join ?_ s2 ?_⟩
  · intro i j hi hij hj
    rw [m2.out i (.inl (by omega)), m2.out j (.inl hj)]
    exact s1 i j hi hij hj
  · intro i j i1 i2 j1 j2
    rw [m2.out i (.inl i2)]
    refine m2.all (by omega) (fun y => lt y d2[i]! = false) (fun j' b1 b2 => ?_) j j1 j2
    rw [m1.out j' (.inr b1)]
    exact m1.all (by omega) (fun x => lt d1[j']! x = false) (fun i' c1 c2 => hx i' j' c1 c2 b1 b2) i i1 i2
/-- One item finds its place among those behind it. -/
theorem merge_left (hS : SWO lt) {d d1 : Array α} {a i b : Nat} (hB : SortedIn lt (a + 1) b d) (h : RotOk d a (a + 1) i d1) (g1 : a + 1 ≤ i) (g2 : i ≤ b) (g3 : b ≤ d.size) (hl : ∀ t, a + 1 ≤ t → t < i → lt d[t]! d[a]! = true) (hr : i = b ∨ lt d[i]! d[a]! = false) (hp : PermIn a b d d1) :
    Mix lt a b d d1 ∧ SortedIn lt a b d1 := by
  have e : i - 1 + (a + 1) = a + i := by omega
  obtain ⟨m1, -, s1, s2, s3, hx⟩ := merge_rot hS (mid := i - 1) (sorted_one d (by omega)) hB h (Nat.le_refl _) (by omega) g1 g2 g3 e (.inl rfl) (by
    by_cases c : i = a + 1
    · exact .inr (.inl c)
    · exact .inr (.inr (hl _ (by omega) (by omega)))) hp
  refine ⟨m1, sorted_join s1 (sorted_join s2 s3 fun x y x1 x2 y1 y2 => ?_) hx⟩
  obtain rfl : x = i - 1 := by omega
  rw [(rot_at h (by omega) g1 e (i - 1)).2.2.1 (Nat.le_refl _) (by omega), (rot_at h (by omega) g1 e y).2.2.2 y1, show a + (i - 1 - (i - 1)) = a by omega]
  rcases hr with hr | hr
  · omega
  · exact hS.ntrans _ _ _ (sorted_le hS hB g1 y1 y2) hr
/-- One item finds its place among those ahead of it. -/
theorem merge_right (hS : SWO lt) {d d1 : Array α} {a i m : Nat} (hA : SortedIn lt a m d) (h : RotOk d i m (m + 1) d1) (g1 : a ≤ i) (g2 : i ≤ m) (g3 : m + 1 ≤ d.size) (hl : ∀ t, a ≤ t → t < i → lt d[m]! d[t]! = false) (hr : i = m ∨ lt d[m]! d[i]! = true) (hp : PermIn a (m + 1) d d1) :
    Mix lt a (m + 1) d d1 ∧ SortedIn lt a (m + 1) d1 := by
  have e : i + 1 + m = i + (m + 1) := by omega
  obtain ⟨m1, s0, -, s2, -, hx⟩ := merge_rot hS (mid := i + 1) hA (sorted_one d (by omega)) h g1 g2 (by omega) (Nat.le_refl _) g3 e (.inr (.inl rfl)) (by
    rcases hr with hr | hr
    · exact .inl hr
    · exact .inr (.inr (by rwa [show m + 1 - 1 = m by omega]))) hp
  refine ⟨m1, sorted_join (c := i + 1) (sorted_join (c := i) s0 (sorted_one d1 (by omega)) fun x y x1 x2 y1 y2 => ?_) s2 hx⟩
  obtain rfl : y = i := by omega
  rw [(rot_at h g2 (by omega) e x).1 x2, (rot_at h g2 (by omega) e y).2.1 (Nat.le_refl _) (by omega), show m + (y - y) = m by omega]
  exact hl x x1 x2
theorem RotOk.refl (d : Array α) (s m : Nat) : RotOk d s m m d := ⟨rfl, fun _ _ => rfl, fun t h => absurd h (by omega), fun t h => by
  rw [show s + (m - m) + t = s + t by omega]⟩
theorem RotOk.refl' (d : Array α) (m e : Nat) : RotOk d m m e d := ⟨rfl, fun _ _ => rfl, fun _ _ => rfl, fun t h => absurd h (by omega)⟩
/-- An item one further on. -/
theorem rot_on {d dk : Array α} {a j : Nat} (h : RotOk d a (a + 1) (j + 1) dk) (g : a ≤ j) (g2 : j + 1 < d.size) : RotOk d a (a + 1) (j + 2) (swp dk j (j + 1)) := by
  obtain ⟨hs, ho, ha, hb⟩ := h
  refine ⟨by rw [size_swp, hs], fun t ht => ?_, fun t ht => ?_, fun t ht => ?_⟩
  · rw [swp_other _ _ _ _ (by omega) (by omega)]
    exact ho t (by omega)
  · by_cases c : a + t = j
    · rw [c, swp_left _ _ _ (by omega) (by omega), ho (j + 1) (.inr (Nat.le_refl _)), show a + 1 + t = j + 1 by omega]
    · rw [swp_other _ _ _ _ c (by omega)]
      exact ha t (by omega)
  · obtain rfl : t = 0 := by omega
    rw [show a + (j + 2 - (a + 1)) + 0 = j + 1 by omega, swp_right _ _ _ (by omega)]
    have := hb 0 (by omega)
    rwa [show a + (j + 1 - (a + 1)) + 0 = j by omega] at this
theorem rot_off {d dk : Array α} {j m : Nat} (h : RotOk d (j + 1) m (m + 1) dk) (g : j + 1 ≤ m) (g2 : m < d.size) : RotOk d j m (m + 1) (swp dk (j + 1) j) := by
  obtain ⟨hs, ho, ha, hb⟩ := h
  refine ⟨by rw [size_swp, hs], fun t ht => ?_, fun t ht => ?_, fun t ht => ?_⟩
  · rw [swp_other _ _ _ _ (by omega) (by omega)]
    exact ho t (by omega)
  · obtain rfl : t = 0 := by omega
    rw [show j + 0 = j by omega, swp_right _ _ _ (by omega)]
    have := ha 0 (by omega)
    rwa [show j + 1 + 0 = j + 1 by omega] at this
  · by_cases c : t = 0
    · subst c
      rw [show j + (m + 1 - m) + 0 = j + 1 by omega, swp_left _ _ _ (by omega) (by omega), ho j (.inl (by omega))]
      rfl
    · rw [swp_other _ _ _ _ (by omega) (by omega)]
      have := hb (t - 1) (by omega)
      rwa [show j + 1 + (m + 1 - m) + (t - 1) = j + (m + 1 - m) + t by omega, show j + 1 + (t - 1) = j + t by omega] at this
end
end Go.Proofs.YtfdfdmbnggpnbaaGreat
namespace Go.Proofs.YtfdfdmbnggpnbaaGreat
open Go.Shelf Go.RowKit Go.Lib Go.Sort
variable {P : Program} {α : Type} [Inhabited α]
variable {fs fr fm fi fb ft ts te tc ti tb tu t0 k : Nat} {enc : α → List Value} {cf : α → α → Int} {g : Nat} {cb : Array Value} {blk off : Nat} {d0 : Array α} {w0 : World}
/-- What a merge leaves. -/
def MergeQ (enc : α → List Value) (k : Nat) (w0 : World) (blk off : Nat) (cf : α → α → Int) (a b : Nat) (d : Array α) : Ending → World → Prop := fun e w' =>
  e = .returned (.tuple #[]) ∧ ∃ d', SWK enc k w0 blk off d' w' ∧ Mix (ltOf cf) a b d d' ∧ SortedIn (ltOf cf) a b d'
set_option maxHeartbeats 8000000 in
set_option maxRecDepth 1000000 in
theorem merge_left_any (L : StabLays P fs fr fm fi fb ft ts te tc ti tb tu t0) (F : StabFam P te k enc cf g cb blk off d0 w0) (cap a b : Nat) (d : Array α) (W : World) (hs : d0.size = d.size) (S : SWK enc k w0 blk off d W) (hmb : a + 1 < b) (hb : b ≤ d.size) (hsz : d.size < 4611686018427387904) (hB : SortedIn (ltOf cf) (a + 1) b d) :
    Calls P fm #[.slice (some ⟨blk, off, none⟩) d.size cap, .int .i64 a, .int .i64 ((a + 1 : Nat) : Int), .int .i64 b, .func (.func g) #[] cb] W (MergeQ enc k w0 blk off cf a b d) := by
  obtain ⟨m, hm⟩ : ∃ m, m = a + 1 := ⟨_, rfl⟩
  rw [← hm]
  have mixed := L.mixed; have u0 := L.u0; have a0 := L.a0; have z0 := L.z0; have v0 := L.v0; have ui := L.ui; have ai := L.ai; have zi := L.zi; have vi := L.vi; have ub := L.ub; have ab := L.ab; have zb := L.zb; have vb := L.vb; have us := L.us; have aS := L.aS; have zs := L.zs; have vs := L.vs; have uc := L.uc; have ac := L.ac; have zc := L.zc; have vc := L.vc; have uu := L.uu; have au := L.au; have zu := L.zu; have vu := L.vu
  obtain ⟨nm, FG⟩ := L.fme
  obtain ⟨aE, zE, eg, hcmp, hsw, R⟩ := F
  have HC := Lib.hid hcmp
  have HO := Lib.hid hsw
  have S0 := Lib.hid S
  have HBS := Lib.hid hB
  generalize hQ : MergeQ enc k w0 blk off cf a b d = Q
  have HQ := Lib.hid hQ
  clear hcmp S hB hsw hQ
  have e1 : (m : Int) - (a : Int) = 1 := by omega
  have g1 : m ≤ a + 1 := by omega
  have g2 : a + 1 ≤ m := by omega
  have HM := Lib.hid hm
  clear hm
  have a_p : (0 : Int) ≤ (a : Int) := by omega
  have a_u : (a : Int) < (d.size : Int) := by omega
  have a_n : ((a : Int)).toNat = a := by omega
  have a_w : IntKind.i64.wrap (a : Int) = (a : Int) := by rw [IntKind.wrap_i64]; omega
  go_enter FG, bMerge_n nm fr fm ts te tc ti tb tu t0
  go_wp2
  go_loopw [10, 11] (fun vi vj wr => ∃ (i j : Nat), vi = .int .i64 i ∧ vj = .int .i64 j ∧ m ≤ i ∧ i ≤ j ∧ j ≤ b ∧ Hid (SWK enc k w0 blk off d wr) ∧ Hid (∀ t, m ≤ t → t < i → ltOf cf d[t]! d[a]! = true) ∧ Hid (j = b ∨ ltOf cf d[j]! d[a]! = false)) (fun vi vj _ => (intOf vj).toNat - (intOf vi).toNat)
  case atStart => exact ⟨m, b, rfl, rfl, Nat.le_refl _, by omega, Nat.le_refl _, S0, Lib.hid (fun t h1 h2 => by omega), Lib.hid (.inl rfl)⟩
  case round =>
    clear S0
    obtain ⟨i, j, rfl, rfl, hmi, hij, hjb, SK, HL, HR⟩ := hrel
    by_cases hlt : i < j
    · have hlt' : (i : Int) < (j : Int) := by omega
      obtain ⟨s, hs2⟩ : ∃ s, s = i + j := ⟨_, rfl⟩
      have e2 : (i : Int) + (j : Int) = (s : Int) := by omega
      obtain ⟨h, hh⟩ : ∃ h, h = s / 2 := ⟨_, rfl⟩
      have g3 : i ≤ h := by omega
      have g4 : h < j := by omega
      have w_s : IntKind.i64.wrap (s : Int) = (s : Int) := by rw [IntKind.wrap_i64]; omega
      have wu_s : IntKind.u64.wrap (s : Int) = (s : Int) := by rw [IntKind.wrap_u64]; omega
      have w_h : IntKind.i64.wrap (h : Int) = (h : Int) := by rw [IntKind.wrap_i64]; omega
      have e3 : (s : Int) / 2 = (h : Int) := by omega
      clear hs2 hh
      have h_p : (0 : Int) ≤ (h : Int) := by omega
      have h_u : (h : Int) < (d.size : Int) := by omega
      have h_n : ((h : Int)).toNat = h := by omega
      obtain ⟨x, hx⟩ : ∃ x, x = d[h]! := ⟨_, rfl⟩
      obtain ⟨y, hy⟩ : ∃ y, y = d[a]! := ⟨_, rfl⟩
      have lx := SK.out.ld R (by omega) P h (by omega)
      have ly := SK.out.ld R (by omega) P a (by omega)
      rw [← hx] at lx
      rw [← hy] at ly
      have hc := SK.out.cmp HC.out (by omega) x y
      have HX := Lib.hid hx
      have HY := Lib.hid hy
      clear hx hy
      cases hl : ltOf cf x y
      · have hd : decide (cf x y < 0) = false := hl
        have HR2 := Lib.hid (show h = b ∨ ltOf cf d[h]! d[a]! = false from .inr (by rw [← HX.out, ← HY.out]; exact hl))
        clear hl
        go_wp2_with fail
        go_quiet_grown (first | (go_at_fn g; refine Calls.grown_of (hc _ _)))
        have SV := Lib.hid (SK.out.grown nq osq)
        clear lx ly hc SK hd HR HX HY
        generalize grow (wr.drewN nq) osq = wv at *
        clear nq osq
        go_wp2
        go_roundw
        case rel => exact ⟨i, h, rfl, rfl, hmi, g3, by omega, SV, HL, HR2⟩
        case measure => simp [intOf]; omega
      · have hd : decide (cf x y < 0) = true := hl
        have HL2 := Lib.hid (show ∀ t, m ≤ t → t < h + 1 → ltOf cf d[t]! d[a]! = true from fun t t1 t2 => by
          have h1 : ltOf cf d[h]! d[a]! = true := by rw [← HX.out, ← HY.out]; exact hl
          have h2 : ltOf cf d[h]! d[t]! = false := sorted_le HO.out HBS.out (by omega) (by omega) (by omega)
          exact swo_le_lt HO.out h2 h1)
        clear hl
        go_wp2_with fail
        go_quiet_grown (first | (go_at_fn g; refine Calls.grown_of (hc _ _)))
        have SV := Lib.hid (SK.out.grown nq osq)
        clear lx ly hc SK hd HL HX HY
        generalize grow (wr.drewN nq) osq = wv at *
        clear nq osq
        go_wp2
        go_roundw
        case rel => exact ⟨h + 1, j, by go_num, rfl, by omega, g4, hjb, SV, HL2, HR⟩
        case measure => simp [intOf]; omega
    · have hji : ¬ (i : Int) < (j : Int) := by omega
      have HR2 := Lib.hid (show i = b ∨ ltOf cf d[i]! d[a]! = false by rw [show i = j by omega]; exact HR.out)
      have hib : i ≤ b := by omega
      obtain ⟨ip, hip⟩ : ∃ ip, ip = i - 1 := ⟨_, rfl⟩
      have e2 : (i : Int) - 1 = (ip : Int) := by omega
      have w_ip : IntKind.i64.wrap (ip : Int) = (ip : Int) := by rw [IntKind.wrap_i64]; omega
      have g5 : ip + 1 ≤ i := by omega
      have g6 : i ≤ ip + 1 := by omega
      clear hip HR
      have RZ := Lib.hid (RotOk.refl d a (a + 1))
      have PZ := Lib.hid (permIn_refl d a b)
      go_wp2
      go_loopw [13] (fun vk wk => ∃ (q : Nat) (dk : Array α), vk = .int .i64 q ∧ a ≤ q ∧ q ≤ ip ∧ dk.size = d.size ∧ Hid (SWK enc k w0 blk off dk wk) ∧ Hid (RotOk d a (a + 1) (q + 1) dk) ∧ Hid (PermIn a b d dk)) (fun vk _ => ip - (intOf vk).toNat)
      case atStart => exact ⟨a, d, rfl, Nat.le_refl _, by omega, rfl, SK, RZ, PZ⟩
      case round =>
        clear SK RZ PZ
        obtain ⟨p, dk, rfl, hap, hpi, hsk, SK, RK, PK⟩ := hrel
        by_cases hlt2 : p < ip
        · have hlt' : (p : Int) < (ip : Int) := by omega
          obtain ⟨q, hq⟩ : ∃ q, q = p + 1 := ⟨_, rfl⟩
          have e3 : (p : Int) + 1 = (q : Int) := by omega
          have p_p : (0 : Int) ≤ (p : Int) := by omega
          have p_u : (p : Int) < (d.size : Int) := by omega
          have p_n : ((p : Int)).toNat = p := by omega
          have p_w : IntKind.i64.wrap (p : Int) = (p : Int) := by rw [IntKind.wrap_i64]; omega
          have q_p : (0 : Int) ≤ (q : Int) := by omega
          have q_u : (q : Int) < (d.size : Int) := by omega
          have q_n : ((q : Int)).toNat = q := by omega
          have q_w : IntKind.i64.wrap (q : Int) = (q : Int) := by rw [IntKind.wrap_i64]; omega
          have RZ := Lib.hid (show RotOk d a (a + 1) (p + 2) (swp dk p q) by rw [hq]; exact rot_on RK.out hap (by omega))
          have PZ := Lib.hid (show PermIn a b d (swp dk p q) from permIn_trans _ _ _ _ _ PK.out (swp_permIn dk a b p q (by omega) (by omega) (by omega) (by omega) (by omega)))
          have hpd : p < dk.size := by omega
          have hqd : q < dk.size := by omega
          have g7 : p + 1 ≤ q := by omega
          have g8 : q ≤ p + 1 := by omega
          clear hq RK PK
          go_wp2_with fail
          have SW := Lib.hid (SK.out.swapped R p q hpd hqd)
          have l1 := SK.out.ld1 R (by omega) P p hpd
          have l2 := SK.out.ld1 R (by omega) P q hqd
          have s1 := SK.out.st1 R (by omega) P p hpd dk[q]!
          have s2 := SK.out.st2 R (by omega) P p q hpd hqd dk[q]! dk[p]!
          have n1 : (enc dk[p]!).length = k := R.hk _
          have n2 : (enc dk[q]!).length = k := R.hk _
          generalize enc dk[p]! = cI at SW l1 s2 n1
          generalize enc dk[q]! = cJ at SW l2 s1 s2 n2
          clear SK
          go_wp2_with fail
          go_big_region_o
          clear l1 l2 s1 s2 n1 n2
          generalize (wr.drew.setCells blk (off + p * k) cJ).setCells blk (off + q * k) cI = wz at SW ⊢
          go_wp2
          go_roundw
          case rel => exact ⟨q, _, rfl, by omega, by omega, by rw [size_swp]; exact hsk, SW, Lib.hid (by rw [show q + 1 = p + 2 by omega]; exact RZ.out), PZ⟩
          case measure => simp [intOf]; omega
        · have hge : ¬ (p : Int) < (ip : Int) := by omega
          have HE := Lib.hid (merge_left HO.out HBS.out (by rw [show i = p + 1 by omega]; exact RK.out) (by omega) hib hb (fun t t1 t2 => HL.out t (by omega) t2) HR2.out PK.out)
          go_wp2
          go_end0
          rw [← HQ.out]
          exact ⟨rfl, dk, SK.out, HE.out.1, HE.out.2⟩
end Go.Proofs.YtfdfdmbnggpnbaaGreat
namespace Go.Proofs.YtfdfdmbnggpnbaaGreat
open Go.Shelf Go.RowKit Go.Lib Go.Sort
variable {P : Program} {α : Type} [Inhabited α]
variable {fs fr fm fi fb ft ts te tc ti tb tu t0 k : Nat} {enc : α → List Value} {cf : α → α → Int} {g : Nat} {cb : Array Value} {blk off : Nat} {d0 : Array α} {w0 : World}
set_option maxHeartbeats 8000000 in
set_option maxRecDepth 1000000 in
theorem merge_right_any (L : StabLays P fs fr fm fi fb ft ts te tc ti tb tu t0) (F : StabFam P te k enc cf g cb blk off d0 w0) (cap a m : Nat) (d : Array α) (W : World) (hs : d0.size = d.size) (S : SWK enc k w0 blk off d W) (ham : a + 1 < m) (hmb : m + 1 ≤ d.size) (hsz : d.size < 4611686018427387904) (hA : SortedIn (ltOf cf) a m d) :
    Calls P fm #[.slice (some ⟨blk, off, none⟩) d.size cap, .int .i64 a, .int .i64 m, .int .i64 ((m + 1 : Nat) : Int), .func (.func g) #[] cb] W (MergeQ enc k w0 blk off cf a (m + 1) d) := by
  obtain ⟨b, hm⟩ : ∃ b, b = m + 1 := ⟨_, rfl⟩
  rw [← hm]
  have mixed := L.mixed; have u0 := L.u0; have a0 := L.a0; have z0 := L.z0; have v0 := L.v0; have ui := L.ui; have ai := L.ai; have zi := L.zi; have vi := L.vi; have ub := L.ub; have ab := L.ab; have zb := L.zb; have vb := L.vb; have us := L.us; have aS := L.aS; have zs := L.zs; have vs := L.vs; have uc := L.uc; have ac := L.ac; have zc := L.zc; have vc := L.vc; have uu := L.uu; have au := L.au; have zu := L.zu; have vu := L.vu
  obtain ⟨nm, FG⟩ := L.fme
  obtain ⟨aE, zE, eg, hcmp, hsw, R⟩ := F
  have HC := Lib.hid hcmp
  have HO := Lib.hid hsw
  have S0 := Lib.hid S
  have HAS := Lib.hid hA
  generalize hQ : MergeQ enc k w0 blk off cf a b d = Q
  have HQ := Lib.hid hQ
  clear hcmp S hA hsw hQ
  obtain ⟨u, hu⟩ : ∃ u, u = m - a := ⟨_, rfl⟩
  have e1 : (m : Int) - (a : Int) = (u : Int) := by omega
  have w_u : IntKind.i64.wrap (u : Int) = (u : Int) := by rw [IntKind.wrap_i64]; omega
  have d1 : ((u : Int) == 1) = false := by simp; omega
  have e0 : (b : Int) - (m : Int) = 1 := by omega
  have g1 : b ≤ m + 1 := by omega
  have g2 : m + 1 ≤ b := by omega
  have HM := Lib.hid hm
  clear hm hu
  have m_p : (0 : Int) ≤ (m : Int) := by omega
  have m_u : (m : Int) < (d.size : Int) := by omega
  have m_n : ((m : Int)).toNat = m := by omega
  have m_w : IntKind.i64.wrap (m : Int) = (m : Int) := by rw [IntKind.wrap_i64]; omega
  go_enter FG, bMerge_n nm fr fm ts te tc ti tb tu t0
  go_wp2
  go_loopw [14, 15] (fun vi vj wr => ∃ (i j : Nat), vi = .int .i64 i ∧ vj = .int .i64 j ∧ a ≤ i ∧ i ≤ j ∧ j ≤ m ∧ Hid (SWK enc k w0 blk off d wr) ∧ Hid (∀ t, a ≤ t → t < i → ltOf cf d[m]! d[t]! = false) ∧ Hid (j = m ∨ ltOf cf d[m]! d[j]! = true)) (fun vi vj _ => (intOf vj).toNat - (intOf vi).toNat)
  case atStart => exact ⟨a, m, rfl, rfl, Nat.le_refl _, by omega, Nat.le_refl _, S0, Lib.hid (fun t h1 h2 => by omega), Lib.hid (.inl rfl)⟩
  case round =>
    clear S0
    obtain ⟨i, j, rfl, rfl, hmi, hij, hjb, SK, HL, HR⟩ := hrel
    by_cases hlt : i < j
    · have hlt' : (i : Int) < (j : Int) := by omega
      obtain ⟨s, hs2⟩ : ∃ s, s = i + j := ⟨_, rfl⟩
      have e2 : (i : Int) + (j : Int) = (s : Int) := by omega
      obtain ⟨h, hh⟩ : ∃ h, h = s / 2 := ⟨_, rfl⟩
      have g3 : i ≤ h := by omega
      have g4 : h < j := by omega
      have w_s : IntKind.i64.wrap (s : Int) = (s : Int) := by rw [IntKind.wrap_i64]; omega
      have wu_s : IntKind.u64.wrap (s : Int) = (s : Int) := by rw [IntKind.wrap_u64]; omega
      have w_h : IntKind.i64.wrap (h : Int) = (h : Int) := by rw [IntKind.wrap_i64]; omega
      have e3 : (s : Int) / 2 = (h : Int) := by omega
      clear hs2 hh
      have h_p : (0 : Int) ≤ (h : Int) := by omega
      have h_u : (h : Int) < (d.size : Int) := by omega
      have h_n : ((h : Int)).toNat = h := by omega
      obtain ⟨x, hx⟩ : ∃ x, x = d[m]! := ⟨_, rfl⟩
      obtain ⟨y, hy⟩ : ∃ y, y = d[h]! := ⟨_, rfl⟩
      have lx := SK.out.ld R (by omega) P m (by omega)
      have ly := SK.out.ld R (by omega) P h (by omega)
      rw [← hx] at lx
      rw [← hy] at ly
      have hc := SK.out.cmp HC.out (by omega) x y
      have HX := Lib.hid hx
      have HY := Lib.hid hy
      clear hx hy
      cases hl : ltOf cf x y
      · have hd : decide (cf x y < 0) = false := hl
        have HL2 := Lib.hid (show ∀ t, a ≤ t → t < h + 1 → ltOf cf d[m]! d[t]! = false from fun t t1 t2 => by
          have h1 : ltOf cf d[m]! d[h]! = false := by rw [← HX.out, ← HY.out]; exact hl
          exact HO.out.ntrans _ _ _ h1 (sorted_le HO.out HAS.out t1 (by omega) (by omega)))
        clear hl
        go_wp2_with fail
        go_quiet_grown (first | (go_at_fn g; refine Calls.grown_of (hc _ _)))
        have SV := Lib.hid (SK.out.grown nq osq)
        clear lx ly hc SK hd HL HX HY
        generalize grow (wr.drewN nq) osq = wv at *
        clear nq osq
        go_wp2
        go_roundw
        case rel => exact ⟨h + 1, j, by go_num, rfl, by omega, g4, hjb, SV, HL2, HR⟩
        case measure => simp [intOf]; omega
      · have hd : decide (cf x y < 0) = true := hl
        have HR2 := Lib.hid (show h = m ∨ ltOf cf d[m]! d[h]! = true from .inr (by rw [← HX.out, ← HY.out]; exact hl))
        clear hl
        go_wp2_with fail
        go_quiet_grown (first | (go_at_fn g; refine Calls.grown_of (hc _ _)))
        have SV := Lib.hid (SK.out.grown nq osq)
        clear lx ly hc SK hd HR HX HY
        generalize grow (wr.drewN nq) osq = wv at *
        clear nq osq
        go_wp2
        go_roundw
        case rel => exact ⟨i, h, rfl, rfl, hmi, g3, by omega, SV, HL, HR2⟩
        case measure => simp [intOf]; omega
    · have hji : ¬ (i : Int) < (j : Int) := by omega
      have HR2 := Lib.hid (show i = m ∨ ltOf cf d[m]! d[i]! = true by rw [show i = j by omega]; exact HR.out)
      have him : i ≤ m := by omega
      clear HR
      have RZ := Lib.hid (RotOk.refl' d m (m + 1))
      have PZ := Lib.hid (permIn_refl d a (m + 1))
      go_wp2
      go_loopw [17] (fun vk wk => ∃ (q : Nat) (dk : Array α), vk = .int .i64 q ∧ i ≤ q ∧ q ≤ m ∧ dk.size = d.size ∧ Hid (SWK enc k w0 blk off dk wk) ∧ Hid (RotOk d q m (m + 1) dk) ∧ Hid (PermIn a (m + 1) d dk)) (fun vk _ => (intOf vk).toNat)
      case atStart => exact ⟨m, d, rfl, him, Nat.le_refl _, rfl, SK, RZ, PZ⟩
      case round =>
        clear SK RZ PZ
        obtain ⟨p, dk, rfl, hap, hpi, hsk, SK, RK, PK⟩ := hrel
        by_cases hlt2 : i < p
        · have hlt' : (i : Int) < (p : Int) := by omega
          obtain ⟨q, hq⟩ : ∃ q, q = p - 1 := ⟨_, rfl⟩
          have e3 : (p : Int) - 1 = (q : Int) := by omega
          have p_p : (0 : Int) ≤ (p : Int) := by omega
          have p_u : (p : Int) < (d.size : Int) := by omega
          have p_n : ((p : Int)).toNat = p := by omega
          have p_w : IntKind.i64.wrap (p : Int) = (p : Int) := by rw [IntKind.wrap_i64]; omega
          have q_p : (0 : Int) ≤ (q : Int) := by omega
          have q_u : (q : Int) < (d.size : Int) := by omega
          have q_n : ((q : Int)).toNat = q := by omega
          have q_w : IntKind.i64.wrap (q : Int) = (q : Int) := by rw [IntKind.wrap_i64]; omega
          have g7 : q + 1 ≤ p := by omega
          have g8 : p ≤ q + 1 := by omega
          clear hq
          have RZ := Lib.hid (show RotOk d q m (m + 1) (swp dk p q) by
            have h1 := RK.out
            rw [show p = q + 1 by omega] at h1 ⊢
            exact rot_off h1 (by omega) (by omega))
          have PZ := Lib.hid (show PermIn a (m + 1) d (swp dk p q) from permIn_trans _ _ _ _ _ PK.out (swp_permIn dk a (m + 1) p q (by omega) (by omega) (by omega) (by omega) (by omega)))
          have hpd : p < dk.size := by omega
          have hqd : q < dk.size := by omega
          clear RK PK
          go_wp2_with fail
          have SW := Lib.hid (SK.out.swapped R p q hpd hqd)
          have l1 := SK.out.ld1 R (by omega) P p hpd
          have l2 := SK.out.ld1 R (by omega) P q hqd
          have s1 := SK.out.st1 R (by omega) P p hpd dk[q]!
          have s2 := SK.out.st2 R (by omega) P p q hpd hqd dk[q]! dk[p]!
          have n1 : (enc dk[p]!).length = k := R.hk _
          have n2 : (enc dk[q]!).length = k := R.hk _
          generalize enc dk[p]! = cI at SW l1 s2 n1
          generalize enc dk[q]! = cJ at SW l2 s1 s2 n2
          clear SK
          go_wp2_with fail
          go_big_region_o
          clear l1 l2 s1 s2 n1 n2
          generalize (wr.drew.setCells blk (off + p * k) cJ).setCells blk (off + q * k) cI = wz at SW ⊢
          go_wp2
          go_roundw
          case rel => exact ⟨q, _, rfl, by omega, by omega, by rw [size_swp]; exact hsk, SW, RZ, PZ⟩
          case measure => simp [intOf]; omega
        · have hge : ¬ (i : Int) < (p : Int) := by omega
          have HE := Lib.hid (merge_right HO.out HAS.out (by rw [show i = p by omega]; exact RK.out) hmi him hmb HL.out HR2.out PK.out)
          go_wp2
          go_end0
          rw [← HQ.out]
          exact ⟨rfl, dk, SK.out, by rw [HM.out]; exact HE.out.1, by rw [HM.out]; exact HE.out.2⟩
end Go.Proofs.YtfdfdmbnggpnbaaGreat
