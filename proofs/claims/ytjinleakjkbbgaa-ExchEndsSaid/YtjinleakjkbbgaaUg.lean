/- The library's symmetric merge where the second row is one item, walked over any program and any struct. Conditions: what the words say; fewer than 2 to the 62 items. -/
import Derived.Test.YtjinleakjkbbgaaUf
namespace Go.Proofs.Ytjinleakjkbbgaa
open Go.Shelf Go.RowKit Go.Lib Go.Sort
variable {P : Program} {α : Type} [Inhabited α]
variable {fs fr fm fi fb ft ts te tc ti tb tu t0 k : Nat} {enc : α → List Value} {cf : α → α → Int} {g : Nat} {cb : Array Value} {blk off : Nat} {d0 : Array α} {w0 : World}
set_option maxHeartbeats 8000000 in
set_option maxRecDepth 1000000 in
theorem merge_right_any (L : StabLays P fs fr fm fi fb ft ts te tc ti tb tu t0) (F : StabFam P te k enc cf g cb blk off d0 w0) (cap a m : Nat) (d : Array α) (W : World) (hs : d0.size = d.size) (S : SWK enc k w0 blk off d W) (ham : a + 1 < m) (hmb : m + 1 ≤ d.size) (hsz : d.size < 4611686018427387904) (hA : SortedIn (ltOf cf) a m d) :
    Calls P fm #[.slice (some ⟨blk, off, none⟩) d.size cap, .int .i64 a, .int .i64 m, .int .i64 ((m + 1 : Nat) : Int), .func (.func g) #[] cb] W (MergeQ enc k w0 blk off cf a (m + 1) d) := by
  obtain ⟨b, hm⟩ : ∃ b, b = m + 1 := ⟨_, rfl⟩
  rw [← hm]
  have mixed := L.mixed; have u0 := L.u0; have a0 := L.a0; have z0 := L.z0; have v0 := L.v0; have ui := L.ui; have ai := L.ai; have zi := L.zi; have vi := L.vi; have ub := L.ub; have ab := L.ab; have zb := L.zb; have vb := L.vb; have us := L.us; have aS := L.aS; have zs := L.zs; have vs := L.vs; have uc := L.uc; have ac := L.ac; have zc := L.zc; have vc := L.vc; have uu := L.uu; have au := L.au; have zu := L.zu; have vu := L.vu
  obtain ⟨nm, FG⟩ := L.fme
  obtain ⟨aE, zE, eg, hcmp, hsw, R⟩ := F
  have HC := Lib.hid hcmp
  have HO := Lib.hid hsw
  have S0 := Lib.hid S
  have HAS := Lib.hid hA
  generalize hQ : MergeQ enc k w0 blk off cf a b d = Q
  have HQ := Lib.hid hQ
  clear hcmp S hA hsw hQ
  obtain ⟨u, hu⟩ : ∃ u, u = m - a := ⟨_, rfl⟩
  have e1 : (m : Int) - (a : Int) = (u : Int) := by omega
  have w_u : IntKind.i64.wrap (u : Int) = (u : Int) := by rw [IntKind.wrap_i64]; omega
  have d1 : ((u : Int) == 1) = false := by simp; omega
  have e0 : (b : Int) - (m : Int) = 1 := by omega
  have g1 : b ≤ m + 1 := by omega
  have g2 : m + 1 ≤ b := by omega
  have HM := Lib.hid hm
  clear hm hu
  have m_p : (0 : Int) ≤ (m : Int) := by omega
  have m_u : (m : Int) < (d.size : Int) := by omega
  have m_n : ((m : Int)).toNat = m := by omega
  have m_w : IntKind.i64.wrap (m : Int) = (m : Int) := by rw [IntKind.wrap_i64]; omega
  go_enter FG, bMerge_n nm fr fm ts te tc ti tb tu t0
  go_wp2
  go_loopw [14, 15] (fun vi vj wr => ∃ (i j : Nat), vi = .int .i64 i ∧ vj = .int .i64 j ∧ a ≤ i ∧ i ≤ j ∧ j ≤ m ∧ Hid (SWK enc k w0 blk off d wr) ∧ Hid (∀ t, a ≤ t → t < i → ltOf cf d[m]! d[t]! = false) ∧ Hid (j = m ∨ ltOf cf d[m]! d[j]! = true)) (fun vi vj _ => (intOf vj).toNat - (intOf vi).toNat)
  case atStart => exact ⟨a, m, rfl, rfl, Nat.le_refl _, by omega, Nat.le_refl _, S0, Lib.hid (fun t h1 h2 => by omega), Lib.hid (.inl rfl)⟩
  case round =>
    clear S0
    obtain ⟨i, j, rfl, rfl, hmi, hij, hjb, SK, HL, HR⟩ := hrel
    by_cases hlt : i < j
    · have hlt' : (i : Int) < (j : Int) := by omega
      obtain ⟨s, hs2⟩ : ∃ s, s = i + j := ⟨_, rfl⟩
      have e2 : (i : Int) + (j : Int) = (s : Int) := by omega
      obtain ⟨h, hh⟩ : ∃ h, h = s / 2 := ⟨_, rfl⟩
      have g3 : i ≤ h := by omega
      have g4 : h < j := by omega
      have w_s : IntKind.i64.wrap (s : Int) = (s : Int) := by rw [IntKind.wrap_i64]; omega
      have wu_s : IntKind.u64.wrap (s : Int) = (s : Int) := by rw [IntKind.wrap_u64]; omega
      have w_h : IntKind.i64.wrap (h : Int) = (h : Int) := by rw [IntKind.wrap_i64]; omega
      have e3 : (s : Int) / 2 = (h : Int) := by omega
      clear hs2 hh
      have h_p : (0 : Int) ≤ (h : Int) := by omega
      have h_u : (h : Int) < (d.size : Int) := by omega
      have h_n : ((h : Int)).toNat = h := by omega
      obtain ⟨x, hx⟩ : ∃ x, x = d[m]! := ⟨_, rfl⟩
      obtain ⟨y, hy⟩ : ∃ y, y = d[h]! := ⟨_, rfl⟩
      have lx := SK.out.ld R (by omega) P m (by omega)
      have ly := SK.out.ld R (by omega) P h (by omega)
      rw [← hx] at lx
      rw [← hy] at ly
      have hc := SK.out.cmp HC.out (by omega) x y
      have HX := Lib.hid hx
      have HY := Lib.hid hy
      clear hx hy
      cases hl : ltOf cf x y
      · have hd : decide (cf x y < 0) = false := hl
        have HL2 := Lib.hid (show ∀ t, a ≤ t → t < h + 1 → ltOf cf d[m]! d[t]! = false from fun t t1 t2 => by
          have h1 : ltOf cf d[m]! d[h]! = false := by rw [← HX.out, ← HY.out]; exact hl
          exact HO.out.ntrans _ _ _ h1 (sorted_le HO.out HAS.out t1 (by omega) (by omega)))
        clear hl
        go_wp2_with fail
        go_quiet_grown (first | (go_at_fn g; refine Calls.grown_of (hc _ _)))
        have SV := Lib.hid (SK.out.grown nq osq)
        clear lx ly hc SK hd HL HX HY
        generalize grow (wr.drewN nq) osq = wv at *
        clear nq osq
        go_wp2
        go_roundw
        case rel => exact ⟨h + 1, j, by go_num, rfl, by omega, g4, hjb, SV, HL2, HR⟩
        case measure => simp [intOf]; omega
      · have hd : decide (cf x y < 0) = true := hl
        have HR2 := Lib.hid (show h = m ∨ ltOf cf d[m]! d[h]! = true from .inr (by rw [← HX.out, ← HY.out]; exact hl))
        clear hl
        go_wp2_with fail
        go_quiet_grown (first | (go_at_fn g; refine Calls.grown_of (hc _ _)))
        have SV := Lib.hid (SK.out.grown nq osq)
        clear lx ly hc SK hd HR HX HY
        generalize grow (wr.drewN nq) osq = wv at *
        clear nq osq
        go_wp2
        go_roundw
        case rel => exact ⟨i, h, rfl, rfl, hmi, g3, by omega, SV, HL, HR2⟩
        case measure => simp [intOf]; omega
    · have hji : ¬ (i : Int) < (j : Int) := by omega
      have HR2 := Lib.hid (show i = m ∨ ltOf cf d[m]! d[i]! = true by rw [show i = j by omega]; exact HR.out)
      have him : i ≤ m := by omega
      clear HR
      have RZ := Lib.hid (RotOk.refl' d m (m + 1))
      have PZ := Lib.hid (permIn_refl d a (m + 1))
      go_wp2
      go_loopw [17] (fun vk wk => ∃ (q : Nat) (dk : Array α), vk = .int .i64 q ∧ i ≤ q ∧ q ≤ m ∧ dk.size = d.size ∧ Hid (SWK enc k w0 blk off dk wk) ∧ Hid (RotOk d q m (m + 1) dk) ∧ Hid (PermIn a (m + 1) d dk)) (fun vk _ => (intOf vk).toNat)
      case atStart => exact ⟨m, d, rfl, him, Nat.le_refl _, rfl, SK, RZ, PZ⟩
      case round =>
        clear SK RZ PZ
        obtain ⟨p, dk, rfl, hap, hpi, hsk, SK, RK, PK⟩ := hrel
        by_cases hlt2 : i < p
        · have hlt' : (i : Int) < (p : Int) := by omega
          obtain ⟨q, hq⟩ : ∃ q, q = p - 1 := ⟨_, rfl⟩
          have e3 : (p : Int) - 1 = (q : Int) := by omega
          have p_p : (0 : Int) ≤ (p : Int) := by omega
          have p_u : (p : Int) < (d.size : Int) := by omega
          have p_n : ((p : Int)).toNat = p := by omega
          have p_w : IntKind.i64.wrap (p : Int) = (p : Int) := by rw [IntKind.wrap_i64]; omega
          have q_p : (0 : Int) ≤ (q : Int) := by omega
          have q_u : (q : Int) < (d.size : Int) := by omega
          have q_n : ((q : Int)).toNat = q := by omega
          have q_w : IntKind.i64.wrap (q : Int) = (q : Int) := by rw [IntKind.wrap_i64]; omega
          have g7 : q + 1 ≤ p := by omega
          have g8 : p ≤ q + 1 := by omega
          clear hq
          have RZ := Lib.hid (show RotOk d q m (m + 1) (swp dk p q) by
            have h1 := RK.out
            rw [show p = q + 1 by omega] at h1 ⊢
            exact rot_off h1 (by omega) (by omega))
          have PZ := Lib.hid (show PermIn a (m + 1) d (swp dk p q) from permIn_trans _ _ _ _ _ PK.out (swp_permIn dk a (m + 1) p q (by omega) (by omega) (by omega) (by omega) (by omega)))
          have hpd : p < dk.size := by omega
          have hqd : q < dk.size := by omega
          clear RK PK
          go_wp2_with fail
          have SW := Lib.hid (SK.out.swapped R p q hpd hqd)
          have l1 := SK.out.ld1 R (by omega) P p hpd
          have l2 := SK.out.ld1 R (by omega) P q hqd
          have s1 := SK.out.st1 R (by omega) P p hpd dk[q]!
          have s2 := SK.out.st2 R (by omega) P p q hpd hqd dk[q]! dk[p]!
          have n1 : (enc dk[p]!).length = k := R.hk _
          have n2 : (enc dk[q]!).length = k := R.hk _
          generalize enc dk[p]! = cI at SW l1 s2 n1
          generalize enc dk[q]! = cJ at SW l2 s1 s2 n2
          clear SK
          go_wp2_with fail
          go_big_region_o
          clear l1 l2 s1 s2 n1 n2
          generalize (wr.drew.setCells blk (off + p * k) cJ).setCells blk (off + q * k) cI = wz at SW ⊢
          go_wp2
          go_roundw
          case rel => exact ⟨q, _, rfl, by omega, by omega, by rw [size_swp]; exact hsk, SW, RZ, PZ⟩
          case measure => simp [intOf]; omega
        · have hge : ¬ (i : Int) < (p : Int) := by omega
          have HE := Lib.hid (merge_right HO.out HAS.out (by rw [show i = p by omega]; exact RK.out) hmi him hmb HL.out HR2.out PK.out)
          go_wp2
          go_end0
          rw [← HQ.out]
          exact ⟨rfl, dk, SK.out, by rw [HM.out]; exact HE.out.1, by rw [HM.out]; exact HE.out.2⟩
end Go.Proofs.Ytjinleakjkbbgaa
