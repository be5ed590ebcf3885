/- The library's symmetric merge where one row is one item, walked over any program and any struct. Conditions: what the words say; fewer than 2 to the 62 items. -/
import Derived.Test.YtjinleakjkbbgaaUd
import Derived.Test.YtjinleakjkbbgaaUe
namespace Go.Proofs.Ytjinleakjkbbgaa
open Go.Shelf Go.RowKit Go.Lib Go.Sort
variable {P : Program} {α : Type} [Inhabited α]
variable {fs fr fm fi fb ft ts te tc ti tb tu t0 k : Nat} {enc : α → List Value} {cf : α → α → Int} {g : Nat} {cb : Array Value} {blk off : Nat} {d0 : Array α} {w0 : World}
/-- What a merge leaves. -/
def MergeQ (enc : α → List Value) (k : Nat) (w0 : World) (blk off : Nat) (cf : α → α → Int) (a b : Nat) (d : Array α) : Ending → World → Prop := fun e w' =>
  e = .returned (.tuple #[]) ∧ ∃ d', SWK enc k w0 blk off d' w' ∧ Mix (ltOf cf) a b d d' ∧ SortedIn (ltOf cf) a b d'
set_option maxHeartbeats 8000000 in
set_option maxRecDepth 1000000 in
theorem merge_left_any (L : StabLays P fs fr fm fi fb ft ts te tc ti tb tu t0) (F : StabFam P te k enc cf g cb blk off d0 w0) (cap a b : Nat) (d : Array α) (W : World) (hs : d0.size = d.size) (S : SWK enc k w0 blk off d W) (hmb : a + 1 < b) (hb : b ≤ d.size) (hsz : d.size < 4611686018427387904) (hB : SortedIn (ltOf cf) (a + 1) b d) :
    Calls P fm #[.slice (some ⟨blk, off, none⟩) d.size cap, .int .i64 a, .int .i64 ((a + 1 : Nat) : Int), .int .i64 b, .func (.func g) #[] cb] W (MergeQ enc k w0 blk off cf a b d) := by
  obtain ⟨m, hm⟩ : ∃ m, m = a + 1 := ⟨_, rfl⟩
  rw [← hm]
  have mixed := L.mixed; have u0 := L.u0; have a0 := L.a0; have z0 := L.z0; have v0 := L.v0; have ui := L.ui; have ai := L.ai; have zi := L.zi; have vi := L.vi; have ub := L.ub; have ab := L.ab; have zb := L.zb; have vb := L.vb; have us := L.us; have aS := L.aS; have zs := L.zs; have vs := L.vs; have uc := L.uc; have ac := L.ac; have zc := L.zc; have vc := L.vc; have uu := L.uu; have au := L.au; have zu := L.zu; have vu := L.vu
  obtain ⟨nm, FG⟩ := L.fme
  obtain ⟨aE, zE, eg, hcmp, hsw, R⟩ := F
  have HC := Lib.hid hcmp
  have HO := Lib.hid hsw
  have S0 := Lib.hid S
  have HBS := Lib.hid hB
  generalize hQ : MergeQ enc k w0 blk off cf a b d = Q
  have HQ := Lib.hid hQ
  clear hcmp S hB hsw hQ
  have e1 : (m : Int) - (a : Int) = 1 := by omega
  have g1 : m ≤ a + 1 := by omega
  have g2 : a + 1 ≤ m := by omega
  have HM := Lib.hid hm
  clear hm
  have a_p : (0 : Int) ≤ (a : Int) := by omega
  have a_u : (a : Int) < (d.size : Int) := by omega
  have a_n : ((a : Int)).toNat = a := by omega
  have a_w : IntKind.i64.wrap (a : Int) = (a : Int) := by rw [IntKind.wrap_i64]; omega
  go_enter FG, bMerge_n nm fr fm ts te tc ti tb tu t0
  go_wp2
  go_loopw [10, 11] (fun vi vj wr => ∃ (i j : Nat), vi = .int .i64 i ∧ vj = .int .i64 j ∧ m ≤ i ∧ i ≤ j ∧ j ≤ b ∧ Hid (SWK enc k w0 blk off d wr) ∧ Hid (∀ t, m ≤ t → t < i → ltOf cf d[t]! d[a]! = true) ∧ Hid (j = b ∨ ltOf cf d[j]! d[a]! = false)) (fun vi vj _ => (intOf vj).toNat - (intOf vi).toNat)
  case atStart => exact ⟨m, b, rfl, rfl, Nat.le_refl _, by omega, Nat.le_refl _, S0, Lib.hid (fun t h1 h2 => by omega), Lib.hid (.inl rfl)⟩
  case round =>
    clear S0
    obtain ⟨i, j, rfl, rfl, hmi, hij, hjb, SK, HL, HR⟩ := hrel
    by_cases hlt : i < j
    · have hlt' : (i : Int) < (j : Int) := by omega
      obtain ⟨s, hs2⟩ : ∃ s, s = i + j := ⟨_, rfl⟩
      have e2 : (i : Int) + (j : Int) = (s : Int) := by omega
      obtain ⟨h, hh⟩ : ∃ h, h = s / 2 := ⟨_, rfl⟩
      have g3 : i ≤ h := by omega
      have g4 : h < j := by omega
      have w_s : IntKind.i64.wrap (s : Int) = (s : Int) := by rw [IntKind.wrap_i64]; omega
      have wu_s : IntKind.u64.wrap (s : Int) = (s : Int) := by rw [IntKind.wrap_u64]; omega
      have w_h : IntKind.i64.wrap (h : Int) = (h : Int) := by rw [IntKind.wrap_i64]; omega
      have e3 : (s : Int) / 2 = (h : Int) := by omega
      clear hs2 hh
      have h_p : (0 : Int) ≤ (h : Int) := by omega
      have h_u : (h : Int) < (d.size : Int) := by omega
      have h_n : ((h : Int)).toNat = h := by omega
      obtain ⟨x, hx⟩ : ∃ x, x = d[h]! := ⟨_, rfl⟩
      obtain ⟨y, hy⟩ : ∃ y, y = d[a]! := ⟨_, rfl⟩
      have lx := SK.out.ld R (by omega) P h (by omega)
      have ly := SK.out.ld R (by omega) P a (by omega)
      rw [← hx] at lx
      rw [← hy] at ly
      have hc := SK.out.cmp HC.out (by omega) x y
      have HX := Lib.hid hx
      have HY := Lib.hid hy
      clear hx hy
      cases hl : ltOf cf x y
      · have hd : decide (cf x y < 0) = false := hl
        have HR2 := Lib.hid (show h = b ∨ ltOf cf d[h]! d[a]! = false from .inr (by rw [← HX.out, ← HY.out]; exact hl))
        clear hl
        go_wp2_with fail
        go_quiet_grown (first | (go_at_fn g; refine Calls.grown_of (hc _ _)))
        have SV := Lib.hid (SK.out.grown nq osq)
        clear lx ly hc SK hd HR HX HY
        generalize grow (wr.drewN nq) osq = wv at *
        clear nq osq
        go_wp2
        go_roundw
        case rel => exact ⟨i, h, rfl, rfl, hmi, g3, by omega, SV, HL, HR2⟩
        case measure => simp [intOf]; omega
      · have hd : decide (cf x y < 0) = true := hl
        have HL2 := Lib.hid (show ∀ t, m ≤ t → t < h + 1 → ltOf cf d[t]! d[a]! = true from fun t t1 t2 => by
          have h1 : ltOf cf d[h]! d[a]! = true := by rw [← HX.out, ← HY.out]; exact hl
          have h2 : ltOf cf d[h]! d[t]! = false := sorted_le HO.out HBS.out (by omega) (by omega) (by omega)
          exact swo_le_lt HO.out h2 h1)
        clear hl
        go_wp2_with fail
        go_quiet_grown (first | (go_at_fn g; refine Calls.grown_of (hc _ _)))
        have SV := Lib.hid (SK.out.grown nq osq)
        clear lx ly hc SK hd HL HX HY
        generalize grow (wr.drewN nq) osq = wv at *
        clear nq osq
        go_wp2
        go_roundw
        case rel => exact ⟨h + 1, j, by go_num, rfl, by omega, g4, hjb, SV, HL2, HR⟩
        case measure => simp [intOf]; omega
    · have hji : ¬ (i : Int) < (j : Int) := by omega
      have HR2 := Lib.hid (show i = b ∨ ltOf cf d[i]! d[a]! = false by rw [show i = j by omega]; exact HR.out)
      have hib : i ≤ b := by omega
      obtain ⟨ip, hip⟩ : ∃ ip, ip = i - 1 := ⟨_, rfl⟩
      have e2 : (i : Int) - 1 = (ip : Int) := by omega
      have w_ip : IntKind.i64.wrap (ip : Int) = (ip : Int) := by rw [IntKind.wrap_i64]; omega
      have g5 : ip + 1 ≤ i := by omega
      have g6 : i ≤ ip + 1 := by omega
      clear hip HR
      have RZ := Lib.hid (RotOk.refl d a (a + 1))
      have PZ := Lib.hid (permIn_refl d a b)
      go_wp2
      go_loopw [13] (fun vk wk => ∃ (q : Nat) (dk : Array α), vk = .int .i64 q ∧ a ≤ q ∧ q ≤ ip ∧ dk.size = d.size ∧ Hid (SWK enc k w0 blk off dk wk) ∧ Hid (RotOk d a (a + 1) (q + 1) dk) ∧ Hid (PermIn a b d dk)) (fun vk _ => ip - (intOf vk).toNat)
      case atStart => exact ⟨a, d, rfl, Nat.le_refl _, by omega, rfl, SK, RZ, PZ⟩
      case round =>
        clear SK RZ PZ
        obtain ⟨p, dk, rfl, hap, hpi, hsk, SK, RK, PK⟩ := hrel
        by_cases hlt2 : p < ip
        · have hlt' : (p : Int) < (ip : Int) := by omega
          obtain ⟨q, hq⟩ : ∃ q, q = p + 1 := ⟨_, rfl⟩
          have e3 : (p : Int) + 1 = (q : Int) := by omega
          have p_p : (0 : Int) ≤ (p : Int) := by omega
          have p_u : (p : Int) < (d.size : Int) := by omega
          have p_n : ((p : Int)).toNat = p := by omega
          have p_w : IntKind.i64.wrap (p : Int) = (p : Int) := by rw [IntKind.wrap_i64]; omega
          have q_p : (0 : Int) ≤ (q : Int) := by omega
          have q_u : (q : Int) < (d.size : Int) := by omega
          have q_n : ((q : Int)).toNat = q := by omega
          have q_w : IntKind.i64.wrap (q : Int) = (q : Int) := by rw [IntKind.wrap_i64]; omega
          have RZ := Lib.hid (show RotOk d a (a + 1) (p + 2) (swp dk p q) by rw [hq]; exact rot_on RK.out hap (by omega))
          have PZ := Lib.hid (show PermIn a b d (swp dk p q) from permIn_trans _ _ _ _ _ PK.out (swp_permIn dk a b p q (by omega) (by omega) (by omega) (by omega) (by omega)))
          have hpd : p < dk.size := by omega
          have hqd : q < dk.size := by omega
          have g7 : p + 1 ≤ q := by omega
          have g8 : q ≤ p + 1 := by omega
          clear hq RK PK
          go_wp2_with fail
          have SW := Lib.hid (SK.out.swapped R p q hpd hqd)
          have l1 := SK.out.ld1 R (by omega) P p hpd
          have l2 := SK.out.ld1 R (by omega) P q hqd
          have s1 := SK.out.st1 R (by omega) P p hpd dk[q]!
          have s2 := SK.out.st2 R (by omega) P p q hpd hqd dk[q]! dk[p]!
          have n1 : (enc dk[p]!).length = k := R.hk _
          have n2 : (enc dk[q]!).length = k := R.hk _
          generalize enc dk[p]! = cI at SW l1 s2 n1
          generalize enc dk[q]! = cJ at SW l2 s1 s2 n2
          clear SK
          go_wp2_with fail
          go_big_region_o
          clear l1 l2 s1 s2 n1 n2
          generalize (wr.drew.setCells blk (off + p * k) cJ).setCells blk (off + q * k) cI = wz at SW ⊢
          go_wp2
          go_roundw
          case rel => exact ⟨q, _, rfl, by omega, by omega, by rw [size_swp]; exact hsk, SW, Lib.hid (by rw [show q + 1 = p + 2 by omega]; exact RZ.out), PZ⟩
          case measure => simp [intOf]; omega
        · have hge : ¬ (p : Int) < (ip : Int) := by omega
          have HE := Lib.hid (merge_left HO.out HBS.out (by rw [show i = p + 1 by omega]; exact RK.out) (by omega) hib hb (fun t t1 t2 => HL.out t (by omega) t2) HR2.out PK.out)
          go_wp2
          go_end0
          rw [← HQ.out]
          exact ⟨rfl, dk, SK.out, HE.out.1, HE.out.2⟩
end Go.Proofs.Ytjinleakjkbbgaa
