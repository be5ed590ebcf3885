/- The library's symmetric merge of any two rows in order, walked over any program and any struct. Conditions: what the words say; fewer than 2 to the 62 items. · The library's stable sort, walked over any program and any struct: what comes of it is in order, and those of each class are in the order in which they came. Conditions: what the words say; at most 2 to the 60 items. · Descriptions as they lie in memory: a head and two slices; lists of them of a call's own. No conditions. · The reference's Drop: the list without the one of a key, in new memory. Conditions: at most 1000 items. · The reference's Put: an error, or the list with it in its place. Conditions: at most 1000 items. · Plain facts on databases: lists of descriptions in the order of their keys. No program, no conditions. -/
import Derived.Deep.CutBlock
import Derived.Deep.DeepCutAuto
import Derived.Deep.MidRow
import Derived.IntWalk
import Derived.Deep.RegionHeld3
import Derived.Laws.FloatArith
import Derived.Laws.ComplexArith
import Derived.Deep.RegionLawGrows
import Derived.Test.YtfdfdmbnggpnbaaVaj
import Derived.Test.YtfdfdmbnggpnbaaVag
import Derived.Test.YtfdfdmbnggpnbaaVaf
import Derived.Test.YtfdfdmbnggpnbaaVah
import Derived.Test.YtfdfdmbnggpnbaaVaa
import Derived.Test.YtfdfdmbnggpnbaaVab
import Derived.Test.YtfdfdmbnggpnbaaVac
namespace Go.Proofs.Ytfdfdmbnggpnbaa
open Go.Shelf Go.RowKit Go.Lib Go.Sort
variable {P : Program} {α : Type} [Inhabited α]
variable {fs fr fm fi fb ft ts te tc ti tb tu t0 k : Nat} {enc : α → List Value} {cf : α → α → Int} {g : Nat} {cb : Array Value} {blk off : Nat} {d0 : Array α} {w0 : World}
set_option maxHeartbeats 16000000 in
set_option maxRecDepth 1000000 in
theorem merge_rec_any (L : StabLays P fs fr fm fi fb ft ts te tc ti tb tu t0) (F : StabFam P te k enc cf g cb blk off d0 w0) (cap a m b : Nat) (d : Array α) (W : World) (hs : d0.size = d.size) (S : SWK enc k w0 blk off d W) (ham : a + 1 < m) (hmb : m + 1 < b) (hb : b ≤ d.size) (hsz : d.size < 4611686018427387904) (hA : SortedIn (ltOf cf) a m d) (hB : SortedIn (ltOf cf) m b d)
    (IH : ∀ (a' m' b' : Nat) (d' : Array α) (W' : World), b' - a' < b - a → d'.size = d.size → SWK enc k w0 blk off d' W' → a' < m' → m' < b' → b' ≤ d.size → SortedIn (ltOf cf) a' m' d' → SortedIn (ltOf cf) m' b' d' →
      Calls P fm #[.slice (some ⟨blk, off, none⟩) d.size cap, .int .i64 a', .int .i64 m', .int .i64 b', .func (.func g) #[] cb] W' (MergeQ enc k w0 blk off cf a' b' d')) :
    Calls P fm #[.slice (some ⟨blk, off, none⟩) d.size cap, .int .i64 a, .int .i64 m, .int .i64 b, .func (.func g) #[] cb] W (MergeQ enc k w0 blk off cf a b d) := by
  have mixed := L.mixed; have u0 := L.u0; have a0 := L.a0; have z0 := L.z0; have v0 := L.v0; have ui := L.ui; have ai := L.ai; have zi := L.zi; have vi := L.vi; have ub := L.ub; have ab := L.ab; have zb := L.zb; have vb := L.vb; have us := L.us; have aS := L.aS; have zs := L.zs; have vs := L.vs; have uc := L.uc; have ac := L.ac; have zc := L.zc; have vc := L.vc; have uu := L.uu; have au := L.au; have zu := L.zu; have vu := L.vu
  have er := L.er
  have em := L.em
  obtain ⟨nm, FG⟩ := L.fme
  have RT := Lib.hid (fun (p q r : Nat) (W' : World) (S' : SWK enc k w0 blk off d W') (h1 : p < q) (h2 : q < r) (h3 : r ≤ d.size) => rotate_any L F cap p q r d W' hs S' h1 h2 h3 hsz)
  obtain ⟨aE, zE, eg, hcmp, hsw, R⟩ := F
  have HC := Lib.hid hcmp
  have HO := Lib.hid hsw
  have S0 := Lib.hid S
  have HAS := Lib.hid hA
  have HBS := Lib.hid hB
  have HI := Lib.hid IH
  generalize hQ : MergeQ enc k w0 blk off cf a b d = Q
  have HQ := Lib.hid hQ
  clear hcmp S hA hB hsw hQ IH
  obtain ⟨u, hu⟩ : ∃ u, u = m - a := ⟨_, rfl⟩
  obtain ⟨u2, hu2⟩ : ∃ u2, u2 = b - m := ⟨_, rfl⟩
  have e1 : (m : Int) - (a : Int) = (u : Int) := by omega
  have e2 : (b : Int) - (m : Int) = (u2 : Int) := by omega
  have w_u : IntKind.i64.wrap (u : Int) = (u : Int) := by rw [IntKind.wrap_i64]; omega
  have w_u2 : IntKind.i64.wrap (u2 : Int) = (u2 : Int) := by rw [IntKind.wrap_i64]; omega
  have d1 : ((u : Int) == 1) = false := by simp; omega
  have d2 : ((u2 : Int) == 1) = false := by simp; omega
  clear hu hu2
  obtain ⟨ab, hab⟩ : ∃ ab, ab = a + b := ⟨_, rfl⟩
  obtain ⟨mid, hmid⟩ : ∃ mid, mid = ab / 2 := ⟨_, rfl⟩
  obtain ⟨n, hn⟩ : ∃ n, n = mid + m := ⟨_, rfl⟩
  obtain ⟨p, hp⟩ : ∃ p, p = n - 1 := ⟨_, rfl⟩
  have e3 : (a : Int) + (b : Int) = (ab : Int) := by omega
  have w_ab : IntKind.i64.wrap (ab : Int) = (ab : Int) := by rw [IntKind.wrap_i64]; omega
  have wu_ab : IntKind.u64.wrap (ab : Int) = (ab : Int) := by rw [IntKind.wrap_u64]; omega
  have e4 : (ab : Int) / 2 = (mid : Int) := by omega
  have w_mid : IntKind.i64.wrap (mid : Int) = (mid : Int) := by rw [IntKind.wrap_i64]; omega
  have e5 : (mid : Int) + (m : Int) = (n : Int) := by omega
  have w_n : IntKind.i64.wrap (n : Int) = (n : Int) := by rw [IntKind.wrap_i64]; omega
  have e6 : (n : Int) - 1 = (p : Int) := by omega
  have w_p : IntKind.i64.wrap (p : Int) = (p : Int) := by rw [IntKind.wrap_i64]; omega
  have HN := Lib.hid (show a + b ≤ 2 * mid + 1 ∧ 2 * mid ≤ a + b ∧ n = mid + m ∧ n = p + 1 by omega)
  clear hab hmid hn hp
  go_enter FG, bMerge_n nm fr fm ts te tc ti tb tu t0
  go_upto_if 140 with fail
  go_cut [20, 21] (fun s20 s21 wx => ∃ lo hi : Nat, s20 = .int .i64 lo ∧ s21 = .int .i64 hi ∧ Hid (a ≤ lo ∧ lo ≤ hi ∧ hi ≤ m ∧ n ≤ lo + b ∧ m + hi ≤ n ∧ (lo = a ∨ lo + b = n) ∧ (hi = m ∨ hi + m = n)) ∧ W = wx)
  case first =>
    have hN := HN.out
    by_cases c1 : mid < m
    · have c1' : (mid : Int) < (m : Int) := by omega
      obtain ⟨lo, hlo⟩ : ∃ lo, lo = n - b := ⟨_, rfl⟩
      have e7 : (n : Int) - (b : Int) = (lo : Int) := by omega
      have w_lo : IntKind.i64.wrap (lo : Int) = (lo : Int) := by rw [IntKind.wrap_i64]; omega
      have HF := Lib.hid (show a ≤ lo ∧ lo ≤ mid ∧ mid ≤ m ∧ n ≤ lo + b ∧ m + mid ≤ n ∧ (lo = a ∨ lo + b = n) ∧ (mid = m ∨ mid + m = n) by omega)
      clear hlo hN
      go_wp2
      go_meet
      exact ⟨lo, mid, rfl, rfl, HF, rfl⟩
    · have c1' : ¬ (mid : Int) < (m : Int) := by omega
      have HF := Lib.hid (show a ≤ m ∧ n ≤ a + b ∧ m + m ≤ n by omega)
      clear hN
      go_wp2
      go_meet
      exact ⟨a, m, rfl, rfl, Lib.hid ⟨Nat.le_refl _, HF.out.1, Nat.le_refl _, HF.out.2.1, HF.out.2.2, .inl rfl, .inl rfl⟩, rfl⟩
  case rest =>
    obtain ⟨lo, hi, rfl, rfl, HF, rfl⟩ := hcut
    go_wp2_with fail
    go_loopw [20, 21] (fun vi vj wr => ∃ (s r : Nat), vi = .int .i64 s ∧ vj = .int .i64 r ∧ lo ≤ s ∧ s ≤ r ∧ r ≤ hi ∧ Hid (SWK enc k w0 blk off d wr) ∧ Hid (s = lo ∨ ltOf cf d[n - s]! d[s - 1]! = false) ∧ Hid (r = hi ∨ ltOf cf d[n - 1 - r]! d[r]! = true)) (fun vi vj _ => (intOf vj).toNat - (intOf vi).toNat)
    case atStart => exact ⟨lo, hi, rfl, rfl, Nat.le_refl _, HF.out.2.1, Nat.le_refl _, S0, Lib.hid (.inl rfl), Lib.hid (.inl rfl)⟩
    case round =>
      clear S0
      obtain ⟨s, r, rfl, rfl, hls, hsr, hrh, SK, HL, HR⟩ := hrel
      by_cases hlt : s < r
      · have hlt' : (s : Int) < (r : Int) := by omega
        have hF := HF.out
        have hN := HN.out
        obtain ⟨t, ht⟩ : ∃ t, t = s + r := ⟨_, rfl⟩
        have e7 : (s : Int) + (r : Int) = (t : Int) := by omega
        obtain ⟨c, hc0⟩ : ∃ c, c = t / 2 := ⟨_, rfl⟩
        have g3 : s ≤ c := by omega
        have g4 : c < r := by omega
        have w_t : IntKind.i64.wrap (t : Int) = (t : Int) := by rw [IntKind.wrap_i64]; omega
        have wu_t : IntKind.u64.wrap (t : Int) = (t : Int) := by rw [IntKind.wrap_u64]; omega
        have w_c : IntKind.i64.wrap (c : Int) = (c : Int) := by rw [IntKind.wrap_i64]; omega
        have e8 : (t : Int) / 2 = (c : Int) := by omega
        clear ht hc0
        obtain ⟨q, hq⟩ : ∃ q, q = p - c := ⟨_, rfl⟩
        have e9 : (p : Int) - (c : Int) = (q : Int) := by omega
        have w_q : IntKind.i64.wrap (q : Int) = (q : Int) := by rw [IntKind.wrap_i64]; omega
        have q_p : (0 : Int) ≤ (q : Int) := by omega
        have q_u : (q : Int) < (d.size : Int) := by omega
        have q_n : ((q : Int)).toNat = q := by omega
        have c_p : (0 : Int) ≤ (c : Int) := by omega
        have c_u : (c : Int) < (d.size : Int) := by omega
        have c_n : ((c : Int)).toNat = c := by omega
        obtain ⟨x, hx⟩ : ∃ x, x = d[q]! := ⟨_, rfl⟩
        obtain ⟨y, hy⟩ : ∃ y, y = d[c]! := ⟨_, rfl⟩
        have lx := SK.out.ld R (by omega) P q (by omega)
        have ly := SK.out.ld R (by omega) P c (by omega)
        rw [← hx] at lx
        rw [← hy] at ly
        have hc := SK.out.cmp HC.out (by omega) x y
        have hq1 : n - (c + 1) = q := by omega
        have hq2 : n - 1 - c = q := by omega
        cases hl : ltOf cf x y
        · have hd : decide (cf x y < 0) = false := hl
          have HL2 := Lib.hid (show c + 1 = lo ∨ ltOf cf d[n - (c + 1)]! d[c + 1 - 1]! = false from .inr (by rw [hq1, show c + 1 - 1 = c by omega, ← hx, ← hy]; exact hl))
          clear hl hx hy hF hN hq hq1 hq2
          go_wp2_with fail
          go_quiet_grown (first | (go_at_fn g; refine Calls.grown_of (hc _ _)))
          have SV := Lib.hid (SK.out.grown nq osq)
          clear lx ly hc SK hd HL
          generalize grow (wr.drewN nq) osq = wv at *
          clear nq osq
          go_wp2
          go_roundw
          case rel => exact ⟨c + 1, r, by go_num, rfl, by omega, g4, hrh, SV, HL2, HR⟩
          case measure => simp [intOf]; omega
        · have hd : decide (cf x y < 0) = true := hl
          have HR2 := Lib.hid (show c = hi ∨ ltOf cf d[n - 1 - c]! d[c]! = true from .inr (by rw [hq2, ← hx, ← hy]; exact hl))
          clear hl hx hy hF hN hq hq1 hq2
          go_wp2_with fail
          go_quiet_grown (first | (go_at_fn g; refine Calls.grown_of (hc _ _)))
          have SV := Lib.hid (SK.out.grown nq osq)
          clear lx ly hc SK hd HR
          generalize grow (wr.drewN nq) osq = wv at *
          clear nq osq
          go_wp2
          go_roundw
          case rel => exact ⟨s, c, rfl, rfl, hls, g3, by omega, SV, HL, HR2⟩
          case measure => simp [intOf]; omega
      · have hlt' : ¬ (s : Int) < (r : Int) := by omega
        obtain ⟨e, he⟩ : ∃ e, e = n - s := ⟨_, rfl⟩
        have hF := HF.out
        have hN := HN.out
        have e7 : (n : Int) - (s : Int) = (e : Int) := by omega
        have w_e : IntKind.i64.wrap (e : Int) = (e : Int) := by rw [IntKind.wrap_i64]; omega
        have G := Lib.hid (show a ≤ s ∧ s ≤ m ∧ m ≤ e ∧ e ≤ b ∧ mid + m = s + e ∧ a < mid ∧ mid < b ∧ s ≤ mid ∧ mid ≤ e by omega)
        have HO1 := Lib.hid (show s = a ∨ e = b ∨ ltOf cf d[e]! d[s - 1]! = false by
          rcases HL.out with h | h
          · omega
          · rw [← he] at h
            exact .inr (.inr h))
        have HO2 := Lib.hid (show s = m ∨ e = m ∨ ltOf cf d[e - 1]! d[s]! = true by
          rcases HR.out with h | h
          · omega
          · rw [show n - 1 - r = e - 1 by omega, show r = s by omega] at h
            exact .inr (.inr h))
        clear HL HR hF hN he
        obtain ⟨rb, hrb⟩ : ∃ rb : Bool, rb = (decide (s < m) && decide (m < e)) := ⟨_, rfl⟩
        have HRB := Lib.hid hrb
        clear hrb
        go_upto_region 39 with fail
        go_cut [185] (fun s185 wx => s185 = .bool rb ∧ wr = wx)
        case first =>
          as_aux_lemma =>
            by_cases c1 : s < m
            · have c1' : (s : Int) < (m : Int) := by omega
              by_cases c2 : m < e
              · have c2' : (m : Int) < (e : Int) := by omega
                go_wp2_with fail
                go_meet
                exact ⟨by rw [HRB.out]; simp [c1, c2], rfl⟩
              · have c2' : ¬ (m : Int) < (e : Int) := by omega
                go_wp2_with fail
                go_meet
                exact ⟨by rw [HRB.out]; simp [c1, c2], rfl⟩
            · have c1' : ¬ (s : Int) < (m : Int) := by omega
              go_wp2_with fail
              go_meet
              exact ⟨by rw [HRB.out]; simp [c1], rfl⟩
        case rest =>
          as_aux_lemma =>
            obtain ⟨rfl, rfl⟩ := hcut
            go_upto_if 185 with fail
            go_cut [24] (fun s24 wx => s24 = .int .i64 e ∧ ∃ dz : Array α, Hid (SWK enc k w0 blk off dz wx) ∧ Hid (RotOk d s m e dz) ∧ Hid (PermIn a b d dz))
            case first =>
              as_aux_lemma =>
                cases rb
                · have RZ := Lib.hid (show RotOk d s m e d by
                    have h := HRB.out
                    obtain ⟨g1, g2, g3, -⟩ := G.out
                    by_cases c1 : s < m
                    · by_cases c2 : m < e
                      · simp [c1, c2] at h
                      · rw [show e = m by omega]
                        exact RotOk.refl d s m
                    · rw [show s = m by omega]
                      exact RotOk.refl' d m e)
                  go_wp2_with fail
                  go_meet
                  exact ⟨rfl, d, SK, RZ, Lib.hid (permIn_refl d a b)⟩
                · have h1 : s < m ∧ m < e := by
                    have h := HRB.out
                    simp at h
                    exact h
                  have hc := RT.out s m e wr SK.out h1.1 h1.2 (by have := G.out; omega)
                  have HCR := Lib.hid hc
                  clear hc h1
                  go_wp2_with (go_at_fn fr; refine HCR.out.mono ?_; rintro ee w1 ⟨rfl, dz, S2, O2, P2⟩)
                  have SZ := Lib.hid S2
                  have OZ := Lib.hid O2
                  have PZ := Lib.hid (P2 a b G.out.1 G.out.2.2.2.1 hb)
                  clear S2 O2 P2
                  go_meet
                  exact ⟨rfl, dz, SZ, OZ, PZ⟩
            case rest =>
              as_aux_lemma =>
                clear SK HRB
                obtain ⟨rfl, dz, SZ, OZ, PZ⟩ := hcut
                have hG := G.out
                have MR := Lib.hid (merge_rot HO.out HAS.out HBS.out OZ.out hG.1 hG.2.1 hG.2.2.1 hG.2.2.2.1 hb hG.2.2.2.2.1 HO1.out HO2.out PZ.out)
                have hsz1 : dz.size = d.size := OZ.out.1
                clear OZ PZ HO1 HO2 hG
                obtain ⟨rc, hrb⟩ : ∃ rc : Bool, rc = (decide (a < s) && decide (s < mid)) := ⟨_, rfl⟩
                have RC := Lib.hid hrb
                clear hrb
                go_upto_region 41 with fail
                go_cut [199] (fun s199 wx => s199 = .bool rc ∧ wc = wx)
                case first =>
                  as_aux_lemma =>
                    by_cases c1 : a < s
                    · have c1' : (a : Int) < (s : Int) := by omega
                      by_cases c2 : s < mid
                      · have c2' : (s : Int) < (mid : Int) := by omega
                        go_wp2_with fail
                        go_meet
                        exact ⟨by rw [RC.out]; simp [c1, c2], rfl⟩
                      · have c2' : ¬ (s : Int) < (mid : Int) := by omega
                        go_wp2_with fail
                        go_meet
                        exact ⟨by rw [RC.out]; simp [c1, c2], rfl⟩
                    · have c1' : ¬ (a : Int) < (s : Int) := by omega
                      go_wp2_with fail
                      go_meet
                      exact ⟨by rw [RC.out]; simp [c1], rfl⟩
                case rest =>
                  as_aux_lemma =>
                    obtain ⟨rfl, rfl⟩ := hcut
                    go_upto_if 199 with fail
                    go_cut [24] (fun s24 wx => s24 = .int .i64 e ∧ ∃ dy : Array α, Hid (SWK enc k w0 blk off dy wx) ∧ Hid (Mix (ltOf cf) a mid dz dy) ∧ Hid (SortedIn (ltOf cf) a mid dy))
                    case first =>
                      as_aux_lemma =>
                        cases rc
                        · have SS := Lib.hid (show SortedIn (ltOf cf) a mid dz by
                            have h := RC.out
                            have hG := G.out
                            obtain ⟨-, s1, s2, -⟩ := MR.out
                            by_cases c1 : a < s
                            · by_cases c2 : s < mid
                              · simp [c1, c2] at h
                              · rw [show mid = s by omega]
                                exact s1
                            · rw [show a = s by omega]
                              exact s2)
                          go_wp2_with fail
                          go_meet
                          exact ⟨rfl, dz, SZ, Lib.hid (Mix.refl a mid dz), SS⟩
                        · have h1 : a < s ∧ s < mid := by
                            have h := RC.out
                            simp at h
                            exact h
                          have hc := HI.out a s mid dz wc (by have := G.out; omega) hsz1 SZ.out h1.1 h1.2 (by have := G.out; omega) MR.out.2.1 MR.out.2.2.1
                          have HCR := Lib.hid hc
                          clear hc h1
                          go_wp2_with (go_at_fn fm; refine HCR.out.mono ?_; rintro ee w1 ⟨rfl, dy, S2, O2, P2⟩)
                          have SY := Lib.hid S2
                          have OY := Lib.hid O2
                          have PY := Lib.hid P2
                          clear S2 O2 P2
                          go_meet
                          exact ⟨rfl, dy, SY, OY, PY⟩
                    case rest =>
                      as_aux_lemma =>
                        clear SZ RC
                        obtain ⟨rfl, dy, SY, OY, PY⟩ := hcut
                        have hsz2 : dy.size = d.size := by rw [OY.out.size, hsz1]
                        have T1 := Lib.hid (show SortedIn (ltOf cf) mid e dy from fun x y h1 h2 h3 => by
                          rw [OY.out.out x (.inr h1), OY.out.out y (.inr (by omega))]
                          exact MR.out.2.2.2.1 x y h1 h2 h3)
                        have T2 := Lib.hid (show SortedIn (ltOf cf) e b dy from fun x y h1 h2 h3 => by
                          have := G.out
                          rw [OY.out.out x (.inr (by omega)), OY.out.out y (.inr (by omega))]
                          exact MR.out.2.2.2.2.1 x y h1 h2 h3)
                        obtain ⟨rd, hrb⟩ : ∃ rd : Bool, rd = (decide (mid < e) && decide (e < b)) := ⟨_, rfl⟩
                        have RD := Lib.hid hrb
                        clear hrb
                        go_upto_region 43 with fail
                        go_cut [213] (fun s213 wx => s213 = .bool rd ∧ wc = wx)
                        case first =>
                          as_aux_lemma =>
                            by_cases c1 : mid < e
                            · have c1' : (mid : Int) < (e : Int) := by omega
                              by_cases c2 : e < b
                              · have c2' : (e : Int) < (b : Int) := by omega
                                go_wp2_with fail
                                go_meet
                                exact ⟨by rw [RD.out]; simp [c1, c2], rfl⟩
                              · have c2' : ¬ (e : Int) < (b : Int) := by omega
                                go_wp2_with fail
                                go_meet
                                exact ⟨by rw [RD.out]; simp [c1, c2], rfl⟩
                            · have c1' : ¬ (mid : Int) < (e : Int) := by omega
                              go_wp2_with fail
                              go_meet
                              exact ⟨by rw [RD.out]; simp [c1], rfl⟩
                        case rest =>
                          as_aux_lemma =>
                            obtain ⟨rfl, rfl⟩ := hcut
                            cases rd
                            · have SS := Lib.hid (show SortedIn (ltOf cf) mid b dy by
                                have h := RD.out
                                have hG := G.out
                                by_cases c1 : mid < e
                                · by_cases c2 : e < b
                                  · simp [c1, c2] at h
                                  · rw [show b = e by omega]
                                    exact T1.out
                                · rw [show mid = e by omega]
                                  exact T2.out)
                              go_wp2_with fail
                              go_end0
                              rw [← HQ.out]
                              obtain ⟨f1, f2⟩ := merge_end (by have := G.out; omega) (by have := G.out; omega) (by rw [hsz1]; exact hb) MR.out.2.2.2.2.2 OY.out PY.out (Mix.refl mid b dy) SS.out
                              exact ⟨rfl, dy, SY.out, MR.out.1.trans f1, f2⟩
                            · have h1 : mid < e ∧ e < b := by
                                have h := RD.out
                                simp at h
                                exact h
                              have hc := HI.out mid e b dy wc (by have := G.out; omega) hsz2 SY.out h1.1 h1.2 hb T1.out T2.out
                              have HCR := Lib.hid hc
                              clear hc h1
                              go_wp2_with (go_at_fn fm; refine HCR.out.mono ?_; rintro ee w1 ⟨rfl, dx, S2, O2, P2⟩)
                              go_end0
                              rw [← HQ.out]
                              obtain ⟨f1, f2⟩ := merge_end (by have := G.out; omega) (by have := G.out; omega) (by rw [hsz1]; exact hb) MR.out.2.2.2.2.2 OY.out PY.out O2 P2
                              exact ⟨rfl, dx, S2, MR.out.1.trans f1, f2⟩
end Go.Proofs.Ytfdfdmbnggpnbaa
namespace Go.Proofs.Ytfdfdmbnggpnbaa
open Go.Shelf Go.RowKit Go.Lib Go.Sort
variable {P : Program} {α : Type} [Inhabited α]
variable {fs fr fm fi fb ft ts te tc ti tb tu t0 k : Nat} {enc : α → List Value} {cf : α → α → Int} {g : Nat} {cb : Array Value} {blk off : Nat} {d0 : Array α} {w0 : World}
theorem symMerge_any (L : StabLays P fs fr fm fi fb ft ts te tc ti tb tu t0) (F : StabFam P te k enc cf g cb blk off d0 w0) (cap : Nat) (N : Nat) : ∀ (a m b : Nat) (d : Array α) (W : World), b - a = N → d0.size = d.size → SWK enc k w0 blk off d W → a < m → m < b → b ≤ d.size → d.size < 4611686018427387904 → SortedIn (ltOf cf) a m d → SortedIn (ltOf cf) m b d →
    Calls P fm #[.slice (some ⟨blk, off, none⟩) d.size cap, .int .i64 a, .int .i64 m, .int .i64 b, .func (.func g) #[] cb] W (MergeQ enc k w0 blk off cf a b d) := by
  induction N using Nat.strongRecOn with
  | _ N ih =>
    intro a m b d W hN hs S h1 h2 hb hsz hA hB
    by_cases c1 : m = a + 1
    · subst c1
      exact merge_left_any L F cap a b d W hs S h2 hb hsz hB
    · by_cases c2 : b = m + 1
      · subst c2
        exact merge_right_any L F cap a m d W hs S (by omega) hb hsz hA
      · refine merge_rec_any L F cap a m b d W hs S (by omega) (by omega) hb hsz hA hB fun a' m' b' d' W' hlt hsd S' g1 g2 g3 hA' hB' => ?_
        have := ih (b' - a') (by omega) a' m' b' d' W' rfl (by omega) S' g1 g2 (by omega) (by omega) hA' hB'
        rwa [hsd] at this
/-- A place at which a block of c items begins. -/
def Mult (c s : Nat) : Prop := ∃ i, s = i * c
theorem mult_zero (c : Nat) : Mult c 0 := ⟨0, by simp⟩
theorem mult_next {c s : Nat} (h : Mult c s) : Mult c (s + c) := by
  obtain ⟨i, rfl⟩ := h
  exact ⟨i + 1, by rw [Nat.add_mul, Nat.one_mul]⟩
theorem mult_half {c s : Nat} (h : Mult (2 * c) s) : Mult c s := by
  obtain ⟨i, rfl⟩ := h
  exact ⟨i * 2, by rw [Nat.mul_assoc]⟩
theorem mult_gap {c s t : Nat} (h : Mult c s) (h' : Mult c t) (hlt : s < t) : s + c ≤ t := by
  obtain ⟨i, rfl⟩ := h
  obtain ⟨j, rfl⟩ := h'
  have : i < j := by
    rcases Nat.lt_or_ge i j with h | h
    · exact h
    · have := Nat.mul_le_mul_right c h
      omega
  have := Nat.mul_le_mul_right c this
  rw [Nat.succ_mul] at this
  exact this
/-- Blocks of c items, each in order. -/
def Blocks (lt : α → α → Bool) (c n : Nat) (d : Array α) : Prop := ∀ s, Mult c s → SortedIn lt s (min (s + c) n) d
set_option maxHeartbeats 16000000 in
set_option maxRecDepth 1000000 in
theorem stable_any (L : StabLays P fs fr fm fi fb ft ts te tc ti tb tu t0) (F : StabFam P te k enc cf g cb blk off d0 w0) (cap : Nat) (d : Array α) (W : World) (hs : d0.size = d.size) (S : SWK enc k w0 blk off d W) (hsz : d.size ≤ 1152921504606846976)
    (INS : ∀ (a b : Nat) (dj : Array α) (W' : World), dj.size = d.size → SWK enc k w0 blk off dj W' → a ≤ b → b ≤ d.size → Calls P fi #[.slice (some ⟨blk, off, none⟩) d.size cap, .int .i64 a, .int .i64 b, .func (.func g) #[] cb] W' (MergeQ enc k w0 blk off cf a b dj)) :
    Calls P fb #[.slice (some ⟨blk, off, none⟩) d.size cap, .int .i64 d.size, .func (.func g) #[] cb] W (MergeQ enc k w0 blk off cf 0 d.size d) := by
  have mixed := L.mixed; have u0 := L.u0; have a0 := L.a0; have z0 := L.z0; have v0 := L.v0; have ui := L.ui; have ai := L.ai; have zi := L.zi; have vi := L.vi; have ub := L.ub; have ab := L.ab; have zb := L.zb; have vb := L.vb; have us := L.us; have aS := L.aS; have zs := L.zs; have vs := L.vs; have uc := L.uc; have ac := L.ac; have zc := L.zc; have vc := L.vc
  have em := L.em
  have ei := L.ei
  have HINS := Lib.hid INS
  have HMR := Lib.hid (fun (a m b : Nat) (dj : Array α) (W' : World) (hj : dj.size = d.size) (S' : SWK enc k w0 blk off dj W') (h1 : a < m) (h2 : m < b) (h3 : b ≤ dj.size) => symMerge_any L F cap (b - a) a m b dj W' rfl (by omega) S' h1 h2 h3 (by omega))
  obtain ⟨nm, FG⟩ := L.fst
  have S0 := Lib.hid S
  generalize hQ : MergeQ enc k w0 blk off cf 0 d.size d = Q
  have HQ := Lib.hid hQ
  clear S F INS hQ
  obtain ⟨n, hn⟩ : ∃ n, n = d.size := ⟨_, rfl⟩
  rw [← hn] at HINS HQ hs hsz ⊢
  have HNN := Lib.hid hn
  clear hn
  go_enter FG, bStab_n nm fi fm ts te tc ti tb t0
  go_wp2
  go_loopw [7, 8] (fun va vb wr => ∃ (A : Nat) (dk : Array α), va = .int .i64 A ∧ vb = .int .i64 ((A : Int) + 20) ∧ A ≤ n ∧ Hid (dk.size = n) ∧ Hid (SWK enc k w0 blk off dk wr) ∧ Hid (Mix (ltOf cf) 0 n d dk) ∧ Hid (Mult 20 A) ∧ Hid (∀ s, Mult 20 s → s < A → SortedIn (ltOf cf) s (s + 20) dk)) (fun va _ _ => n - (intOf va).toNat)
  case atStart => exact ⟨0, d, rfl, rfl, Nat.zero_le _, Lib.hid HNN.out.symm, S0, Lib.hid (Mix.refl 0 n d), Lib.hid (mult_zero 20), Lib.hid (fun s _ h => by omega)⟩
  case round =>
    clear S0
    obtain ⟨A, dk, rfl, rfl, hA, hsk, SK, MK, UK, BK⟩ := hrel
    by_cases hle : A + 20 ≤ n
    · have hle' : (A : Int) + 20 ≤ (n : Int) := by omega
      obtain ⟨B, hB⟩ : ∃ B, B = A + 20 := ⟨_, rfl⟩
      have e1 : (A : Int) + 20 = (B : Int) := by omega
      have w_B : IntKind.i64.wrap (B : Int) = (B : Int) := by rw [IntKind.wrap_i64]; omega
      have hc := HINS.out A B dk wr (by rw [hsk.out, HNN.out]) SK.out (by omega) (by omega)
      have HCR := Lib.hid hc
      have g1 : A + 20 ≤ B := by omega
      have g2 : B ≤ A + 20 := by omega
      have hle2 : (B : Int) ≤ (n : Int) := by omega
      clear hc hB hle'
      rw [e1]
      go_wp2_with (go_at_fn fi; refine HCR.out.mono ?_; rintro ee w1 ⟨rfl, dy, S2, O2, P2⟩)
      have hsk2 := hsk.out
      have hsy := Lib.hid (show dy.size = n by rw [O2.size, hsk2])
      have SY := Lib.hid S2
      have MY := Lib.hid (MK.out.trans (O2.wide (Nat.zero_le _) (by omega) (by omega)))
      have UY := Lib.hid (show Mult 20 B by rw [show B = A + 20 by omega]; exact mult_next UK.out)
      have BY := Lib.hid (show ∀ s, Mult 20 s → s < B → SortedIn (ltOf cf) s (s + 20) dy from fun s hm hlt => by
        by_cases c : s < A
        · have hg := mult_gap hm UK.out c
          intro i j h1 h2 h3
          rw [O2.out i (.inl (by omega)), O2.out j (.inl (by omega))]
          exact BK.out s hm c i j h1 h2 h3
        · have : s = A := by
            rcases Nat.lt_or_ge A s with h | h
            · have := mult_gap UK.out hm h
              omega
            · omega
          subst this
          rw [show s + 20 = B by omega]
          exact P2)
      clear S2 O2 P2 SK MK BK UK hsk hsk2
      go_wp2
      go_roundw
      case rel => exact ⟨B, dy, rfl, by go_num, by omega, hsy, SY, MY, UY, BY⟩
      case measure => simp [intOf]; omega
    · have hle' : ¬ (A : Int) + 20 ≤ (n : Int) := by omega
      have hc := HINS.out A n dk wr (by rw [hsk.out, HNN.out]) SK.out hA (by rw [HNN.out]; exact Nat.le_refl _)
      have HCR := Lib.hid hc
      clear hc
      go_wp2_with (go_at_fn fi; refine HCR.out.mono ?_; rintro ee w1 ⟨rfl, dy, S2, O2, P2⟩)
      have hsk2 := hsk.out
      have hsy := Lib.hid (show dy.size = n by rw [O2.size, hsk2])
      have SY := Lib.hid S2
      have MY := Lib.hid (MK.out.trans (O2.wide (Nat.zero_le _) (Nat.le_refl _) (by omega)))
      have BY := Lib.hid (show Blocks (ltOf cf) 20 n dy from fun s hm => by
        by_cases c : s < A
        · have hg := mult_gap hm UK.out c
          intro i j h1 h2 h3
          rw [O2.out i (.inl (by omega)), O2.out j (.inl (by omega))]
          exact BK.out s hm c i j h1 h2 (by omega)
        · exact sorted_part P2 (by omega) (by omega))
      clear S2 O2 P2 SK MK BK UK hsk hsk2 hle hle' hA
      go_loopw [6] (fun vs wq => ∃ (c : Nat) (dk : Array α), vs = .int .i64 c ∧ 0 < c ∧ Hid (c ≤ 20 ∨ c ≤ 2 * n) ∧ Hid (dk.size = n) ∧ Hid (SWK enc k w0 blk off dk wq) ∧ Hid (Mix (ltOf cf) 0 n d dk) ∧ Hid (Blocks (ltOf cf) c n dk)) (fun vs _ => n - (intOf vs).toNat)
      case atStart => exact ⟨20, dy, rfl, by omega, Lib.hid (.inl (Nat.le_refl _)), hsy, SY, MY, BY⟩
      case round =>
        clear SY MY BY hsy
        obtain ⟨c, dk, rfl, hc0, HCB, hsk, SK, MK, BK⟩ := hrel
        by_cases hlt : c < n
        · have hlt' : (c : Int) < (n : Int) := by omega
          obtain ⟨c2, hc2⟩ : ∃ c2, c2 = 2 * c := ⟨_, rfl⟩
          have e1 : 2 * (c : Int) = (c2 : Int) := by omega
          have e1' : (c : Int) * 2 = (c2 : Int) := by omega
          have w_c2 : IntKind.i64.wrap (c2 : Int) = (c2 : Int) := by rw [IntKind.wrap_i64]; omega
          have g1 : c2 ≤ 2 * c := by omega
          have g2 : 2 * c ≤ c2 := by omega
          have HC2 := Lib.hid hc2
          have BZ := Lib.hid (show ∀ s, Mult c s → 0 ≤ s → SortedIn (ltOf cf) s (min (s + c) n) dk from fun s hm _ => BK.out s hm)
          clear hc2 BK HCB
          go_wp2
          go_loopw [7, 8] (fun va vb wi => ∃ (A : Nat) (dj : Array α), va = .int .i64 A ∧ vb = .int .i64 ((A : Int) + (c2 : Int)) ∧ A ≤ n ∧ Hid (dj.size = n) ∧ Hid (SWK enc k w0 blk off dj wi) ∧ Hid (Mix (ltOf cf) 0 n d dj) ∧ Hid (Mult c2 A) ∧ Hid (∀ s, Mult c2 s → s < A → SortedIn (ltOf cf) s (s + c2) dj) ∧ Hid (∀ s, Mult c s → A ≤ s → SortedIn (ltOf cf) s (min (s + c) n) dj)) (fun va _ _ => n - (intOf va).toNat)
          case atStart => exact ⟨0, dk, rfl, by simp, Nat.zero_le _, hsk, SK, MK, Lib.hid (mult_zero c2), Lib.hid (fun s _ h => by omega), BZ⟩
          case round =>
            clear SK MK hsk BZ
            obtain ⟨A, dj, rfl, rfl, hA, hsj, SJ, MJ, UJ, DJ, BJ⟩ := hrel
            obtain ⟨M, hM⟩ : ∃ M, M = A + c := ⟨_, rfl⟩
            have e2 : (A : Int) + (c : Int) = (M : Int) := by omega
            have w_M : IntKind.i64.wrap (M : Int) = (M : Int) := by rw [IntKind.wrap_i64]; omega
            have g3 : M ≤ A + c := by omega
            have g4 : A + c ≤ M := by omega
            have UC := Lib.hid (show Mult c A from mult_half (by rw [← HC2.out]; exact UJ.out))
            have UM := Lib.hid (show Mult c M by rw [hM]; exact mult_next UC.out)
            clear hM
            have hsj2 := hsj.out
            by_cases hle : A + c2 ≤ n
            · obtain ⟨B, hB⟩ : ∃ B, B = A + c2 := ⟨_, rfl⟩
              have e3 : (A : Int) + (c2 : Int) = (B : Int) := by omega
              have w_B : IntKind.i64.wrap (B : Int) = (B : Int) := by rw [IntKind.wrap_i64]; omega
              have g5 : A + c2 ≤ B := by omega
              have g6 : B ≤ A + c2 := by omega
              have hle2 : (B : Int) ≤ (n : Int) := by omega
              have hc := HMR.out A M B dj wr (by rw [hsj2, HNN.out]) SJ.out (by omega) (by omega) (by omega) (sorted_part (BJ.out A UC.out (Nat.le_refl _)) (Nat.le_refl _) (by omega)) (sorted_part (BJ.out M UM.out (by omega)) (Nat.le_refl _) (by omega))
              rw [hsj2] at hc
              have HCR := Lib.hid hc
              clear hc hB hle
              rw [e3]
              go_wp2_with (go_at_fn fm; refine HCR.out.mono ?_; rintro ee w1 ⟨rfl, dy, S2, O2, P2⟩)
              have hsy := Lib.hid (show dy.size = n by rw [O2.size, hsj2])
              have SY := Lib.hid S2
              have MY := Lib.hid (MJ.out.trans (O2.wide (Nat.zero_le _) (by omega) (by omega)))
              have UY := Lib.hid (show Mult c2 B by rw [show B = A + c2 by omega]; exact mult_next UJ.out)
              have DY := Lib.hid (show ∀ s, Mult c2 s → s < B → SortedIn (ltOf cf) s (s + c2) dy from fun s hm hlt => by
                by_cases c : s < A
                · have hg := mult_gap hm UJ.out c
                  intro i j h1 h2 h3
                  rw [O2.out i (.inl (by omega)), O2.out j (.inl (by omega))]
                  exact DJ.out s hm c i j h1 h2 h3
                · have : s = A := by
                    rcases Nat.lt_or_ge A s with h | h
                    · have := mult_gap UJ.out hm h
                      omega
                    · omega
                  subst this
                  rw [show s + c2 = B by omega]
                  exact P2)
              have BY := Lib.hid (show ∀ s, Mult c s → B ≤ s → SortedIn (ltOf cf) s (min (s + c) n) dy from fun s hm hle => by
                intro i j h1 h2 h3
                rw [O2.out i (.inr (by omega)), O2.out j (.inr (by omega))]
                exact BJ.out s hm (by omega) i j h1 h2 h3)
              clear S2 O2 P2 SJ MJ DJ UJ BJ hsj hsj2
              go_wp2
              go_roundw
              case rel => exact ⟨B, dy, rfl, by go_num, by omega, hsy, SY, MY, UY, DY, BY⟩
              case measure => simp [intOf]; omega
            · have hle2 : ¬ ((A : Int) + (c2 : Int) ≤ (n : Int)) := by omega
              by_cases hm : M < n
              · have hm' : (M : Int) < (n : Int) := by omega
                have hc := HMR.out A M n dj wr (by rw [hsj2, HNN.out]) SJ.out (by omega) hm (by omega) (sorted_part (BJ.out A UC.out (Nat.le_refl _)) (Nat.le_refl _) (by omega)) (sorted_part (BJ.out M UM.out (by omega)) (Nat.le_refl _) (by omega))
                rw [hsj2] at hc
                have HCR := Lib.hid hc
                clear hc
                go_wp2_with (go_at_fn fm; refine HCR.out.mono ?_; rintro ee w1 ⟨rfl, dy, S2, O2, P2⟩)
                have hsy := Lib.hid (show dy.size = n by rw [O2.size, hsj2])
                have SY := Lib.hid S2
                have MY := Lib.hid (MJ.out.trans (O2.wide (Nat.zero_le _) (Nat.le_refl _) (by omega)))
                have BY := Lib.hid (show Blocks (ltOf cf) c2 n dy from fun s hm => by
                  by_cases c : s < A
                  · have hg := mult_gap hm UJ.out c
                    intro i j h1 h2 h3
                    rw [O2.out i (.inl (by omega)), O2.out j (.inl (by omega))]
                    exact DJ.out s hm c i j h1 h2 (by omega)
                  · exact sorted_part P2 (by omega) (by omega))
                clear S2 O2 P2 SJ MJ DJ UJ BJ hsj hsj2
                go_wp2
                go_roundw
                case rel => exact ⟨c2, dy, rfl, by omega, Lib.hid (.inr (by omega)), hsy, SY, MY, BY⟩
                case measure => simp [intOf]; omega
              · have hm' : ¬ (M : Int) < (n : Int) := by omega
                have BY := Lib.hid (show Blocks (ltOf cf) c2 n dj from fun s hm => by
                  by_cases c : s < A
                  · have hg := mult_gap hm UJ.out c
                    exact sorted_part (DJ.out s hm c) (Nat.le_refl _) (by omega)
                  · exact sorted_part (BJ.out A UC.out (Nat.le_refl _)) (by omega) (by omega))
                clear DJ UJ BJ hsj2
                go_wp2
                go_roundw
                case rel => exact ⟨c2, dj, rfl, by omega, Lib.hid (.inr (by omega)), hsj, SJ, MJ, BY⟩
                case measure => simp [intOf]; omega
        · have hlt' : ¬ (c : Int) < (n : Int) := by omega
          have HF := Lib.hid (show SortedIn (ltOf cf) 0 n dk from sorted_part (BK.out 0 (mult_zero c)) (Nat.le_refl _) (by omega))
          go_wp2
          go_end0
          rw [← HQ.out]
          exact ⟨rfl, dk, SK.out, MK.out, HF.out⟩
end Go.Proofs.Ytfdfdmbnggpnbaa
namespace Go.Proofs.Ytfdfdmbnggpnbaa
open Go.RowKit

/-- A slice's three parts. -/
structure Sv where
  a : Option Addr
  n : Nat
  c : Nat
/-- A description as it lies in memory. -/
structure Rc where
  h : Hd
  p : Sv
  q : Sv
def Rc.cells (r : Rc) : List Value := [.int .i64 r.h.age, .int .i64 r.h.kind, .int .i64 r.h.id, .int .i64 r.h.adv, .int .i64 r.h.seq, .int .i64 r.h.sum, .int .i64 r.h.long, .slice r.p.a r.p.n r.p.c, .slice r.q.a r.q.n r.q.c]
def rcCells (R : List Rc) : List Value := R.flatMap Rc.cells
def keyH (h : Hd) : Ky := ⟨h.kind, h.id, h.adv⟩
/-- Are keys alike? -/
def sameKy (a b : Ky) : Bool := decide (a.kind = b.kind) && (decide (a.id = b.id) && decide (a.adv = b.adv))
theorem sameKy_iff (a b : Ky) : sameKy a b = true ↔ a = b := by
  cases a; cases b
  simp [sameKy]
/-- Are keys in order? -/
def lessKy (a b : Ky) : Bool := if a.kind ≠ b.kind then decide (a.kind < b.kind) else if a.id ≠ b.id then decide (a.id < b.id) else decide (a.adv < b.adv)

theorem rcCells_cons (r : Rc) (R : List Rc) : rcCells (r :: R) = r.cells ++ rcCells R := rfl
theorem rcCells_length (R : List Rc) : (rcCells R).length = R.length * 9 := by
  induction R with
  | nil => rfl
  | cons r R ih => rw [rcCells_cons, List.length_append, ih]; simp [Rc.cells]; omega
theorem rcCells_at (R : List Rc) : ∀ (j : Nat) (r : Rc), R[j]? = some r → ∀ i, i < 9 → (rcCells R)[j * 9 + i]? = r.cells[i]? := by
  induction R with
  | nil => intro j h hx; simp at hx
  | cons x l ih =>
    intro j h hx i hi
    rw [rcCells_cons]
    cases j with
    | zero =>
      simp at hx
      subst hx
      rw [List.getElem?_append_left (by simp [Rc.cells]; omega)]
      simp
    | succ j =>
      rw [List.getElem?_append_right (by simp [Rc.cells]; omega)]
      have e : (j + 1) * 9 + i - x.cells.length = j * 9 + i := by simp [Rc.cells]; omega
      rw [e]
      exact ih j h (by simpa using hx) i hi

/-- Nine cells from place p of block b on. -/
def RcAt (w : World) (b p : Nat) (r : Rc) : Prop := ∀ i, i < 9 → w.cell? ⟨b, p + i, none⟩ = r.cells[i]?
theorem RcAt.nine {w : World} {b p : Nat} {r : Rc} (h : RcAt w b p r) :
    w.cell? ⟨b, p, none⟩ = some (.int .i64 r.h.age) ∧ w.cell? ⟨b, p + 1, none⟩ = some (.int .i64 r.h.kind) ∧ w.cell? ⟨b, p + 2, none⟩ = some (.int .i64 r.h.id) ∧ w.cell? ⟨b, p + 3, none⟩ = some (.int .i64 r.h.adv) ∧ w.cell? ⟨b, p + 4, none⟩ = some (.int .i64 r.h.seq) ∧ w.cell? ⟨b, p + 5, none⟩ = some (.int .i64 r.h.sum) ∧ w.cell? ⟨b, p + 6, none⟩ = some (.int .i64 r.h.long) ∧ w.cell? ⟨b, p + 7, none⟩ = some (.slice r.p.a r.p.n r.p.c) ∧ w.cell? ⟨b, p + 8, none⟩ = some (.slice r.q.a r.q.n r.q.c) :=
  ⟨h 0 (by omega), h 1 (by omega), h 2 (by omega), h 3 (by omega), h 4 (by omega), h 5 (by omega), h 6 (by omega), h 7 (by omega), h 8 (by omega)⟩
theorem RcAt.range {w : World} {b p : Nat} {r : Rc} (h : RcAt w b p r) : w.rangeAt b p r.cells := fun j v hj => by
  have hl : j < 9 := by
    have := (List.getElem?_eq_some_iff.1 hj).1
    simpa [Rc.cells] using this
  exact (h j hl).trans hj
theorem RcAt.below {w w' : World} {B b p : Nat} {r : Rc} (h : RcAt w b p r) (hb : Below B w w') (hlt : b < B) : RcAt w' b p r := fun i hi => (hb.cell (p := ⟨b, p + i, none⟩) hlt).trans (h i hi)

/-- A list of descriptions of the call's own, item j of it. -/
theorem own_rc {w : World} {base n : Nat} {A : Option Addr} {c : Nat} {R : List Rc} (h : w.ownsRow base 78 9 (.slice A n c) n (rcCells R)) {j : Nat} {r : Rc} (hj : R[j]? = some r) :
    ∃ b, A = some ⟨b, 0, none⟩ ∧ base ≤ b ∧ b < w.heap.size ∧ n ≤ c ∧ c ≤ maxLen ∧ RcAt w b (j * 9) r := by
  have hl := h.1
  rw [rcCells_length] at hl
  have hjl := (List.getElem?_eq_some_iff.1 hj).1
  rcases h.2 with ⟨_, hn⟩ | ⟨g, cap, cur, hv, hb, hg, h1, h2, h3, h4⟩
  · omega
  · injection hv with e1 e2 e3
    subst e3
    refine ⟨g, e1, hb, (Array.getElem?_eq_some_iff.1 hg).1, h1, h2, fun i hi => ?_⟩
    have hB : Blk w g 78 cur := hg
    rw [hB.cell, ← rcCells_at R j r hj i hi, ← h4, List.getElem?_take, if_pos (by omega)]
    simp
theorem wpList_load_row {ops : Array Oper} {rest : List Oper} {op : Oper} {a : Act} {w : World} {Q : Exit → Act → World → Prop} {b o : Nat} (ty : TypeId) (cs : List Value) (d : TypeDesc) (hw : Region.wanted op (yielded ops a.tmps) = true) (x : Operand) (ho : op.op = .load ty x)
    (hx : a.eval x = .pointer (some ⟨b, o, none⟩)) (hc : w.rangeAt b o cs) (hu : Try.prog.underlying ty = some d) (hd : d.isRow = true) (hi : (Try.prog.info? ty).map (·.size) = some cs.length) (h : wpList Try.prog ops Q rest (a.put op.dst (.agg cs.toArray)) w) : wpList Try.prog ops Q (op :: rest) a w :=
  wpList_step fun K hK => by
    rw [if_pos hw]
    exact wp_load_mid ty x ho b o hx cs d hc hu hd hi (hK _ _ h)
theorem Blk.three {w : World} {g : Nat} {t : TypeId} {a0 a1 a2 : Value} (h : Blk w g t #[a0, a1, a2]) : w.cell? ⟨g, 0, none⟩ = some a0 ∧ w.cell? ⟨g, 1, none⟩ = some a1 ∧ w.cell? ⟨g, 2, none⟩ = some a2 := ⟨h.cell 0, h.cell 1, h.cell 2⟩
end Go.Proofs.Ytfdfdmbnggpnbaa
namespace Go.Proofs.Ytfdfdmbnggpnbaa
open Go.RowKit

theorem own_keeps7 {w w' : World} {b : Nat} {t : TypeId} {size n : Nat} {v : Value} {xs : List Value} (ho : w.ownsRow b t size v n xs) (hg : w.grownBy w' v.ownBlock) (hb : b ≤ w.heap.size) : Below b w w' :=
  (Below.refl b w).grown hg hb fun k hk => by
    rcases ho.2 with ⟨rfl, _⟩ | ⟨g, _, _, rfl, hbg, _⟩
    · cases hk
    · simp [Value.ownBlock] at hk
      omega

/-- What lies in a new block, as a slice of one item. -/
theorem news_new (w : World) (t : TypeId) (cs : List Value) : ∀ ad, (some ⟨w.heap.size, 0, none⟩ : Option Addr) = some ad → ∀ j u, cs[j]? = some u → (w.alloc (.cells cs.toArray t)).cell? (ad.add j) = some u := by
  intro ad e j u hu
  injection e with e
  subst e
  rw [addr_add, Nat.zero_add, (Blk.new w t cs.toArray).cell]
  simpa using hu

end Go.Proofs.Ytfdfdmbnggpnbaa
namespace Go.Proofs.Ytfdfdmbnggpnbaa
open Go.RowKit

/-- A list with an item of key k ahead of the first greater one. -/
def insR (k : Ky) (x : Rc) : List Rc → List Rc
  | [] => [x]
  | r :: R => if lessKy k (keyH r.h) = true then x :: r :: R else r :: insR k x R
/-- Rows of unlike items lie apart. -/
theorem own_apart {w : World} {b b' n n' size size' : Nat} {t t' : TypeId} {v v' : Value} {xs xs' : List Value} (h : w.ownsRow b t size v n xs) (h' : w.ownsRow b' t' size' v' n' xs') (ht : t ≠ t') : v'.ownBlock = none ∨ v'.ownBlock ≠ v.ownBlock := by
  rcases h'.2 with ⟨rfl, _⟩ | ⟨g', cap', cur', rfl, _, hg', _⟩
  · exact .inl rfl
  · rcases h.2 with ⟨rfl, _⟩ | ⟨g, cap, cur, rfl, _, hg, _⟩
    · exact .inr (by simp [Value.ownBlock])
    · refine .inr (fun e => ?_)
      simp [Value.ownBlock] at e
      subst e
      rw [hg] at hg'
      injection hg' with hg'
      injection hg' with _ e2
      exact ht e2
/-- A description of the call's own: sealed, its lists in memory of their own. -/
def XOk (w : World) (lo : Nat) (h : Hd) (L : List Lk) (M : List Int) (x : Rc) : Prop :=
  x.h = sealHd h L M ∧ w.ownsRow lo 130 4 (.slice x.p.a x.p.n x.p.c) x.p.n (lkCells L) ∧ L.length = x.p.n ∧ w.ownsRow lo 3 1 (.slice x.q.a x.q.n x.q.c) x.q.n (M.map (Value.int .i64)) ∧ M.length = x.q.n
theorem XOk.below {w w' : World} {lo : Nat} {h : Hd} {L : List Lk} {M : List Int} {x : Rc} (hx : XOk w lo h L M x) (hb : Below w.heap.size w w') : XOk w' lo h L M x := ⟨hx.1, own_below2 hx.2.1 hb, hx.2.2.1, own_below2 hx.2.2.2.1 hb, hx.2.2.2.2⟩
theorem XOk.alloc {w : World} {lo : Nat} {h : Hd} {L : List Lk} {M : List Int} {x : Rc} (hx : XOk w lo h L M x) (o : Obj) : XOk (w.alloc o) lo h L M x := ⟨hx.1, hx.2.1.alloc o, hx.2.2.1, hx.2.2.2.1.alloc o, hx.2.2.2.2⟩
/-- .. while a list of descriptions grows. -/
theorem XOk.grown {w w' : World} {lo b n : Nat} {h : Hd} {L : List Lk} {M : List Int} {x : Rc} {v : Value} {xs : List Value} (hx : XOk w lo h L M x) (ho : w.ownsRow b 78 9 v n xs) (hg : w.grownBy w' v.ownBlock) : XOk w' lo h L M x :=
  ⟨hx.1, hx.2.1.kept hg (own_apart ho hx.2.1 (by decide)), hx.2.2.1, hx.2.2.2.1.kept hg (own_apart ho hx.2.2.2.1 (by decide)), hx.2.2.2.2⟩
/-- Of a list R the first j items have been taken over; f: x has been laid in. -/
def Mid (w : World) (lo : Nat) (h : Hd) (L : List Lk) (M : List Int) (k : Ky) (R : List Rc) (j : Nat) (f : Bool) (xs : List Rc) : Prop :=
  (f = false → xs = R.take j ∧ ∀ (m : Nat) (y : Rc), m < j → R[m]? = some y → lessKy k (keyH y.h) = false) ∧ (f = true → ∃ x, XOk w lo h L M x ∧ xs ++ R.drop j = insR k x R)
section
variable {w w' : World} {lo : Nat} {h : Hd} {L : List Lk} {M : List Int} {k : Ky} {R xs : List Rc} {j : Nat} {f : Bool}
theorem Mid.start : Mid w lo h L M k R 0 false [] := by
  refine ⟨fun _ => ⟨by simp, fun m y hm _ => absurd hm (by omega)⟩, fun e => ?_⟩
  cases e
theorem Mid.move (hm : Mid w lo h L M k R j f xs) (hx : ∀ x, XOk w lo h L M x → XOk w' lo h L M x) : Mid w' lo h L M k R j f xs :=
  ⟨hm.1, fun e => by
    obtain ⟨x, h1, h2⟩ := hm.2 e
    exact ⟨x, hx x h1, h2⟩⟩
theorem Mid.no {r : Rc} (hm : Mid w lo h L M k R j f xs) (hr : R[j]? = some r) (hn : (!f && lessKy k (keyH r.h)) = false) : Mid w lo h L M k R (j + 1) f (xs ++ [r]) := by
  have hj := (List.getElem?_eq_some_iff.1 hr).1
  have er := (List.getElem?_eq_some_iff.1 hr).2
  refine ⟨fun e => ?_, fun e => ?_⟩
  · obtain ⟨h1, h2⟩ := hm.1 e
    rw [e] at hn
    refine ⟨by rw [h1, List.take_succ_eq_append_getElem hj, er], fun m y hmj hy => ?_⟩
    by_cases hmj' : m = j
    · subst hmj'
      rw [hr] at hy
      injection hy with hy
      subst hy
      simpa using hn
    · exact h2 m y (by omega) hy
  · obtain ⟨x, h1, h2⟩ := hm.2 e
    refine ⟨x, h1, ?_⟩
    rw [← h2, List.append_assoc, List.drop_eq_getElem_cons hj, er]
    rfl
end
end Go.Proofs.Ytfdfdmbnggpnbaa
namespace Go.Proofs.Ytfdfdmbnggpnbaa

theorem lessKy_iff (a b : Ky) : lessKy a b = true ↔ a.kind < b.kind ∨ (a.kind = b.kind ∧ (a.id < b.id ∨ (a.id = b.id ∧ a.adv < b.adv))) := by
  unfold lessKy
  by_cases h1 : a.kind = b.kind
  · rw [if_neg (by simp [h1])]
    by_cases h2 : a.id = b.id
    · rw [if_neg (by simp [h2]), decide_eq_true_iff]
      omega
    · rw [if_pos h2, decide_eq_true_iff]
      omega
  · rw [if_pos h1, decide_eq_true_iff]
    omega
theorem lessKy_irrefl (a : Ky) : lessKy a a = false := by
  cases h : lessKy a a
  · rfl
  · rw [lessKy_iff] at h
    omega
theorem lessKy_trans {a b c : Ky} (h1 : lessKy a b = true) (h2 : lessKy b c = true) : lessKy a c = true := by
  rw [lessKy_iff] at h1 h2 ⊢
  omega
/-- Two lists, item by item. -/
def All2 {α β : Type} (P : α → β → Prop) (R : List α) (S : List β) : Prop := R.length = S.length ∧ ∀ (j : Nat) (r : α) (x : β), R[j]? = some r → S[j]? = some x → P r x
section
variable {α β : Type} {P Q : α → β → Prop}
theorem All2.nil : All2 P [] [] := ⟨rfl, fun j r x h => by simp at h⟩
theorem All2.cons {r : α} {x : β} {R : List α} {S : List β} (h : P r x) (t : All2 P R S) : All2 P (r :: R) (x :: S) :=
  ⟨by simp [t.1], fun j r' x' h1 h2 => by
    cases j with
    | zero =>
      simp at h1 h2
      subst h1 h2
      exact h
    | succ j => exact t.2 j r' x' (by simpa using h1) (by simpa using h2)⟩
theorem All2.head {r : α} {x : β} {R : List α} {S : List β} (h : All2 P (r :: R) (x :: S)) : P r x ∧ All2 P R S :=
  ⟨h.2 0 r x (by simp) (by simp), by have := h.1; simp at this; exact this, fun j r' x' h1 h2 => h.2 (j + 1) r' x' (by simpa using h1) (by simpa using h2)⟩
theorem All2.at {R : List α} {S : List β} (h : All2 P R S) {j : Nat} {r : α} (hr : R[j]? = some r) : ∃ x, S[j]? = some x ∧ P r x := by
  have hj := (List.getElem?_eq_some_iff.1 hr).1
  have hs : S[j]? = some (S[j]'(by rw [← h.1]; exact hj)) := List.getElem?_eq_getElem _
  exact ⟨_, hs, h.2 j r _ hr hs⟩
theorem All2.at' {R : List α} {S : List β} (h : All2 P R S) {j : Nat} {x : β} (hx : S[j]? = some x) : ∃ r, R[j]? = some r ∧ P r x := by
  have hj := (List.getElem?_eq_some_iff.1 hx).1
  have hs : R[j]? = some (R[j]'(by rw [h.1]; exact hj)) := List.getElem?_eq_getElem _
  exact ⟨_, hs, h.2 j _ x hs hx⟩
theorem All2.map {γ δ : Type} {P' : γ → δ → Prop} {f : α → γ} {g : β → δ} {R : List α} {S : List β} (h : All2 P R S) (hi : ∀ r x, P r x → P' (f r) (g x)) : All2 P' (R.map f) (S.map g) := by
  induction R generalizing S with
  | nil =>
    cases S with
    | nil => exact ⟨rfl, fun j r x h => by simp at h⟩
    | cons x S => have := h.1; simp at this
  | cons r R ih =>
    cases S with
    | nil => have := h.1; simp at this
    | cons x S => exact All2.cons (hi _ _ h.head.1) (ih h.head.2)
end
/-- A description's key. -/
def kyL (x : La) : Ky := keyH x.h
def tickL (x : La) : La := if x.h.age < 60 then { x with h := { x.h with age := x.h.age + 1 } } else x
/-- In order. -/
def SortL (S : List La) : Prop := S.Pairwise fun a b => lessKy (kyL a) (kyL b) = true
theorem SortL.tail {x : La} {S : List La} (h : SortL (x :: S)) : SortL S := (List.pairwise_cons.1 h).2
theorem SortL.head {x : La} {S : List La} (h : SortL (x :: S)) : ∀ y ∈ S, lessKy (kyL x) (kyL y) = true := (List.pairwise_cons.1 h).1
end Go.Proofs.Ytfdfdmbnggpnbaa
