/- The library's symmetric merge of any two rows in order, walked over any program and any struct. Conditions: what the words say; fewer than 2 to the 62 items. · The library's stable sort, walked over any program and any struct: what comes of it is in order, and those of each class are in the order in which they came. Conditions: what the words say; at most 2 to the 60 items. · Heads in memory; the order of two of them, as the program's function literal tells it; the library's stable sort of a row of them. Conditions: at most 1000 heads. · A head, and a description, that came in, opened. No conditions. -/
import Derived.Deep.CutBlock
import Derived.Deep.DeepCutAuto
import Derived.Deep.Slices
import Derived.Deep.Fields
import Derived.OpenShut
import Derived.Test.YtfdfdmbnggpnbaaGreatJar
import Derived.Test.YtfdfdmbnggpnbaaGreatJan
import Derived.Test.YtfdfdmbnggpnbaaGreatJai
import Derived.Test.YtfdfdmbnggpnbaaGreatJah
import Derived.Test.YtfdfdmbnggpnbaaGreatJaa
namespace Go.Proofs.YtfdfdmbnggpnbaaGreat
open Go.Shelf Go.RowKit Go.Lib Go.Sort
variable {P : Program} {α : Type} [Inhabited α]
variable {fs fr fm fi fb ft ts te tc ti tb tu t0 k : Nat} {enc : α → List Value} {cf : α → α → Int} {g : Nat} {cb : Array Value} {blk off : Nat} {d0 : Array α} {w0 : World}
set_option maxHeartbeats 16000000 in
set_option maxRecDepth 1000000 in
theorem merge_rec_any (L : StabLays P fs fr fm fi fb ft ts te tc ti tb tu t0) (F : StabFam P te k enc cf g cb blk off d0 w0) (cap a m b : Nat) (d : Array α) (W : World) (hs : d0.size = d.size) (S : SWK enc k w0 blk off d W) (ham : a + 1 < m) (hmb : m + 1 < b) (hb : b ≤ d.size) (hsz : d.size < 4611686018427387904) (hA : SortedIn (ltOf cf) a m d) (hB : SortedIn (ltOf cf) m b d)
    (IH : ∀ (a' m' b' : Nat) (d' : Array α) (W' : World), b' - a' < b - a → d'.size = d.size → SWK enc k w0 blk off d' W' → a' < m' → m' < b' → b' ≤ d.size → SortedIn (ltOf cf) a' m' d' → SortedIn (ltOf cf) m' b' d' →
      Calls P fm #[.slice (some ⟨blk, off, none⟩) d.size cap, .int .i64 a', .int .i64 m', .int .i64 b', .func (.func g) #[] cb] W' (MergeQ enc k w0 blk off cf a' b' d')) :
    Calls P fm #[.slice (some ⟨blk, off, none⟩) d.size cap, .int .i64 a, .int .i64 m, .int .i64 b, .func (.func g) #[] cb] W (MergeQ enc k w0 blk off cf a b d) := by
  have mixed := L.mixed; have u0 := L.u0; have a0 := L.a0; have z0 := L.z0; have v0 := L.v0; have ui := L.ui; have ai := L.ai; have zi := L.zi; have vi := L.vi; have ub := L.ub; have ab := L.ab; have zb := L.zb; have vb := L.vb; have us := L.us; have aS := L.aS; have zs := L.zs; have vs := L.vs; have uc := L.uc; have ac := L.ac; have zc := L.zc; have vc := L.vc; have uu := L.uu; have au := L.au; have zu := L.zu; have vu := L.vu
  have er := L.er
  have em := L.em
  obtain ⟨nm, FG⟩ := L.fme
  have RT := Lib.hid (fun (p q r : Nat) (W' : World) (S' : SWK enc k w0 blk off d W') (h1 : p < q) (h2 : q < r) (h3 : r ≤ d.size) => rotate_any L F cap p q r d W' hs S' h1 h2 h3 hsz)
  obtain ⟨aE, zE, eg, hcmp, hsw, R⟩ := F
  have HC := Lib.hid hcmp
  have HO := Lib.hid hsw
  have S0 := Lib.hid S
  have HAS := Lib.hid hA
  have HBS := Lib.hid hB
  have HI := Lib.hid IH
  generalize hQ : MergeQ enc k w0 blk off cf a b d = Q
  have HQ := Lib.hid hQ
  clear hcmp S hA hB hsw hQ IH
  obtain ⟨u, hu⟩ : ∃ u, u = m - a := ⟨_, rfl⟩
  obtain ⟨u2, hu2⟩ : ∃ u2, u2 = b - m := ⟨_, rfl⟩
  have e1 : (m : Int) - (a : Int) = (u : Int) := by omega
  have e2 : (b : Int) - (m : Int) = (u2 : Int) := by omega
  have w_u : IntKind.i64.wrap (u : Int) = (u : Int) := by rw [IntKind.wrap_i64]; omega
  have w_u2 : IntKind.i64.wrap (u2 : Int) = (u2 : Int) := by rw [IntKind.wrap_i64]; omega
  have d1 : ((u : Int) == 1) = false := by simp; omega
  have d2 : ((u2 : Int) == 1) = false := by simp; omega
  clear hu hu2
  obtain ⟨ab, hab⟩ : ∃ ab, ab = a + b := ⟨_, rfl⟩
  obtain ⟨mid, hmid⟩ : ∃ mid, mid = ab / 2 := ⟨_, rfl⟩
  obtain ⟨n, hn⟩ : ∃ n, n = mid + m := ⟨_, rfl⟩
  obtain ⟨p, hp⟩ : ∃ p, p = n - 1 := ⟨_, rfl⟩
  have e3 : (a : Int) + (b : Int) = (ab : Int) := by omega
  have w_ab : IntKind.i64.wrap (ab : Int) = (ab : Int) := by rw [IntKind.wrap_i64]; omega
  have wu_ab : IntKind.u64.wrap (ab : Int) = (ab : Int) := by rw [IntKind.wrap_u64]; omega
  have e4 : (ab : Int) / 2 = (mid : Int) := by omega
  have w_mid : IntKind.i64.wrap (mid : Int) = (mid : Int) := by rw [IntKind.wrap_i64]; omega
  have e5 : (mid : Int) + (m : Int) = (n : Int) := by omega
  have w_n : IntKind.i64.wrap (n : Int) = (n : Int) := by rw [IntKind.wrap_i64]; omega
  have e6 : (n : Int) - 1 = (p : Int) := by omega
  have w_p : IntKind.i64.wrap (p : Int) = (p : Int) := by rw [IntKind.wrap_i64]; omega
  have HN := Lib.hid (show a + b ≤ 2 * mid + 1 ∧ 2 * mid ≤ a + b ∧ n = mid + m ∧ n = p + 1 by omega)
  clear hab hmid hn hp
  go_enter FG, bMerge_n nm fr fm ts te tc ti tb tu t0
  go_upto_if 140 with fail
  go_cut [20, 21] (fun s20 s21 wx => ∃ lo hi : Nat, s20 = .int .i64 lo ∧ s21 = .int .i64 hi ∧ Hid (a ≤ lo ∧ lo ≤ hi ∧ hi ≤ m ∧ n ≤ lo + b ∧ m + hi ≤ n ∧ (lo = a ∨ lo + b = n) ∧ (hi = m ∨ hi + m = n)) ∧ W = wx)
  case first =>
    have hN := HN.out
    by_cases c1 : mid < m
    · have c1' : (mid : Int) < (m : Int) := by omega
      obtain ⟨lo, hlo⟩ : ∃ lo, lo = n - b := ⟨_, rfl⟩
      have e7 : (n : Int) - (b : Int) = (lo : Int) := by omega
      have w_lo : IntKind.i64.wrap (lo : Int) = (lo : Int) := by rw [IntKind.wrap_i64]; omega
      have HF := Lib.hid (show a ≤ lo ∧ lo ≤ mid ∧ mid ≤ m ∧ n ≤ lo + b ∧ m + mid ≤ n ∧ (lo = a ∨ lo + b = n) ∧ (mid = m ∨ mid + m = n) by omega)
      clear hlo hN
      go_wp2
      go_meet
      exact ⟨lo, mid, rfl, rfl, HF, rfl⟩
    · have c1' : ¬ (mid : Int) < (m : Int) := by omega
      have HF := Lib.hid (show a ≤ m ∧ n ≤ a + b ∧ m + m ≤ n by omega)
      clear hN
      go_wp2
      go_meet
      exact ⟨a, m, rfl, rfl, Lib.hid ⟨Nat.le_refl _, HF.out.1, Nat.le_refl _, HF.out.2.1, HF.out.2.2, .inl rfl, .inl rfl⟩, rfl⟩
  case rest =>
    obtain ⟨lo, hi, rfl, rfl, HF, rfl⟩ := hcut
    go_wp2_with fail
    go_loopw [20, 21] (fun vi vj wr => ∃ (s r : Nat), vi = .int .i64 s ∧ vj = .int .i64 r ∧ lo ≤ s ∧ s ≤ r ∧ r ≤ hi ∧ Hid (SWK enc k w0 blk off d wr) ∧ Hid (s = lo ∨ ltOf cf d[n - s]! d[s - 1]! = false) ∧ Hid (r = hi ∨ ltOf cf d[n - 1 - r]! d[r]! = true)) (fun vi vj _ => (intOf vj).toNat - (intOf vi).toNat)
    case atStart => exact ⟨lo, hi, rfl, rfl, Nat.le_refl _, HF.out.2.1, Nat.le_refl _, S0, Lib.hid (.inl rfl), Lib.hid (.inl rfl)⟩
    case round =>
      clear S0
      obtain ⟨s, r, rfl, rfl, hls, hsr, hrh, SK, HL, HR⟩ := hrel
      by_cases hlt : s < r
      · have hlt' : (s : Int) < (r : Int) := by omega
        have hF := HF.out
        have hN := HN.out
        obtain ⟨t, ht⟩ : ∃ t, t = s + r := ⟨_, rfl⟩
        have e7 : (s : Int) + (r : Int) = (t : Int) := by omega
        obtain ⟨c, hc0⟩ : ∃ c, c = t / 2 := ⟨_, rfl⟩
        have g3 : s ≤ c := by omega
        have g4 : c < r := by omega
        have w_t : IntKind.i64.wrap (t : Int) = (t : Int) := by rw [IntKind.wrap_i64]; omega
        have wu_t : IntKind.u64.wrap (t : Int) = (t : Int) := by rw [IntKind.wrap_u64]; omega
        have w_c : IntKind.i64.wrap (c : Int) = (c : Int) := by rw [IntKind.wrap_i64]; omega
        have e8 : (t : Int) / 2 = (c : Int) := by omega
        clear ht hc0
        obtain ⟨q, hq⟩ : ∃ q, q = p - c := ⟨_, rfl⟩
        have e9 : (p : Int) - (c : Int) = (q : Int) := by omega
        have w_q : IntKind.i64.wrap (q : Int) = (q : Int) := by rw [IntKind.wrap_i64]; omega
        have q_p : (0 : Int) ≤ (q : Int) := by omega
        have q_u : (q : Int) < (d.size : Int) := by omega
        have q_n : ((q : Int)).toNat = q := by omega
        have c_p : (0 : Int) ≤ (c : Int) := by omega
        have c_u : (c : Int) < (d.size : Int) := by omega
        have c_n : ((c : Int)).toNat = c := by omega
        obtain ⟨x, hx⟩ : ∃ x, x = d[q]! := ⟨_, rfl⟩
        obtain ⟨y, hy⟩ : ∃ y, y = d[c]! := ⟨_, rfl⟩
        have lx := SK.out.ld R (by omega) P q (by omega)
        have ly := SK.out.ld R (by omega) P c (by omega)
        rw [← hx] at lx
        rw [← hy] at ly
        have hc := SK.out.cmp HC.out (by omega) x y
        have hq1 : n - (c + 1) = q := by omega
        have hq2 : n - 1 - c = q := by omega
        cases hl : ltOf cf x y
        · have hd : decide (cf x y < 0) = false := hl
          have HL2 := Lib.hid (show c + 1 = lo ∨ ltOf cf d[n - (c + 1)]! d[c + 1 - 1]! = false from .inr (by rw [hq1, show c + 1 - 1 = c by omega, ← hx, ← hy]; exact hl))
          clear hl hx hy hF hN hq hq1 hq2
          go_wp2_with fail
          go_quiet_grown (first | (go_at_fn g; refine Calls.grown_of (hc _ _)))
          have SV := Lib.hid (SK.out.grown nq osq)
          clear lx ly hc SK hd HL
          generalize grow (wr.drewN nq) osq = wv at *
          clear nq osq
          go_wp2
          go_roundw
          case rel => exact ⟨c + 1, r, by go_num, rfl, by omega, g4, hrh, SV, HL2, HR⟩
          case measure => simp [intOf]; omega
        · have hd : decide (cf x y < 0) = true := hl
          have HR2 := Lib.hid (show c = hi ∨ ltOf cf d[n - 1 - c]! d[c]! = true from .inr (by rw [hq2, ← hx, ← hy]; exact hl))
          clear hl hx hy hF hN hq hq1 hq2
          go_wp2_with fail
          go_quiet_grown (first | (go_at_fn g; refine Calls.grown_of (hc _ _)))
          have SV := Lib.hid (SK.out.grown nq osq)
          clear lx ly hc SK hd HR
          generalize grow (wr.drewN nq) osq = wv at *
          clear nq osq
          go_wp2
          go_roundw
          case rel => exact ⟨s, c, rfl, rfl, hls, g3, by omega, SV, HL, HR2⟩
          case measure => simp [intOf]; omega
      · have hlt' : ¬ (s : Int) < (r : Int) := by omega
        obtain ⟨e, he⟩ : ∃ e, e = n - s := ⟨_, rfl⟩
        have hF := HF.out
        have hN := HN.out
        have e7 : (n : Int) - (s : Int) = (e : Int) := by omega
        have w_e : IntKind.i64.wrap (e : Int) = (e : Int) := by rw [IntKind.wrap_i64]; omega
        have G := Lib.hid (show a ≤ s ∧ s ≤ m ∧ m ≤ e ∧ e ≤ b ∧ mid + m = s + e ∧ a < mid ∧ mid < b ∧ s ≤ mid ∧ mid ≤ e by omega)
        have HO1 := Lib.hid (show s = a ∨ e = b ∨ ltOf cf d[e]! d[s - 1]! = false by
          rcases HL.out with h | h
          · omega
          · rw [← he] at h
            exact .inr (.inr h))
        have HO2 := Lib.hid (show s = m ∨ e = m ∨ ltOf cf d[e - 1]! d[s]! = true by
          rcases HR.out with h | h
          · omega
          · rw [show n - 1 - r = e - 1 by omega, show r = s by omega] at h
            exact .inr (.inr h))
        clear HL HR hF hN he
        obtain ⟨rb, hrb⟩ : ∃ rb : Bool, rb = (decide (s < m) && decide (m < e)) := ⟨_, rfl⟩
        have HRB := Lib.hid hrb
        clear hrb
        go_upto_region 39 with fail
        go_cut [185] (fun s185 wx => s185 = .bool rb ∧ wr = wx)
        case first =>
          as_aux_lemma =>
            by_cases c1 : s < m
            · have c1' : (s : Int) < (m : Int) := by omega
              by_cases c2 : m < e
              · have c2' : (m : Int) < (e : Int) := by omega
                go_wp2_with fail
                go_meet
                exact ⟨by rw [HRB.out]; simp [c1, c2], rfl⟩
              · have c2' : ¬ (m : Int) < (e : Int) := by omega
                go_wp2_with fail
                go_meet
                exact ⟨by rw [HRB.out]; simp [c1, c2], rfl⟩
            · have c1' : ¬ (s : Int) < (m : Int) := by omega
              go_wp2_with fail
              go_meet
              exact ⟨by rw [HRB.out]; simp [c1], rfl⟩
        case rest =>
          as_aux_lemma =>
            obtain ⟨rfl, rfl⟩ := hcut
            go_upto_if 185 with fail
            go_cut [24] (fun s24 wx => s24 = .int .i64 e ∧ ∃ dz : Array α, Hid (SWK enc k w0 blk off dz wx) ∧ Hid (RotOk d s m e dz) ∧ Hid (PermIn a b d dz))
            case first =>
              as_aux_lemma =>
                cases rb
                · have RZ := Lib.hid (show RotOk d s m e d by
                    have h := HRB.out
                    obtain ⟨g1, g2, g3, -⟩ := G.out
                    by_cases c1 : s < m
                    · by_cases c2 : m < e
                      · simp [c1, c2] at h
                      · rw [show e = m by omega]
                        exact RotOk.refl d s m
                    · rw [show s = m by omega]
                      exact RotOk.refl' d m e)
                  go_wp2_with fail
                  go_meet
                  exact ⟨rfl, d, SK, RZ, Lib.hid (permIn_refl d a b)⟩
                · have h1 : s < m ∧ m < e := by
                    have h := HRB.out
                    simp at h
                    exact h
                  have hc := RT.out s m e wr SK.out h1.1 h1.2 (by have := G.out; omega)
                  have HCR := Lib.hid hc
                  clear hc h1
                  go_wp2_with (go_at_fn fr; refine HCR.out.mono ?_; rintro ee w1 ⟨rfl, dz, S2, O2, P2⟩)
                  have SZ := Lib.hid S2
                  have OZ := Lib.hid O2
                  have PZ := Lib.hid (P2 a b G.out.1 G.out.2.2.2.1 hb)
                  clear S2 O2 P2
                  go_meet
                  exact ⟨rfl, dz, SZ, OZ, PZ⟩
            case rest =>
              as_aux_lemma =>
                clear SK HRB
                obtain ⟨rfl, dz, SZ, OZ, PZ⟩ := hcut
                have hG := G.out
                have MR := Lib.hid (merge_rot HO.out HAS.out HBS.out OZ.out hG.1 hG.2.1 hG.2.2.1 hG.2.2.2.1 hb hG.2.2.2.2.1 HO1.out HO2.out PZ.out)
                have hsz1 : dz.size = d.size := OZ.out.1
                clear OZ PZ HO1 HO2 hG
                obtain ⟨rc, hrb⟩ : ∃ rc : Bool, rc = (decide (a < s) && decide (s < mid)) := ⟨_, rfl⟩
                have RC := Lib.hid hrb
                clear hrb
                go_upto_region 41 with fail
                go_cut [199] (fun s199 wx => s199 = .bool rc ∧ wc = wx)
                case first =>
                  as_aux_lemma =>
                    by_cases c1 : a < s
                    · have c1' : (a : Int) < (s : Int) := by omega
                      by_cases c2 : s < mid
                      · have c2' : (s : Int) < (mid : Int) := by omega
                        go_wp2_with fail
                        go_meet
                        exact ⟨by rw [RC.out]; simp [c1, c2], rfl⟩
                      · have c2' : ¬ (s : Int) < (mid : Int) := by omega
                        go_wp2_with fail
                        go_meet
                        exact ⟨by rw [RC.out]; simp [c1, c2], rfl⟩
                    · have c1' : ¬ (a : Int) < (s : Int) := by omega
                      go_wp2_with fail
                      go_meet
                      exact ⟨by rw [RC.out]; simp [c1], rfl⟩
                case rest =>
                  as_aux_lemma =>
                    obtain ⟨rfl, rfl⟩ := hcut
                    go_upto_if 199 with fail
                    go_cut [24] (fun s24 wx => s24 = .int .i64 e ∧ ∃ dy : Array α, Hid (SWK enc k w0 blk off dy wx) ∧ Hid (Mix (ltOf cf) a mid dz dy) ∧ Hid (SortedIn (ltOf cf) a mid dy))
                    case first =>
                      as_aux_lemma =>
                        cases rc
                        · have SS := Lib.hid (show SortedIn (ltOf cf) a mid dz by
                            have h := RC.out
                            have hG := G.out
                            obtain ⟨-, s1, s2, -⟩ := MR.out
                            by_cases c1 : a < s
                            · by_cases c2 : s < mid
                              · simp [c1, c2] at h
                              · rw [show mid = s by omega]
                                exact s1
                            · rw [show a = s by omega]
                              exact s2)
                          go_wp2_with fail
                          go_meet
                          exact ⟨rfl, dz, SZ, Lib.hid (Mix.refl a mid dz), SS⟩
                        · have h1 : a < s ∧ s < mid := by
                            have h := RC.out
                            simp at h
                            exact h
                          have hc := HI.out a s mid dz wc (by have := G.out; omega) hsz1 SZ.out h1.1 h1.2 (by have := G.out; omega) MR.out.2.1 MR.out.2.2.1
                          have HCR := Lib.hid hc
                          clear hc h1
                          go_wp2_with (go_at_fn fm; refine HCR.out.mono ?_; rintro ee w1 ⟨rfl, dy, S2, O2, P2⟩)
                          have SY := Lib.hid S2
                          have OY := Lib.hid O2
                          have PY := Lib.hid P2
                          clear S2 O2 P2
                          go_meet
                          exact ⟨rfl, dy, SY, OY, PY⟩
                    case rest =>
                      as_aux_lemma =>
                        clear SZ RC
                        obtain ⟨rfl, dy, SY, OY, PY⟩ := hcut
                        have hsz2 : dy.size = d.size := by rw [OY.out.size, hsz1]
                        have T1 := Lib.hid (show SortedIn (ltOf cf) mid e dy from fun x y h1 h2 h3 => by
                          rw [OY.out.out x (.inr h1), OY.out.out y (.inr (by omega))]
                          exact MR.out.2.2.2.1 x y h1 h2 h3)
                        have T2 := Lib.hid (show SortedIn (ltOf cf) e b dy from fun x y h1 h2 h3 => by
                          have := G.out
                          rw [OY.out.out x (.inr (by omega)), OY.out.out y (.inr (by omega))]
                          exact MR.out.2.2.2.2.1 x y h1 h2 h3)
                        obtain ⟨rd, hrb⟩ : ∃ rd : Bool, rd = (decide (mid < e) && decide (e < b)) := ⟨_, rfl⟩
                        have RD := Lib.hid hrb
                        clear hrb
                        go_upto_region 43 with fail
                        go_cut [213] (fun s213 wx => s213 = .bool rd ∧ wc = wx)
                        case first =>
                          as_aux_lemma =>
                            by_cases c1 : mid < e
                            · have c1' : (mid : Int) < (e : Int) := by omega
                              by_cases c2 : e < b
                              · have c2' : (e : Int) < (b : Int) := by omega
                                go_wp2_with fail
                                go_meet
                                exact ⟨by rw [RD.out]; simp [c1, c2], rfl⟩
                              · have c2' : ¬ (e : Int) < (b : Int) := by omega
                                go_wp2_with fail
                                go_meet
                                exact ⟨by rw [RD.out]; simp [c1, c2], rfl⟩
                            · have c1' : ¬ (mid : Int) < (e : Int) := by omega
                              go_wp2_with fail
                              go_meet
                              exact ⟨by rw [RD.out]; simp [c1], rfl⟩
                        case rest =>
                          as_aux_lemma =>
                            obtain ⟨rfl, rfl⟩ := hcut
                            cases rd
                            · have SS := Lib.hid (show SortedIn (ltOf cf) mid b dy by
                                have h := RD.out
                                have hG := G.out
                                by_cases c1 : mid < e
                                · by_cases c2 : e < b
                                  · simp [c1, c2] at h
                                  · rw [show b = e by omega]
                                    exact T1.out
                                · rw [show mid = e by omega]
                                  exact T2.out)
                              go_wp2_with fail
                              go_end0
                              rw [← HQ.out]
                              obtain ⟨f1, f2⟩ := merge_end (by have := G.out; omega) (by have := G.out; omega) (by rw [hsz1]; exact hb) MR.out.2.2.2.2.2 OY.out PY.out (Mix.refl mid b dy) SS.out
                              exact ⟨rfl, dy, SY.out, MR.out.1.trans f1, f2⟩
                            · have h1 : mid < e ∧ e < b := by
                                have h := RD.out
                                simp at h
                                exact h
                              have hc := HI.out mid e b dy wc (by have := G.out; omega) hsz2 SY.out h1.1 h1.2 hb T1.out T2.out
                              have HCR := Lib.hid hc
                              clear hc h1
                              go_wp2_with (go_at_fn fm; refine HCR.out.mono ?_; rintro ee w1 ⟨rfl, dx, S2, O2, P2⟩)
                              go_end0
                              rw [← HQ.out]
                              obtain ⟨f1, f2⟩ := merge_end (by have := G.out; omega) (by have := G.out; omega) (by rw [hsz1]; exact hb) MR.out.2.2.2.2.2 OY.out PY.out O2 P2
                              exact ⟨rfl, dx, S2, MR.out.1.trans f1, f2⟩
end Go.Proofs.YtfdfdmbnggpnbaaGreat
namespace Go.Proofs.YtfdfdmbnggpnbaaGreat
open Go.Shelf Go.RowKit Go.Lib Go.Sort
variable {P : Program} {α : Type} [Inhabited α]
variable {fs fr fm fi fb ft ts te tc ti tb tu t0 k : Nat} {enc : α → List Value} {cf : α → α → Int} {g : Nat} {cb : Array Value} {blk off : Nat} {d0 : Array α} {w0 : World}
theorem symMerge_any (L : StabLays P fs fr fm fi fb ft ts te tc ti tb tu t0) (F : StabFam P te k enc cf g cb blk off d0 w0) (cap : Nat) (N : Nat) : ∀ (a m b : Nat) (d : Array α) (W : World), b - a = N → d0.size = d.size → SWK enc k w0 blk off d W → a < m → m < b → b ≤ d.size → d.size < 4611686018427387904 → SortedIn (ltOf cf) a m d → SortedIn (ltOf cf) m b d →
    Calls P fm #[.slice (some ⟨blk, off, none⟩) d.size cap, .int .i64 a, .int .i64 m, .int .i64 b, .func (.func g) #[] cb] W (MergeQ enc k w0 blk off cf a b d) := by
  induction N using Nat.strongRecOn with
  | _ N ih =>
    intro a m b d W hN hs S h1 h2 hb hsz hA hB
    by_cases c1 : m = a + 1
    · subst c1
      exact merge_left_any L F cap a b d W hs S h2 hb hsz hB
    · by_cases c2 : b = m + 1
      · subst c2
        exact merge_right_any L F cap a m d W hs S (by omega) hb hsz hA
      · refine merge_rec_any L F cap a m b d W hs S (by omega) (by omega) hb hsz hA hB fun a' m' b' d' W' hlt hsd S' g1 g2 g3 hA' hB' => ?_
        have := ih (b' - a') (by omega) a' m' b' d' W' rfl (by omega) S' g1 g2 (by omega) (by omega) hA' hB'
        rwa [hsd] at this
/-- A place at which a block of c items begins. -/
def Mult (c s : Nat) : Prop := ∃ i, s = i * c
theorem mult_zero (c : Nat) : Mult c 0 := ⟨0, by simp⟩
theorem mult_next {c s : Nat} (h : Mult c s) : Mult c (s + c) := by
  obtain ⟨i, rfl⟩ := h
  exact ⟨i + 1, by rw [Nat.add_mul, Nat.one_mul]⟩
theorem mult_half {c s : Nat} (h : Mult (2 * c) s) : Mult c s := by
  obtain ⟨i, rfl⟩ := h
  exact ⟨i * 2, by rw [Nat.mul_assoc]⟩
theorem mult_gap {c s t : Nat} (h : Mult c s) (h' : Mult c t) (hlt : s < t) : s + c ≤ t := by
  obtain ⟨i, rfl⟩ := h
  obtain ⟨j, rfl⟩ := h'
  have : i < j := by
    rcases Nat.lt_or_ge i j with h | h
    · exact h
    · have := Nat.mul_le_mul_right c h
      omega
  have := Nat.mul_le_mul_right c this
  rw [Nat.succ_mul] at this
  exact this
/-- Blocks of c items, each in order. -/
def Blocks (lt : α → α → Bool) (c n : Nat) (d : Array α) : Prop := ∀ s, Mult c s → SortedIn lt s (min (s + c) n) d
set_option maxHeartbeats 16000000 in
set_option maxRecDepth 1000000 in
theorem stable_any (L : StabLays P fs fr fm fi fb ft ts te tc ti tb tu t0) (F : StabFam P te k enc cf g cb blk off d0 w0) (cap : Nat) (d : Array α) (W : World) (hs : d0.size = d.size) (S : SWK enc k w0 blk off d W) (hsz : d.size ≤ 1152921504606846976)
    (INS : ∀ (a b : Nat) (dj : Array α) (W' : World), dj.size = d.size → SWK enc k w0 blk off dj W' → a ≤ b → b ≤ d.size → Calls P fi #[.slice (some ⟨blk, off, none⟩) d.size cap, .int .i64 a, .int .i64 b, .func (.func g) #[] cb] W' (MergeQ enc k w0 blk off cf a b dj)) :
    Calls P fb #[.slice (some ⟨blk, off, none⟩) d.size cap, .int .i64 d.size, .func (.func g) #[] cb] W (MergeQ enc k w0 blk off cf 0 d.size d) := by
  have mixed := L.mixed; have u0 := L.u0; have a0 := L.a0; have z0 := L.z0; have v0 := L.v0; have ui := L.ui; have ai := L.ai; have zi := L.zi; have vi := L.vi; have ub := L.ub; have ab := L.ab; have zb := L.zb; have vb := L.vb; have us := L.us; have aS := L.aS; have zs := L.zs; have vs := L.vs; have uc := L.uc; have ac := L.ac; have zc := L.zc; have vc := L.vc
  have em := L.em
  have ei := L.ei
  have HINS := Lib.hid INS
  have HMR := Lib.hid (fun (a m b : Nat) (dj : Array α) (W' : World) (hj : dj.size = d.size) (S' : SWK enc k w0 blk off dj W') (h1 : a < m) (h2 : m < b) (h3 : b ≤ dj.size) => symMerge_any L F cap (b - a) a m b dj W' rfl (by omega) S' h1 h2 h3 (by omega))
  obtain ⟨nm, FG⟩ := L.fst
  have S0 := Lib.hid S
  generalize hQ : MergeQ enc k w0 blk off cf 0 d.size d = Q
  have HQ := Lib.hid hQ
  clear S F INS hQ
  obtain ⟨n, hn⟩ : ∃ n, n = d.size := ⟨_, rfl⟩
  rw [← hn] at HINS HQ hs hsz ⊢
  have HNN := Lib.hid hn
  clear hn
  go_enter FG, bStab_n nm fi fm ts te tc ti tb t0
  go_wp2
  go_loopw [7, 8] (fun va vb wr => ∃ (A : Nat) (dk : Array α), va = .int .i64 A ∧ vb = .int .i64 ((A : Int) + 20) ∧ A ≤ n ∧ Hid (dk.size = n) ∧ Hid (SWK enc k w0 blk off dk wr) ∧ Hid (Mix (ltOf cf) 0 n d dk) ∧ Hid (Mult 20 A) ∧ Hid (∀ s, Mult 20 s → s < A → SortedIn (ltOf cf) s (s + 20) dk)) (fun va _ _ => n - (intOf va).toNat)
  case atStart => exact ⟨0, d, rfl, rfl, Nat.zero_le _, Lib.hid HNN.out.symm, S0, Lib.hid (Mix.refl 0 n d), Lib.hid (mult_zero 20), Lib.hid (fun s _ h => by omega)⟩
  case round =>
    clear S0
    obtain ⟨A, dk, rfl, rfl, hA, hsk, SK, MK, UK, BK⟩ := hrel
    by_cases hle : A + 20 ≤ n
    · have hle' : (A : Int) + 20 ≤ (n : Int) := by omega
      obtain ⟨B, hB⟩ : ∃ B, B = A + 20 := ⟨_, rfl⟩
      have e1 : (A : Int) + 20 = (B : Int) := by omega
      have w_B : IntKind.i64.wrap (B : Int) = (B : Int) := by rw [IntKind.wrap_i64]; omega
      have hc := HINS.out A B dk wr (by rw [hsk.out, HNN.out]) SK.out (by omega) (by omega)
      have HCR := Lib.hid hc
      have g1 : A + 20 ≤ B := by omega
      have g2 : B ≤ A + 20 := by omega
      have hle2 : (B : Int) ≤ (n : Int) := by omega
      clear hc hB hle'
      rw [e1]
      go_wp2_with (go_at_fn fi; refine HCR.out.mono ?_; rintro ee w1 ⟨rfl, dy, S2, O2, P2⟩)
      have hsk2 := hsk.out
      have hsy := Lib.hid (show dy.size = n by rw [O2.size, hsk2])
      have SY := Lib.hid S2
      have MY := Lib.hid (MK.out.trans (O2.wide (Nat.zero_le _) (by omega) (by omega)))
      have UY := Lib.hid (show Mult 20 B by rw [show B = A + 20 by omega]; exact mult_next UK.out)
      have BY := Lib.hid (show ∀ s, Mult 20 s → s < B → SortedIn (ltOf cf) s (s + 20) dy from fun s hm hlt => by
        by_cases c : s < A
        · have hg := mult_gap hm UK.out c
          intro i j h1 h2 h3
          rw [O2.out i (.inl (by omega)), O2.out j (.inl (by omega))]
          exact BK.out s hm c i j h1 h2 h3
        · have : s = A := by
            rcases Nat.lt_or_ge A s with h | h
            · have := mult_gap UK.out hm h
              omega
            · omega
          subst this
          rw [show s + 20 = B by omega]
          exact P2)
      clear S2 O2 P2 SK MK BK UK hsk hsk2
      go_wp2
      go_roundw
      case rel => exact ⟨B, dy, rfl, by go_num, by omega, hsy, SY, MY, UY, BY⟩
      case measure => simp [intOf]; omega
    · have hle' : ¬ (A : Int) + 20 ≤ (n : Int) := by omega
      have hc := HINS.out A n dk wr (by rw [hsk.out, HNN.out]) SK.out hA (by rw [HNN.out]; exact Nat.le_refl _)
      have HCR := Lib.hid hc
      clear hc
      go_wp2_with (go_at_fn fi; refine HCR.out.mono ?_; rintro ee w1 ⟨rfl, dy, S2, O2, P2⟩)
      have hsk2 := hsk.out
      have hsy := Lib.hid (show dy.size = n by rw [O2.size, hsk2])
      have SY := Lib.hid S2
      have MY := Lib.hid (MK.out.trans (O2.wide (Nat.zero_le _) (Nat.le_refl _) (by omega)))
      have BY := Lib.hid (show Blocks (ltOf cf) 20 n dy from fun s hm => by
        by_cases c : s < A
        · have hg := mult_gap hm UK.out c
          intro i j h1 h2 h3
          rw [O2.out i (.inl (by omega)), O2.out j (.inl (by omega))]
          exact BK.out s hm c i j h1 h2 (by omega)
        · exact sorted_part P2 (by omega) (by omega))
      clear S2 O2 P2 SK MK BK UK hsk hsk2 hle hle' hA
      go_loopw [6] (fun vs wq => ∃ (c : Nat) (dk : Array α), vs = .int .i64 c ∧ 0 < c ∧ Hid (c ≤ 20 ∨ c ≤ 2 * n) ∧ Hid (dk.size = n) ∧ Hid (SWK enc k w0 blk off dk wq) ∧ Hid (Mix (ltOf cf) 0 n d dk) ∧ Hid (Blocks (ltOf cf) c n dk)) (fun vs _ => n - (intOf vs).toNat)
      case atStart => exact ⟨20, dy, rfl, by omega, Lib.hid (.inl (Nat.le_refl _)), hsy, SY, MY, BY⟩
      case round =>
        clear SY MY BY hsy
        obtain ⟨c, dk, rfl, hc0, HCB, hsk, SK, MK, BK⟩ := hrel
        by_cases hlt : c < n
        · have hlt' : (c : Int) < (n : Int) := by omega
          obtain ⟨c2, hc2⟩ : ∃ c2, c2 = 2 * c := ⟨_, rfl⟩
          have e1 : 2 * (c : Int) = (c2 : Int) := by omega
          have e1' : (c : Int) * 2 = (c2 : Int) := by omega
          have w_c2 : IntKind.i64.wrap (c2 : Int) = (c2 : Int) := by rw [IntKind.wrap_i64]; omega
          have g1 : c2 ≤ 2 * c := by omega
          have g2 : 2 * c ≤ c2 := by omega
          have HC2 := Lib.hid hc2
          have BZ := Lib.hid (show ∀ s, Mult c s → 0 ≤ s → SortedIn (ltOf cf) s (min (s + c) n) dk from fun s hm _ => BK.out s hm)
          clear hc2 BK HCB
          go_wp2
          go_loopw [7, 8] (fun va vb wi => ∃ (A : Nat) (dj : Array α), va = .int .i64 A ∧ vb = .int .i64 ((A : Int) + (c2 : Int)) ∧ A ≤ n ∧ Hid (dj.size = n) ∧ Hid (SWK enc k w0 blk off dj wi) ∧ Hid (Mix (ltOf cf) 0 n d dj) ∧ Hid (Mult c2 A) ∧ Hid (∀ s, Mult c2 s → s < A → SortedIn (ltOf cf) s (s + c2) dj) ∧ Hid (∀ s, Mult c s → A ≤ s → SortedIn (ltOf cf) s (min (s + c) n) dj)) (fun va _ _ => n - (intOf va).toNat)
          case atStart => exact ⟨0, dk, rfl, by simp, Nat.zero_le _, hsk, SK, MK, Lib.hid (mult_zero c2), Lib.hid (fun s _ h => by omega), BZ⟩
          case round =>
            clear SK MK hsk BZ
            obtain ⟨A, dj, rfl, rfl, hA, hsj, SJ, MJ, UJ, DJ, BJ⟩ := hrel
            obtain ⟨M, hM⟩ : ∃ M, M = A + c := ⟨_, rfl⟩
            have e2 : (A : Int) + (c : Int) = (M : Int) := by omega
            have w_M : IntKind.i64.wrap (M : Int) = (M : Int) := by rw [IntKind.wrap_i64]; omega
            have g3 : M ≤ A + c := by omega
            have g4 : A + c ≤ M := by omega
            have UC := Lib.hid (show Mult c A from mult_half (by rw [← HC2.out]; exact UJ.out))
            have UM := Lib.hid (show Mult c M by rw [hM]; exact mult_next UC.out)
            clear hM
            have hsj2 := hsj.out
            by_cases hle : A + c2 ≤ n
            · obtain ⟨B, hB⟩ : ∃ B, B = A + c2 := ⟨_, rfl⟩
              have e3 : (A : Int) + (c2 : Int) = (B : Int) := by omega
              have w_B : IntKind.i64.wrap (B : Int) = (B : Int) := by rw [IntKind.wrap_i64]; omega
              have g5 : A + c2 ≤ B := by omega
              have g6 : B ≤ A + c2 := by omega
              have hle2 : (B : Int) ≤ (n : Int) := by omega
              have hc := HMR.out A M B dj wr (by rw [hsj2, HNN.out]) SJ.out (by omega) (by omega) (by omega) (sorted_part (BJ.out A UC.out (Nat.le_refl _)) (Nat.le_refl _) (by omega)) (sorted_part (BJ.out M UM.out (by omega)) (Nat.le_refl _) (by omega))
              rw [hsj2] at hc
              have HCR := Lib.hid hc
              clear hc hB hle
              rw [e3]
              go_wp2_with (go_at_fn fm; refine HCR.out.mono ?_; rintro ee w1 ⟨rfl, dy, S2, O2, P2⟩)
              have hsy := Lib.hid (show dy.size = n by rw [O2.size, hsj2])
              have SY := Lib.hid S2
              have MY := Lib.hid (MJ.out.trans (O2.wide (Nat.zero_le _) (by omega) (by omega)))
              have UY := Lib.hid (show Mult c2 B by rw [show B = A + c2 by omega]; exact mult_next UJ.out)
              have DY := Lib.hid (show ∀ s, Mult c2 s → s < B → SortedIn (ltOf cf) s (s + c2) dy from fun s hm hlt => by
                by_cases c : s < A
                · have hg := mult_gap hm UJ.out c
                  intro i j h1 h2 h3
                  rw [O2.out i (.inl (by omega)), O2.out j (.inl (by omega))]
                  exact DJ.out s hm c i j h1 h2 h3
                · have : s = A := by
                    rcases Nat.lt_or_ge A s with h | h
                    · have := mult_gap UJ.out hm h
                      omega
                    · omega
                  subst this
                  rw [show s + c2 = B by omega]
                  exact P2)
              have BY := Lib.hid (show ∀ s, Mult c s → B ≤ s → SortedIn (ltOf cf) s (min (s + c) n) dy from fun s hm hle => by
                intro i j h1 h2 h3
                rw [O2.out i (.inr (by omega)), O2.out j (.inr (by omega))]
                exact BJ.out s hm (by omega) i j h1 h2 h3)
              clear S2 O2 P2 SJ MJ DJ UJ BJ hsj hsj2
              go_wp2
              go_roundw
              case rel => exact ⟨B, dy, rfl, by go_num, by omega, hsy, SY, MY, UY, DY, BY⟩
              case measure => simp [intOf]; omega
            · have hle2 : ¬ ((A : Int) + (c2 : Int) ≤ (n : Int)) := by omega
              by_cases hm : M < n
              · have hm' : (M : Int) < (n : Int) := by omega
                have hc := HMR.out A M n dj wr (by rw [hsj2, HNN.out]) SJ.out (by omega) hm (by omega) (sorted_part (BJ.out A UC.out (Nat.le_refl _)) (Nat.le_refl _) (by omega)) (sorted_part (BJ.out M UM.out (by omega)) (Nat.le_refl _) (by omega))
                rw [hsj2] at hc
                have HCR := Lib.hid hc
                clear hc
                go_wp2_with (go_at_fn fm; refine HCR.out.mono ?_; rintro ee w1 ⟨rfl, dy, S2, O2, P2⟩)
                have hsy := Lib.hid (show dy.size = n by rw [O2.size, hsj2])
                have SY := Lib.hid S2
                have MY := Lib.hid (MJ.out.trans (O2.wide (Nat.zero_le _) (Nat.le_refl _) (by omega)))
                have BY := Lib.hid (show Blocks (ltOf cf) c2 n dy from fun s hm => by
                  by_cases c : s < A
                  · have hg := mult_gap hm UJ.out c
                    intro i j h1 h2 h3
                    rw [O2.out i (.inl (by omega)), O2.out j (.inl (by omega))]
                    exact DJ.out s hm c i j h1 h2 (by omega)
                  · exact sorted_part P2 (by omega) (by omega))
                clear S2 O2 P2 SJ MJ DJ UJ BJ hsj hsj2
                go_wp2
                go_roundw
                case rel => exact ⟨c2, dy, rfl, by omega, Lib.hid (.inr (by omega)), hsy, SY, MY, BY⟩
                case measure => simp [intOf]; omega
              · have hm' : ¬ (M : Int) < (n : Int) := by omega
                have BY := Lib.hid (show Blocks (ltOf cf) c2 n dj from fun s hm => by
                  by_cases c : s < A
                  · have hg := mult_gap hm UJ.out c
                    exact sorted_part (DJ.out s hm c) (Nat.le_refl _) (by omega)
                  · exact sorted_part (BJ.out A UC.out (Nat.le_refl _)) (by omega) (by omega))
                clear DJ UJ BJ hsj2
                go_wp2
                go_roundw
                case rel => exact ⟨c2, dj, rfl, by omega, Lib.hid (.inr (by omega)), hsj, SJ, MJ, BY⟩
                case measure => simp [intOf]; omega
        · have hlt' : ¬ (c : Int) < (n : Int) := by omega
          have HF := Lib.hid (show SortedIn (ltOf cf) 0 n dk from sorted_part (BK.out 0 (mult_zero c)) (Nat.le_refl _) (by omega))
          go_wp2
          go_end0
          rw [← HQ.out]
          exact ⟨rfl, dk, SK.out, MK.out, HF.out⟩
end Go.Proofs.YtfdfdmbnggpnbaaGreat
namespace Go.Proofs.YtfdfdmbnggpnbaaGreat
open Go.RowKit Go.Shelf Go.Lib Go.Sort

section
variable {α : Type} {enc : α → List Value} {k : Nat}
/-- The cells of items, one behind the other. -/
def cellsBy (enc : α → List Value) (L : List α) : List Value := L.flatMap enc
theorem by_cons (x : α) (L : List α) : cellsBy enc (x :: L) = enc x ++ cellsBy enc L := by simp [cellsBy]
theorem by_append (L M : List α) : cellsBy enc (L ++ M) = cellsBy enc L ++ cellsBy enc M := by simp [cellsBy]
theorem by_one (x : α) : cellsBy enc [x] = enc x := by simp [cellsBy]
theorem by_length (hk : ∀ x, (enc x).length = k) (L : List α) : (cellsBy enc L).length = L.length * k := by
  induction L with
  | nil => simp [cellsBy]
  | cons x L ih => rw [by_cons, List.length_append, ih, hk, List.length_cons, Nat.succ_mul, Nat.add_comm]
theorem by_ones (h1 : ∀ x, ∀ v ∈ enc x, v.oneCell' = true) (L : List α) : ∀ v ∈ cellsBy enc L, v.oneCell' = true := by
  intro v hv
  obtain ⟨x, _, hx⟩ := List.mem_flatMap.1 hv
  exact h1 x v hx
theorem by_at (hk : ∀ x, (enc x).length = k) : ∀ (L : List α) (j : Nat) (x : α), L[j]? = some x → ∀ i, i < k → (cellsBy enc L)[j * k + i]? = (enc x)[i]?
  | [], j, x, h, i, hi => by simp at h
  | y :: L, 0, x, h, i, hi => by
    simp at h
    subst h
    rw [by_cons, Nat.zero_mul, Nat.zero_add, List.getElem?_append_left (by rw [hk]; exact hi)]
  | y :: L, j + 1, x, h, i, hi => by
    have := by_at hk L j x (by simpa using h) i hi
    rw [by_cons, List.getElem?_append_right (by rw [hk, Nat.succ_mul]; omega), hk, ← this]
    congr 1
    rw [Nat.succ_mul]
    omega
/-- A row of the call's own, item j of it. -/
theorem own_item {w : World} {base n : Nat} {ty : TypeId} {A : Option Addr} {c : Nat} {L : List α} (hk : ∀ x, (enc x).length = k) (hk0 : 0 < k) (h : w.ownsRow base ty k (.slice A n c) n (cellsBy enc L)) {j : Nat} {x : α} (hj : L[j]? = some x) :
    ∃ g, A = some ⟨g, 0, none⟩ ∧ base ≤ g ∧ g < w.heap.size ∧ n ≤ c ∧ c ≤ maxLen ∧ ∀ i, i < k → w.cell? ⟨g, j * k + i, none⟩ = (enc x)[i]? := by
  have hl := h.1
  rw [by_length hk] at hl
  have hln : L.length = n := Nat.eq_of_mul_eq_mul_right hk0 hl
  have hjl := (List.getElem?_eq_some_iff.1 hj).1
  rcases h.2 with ⟨_, hn⟩ | ⟨g, cap, cur, hv, hb, hg, h1, h2, h3, h4⟩
  · omega
  · cases hv
    refine ⟨g, rfl, hb, (Array.getElem?_eq_some_iff.1 hg).1, h1, h2, fun i hi => ?_⟩
    have hB : Blk w g ty cur := hg
    have hlt : j * k + i < n * k := by
      have : (j + 1) * k ≤ n * k := Nat.mul_le_mul_right k (by omega)
      rw [Nat.succ_mul] at this
      omega
    rw [hB.cell, ← by_at hk L j x hj i hi, ← h4, List.getElem?_take, if_pos hlt]
    simp
theorem own_lenH {w : World} {base n : Nat} {ty : TypeId} {v : Value} {L : List α} (hk : ∀ x, (enc x).length = k) (hk0 : 0 < k) (h : w.ownsRow base ty k v n (cellsBy enc L)) : L.length = n := by
  have hl := h.1
  rw [by_length hk] at hl
  exact Nat.eq_of_mul_eq_mul_right hk0 hl
end

instance : Inhabited Hd := ⟨⟨0, 0, 0, 0, 0, 0, 0⟩⟩
def encHd (h : Hd) : List Value := [.int .i64 h.age, .int .i64 h.kind, .int .i64 h.id, .int .i64 h.adv, .int .i64 h.seq, .int .i64 h.sum, .int .i64 h.long]
theorem encHd_len (h : Hd) : (encHd h).length = 7 := rfl
theorem encHd_ones (h : Hd) : ∀ v ∈ encHd h, v.oneCell' = true := fun v hv => by
  simp only [encHd, List.mem_cons, List.not_mem_nil, or_false] at hv
  rcases hv with rfl | rfl | rfl | rfl | rfl | rfl | rfl <;> rfl
/-- The order of heads: that of their keys. -/
def cmpH (a b : Hd) : Int := cmpK (keyH a) (keyH b)
def lessH (a b : Hd) : Bool := lessKy (keyH a) (keyH b)
theorem ltOf_cmpH : ltOf cmpH = lessH := by
  funext a b
  exact cmpK_less _ _
theorem swo_less : SWO lessH where
  irrefl x := lessKy_irrefl _
  trans x y z h1 h2 := lessKy_trans h1 h2
  ntrans x y z h1 h2 := by
    cases h : lessH x z
    · rfl
    · have n1 : ¬ lessKy (keyH x) (keyH y) = true := by
        show ¬ lessH x y = true
        rw [h1]
        decide
      have n2 : ¬ lessKy (keyH y) (keyH z) = true := by
        show ¬ lessH y z = true
        rw [h2]
        decide
      have h3 : lessKy (keyH x) (keyH z) = true := h
      rw [lessKy_iff] at n1 n2 h3
      omega
theorem swo_cmpH : SWO (ltOf cmpH) := by
  rw [ltOf_cmpH]
  exact swo_less
set_option maxRecDepth 8000 in
set_option maxHeartbeats 2000000 in
theorem keyOf_grown (h : Hd) (w : World) : Calls Tryz.prog 17 #[.agg #[.int .i64 h.age, .int .i64 h.kind, .int .i64 h.id, .int .i64 h.adv, .int .i64 h.seq, .int .i64 h.sum, .int .i64 h.long]] w
    fun e w' => e = .returned (.agg #[.int .i64 h.kind, .int .i64 h.id, .int .i64 h.adv]) ∧ ∃ q os', w' = grow (w.drewN q) os' := by
  have HG := Lib.hid (show ∃ q os', (w.alloc (.cells #[.int .i64 h.age, .int .i64 h.kind, .int .i64 h.id, .int .i64 h.adv, .int .i64 h.seq, .int .i64 h.sum, .int .i64 h.long] 40)).alloc (.cells #[.int .i64 h.kind, .int .i64 h.id, .int .i64 h.adv] 48) = grow (w.drewN q) os' from ⟨0, _, by rw [alloc_eq_grow, alloc_eq_grow, grow_grow]; rfl⟩)
  go_enter Tryz.func17, Tryz.ntmps17
  go_wp2
  refine bodyPost_ret (v := .agg #[.int .i64 h.kind, .int .i64 h.id, .int .i64 h.adv]) (by simp [results, Tryz.results17, go_sem, *]) rfl ?_
  exact ⟨rfl, HG.out⟩
theorem Blk.sevenH {w : World} {g : Nat} {t : TypeId} {a0 a1 a2 a3 a4 a5 a6 : Value} (h : Blk w g t #[a0, a1, a2, a3, a4, a5, a6]) : w.cell? ⟨g, 0, none⟩ = some a0 ∧ w.cell? ⟨g, 1, none⟩ = some a1 ∧ w.cell? ⟨g, 2, none⟩ = some a2 ∧ w.cell? ⟨g, 3, none⟩ = some a3 ∧ w.cell? ⟨g, 4, none⟩ = some a4 ∧ w.cell? ⟨g, 5, none⟩ = some a5 ∧ w.cell? ⟨g, 6, none⟩ = some a6 := ⟨h.cell 0, h.cell 1, h.cell 2, h.cell 3, h.cell 4, h.cell 5, h.cell 6⟩
set_option maxRecDepth 20000 in
set_option maxHeartbeats 8000000 in
/-- The function literal that the stable sort is handed. -/
theorem compareH (a b : Hd) (w : World) : Calls Tryz.prog 31 #[.agg #[.int .i64 a.age, .int .i64 a.kind, .int .i64 a.id, .int .i64 a.adv, .int .i64 a.seq, .int .i64 a.sum, .int .i64 a.long], .agg #[.int .i64 b.age, .int .i64 b.kind, .int .i64 b.id, .int .i64 b.adv, .int .i64 b.seq, .int .i64 b.sum, .int .i64 b.long]] w
    fun e w' => e = .returned (.int .i64 (cmpH a b)) ∧ ∃ q os', w' = grow (w.drewN q) os' := by
  obtain ⟨a0, a1, a2, a3, a4, a5, a6⟩ := Blk.sevenH (blk_new07 w #[.int .i64 a.age, .int .i64 a.kind, .int .i64 a.id, .int .i64 a.adv, .int .i64 a.seq, .int .i64 a.sum, .int .i64 a.long] 40 (.cells #[.int .i64 b.age, .int .i64 b.kind, .int .i64 b.id, .int .i64 b.adv, .int .i64 b.seq, .int .i64 b.sum, .int .i64 b.long] 40))
  obtain ⟨b0, b1, b2, b3, b4, b5, b6⟩ := Blk.sevenH (blk_new1 w (.cells #[.int .i64 a.age, .int .i64 a.kind, .int .i64 a.id, .int .i64 a.adv, .int .i64 a.seq, .int .i64 a.sum, .int .i64 a.long] 40) 40 #[.int .i64 b.age, .int .i64 b.kind, .int .i64 b.id, .int .i64 b.adv, .int .i64 b.seq, .int .i64 b.sum, .int .i64 b.long])
  have HG := Lib.hid (show ∃ os, (w.alloc (.cells #[.int .i64 a.age, .int .i64 a.kind, .int .i64 a.id, .int .i64 a.adv, .int .i64 a.seq, .int .i64 a.sum, .int .i64 a.long] 40)).alloc (.cells #[.int .i64 b.age, .int .i64 b.kind, .int .i64 b.id, .int .i64 b.adv, .int .i64 b.seq, .int .i64 b.sum, .int .i64 b.long] 40) = grow w os from ⟨_, by rw [alloc_eq_grow, alloc_eq_grow, grow_grow]⟩)
  have mixed : Tryz.prog.follows .mixedOrders = true := by kernel_rfl
  go_enter Tryz.func31, Tryz.ntmps31
  go_wp2_with fail
  generalize (w.alloc (.cells #[.int .i64 a.age, .int .i64 a.kind, .int .i64 a.id, .int .i64 a.adv, .int .i64 a.seq, .int .i64 a.sum, .int .i64 a.long] 40)).alloc (.cells #[.int .i64 b.age, .int .i64 b.kind, .int .i64 b.id, .int .i64 b.adv, .int .i64 b.seq, .int .i64 b.sum, .int .i64 b.long] 40) = w0 at *
  have p1 := fun n os => Calls.grown_of (keyOf_grown a (grow (w0.drewN n) os))
  have p2 := fun n os => Calls.grown_of (keyOf_grown b (grow (w0.drewN n) os))
  have p3 := fun n os => Calls.grown_of (compare7 (keyH a) (keyH b) (grow (w0.drewN n) os))
  have ga0 := fun n os => cell_grown (n := n) (os := os) (World.block_lt_of_cell? w0 _ a0) a0
  have ga1 := fun n os => cell_grown (n := n) (os := os) (World.block_lt_of_cell? w0 _ a1) a1
  have ga2 := fun n os => cell_grown (n := n) (os := os) (World.block_lt_of_cell? w0 _ a2) a2
  have ga3 := fun n os => cell_grown (n := n) (os := os) (World.block_lt_of_cell? w0 _ a3) a3
  have ga4 := fun n os => cell_grown (n := n) (os := os) (World.block_lt_of_cell? w0 _ a4) a4
  have ga5 := fun n os => cell_grown (n := n) (os := os) (World.block_lt_of_cell? w0 _ a5) a5
  have ga6 := fun n os => cell_grown (n := n) (os := os) (World.block_lt_of_cell? w0 _ a6) a6
  have gb0 := fun n os => cell_grown (n := n) (os := os) (World.block_lt_of_cell? w0 _ b0) b0
  have gb1 := fun n os => cell_grown (n := n) (os := os) (World.block_lt_of_cell? w0 _ b1) b1
  have gb2 := fun n os => cell_grown (n := n) (os := os) (World.block_lt_of_cell? w0 _ b2) b2
  have gb3 := fun n os => cell_grown (n := n) (os := os) (World.block_lt_of_cell? w0 _ b3) b3
  have gb4 := fun n os => cell_grown (n := n) (os := os) (World.block_lt_of_cell? w0 _ b4) b4
  have gb5 := fun n os => cell_grown (n := n) (os := os) (World.block_lt_of_cell? w0 _ b5) b5
  have gb6 := fun n os => cell_grown (n := n) (os := os) (World.block_lt_of_cell? w0 _ b6) b6
  clear a0 a1 a2 a3 a4 a5 a6 b0 b1 b2 b3 b4 b5 b6
  unfold keyH at p3
  dsimp only at p3
  rw [show cmpK ⟨a.kind, a.id, a.adv⟩ ⟨b.kind, b.id, b.adv⟩ = cmpH a b from rfl] at p3
  obtain ⟨r, hr⟩ : ∃ r, cmpH a b = r := ⟨_, rfl⟩
  rw [hr] at p3
  have HR := Lib.hid hr
  clear hr
  go_quiet_grown (first | (go_at_call 17; first | with_reducible exact p1 _ _ | with_reducible exact p2 _ _) | (go_at_call 39; with_reducible exact p3 _ _))
  obtain ⟨os, hos⟩ := HG.out
  go_wp2_with fail
  go_ret
  exact ⟨by rw [HR.out]; rfl, nq, os ++ osq, by rw [hos, ← grow_grow]; rfl⟩
theorem flat_hd (K : List Hd) : flatK encHd 7 K.toArray = (cellsBy encHd K).toArray := by
  refine ext_get! (by simp [by_length encHd_len]) fun t ht => ?_
  have ht' : t < K.toArray.size * 7 := by simpa using ht
  have ht2 : t < K.length * 7 := by simpa using ht'
  rw [get_flatK _ _ _ t ht']
  have hd : t / 7 < K.length := by omega
  have hK : K[t / 7]? = some (K[t / 7]'hd) := List.getElem?_eq_getElem hd
  have h1 : (cellsBy encHd K)[t / 7 * 7 + t % 7]? = (encHd _)[t % 7]? := by_at encHd_len K (t / 7) _ hK (t % 7) (by omega)
  rw [show t / 7 * 7 + t % 7 = t by omega] at h1
  have h2 : K.toArray[t / 7]! = K[t / 7]'hd := by
    rw [getElem!_pos K.toArray (t / 7) (by simpa using hd)]
    simp
  rw [h2]
  have hl : t < (cellsBy encHd K).toArray.size := by simp [by_length encHd_len]; omega
  have h3 : t % 7 < (encHd (K[t / 7]'hd)).length := by simp [encHd]; omega
  rw [getElem!_pos (cellsBy encHd K).toArray t hl, getElem!_pos _ (t % 7) h3]
  rw [List.getElem?_eq_getElem (by simpa using hl), List.getElem?_eq_getElem h3] at h1
  injection h1 with h1
  simpa using h1.symm
theorem enters_cmpH : ∀ args w, (callFunc 31 args).run Tryz.prog w = .ok (.enter 31 args) w := enters_of Tryz.func31 (by kernel_rfl) rfl
set_option maxHeartbeats 2000000 in
theorem top_sort {A : Option Addr} {n c g : Nat} {w : World} {R : World → Prop} (h : Calls Tryz.prog 49 #[.slice A n c, .int .i64 (n : Int), .func (.func g) #[] #[]] w fun e w' => e = .returned (.tuple #[]) ∧ R w') :
    Calls Tryz.prog 30 #[.slice A n c, .func (.func g) #[] #[]] w fun e w' => e = .returned (.tuple #[]) ∧ R w' := by
  have H := Lib.hid h
  clear h
  go_enter Tryz.func30, Tryz.ntmps30
  go_wp2_with (go_at_call 49; refine H.out.mono ?_; rintro e w' ⟨rfl, hr⟩)
  go_end0
  exact ⟨rfl, hr⟩
set_option maxHeartbeats 2000000 in
theorem stable_none (g : Nat) (w : World) : Calls Tryz.prog 49 #[.slice none 0 0, .int .i64 ((0 : Nat) : Int), .func (.func g) #[] #[]] w fun e w' => e = .returned (.tuple #[]) ∧ w' = w := by
  have hi := fun W => AnyF.insertionSortCmpFunc_none insHd7 none 0 (.func (.func g) #[] #[]) W
  rw [show ((0 : Nat) : Int) = 0 from rfl]
  go_enter Tryz.func49, Tryz.ntmps49
  go_wp2
  refine wp_loop_rounds 1 ?_
  rw [rounds_succ]
  go_wp2_with (go_at_call 68; refine (hi _).mono ?_; rintro e w' ⟨rfl, rfl⟩)
  refine wp_loop_rounds 1 ?_
  rw [rounds_succ]
  go_wp2
  go_end0
  exact ⟨rfl, rfl⟩
set_option maxHeartbeats 4000000 in
/-- The library's stable sort of a row of the call's own. -/
theorem sort_heads {w : World} {base n c : Nat} {A : Option Addr} {K : List Hd} (ho : w.ownsRow base 40 7 (.slice A n c) n (cellsBy encHd K)) (hn : n ≤ 1000) :
    Calls Tryz.prog 30 #[.slice A n c, .func (.func 31) #[] #[]] w
      fun e w' => e = .returned (.tuple #[]) ∧ (∃ K', Ord lessH K' ∧ Stab lessH K K' ∧ w'.ownsRow base 40 7 (.slice A n c) n (cellsBy encHd K')) ∧ w.grownBy w' (Value.slice A n c).ownBlock := by
  have hlK := own_lenH encHd_len (by omega) ho
  refine top_sort (R := fun w' => (∃ K', Ord lessH K' ∧ Stab lessH K K' ∧ w'.ownsRow base 40 7 (.slice A n c) n (cellsBy encHd K')) ∧ w.grownBy w' (Value.slice A n c).ownBlock) ?_
  rcases ho.2 with ⟨hv, hn0⟩ | ⟨g, cap, cur, hv, hbase, hb, h1, h2, h3, h4⟩
  · injection hv with e1 e2 e3
    subst e1 e2 e3
    obtain rfl : K = [] := List.eq_nil_of_length_eq_zero hlK
    refine (stable_none _ w).mono ?_
    rintro e w' ⟨rfl, rfl⟩
    exact ⟨rfl, ⟨[], List.Pairwise.nil, Stab.refl _, ho⟩, rfl, rfl, rfl, Nat.le_refl _, fun _ _ _ => rfl⟩
  · cases hv
    obtain ⟨d, hd⟩ : ∃ d, d = K.toArray := ⟨_, rfl⟩
    have hdz : d.size = n := by rw [hd, List.size_toArray, hlK]
    have hcmp : CmpLays Tryz.prog 31 #[] encHd 7 cmpH g 0 d.size w := fun m os dk _ x y => by
      rw [Array.append_empty]
      exact compareH x y _
    have hH : HoldsK encHd 7 w g 0 d := by
      unfold HoldsK
      rw [hd, flat_hd]
      refine holds7 hb ?_
      rw [List.size_toArray, by_length encHd_len, hlK, h4]
    have hblk : g < w.heap.size := (Array.getElem?_eq_some_iff.1 hb).1
    have R : RowK encHd 7 w g 0 d := ⟨encHd_len, encHd_ones, hH, hblk⟩
    have F : StabFam Tryz.prog 40 7 encHd cmpH 31 #[] g 0 d w := ⟨Tryz.isAgg40, Tryz.sizeOf40, enters_cmpH, hcmp, swo_cmpH, R⟩
    have hc := stable_any stabLays F c d w rfl (SWK.start hH) (by omega) (fun a b dj W' hj S' hab hb' => by
      have h := AnyQ.insertionSortCmpFunc_w insHd7 7 Tryz.isAgg40 Tryz.sizeOf40 encHd cmpH 31 #[] g 0 c a b d dj w W' enters_cmpH hcmp R hj.symm S' swo_cmpH hab (by omega) (by omega)
      rw [hj] at h
      refine Calls.mono h ?_
      rintro e w' ⟨rfl, h'⟩
      have hm := mix_ins swo_cmpH dj hab (by omega)
      exact ⟨rfl, _, h', hm.1, hm.2⟩)
    rw [hdz] at hc
    refine Calls.mono hc ?_
    rintro e w' ⟨rfl, d', ⟨m, os, rfl⟩, hm, hs⟩
    have hz : d'.size = n := by rw [hm.size, hdz]
    have hl : d'.toList.length = n := by rw [Array.length_toList, hz]
    have hfl : flatK encHd 7 d' = (cellsBy encHd d'.toList).toArray := by rw [← flat_hd]
    have hls : (cellsBy encHd d'.toList).length = n * 7 := by rw [by_length encHd_len, hl]
    refine ⟨rfl, ⟨d'.toList, ?_, ?_, ?_⟩, ?_⟩
    · rw [← ltOf_cmpH]
      exact ord_of_sorted (by rw [hz]; exact hs)
    · have := hm.2
      rw [hd, ltOf_cmpH] at this
      exact this
    · unfold sortWorldK putRowK
      rw [hfl]
      refine ⟨hls, .inr ⟨g, c, _, rfl, hbase, heap_sorted7 _ hb, h1, h2, by simp [putCells, h3], ?_⟩⟩
      have h5 := take_putCells7 (cur := cur) (F := (cellsBy encHd d'.toList).toArray) (by
        rw [List.size_toArray, hls, h3]
        omega)
      rw [List.size_toArray, hls] at h5
      exact h5
    · unfold sortWorldK putRowK
      exact grownBy_sorted7 _
end Go.Proofs.YtfdfdmbnggpnbaaGreat
namespace Go.Proofs.YtfdfdmbnggpnbaaGreat
open Go.ChangeShapes Go.WideShapes Go.RowKit Go.Deep
set_option maxRecDepth 20000

theorem Tryz.cells3 : Tryz.prog.cellsOf 3 = 1 := by kernel_rfl
theorem Tryz.cells23 : Tryz.prog.cellsOf 40 = 7 := by kernel_rfl
theorem Tryz.cells24 : Tryz.prog.cellsOf 41 = 1 := by kernel_rfl
theorem Tryz.cells25 : Tryz.prog.cellsOf 42 = 1 := by kernel_rfl
theorem Tryz.cells53 : Tryz.prog.cellsOf 86 = 4 := by kernel_rfl

section
variable {H : Type} {enc : TypeId × Value → H} {w : World} {base : Nat} {held : Bool} {fuel : Nat}
theorem int_came {c : Value} {y : Option (DataW H × List MemPlace)} {spare : Nat → Bool} (hy : y.isSome = true) (h : DataW.trod enc Tryz.prog w base spare held fuel 3 [c] = y) : ∃ z, c = .int .i64 z := by
  obtain ⟨x, rfl⟩ := Option.isSome_iff_exists.1 hy
  obtain ⟨z, hz, _⟩ := DataW.trod_int Tryz.underlying3 h
  simp at hz
  exact ⟨z, hz⟩
/-- Four integers that came in are a link. -/
theorem link_came {cs : List Value} {x : DataW H × List MemPlace} {spare : Nat → Bool} (h : DataW.trod enc Tryz.prog w base spare held fuel 86 cs = some x) :
    ∃ k : Lk, cs = [.int .i64 k.kind, .int .i64 k.id, .int .i64 k.data, .int .i64 k.cost] := by
  obtain ⟨xs, n, _, _, hcl, hlen, hg⟩ := DataW.trod_struct Tryz.underlying86 h
  rw [Tryz.cells53] at hcl
  have g0 : DataW.trod enc Tryz.prog w base spare held n 3 ((cs.drop 0).take (Tryz.prog.cellsOf 3)) = xs[0]? := hg 0 _ rfl
  have g1 : DataW.trod enc Tryz.prog w base spare held n 3 ((cs.drop 1).take (Tryz.prog.cellsOf 3)) = xs[1]? := hg 1 _ rfl
  have g2 : DataW.trod enc Tryz.prog w base spare held n 3 ((cs.drop 2).take (Tryz.prog.cellsOf 3)) = xs[2]? := hg 2 _ rfl
  have g3 : DataW.trod enc Tryz.prog w base spare held n 3 ((cs.drop 3).take (Tryz.prog.cellsOf 3)) = xs[3]? := hg 3 _ rfl
  rw [Tryz.cells3] at g0 g1 g2 g3
  match cs, hcl, xs, hlen with
  | [c0, c1, c2, c3], _, [y0, y1, y2, y3], _ =>
    obtain ⟨z0, rfl⟩ := int_came rfl g0
    obtain ⟨z1, rfl⟩ := int_came rfl g1
    obtain ⟨z2, rfl⟩ := int_came rfl g2
    obtain ⟨z3, rfl⟩ := int_came rfl g3
    exact ⟨⟨z0, z1, z2, z3⟩, rfl⟩
/-- A slice of links that came in. -/
theorem lnk_came {v : Value} {x : DataW H × List MemPlace} (h : DataW.trod enc Tryz.prog w base (fun _ => true) held fuel 41 [v] = some x) :
    ∃ A n c L, v = .slice A n c ∧ Lnk w w.heap.size A n L ∧ n ≤ c ∧ c ≤ maxLen := by
  rcases open_slice Tryz.underlying41 h with ⟨hcs, _⟩ | ⟨a, len, cap, m, n, D, Pl, hcs, _, hl, hm, hmm, _, hi⟩
  · simp at hcs
    subst hcs
    exact ⟨none, 0, 0, [], rfl, Lnk.nil, Nat.le_refl _, by unfold maxLen; omega⟩
  · simp at hcs
    subst hcs
    simp at hmm
    subst hmm
    rw [Tryz.cells53] at hi
    have hk : ∀ i, i < m → ∃ k : Lk, w.cell? (a.add (i * 4)) = some (.int .i64 k.kind) ∧ w.cell? ((a.add (i * 4)).add 1) = some (.int .i64 k.id) ∧ w.cell? ((a.add (i * 4)).add 2) = some (.int .i64 k.data) ∧ w.cell? ((a.add (i * 4)).add 3) = some (.int .i64 k.cost) := by
      intro i him
      obtain ⟨cs', hc, ht⟩ := hi i him
      obtain ⟨_, hcl, hat⟩ := World.cells?_some hc
      obtain ⟨k, rfl⟩ := link_came ht
      refine ⟨k, ?_, hat 1 (by omega), hat 2 (by omega), hat 3 (by omega)⟩
      have h0 := hat 0 (by omega)
      have e : (a.add (i * 4)).add 0 = a.add (i * 4) := by
        unfold Addr.add
        split <;> simp_all
      rw [e] at h0
      exact h0
    obtain ⟨F, hF⟩ : ∃ F : Nat → Lk, ∀ i, i < m → w.cell? (a.add (i * 4)) = some (.int .i64 (F i).kind) ∧ w.cell? ((a.add (i * 4)).add 1) = some (.int .i64 (F i).id) ∧ w.cell? ((a.add (i * 4)).add 2) = some (.int .i64 (F i).data) ∧ w.cell? ((a.add (i * 4)).add 3) = some (.int .i64 (F i).cost) := by
      refine ⟨fun i => if hi : i < m then Classical.choose (hk i hi) else ⟨0, 0, 0, 0⟩, fun i him => ?_⟩
      simp only [him, dif_pos]
      exact Classical.choose_spec (hk i him)
    refine ⟨some a, len, m, (List.range len).map F, rfl, ⟨by simp, fun hn => ?_⟩, hl, hm⟩
    obtain ⟨b, o, spot⟩ := a
    have hspot : spot = none := by simpa [Addr.add] using World.cell?_spot (hF 0 (by omega)).1
    subst hspot
    refine ⟨b, o, rfl, World.block_lt_of_cell? w _ (hF 0 (by omega)).1, fun j hj => ?_⟩
    have e : ((List.range len).map F).getD j ⟨0, 0, 0, 0⟩ = F j := by
      rw [List.getD_eq_getElem?_getD, List.getElem?_map, List.getElem?_range hj]; rfl
    rw [e]
    obtain ⟨h0, h1, h2, h3⟩ := hF j (by omega)
    simp only [addr_add] at h0 h1 h2 h3
    exact ⟨h0, h1, h2, h3⟩
/-- A slice of integers that came in. -/
theorem ints_came {v : Value} {x : DataW H × List MemPlace} (h : DataW.trod enc Tryz.prog w base (fun _ => true) held fuel 42 [v] = some x) :
    ∃ A n c M, v = .slice A n c ∧ Row .i64 w w.heap.size A n M ∧ n ≤ c ∧ c ≤ maxLen := by
  rcases open_ints Tryz.underlying42 Tryz.underlying3 Tryz.cells3 h with ⟨hcs, _⟩ | ⟨x', l, c, zs, hcs, _, hl, hm, hz, _, hcell, hwz⟩
  · simp at hcs
    subst hcs
    exact ⟨none, 0, 0, [], rfl, Row.nil, Nat.le_refl _, by unfold maxLen; omega⟩
  · simp at hcs
    subst hcs
    obtain ⟨M, h1, _, h3, _⟩ := row_of_is (k := .i64) (w := w) (a := some x') (len := l) (cap := c) (zs := zs) (.inr ⟨x', rfl, hl, hm, by simpa using hz, hcell, hwz⟩)
    exact ⟨some x', l, c, M, rfl, h1, hl, hm⟩
end
end Go.Proofs.YtfdfdmbnggpnbaaGreat
