/- The library's symmetric merge of any two rows in order, walked over any program and any struct. Conditions: what the words say; fewer than 2 to the 62 items. -/
import Derived.Test.YtjinleakjkbbgaaUg
import Derived.Deep.CutBlock
import Derived.Deep.DeepCutAuto
namespace Go.Proofs.Ytjinleakjkbbgaa
open Go.Shelf Go.RowKit Go.Lib Go.Sort
variable {P : Program} {α : Type} [Inhabited α]
variable {fs fr fm fi fb ft ts te tc ti tb tu t0 k : Nat} {enc : α → List Value} {cf : α → α → Int} {g : Nat} {cb : Array Value} {blk off : Nat} {d0 : Array α} {w0 : World}
set_option maxHeartbeats 16000000 in
set_option maxRecDepth 1000000 in
theorem merge_rec_any (L : StabLays P fs fr fm fi fb ft ts te tc ti tb tu t0) (F : StabFam P te k enc cf g cb blk off d0 w0) (cap a m b : Nat) (d : Array α) (W : World) (hs : d0.size = d.size) (S : SWK enc k w0 blk off d W) (ham : a + 1 < m) (hmb : m + 1 < b) (hb : b ≤ d.size) (hsz : d.size < 4611686018427387904) (hA : SortedIn (ltOf cf) a m d) (hB : SortedIn (ltOf cf) m b d)
    (IH : ∀ (a' m' b' : Nat) (d' : Array α) (W' : World), b' - a' < b - a → d'.size = d.size → SWK enc k w0 blk off d' W' → a' < m' → m' < b' → b' ≤ d.size → SortedIn (ltOf cf) a' m' d' → SortedIn (ltOf cf) m' b' d' →
      Calls P fm #[.slice (some ⟨blk, off, none⟩) d.size cap, .int .i64 a', .int .i64 m', .int .i64 b', .func (.func g) #[] cb] W' (MergeQ enc k w0 blk off cf a' b' d')) :
    Calls P fm #[.slice (some ⟨blk, off, none⟩) d.size cap, .int .i64 a, .int .i64 m, .int .i64 b, .func (.func g) #[] cb] W (MergeQ enc k w0 blk off cf a b d) := by
  have mixed := L.mixed; have u0 := L.u0; have a0 := L.a0; have z0 := L.z0; have v0 := L.v0; have ui := L.ui; have ai := L.ai; have zi := L.zi; have vi := L.vi; have ub := L.ub; have ab := L.ab; have zb := L.zb; have vb := L.vb; have us := L.us; have aS := L.aS; have zs := L.zs; have vs := L.vs; have uc := L.uc; have ac := L.ac; have zc := L.zc; have vc := L.vc; have uu := L.uu; have au := L.au; have zu := L.zu; have vu := L.vu
  have er := L.er
  have em := L.em
  obtain ⟨nm, FG⟩ := L.fme
  have RT := Lib.hid (fun (p q r : Nat) (W' : World) (S' : SWK enc k w0 blk off d W') (h1 : p < q) (h2 : q < r) (h3 : r ≤ d.size) => rotate_any L F cap p q r d W' hs S' h1 h2 h3 hsz)
  obtain ⟨aE, zE, eg, hcmp, hsw, R⟩ := F
  have HC := Lib.hid hcmp
  have HO := Lib.hid hsw
  have S0 := Lib.hid S
  have HAS := Lib.hid hA
  have HBS := Lib.hid hB
  have HI := Lib.hid IH
  generalize hQ : MergeQ enc k w0 blk off cf a b d = Q
  have HQ := Lib.hid hQ
  clear hcmp S hA hB hsw hQ IH
  obtain ⟨u, hu⟩ : ∃ u, u = m - a := ⟨_, rfl⟩
  obtain ⟨u2, hu2⟩ : ∃ u2, u2 = b - m := ⟨_, rfl⟩
  have e1 : (m : Int) - (a : Int) = (u : Int) := by omega
  have e2 : (b : Int) - (m : Int) = (u2 : Int) := by omega
  have w_u : IntKind.i64.wrap (u : Int) = (u : Int) := by rw [IntKind.wrap_i64]; omega
  have w_u2 : IntKind.i64.wrap (u2 : Int) = (u2 : Int) := by rw [IntKind.wrap_i64]; omega
  have d1 : ((u : Int) == 1) = false := by simp; omega
  have d2 : ((u2 : Int) == 1) = false := by simp; omega
  clear hu hu2
  obtain ⟨ab, hab⟩ : ∃ ab, ab = a + b := ⟨_, rfl⟩
  obtain ⟨mid, hmid⟩ : ∃ mid, mid = ab / 2 := ⟨_, rfl⟩
  obtain ⟨n, hn⟩ : ∃ n, n = mid + m := ⟨_, rfl⟩
  obtain ⟨p, hp⟩ : ∃ p, p = n - 1 := ⟨_, rfl⟩
  have e3 : (a : Int) + (b : Int) = (ab : Int) := by omega
  have w_ab : IntKind.i64.wrap (ab : Int) = (ab : Int) := by rw [IntKind.wrap_i64]; omega
  have wu_ab : IntKind.u64.wrap (ab : Int) = (ab : Int) := by rw [IntKind.wrap_u64]; omega
  have e4 : (ab : Int) / 2 = (mid : Int) := by omega
  have w_mid : IntKind.i64.wrap (mid : Int) = (mid : Int) := by rw [IntKind.wrap_i64]; omega
  have e5 : (mid : Int) + (m : Int) = (n : Int) := by omega
  have w_n : IntKind.i64.wrap (n : Int) = (n : Int) := by rw [IntKind.wrap_i64]; omega
  have e6 : (n : Int) - 1 = (p : Int) := by omega
  have w_p : IntKind.i64.wrap (p : Int) = (p : Int) := by rw [IntKind.wrap_i64]; omega
  have HN := Lib.hid (show a + b ≤ 2 * mid + 1 ∧ 2 * mid ≤ a + b ∧ n = mid + m ∧ n = p + 1 by omega)
  clear hab hmid hn hp
  go_enter FG, bMerge_n nm fr fm ts te tc ti tb tu t0
  go_upto_if 140 with fail
  go_cut [20, 21] (fun s20 s21 wx => ∃ lo hi : Nat, s20 = .int .i64 lo ∧ s21 = .int .i64 hi ∧ Hid (a ≤ lo ∧ lo ≤ hi ∧ hi ≤ m ∧ n ≤ lo + b ∧ m + hi ≤ n ∧ (lo = a ∨ lo + b = n) ∧ (hi = m ∨ hi + m = n)) ∧ W = wx)
  case first =>
    have hN := HN.out
    by_cases c1 : mid < m
    · have c1' : (mid : Int) < (m : Int) := by omega
      obtain ⟨lo, hlo⟩ : ∃ lo, lo = n - b := ⟨_, rfl⟩
      have e7 : (n : Int) - (b : Int) = (lo : Int) := by omega
      have w_lo : IntKind.i64.wrap (lo : Int) = (lo : Int) := by rw [IntKind.wrap_i64]; omega
      have HF := Lib.hid (show a ≤ lo ∧ lo ≤ mid ∧ mid ≤ m ∧ n ≤ lo + b ∧ m + mid ≤ n ∧ (lo = a ∨ lo + b = n) ∧ (mid = m ∨ mid + m = n) by omega)
      clear hlo hN
      go_wp2
      go_meet
      exact ⟨lo, mid, rfl, rfl, HF, rfl⟩
    · have c1' : ¬ (mid : Int) < (m : Int) := by omega
      have HF := Lib.hid (show a ≤ m ∧ n ≤ a + b ∧ m + m ≤ n by omega)
      clear hN
      go_wp2
      go_meet
      exact ⟨a, m, rfl, rfl, Lib.hid ⟨Nat.le_refl _, HF.out.1, Nat.le_refl _, HF.out.2.1, HF.out.2.2, .inl rfl, .inl rfl⟩, rfl⟩
  case rest =>
    obtain ⟨lo, hi, rfl, rfl, HF, rfl⟩ := hcut
    go_wp2_with fail
    go_loopw [20, 21] (fun vi vj wr => ∃ (s r : Nat), vi = .int .i64 s ∧ vj = .int .i64 r ∧ lo ≤ s ∧ s ≤ r ∧ r ≤ hi ∧ Hid (SWK enc k w0 blk off d wr) ∧ Hid (s = lo ∨ ltOf cf d[n - s]! d[s - 1]! = false) ∧ Hid (r = hi ∨ ltOf cf d[n - 1 - r]! d[r]! = true)) (fun vi vj _ => (intOf vj).toNat - (intOf vi).toNat)
    case atStart => exact ⟨lo, hi, rfl, rfl, Nat.le_refl _, HF.out.2.1, Nat.le_refl _, S0, Lib.hid (.inl rfl), Lib.hid (.inl rfl)⟩
    case round =>
      clear S0
      obtain ⟨s, r, rfl, rfl, hls, hsr, hrh, SK, HL, HR⟩ := hrel
      by_cases hlt : s < r
      · have hlt' : (s : Int) < (r : Int) := by omega
        have hF := HF.out
        have hN := HN.out
        obtain ⟨t, ht⟩ : ∃ t, t = s + r := ⟨_, rfl⟩
        have e7 : (s : Int) + (r : Int) = (t : Int) := by omega
        obtain ⟨c, hc0⟩ : ∃ c, c = t / 2 := ⟨_, rfl⟩
        have g3 : s ≤ c := by omega
        have g4 : c < r := by omega
        have w_t : IntKind.i64.wrap (t : Int) = (t : Int) := by rw [IntKind.wrap_i64]; omega
        have wu_t : IntKind.u64.wrap (t : Int) = (t : Int) := by rw [IntKind.wrap_u64]; omega
        have w_c : IntKind.i64.wrap (c : Int) = (c : Int) := by rw [IntKind.wrap_i64]; omega
        have e8 : (t : Int) / 2 = (c : Int) := by omega
        clear ht hc0
        obtain ⟨q, hq⟩ : ∃ q, q = p - c := ⟨_, rfl⟩
        have e9 : (p : Int) - (c : Int) = (q : Int) := by omega
        have w_q : IntKind.i64.wrap (q : Int) = (q : Int) := by rw [IntKind.wrap_i64]; omega
        have q_p : (0 : Int) ≤ (q : Int) := by omega
        have q_u : (q : Int) < (d.size : Int) := by omega
        have q_n : ((q : Int)).toNat = q := by omega
        have c_p : (0 : Int) ≤ (c : Int) := by omega
        have c_u : (c : Int) < (d.size : Int) := by omega
        have c_n : ((c : Int)).toNat = c := by omega
        obtain ⟨x, hx⟩ : ∃ x, x = d[q]! := ⟨_, rfl⟩
        obtain ⟨y, hy⟩ : ∃ y, y = d[c]! := ⟨_, rfl⟩
        have lx := SK.out.ld R (by omega) P q (by omega)
        have ly := SK.out.ld R (by omega) P c (by omega)
        rw [← hx] at lx
        rw [← hy] at ly
        have hc := SK.out.cmp HC.out (by omega) x y
        have hq1 : n - (c + 1) = q := by omega
        have hq2 : n - 1 - c = q := by omega
        cases hl : ltOf cf x y
        · have hd : decide (cf x y < 0) = false := hl
          have HL2 := Lib.hid (show c + 1 = lo ∨ ltOf cf d[n - (c + 1)]! d[c + 1 - 1]! = false from .inr (by rw [hq1, show c + 1 - 1 = c by omega, ← hx, ← hy]; exact hl))
          clear hl hx hy hF hN hq hq1 hq2
          go_wp2_with fail
          go_quiet_grown (first | (go_at_fn g; refine Calls.grown_of (hc _ _)))
          have SV := Lib.hid (SK.out.grown nq osq)
          clear lx ly hc SK hd HL
          generalize grow (wr.drewN nq) osq = wv at *
          clear nq osq
          go_wp2
          go_roundw
          case rel => exact ⟨c + 1, r, by go_num, rfl, by omega, g4, hrh, SV, HL2, HR⟩
          case measure => simp [intOf]; omega
        · have hd : decide (cf x y < 0) = true := hl
          have HR2 := Lib.hid (show c = hi ∨ ltOf cf d[n - 1 - c]! d[c]! = true from .inr (by rw [hq2, ← hx, ← hy]; exact hl))
          clear hl hx hy hF hN hq hq1 hq2
          go_wp2_with fail
          go_quiet_grown (first | (go_at_fn g; refine Calls.grown_of (hc _ _)))
          have SV := Lib.hid (SK.out.grown nq osq)
          clear lx ly hc SK hd HR
          generalize grow (wr.drewN nq) osq = wv at *
          clear nq osq
          go_wp2
          go_roundw
          case rel => exact ⟨s, c, rfl, rfl, hls, g3, by omega, SV, HL, HR2⟩
          case measure => simp [intOf]; omega
      · have hlt' : ¬ (s : Int) < (r : Int) := by omega
        obtain ⟨e, he⟩ : ∃ e, e = n - s := ⟨_, rfl⟩
        have hF := HF.out
        have hN := HN.out
        have e7 : (n : Int) - (s : Int) = (e : Int) := by omega
        have w_e : IntKind.i64.wrap (e : Int) = (e : Int) := by rw [IntKind.wrap_i64]; omega
        have G := Lib.hid (show a ≤ s ∧ s ≤ m ∧ m ≤ e ∧ e ≤ b ∧ mid + m = s + e ∧ a < mid ∧ mid < b ∧ s ≤ mid ∧ mid ≤ e by omega)
        have HO1 := Lib.hid (show s = a ∨ e = b ∨ ltOf cf d[e]! d[s - 1]! = false by
          rcases HL.out with h | h
          · omega
          · rw [← he] at h
            exact .inr (.inr h))
        have HO2 := Lib.hid (show s = m ∨ e = m ∨ ltOf cf d[e - 1]! d[s]! = true by
          rcases HR.out with h | h
          · omega
          · rw [show n - 1 - r = e - 1 by omega, show r = s by omega] at h
            exact .inr (.inr h))
        clear HL HR hF hN he
        obtain ⟨rb, hrb⟩ : ∃ rb : Bool, rb = (decide (s < m) && decide (m < e)) := ⟨_, rfl⟩
        have HRB := Lib.hid hrb
        clear hrb
        go_upto_region 39 with fail
        go_cut [185] (fun s185 wx => s185 = .bool rb ∧ wr = wx)
        case first =>
          as_aux_lemma =>
            by_cases c1 : s < m
            · have c1' : (s : Int) < (m : Int) := by omega
              by_cases c2 : m < e
              · have c2' : (m : Int) < (e : Int) := by omega
                go_wp2_with fail
                go_meet
                exact ⟨by rw [HRB.out]; simp [c1, c2], rfl⟩
              · have c2' : ¬ (m : Int) < (e : Int) := by omega
                go_wp2_with fail
                go_meet
                exact ⟨by rw [HRB.out]; simp [c1, c2], rfl⟩
            · have c1' : ¬ (s : Int) < (m : Int) := by omega
              go_wp2_with fail
              go_meet
              exact ⟨by rw [HRB.out]; simp [c1], rfl⟩
        case rest =>
          as_aux_lemma =>
            obtain ⟨rfl, rfl⟩ := hcut
            go_upto_if 185 with fail
            go_cut [24] (fun s24 wx => s24 = .int .i64 e ∧ ∃ dz : Array α, Hid (SWK enc k w0 blk off dz wx) ∧ Hid (RotOk d s m e dz) ∧ Hid (PermIn a b d dz))
            case first =>
              as_aux_lemma =>
                cases rb
                · have RZ := Lib.hid (show RotOk d s m e d by
                    have h := HRB.out
                    obtain ⟨g1, g2, g3, -⟩ := G.out
                    by_cases c1 : s < m
                    · by_cases c2 : m < e
                      · simp [c1, c2] at h
                      · rw [show e = m by omega]
                        exact RotOk.refl d s m
                    · rw [show s = m by omega]
                      exact RotOk.refl' d m e)
                  go_wp2_with fail
                  go_meet
                  exact ⟨rfl, d, SK, RZ, Lib.hid (permIn_refl d a b)⟩
                · have h1 : s < m ∧ m < e := by
                    have h := HRB.out
                    simp at h
                    exact h
                  have hc := RT.out s m e wr SK.out h1.1 h1.2 (by have := G.out; omega)
                  have HCR := Lib.hid hc
                  clear hc h1
                  go_wp2_with (go_at_fn fr; refine HCR.out.mono ?_; rintro ee w1 ⟨rfl, dz, S2, O2, P2⟩)
                  have SZ := Lib.hid S2
                  have OZ := Lib.hid O2
                  have PZ := Lib.hid (P2 a b G.out.1 G.out.2.2.2.1 hb)
                  clear S2 O2 P2
                  go_meet
                  exact ⟨rfl, dz, SZ, OZ, PZ⟩
            case rest =>
              as_aux_lemma =>
                clear SK HRB
                obtain ⟨rfl, dz, SZ, OZ, PZ⟩ := hcut
                have hG := G.out
                have MR := Lib.hid (merge_rot HO.out HAS.out HBS.out OZ.out hG.1 hG.2.1 hG.2.2.1 hG.2.2.2.1 hb hG.2.2.2.2.1 HO1.out HO2.out PZ.out)
                have hsz1 : dz.size = d.size := OZ.out.1
                clear OZ PZ HO1 HO2 hG
                obtain ⟨rc, hrb⟩ : ∃ rc : Bool, rc = (decide (a < s) && decide (s < mid)) := ⟨_, rfl⟩
                have RC := Lib.hid hrb
                clear hrb
                go_upto_region 41 with fail
                go_cut [199] (fun s199 wx => s199 = .bool rc ∧ wc = wx)
                case first =>
                  as_aux_lemma =>
                    by_cases c1 : a < s
                    · have c1' : (a : Int) < (s : Int) := by omega
                      by_cases c2 : s < mid
                      · have c2' : (s : Int) < (mid : Int) := by omega
                        go_wp2_with fail
                        go_meet
                        exact ⟨by rw [RC.out]; simp [c1, c2], rfl⟩
                      · have c2' : ¬ (s : Int) < (mid : Int) := by omega
                        go_wp2_with fail
                        go_meet
                        exact ⟨by rw [RC.out]; simp [c1, c2], rfl⟩
                    · have c1' : ¬ (a : Int) < (s : Int) := by omega
                      go_wp2_with fail
                      go_meet
                      exact ⟨by rw [RC.out]; simp [c1], rfl⟩
                case rest =>
                  as_aux_lemma =>
                    obtain ⟨rfl, rfl⟩ := hcut
                    go_upto_if 199 with fail
                    go_cut [24] (fun s24 wx => s24 = .int .i64 e ∧ ∃ dy : Array α, Hid (SWK enc k w0 blk off dy wx) ∧ Hid (Mix (ltOf cf) a mid dz dy) ∧ Hid (SortedIn (ltOf cf) a mid dy))
                    case first =>
                      as_aux_lemma =>
                        cases rc
                        · have SS := Lib.hid (show SortedIn (ltOf cf) a mid dz by
                            have h := RC.out
                            have hG := G.out
                            obtain ⟨-, s1, s2, -⟩ := MR.out
                            by_cases c1 : a < s
                            · by_cases c2 : s < mid
                              · simp [c1, c2] at h
                              · rw [show mid = s by omega]
                                exact s1
                            · rw [show a = s by omega]
                              exact s2)
                          go_wp2_with fail
                          go_meet
                          exact ⟨rfl, dz, SZ, Lib.hid (Mix.refl a mid dz), SS⟩
                        · have h1 : a < s ∧ s < mid := by
                            have h := RC.out
                            simp at h
                            exact h
                          have hc := HI.out a s mid dz wc (by have := G.out; omega) hsz1 SZ.out h1.1 h1.2 (by have := G.out; omega) MR.out.2.1 MR.out.2.2.1
                          have HCR := Lib.hid hc
                          clear hc h1
                          go_wp2_with (go_at_fn fm; refine HCR.out.mono ?_; rintro ee w1 ⟨rfl, dy, S2, O2, P2⟩)
                          have SY := Lib.hid S2
                          have OY := Lib.hid O2
                          have PY := Lib.hid P2
                          clear S2 O2 P2
                          go_meet
                          exact ⟨rfl, dy, SY, OY, PY⟩
                    case rest =>
                      as_aux_lemma =>
                        clear SZ RC
                        obtain ⟨rfl, dy, SY, OY, PY⟩ := hcut
                        have hsz2 : dy.size = d.size := by rw [OY.out.size, hsz1]
                        have T1 := Lib.hid (show SortedIn (ltOf cf) mid e dy from fun x y h1 h2 h3 => by
                          rw [OY.out.out x (.inr h1), OY.out.out y (.inr (by omega))]
                          exact MR.out.2.2.2.1 x y h1 h2 h3)
                        have T2 := Lib.hid (show SortedIn (ltOf cf) e b dy from fun x y h1 h2 h3 => by
                          have := G.out
                          rw [OY.out.out x (.inr (by omega)), OY.out.out y (.inr (by omega))]
                          exact MR.out.2.2.2.2.1 x y h1 h2 h3)
                        obtain ⟨rd, hrb⟩ : ∃ rd : Bool, rd = (decide (mid < e) && decide (e < b)) := ⟨_, rfl⟩
                        have RD := Lib.hid hrb
                        clear hrb
                        go_upto_region 43 with fail
                        go_cut [213] (fun s213 wx => s213 = .bool rd ∧ wc = wx)
                        case first =>
                          as_aux_lemma =>
                            by_cases c1 : mid < e
                            · have c1' : (mid : Int) < (e : Int) := by omega
                              by_cases c2 : e < b
                              · have c2' : (e : Int) < (b : Int) := by omega
                                go_wp2_with fail
                                go_meet
                                exact ⟨by rw [RD.out]; simp [c1, c2], rfl⟩
                              · have c2' : ¬ (e : Int) < (b : Int) := by omega
                                go_wp2_with fail
                                go_meet
                                exact ⟨by rw [RD.out]; simp [c1, c2], rfl⟩
                            · have c1' : ¬ (mid : Int) < (e : Int) := by omega
                              go_wp2_with fail
                              go_meet
                              exact ⟨by rw [RD.out]; simp [c1], rfl⟩
                        case rest =>
                          as_aux_lemma =>
                            obtain ⟨rfl, rfl⟩ := hcut
                            cases rd
                            · have SS := Lib.hid (show SortedIn (ltOf cf) mid b dy by
                                have h := RD.out
                                have hG := G.out
                                by_cases c1 : mid < e
                                · by_cases c2 : e < b
                                  · simp [c1, c2] at h
                                  · rw [show b = e by omega]
                                    exact T1.out
                                · rw [show mid = e by omega]
                                  exact T2.out)
                              go_wp2_with fail
                              go_end0
                              rw [← HQ.out]
                              obtain ⟨f1, f2⟩ := merge_end (by have := G.out; omega) (by have := G.out; omega) (by rw [hsz1]; exact hb) MR.out.2.2.2.2.2 OY.out PY.out (Mix.refl mid b dy) SS.out
                              exact ⟨rfl, dy, SY.out, MR.out.1.trans f1, f2⟩
                            · have h1 : mid < e ∧ e < b := by
                                have h := RD.out
                                simp at h
                                exact h
                              have hc := HI.out mid e b dy wc (by have := G.out; omega) hsz2 SY.out h1.1 h1.2 hb T1.out T2.out
                              have HCR := Lib.hid hc
                              clear hc h1
                              go_wp2_with (go_at_fn fm; refine HCR.out.mono ?_; rintro ee w1 ⟨rfl, dx, S2, O2, P2⟩)
                              go_end0
                              rw [← HQ.out]
                              obtain ⟨f1, f2⟩ := merge_end (by have := G.out; omega) (by have := G.out; omega) (by rw [hsz1]; exact hb) MR.out.2.2.2.2.2 OY.out PY.out O2 P2
                              exact ⟨rfl, dx, S2, MR.out.1.trans f1, f2⟩
end Go.Proofs.Ytjinleakjkbbgaa
