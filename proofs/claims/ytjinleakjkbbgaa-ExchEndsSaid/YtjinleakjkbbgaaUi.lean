/- The library's stable sort, walked over any program and any struct: what comes of it is in order, and those of each class are in the order in which they came. Conditions: what the words say; at most 2 to the 60 items. -/
import Derived.Test.YtjinleakjkbbgaaUh
namespace Go.Proofs.Ytjinleakjkbbgaa
open Go.Shelf Go.RowKit Go.Lib Go.Sort
variable {P : Program} {α : Type} [Inhabited α]
variable {fs fr fm fi fb ft ts te tc ti tb tu t0 k : Nat} {enc : α → List Value} {cf : α → α → Int} {g : Nat} {cb : Array Value} {blk off : Nat} {d0 : Array α} {w0 : World}
theorem symMerge_any (L : StabLays P fs fr fm fi fb ft ts te tc ti tb tu t0) (F : StabFam P te k enc cf g cb blk off d0 w0) (cap : Nat) (N : Nat) : ∀ (a m b : Nat) (d : Array α) (W : World), b - a = N → d0.size = d.size → SWK enc k w0 blk off d W → a < m → m < b → b ≤ d.size → d.size < 4611686018427387904 → SortedIn (ltOf cf) a m d → SortedIn (ltOf cf) m b d →
    Calls P fm #[.slice (some ⟨blk, off, none⟩) d.size cap, .int .i64 a, .int .i64 m, .int .i64 b, .func (.func g) #[] cb] W (MergeQ enc k w0 blk off cf a b d) := by
  induction N using Nat.strongRecOn with
  | _ N ih =>
    intro a m b d W hN hs S h1 h2 hb hsz hA hB
    by_cases c1 : m = a + 1
    · subst c1
      exact merge_left_any L F cap a b d W hs S h2 hb hsz hB
    · by_cases c2 : b = m + 1
      · subst c2
        exact merge_right_any L F cap a m d W hs S (by omega) hb hsz hA
      · refine merge_rec_any L F cap a m b d W hs S (by omega) (by omega) hb hsz hA hB fun a' m' b' d' W' hlt hsd S' g1 g2 g3 hA' hB' => ?_
        have := ih (b' - a') (by omega) a' m' b' d' W' rfl (by omega) S' g1 g2 (by omega) (by omega) hA' hB'
        rwa [hsd] at this
/-- A place at which a block of c items begins. -/
def Mult (c s : Nat) : Prop := ∃ i, s = i * c
theorem mult_zero (c : Nat) : Mult c 0 := ⟨0, by simp⟩
theorem mult_next {c s : Nat} (h : Mult c s) : Mult c (s + c) := by
  obtain ⟨i, rfl⟩ := h
  exact ⟨i + 1, by rw [Nat.add_mul, Nat.one_mul]⟩
theorem mult_half {c s : Nat} (h : Mult (2 * c) s) : Mult c s := by
  obtain ⟨i, rfl⟩ := h
  exact ⟨i * 2, by rw [Nat.mul_assoc]⟩
theorem mult_gap {c s t : Nat} (h : Mult c s) (h' : Mult c t) (hlt : s < t) : s + c ≤ t := by
  obtain ⟨i, rfl⟩ := h
  obtain ⟨j, rfl⟩ := h'
  have : i < j := by
    rcases Nat.lt_or_ge i j with h | h
    · exact h
    · have := Nat.mul_le_mul_right c h
      omega
  have := Nat.mul_le_mul_right c this
  rw [Nat.succ_mul] at this
  exact this
/-- Blocks of c items, each in order. -/
def Blocks (lt : α → α → Bool) (c n : Nat) (d : Array α) : Prop := ∀ s, Mult c s → SortedIn lt s (min (s + c) n) d
set_option maxHeartbeats 16000000 in
set_option maxRecDepth 1000000 in
theorem stable_any (L : StabLays P fs fr fm fi fb ft ts te tc ti tb tu t0) (F : StabFam P te k enc cf g cb blk off d0 w0) (cap : Nat) (d : Array α) (W : World) (hs : d0.size = d.size) (S : SWK enc k w0 blk off d W) (hsz : d.size ≤ 1152921504606846976)
    (INS : ∀ (a b : Nat) (dj : Array α) (W' : World), dj.size = d.size → SWK enc k w0 blk off dj W' → a ≤ b → b ≤ d.size → Calls P fi #[.slice (some ⟨blk, off, none⟩) d.size cap, .int .i64 a, .int .i64 b, .func (.func g) #[] cb] W' (MergeQ enc k w0 blk off cf a b dj)) :
    Calls P fb #[.slice (some ⟨blk, off, none⟩) d.size cap, .int .i64 d.size, .func (.func g) #[] cb] W (MergeQ enc k w0 blk off cf 0 d.size d) := by
  have mixed := L.mixed; have u0 := L.u0; have a0 := L.a0; have z0 := L.z0; have v0 := L.v0; have ui := L.ui; have ai := L.ai; have zi := L.zi; have vi := L.vi; have ub := L.ub; have ab := L.ab; have zb := L.zb; have vb := L.vb; have us := L.us; have aS := L.aS; have zs := L.zs; have vs := L.vs; have uc := L.uc; have ac := L.ac; have zc := L.zc; have vc := L.vc
  have em := L.em
  have ei := L.ei
  have HINS := Lib.hid INS
  have HMR := Lib.hid (fun (a m b : Nat) (dj : Array α) (W' : World) (hj : dj.size = d.size) (S' : SWK enc k w0 blk off dj W') (h1 : a < m) (h2 : m < b) (h3 : b ≤ dj.size) => symMerge_any L F cap (b - a) a m b dj W' rfl (by omega) S' h1 h2 h3 (by omega))
  obtain ⟨nm, FG⟩ := L.fst
  have S0 := Lib.hid S
  generalize hQ : MergeQ enc k w0 blk off cf 0 d.size d = Q
  have HQ := Lib.hid hQ
  clear S F INS hQ
  obtain ⟨n, hn⟩ : ∃ n, n = d.size := ⟨_, rfl⟩
  rw [← hn] at HINS HQ hs hsz ⊢
  have HNN := Lib.hid hn
  clear hn
  go_enter FG, bStab_n nm fi fm ts te tc ti tb t0
  go_wp2
  go_loopw [7, 8] (fun va vb wr => ∃ (A : Nat) (dk : Array α), va = .int .i64 A ∧ vb = .int .i64 ((A : Int) + 20) ∧ A ≤ n ∧ Hid (dk.size = n) ∧ Hid (SWK enc k w0 blk off dk wr) ∧ Hid (Mix (ltOf cf) 0 n d dk) ∧ Hid (Mult 20 A) ∧ Hid (∀ s, Mult 20 s → s < A → SortedIn (ltOf cf) s (s + 20) dk)) (fun va _ _ => n - (intOf va).toNat)
  case atStart => exact ⟨0, d, rfl, rfl, Nat.zero_le _, Lib.hid HNN.out.symm, S0, Lib.hid (Mix.refl 0 n d), Lib.hid (mult_zero 20), Lib.hid (fun s _ h => by omega)⟩
  case round =>
    clear S0
    obtain ⟨A, dk, rfl, rfl, hA, hsk, SK, MK, UK, BK⟩ := hrel
    by_cases hle : A + 20 ≤ n
    · have hle' : (A : Int) + 20 ≤ (n : Int) := by omega
      obtain ⟨B, hB⟩ : ∃ B, B = A + 20 := ⟨_, rfl⟩
      have e1 : (A : Int) + 20 = (B : Int) := by omega
      have w_B : IntKind.i64.wrap (B : Int) = (B : Int) := by rw [IntKind.wrap_i64]; omega
      have hc := HINS.out A B dk wr (by rw [hsk.out, HNN.out]) SK.out (by omega) (by omega)
      have HCR := Lib.hid hc
      have g1 : A + 20 ≤ B := by omega
      have g2 : B ≤ A + 20 := by omega
      have hle2 : (B : Int) ≤ (n : Int) := by omega
      clear hc hB hle'
      rw [e1]
      go_wp2_with (go_at_fn fi; refine HCR.out.mono ?_; rintro ee w1 ⟨rfl, dy, S2, O2, P2⟩)
      have hsk2 := hsk.out
      have hsy := Lib.hid (show dy.size = n by rw [O2.size, hsk2])
      have SY := Lib.hid S2
      have MY := Lib.hid (MK.out.trans (O2.wide (Nat.zero_le _) (by omega) (by omega)))
      have UY := Lib.hid (show Mult 20 B by rw [show B = A + 20 by omega]; exact mult_next UK.out)
      have BY := Lib.hid (show ∀ s, Mult 20 s → s < B → SortedIn (ltOf cf) s (s + 20) dy from fun s hm hlt => by
        by_cases c : s < A
        · have hg := mult_gap hm UK.out c
          intro i j h1 h2 h3
          rw [O2.out i (.inl (by omega)), O2.out j (.inl (by omega))]
          exact BK.out s hm c i j h1 h2 h3
        · have : s = A := by
            rcases Nat.lt_or_ge A s with h | h
            · have := mult_gap UK.out hm h
              omega
            · omega
          subst this
          rw [show s + 20 = B by omega]
          exact P2)
      clear S2 O2 P2 SK MK BK UK hsk hsk2
      go_wp2
      go_roundw
      case rel => exact ⟨B, dy, rfl, by go_num, by omega, hsy, SY, MY, UY, BY⟩
      case measure => simp [intOf]; omega
    · have hle' : ¬ (A : Int) + 20 ≤ (n : Int) := by omega
      have hc := HINS.out A n dk wr (by rw [hsk.out, HNN.out]) SK.out hA (by rw [HNN.out]; exact Nat.le_refl _)
      have HCR := Lib.hid hc
      clear hc
      go_wp2_with (go_at_fn fi; refine HCR.out.mono ?_; rintro ee w1 ⟨rfl, dy, S2, O2, P2⟩)
      have hsk2 := hsk.out
      have hsy := Lib.hid (show dy.size = n by rw [O2.size, hsk2])
      have SY := Lib.hid S2
      have MY := Lib.hid (MK.out.trans (O2.wide (Nat.zero_le _) (Nat.le_refl _) (by omega)))
      have BY := Lib.hid (show Blocks (ltOf cf) 20 n dy from fun s hm => by
        by_cases c : s < A
        · have hg := mult_gap hm UK.out c
          intro i j h1 h2 h3
          rw [O2.out i (.inl (by omega)), O2.out j (.inl (by omega))]
          exact BK.out s hm c i j h1 h2 (by omega)
        · exact sorted_part P2 (by omega) (by omega))
      clear S2 O2 P2 SK MK BK UK hsk hsk2 hle hle' hA
      go_loopw [6] (fun vs wq => ∃ (c : Nat) (dk : Array α), vs = .int .i64 c ∧ 0 < c ∧ Hid (c ≤ 20 ∨ c ≤ 2 * n) ∧ Hid (dk.size = n) ∧ Hid (SWK enc k w0 blk off dk wq) ∧ Hid (Mix (ltOf cf) 0 n d dk) ∧ Hid (Blocks (ltOf cf) c n dk)) (fun vs _ => n - (intOf vs).toNat)
      case atStart => exact ⟨20, dy, rfl, by omega, Lib.hid (.inl (Nat.le_refl _)), hsy, SY, MY, BY⟩
      case round =>
        clear SY MY BY hsy
        obtain ⟨c, dk, rfl, hc0, HCB, hsk, SK, MK, BK⟩ := hrel
        by_cases hlt : c < n
        · have hlt' : (c : Int) < (n : Int) := by omega
          obtain ⟨c2, hc2⟩ : ∃ c2, c2 = 2 * c := ⟨_, rfl⟩
          have e1 : 2 * (c : Int) = (c2 : Int) := by omega
          have e1' : (c : Int) * 2 = (c2 : Int) := by omega
          have w_c2 : IntKind.i64.wrap (c2 : Int) = (c2 : Int) := by rw [IntKind.wrap_i64]; omega
          have g1 : c2 ≤ 2 * c := by omega
          have g2 : 2 * c ≤ c2 := by omega
          have HC2 := Lib.hid hc2
          have BZ := Lib.hid (show ∀ s, Mult c s → 0 ≤ s → SortedIn (ltOf cf) s (min (s + c) n) dk from fun s hm _ => BK.out s hm)
          clear hc2 BK HCB
          go_wp2
          go_loopw [7, 8] (fun va vb wi => ∃ (A : Nat) (dj : Array α), va = .int .i64 A ∧ vb = .int .i64 ((A : Int) + (c2 : Int)) ∧ A ≤ n ∧ Hid (dj.size = n) ∧ Hid (SWK enc k w0 blk off dj wi) ∧ Hid (Mix (ltOf cf) 0 n d dj) ∧ Hid (Mult c2 A) ∧ Hid (∀ s, Mult c2 s → s < A → SortedIn (ltOf cf) s (s + c2) dj) ∧ Hid (∀ s, Mult c s → A ≤ s → SortedIn (ltOf cf) s (min (s + c) n) dj)) (fun va _ _ => n - (intOf va).toNat)
          case atStart => exact ⟨0, dk, rfl, by simp, Nat.zero_le _, hsk, SK, MK, Lib.hid (mult_zero c2), Lib.hid (fun s _ h => by omega), BZ⟩
          case round =>
            clear SK MK hsk BZ
            obtain ⟨A, dj, rfl, rfl, hA, hsj, SJ, MJ, UJ, DJ, BJ⟩ := hrel
            obtain ⟨M, hM⟩ : ∃ M, M = A + c := ⟨_, rfl⟩
            have e2 : (A : Int) + (c : Int) = (M : Int) := by omega
            have w_M : IntKind.i64.wrap (M : Int) = (M : Int) := by rw [IntKind.wrap_i64]; omega
            have g3 : M ≤ A + c := by omega
            have g4 : A + c ≤ M := by omega
            have UC := Lib.hid (show Mult c A from mult_half (by rw [← HC2.out]; exact UJ.out))
            have UM := Lib.hid (show Mult c M by rw [hM]; exact mult_next UC.out)
            clear hM
            have hsj2 := hsj.out
            by_cases hle : A + c2 ≤ n
            · obtain ⟨B, hB⟩ : ∃ B, B = A + c2 := ⟨_, rfl⟩
              have e3 : (A : Int) + (c2 : Int) = (B : Int) := by omega
              have w_B : IntKind.i64.wrap (B : Int) = (B : Int) := by rw [IntKind.wrap_i64]; omega
              have g5 : A + c2 ≤ B := by omega
              have g6 : B ≤ A + c2 := by omega
              have hle2 : (B : Int) ≤ (n : Int) := by omega
              have hc := HMR.out A M B dj wr (by rw [hsj2, HNN.out]) SJ.out (by omega) (by omega) (by omega) (sorted_part (BJ.out A UC.out (Nat.le_refl _)) (Nat.le_refl _) (by omega)) (sorted_part (BJ.out M UM.out (by omega)) (Nat.le_refl _) (by omega))
              rw [hsj2] at hc
              have HCR := Lib.hid hc
              clear hc hB hle
              rw [e3]
              go_wp2_with (go_at_fn fm; refine HCR.out.mono ?_; rintro ee w1 ⟨rfl, dy, S2, O2, P2⟩)
              have hsy := Lib.hid (show dy.size = n by rw [O2.size, hsj2])
              have SY := Lib.hid S2
              have MY := Lib.hid (MJ.out.trans (O2.wide (Nat.zero_le _) (by omega) (by omega)))
              have UY := Lib.hid (show Mult c2 B by rw [show B = A + c2 by omega]; exact mult_next UJ.out)
              have DY := Lib.hid (show ∀ s, Mult c2 s → s < B → SortedIn (ltOf cf) s (s + c2) dy from fun s hm hlt => by
                by_cases c : s < A
                · have hg := mult_gap hm UJ.out c
                  intro i j h1 h2 h3
                  rw [O2.out i (.inl (by omega)), O2.out j (.inl (by omega))]
                  exact DJ.out s hm c i j h1 h2 h3
                · have : s = A := by
                    rcases Nat.lt_or_ge A s with h | h
                    · have := mult_gap UJ.out hm h
                      omega
                    · omega
                  subst this
                  rw [show s + c2 = B by omega]
                  exact P2)
              have BY := Lib.hid (show ∀ s, Mult c s → B ≤ s → SortedIn (ltOf cf) s (min (s + c) n) dy from fun s hm hle => by
                intro i j h1 h2 h3
                rw [O2.out i (.inr (by omega)), O2.out j (.inr (by omega))]
                exact BJ.out s hm (by omega) i j h1 h2 h3)
              clear S2 O2 P2 SJ MJ DJ UJ BJ hsj hsj2
              go_wp2
              go_roundw
              case rel => exact ⟨B, dy, rfl, by go_num, by omega, hsy, SY, MY, UY, DY, BY⟩
              case measure => simp [intOf]; omega
            · have hle2 : ¬ ((A : Int) + (c2 : Int) ≤ (n : Int)) := by omega
              by_cases hm : M < n
              · have hm' : (M : Int) < (n : Int) := by omega
                have hc := HMR.out A M n dj wr (by rw [hsj2, HNN.out]) SJ.out (by omega) hm (by omega) (sorted_part (BJ.out A UC.out (Nat.le_refl _)) (Nat.le_refl _) (by omega)) (sorted_part (BJ.out M UM.out (by omega)) (Nat.le_refl _) (by omega))
                rw [hsj2] at hc
                have HCR := Lib.hid hc
                clear hc
                go_wp2_with (go_at_fn fm; refine HCR.out.mono ?_; rintro ee w1 ⟨rfl, dy, S2, O2, P2⟩)
                have hsy := Lib.hid (show dy.size = n by rw [O2.size, hsj2])
                have SY := Lib.hid S2
                have MY := Lib.hid (MJ.out.trans (O2.wide (Nat.zero_le _) (Nat.le_refl _) (by omega)))
                have BY := Lib.hid (show Blocks (ltOf cf) c2 n dy from fun s hm => by
                  by_cases c : s < A
                  · have hg := mult_gap hm UJ.out c
                    intro i j h1 h2 h3
                    rw [O2.out i (.inl (by omega)), O2.out j (.inl (by omega))]
                    exact DJ.out s hm c i j h1 h2 (by omega)
                  · exact sorted_part P2 (by omega) (by omega))
                clear S2 O2 P2 SJ MJ DJ UJ BJ hsj hsj2
                go_wp2
                go_roundw
                case rel => exact ⟨c2, dy, rfl, by omega, Lib.hid (.inr (by omega)), hsy, SY, MY, BY⟩
                case measure => simp [intOf]; omega
              · have hm' : ¬ (M : Int) < (n : Int) := by omega
                have BY := Lib.hid (show Blocks (ltOf cf) c2 n dj from fun s hm => by
                  by_cases c : s < A
                  · have hg := mult_gap hm UJ.out c
                    exact sorted_part (DJ.out s hm c) (Nat.le_refl _) (by omega)
                  · exact sorted_part (BJ.out A UC.out (Nat.le_refl _)) (by omega) (by omega))
                clear DJ UJ BJ hsj2
                go_wp2
                go_roundw
                case rel => exact ⟨c2, dj, rfl, by omega, Lib.hid (.inr (by omega)), hsj, SJ, MJ, BY⟩
                case measure => simp [intOf]; omega
        · have hlt' : ¬ (c : Int) < (n : Int) := by omega
          have HF := Lib.hid (show SortedIn (ltOf cf) 0 n dk from sorted_part (BK.out 0 (mult_zero c)) (Nat.le_refl _) (by omega))
          go_wp2
          go_end0
          rw [← HQ.out]
          exact ⟨rfl, dk, SK.out, MK.out, HF.out⟩
end Go.Proofs.Ytjinleakjkbbgaa
