/- The sort's partial insertion sort under a method's value. Conditions: what the words say. -/
import Derived.Test.YtaghophkfogdgaaVe
import Derived.Deep.CutBlock
import Derived.Deep.DeepCutAuto
import Derived.Deep.LoopGhost
namespace Go.Proofs.Ytaghophkfogdgaa
open Go.Shelf Go.RowKit Go.Lib Go.Sort
variable {P : Program} {ρ : Ren} {α : Type} [Inhabited α]

variable {k : Nat} {enc : α → List Value} {cf : α → α → Int} {g : Nat} {u : Value} {blk off : Nat} {d0 : Array α} {w0 : World}
theorem sc_end (lt : α → α → Bool) (d : Array α) (b i : Nat) (h : b ≤ i) : scanSorted lt d b i = i := by
  rw [scanSorted, if_neg (by simp; omega)]
theorem sc_stop (lt : α → α → Bool) (d : Array α) (b i : Nat) (h : lt d[i]! d[i - 1]! = true) : scanSorted lt d b i = i := by
  rw [scanSorted, if_neg (by simp [h])]
theorem sc_go (lt : α → α → Bool) (d : Array α) (b i : Nat) (hi : i < b) (h : lt d[i]! d[i - 1]! = false) : scanSorted lt d b i = scanSorted lt d b (i + 1) := by
  rw [scanSorted, if_pos (by simp [h, hi])]
theorem sc_in (lt : α → α → Bool) (d : Array α) (b : Nat) : ∀ n i : Nat, b - i = n → i ≤ b → i ≤ scanSorted lt d b i ∧ scanSorted lt d b i ≤ b
  | 0, i, hn, hi => by rw [sc_end lt d b i (by omega)]; omega
  | n + 1, i, hn, hi => by
    cases h : lt d[i]! d[i - 1]!
    · rw [sc_go lt d b i (by omega) h]
      have := sc_in lt d b n (i + 1) (by omega) (by omega)
      omega
    · rw [sc_stop lt d b i h]; omega
theorem sd_size (lt : α → α → Bool) : ∀ (j : Nat) (d : Array α), (shiftDown lt j d).size = d.size
  | 0, d => rfl
  | j + 1, d => by
    rw [shiftDown]
    cases lt d[j + 1]! d[j]!
    · rfl
    · show (shiftDown lt j (swp d (j + 1) j)).size = d.size
      rw [sd_size lt j, size_swp]
theorem su_size (lt : α → α → Bool) (b : Nat) : ∀ (n j : Nat) (d : Array α), b - j = n → (shiftUp lt b j d).size = d.size
  | 0, j, d, hn => by rw [shiftUp, if_neg (by omega)]
  | n + 1, j, d, hn => by
    rw [shiftUp, if_pos (by omega)]
    cases lt d[j]! d[j - 1]!
    · rfl
    · show (shiftUp lt b (j + 1) (swp d j (j - 1))).size = d.size
      rw [su_size lt b n (j + 1) _ (by omega), size_swp]
theorem sd_stop (lt : α → α → Bool) (j : Nat) (d : Array α) (h : lt d[j + 1]! d[j]! = false) : shiftDown lt (j + 1) d = d := by
  rw [shiftDown, if_pos (by simp [h])]
theorem sd_go (lt : α → α → Bool) (j : Nat) (d : Array α) (h : lt d[j + 1]! d[j]! = true) : shiftDown lt (j + 1) d = shiftDown lt j (swp d (j + 1) j) := by
  rw [shiftDown, if_neg (by simp [h])]
theorem su_stop (lt : α → α → Bool) (b j : Nat) (d : Array α) (h : lt d[j]! d[j - 1]! = false) : shiftUp lt b j d = d := by
  rw [shiftUp]
  split
  · rw [if_pos (by simp [h])]
  · rfl
theorem su_go (lt : α → α → Bool) (b j : Nat) (d : Array α) (hj : j < b) (h : lt d[j]! d[j - 1]! = true) : shiftUp lt b j d = shiftUp lt b (j + 1) (swp d j (j - 1)) := by
  rw [shiftUp, if_pos hj, if_neg (by simp [h])]
set_option maxHeartbeats 8000000 in
set_option maxRecDepth 1000000 in
theorem pinsM (L : SlLaysF0.n25 P ρ) (F : FamM P ρ k enc cf g u blk off d0 w0) (cap a b : Nat) (d : Array α) (W : World) (hs : d0.size = d.size) (S : SWK enc k w0 blk off d W) (hab : a < b) (hb : b ≤ d.size) (hsz : d.size < 4611686018427387904) :
    Calls P (ρ.f 25) #[.slice (some ⟨blk, off, none⟩) d.size cap, .int .i64 a, .int .i64 b, .func (.func g) #[u] #[]] W fun e w' =>
      e = .returned (.bool (partialInsertionSort (ltOf cf) d a b).2) ∧ SWK enc k w0 blk off (partialInsertionSort (ltOf cf) d a b).1 w' := by
  have mixed := L.mixed; have t0 := L.t0; have a0 := L.a0; have z0 := L.z0; have v0 := L.v0; have t3 := L.t3; have a3 := L.a3; have z3 := L.z3; have v3 := L.v3; have t4 := L.t4; have a4 := L.a4; have z4 := L.z4; have v4 := L.v4; have t22 := L.t22; have a22 := L.a22; have z22 := L.z22; have v22 := L.v22; have t25 := L.t25; have a25 := L.a25; have z25 := L.z25; have v25 := L.v25
  obtain ⟨_, _, FG⟩ := L.f25
  obtain ⟨aE, zE, eg, hcmp, R⟩ := F
  have HC := Lib.hid hcmp
  have S0 := Lib.hid S
  clear hcmp S
  obtain ⟨dr, br, hfr⟩ : ∃ x y, partialInsertionSort (ltOf cf) d a b = (x, y) := ⟨_, _, rfl⟩
  have HL := Lib.hid (show partialIns (ltOf cf) a b 5 (a + 1) d = (dr, br) from hfr)
  rw [hfr]
  clear hfr
  go_enter FG, SlBodyF.n25_ntmps ρ
  go_wp2
  go_loopg [9, 10] 5 (fun gk s9 s10 wr => ∃ (i st : Nat) (dk : Array α), s9 = .int .i64 i ∧ s10 = .int .i64 st ∧ a < i ∧ i ≤ b ∧ st ≤ 5 ∧ 5 - st ≤ gk ∧ dk.size = d.size ∧ Hid (SWK enc k w0 blk off dk wr) ∧ Hid (partialIns (ltOf cf) a b (5 - st) i dk = (dr, br)))
  case atStart => exact ⟨a + 1, 0, d, by go_num, rfl, by omega, by omega, by omega, by omega, rfl, S0, HL⟩
  case round =>
    clear S0 HL
    obtain ⟨i, st, dk, rfl, rfl, r1, r2, r3, hgk, hsk, SK, HK⟩ := hrel
    by_cases hst : st < 5
    · obtain ⟨lf, hlf⟩ : ∃ n, 5 - st = n + 1 := ⟨4 - st, by omega⟩
      have hst5 : (st : Int) < 5 := by omega
      obtain ⟨i1, hi1⟩ : ∃ x, x = scanSorted (ltOf cf) dk b i := ⟨_, rfl⟩
      have bi := sc_in (ltOf cf) dk b _ i rfl r2
      rw [← hi1] at bi
      have bi1 := bi.1
      have bi2 := bi.2
      have Hi1 := Lib.hid hi1.symm
      have HLF := Lib.hid hlf
      have hlf4 : lf = 4 - st := by omega
      have HL4 := Lib.hid hlf4
      clear hi1 bi hlf hlf4
      go_upto_block 2 with fail
      go_cut [9] from 15 to 140 (fun sz wx => sz = .int .i64 (i1 : Int) ∧ Hid (SWK enc k w0 blk off dk wx))
      case first =>
        go_wp2_with fail
        go_loopw [9] (fun vi wx => ∃ z : Nat, vi = .int .i64 z ∧ i ≤ z ∧ z ≤ b ∧ Hid (SWK enc k w0 blk off dk wx) ∧ Hid (scanSorted (ltOf cf) dk b z = i1)) (fun vi _ => b - (intOf vi).toNat)
        case atStart => exact ⟨i, rfl, by omega, by omega, SK, Hi1⟩
        case round =>
          clear SK Hi1
          obtain ⟨z, rfl, hz1, hz2, SZ, HZ⟩ := hrel
          by_cases hzz : z < b
          · have hg1 : decide ((z : Int) < (b : Int)) = true := decide_eq_true (by omega)
            obtain ⟨m, hm⟩ : ∃ m, m = z - 1 := ⟨_, rfl⟩
            have zm : (z : Int) - 1 = (m : Int) := by omega
            have zp1 : 1 ≤ z := by omega
            have z_p : (0 : Int) ≤ (z : Int) := by omega
            have z_u : (z : Int) < (d.size : Int) := by omega
            have z_n : ((z : Int)).toNat = z := by omega
            have z_w : IntKind.i64.wrap (z : Int) = (z : Int) := by rw [IntKind.wrap_i64]; omega
            have m_p : (0 : Int) ≤ (m : Int) := by omega
            have m_u : (m : Int) < (d.size : Int) := by omega
            have m_n : ((m : Int)).toNat = m := by omega
            have m_w : IntKind.i64.wrap (m : Int) = (m : Int) := by rw [IntKind.wrap_i64]; omega
            have HM := Lib.hid hm
            clear hm
            obtain ⟨x, hx⟩ : ∃ x, x = dk[z]! := ⟨_, rfl⟩
            obtain ⟨y, hy⟩ : ∃ y, y = dk[m]! := ⟨_, rfl⟩
            have lx := SZ.out.ld R (by omega) P z (by omega)
            have ly := SZ.out.ld R (by omega) P m (by omega)
            rw [← hx] at lx
            rw [← hy] at ly
            have hc := cmpM SZ.out HC.out (by omega) x y
            have HX := Lib.hid hx
            have HY := Lib.hid hy
            clear hx hy
            cases hl : ltOf cf x y
            · have HN := Lib.hid (show scanSorted (ltOf cf) dk b (z + 1) = i1 by
                rw [← HZ.out]
                exact (sc_go (ltOf cf) dk b z hzz (by rw [← HM.out, ← HX.out, ← HY.out]; exact hl)).symm)
              have hd : decide (cf x y < 0) = false := hl
              clear hl
              go_wp2_with fail
              go_quiet_grown (first | (go_at_fn g; refine Calls.grown_of (hc _ _)))
              have SV := Lib.hid (SZ.out.grown nq osq)
              clear lx ly hc SZ hd
              generalize grow (wr.drewN nq) osq = wv at * 
              clear nq osq
              go_wp2
              refine ⟨⟨z + 1, by go_num, by omega, by omega, SV, HN⟩, by first | (simp [intOf]; done) | (simp [intOf]; omega)⟩
            · have HN := Lib.hid (show z = i1 by
                rw [← HZ.out]
                exact (sc_stop (ltOf cf) dk b z (by rw [← HM.out, ← HX.out, ← HY.out]; exact hl)).symm)
              have hd : decide (cf x y < 0) = true := hl
              clear hl
              go_wp2_with fail
              go_quiet_grown (first | (go_at_fn g; refine Calls.grown_of (hc _ _)))
              have SV := Lib.hid (SZ.out.grown nq osq)
              clear lx ly hc SZ hd
              generalize grow (wr.drewN nq) osq = wv at * 
              clear nq osq
              go_wp2
              go_meet
              exact ⟨by rw [HN.out], SV⟩
          · have hg1 : decide ((z : Int) < (b : Int)) = false := decide_eq_false (by omega)
            have HN := Lib.hid (show z = i1 by
              rw [← HZ.out]
              exact (sc_end (ltOf cf) dk b z (by omega)).symm)
            go_wp2_with fail
            go_big_region_o
            have SV := Lib.hid SZ.out.drew
            clear SZ
            generalize wr.drew = wv at SV ⊢
            go_wp2
            go_meet
            exact ⟨by rw [HN.out], SV⟩
      case rest =>
        clear SK
        obtain ⟨rfl, SA⟩ := hcut
        have HV := Lib.hid (show (dr, br) = if i1 = b then (dk, true) else if b - a < 50 then (dk, false) else partialIns (ltOf cf) a b lf i1 (if b - i1 ≥ 2 then shiftUp (ltOf cf) b (i1 + 1) (if i1 - a ≥ 2 then shiftDown (ltOf cf) (i1 - 1) (swp dk i1 (i1 - 1)) else swp dk i1 (i1 - 1)) else (if i1 - a ≥ 2 then shiftDown (ltOf cf) (i1 - 1) (swp dk i1 (i1 - 1)) else swp dk i1 (i1 - 1))) by
          have := HK.out
          rw [HLF.out, partialIns] at this
          simp only [Hi1.out] at this
          exact this.symm)
        clear HK Hi1
        by_cases hib : i1 = b
        · have HW := Lib.hid (show dr = dk ∧ br = true by
            have := HV.out
            rw [if_pos hib] at this
            exact ⟨congrArg Prod.fst this, congrArg Prod.snd this⟩)
          clear HV
          have hgb : ((i1 : Int) == (b : Int)) = true := by simp [hib]
          have hib2 := Lib.hid hib
          clear hib
          go_wp2
          go_ret
          rw [HW.out.1, HW.out.2]
          exact ⟨rfl, SA.out⟩
        · have hgb : ((i1 : Int) == (b : Int)) = false := by simp; omega
          have hne : i1 < b := by omega
          clear hib
          obtain ⟨n0, hn0⟩ : ∃ n, n = b - a := ⟨_, rfl⟩
          have e1 : (b : Int) - (a : Int) = (n0 : Int) := by omega
          have e2 : IntKind.i64.wrap (n0 : Int) = (n0 : Int) := by rw [IntKind.wrap_i64]; omega
          by_cases h50 : n0 < 50
          · have HW := Lib.hid (show dr = dk ∧ br = false by
              have := HV.out
              rw [if_neg (by omega), if_pos (by omega)] at this
              exact ⟨congrArg Prod.fst this, congrArg Prod.snd this⟩)
            clear HV hn0
            have hg5 : (n0 : Int) < 50 := by omega
            go_wp2
            go_ret
            rw [HW.out.1, HW.out.2]
            exact ⟨rfl, SA.out⟩
          · have hg5 : ¬ (n0 : Int) < 50 := by omega
            obtain ⟨im, him⟩ : ∃ m, m = i1 - 1 := ⟨_, rfl⟩
            have e3 : (i1 : Int) - 1 = (im : Int) := by omega
            have him1 : 1 ≤ i1 := by omega
            obtain ⟨d1, hd1⟩ : ∃ x, x = swp dk i1 im := ⟨_, rfl⟩
            obtain ⟨d2, hd2⟩ : ∃ x, x = if i1 - a ≥ 2 then shiftDown (ltOf cf) im d1 else d1 := ⟨_, rfl⟩
            obtain ⟨d3, hd3⟩ : ∃ x, x = if b - i1 ≥ 2 then shiftUp (ltOf cf) b (i1 + 1) d2 else d2 := ⟨_, rfl⟩
            have hs1 : d1.size = d.size := by rw [hd1, size_swp]; exact hsk
            have hs2 : d2.size = d.size := by
              rw [hd2]
              split
              · rw [sd_size]; exact hs1
              · exact hs1
            have hs3 : d3.size = d.size := by
              rw [hd3]
              split
              · rw [su_size (ltOf cf) b _ _ _ rfl]; exact hs2
              · exact hs2
            have HN := Lib.hid (show partialIns (ltOf cf) a b lf i1 d3 = (dr, br) by
              rw [HV.out, if_neg (by omega), if_neg (by omega), hd3, hd2, hd1, him])
            have HD1 := Lib.hid hd1
            have HD2 := Lib.hid hd2
            have HD3 := Lib.hid hd3
            have him2 : im + 1 ≤ i1 := by omega
            have him3 : i1 ≤ im + 1 := by omega
            clear HV hn0 hd1 hd2 hd3 him
            have i1_p : (0 : Int) ≤ (i1 : Int) := by omega
            have i1_u : (i1 : Int) < (d.size : Int) := by omega
            have i1_n : ((i1 : Int)).toNat = i1 := by omega
            have i1_w : IntKind.i64.wrap (i1 : Int) = (i1 : Int) := by rw [IntKind.wrap_i64]; omega
            have im_p : (0 : Int) ≤ (im : Int) := by omega
            have im_u : (im : Int) < (d.size : Int) := by omega
            have im_n : ((im : Int)).toNat = im := by omega
            have im_w : IntKind.i64.wrap (im : Int) = (im : Int) := by rw [IntKind.wrap_i64]; omega
            go_wp2_with fail
            have SW := Lib.hid (SA.out.swapped R i1 im (by omega) (by omega))
            have l1 := SA.out.ld1 R (by omega) P i1 (by omega)
            have l2 := SA.out.ld1 R (by omega) P im (by omega)
            have s1 := SA.out.st1 R (by omega) P i1 (by omega) dk[im]!
            have s2 := SA.out.st2 R (by omega) P i1 im (by omega) (by omega) dk[im]! dk[i1]!
            have n1 : (enc dk[i1]!).length = k := R.hk _
            have n2 : (enc dk[im]!).length = k := R.hk _
            generalize enc dk[i1]! = cI at SW l1 s2 n1
            generalize enc dk[im]! = cJ at SW l2 s1 s2 n2
            clear SA
            go_wp2_with fail
            go_big_region_o
            clear l1 l2 s1 s2 n1 n2
            generalize (wc.drew.setCells blk (off + i1 * k) cJ).setCells blk (off + im * k) cI = wy at SW ⊢
            have S1 := Lib.hid (show SWK enc k w0 blk off d1 wy by rw [HD1.out]; exact SW.out)
            clear SW HD1
            obtain ⟨p, hp⟩ : ∃ p, p = i1 - a := ⟨_, rfl⟩
            have e4 : (i1 : Int) - (a : Int) = (p : Int) := by omega
            have e5 : IntKind.i64.wrap (p : Int) = (p : Int) := by rw [IntKind.wrap_i64]; omega
            obtain ⟨q, hq⟩ : ∃ q, q = b - i1 := ⟨_, rfl⟩
            have e6 : (b : Int) - (i1 : Int) = (q : Int) := by omega
            have e7 : IntKind.i64.wrap (q : Int) = (q : Int) := by rw [IntKind.wrap_i64]; omega
            have HD2' := Lib.hid (show d2 = if 2 ≤ p then shiftDown (ltOf cf) im d1 else d1 by rw [HD2.out, hp])
            have HD3' := Lib.hid (show d3 = if 2 ≤ q then shiftUp (ltOf cf) b (i1 + 1) d2 else d2 by rw [HD3.out, hq])
            clear HD2 HD3 hp hq
            obtain ⟨bp, hbp⟩ : ∃ c, c = decide ((2 : Int) ≤ (p : Int)) := ⟨_, rfl⟩
            have gp : decide ((2 : Int) ≤ (p : Int)) = bp := hbp.symm
            have HBP := Lib.hid hbp
            clear hbp
            go_upto_if 65 with fail
            go_cut [11] from 15 to 140 (fun s11 wx => Hid (SWK enc k w0 blk off d2 wx))
            case first =>
              cases bp
              · have hp2 : ¬ 2 ≤ p := by
                  have := of_decide_eq_false HBP.out.symm
                  omega
                have HS := Lib.hid (show d1 = d2 by rw [HD2'.out, if_neg hp2])
                go_wp2
                go_meet
                rw [← HS.out]
                exact S1
              · have hp2 : 2 ≤ p := by
                  have := of_decide_eq_true HBP.out.symm
                  omega
                have HS := Lib.hid (show shiftDown (ltOf cf) im d1 = d2 by rw [HD2'.out, if_pos hp2])
                go_wp2_with fail
                go_loopw [11] (fun vi wx => ∃ (z : Nat) (dj : Array α), vi = .int .i64 z ∧ z ≤ im ∧ dj.size = d.size ∧ Hid (SWK enc k w0 blk off dj wx) ∧ Hid (shiftDown (ltOf cf) z dj = d2)) (fun vi _ => (intOf vi).toNat)
                case atStart => exact ⟨im, d1, by go_num, Nat.le_refl _, hs1, S1, HS⟩
                case round =>
                  clear S1 HS
                  obtain ⟨z, dj, rfl, hz1, hsj, SZ, HZ⟩ := hrel
                  by_cases hzz : 1 ≤ z
                  · have hg1 : (1 : Int) ≤ (z : Int) := by omega
                    obtain ⟨m, hm⟩ : ∃ m, m = z - 1 := ⟨_, rfl⟩
                    have zm : (z : Int) - 1 = (m : Int) := by omega
                    have zp1 : 1 ≤ z := by omega
                    have z_p : (0 : Int) ≤ (z : Int) := by omega
                    have z_u : (z : Int) < (d.size : Int) := by omega
                    have z_n : ((z : Int)).toNat = z := by omega
                    have z_w : IntKind.i64.wrap (z : Int) = (z : Int) := by rw [IntKind.wrap_i64]; omega
                    have m_p : (0 : Int) ≤ (m : Int) := by omega
                    have m_u : (m : Int) < (d.size : Int) := by omega
                    have m_n : ((m : Int)).toNat = m := by omega
                    have m_w : IntKind.i64.wrap (m : Int) = (m : Int) := by rw [IntKind.wrap_i64]; omega
                    have HM := Lib.hid (show z = m + 1 by omega)
                    have hm1 : m < z := by omega
                    clear hm
                    obtain ⟨x, hx⟩ : ∃ x, x = dj[z]! := ⟨_, rfl⟩
                    obtain ⟨y, hy⟩ : ∃ y, y = dj[m]! := ⟨_, rfl⟩
                    have lx := SZ.out.ld R (by omega) P z (by omega)
                    have ly := SZ.out.ld R (by omega) P m (by omega)
                    rw [← hx] at lx
                    rw [← hy] at ly
                    have hc := cmpM SZ.out HC.out (by omega) x y
                    have HX := Lib.hid hx
                    have HY := Lib.hid hy
                    clear hx hy
                    cases hl : ltOf cf x y
                    · have HN2 := Lib.hid (show dj = d2 by
                        rw [← HZ.out, HM.out]
                        exact (sd_stop (ltOf cf) m dj (by rw [← HM.out, ← HX.out, ← HY.out]; exact hl)).symm)
                      have hd : decide (cf x y < 0) = false := hl
                      clear hl
                      go_wp2_with fail
                      go_quiet_grown (first | (go_at_fn g; refine Calls.grown_of (hc _ _)))
                      have SV := Lib.hid (SZ.out.grown nq osq)
                      clear lx ly hc SZ hd
                      generalize grow (wr.drewN nq) osq = wv at * 
                      clear nq osq
                      go_wp2
                      go_meet
                      rw [← HN2.out]
                      exact SV
                    · have HN2 := Lib.hid (show shiftDown (ltOf cf) m (swp dj z m) = d2 by
                        rw [← HZ.out, HM.out]
                        exact (sd_go (ltOf cf) m dj (by rw [← HM.out, ← HX.out, ← HY.out]; exact hl)).symm)
                      have hd : decide (cf x y < 0) = true := hl
                      clear hl
                      go_wp2_with fail
                      go_quiet_grown (first | (go_at_fn g; refine Calls.grown_of (hc _ _)))
                      have SV := Lib.hid (SZ.out.grown nq osq)
                      clear lx ly hc SZ hd
                      generalize grow (wr.drewN nq) osq = wv at * 
                      clear nq osq
                      have SQ := Lib.hid (SV.out.swapped R z m (by omega) (by omega))
                      have l1 := SV.out.ld1 R (by omega) P z (by omega)
                      have l2 := SV.out.ld1 R (by omega) P m (by omega)
                      have s1 := SV.out.st1 R (by omega) P z (by omega) dj[m]!
                      have s2 := SV.out.st2 R (by omega) P z m (by omega) (by omega) dj[m]! dj[z]!
                      have n1 : (enc dj[z]!).length = k := R.hk _
                      have n2 : (enc dj[m]!).length = k := R.hk _
                      generalize enc dj[z]! = cI at SQ l1 s2 n1
                      generalize enc dj[m]! = cJ at SQ l2 s1 s2 n2
                      clear SV
                      go_wp2_with fail
                      go_big_region_o
                      clear l1 l2 s1 s2 n1 n2
                      generalize (wv.drew.setCells blk (off + z * k) cJ).setCells blk (off + m * k) cI = wq at SQ ⊢
                      go_wp2
                      go_roundw
                      case rel =>
                        first
                          | exact ⟨m, swp dj z m, by go_num, by omega, by rw [size_swp]; exact hsj, SQ, HN2⟩
                          | ((repeat apply Exists.intro); exact ⟨⟨m, swp dj z m, by go_num, by omega, by rw [size_swp]; exact hsj, SQ, HN2⟩, rfl⟩)
                      case measure => first | (simp [intOf]; done) | (simp [intOf]; omega)
                  · have hg1 : ¬ (1 : Int) ≤ (z : Int) := by omega
                    have HN2 := Lib.hid (show dj = d2 by
                      rw [← HZ.out, show z = 0 by omega]
                      rfl)
                    go_wp2
                    go_meet
                    rw [← HN2.out]
                    exact SZ
            case rest =>
                clear S1 HD2'
                have S2 := hcut
                clear hcut
                by_cases hq2 : 2 ≤ q
                · have hg2 : (2 : Int) ≤ (q : Int) := by omega
                  have HS := Lib.hid (show shiftUp (ltOf cf) b (i1 + 1) d2 = d3 by rw [HD3'.out, if_pos hq2])
                  go_wp2_with fail
                  go_loopw [12] (fun vi wx => ∃ (z : Nat) (dj : Array α), vi = .int .i64 z ∧ i1 < z ∧ z ≤ b ∧ dj.size = d.size ∧ Hid (SWK enc k w0 blk off dj wx) ∧ Hid (shiftUp (ltOf cf) b z dj = d3)) (fun vi _ => b - (intOf vi).toNat)
                  case atStart => exact ⟨i1 + 1, d2, by go_num, by omega, by omega, hs2, S2, HS⟩
                  case round =>
                    clear S2 HS
                    obtain ⟨z, dj, rfl, hz1, hz2, hsj, SZ, HZ⟩ := hrel
                    by_cases hzz : z < b
                    · have hg1 : (z : Int) < (b : Int) := by omega
                      obtain ⟨m, hm⟩ : ∃ m, m = z - 1 := ⟨_, rfl⟩
                      have zm : (z : Int) - 1 = (m : Int) := by omega
                      have zp1 : 1 ≤ z := by omega
                      have z_p : (0 : Int) ≤ (z : Int) := by omega
                      have z_u : (z : Int) < (d.size : Int) := by omega
                      have z_n : ((z : Int)).toNat = z := by omega
                      have z_w : IntKind.i64.wrap (z : Int) = (z : Int) := by rw [IntKind.wrap_i64]; omega
                      have m_p : (0 : Int) ≤ (m : Int) := by omega
                      have m_u : (m : Int) < (d.size : Int) := by omega
                      have m_n : ((m : Int)).toNat = m := by omega
                      have m_w : IntKind.i64.wrap (m : Int) = (m : Int) := by rw [IntKind.wrap_i64]; omega
                      have HM := Lib.hid hm
                      have hm1 : m < z := by omega
                      clear hm
                      obtain ⟨x, hx⟩ : ∃ x, x = dj[z]! := ⟨_, rfl⟩
                      obtain ⟨y, hy⟩ : ∃ y, y = dj[m]! := ⟨_, rfl⟩
                      have lx := SZ.out.ld R (by omega) P z (by omega)
                      have ly := SZ.out.ld R (by omega) P m (by omega)
                      rw [← hx] at lx
                      rw [← hy] at ly
                      have hc := cmpM SZ.out HC.out (by omega) x y
                      have HX := Lib.hid hx
                      have HY := Lib.hid hy
                      clear hx hy
                      cases hl : ltOf cf x y
                      · have HN2 := Lib.hid (show dj = d3 by
                          rw [← HZ.out]
                          exact (su_stop (ltOf cf) b z dj (by rw [← HM.out, ← HX.out, ← HY.out]; exact hl)).symm)
                        have hd : decide (cf x y < 0) = false := hl
                        clear hl
                        go_wp2_with fail
                        go_quiet_grown (first | (go_at_fn g; refine Calls.grown_of (hc _ _)))
                        have SV := Lib.hid (SZ.out.grown nq osq)
                        clear lx ly hc SZ hd
                        generalize grow (wr.drewN nq) osq = wv at * 
                        clear nq osq
                        have SF := Lib.hid (show SWK enc k w0 blk off d3 wv by rw [← HN2.out]; exact SV.out)
                        clear SV
                        go_wp2
                        go_roundg lf
                        case measure => have := HL4.out; omega
                        case rel => exact ⟨i1, st + 1, d3, rfl, by go_num, by omega, by omega, by omega, by have := HL4.out; omega, hs3, SF, by rw [show 5 - (st + 1) = lf by have := HL4.out; omega]; exact HN⟩
                      · have HN2 := Lib.hid (show shiftUp (ltOf cf) b (z + 1) (swp dj z m) = d3 by
                          rw [← HZ.out, HM.out]
                          exact (su_go (ltOf cf) b z dj hzz (by rw [← HM.out, ← HX.out, ← HY.out]; exact hl)).symm)
                        have hd : decide (cf x y < 0) = true := hl
                        clear hl
                        go_wp2_with fail
                        go_quiet_grown (first | (go_at_fn g; refine Calls.grown_of (hc _ _)))
                        have SV := Lib.hid (SZ.out.grown nq osq)
                        clear lx ly hc SZ hd
                        generalize grow (wr.drewN nq) osq = wv at * 
                        clear nq osq
                        have SQ := Lib.hid (SV.out.swapped R z m (by omega) (by omega))
                        have l1 := SV.out.ld1 R (by omega) P z (by omega)
                        have l2 := SV.out.ld1 R (by omega) P m (by omega)
                        have s1 := SV.out.st1 R (by omega) P z (by omega) dj[m]!
                        have s2 := SV.out.st2 R (by omega) P z m (by omega) (by omega) dj[m]! dj[z]!
                        have n1 : (enc dj[z]!).length = k := R.hk _
                        have n2 : (enc dj[m]!).length = k := R.hk _
                        generalize enc dj[z]! = cI at SQ l1 s2 n1
                        generalize enc dj[m]! = cJ at SQ l2 s1 s2 n2
                        clear SV
                        go_wp2_with fail
                        go_big_region_o
                        clear l1 l2 s1 s2 n1 n2
                        generalize (wv.drew.setCells blk (off + z * k) cJ).setCells blk (off + m * k) cI = wq at SQ ⊢
                        go_wp2
                        go_roundw
                        case rel =>
                          first
                            | exact ⟨z + 1, swp dj z m, by go_num, by omega, by omega, by rw [size_swp]; exact hsj, SQ, HN2⟩
                            | ((repeat apply Exists.intro); exact ⟨⟨z + 1, swp dj z m, by go_num, by omega, by omega, by rw [size_swp]; exact hsj, SQ, HN2⟩, rfl⟩)
                        case measure => first | (simp [intOf]; done) | (simp [intOf]; omega)
                    · have hg1 : ¬ (z : Int) < (b : Int) := by omega
                      have HN2 := Lib.hid (show dj = d3 by
                        rw [← HZ.out, shiftUp, if_neg hzz])
                      have SF := Lib.hid (show SWK enc k w0 blk off d3 wr by rw [← HN2.out]; exact SZ.out)
                      clear SZ
                      go_wp2
                      go_roundg lf
                      case measure => have := HL4.out; omega
                      case rel => exact ⟨i1, st + 1, d3, rfl, by go_num, by omega, by omega, by omega, by have := HL4.out; omega, hs3, SF, by rw [show 5 - (st + 1) = lf by have := HL4.out; omega]; exact HN⟩
                · have hg2 : ¬ (2 : Int) ≤ (q : Int) := by omega
                  have HS := Lib.hid (show d2 = d3 by rw [HD3'.out, if_neg hq2])
                  have SF := Lib.hid (show SWK enc k w0 blk off d3 wc by rw [← HS.out]; exact S2.out)
                  clear S2
                  go_wp2
                  go_roundg lf
                  case measure => have := HL4.out; omega
                  case rel => exact ⟨i1, st + 1, d3, rfl, by go_num, by omega, by omega, by omega, by have := HL4.out; omega, hs3, SF, by rw [show 5 - (st + 1) = lf by have := HL4.out; omega]; exact HN⟩
    · have HW := Lib.hid (show dr = dk ∧ br = false by
        have := HK.out
        rw [show 5 - st = 0 by omega] at this
        exact ⟨(congrArg Prod.fst this).symm, (congrArg Prod.snd this).symm⟩)
      have hst5 : ¬ (st : Int) < 5 := by omega
      go_wp2
      go_ret
      rw [HW.out.1, HW.out.2]
      exact ⟨rfl, SK.out⟩
end Go.Proofs.Ytaghophkfogdgaa
