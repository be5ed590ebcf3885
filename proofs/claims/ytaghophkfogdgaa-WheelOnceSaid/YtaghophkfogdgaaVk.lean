/- The sort's partition of equals under a method's value. Conditions: what the words say. -/
import Derived.Test.YtaghophkfogdgaaVj
namespace Go.Proofs.Ytaghophkfogdgaa
open Go.Shelf Go.RowKit Go.Lib Go.Sort
variable {P : Program} {ρ : Ren} {α : Type} [Inhabited α]

variable {k : Nat} {enc : α → List Value} {cf : α → α → Int} {g : Nat} {u : Value} {blk off : Nat} {d0 : Array α} {w0 : World}
set_option maxHeartbeats 8000000 in
set_option maxRecDepth 1000000 in
theorem parEM (L : SlLaysF0.n26 P ρ) (F : FamM P ρ k enc cf g u blk off d0 w0) (cap a b pv : Nat) (d : Array α) (W : World) (hs : d0.size = d.size) (S : SWK enc k w0 blk off d W) (hab : a < b) (hb : b ≤ d.size) (hpb : pv < b) (hsz : d.size < 4611686018427387904) :
    Calls P (ρ.f 26) #[.slice (some ⟨blk, off, none⟩) d.size cap, .int .i64 a, .int .i64 b, .int .i64 pv, .func (.func g) #[u] #[]] W fun e w' =>
      e = .returned (.int .i64 (Sort.partitionEqual (ltOf cf) d a b pv).1) ∧ SWK enc k w0 blk off (Sort.partitionEqual (ltOf cf) d a b pv).2 w' := by
  have mixed := L.mixed; have t0 := L.t0; have a0 := L.a0; have z0 := L.z0; have v0 := L.v0; have t3 := L.t3; have a3 := L.a3; have z3 := L.z3; have v3 := L.v3; have t4 := L.t4; have a4 := L.a4; have z4 := L.z4; have v4 := L.v4; have t22 := L.t22; have a22 := L.a22; have z22 := L.z22; have v22 := L.v22; have t25 := L.t25; have a25 := L.a25; have z25 := L.z25; have v25 := L.v25
  obtain ⟨_, _, FG⟩ := L.f26
  obtain ⟨aE, zE, eg, hcmp, R⟩ := F
  have HC := Lib.hid hcmp
  have S0 := Lib.hid S
  clear hcmp S
  obtain ⟨fr, dr, hfr⟩ : ∃ x y, Sort.partitionEqual (ltOf cf) d a b pv = (x, y) := ⟨_, _, rfl⟩
  have HL := Lib.hid (show partEqLoop (ltOf cf) a (a + 1) (b - 1) (swp d a pv) = (fr, dr) from hfr)
  rw [hfr]
  clear hfr
  have a_p : (0 : Int) ≤ (a : Int) := by omega
  have a_u : (a : Int) < (d.size : Int) := by omega
  have a_n : ((a : Int)).toNat = a := by omega
  have a_w : IntKind.i64.wrap (a : Int) = (a : Int) := by rw [IntKind.wrap_i64]; omega
  have pv_p : (0 : Int) ≤ (pv : Int) := by omega
  have pv_u : (pv : Int) < (d.size : Int) := by omega
  have pv_n : ((pv : Int)).toNat = pv := by omega
  have pv_w : IntKind.i64.wrap (pv : Int) = (pv : Int) := by rw [IntKind.wrap_i64]; omega
  go_enter FG, SlBodyF.n26_ntmps ρ
  go_wp2_with fail
  have SW := Lib.hid (S0.out.swapped R a pv (by omega) (by omega))
  have l1 := S0.out.ld1 R (by omega) P a (by omega)
  have l2 := S0.out.ld1 R (by omega) P pv (by omega)
  have s1 := S0.out.st1 R (by omega) P a (by omega) d[pv]!
  have s2 := S0.out.st2 R (by omega) P a pv (by omega) (by omega) d[pv]! d[a]!
  have n1 : (enc d[a]!).length = k := R.hk _
  have n2 : (enc d[pv]!).length = k := R.hk _
  generalize enc d[a]! = cI at SW l1 s2 n1
  generalize enc d[pv]! = cJ at SW l2 s1 s2 n2
  clear S0
  go_wp2_with fail
  go_big_region_o
  clear l1 l2 s1 s2 n1 n2
  generalize (W.drew.setCells blk (off + a * k) cJ).setCells blk (off + pv * k) cI = wz at SW ⊢
  have SL := SW
  clear SW
  go_wp2
  go_loopg [11, 12] b (fun gk s12 s13 wr => ∃ (i j : Nat) (dk : Array α), s12 = .int .i64 i ∧ s13 = .int .i64 j ∧ a < i ∧ i ≤ j + 1 ∧ j < b ∧ dk.size = d.size ∧ j + 1 - i ≤ gk ∧ Hid (SWK enc k w0 blk off dk wr) ∧ Hid (partEqLoop (ltOf cf) a i j dk = (fr, dr)))
  case atStart => exact ⟨a + 1, b - 1, swp d a pv, by go_num, by go_num, by omega, by omega, by omega, by rw [size_swp], by omega, SL, HL⟩
  case round =>
    clear SL HL
    obtain ⟨i, j, dk, rfl, rfl, r1, r2, r3, hsk, hgk, SK, HK⟩ := hrel
    obtain ⟨i3, hi3⟩ : ∃ x, x = scanUp (fun x => !ltOf cf dk[a]! x) dk j i := ⟨_, rfl⟩
    have bi3 := scanUp_spec (fun x => !ltOf cf dk[a]! x) dk j _ i rfl
    rw [← hi3] at bi3
    have bi31 := bi3.1
    have bi32 := bi3.2.1 (by omega)
    have Gi3 := Lib.hid bi3.2.2.2
    have Hi3 := Lib.hid hi3.symm
    clear hi3 bi3
    go_upto_block 2 with fail
    go_cut [11] from 31 to 88 (fun sz wx => sz = .int .i64 (i3 : Int) ∧ Hid (SWK enc k w0 blk off dk wx))
    case first =>
      go_wp2_with fail
      go_loopw [11] (fun vi wx => ∃ z : Nat, vi = .int .i64 z ∧ i ≤ z ∧ z ≤ j + 1 ∧ Hid (SWK enc k w0 blk off dk wx) ∧ Hid (scanUp (fun x => !ltOf cf dk[a]! x) dk j z = i3)) (fun vi _ => j + 1 - (intOf vi).toNat)
      case atStart => exact ⟨i, rfl, by omega, by omega, SK, Hi3⟩
      case round =>
        clear SK Hi3
        obtain ⟨z, rfl, hz1, hz2, SZ, HZ⟩ := hrel
        by_cases hzz : z ≤ j
        · have hg1 : decide ((z : Int) ≤ (j : Int)) = true := decide_eq_true (by omega)
          have z_p : (0 : Int) ≤ (z : Int) := by omega
          have z_u : (z : Int) < (d.size : Int) := by omega
          have z_n : ((z : Int)).toNat = z := by omega
          have z_w : IntKind.i64.wrap (z : Int) = (z : Int) := by rw [IntKind.wrap_i64]; omega
          obtain ⟨x, hx⟩ : ∃ x, x = dk[a]! := ⟨_, rfl⟩
          obtain ⟨y, hy⟩ : ∃ y, y = dk[z]! := ⟨_, rfl⟩
          have lx := SZ.out.ld R (by omega) P a (by omega)
          have ly := SZ.out.ld R (by omega) P z (by omega)
          rw [← hx] at lx
          rw [← hy] at ly
          have hc := cmpM SZ.out HC.out (by omega) x y
          have HX := Lib.hid hx
          have HY := Lib.hid hy
          clear hx hy
          cases hl : ltOf cf x y
          · have HN := Lib.hid (show scanUp (fun x => !ltOf cf dk[a]! x) dk j (z + 1) = i3 by
              rw [← HZ.out]
              exact (up_go (fun x => !ltOf cf dk[a]! x) dk j z hzz (by show (!ltOf cf dk[a]! dk[z]!) = true; rw [← HX.out, ← HY.out, hl]; try rfl)).symm)
            have hd : decide (cf x y < 0) = false := hl
            clear hl
            go_wp2_with fail
            go_quiet_grown (first | (go_at_fn g; refine Calls.grown_of (hc _ _)))
            have SV := Lib.hid (SZ.out.grown nq osq)
            clear lx ly hc SZ hd
            generalize grow (wr.drewN nq) osq = wv at * 
            clear nq osq
            go_wp2
            refine ⟨⟨z + 1, by go_num, by omega, by omega, SV, HN⟩, by first | (simp [intOf]; done) | (simp [intOf]; omega)⟩
          · have HN := Lib.hid (show z = i3 by
              rw [← HZ.out]
              exact (up_stop (fun x => !ltOf cf dk[a]! x) dk j z (by show (!ltOf cf dk[a]! dk[z]!) = false; rw [← HX.out, ← HY.out, hl]; try rfl)).symm)
            have hd : decide (cf x y < 0) = true := hl
            clear hl
            go_wp2_with fail
            go_quiet_grown (first | (go_at_fn g; refine Calls.grown_of (hc _ _)))
            have SV := Lib.hid (SZ.out.grown nq osq)
            clear lx ly hc SZ hd
            generalize grow (wr.drewN nq) osq = wv at * 
            clear nq osq
            go_wp2
            go_meet
            exact ⟨by rw [HN.out], SV⟩
        · have hg1 : decide ((z : Int) ≤ (j : Int)) = false := decide_eq_false (by omega)
          have HN := Lib.hid (show z = i3 by
            rw [← HZ.out]
            exact (up_end (fun x => !ltOf cf dk[a]! x) dk j z (by omega)).symm)
          go_wp2_with fail
          go_big_region_o
          have SV := Lib.hid SZ.out.drew
          clear SZ
          generalize wr.drew = wv at SV ⊢
          go_wp2
          go_meet
          exact ⟨by rw [HN.out], SV⟩
    case rest =>
      clear SK
      obtain ⟨rfl, SA⟩ := hcut
      obtain ⟨j3, hj3⟩ : ∃ x, x = scanDown (fun x => ltOf cf dk[a]! x) dk i3 j := ⟨_, rfl⟩
      have bj3 := scanDown_spec (fun x => ltOf cf dk[a]! x) dk i3 j
      rw [← hj3] at bj3
      have bj31 := bj3.1
      have bj32 := bj3.2.1 (by omega)
      have Gj3 := Lib.hid bj3.2.2.2
      have Hj3 := Lib.hid hj3.symm
      clear hj3 bj3
      go_upto_block 4 with fail
      go_cut [12] from 31 to 88 (fun sz wx => sz = .int .i64 (j3 : Int) ∧ Hid (SWK enc k w0 blk off dk wx))
      case first =>
        go_wp2_with fail
        go_loopw [12] (fun vi wx => ∃ z : Nat, vi = .int .i64 z ∧ i3 ≤ z + 1 ∧ z ≤ j ∧ Hid (SWK enc k w0 blk off dk wx) ∧ Hid (scanDown (fun x => ltOf cf dk[a]! x) dk i3 z = j3)) (fun vi _ => (intOf vi).toNat)
        case atStart => exact ⟨j, rfl, by omega, by omega, SA, Hj3⟩
        case round =>
          clear SA Hj3
          obtain ⟨z, rfl, hz1, hz2, SZ, HZ⟩ := hrel
          by_cases hzz : i3 ≤ z
          · have hg1 : decide ((i3 : Int) ≤ (z : Int)) = true := decide_eq_true (by omega)
            have z_p : (0 : Int) ≤ (z : Int) := by omega
            have z_u : (z : Int) < (d.size : Int) := by omega
            have z_n : ((z : Int)).toNat = z := by omega
            have z_w : IntKind.i64.wrap (z : Int) = (z : Int) := by rw [IntKind.wrap_i64]; omega
            obtain ⟨x, hx⟩ : ∃ x, x = dk[a]! := ⟨_, rfl⟩
            obtain ⟨y, hy⟩ : ∃ y, y = dk[z]! := ⟨_, rfl⟩
            have lx := SZ.out.ld R (by omega) P a (by omega)
            have ly := SZ.out.ld R (by omega) P z (by omega)
            rw [← hx] at lx
            rw [← hy] at ly
            have hc := cmpM SZ.out HC.out (by omega) x y
            have HX := Lib.hid hx
            have HY := Lib.hid hy
            clear hx hy
            cases hl : ltOf cf x y
            · have HN := Lib.hid (show z = j3 by
                rw [← HZ.out]
                exact (down_stop (fun x => ltOf cf dk[a]! x) dk i3 z (by omega) (by show (ltOf cf dk[a]! dk[z]!) = false; rw [← HX.out, ← HY.out, hl]; try rfl)).symm)
              have hd : decide (cf x y < 0) = false := hl
              clear hl
              go_wp2_with fail
              go_quiet_grown (first | (go_at_fn g; refine Calls.grown_of (hc _ _)))
              have SV := Lib.hid (SZ.out.grown nq osq)
              clear lx ly hc SZ hd
              generalize grow (wr.drewN nq) osq = wv at * 
              clear nq osq
              go_wp2
              go_meet
              exact ⟨by rw [HN.out], SV⟩
            · have HN := Lib.hid (show scanDown (fun x => ltOf cf dk[a]! x) dk i3 (z - 1) = j3 by
                rw [← HZ.out]
                obtain ⟨z', rfl⟩ : ∃ z', z = z' + 1 := ⟨z - 1, by omega⟩
                exact (down_go (fun x => ltOf cf dk[a]! x) dk i3 z' hzz (by show (ltOf cf dk[a]! dk[z' + 1]!) = true; rw [← HX.out, ← HY.out, hl]; try rfl)).symm)
              have hd : decide (cf x y < 0) = true := hl
              clear hl
              go_wp2_with fail
              go_quiet_grown (first | (go_at_fn g; refine Calls.grown_of (hc _ _)))
              have SV := Lib.hid (SZ.out.grown nq osq)
              clear lx ly hc SZ hd
              generalize grow (wr.drewN nq) osq = wv at * 
              clear nq osq
              go_wp2
              refine ⟨⟨z - 1, by go_num, by omega, by omega, SV, HN⟩, by first | (simp [intOf]; done) | (simp [intOf]; omega)⟩
          · have hg1 : decide ((i3 : Int) ≤ (z : Int)) = false := decide_eq_false (by omega)
            have HN := Lib.hid (show z = j3 by
              rw [← HZ.out]
              exact (down_end (fun x => ltOf cf dk[a]! x) dk i3 z (by omega)).symm)
            go_wp2_with fail
            go_big_region_o
            have SV := Lib.hid SZ.out.drew
            clear SZ
            generalize wr.drew = wv at SV ⊢
            go_wp2
            go_meet
            exact ⟨by rw [HN.out], SV⟩
      case rest =>
        clear SA
        obtain ⟨rfl, SB⟩ := hcut
        have HV := Lib.hid (show (fr, dr) = if i3 > j3 then (i3, dk) else partEqLoop (ltOf cf) a (i3 + 1) (j3 - 1) (swp dk i3 j3) by
          have := HK.out
          rw [partEqLoop_eq, Hi3.out, Hj3.out] at this
          exact this.symm)
        clear HK Hi3 Hj3
        have j3_p : (0 : Int) ≤ (j3 : Int) := by omega
        have j3_u : (j3 : Int) < (d.size : Int) := by omega
        have j3_n : ((j3 : Int)).toNat = j3 := by omega
        have j3_w : IntKind.i64.wrap (j3 : Int) = (j3 : Int) := by rw [IntKind.wrap_i64]; omega
        by_cases hij3 : j3 < i3
        · have hg : (j3 : Int) < (i3 : Int) := by omega
          have HX2 := Lib.hid (show fr = i3 ∧ dr = dk by
            have := HV.out
            rw [if_pos hij3] at this
            exact ⟨congrArg Prod.fst this, congrArg Prod.snd this⟩)
          clear HV
          go_wp2
          go_ret
          rw [HX2.out.1, HX2.out.2]
          exact ⟨rfl, SB.out⟩
        · have hg : ¬ (j3 : Int) < (i3 : Int) := by omega
          have hlt3 : i3 < j3 := by
            have h1 : (!ltOf cf dk[a]! dk[i3]!) = false := Gi3.out (by omega)
            have h2 : ltOf cf dk[a]! dk[j3]! = false := Gj3.out (by omega) (by omega)
            rcases Nat.lt_or_ge i3 j3 with h | h
            · exact h
            · obtain rfl : i3 = j3 := by omega
              rw [h2] at h1
              exact absurd h1 (by decide)
          have HN := Lib.hid (show partEqLoop (ltOf cf) a (i3 + 1) (j3 - 1) (swp dk i3 j3) = (fr, dr) by rw [HV.out, if_neg hij3])
          clear HV
          have i3_p : (0 : Int) ≤ (i3 : Int) := by omega
          have i3_u : (i3 : Int) < (d.size : Int) := by omega
          have i3_n : ((i3 : Int)).toNat = i3 := by omega
          have i3_w : IntKind.i64.wrap (i3 : Int) = (i3 : Int) := by rw [IntKind.wrap_i64]; omega
          go_wp2_with fail
          have SW := Lib.hid (SB.out.swapped R i3 j3 (by omega) (by omega))
          have l1 := SB.out.ld1 R (by omega) P i3 (by omega)
          have l2 := SB.out.ld1 R (by omega) P j3 (by omega)
          have s1 := SB.out.st1 R (by omega) P i3 (by omega) dk[j3]!
          have s2 := SB.out.st2 R (by omega) P i3 j3 (by omega) (by omega) dk[j3]! dk[i3]!
          have n1 : (enc dk[i3]!).length = k := R.hk _
          have n2 : (enc dk[j3]!).length = k := R.hk _
          generalize enc dk[i3]! = cI at SW l1 s2 n1
          generalize enc dk[j3]! = cJ at SW l2 s1 s2 n2
          clear SB
          go_wp2_with fail
          go_big_region_o
          clear l1 l2 s1 s2 n1 n2
          generalize (wc.drew.setCells blk (off + i3 * k) cJ).setCells blk (off + j3 * k) cI = wy at SW ⊢
          go_wp2
          go_roundg (j3 - 1 + 1 - (i3 + 1))
          case measure => omega
          case rel => exact ⟨i3 + 1, j3 - 1, swp dk i3 j3, by go_num, by go_num, by omega, by omega, by omega, by rw [size_swp]; exact hsk, Nat.le_refl _, SW, HN⟩
end Go.Proofs.Ytaghophkfogdgaa
