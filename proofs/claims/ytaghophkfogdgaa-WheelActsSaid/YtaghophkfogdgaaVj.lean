/- The sort's partition under a method's value. Conditions: what the words say. -/
import Derived.Test.YtaghophkfogdgaaVe
import Derived.Deep.CutBlock
import Derived.Deep.DeepCutAuto
import Derived.Deep.LoopGhost
namespace Go.Proofs.Ytaghophkfogdgaa
open Go.Shelf Go.RowKit Go.Lib Go.Sort
variable {P : Program} {ρ : Ren} {α : Type} [Inhabited α]

variable {k : Nat} {enc : α → List Value} {cf : α → α → Int} {g : Nat} {u : Value} {blk off : Nat} {d0 : Array α} {w0 : World}
theorem up_end (p : α → Bool) (d : Array α) (j i : Nat) (h : j < i) : scanUp p d j i = i := by
  rw [scanUp, if_neg (by simp; omega)]
theorem up_stop (p : α → Bool) (d : Array α) (j i : Nat) (h : p d[i]! = false) : scanUp p d j i = i := by
  rw [scanUp, if_neg (by simp [h])]
theorem up_go (p : α → Bool) (d : Array α) (j i : Nat) (hi : i ≤ j) (h : p d[i]! = true) : scanUp p d j i = scanUp p d j (i + 1) := by
  rw [scanUp, if_pos (by simp [h, hi])]
theorem down_end (p : α → Bool) (d : Array α) (i j : Nat) (h : j < i) : scanDown p d i j = j := by
  cases j with
  | zero => rfl
  | succ j => rw [scanDown, if_neg (by simp; omega)]
theorem down_stop (p : α → Bool) (d : Array α) (i j : Nat) (hj : 0 < j) (h : p d[j]! = false) : scanDown p d i j = j := by
  cases j with
  | zero => omega
  | succ j => rw [scanDown, if_neg (by simp [h])]
theorem down_go (p : α → Bool) (d : Array α) (i j : Nat) (hi : i ≤ j + 1) (h : p d[j + 1]! = true) : scanDown p d i (j + 1) = scanDown p d i j := by
  rw [scanDown, if_pos (by simp [h, hi])]
set_option maxHeartbeats 8000000 in
set_option maxRecDepth 1000000 in
theorem partM (L : SlLaysF0.n27 P ρ) (F : FamM P ρ k enc cf g u blk off d0 w0) (cap a b pv : Nat) (d : Array α) (W : World) (hs : d0.size = d.size) (S : SWK enc k w0 blk off d W) (hab : a < b) (hb : b ≤ d.size) (hpb : pv < b) (hsz : d.size < 4611686018427387904) :
    Calls P (ρ.f 27) #[.slice (some ⟨blk, off, none⟩) d.size cap, .int .i64 a, .int .i64 b, .int .i64 pv, .func (.func g) #[u] #[]] W fun e w' =>
      e = .returned (.tuple #[.int .i64 (Sort.partition (ltOf cf) d a b pv).1, .bool (Sort.partition (ltOf cf) d a b pv).2.1]) ∧ SWK enc k w0 blk off (Sort.partition (ltOf cf) d a b pv).2.2 w' := by
  have mixed := L.mixed; have t0 := L.t0; have a0 := L.a0; have z0 := L.z0; have v0 := L.v0; have t3 := L.t3; have a3 := L.a3; have z3 := L.z3; have v3 := L.v3; have t4 := L.t4; have a4 := L.a4; have z4 := L.z4; have v4 := L.v4; have t22 := L.t22; have a22 := L.a22; have z22 := L.z22; have v22 := L.v22; have t25 := L.t25; have a25 := L.a25; have z25 := L.z25; have v25 := L.v25
  obtain ⟨_, _, FG⟩ := L.f27
  obtain ⟨aE, zE, eg, hcmp, R⟩ := F
  have HC := Lib.hid hcmp
  have S0 := Lib.hid S
  clear hcmp S
  obtain ⟨i0, hi0⟩ : ∃ i, i = a + 1 := ⟨_, rfl⟩
  obtain ⟨j0, hj0⟩ : ∃ j, j = b - 1 := ⟨_, rfl⟩
  have e1 : (a : Int) + 1 = (i0 : Int) := by omega
  have e2 : (b : Int) - 1 = (j0 : Int) := by omega
  have e3 : IntKind.i64.wrap (i0 : Int) = (i0 : Int) := by rw [IntKind.wrap_i64]; omega
  have e4 : IntKind.i64.wrap (j0 : Int) = (j0 : Int) := by rw [IntKind.wrap_i64]; omega
  have q1 : a < i0 := by omega
  have q2 : i0 ≤ j0 + 1 := by omega
  have q3 : j0 < b := by omega
  obtain ⟨dj, hdj⟩ : ∃ x, x = swp d a pv := ⟨_, rfl⟩
  have hsj : dj.size = d.size := by rw [hdj, size_swp]
  have HP := Lib.hid (show Sort.partition (ltOf cf) d a b pv =
      if scanUp (fun x => ltOf cf x dj[a]!) dj j0 i0 > scanDown (fun x => !ltOf cf x dj[a]!) dj (scanUp (fun x => ltOf cf x dj[a]!) dj j0 i0) j0 then (scanDown (fun x => !ltOf cf x dj[a]!) dj (scanUp (fun x => ltOf cf x dj[a]!) dj j0 i0) j0, true, swp dj (scanDown (fun x => !ltOf cf x dj[a]!) dj (scanUp (fun x => ltOf cf x dj[a]!) dj j0 i0) j0) a)
      else ((partLoop (ltOf cf) a (scanUp (fun x => ltOf cf x dj[a]!) dj j0 i0 + 1) (scanDown (fun x => !ltOf cf x dj[a]!) dj (scanUp (fun x => ltOf cf x dj[a]!) dj j0 i0) j0 - 1) (swp dj (scanUp (fun x => ltOf cf x dj[a]!) dj j0 i0) (scanDown (fun x => !ltOf cf x dj[a]!) dj (scanUp (fun x => ltOf cf x dj[a]!) dj j0 i0) j0))).1, false, swp (partLoop (ltOf cf) a (scanUp (fun x => ltOf cf x dj[a]!) dj j0 i0 + 1) (scanDown (fun x => !ltOf cf x dj[a]!) dj (scanUp (fun x => ltOf cf x dj[a]!) dj j0 i0) j0 - 1) (swp dj (scanUp (fun x => ltOf cf x dj[a]!) dj j0 i0) (scanDown (fun x => !ltOf cf x dj[a]!) dj (scanUp (fun x => ltOf cf x dj[a]!) dj j0 i0) j0))).2 (partLoop (ltOf cf) a (scanUp (fun x => ltOf cf x dj[a]!) dj j0 i0 + 1) (scanDown (fun x => !ltOf cf x dj[a]!) dj (scanUp (fun x => ltOf cf x dj[a]!) dj j0 i0) j0 - 1) (swp dj (scanUp (fun x => ltOf cf x dj[a]!) dj j0 i0) (scanDown (fun x => !ltOf cf x dj[a]!) dj (scanUp (fun x => ltOf cf x dj[a]!) dj j0 i0) j0))).1 a) by
    rw [hi0, hj0, hdj]
    rfl)
  have HD := Lib.hid hdj
  clear hi0 hj0 hdj
  have a_p : (0 : Int) ≤ (a : Int) := by omega
  have a_u : (a : Int) < (d.size : Int) := by omega
  have a_n : ((a : Int)).toNat = a := by omega
  have a_w : IntKind.i64.wrap (a : Int) = (a : Int) := by rw [IntKind.wrap_i64]; omega
  have pv_p : (0 : Int) ≤ (pv : Int) := by omega
  have pv_u : (pv : Int) < (d.size : Int) := by omega
  have pv_n : ((pv : Int)).toNat = pv := by omega
  have pv_w : IntKind.i64.wrap (pv : Int) = (pv : Int) := by rw [IntKind.wrap_i64]; omega
  go_enter FG, SlBodyF.n27_ntmps ρ
  go_wp2_with fail
  have SW := Lib.hid (S0.out.swapped R a pv (by omega) (by omega))
  have l1 := S0.out.ld1 R (by omega) P a (by omega)
  have l2 := S0.out.ld1 R (by omega) P pv (by omega)
  have s1 := S0.out.st1 R (by omega) P a (by omega) d[pv]!
  have s2 := S0.out.st2 R (by omega) P a pv (by omega) (by omega) d[pv]! d[a]!
  have n1 : (enc d[a]!).length = k := R.hk _
  have n2 : (enc d[pv]!).length = k := R.hk _
  generalize enc d[a]! = cI at SW l1 s2 n1
  generalize enc d[pv]! = cJ at SW l2 s1 s2 n2
  clear S0
  go_wp2_with fail
  go_big_region_o
  clear l1 l2 s1 s2 n1 n2
  generalize (W.drew.setCells blk (off + a * k) cJ).setCells blk (off + pv * k) cI = wz at SW ⊢
  have SJ := Lib.hid (show SWK enc k w0 blk off dj wz by rw [HD.out]; exact SW.out)
  clear SW HD
  obtain ⟨i1, hi1⟩ : ∃ x, x = scanUp (fun x => ltOf cf x dj[a]!) dj j0 i0 := ⟨_, rfl⟩
  have bi1 := scanUp_spec (fun x => ltOf cf x dj[a]!) dj j0 _ i0 rfl
  rw [← hi1] at bi1
  have bi11 := bi1.1
  have bi12 := bi1.2.1 (by omega)
  have Gi1 := Lib.hid bi1.2.2.2
  have Hi1 := Lib.hid hi1.symm
  clear hi1 bi1
  go_upto_block 0 with fail
  go_cut [12] from 32 to 49 (fun sz wx => sz = .int .i64 (i1 : Int) ∧ Hid (SWK enc k w0 blk off dj wx))
  case first =>
    go_wp2_with fail
    go_loopw [12] (fun vi wx => ∃ z : Nat, vi = .int .i64 z ∧ i0 ≤ z ∧ z ≤ j0 + 1 ∧ Hid (SWK enc k w0 blk off dj wx) ∧ Hid (scanUp (fun x => ltOf cf x dj[a]!) dj j0 z = i1)) (fun vi _ => j0 + 1 - (intOf vi).toNat)
    case atStart => exact ⟨i0, rfl, by omega, by omega, SJ, Hi1⟩
    case round =>
      clear SJ Hi1
      obtain ⟨z, rfl, hz1, hz2, SZ, HZ⟩ := hrel
      by_cases hzz : z ≤ j0
      · have hg1 : decide ((z : Int) ≤ (j0 : Int)) = true := decide_eq_true (by omega)
        have z_p : (0 : Int) ≤ (z : Int) := by omega
        have z_u : (z : Int) < (d.size : Int) := by omega
        have z_n : ((z : Int)).toNat = z := by omega
        have z_w : IntKind.i64.wrap (z : Int) = (z : Int) := by rw [IntKind.wrap_i64]; omega
        obtain ⟨x, hx⟩ : ∃ x, x = dj[z]! := ⟨_, rfl⟩
        obtain ⟨y, hy⟩ : ∃ y, y = dj[a]! := ⟨_, rfl⟩
        have lx := SZ.out.ld R (by omega) P z (by omega)
        have ly := SZ.out.ld R (by omega) P a (by omega)
        rw [← hx] at lx
        rw [← hy] at ly
        have hc := cmpM SZ.out HC.out (by omega) x y
        have HX := Lib.hid hx
        have HY := Lib.hid hy
        clear hx hy
        cases hl : ltOf cf x y
        · have HN := Lib.hid (show z = i1 by
            rw [← HZ.out]
            exact (up_stop (fun x => ltOf cf x dj[a]!) dj j0 z (by show (ltOf cf dj[z]! dj[a]!) = false; rw [← HX.out, ← HY.out, hl]; try rfl)).symm)
          have hd : decide (cf x y < 0) = false := hl
          clear hl
          go_wp2_with fail
          go_quiet_grown (first | (go_at_fn g; refine Calls.grown_of (hc _ _)))
          have SV := Lib.hid (SZ.out.grown nq osq)
          clear lx ly hc SZ hd
          generalize grow (wr.drewN nq) osq = wv at * 
          clear nq osq
          go_wp2
          go_meet
          exact ⟨by rw [HN.out], SV⟩
        · have HN := Lib.hid (show scanUp (fun x => ltOf cf x dj[a]!) dj j0 (z + 1) = i1 by
            rw [← HZ.out]
            exact (up_go (fun x => ltOf cf x dj[a]!) dj j0 z hzz (by show (ltOf cf dj[z]! dj[a]!) = true; rw [← HX.out, ← HY.out, hl]; try rfl)).symm)
          have hd : decide (cf x y < 0) = true := hl
          clear hl
          go_wp2_with fail
          go_quiet_grown (first | (go_at_fn g; refine Calls.grown_of (hc _ _)))
          have SV := Lib.hid (SZ.out.grown nq osq)
          clear lx ly hc SZ hd
          generalize grow (wr.drewN nq) osq = wv at * 
          clear nq osq
          go_wp2
          refine ⟨⟨z + 1, by go_num, by omega, by omega, SV, HN⟩, by first | (simp [intOf]; done) | (simp [intOf]; omega)⟩
      · have hg1 : decide ((z : Int) ≤ (j0 : Int)) = false := decide_eq_false (by omega)
        have HN := Lib.hid (show z = i1 by
          rw [← HZ.out]
          exact (up_end (fun x => ltOf cf x dj[a]!) dj j0 z (by omega)).symm)
        go_wp2_with fail
        go_big_region_o
        have SV := Lib.hid SZ.out.drew
        clear SZ
        generalize wr.drew = wv at SV ⊢
        go_wp2
        go_meet
        exact ⟨by rw [HN.out], SV⟩
  case rest =>
    clear SJ
    obtain ⟨rfl, SA⟩ := hcut
    obtain ⟨j1, hj1⟩ : ∃ x, x = scanDown (fun x => !ltOf cf x dj[a]!) dj i1 j0 := ⟨_, rfl⟩
    have bj1 := scanDown_spec (fun x => !ltOf cf x dj[a]!) dj i1 j0
    rw [← hj1] at bj1
    have bj11 := bj1.1
    have bj12 := bj1.2.1 (by omega)
    have Gj1 := Lib.hid bj1.2.2.2
    have Hj1 := Lib.hid hj1.symm
    clear hj1 bj1
    go_upto_block 2 with fail
    go_cut [13] from 50 to 68 (fun sz wx => sz = .int .i64 (j1 : Int) ∧ Hid (SWK enc k w0 blk off dj wx))
    case first =>
      go_wp2_with fail
      go_loopw [13] (fun vi wx => ∃ z : Nat, vi = .int .i64 z ∧ i1 ≤ z + 1 ∧ z ≤ j0 ∧ Hid (SWK enc k w0 blk off dj wx) ∧ Hid (scanDown (fun x => !ltOf cf x dj[a]!) dj i1 z = j1)) (fun vi _ => (intOf vi).toNat)
      case atStart => exact ⟨j0, rfl, by omega, by omega, SA, Hj1⟩
      case round =>
        clear SA Hj1
        obtain ⟨z, rfl, hz1, hz2, SZ, HZ⟩ := hrel
        by_cases hzz : i1 ≤ z
        · have hg1 : decide ((i1 : Int) ≤ (z : Int)) = true := decide_eq_true (by omega)
          have z_p : (0 : Int) ≤ (z : Int) := by omega
          have z_u : (z : Int) < (d.size : Int) := by omega
          have z_n : ((z : Int)).toNat = z := by omega
          have z_w : IntKind.i64.wrap (z : Int) = (z : Int) := by rw [IntKind.wrap_i64]; omega
          obtain ⟨x, hx⟩ : ∃ x, x = dj[z]! := ⟨_, rfl⟩
          obtain ⟨y, hy⟩ : ∃ y, y = dj[a]! := ⟨_, rfl⟩
          have lx := SZ.out.ld R (by omega) P z (by omega)
          have ly := SZ.out.ld R (by omega) P a (by omega)
          rw [← hx] at lx
          rw [← hy] at ly
          have hc := cmpM SZ.out HC.out (by omega) x y
          have HX := Lib.hid hx
          have HY := Lib.hid hy
          clear hx hy
          cases hl : ltOf cf x y
          · have HN := Lib.hid (show scanDown (fun x => !ltOf cf x dj[a]!) dj i1 (z - 1) = j1 by
              rw [← HZ.out]
              obtain ⟨z', rfl⟩ : ∃ z', z = z' + 1 := ⟨z - 1, by omega⟩
              exact (down_go (fun x => !ltOf cf x dj[a]!) dj i1 z' hzz (by show (!ltOf cf dj[z' + 1]! dj[a]!) = true; rw [← HX.out, ← HY.out, hl]; try rfl)).symm)
            have hd : decide (cf x y < 0) = false := hl
            clear hl
            go_wp2_with fail
            go_quiet_grown (first | (go_at_fn g; refine Calls.grown_of (hc _ _)))
            have SV := Lib.hid (SZ.out.grown nq osq)
            clear lx ly hc SZ hd
            generalize grow (wr.drewN nq) osq = wv at * 
            clear nq osq
            go_wp2
            refine ⟨⟨z - 1, by go_num, by omega, by omega, SV, HN⟩, by first | (simp [intOf]; done) | (simp [intOf]; omega)⟩
          · have HN := Lib.hid (show z = j1 by
              rw [← HZ.out]
              exact (down_stop (fun x => !ltOf cf x dj[a]!) dj i1 z (by omega) (by show (!ltOf cf dj[z]! dj[a]!) = false; rw [← HX.out, ← HY.out, hl]; try rfl)).symm)
            have hd : decide (cf x y < 0) = true := hl
            clear hl
            go_wp2_with fail
            go_quiet_grown (first | (go_at_fn g; refine Calls.grown_of (hc _ _)))
            have SV := Lib.hid (SZ.out.grown nq osq)
            clear lx ly hc SZ hd
            generalize grow (wr.drewN nq) osq = wv at * 
            clear nq osq
            go_wp2
            go_meet
            exact ⟨by rw [HN.out], SV⟩
        · have hg1 : decide ((i1 : Int) ≤ (z : Int)) = false := decide_eq_false (by omega)
          have HN := Lib.hid (show z = j1 by
            rw [← HZ.out]
            exact (down_end (fun x => !ltOf cf x dj[a]!) dj i1 z (by omega)).symm)
          go_wp2_with fail
          go_big_region_o
          have SV := Lib.hid SZ.out.drew
          clear SZ
          generalize wr.drew = wv at SV ⊢
          go_wp2
          go_meet
          exact ⟨by rw [HN.out], SV⟩
    case rest =>
      clear SA
      obtain ⟨rfl, SB⟩ := hcut
      have HV := Lib.hid (show Sort.partition (ltOf cf) d a b pv = if i1 > j1 then (j1, true, swp dj j1 a) else ((partLoop (ltOf cf) a (i1 + 1) (j1 - 1) (swp dj i1 j1)).1, false, swp (partLoop (ltOf cf) a (i1 + 1) (j1 - 1) (swp dj i1 j1)).2 (partLoop (ltOf cf) a (i1 + 1) (j1 - 1) (swp dj i1 j1)).1 a) by
        have := HP.out
        rw [Hi1.out, Hj1.out] at this
        exact this)
      clear HP Hi1 Hj1
      have j1_p : (0 : Int) ≤ (j1 : Int) := by omega
      have j1_u : (j1 : Int) < (d.size : Int) := by omega
      have j1_n : ((j1 : Int)).toNat = j1 := by omega
      have j1_w : IntKind.i64.wrap (j1 : Int) = (j1 : Int) := by rw [IntKind.wrap_i64]; omega
      by_cases hij : j1 < i1
      · have hg : (j1 : Int) < (i1 : Int) := by omega
        have HW := Lib.hid (show Sort.partition (ltOf cf) d a b pv = (j1, true, swp dj j1 a) by rw [HV.out, if_pos hij])
        clear HV
        go_wp2_with fail
        have SW := Lib.hid (SB.out.swapped R j1 a (by omega) (by omega))
        have l1 := SB.out.ld1 R (by omega) P j1 (by omega)
        have l2 := SB.out.ld1 R (by omega) P a (by omega)
        have s1 := SB.out.st1 R (by omega) P j1 (by omega) dj[a]!
        have s2 := SB.out.st2 R (by omega) P j1 a (by omega) (by omega) dj[a]! dj[j1]!
        have n1 : (enc dj[j1]!).length = k := R.hk _
        have n2 : (enc dj[a]!).length = k := R.hk _
        generalize enc dj[j1]! = cI at SW l1 s2 n1
        generalize enc dj[a]! = cJ at SW l2 s1 s2 n2
        clear SB
        go_wp2_with fail
        go_big_region_o
        clear l1 l2 s1 s2 n1 n2
        generalize (wc.drew.setCells blk (off + j1 * k) cJ).setCells blk (off + a * k) cI = wy at SW ⊢
        go_wp2
        go_ret2
        rw [HW.out]
        exact ⟨rfl, SW.out⟩
      · have hg : ¬ (j1 : Int) < (i1 : Int) := by omega
        have hlt1 : i1 < j1 := by
          have h1 : ltOf cf dj[i1]! dj[a]! = false := Gi1.out (by omega)
          have h2 : (!ltOf cf dj[j1]! dj[a]!) = false := Gj1.out (by omega) (by omega)
          rcases Nat.lt_or_ge i1 j1 with h | h
          · exact h
          · obtain rfl : i1 = j1 := by omega
            rw [h1] at h2
            exact absurd h2 (by decide)
        obtain ⟨fr, dr, hfr⟩ : ∃ x y, partLoop (ltOf cf) a (i1 + 1) (j1 - 1) (swp dj i1 j1) = (x, y) := ⟨_, _, rfl⟩
        have HW := Lib.hid (show Sort.partition (ltOf cf) d a b pv = (fr, false, swp dr fr a) by rw [HV.out, if_neg hij, hfr])
        have HL := Lib.hid hfr
        clear HV hfr
        have i1_p : (0 : Int) ≤ (i1 : Int) := by omega
        have i1_u : (i1 : Int) < (d.size : Int) := by omega
        have i1_n : ((i1 : Int)).toNat = i1 := by omega
        have i1_w : IntKind.i64.wrap (i1 : Int) = (i1 : Int) := by rw [IntKind.wrap_i64]; omega
        go_wp2_with fail
        have SW := Lib.hid (SB.out.swapped R i1 j1 (by omega) (by omega))
        have l1 := SB.out.ld1 R (by omega) P i1 (by omega)
        have l2 := SB.out.ld1 R (by omega) P j1 (by omega)
        have s1 := SB.out.st1 R (by omega) P i1 (by omega) dj[j1]!
        have s2 := SB.out.st2 R (by omega) P i1 j1 (by omega) (by omega) dj[j1]! dj[i1]!
        have n1 : (enc dj[i1]!).length = k := R.hk _
        have n2 : (enc dj[j1]!).length = k := R.hk _
        generalize enc dj[i1]! = cI at SW l1 s2 n1
        generalize enc dj[j1]! = cJ at SW l2 s1 s2 n2
        clear SB
        go_wp2_with fail
        go_big_region_o
        clear l1 l2 s1 s2 n1 n2
        generalize (wc.drew.setCells blk (off + i1 * k) cJ).setCells blk (off + j1 * k) cI = wy at SW ⊢
        have SL := SW
        clear SW
        go_wp2
        go_loopg [12, 13] b (fun gk s12 s13 wr => ∃ (i j : Nat) (dk : Array α), s12 = .int .i64 i ∧ s13 = .int .i64 j ∧ a < i ∧ i ≤ j + 1 ∧ j < b ∧ dk.size = d.size ∧ j + 1 - i ≤ gk ∧ Hid (SWK enc k w0 blk off dk wr) ∧ Hid (partLoop (ltOf cf) a i j dk = (fr, dr)))
        case atStart => exact ⟨i1 + 1, j1 - 1, swp dj i1 j1, by go_num, by go_num, by omega, by omega, by omega, by rw [size_swp]; exact hsj, by omega, SL, HL⟩
        case round =>
          clear SL HL
          obtain ⟨i, j, dk, rfl, rfl, r1, r2, r3, hsk, hgk, SK, HK⟩ := hrel
          obtain ⟨i3, hi3⟩ : ∃ x, x = scanUp (fun x => ltOf cf x dk[a]!) dk j i := ⟨_, rfl⟩
          have bi3 := scanUp_spec (fun x => ltOf cf x dk[a]!) dk j _ i rfl
          rw [← hi3] at bi3
          have bi31 := bi3.1
          have bi32 := bi3.2.1 (by omega)
          have Gi3 := Lib.hid bi3.2.2.2
          have Hi3 := Lib.hid hi3.symm
          clear hi3 bi3
          go_upto_block 6 with fail
          go_cut [12] from 105 to 162 (fun sz wx => sz = .int .i64 (i3 : Int) ∧ Hid (SWK enc k w0 blk off dk wx))
          case first =>
            go_wp2_with fail
            go_loopw [12] (fun vi wx => ∃ z : Nat, vi = .int .i64 z ∧ i ≤ z ∧ z ≤ j + 1 ∧ Hid (SWK enc k w0 blk off dk wx) ∧ Hid (scanUp (fun x => ltOf cf x dk[a]!) dk j z = i3)) (fun vi _ => j + 1 - (intOf vi).toNat)
            case atStart => exact ⟨i, rfl, by omega, by omega, SK, Hi3⟩
            case round =>
              clear SK Hi3
              obtain ⟨z, rfl, hz1, hz2, SZ, HZ⟩ := hrel
              by_cases hzz : z ≤ j
              · have hg1 : decide ((z : Int) ≤ (j : Int)) = true := decide_eq_true (by omega)
                have z_p : (0 : Int) ≤ (z : Int) := by omega
                have z_u : (z : Int) < (d.size : Int) := by omega
                have z_n : ((z : Int)).toNat = z := by omega
                have z_w : IntKind.i64.wrap (z : Int) = (z : Int) := by rw [IntKind.wrap_i64]; omega
                obtain ⟨x, hx⟩ : ∃ x, x = dk[z]! := ⟨_, rfl⟩
                obtain ⟨y, hy⟩ : ∃ y, y = dk[a]! := ⟨_, rfl⟩
                have lx := SZ.out.ld R (by omega) P z (by omega)
                have ly := SZ.out.ld R (by omega) P a (by omega)
                rw [← hx] at lx
                rw [← hy] at ly
                have hc := cmpM SZ.out HC.out (by omega) x y
                have HX := Lib.hid hx
                have HY := Lib.hid hy
                clear hx hy
                cases hl : ltOf cf x y
                · have HN := Lib.hid (show z = i3 by
                    rw [← HZ.out]
                    exact (up_stop (fun x => ltOf cf x dk[a]!) dk j z (by show (ltOf cf dk[z]! dk[a]!) = false; rw [← HX.out, ← HY.out, hl]; try rfl)).symm)
                  have hd : decide (cf x y < 0) = false := hl
                  clear hl
                  go_wp2_with fail
                  go_quiet_grown (first | (go_at_fn g; refine Calls.grown_of (hc _ _)))
                  have SV := Lib.hid (SZ.out.grown nq osq)
                  clear lx ly hc SZ hd
                  generalize grow (wr.drewN nq) osq = wv at * 
                  clear nq osq
                  go_wp2
                  go_meet
                  exact ⟨by rw [HN.out], SV⟩
                · have HN := Lib.hid (show scanUp (fun x => ltOf cf x dk[a]!) dk j (z + 1) = i3 by
                    rw [← HZ.out]
                    exact (up_go (fun x => ltOf cf x dk[a]!) dk j z hzz (by show (ltOf cf dk[z]! dk[a]!) = true; rw [← HX.out, ← HY.out, hl]; try rfl)).symm)
                  have hd : decide (cf x y < 0) = true := hl
                  clear hl
                  go_wp2_with fail
                  go_quiet_grown (first | (go_at_fn g; refine Calls.grown_of (hc _ _)))
                  have SV := Lib.hid (SZ.out.grown nq osq)
                  clear lx ly hc SZ hd
                  generalize grow (wr.drewN nq) osq = wv at * 
                  clear nq osq
                  go_wp2
                  refine ⟨⟨z + 1, by go_num, by omega, by omega, SV, HN⟩, by first | (simp [intOf]; done) | (simp [intOf]; omega)⟩
              · have hg1 : decide ((z : Int) ≤ (j : Int)) = false := decide_eq_false (by omega)
                have HN := Lib.hid (show z = i3 by
                  rw [← HZ.out]
                  exact (up_end (fun x => ltOf cf x dk[a]!) dk j z (by omega)).symm)
                go_wp2_with fail
                go_big_region_o
                have SV := Lib.hid SZ.out.drew
                clear SZ
                generalize wr.drew = wv at SV ⊢
                go_wp2
                go_meet
                exact ⟨by rw [HN.out], SV⟩
          case rest =>
            clear SK
            obtain ⟨rfl, SA⟩ := hcut
            obtain ⟨j3, hj3⟩ : ∃ x, x = scanDown (fun x => !ltOf cf x dk[a]!) dk i3 j := ⟨_, rfl⟩
            have bj3 := scanDown_spec (fun x => !ltOf cf x dk[a]!) dk i3 j
            rw [← hj3] at bj3
            have bj31 := bj3.1
            have bj32 := bj3.2.1 (by omega)
            have Gj3 := Lib.hid bj3.2.2.2
            have Hj3 := Lib.hid hj3.symm
            clear hj3 bj3
            go_upto_block 8 with fail
            go_cut [13] from 105 to 162 (fun sz wx => sz = .int .i64 (j3 : Int) ∧ Hid (SWK enc k w0 blk off dk wx))
            case first =>
              go_wp2_with fail
              go_loopw [13] (fun vi wx => ∃ z : Nat, vi = .int .i64 z ∧ i3 ≤ z + 1 ∧ z ≤ j ∧ Hid (SWK enc k w0 blk off dk wx) ∧ Hid (scanDown (fun x => !ltOf cf x dk[a]!) dk i3 z = j3)) (fun vi _ => (intOf vi).toNat)
              case atStart => exact ⟨j, rfl, by omega, by omega, SA, Hj3⟩
              case round =>
                clear SA Hj3
                obtain ⟨z, rfl, hz1, hz2, SZ, HZ⟩ := hrel
                by_cases hzz : i3 ≤ z
                · have hg1 : decide ((i3 : Int) ≤ (z : Int)) = true := decide_eq_true (by omega)
                  have z_p : (0 : Int) ≤ (z : Int) := by omega
                  have z_u : (z : Int) < (d.size : Int) := by omega
                  have z_n : ((z : Int)).toNat = z := by omega
                  have z_w : IntKind.i64.wrap (z : Int) = (z : Int) := by rw [IntKind.wrap_i64]; omega
                  obtain ⟨x, hx⟩ : ∃ x, x = dk[z]! := ⟨_, rfl⟩
                  obtain ⟨y, hy⟩ : ∃ y, y = dk[a]! := ⟨_, rfl⟩
                  have lx := SZ.out.ld R (by omega) P z (by omega)
                  have ly := SZ.out.ld R (by omega) P a (by omega)
                  rw [← hx] at lx
                  rw [← hy] at ly
                  have hc := cmpM SZ.out HC.out (by omega) x y
                  have HX := Lib.hid hx
                  have HY := Lib.hid hy
                  clear hx hy
                  cases hl : ltOf cf x y
                  · have HN := Lib.hid (show scanDown (fun x => !ltOf cf x dk[a]!) dk i3 (z - 1) = j3 by
                      rw [← HZ.out]
                      obtain ⟨z', rfl⟩ : ∃ z', z = z' + 1 := ⟨z - 1, by omega⟩
                      exact (down_go (fun x => !ltOf cf x dk[a]!) dk i3 z' hzz (by show (!ltOf cf dk[z' + 1]! dk[a]!) = true; rw [← HX.out, ← HY.out, hl]; try rfl)).symm)
                    have hd : decide (cf x y < 0) = false := hl
                    clear hl
                    go_wp2_with fail
                    go_quiet_grown (first | (go_at_fn g; refine Calls.grown_of (hc _ _)))
                    have SV := Lib.hid (SZ.out.grown nq osq)
                    clear lx ly hc SZ hd
                    generalize grow (wr.drewN nq) osq = wv at * 
                    clear nq osq
                    go_wp2
                    refine ⟨⟨z - 1, by go_num, by omega, by omega, SV, HN⟩, by first | (simp [intOf]; done) | (simp [intOf]; omega)⟩
                  · have HN := Lib.hid (show z = j3 by
                      rw [← HZ.out]
                      exact (down_stop (fun x => !ltOf cf x dk[a]!) dk i3 z (by omega) (by show (!ltOf cf dk[z]! dk[a]!) = false; rw [← HX.out, ← HY.out, hl]; try rfl)).symm)
                    have hd : decide (cf x y < 0) = true := hl
                    clear hl
                    go_wp2_with fail
                    go_quiet_grown (first | (go_at_fn g; refine Calls.grown_of (hc _ _)))
                    have SV := Lib.hid (SZ.out.grown nq osq)
                    clear lx ly hc SZ hd
                    generalize grow (wr.drewN nq) osq = wv at * 
                    clear nq osq
                    go_wp2
                    go_meet
                    exact ⟨by rw [HN.out], SV⟩
                · have hg1 : decide ((i3 : Int) ≤ (z : Int)) = false := decide_eq_false (by omega)
                  have HN := Lib.hid (show z = j3 by
                    rw [← HZ.out]
                    exact (down_end (fun x => !ltOf cf x dk[a]!) dk i3 z (by omega)).symm)
                  go_wp2_with fail
                  go_big_region_o
                  have SV := Lib.hid SZ.out.drew
                  clear SZ
                  generalize wr.drew = wv at SV ⊢
                  go_wp2
                  go_meet
                  exact ⟨by rw [HN.out], SV⟩
            case rest =>
              clear SA
              obtain ⟨rfl, SB⟩ := hcut
              have HV := Lib.hid (show (fr, dr) = if i3 > j3 then (j3, dk) else partLoop (ltOf cf) a (i3 + 1) (j3 - 1) (swp dk i3 j3) by
                have := HK.out
                rw [partLoop_eq, Hi3.out, Hj3.out] at this
                exact this.symm)
              clear HK Hi3 Hj3
              have j3_p : (0 : Int) ≤ (j3 : Int) := by omega
              have j3_u : (j3 : Int) < (d.size : Int) := by omega
              have j3_n : ((j3 : Int)).toNat = j3 := by omega
              have j3_w : IntKind.i64.wrap (j3 : Int) = (j3 : Int) := by rw [IntKind.wrap_i64]; omega
              by_cases hij3 : j3 < i3
              · have hg : (j3 : Int) < (i3 : Int) := by omega
                have HX2 := Lib.hid (show fr = j3 ∧ dr = dk by
                  have := HV.out
                  rw [if_pos hij3] at this
                  exact ⟨congrArg Prod.fst this, congrArg Prod.snd this⟩)
                clear HV
                go_wp2_with fail
                have SW := Lib.hid (SB.out.swapped R j3 a (by omega) (by omega))
                have l1 := SB.out.ld1 R (by omega) P j3 (by omega)
                have l2 := SB.out.ld1 R (by omega) P a (by omega)
                have s1 := SB.out.st1 R (by omega) P j3 (by omega) dk[a]!
                have s2 := SB.out.st2 R (by omega) P j3 a (by omega) (by omega) dk[a]! dk[j3]!
                have n1 : (enc dk[j3]!).length = k := R.hk _
                have n2 : (enc dk[a]!).length = k := R.hk _
                generalize enc dk[j3]! = cI at SW l1 s2 n1
                generalize enc dk[a]! = cJ at SW l2 s1 s2 n2
                clear SB
                go_wp2_with fail
                go_big_region_o
                clear l1 l2 s1 s2 n1 n2
                generalize (wc.drew.setCells blk (off + j3 * k) cJ).setCells blk (off + a * k) cI = wy at SW ⊢
                go_wp2
                go_ret2
                rw [HW.out, HX2.out.1, HX2.out.2]
                exact ⟨rfl, SW.out⟩
              · have hg : ¬ (j3 : Int) < (i3 : Int) := by omega
                have hlt3 : i3 < j3 := by
                  have h1 : ltOf cf dk[i3]! dk[a]! = false := Gi3.out (by omega)
                  have h2 : (!ltOf cf dk[j3]! dk[a]!) = false := Gj3.out (by omega) (by omega)
                  rcases Nat.lt_or_ge i3 j3 with h | h
                  · exact h
                  · obtain rfl : i3 = j3 := by omega
                    rw [h1] at h2
                    exact absurd h2 (by decide)
                have HN := Lib.hid (show partLoop (ltOf cf) a (i3 + 1) (j3 - 1) (swp dk i3 j3) = (fr, dr) by rw [HV.out, if_neg hij3])
                clear HV
                have i3_p : (0 : Int) ≤ (i3 : Int) := by omega
                have i3_u : (i3 : Int) < (d.size : Int) := by omega
                have i3_n : ((i3 : Int)).toNat = i3 := by omega
                have i3_w : IntKind.i64.wrap (i3 : Int) = (i3 : Int) := by rw [IntKind.wrap_i64]; omega
                go_wp2_with fail
                have SW := Lib.hid (SB.out.swapped R i3 j3 (by omega) (by omega))
                have l1 := SB.out.ld1 R (by omega) P i3 (by omega)
                have l2 := SB.out.ld1 R (by omega) P j3 (by omega)
                have s1 := SB.out.st1 R (by omega) P i3 (by omega) dk[j3]!
                have s2 := SB.out.st2 R (by omega) P i3 j3 (by omega) (by omega) dk[j3]! dk[i3]!
                have n1 : (enc dk[i3]!).length = k := R.hk _
                have n2 : (enc dk[j3]!).length = k := R.hk _
                generalize enc dk[i3]! = cI at SW l1 s2 n1
                generalize enc dk[j3]! = cJ at SW l2 s1 s2 n2
                clear SB
                go_wp2_with fail
                go_big_region_o
                clear l1 l2 s1 s2 n1 n2
                generalize (wc.drew.setCells blk (off + i3 * k) cJ).setCells blk (off + j3 * k) cI = wy at SW ⊢
                go_wp2
                go_roundg (j3 - 1 + 1 - (i3 + 1))
                case measure => omega
                case rel => exact ⟨i3 + 1, j3 - 1, swp dk i3 j3, by go_num, by go_num, by omega, by omega, by omega, by rw [size_swp]; exact hsk, Nat.le_refl _, SW, HN⟩
end Go.Proofs.Ytaghophkfogdgaa
