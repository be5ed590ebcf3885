/- The sort's heaps under a method's value: sifting down. Conditions: what the words say. -/
import Derived.Test.YtaghophkfogdgaaVe
namespace Go.Proofs.Ytaghophkfogdgaa
open Go.Shelf Go.RowKit Go.Lib Go.Sort
variable {P : Program} {ρ : Ren} {α : Type} [Inhabited α]

variable {k : Nat} {enc : α → List Value} {cf : α → α → Int} {g : Nat} {u : Value} {blk off : Nat} {d0 : Array α} {w0 : World}
theorem sift_leaf (lt : α → α → Bool) (hi first r : Nat) (d : Array α) (h : hi ≤ 2 * r + 1) : siftDown lt hi first r d = d := by
  rw [siftDown, dif_pos h]
/-- The greater one of what lies below r. -/
def Pick (lt : α → α → Bool) (hi first r e : Nat) (d : Array α) : Prop :=
  (e = 2 * r + 2 ∧ e < hi ∧ lt d[first + (2 * r + 1)]! d[first + (2 * r + 1) + 1]! = true) ∨ (e = 2 * r + 1 ∧ e < hi ∧ (2 * r + 2 < hi → lt d[first + (2 * r + 1)]! d[first + (2 * r + 1) + 1]! = false))
theorem sift_pick (lt : α → α → Bool) (hi first r e : Nat) (d : Array α) (h : Pick lt hi first r e d) :
    siftDown lt hi first r d = if lt d[first + r]! d[first + e]! then siftDown lt hi first e (swp d (first + r) (first + e)) else d := by
  rw [siftDown]
  rcases h with ⟨rfl, h1, h2⟩ | ⟨rfl, h1, h2⟩
  · rw [dif_neg (by omega), h2]
    have hb : (decide (2 * r + 1 + 1 < hi) && true) = true := by simp; omega
    rw [if_pos hb]
    cases lt d[first + r]! d[first + (2 * r + 2)]!
    · rfl
    · rw [dif_pos h1]; rfl
  · rw [dif_neg (by omega)]
    by_cases hh : 2 * r + 2 < hi
    · rw [h2 hh, if_neg (by simp)]
      cases lt d[first + r]! d[first + (2 * r + 1)]! <;> rfl
    · have hb : ¬ (decide (2 * r + 1 + 1 < hi) && lt d[first + (2 * r + 1)]! d[first + (2 * r + 1) + 1]!) = true := by simp; omega
      rw [if_neg hb]
      cases lt d[first + r]! d[first + (2 * r + 1)]! <;> rfl
set_option maxHeartbeats 8000000 in
set_option maxRecDepth 1000000 in
theorem siftM (L : SlLaysF0.n46 P ρ) (F : FamM P ρ k enc cf g u blk off d0 w0) (cap lo hi first : Nat) (d : Array α) (W : World) (hs : d0.size = d.size) (S : SWK enc k w0 blk off d W) (hlo : lo ≤ hi) (hhi : first + hi ≤ d.size) (hsz : d.size < 4611686018427387904) :
    Calls P (ρ.f 46) #[.slice (some ⟨blk, off, none⟩) d.size cap, .int .i64 lo, .int .i64 hi, .int .i64 first, .func (.func g) #[u] #[]] W fun e w' =>
      e = .returned (.tuple #[]) ∧ SWK enc k w0 blk off (siftDown (ltOf cf) hi first lo d) w' := by
  have mixed := L.mixed; have t0 := L.t0; have a0 := L.a0; have z0 := L.z0; have v0 := L.v0; have t3 := L.t3; have a3 := L.a3; have z3 := L.z3; have v3 := L.v3; have t4 := L.t4; have a4 := L.a4; have z4 := L.z4; have v4 := L.v4; have t22 := L.t22; have a22 := L.a22; have z22 := L.z22; have v22 := L.v22; have t25 := L.t25; have a25 := L.a25; have z25 := L.z25; have v25 := L.v25
  obtain ⟨_, _, FG⟩ := L.f46
  obtain ⟨aE, zE, eg, hcmp, R⟩ := F
  have HC := Lib.hid hcmp
  have S0 := Lib.hid S
  clear hcmp S
  go_enter FG, SlBodyF.n46_ntmps ρ
  go_wp2
  go_loopw [10] (fun vr wr => ∃ (r : Nat) (dj : Array α), vr = .int .i64 r ∧ r ≤ hi ∧ dj.size = d.size ∧ Hid (SWK enc k w0 blk off dj wr) ∧ Hid (siftDown (ltOf cf) hi first r dj = siftDown (ltOf cf) hi first lo d)) (fun vr _ => hi - (intOf vr).toNat)
  case atStart => exact ⟨lo, d, rfl, hlo, rfl, S0, Lib.hid rfl⟩
  case round =>
    clear S0
    obtain ⟨r, dj, rfl, hr, hsj, SJ, HJ⟩ := hrel
    obtain ⟨r2, hr2⟩ : ∃ r2, r2 = 2 * r := ⟨_, rfl⟩
    obtain ⟨c, hcc⟩ : ∃ c, c = 2 * r + 1 := ⟨_, rfl⟩
    have e1 : (2 : Int) * (r : Int) = (r2 : Int) := by omega
    have e2 : (r2 : Int) + 1 = (c : Int) := by omega
    have e3 : IntKind.i64.wrap (r2 : Int) = (r2 : Int) := by rw [IntKind.wrap_i64]; omega
    have e4 : IntKind.i64.wrap (c : Int) = (c : Int) := by rw [IntKind.wrap_i64]; omega
    have HR2 := Lib.hid hr2
    by_cases hch : c < hi
    · have gg : ¬ (hi : Int) ≤ (c : Int) := by omega
      obtain ⟨c1, hc1⟩ : ∃ c1, c1 = c + 1 := ⟨_, rfl⟩
      obtain ⟨p, hp⟩ : ∃ p, p = first + c := ⟨_, rfl⟩
      obtain ⟨q, hq⟩ : ∃ q, q = first + r := ⟨_, rfl⟩
      have e5 : (c : Int) + 1 = (c1 : Int) := by omega
      have e6 : IntKind.i64.wrap (c1 : Int) = (c1 : Int) := by rw [IntKind.wrap_i64]; omega
      have e7 : (first : Int) + (c : Int) = (p : Int) := by omega
      have e8 : (first : Int) + (r : Int) = (q : Int) := by omega
      have HQ := Lib.hid hq.symm
      have p_p : (0 : Int) ≤ (p : Int) := by omega
      have p_u : (p : Int) < (d.size : Int) := by omega
      have p_n : ((p : Int)).toNat = p := by omega
      have p_w : IntKind.i64.wrap (p : Int) = (p : Int) := by rw [IntKind.wrap_i64]; omega
      have q_p : (0 : Int) ≤ (q : Int) := by omega
      have q_u : (q : Int) < (d.size : Int) := by omega
      have q_n : ((q : Int)).toNat = q := by omega
      have q_w : IntKind.i64.wrap (q : Int) = (q : Int) := by rw [IntKind.wrap_i64]; omega
      by_cases hc2 : c1 < hi
      · obtain ⟨p1, hp1⟩ : ∃ p1, p1 = p + 1 := ⟨_, rfl⟩
        have e9 : (p : Int) + 1 = (p1 : Int) := by omega
        have e10 : (first : Int) + (c1 : Int) = (p1 : Int) := by omega
        have gg2 : decide ((c1 : Int) < (hi : Int)) = true := decide_eq_true (by omega)
        have p1_p : (0 : Int) ≤ (p1 : Int) := by omega
        have p1_u : (p1 : Int) < (d.size : Int) := by omega
        have p1_n : ((p1 : Int)).toNat = p1 := by omega
        have p1_w : IntKind.i64.wrap (p1 : Int) = (p1 : Int) := by rw [IntKind.wrap_i64]; omega
        obtain ⟨x, hx⟩ : ∃ x, x = dj[p]! := ⟨_, rfl⟩
        obtain ⟨y, hy⟩ : ∃ y, y = dj[p1]! := ⟨_, rfl⟩
        have lx := SJ.out.ld R (by omega) P p (by omega)
        have ly := SJ.out.ld R (by omega) P p1 (by omega)
        rw [← hx] at lx
        rw [← hy] at ly
        have hc := cmpM SJ.out HC.out (by omega) x y
        have HX := Lib.hid hx
        have HY := Lib.hid hy
        clear hx hy
        have HCc := Lib.hid (show c = 2 * r + 1 from hcc)
        have HC1 := Lib.hid (show c1 = c + 1 from hc1)
        have HPp := Lib.hid (show p = first + c from hp)
        have HP1 := Lib.hid (show p1 = p + 1 from hp1)
        clear hcc hc1 hp hp1 hr2 hq
        cases hl : ltOf cf x y
        · have HP := Lib.hid (show Pick (ltOf cf) hi first r c dj from Or.inr ⟨HCc.out, hch, fun _ => by
            rw [← HCc.out, ← HPp.out, ← HP1.out, ← HX.out, ← HY.out]; exact hl⟩)
          have HE := Lib.hid (HPp.out.symm)
          clear HX HY
          have hd : decide (cf x y < 0) = false := hl
          clear hl
          go_wp2_with fail
          go_quiet_grown (first | (go_at_fn g; refine Calls.grown_of (hc _ _)))
          have SU := Lib.hid (SJ.out.grown nq osq)
          clear lx ly hc SJ hd
          generalize grow (wr.drewN nq) osq = wu at * 
          clear nq osq
          go_wp2_with fail
          have hrc : r < c := by have := HCc.out; omega
          have HS2 := Lib.hid (show siftDown (ltOf cf) hi first lo d = if ltOf cf dj[q]! dj[p]! then siftDown (ltOf cf) hi first c (swp dj q p) else dj by
            rw [← HJ.out, sift_pick (ltOf cf) hi first r c dj HP.out, HQ.out, HE.out])
          clear HJ HP
          obtain ⟨x2, hx⟩ : ∃ x, x = dj[q]! := ⟨_, rfl⟩
          obtain ⟨y2, hy⟩ : ∃ y, y = dj[p]! := ⟨_, rfl⟩
          have lx := SU.out.ld R (by omega) P q (by omega)
          have ly := SU.out.ld R (by omega) P p (by omega)
          rw [← hx] at lx
          rw [← hy] at ly
          have hc := cmpM SU.out HC.out (by omega) x2 y2
          have HX := Lib.hid hx
          have HY := Lib.hid hy
          clear hx hy
          cases hl : ltOf cf x2 y2
          · have HF := Lib.hid (show dj = siftDown (ltOf cf) hi first lo d by
              have := HS2.out
              rw [← HX.out, ← HY.out, hl] at this
              exact this.symm)
            have hd : decide (cf x2 y2 < 0) = false := hl
            clear hl
            go_wp2_with fail
            go_quiet_grown (first | (go_at_fn g; refine Calls.grown_of (hc _ _)))
            have SV := Lib.hid (SU.out.grown nq osq)
            clear lx ly hc SU hd
            generalize grow (wu.drewN nq) osq = wv at * 
            clear nq osq
            go_wp2
            (try simp only [Exit.inBlock, Exit.then]); refine bodyPost_ret (results_none rfl _ _ _) rfl ?_
            exact ⟨rfl, by rw [← HF.out]; exact SV.out⟩
          · have HF := Lib.hid (show siftDown (ltOf cf) hi first c (swp dj q p) = siftDown (ltOf cf) hi first lo d by
              have := HS2.out
              rw [← HX.out, ← HY.out, hl] at this
              exact this.symm)
            have hd : decide (cf x2 y2 < 0) = true := hl
            clear hl
            go_wp2_with fail
            go_quiet_grown (first | (go_at_fn g; refine Calls.grown_of (hc _ _)))
            have SV := Lib.hid (SU.out.grown nq osq)
            clear lx ly hc SU hd
            generalize grow (wu.drewN nq) osq = wv at * 
            clear nq osq
            have SW := Lib.hid (SV.out.swapped R q p (by omega) (by omega))
            have l1 := SV.out.ld1 R (by omega) P q (by omega)
            have l2 := SV.out.ld1 R (by omega) P p (by omega)
            have s1 := SV.out.st1 R (by omega) P q (by omega) dj[p]!
            have s2 := SV.out.st2 R (by omega) P q p (by omega) (by omega) dj[p]! dj[q]!
            have n1 : (enc dj[q]!).length = k := R.hk _
            have n2 : (enc dj[p]!).length = k := R.hk _
            generalize enc dj[q]! = cI at SW l1 s2 n1
            generalize enc dj[p]! = cJ at SW l2 s1 s2 n2
            clear SV
            go_wp2_with fail
            go_big_region_o
            clear l1 l2 s1 s2 n1 n2
            generalize (wv.drew.setCells blk (off + q * k) cJ).setCells blk (off + p * k) cI = wz at SW ⊢
            go_wp2
            refine ⟨⟨c, swp dj q p, by go_num, by omega, by rw [size_swp]; exact hsj, SW, HF⟩, by simp [intOf]; omega⟩
        · have HP := Lib.hid (show Pick (ltOf cf) hi first r c1 dj from Or.inl ⟨by have := HCc.out; have := HC1.out; omega, hc2, by
            rw [← HCc.out, ← HPp.out, ← HP1.out, ← HX.out, ← HY.out]; exact hl⟩)
          have HE := Lib.hid (show first + c1 = p1 by have := HPp.out; have := HP1.out; have := HC1.out; omega)
          clear HX HY
          have hd : decide (cf x y < 0) = true := hl
          clear hl
          go_wp2_with fail
          go_quiet_grown (first | (go_at_fn g; refine Calls.grown_of (hc _ _)))
          have SU := Lib.hid (SJ.out.grown nq osq)
          clear lx ly hc SJ hd
          generalize grow (wr.drewN nq) osq = wu at * 
          clear nq osq
          go_wp2_with fail
          have hrc : r < c1 := by have := HCc.out; have := HC1.out; omega
          have HS2 := Lib.hid (show siftDown (ltOf cf) hi first lo d = if ltOf cf dj[q]! dj[p1]! then siftDown (ltOf cf) hi first c1 (swp dj q p1) else dj by
            rw [← HJ.out, sift_pick (ltOf cf) hi first r c1 dj HP.out, HQ.out, HE.out])
          clear HJ HP
          obtain ⟨x2, hx⟩ : ∃ x, x = dj[q]! := ⟨_, rfl⟩
          obtain ⟨y2, hy⟩ : ∃ y, y = dj[p1]! := ⟨_, rfl⟩
          have lx := SU.out.ld R (by omega) P q (by omega)
          have ly := SU.out.ld R (by omega) P p1 (by omega)
          rw [← hx] at lx
          rw [← hy] at ly
          have hc := cmpM SU.out HC.out (by omega) x2 y2
          have HX := Lib.hid hx
          have HY := Lib.hid hy
          clear hx hy
          cases hl : ltOf cf x2 y2
          · have HF := Lib.hid (show dj = siftDown (ltOf cf) hi first lo d by
              have := HS2.out
              rw [← HX.out, ← HY.out, hl] at this
              exact this.symm)
            have hd : decide (cf x2 y2 < 0) = false := hl
            clear hl
            go_wp2_with fail
            go_quiet_grown (first | (go_at_fn g; refine Calls.grown_of (hc _ _)))
            have SV := Lib.hid (SU.out.grown nq osq)
            clear lx ly hc SU hd
            generalize grow (wu.drewN nq) osq = wv at * 
            clear nq osq
            go_wp2
            (try simp only [Exit.inBlock, Exit.then]); refine bodyPost_ret (results_none rfl _ _ _) rfl ?_
            exact ⟨rfl, by rw [← HF.out]; exact SV.out⟩
          · have HF := Lib.hid (show siftDown (ltOf cf) hi first c1 (swp dj q p1) = siftDown (ltOf cf) hi first lo d by
              have := HS2.out
              rw [← HX.out, ← HY.out, hl] at this
              exact this.symm)
            have hd : decide (cf x2 y2 < 0) = true := hl
            clear hl
            go_wp2_with fail
            go_quiet_grown (first | (go_at_fn g; refine Calls.grown_of (hc _ _)))
            have SV := Lib.hid (SU.out.grown nq osq)
            clear lx ly hc SU hd
            generalize grow (wu.drewN nq) osq = wv at * 
            clear nq osq
            have SW := Lib.hid (SV.out.swapped R q p1 (by omega) (by omega))
            have l1 := SV.out.ld1 R (by omega) P q (by omega)
            have l2 := SV.out.ld1 R (by omega) P p1 (by omega)
            have s1 := SV.out.st1 R (by omega) P q (by omega) dj[p1]!
            have s2 := SV.out.st2 R (by omega) P q p1 (by omega) (by omega) dj[p1]! dj[q]!
            have n1 : (enc dj[q]!).length = k := R.hk _
            have n2 : (enc dj[p1]!).length = k := R.hk _
            generalize enc dj[q]! = cI at SW l1 s2 n1
            generalize enc dj[p1]! = cJ at SW l2 s1 s2 n2
            clear SV
            go_wp2_with fail
            go_big_region_o
            clear l1 l2 s1 s2 n1 n2
            generalize (wv.drew.setCells blk (off + q * k) cJ).setCells blk (off + p1 * k) cI = wz at SW ⊢
            go_wp2
            refine ⟨⟨c1, swp dj q p1, by go_num, by omega, by rw [size_swp]; exact hsj, SW, HF⟩, by simp [intOf]; omega⟩
      · have HP := Lib.hid (show Pick (ltOf cf) hi first r c dj from Or.inr ⟨hcc, hch, fun _ => by omega⟩)
        have HE := Lib.hid hp.symm
        have gg2 : decide ((c1 : Int) < (hi : Int)) = false := decide_eq_false (by omega)
        have hrc : r < c := by omega
        clear hcc hc1 hp hr2 hq
        go_wp2_with fail
        go_big_region_o
        have SU := Lib.hid SJ.out.drew
        clear SJ
        generalize wr.drew = wu at SU ⊢
        go_wp2_with fail
        have HS2 := Lib.hid (show siftDown (ltOf cf) hi first lo d = if ltOf cf dj[q]! dj[p]! then siftDown (ltOf cf) hi first c (swp dj q p) else dj by
          rw [← HJ.out, sift_pick (ltOf cf) hi first r c dj HP.out, HQ.out, HE.out])
        clear HJ HP
        obtain ⟨x2, hx⟩ : ∃ x, x = dj[q]! := ⟨_, rfl⟩
        obtain ⟨y2, hy⟩ : ∃ y, y = dj[p]! := ⟨_, rfl⟩
        have lx := SU.out.ld R (by omega) P q (by omega)
        have ly := SU.out.ld R (by omega) P p (by omega)
        rw [← hx] at lx
        rw [← hy] at ly
        have hc := cmpM SU.out HC.out (by omega) x2 y2
        have HX := Lib.hid hx
        have HY := Lib.hid hy
        clear hx hy
        cases hl : ltOf cf x2 y2
        · have HF := Lib.hid (show dj = siftDown (ltOf cf) hi first lo d by
            have := HS2.out
            rw [← HX.out, ← HY.out, hl] at this
            exact this.symm)
          have hd : decide (cf x2 y2 < 0) = false := hl
          clear hl
          go_wp2_with fail
          go_quiet_grown (first | (go_at_fn g; refine Calls.grown_of (hc _ _)))
          have SV := Lib.hid (SU.out.grown nq osq)
          clear lx ly hc SU hd
          generalize grow (wu.drewN nq) osq = wv at * 
          clear nq osq
          go_wp2
          (try simp only [Exit.inBlock, Exit.then]); refine bodyPost_ret (results_none rfl _ _ _) rfl ?_
          exact ⟨rfl, by rw [← HF.out]; exact SV.out⟩
        · have HF := Lib.hid (show siftDown (ltOf cf) hi first c (swp dj q p) = siftDown (ltOf cf) hi first lo d by
            have := HS2.out
            rw [← HX.out, ← HY.out, hl] at this
            exact this.symm)
          have hd : decide (cf x2 y2 < 0) = true := hl
          clear hl
          go_wp2_with fail
          go_quiet_grown (first | (go_at_fn g; refine Calls.grown_of (hc _ _)))
          have SV := Lib.hid (SU.out.grown nq osq)
          clear lx ly hc SU hd
          generalize grow (wu.drewN nq) osq = wv at * 
          clear nq osq
          have SW := Lib.hid (SV.out.swapped R q p (by omega) (by omega))
          have l1 := SV.out.ld1 R (by omega) P q (by omega)
          have l2 := SV.out.ld1 R (by omega) P p (by omega)
          have s1 := SV.out.st1 R (by omega) P q (by omega) dj[p]!
          have s2 := SV.out.st2 R (by omega) P q p (by omega) (by omega) dj[p]! dj[q]!
          have n1 : (enc dj[q]!).length = k := R.hk _
          have n2 : (enc dj[p]!).length = k := R.hk _
          generalize enc dj[q]! = cI at SW l1 s2 n1
          generalize enc dj[p]! = cJ at SW l2 s1 s2 n2
          clear SV
          go_wp2_with fail
          go_big_region_o
          clear l1 l2 s1 s2 n1 n2
          generalize (wv.drew.setCells blk (off + q * k) cJ).setCells blk (off + p * k) cI = wz at SW ⊢
          go_wp2
          refine ⟨⟨c, swp dj q p, by go_num, by omega, by rw [size_swp]; exact hsj, SW, HF⟩, by simp [intOf]; omega⟩
    · have gg : (hi : Int) ≤ (c : Int) := by omega
      have HF := Lib.hid (show dj = siftDown (ltOf cf) hi first lo d by
        rw [← HJ.out, sift_leaf _ _ _ _ _ (by omega)])
      clear hcc hr2
      go_wp2
      go_end0
      exact ⟨rfl, by rw [← HF.out]; exact SJ.out⟩
end Go.Proofs.Ytaghophkfogdgaa
