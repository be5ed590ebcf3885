/- The library's pdqsort of structs under a method's value. Conditions: what the words say. -/
import Derived.Test.YtaghophkfogdgaaVf
import Derived.Test.YtaghophkfogdgaaVh
import Derived.Test.YtaghophkfogdgaaVi
import Derived.Test.YtaghophkfogdgaaVk
import Derived.Test.YtaghophkfogdgaaVl
import Derived.Test.YtaghophkfogdgaaVm
import Derived.Deep.LoopGhost
import Derived.Deep.DeepCutAuto
namespace Go.Proofs.Ytaghophkfogdgaa
open Go.Shelf Go.RowKit Go.Lib Go.Sort
variable {P : Program} {ρ : Ren} {α : Type} [Inhabited α]

variable {k : Nat} {enc : α → List Value} {cf : α → α → Int} {g : Nat} {u : Value} {blk off : Nat} {d0 : Array α} {w0 : World}
/-- What is sorted between a and b, of whatever d' that is d between them, is sorted from d. -/
def Onto (lt : α → α → Bool) (a b : Nat) (d : Array α) (a' b' : Nat) (d' : Array α) : Prop := ∀ R, PermIn a' b' d' R → SortedIn lt a' b' R → PermIn a b d R ∧ SortedIn lt a b R
theorem Onto.perm {lt : α → α → Bool} {a b a' b' : Nat} {d d1 d2 : Array α} (h : Onto lt a b d a' b' d1) (hp : PermIn a' b' d1 d2) : Onto lt a b d a' b' d2 :=
  fun R h1 h2 => h R (permIn_trans d1 d2 R a' b' hp h1) h2
set_option maxHeartbeats 8000000 in
set_option maxRecDepth 1000000 in
theorem pdqM (L : SlLaysF0.n14 P ρ) (F : FamM P ρ k enc cf g u blk off d0 w0) (hO : SWO (ltOf cf)) (cap size : Nat) (hsz0 : d0.size = size) (hsz : size < 4611686018427387904) :
    ∀ (N a b lim : Nat) (d : Array α) (W : World), b - a < N → d.size = size → SWK enc k w0 blk off d W → a ≤ b → b ≤ size → lim < 4611686018427387904 → Below (ltOf cf) a b d →
    Calls P (ρ.f 14) #[.slice (some ⟨blk, off, none⟩) size cap, .int .i64 a, .int .i64 b, .int .i64 lim, .func (.func g) #[u] #[]] W fun e w' =>
      e = .returned (.tuple #[]) ∧ ∃ d', PermIn a b d d' ∧ SortedIn (ltOf cf) a b d' ∧ SWK enc k w0 blk off d' w' := by
  have mixed := L.mixed; have t0 := L.t0; have a0 := L.a0; have z0 := L.z0; have v0 := L.v0; have t3 := L.t3; have a3 := L.a3; have z3 := L.z3; have v3 := L.v3; have t4 := L.t4; have a4 := L.a4; have z4 := L.z4; have v4 := L.v4; have t5 := L.t5; have a5 := L.a5; have z5 := L.z5; have v5 := L.v5; have t9 := L.t9; have a9 := L.a9; have z9 := L.z9; have v9 := L.v9; have t22 := L.t22; have a22 := L.a22; have z22 := L.z22; have v22 := L.v22; have t25 := L.t25; have a25 := L.a25; have z25 := L.z25; have v25 := L.v25; have t39 := L.t39; have a39 := L.a39; have z39 := L.z39; have v39 := L.v39; have t45 := L.t45; have a45 := L.a45; have z45 := L.z45; have v45 := L.v45; have t46 := L.t46; have a46 := L.a46; have z46 := L.z46; have v46 := L.v46; have t50 := L.t50; have a50 := L.a50; have z50 := L.z50; have v50 := L.v50; have t53 := L.t53; have a53 := L.a53; have z53 := L.z53; have v53 := L.v53; have t55 := L.t55; have a55 := L.a55; have z55 := L.z55; have v55 := L.v55; have t66 := L.t66; have a66 := L.a66; have z66 := L.z66; have v66 := L.v66; have t70 := L.t70; have a70 := L.a70; have z70 := L.z70; have v70 := L.v70; have t76 := L.t76; have a76 := L.a76; have z76 := L.z76; have v76 := L.v76; have t77 := L.t77; have a77 := L.a77; have z77 := L.z77; have v77 := L.v77
  obtain ⟨_, _, FG⟩ := L.f14
  have e20 : ∀ args w, (callFunc (ρ.f 20) args).run P w = .ok (.enter (ρ.f 20) args) w := L.f20.enters rfl
  have e21 : ∀ args w, (callFunc (ρ.f 21) args).run P w = .ok (.enter (ρ.f 21) args) w := L.f21.enters rfl
  have e22 : ∀ args w, (callFunc (ρ.f 22) args).run P w = .ok (.enter (ρ.f 22) args) w := L.f22.enters rfl
  have e23 : ∀ args w, (callFunc (ρ.f 23) args).run P w = .ok (.enter (ρ.f 23) args) w := L.f23.enters rfl
  have e24 : ∀ args w, (callFunc (ρ.f 24) args).run P w = .ok (.enter (ρ.f 24) args) w := L.f24.enters rfl
  have e25 : ∀ args w, (callFunc (ρ.f 25) args).run P w = .ok (.enter (ρ.f 25) args) w := L.f25.enters rfl
  have e26 : ∀ args w, (callFunc (ρ.f 26) args).run P w = .ok (.enter (ρ.f 26) args) w := L.f26.enters rfl
  have e27 : ∀ args w, (callFunc (ρ.f 27) args).run P w = .ok (.enter (ρ.f 27) args) w := L.f27.enters rfl
  have e14 : ∀ args w, (callFunc (ρ.f 14) args).run P w = .ok (.enter (ρ.f 14) args) w := L.f14.enters rfl
  have CI := Lib.hid (fun (W : World) (x : Array α) (a b : Nat) (hx : x.size = size) (S : SWK enc k w0 blk off x W) (hab : a ≤ b) (hb : b ≤ size) => (show Calls P (ρ.f 20) #[.slice (some ⟨blk, off, none⟩) size cap, .int .i64 a, .int .i64 b, .func (.func g) #[u] #[]] W _ from hx ▸ insertM (P := P) (ρ := ρ) { L with } k F.agg F.cells enc cf g u blk off cap a b d0 x w0 W F.ent F.cmp F.row (by omega) S hab (by omega) (by omega)))
  have CH := Lib.hid (fun (W : World) (x : Array α) (a b : Nat) (hx : x.size = size) (S : SWK enc k w0 blk off x W) (hab : a < b) (hb : b ≤ size) => (show Calls P (ρ.f 21) #[.slice (some ⟨blk, off, none⟩) size cap, .int .i64 a, .int .i64 b, .func (.func g) #[u] #[]] W _ from hx ▸ heapM (P := P) (ρ := ρ) { L with } F cap a b x W (by omega) S hab (by omega) (by omega)))
  have CB := Lib.hid (fun (W : World) (x : Array α) (a b : Nat) (hx : x.size = size) (S : SWK enc k w0 blk off x W) (hab : 8 ≤ b - a) (hb : b ≤ size) => (show Calls P (ρ.f 22) #[.slice (some ⟨blk, off, none⟩) size cap, .int .i64 a, .int .i64 b, .func (.func g) #[u] #[]] W _ from hx ▸ breakM (P := P) (ρ := ρ) { L with } F cap a b x W (by omega) S hab (by omega) (by omega)))
  have CV := Lib.hid (fun (W : World) (x : Array α) (a b : Nat) (hx : x.size = size) (S : SWK enc k w0 blk off x W) (hab : a < b) (hb : b ≤ size) => (show Calls P (ρ.f 23) #[.slice (some ⟨blk, off, none⟩) size cap, .int .i64 a, .int .i64 b, .func (.func g) #[u] #[]] W _ from hx ▸ pivotM (P := P) (ρ := ρ) { L with } F cap a b x W (by omega) S hab (by omega) (by omega)))
  have CR := Lib.hid (fun (W : World) (x : Array α) (a b : Nat) (hx : x.size = size) (S : SWK enc k w0 blk off x W) (hab : a < b) (hb : b ≤ size) => (show Calls P (ρ.f 24) #[.slice (some ⟨blk, off, none⟩) size cap, .int .i64 a, .int .i64 b, .func (.func g) #[u] #[]] W _ from hx ▸ revM (P := P) (ρ := ρ) { L with } F cap a b x W (by omega) S hab (by omega) (by omega)))
  have CS := Lib.hid (fun (W : World) (x : Array α) (a b : Nat) (hx : x.size = size) (S : SWK enc k w0 blk off x W) (hab : a < b) (hb : b ≤ size) => (show Calls P (ρ.f 25) #[.slice (some ⟨blk, off, none⟩) size cap, .int .i64 a, .int .i64 b, .func (.func g) #[u] #[]] W _ from hx ▸ pinsM (P := P) (ρ := ρ) { L with } F cap a b x W (by omega) S hab (by omega) (by omega)))
  have CE := Lib.hid (fun (W : World) (x : Array α) (a b pv : Nat) (hx : x.size = size) (S : SWK enc k w0 blk off x W) (hab : a < b) (hb : b ≤ size) (hpv : pv < b) => (show Calls P (ρ.f 26) #[.slice (some ⟨blk, off, none⟩) size cap, .int .i64 a, .int .i64 b, .int .i64 pv, .func (.func g) #[u] #[]] W _ from hx ▸ parEM (P := P) (ρ := ρ) { L with } F cap a b pv x W (by omega) S hab (by omega) hpv (by omega)))
  have CP := Lib.hid (fun (W : World) (x : Array α) (a b pv : Nat) (hx : x.size = size) (S : SWK enc k w0 blk off x W) (hab : a < b) (hb : b ≤ size) (hpv : pv < b) => (show Calls P (ρ.f 27) #[.slice (some ⟨blk, off, none⟩) size cap, .int .i64 a, .int .i64 b, .int .i64 pv, .func (.func g) #[u] #[]] W _ from hx ▸ partM (P := P) (ρ := ρ) { L with } F cap a b pv x W (by omega) S hab (by omega) hpv (by omega)))
  obtain ⟨aE, zE, eg, hcmp, R⟩ := F
  have HC := Lib.hid hcmp
  clear hcmp
  intro N
  induction N with
  | zero => intro _ _ _ _ _ h; exact absurd h (Nat.not_lt_zero _)
  | succ N ih =>
    intro a b lim d W hN hds S hab hb hlim hBel
    subst hds
    have IH := Lib.hid ih
    have S0 := Lib.hid S
    have HB0 := Lib.hid hBel
    have HK0 := Lib.hid (show Onto (ltOf cf) a b d a b d from fun _ h1 h2 => ⟨h1, h2⟩)
    clear ih S hBel
    go_enter FG, SlBodyF.n14_ntmps ρ
    go_wp2
    go_loopg [1, 2, 3, 10, 11] (b - a) (fun gk s1 s2 s3 s10 s11 wr => ∃ (a' b' l0 : Nat) (wb wp : Bool) (dk : Array α), s1 = .int .i64 a' ∧ s2 = .int .i64 b' ∧ s3 = .int .i64 l0 ∧ s10 = .bool wb ∧ s11 = .bool wp ∧
      a' ≤ b' ∧ b' ≤ d.size ∧ b' - a' ≤ gk ∧ gk ≤ b - a ∧ l0 < 4611686018427387904 ∧ dk.size = d.size ∧ Hid (SWK enc k w0 blk off dk wr) ∧ Hid (Below (ltOf cf) a' b' dk) ∧ Hid (Onto (ltOf cf) a b d a' b' dk))
    case atStart => exact ⟨a, b, lim, true, true, d, rfl, rfl, rfl, rfl, rfl, hab, hb, Nat.le_refl _, Nat.le_refl _, hlim, rfl, S0, HB0, HK0⟩
    case round =>
      clear S0 HB0 HK0
      obtain ⟨a', b', lk, wb, wp, dk, rfl, rfl, rfl, rfl, rfl, hab', hb', hgk, hgn, hlk, hsk, SK, HB, HK⟩ := hrel
      obtain ⟨n, hn⟩ : ∃ n, n = b' - a' := ⟨_, rfl⟩
      have e1 : (b' : Int) - (a' : Int) = (n : Int) := by omega
      have f1 : IntKind.i64.wrap (n : Int) = (n : Int) := by rw [IntKind.wrap_i64]; omega
      have n1 : a' + n ≤ b' := by omega
      have n2 : b' ≤ a' + n := by omega
      clear hn
      by_cases h12 : n ≤ 12
      · have g12 : (n : Int) ≤ 12 := by omega
        have hi := insertionSort_holds hO dk a' b' hab' (by omega)
        have HI := Lib.hid (HK.out _ hi.1 hi.2)
        have HCI := Lib.hid (CI.out wr dk a' b' hsk SK.out hab' hb')
        clear hi
        go_wp2_with (go_at_fn (ρ.f 20); refine HCI.out.mono ?_; rintro e w1 ⟨rfl, S1⟩)
        (try simp only [Exit.inBlock, Exit.then]); refine bodyPost_ret (results_none rfl _ _ _) rfl ?_
        exact ⟨rfl, _, HI.out.1, HI.out.2, S1⟩
      · have g12 : ¬ (n : Int) ≤ 12 := by omega
        by_cases hl0 : lk = 0
        · subst hl0
          have hi := heapSort_holds hO dk a' b' hab' (by omega)
          have HI := Lib.hid (HK.out _ hi.1 hi.2)
          have HCI := Lib.hid (CH.out wr dk a' b' hsk SK.out (by omega) hb')
          clear hi
          go_wp2_with (go_at_fn (ρ.f 21); refine HCI.out.mono ?_; rintro e w1 ⟨rfl, S1⟩)
          (try simp only [Exit.inBlock, Exit.then]); refine bodyPost_ret (results_none rfl _ _ _) rfl ?_
          exact ⟨rfl, _, HI.out.1, HI.out.2, S1⟩
        · have gl0 : ((lk : Int) == 0) = false := by simp; omega
          have gl1 : ¬ (lk : Int) = 0 := by omega
          go_upto_if 39 with fail
          go_cut [3] from 21 to 147 (fun s3 wx => ∃ (l0 : Nat) (d1 : Array α), s3 = .int .i64 l0 ∧ l0 < 4611686018427387904 ∧ d1.size = d.size ∧ Hid (SWK enc k w0 blk off d1 wx) ∧ Hid (Below (ltOf cf) a' b' d1) ∧ Hid (Onto (ltOf cf) a b d a' b' d1))
          case first =>
            cases wb
            · have HCB := Lib.hid (CB.out wr dk a' b' hsk SK.out (by omega) hb')
              have hl1 : (lk : Int) - 1 = ((lk - 1 : Nat) : Int) := by omega
              go_wp2_with (go_at_fn (ρ.f 22); refine HCB.out.mono ?_; rintro e w1 ⟨rfl, d1, hp1, S1⟩)
              go_meet
              exact ⟨lk - 1, d1, by first | rfl | go_num | (congr 1; omega), by omega, by have := hp1.1; omega, Lib.hid S1, Lib.hid (HB.out.perm (by omega) hp1), Lib.hid (HK.out.perm hp1)⟩
            · go_wp2_with fail
              go_meet
              exact ⟨lk, dk, rfl, hlk, hsk, SK, HB, HK⟩
          case rest =>
            clear SK HB HK hsk
            obtain ⟨l0, d1, rfl, hl0b, hs1, S1, HB1, HK1⟩ := hcut
            obtain ⟨⟨c, ch⟩, hcc⟩ : ∃ x, x = choosePivot (ltOf cf) d1 a' b' := ⟨_, rfl⟩
            have hcr := choosePivot_holds (ltOf cf) d1 a' b' (by omega)
            rw [← hcc] at hcr
            have hc1 : a' ≤ c := hcr.1
            have hc2 : c < b' := hcr.2
            have hcv := CV.out wc d1 a' b' hs1 S1.out (by omega) hb'
            rw [← hcc] at hcv
            have HCV := Lib.hid hcv
            clear hcr hcv hcc S1
            obtain ⟨hc, hhc⟩ : ∃ x, x = hintCode ch := ⟨_, rfl⟩
            rw [show hintCode (c, ch).2 = hc from hhc.symm] at HCV
            clear hhc
            go_upto_if 56 with (go_at_fn (ρ.f 23); refine HCV.out.mono ?_; rintro e w2 ⟨rfl, S2⟩)
            have S3 := Lib.hid S2
            clear S2 HCV
            go_cut [13, 14] from 21 to 147 (fun s13 s14 wx => ∃ (pv : Nat) (h2 : Int) (d2 : Array α), s13 = .int .i64 pv ∧ s14 = .int .i64 h2 ∧ a' ≤ pv ∧ pv < b' ∧ d2.size = d.size ∧ Hid (SWK enc k w0 blk off d2 wx) ∧ Hid (Below (ltOf cf) a' b' d2) ∧ Hid (Onto (ltOf cf) a b d a' b' d2))
            case first =>
              by_cases h2 : hc = 2
              · subst h2
                have HCR := Lib.hid (CR.out w2 d1 a' b' hs1 S3.out (by omega) hb')
                have hp2 := reverseRange_holds d1 a' b' hab' (by omega)
                obtain ⟨pv, hpv⟩ : ∃ x, x = (b' - 1) - (c - a') := ⟨_, rfl⟩
                have q1 : (b' : Int) - 1 - ((c : Int) - (a' : Int)) = (pv : Int) := by omega
                have q2 : a' ≤ pv := by omega
                have q3 : pv < b' := by omega
                have HP2 := Lib.hid hp2
                clear hpv hp2
                go_wp2_with (go_at_fn (ρ.f 24); refine HCR.out.mono ?_; rintro e w3 ⟨rfl, S4⟩)
                go_meet
                exact ⟨pv, 1, _, by first | rfl | go_num | (congr 1; omega), rfl, q2, q3, by have := HP2.out.1; omega, Lib.hid S4, Lib.hid (HB1.out.perm (by omega) HP2.out), Lib.hid (HK1.out.perm HP2.out)⟩
              · have gh : (hc == 2) = false := by simp [h2]
                go_wp2_with fail
                go_meet
                exact ⟨c, hc, d1, rfl, rfl, hc1, hc2, hs1, S3, HB1, HK1⟩
            case rest =>
              clear S3 HB1 HK1 hs1 hc1 hc2
              obtain ⟨pv, h2, d2, rfl, rfl, hpv1, hpv2, hs2, S2, HB2, HK2⟩ := hcut
              go_upto_region 15 with fail
              go_cut [75] from 21 to 147 (fun s75 wx => ∃ bb : Bool, s75 = .bool bb ∧ wx = wc)
              case first =>
                cases wb <;> cases wp <;> cases hh : (h2 == 1) <;>
                  (go_wp2_with fail
                   go_meet
                   exact ⟨_, rfl, rfl⟩)
              case rest =>
                obtain ⟨bb, rfl, rfl⟩ := hcut
                go_upto_if 75 with fail
                go_cut [] from 21 to 147 (fun wx => ∃ d3 : Array α, d3.size = d.size ∧ Hid (SWK enc k w0 blk off d3 wx) ∧ Hid (Below (ltOf cf) a' b' d3) ∧ Hid (Onto (ltOf cf) a b d a' b' d3))
                case first =>
                  cases bb
                  · go_wp2_with fail
                    go_meet
                    exact ⟨d2, hs2, S2, HB2, HK2⟩
                  · obtain ⟨d3, br, hd3⟩ : ∃ x y, partialInsertionSort (ltOf cf) d2 a' b' = (x, y) := ⟨_, _, rfl⟩
                    have hp := partialInsertionSort_holds hO d2 a' b' (by omega) (by omega) HB2.out
                    have hcs := CS.out wc d2 a' b' hs2 S2.out (by omega) hb'
                    rw [hd3] at hp hcs
                    have HPI := Lib.hid hp
                    have HCS := Lib.hid hcs
                    clear hp hcs hd3
                    cases br
                    · go_wp2_with (go_at_fn (ρ.f 25); refine HCS.out.mono ?_; rintro e w4 ⟨rfl, S4⟩)
                      go_meet
                      exact ⟨d3, by have := HPI.out.1.1; omega, Lib.hid S4, Lib.hid (HB2.out.perm (by omega) HPI.out.1), Lib.hid (HK2.out.perm HPI.out.1)⟩
                    · go_wp2_with (go_at_fn (ρ.f 25); refine HCS.out.mono ?_; rintro e w4 ⟨rfl, S4⟩)
                      (try simp only [Exit.inBlock, Exit.then]); refine bodyPost_ret (results_none rfl _ _ _) rfl ?_
                      exact ⟨rfl, d3, (HK2.out d3 HPI.out.1 (HPI.out.2 (by simp))).1, (HK2.out d3 HPI.out.1 (HPI.out.2 (by simp))).2, S4⟩
                case rest =>
                  clear S2 HB2 HK2 hs2
                  obtain ⟨d3, hs3, S3, HB3, HK3⟩ := hcut
                  by_cases ha0 : 0 < a'
                  · obtain ⟨am, ham⟩ : ∃ m, m = a' - 1 := ⟨_, rfl⟩
                    have am1 : (a' : Int) - 1 = (am : Int) := by omega
                    have gp0 : decide ((0 : Int) < (a' : Int)) = true := decide_eq_true (by omega)
                    have am_p : (0 : Int) ≤ (am : Int) := by omega
                    have am_u : (am : Int) < (d.size : Int) := by omega
                    have am_n : ((am : Int)).toNat = am := by omega
                    have am_w : IntKind.i64.wrap (am : Int) = (am : Int) := by rw [IntKind.wrap_i64]; omega
                    have pv_p : (0 : Int) ≤ (pv : Int) := by omega
                    have pv_u : (pv : Int) < (d.size : Int) := by omega
                    have pv_n : ((pv : Int)).toNat = pv := by omega
                    have pv_w : IntKind.i64.wrap (pv : Int) = (pv : Int) := by rw [IntKind.wrap_i64]; omega
                    have HAM := Lib.hid ham
                    clear ham
                    obtain ⟨x, hx⟩ : ∃ x, x = d3[am]! := ⟨_, rfl⟩
                    obtain ⟨y, hy⟩ : ∃ y, y = d3[pv]! := ⟨_, rfl⟩
                    have lx := S3.out.ld R (by omega) P am (by omega)
                    have ly := S3.out.ld R (by omega) P pv (by omega)
                    rw [← hx] at lx
                    rw [← hy] at ly
                    have hc := cmpM S3.out HC.out (by omega) x y
                    have HX := Lib.hid hx
                    have HY := Lib.hid hy
                    clear hx hy
                    cases hl : ltOf cf x y
                    · have hnl : ltOf cf d3[a' - 1]! d3[pv]! = false := by rw [← HAM.out, ← HX.out, ← HY.out]; exact hl
                      obtain ⟨mid, d4, hx⟩ : ∃ m x, Sort.partitionEqual (ltOf cf) d3 a' b' pv = (m, x) := ⟨_, _, rfl⟩
                      obtain ⟨m1, m2, hs4, BR, RR⟩ := round_eq hO (partitionEqual_holds (ltOf cf)) ha0 hpv1 hpv2 (by omega) HB3.out hnl hx
                      have HBR := Lib.hid BR
                      have HRR := Lib.hid RR
                      have hs4' : d4.size = d.size := by omega
                      have HHX := Lib.hid hx
                      clear BR RR hnl hx
                      have hd : decide (cf x y < 0) = false := hl
                      clear hl
                      go_wp2_with fail
                      go_quiet_grown (first | (go_at_fn g; refine Calls.grown_of (hc _ _)))
                      have SV := Lib.hid (S3.out.grown nq osq)
                      clear lx ly hc S3 hd
                      generalize grow (wc.drewN nq) osq = wv at * 
                      clear nq osq
                      have hce := CE.out wv d3 a' b' pv hs3 SV.out (by omega) hb' hpv2
                      rw [HHX.out] at hce
                      have HCE := Lib.hid hce
                      clear hce
                      go_wp2_with (go_at_fn (ρ.f 26); refine HCE.out.mono ?_; rintro e w7 ⟨rfl, S7⟩)
                      have S8 := Lib.hid S7
                      clear S7
                      go_roundg (b' - mid)
                      case measure => omega
                      case rel => exact ⟨mid, b', l0, wb, wp, d4, rfl, rfl, rfl, rfl, rfl, m2, hb', Nat.le_refl _, by omega, hl0b, hs4', S8, HBR, Lib.hid (fun R h1 h2 => HK3.out R (HRR.out R h1 h2).1 (HRR.out R h1 h2).2)⟩
                    · have hd : decide (cf x y < 0) = true := hl
                      clear hl
                      go_wp2_with fail
                      go_quiet_grown (first | (go_at_fn g; refine Calls.grown_of (hc _ _)))
                      have SV := Lib.hid (S3.out.grown nq osq)
                      clear lx ly hc S3 hd
                      generalize grow (wc.drewN nq) osq = wv at * 
                      clear nq osq
                      obtain ⟨mid, ap, d4, hx⟩ : ∃ m p x, Sort.partition (ltOf cf) d3 a' b' pv = (m, p, x) := ⟨_, _, _, rfl⟩
                      have RP := round_part hO (partition_holds (ltOf cf)) hpv1 hpv2 (by omega) HB3.out hx
                      obtain ⟨m1, m2, hs4, BL, BR, RL, RR⟩ := RP
                      have hcp := CP.out wv d3 a' b' pv hs3 SV.out (by omega) (by omega) hpv2
                      rw [hx] at hcp
                      have HCP := Lib.hid hcp
                      have HBL := Lib.hid BL
                      have HBR := Lib.hid BR
                      have HRL := Lib.hid RL
                      have HRR := Lib.hid RR
                      have hs4' : d4.size = d.size := by omega
                      clear hcp hx BL BR RL RR SV
                      obtain ⟨lf, hlf⟩ : ∃ n, n = mid - a' := ⟨_, rfl⟩
                      obtain ⟨rg, hrg⟩ : ∃ n, n = b' - mid := ⟨_, rfl⟩
                      have j1 : (mid : Int) - (a' : Int) = (lf : Int) := by omega
                      have j2 : (b' : Int) - (mid : Int) = (rg : Int) := by omega
                      have j3 : IntKind.i64.wrap (lf : Int) = (lf : Int) := by rw [IntKind.wrap_i64]; omega
                      have j4 : IntKind.i64.wrap (rg : Int) = (rg : Int) := by rw [IntKind.wrap_i64]; omega
                      have l1 : a' + lf ≤ mid := by omega
                      have l2 : mid ≤ a' + lf := by omega
                      have l3 : mid + rg ≤ b' := by omega
                      have l4 : b' ≤ mid + rg := by omega
                      clear hlf hrg
                      go_upto_if 125 with (go_at_fn (ρ.f 27); refine HCP.out.mono ?_; rintro e w7 ⟨rfl, S7⟩)
                      by_cases hlr : lf < rg
                      · have hgl : (lf : Int) < (rg : Int) := by omega
                        have hih := IH.out a' mid l0 d4 w7 (by omega) hs4' S7 (by omega) (by omega) hl0b HBL.out
                        have HIH := Lib.hid hih
                        clear hih S7
                        go_wp2_with (go_at_fn (ρ.f 14); refine HIH.out.mono ?_; rintro e w8 ⟨rfl, d5, hp5, hq5, S8⟩)
                        have hs5 : d5.size = d.size := by have := hp5.1; omega
                        have H5 := Lib.hid (HRL.out d5 hp5 hq5)
                        have S9 := Lib.hid S8
                        clear S8 hp5 hq5
                        go_roundg (b' - (mid + 1))
                        case measure => omega
                        case rel => exact ⟨mid + 1, b', l0, _, ap, d5, by go_num, rfl, rfl, rfl, rfl, by omega, by omega, Nat.le_refl _, by omega, hl0b, hs5, S9, Lib.hid H5.out.1, Lib.hid (fun R h1 h2 => HK3.out R (H5.out.2 R h1 h2).1 (H5.out.2 R h1 h2).2)⟩
                      · have hgl : ¬ (lf : Int) < (rg : Int) := by omega
                        have hih := IH.out (mid + 1) b' l0 d4 w7 (by omega) hs4' S7 (by omega) (by omega) hl0b HBR.out
                        rw [show ((mid + 1 : Nat) : Int) = (mid : Int) + 1 by omega] at hih
                        have HIH := Lib.hid hih
                        clear hih S7
                        go_wp2_with (go_at_fn (ρ.f 14); refine HIH.out.mono ?_; rintro e w8 ⟨rfl, d5, hp5, hq5, S8⟩)
                        have hs5 : d5.size = d.size := by have := hp5.1; omega
                        have H5 := Lib.hid (HRR.out d5 hp5 hq5)
                        have S9 := Lib.hid S8
                        clear S8 hp5 hq5
                        go_roundg (mid - a')
                        case measure => omega
                        case rel => exact ⟨a', mid, l0, _, ap, d5, rfl, rfl, rfl, rfl, rfl, by omega, by omega, Nat.le_refl _, by omega, hl0b, hs5, S9, Lib.hid H5.out.1, Lib.hid (fun R h1 h2 => HK3.out R (H5.out.2 R h1 h2).1 (H5.out.2 R h1 h2).2)⟩
                  · have gp0 : decide ((0 : Int) < (a' : Int)) = false := decide_eq_false (by omega)
                    go_wp2_with fail
                    go_big_region_o
                    have SV := Lib.hid S3.out.drew
                    clear S3
                    generalize wc.drew = wv at SV ⊢
                    obtain ⟨mid, ap, d4, hx⟩ : ∃ m p x, Sort.partition (ltOf cf) d3 a' b' pv = (m, p, x) := ⟨_, _, _, rfl⟩
                    have RP := round_part hO (partition_holds (ltOf cf)) hpv1 hpv2 (by omega) HB3.out hx
                    obtain ⟨m1, m2, hs4, BL, BR, RL, RR⟩ := RP
                    have hcp := CP.out wv d3 a' b' pv hs3 SV.out (by omega) (by omega) hpv2
                    rw [hx] at hcp
                    have HCP := Lib.hid hcp
                    have HBL := Lib.hid BL
                    have HBR := Lib.hid BR
                    have HRL := Lib.hid RL
                    have HRR := Lib.hid RR
                    have hs4' : d4.size = d.size := by omega
                    clear hcp hx BL BR RL RR SV
                    obtain ⟨lf, hlf⟩ : ∃ n, n = mid - a' := ⟨_, rfl⟩
                    obtain ⟨rg, hrg⟩ : ∃ n, n = b' - mid := ⟨_, rfl⟩
                    have j1 : (mid : Int) - (a' : Int) = (lf : Int) := by omega
                    have j2 : (b' : Int) - (mid : Int) = (rg : Int) := by omega
                    have j3 : IntKind.i64.wrap (lf : Int) = (lf : Int) := by rw [IntKind.wrap_i64]; omega
                    have j4 : IntKind.i64.wrap (rg : Int) = (rg : Int) := by rw [IntKind.wrap_i64]; omega
                    have l1 : a' + lf ≤ mid := by omega
                    have l2 : mid ≤ a' + lf := by omega
                    have l3 : mid + rg ≤ b' := by omega
                    have l4 : b' ≤ mid + rg := by omega
                    clear hlf hrg
                    go_upto_if 125 with (go_at_fn (ρ.f 27); refine HCP.out.mono ?_; rintro e w7 ⟨rfl, S7⟩)
                    by_cases hlr : lf < rg
                    · have hgl : (lf : Int) < (rg : Int) := by omega
                      have hih := IH.out a' mid l0 d4 w7 (by omega) hs4' S7 (by omega) (by omega) hl0b HBL.out
                      have HIH := Lib.hid hih
                      clear hih S7
                      go_wp2_with (go_at_fn (ρ.f 14); refine HIH.out.mono ?_; rintro e w8 ⟨rfl, d5, hp5, hq5, S8⟩)
                      have hs5 : d5.size = d.size := by have := hp5.1; omega
                      have H5 := Lib.hid (HRL.out d5 hp5 hq5)
                      have S9 := Lib.hid S8
                      clear S8 hp5 hq5
                      go_roundg (b' - (mid + 1))
                      case measure => omega
                      case rel => exact ⟨mid + 1, b', l0, _, ap, d5, by go_num, rfl, rfl, rfl, rfl, by omega, by omega, Nat.le_refl _, by omega, hl0b, hs5, S9, Lib.hid H5.out.1, Lib.hid (fun R h1 h2 => HK3.out R (H5.out.2 R h1 h2).1 (H5.out.2 R h1 h2).2)⟩
                    · have hgl : ¬ (lf : Int) < (rg : Int) := by omega
                      have hih := IH.out (mid + 1) b' l0 d4 w7 (by omega) hs4' S7 (by omega) (by omega) hl0b HBR.out
                      rw [show ((mid + 1 : Nat) : Int) = (mid : Int) + 1 by omega] at hih
                      have HIH := Lib.hid hih
                      clear hih S7
                      go_wp2_with (go_at_fn (ρ.f 14); refine HIH.out.mono ?_; rintro e w8 ⟨rfl, d5, hp5, hq5, S8⟩)
                      have hs5 : d5.size = d.size := by have := hp5.1; omega
                      have H5 := Lib.hid (HRR.out d5 hp5 hq5)
                      have S9 := Lib.hid S8
                      clear S8 hp5 hq5
                      go_roundg (mid - a')
                      case measure => omega
                      case rel => exact ⟨a', mid, l0, _, ap, d5, rfl, rfl, rfl, rfl, rfl, by omega, by omega, Nat.le_refl _, by omega, hl0b, hs5, S9, Lib.hid H5.out.1, Lib.hid (fun R h1 h2 => HK3.out R (H5.out.2 R h1 h2).1 (H5.out.2 R h1 h2).2)⟩
end Go.Proofs.Ytaghophkfogdgaa
