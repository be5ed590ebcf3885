/- The library's sort of structs under a method's value (a function that takes its receiver first): its words, and its insertion sort. Conditions: what the words say. -/
import Derived.Shelf.SlSortCmp.WholeK
import Derived.Shelf.SlSortCmp.NoneTotal
import Derived.Shelf.SlSortCmp.QuietGrown
import Derived.Lib.Hide
import Derived.Deep.QuietTactic
namespace Go.Proofs.Ytaghophkfogdgaa
open Go.Shelf Go.RowKit Go.Lib Go.Sort
variable {P : Program} {ρ : Ren} {α : Type} [Inhabited α]

/-- What the compare does, in whatever world a sort comes through: its receiver u stands ahead of the two. -/
def CmpM (P : Program) (g : Nat) (u : Value) (enc : α → List Value) (k : Nat) (cf : α → α → Int) (blk off size : Nat) (w : World) : Prop :=
  ∀ (m : Nat) (os : Array Obj) (dk : Array α), dk.size = size → ∀ x y : α,
    Calls P g #[u, .agg (enc x).toArray, .agg (enc y).toArray] (sortWorldK enc k w blk off m dk os) fun e w' => e = .returned (.int .i64 (cf x y)) ∧ ∃ q os', w' = grow ((sortWorldK enc k w blk off m dk os).drewN q) os'
section
variable {enc : α → List Value} {k : Nat} {w0 W : World} {blk off : Nat} {dk : Array α}
theorem cmpM {g : Nat} {u : Value} {cf : α → α → Int} {size : Nat} (h : SWK enc k w0 blk off dk W) (hC : CmpM P g u enc k cf blk off size w0) (hs : dk.size = size) (x y : α) (n : Nat) (os : Array Obj) :
    Calls P g #[u, .agg (enc x).toArray, .agg (enc y).toArray] (grow (W.drewN n) os) fun e w' => e = .returned (.int .i64 (cf x y)) ∧ ∃ q os', w' = grow ((grow (W.drewN n) os).drewN q) os' := by
  obtain ⟨m, os0, hw⟩ := h.grown n os
  rw [hw]
  exact hC m os0 dk hs x y
end
/-- A value of a method: function g, its receiver u bound. -/
def mval (g : Nat) (u : Value) : Value := .func (.func g) #[u] #[]
theorem insInner_stop (lt : α → α → Bool) (a j : Nat) (d : Array α) (h : j ≤ a) : insInner lt a j d = d := by
  cases j with
  | zero => rfl
  | succ j =>
    unfold insInner
    rw [if_neg]
    simp
    omega
theorem insInner_off (lt : α → α → Bool) (a j : Nat) (d : Array α) (h : lt d[j + 1]! d[j]! = false) : insInner lt a (j + 1) d = d := by
  unfold insInner
  rw [if_neg]
  simp [h]
theorem insInner_on (lt : α → α → Bool) (a j : Nat) (d : Array α) (h : a < j + 1) (hl : lt d[j + 1]! d[j]! = true) : insInner lt a (j + 1) d = insInner lt a j (swp d (j + 1) j) := by
  show (if (j + 1 > a && lt d[j + 1]! d[j]!) = true then _ else _) = _
  rw [if_pos]
  simp [hl]
  omega
set_option maxHeartbeats 8000000 in
set_option maxRecDepth 1000000 in
theorem insertM (L : SlLaysF0.n20 P ρ) (k : Nat) (aE : ∀ w, (isAgg (ρ.t 24)).run P w = .ok true w) (zE : ∀ w, (Go.sizeOf (ρ.t 24)).run P w = .ok k w) (enc : α → List Value) (cf : α → α → Int) (g : Nat) (u : Value) (blk off cap a b : Nat) (d0 d : Array α) (w0 w : World)
    (eg : ∀ args w, (callFunc g args).run P w = .ok (.enter g args) w) (hcmp : CmpM P g u enc k cf blk off d0.size w0) (R : RowK enc k w0 blk off d0) (hs : d0.size = d.size) (S : SWK enc k w0 blk off d w) (hab : a ≤ b) (hb : b ≤ d.size) (hsz : d.size < 4611686018427387904) :
    Calls P (ρ.f 20) #[.slice (some ⟨blk, off, none⟩) d.size cap, .int .i64 a, .int .i64 b, .func (.func g) #[u] #[]] w fun e w' => e = .returned (.tuple #[]) ∧ SWK enc k w0 blk off (Sort.insertionSort (ltOf cf) d a b) w' := by
  have mixed := L.mixed; have t0 := L.t0; have t3 := L.t3; have a3 := L.a3; have z3 := L.z3; have v3 := L.v3; have t4 := L.t4; have t22 := L.t22; have t25 := L.t25
  obtain ⟨_, _, FG⟩ := L.f20
  have HC := Lib.hid hcmp
  have S0 := Lib.hid S
  clear S hcmp
  go_enter FG, SlBodyF.n20_ntmps ρ
  go_wp2
  go_loopw [8] (fun vi wr => ∃ (i : Nat) (dk : Array α), vi = .int .i64 i ∧ a < i ∧ i ≤ b + 1 ∧ dk.size = d.size ∧ Hid (SWK enc k w0 blk off dk wr) ∧ Hid (insOuter (ltOf cf) a b i dk = insOuter (ltOf cf) a b (a + 1) d)) (fun vi _ => b + 1 - (intOf vi).toNat)
  case atStart => exact ⟨a + 1, d, by go_num, by omega, by omega, rfl, S0, Lib.hid rfl⟩
  case round =>
    obtain ⟨i, dk, rfl, hai, hib, hsk, SI, HI⟩ := hrel
    by_cases hlt : i < b
    · have hlt' : (i : Int) < b := by omega
      have HII := Lib.hid (show insOuter (ltOf cf) a b (i + 1) (insInner (ltOf cf) a i dk) = insOuter (ltOf cf) a b (a + 1) d by
        have := HI.out
        rw [insOuter, if_pos hlt] at this
        exact this)
      clear HI
      go_wp2
      go_loopw [9] (fun vj w2 => ∃ (j : Nat) (dj : Array α), vj = .int .i64 j ∧ a ≤ j ∧ j ≤ i ∧ dj.size = d.size ∧ Hid (SWK enc k w0 blk off dj w2) ∧ Hid (insInner (ltOf cf) a j dj = insInner (ltOf cf) a i dk)) (fun vj _ => (intOf vj).toNat)
      case atStart => exact ⟨i, dk, rfl, by omega, Nat.le_refl _, hsk, SI, Lib.hid rfl⟩
      case round =>
        clear SI
        obtain ⟨j, dj, rfl, haj, hji, hsj, SJ, HJ⟩ := hrel
        by_cases hja : a < j
        · obtain ⟨m, hm⟩ : ∃ m, j = m + 1 := ⟨j - 1, by omega⟩
          have hg1 : decide ((a : Int) < (j : Int)) = true := decide_eq_true (by omega)
          have i1 : (0 : Int) ≤ (j : Int) := by omega
          have i2 : (j : Int) < (d.size : Int) := by omega
          have i3 : ((j : Int)).toNat = j := by omega
          have m1 : ((j : Int) - 1) = (m : Int) := by omega
          have m2 : (m : Int) < (d.size : Int) := by omega
          have m3 : ((m : Int)).toNat = m := by omega
          have m4 : (0 : Int) ≤ (m : Int) := by omega
          have m5 : IntKind.i64.wrap (m : Int) = (m : Int) := by rw [IntKind.wrap_i64]; omega
          have i5 : IntKind.i64.wrap (j : Int) = (j : Int) := by rw [IntKind.wrap_i64]; omega
          obtain ⟨x, hx⟩ : ∃ x, x = dj[j]! := ⟨_, rfl⟩
          obtain ⟨y, hy⟩ : ∃ y, y = dj[m]! := ⟨_, rfl⟩
          have lx := SJ.out.ld R (by omega) P j (by omega)
          have ly := SJ.out.ld R (by omega) P m (by omega)
          rw [← hx] at lx
          rw [← hy] at ly
          have hc := cmpM SJ.out HC.out (by omega) x y
          have HX := Lib.hid hx
          have HY := Lib.hid hy
          have HM := Lib.hid hm
          clear hx hy hm
          cases hl : ltOf cf x y
          · have hd : decide (cf x y < 0) = false := hl
            have HOF := Lib.hid (show insInner (ltOf cf) a i dk = dj by
              rw [← HJ.out, HM.out]
              exact insInner_off _ a m dj (by rw [← HM.out, ← HX.out, ← HY.out]; exact hl))
            clear hl
            go_wp2_with fail
            go_quiet_grown (first | (go_at_fn g; refine Calls.grown_of (hc _ _)))
            have SV := Lib.hid (SJ.out.grown nq osq)
            clear lx ly hc SJ
            generalize grow (wr.drewN nq) osq = wv at SV ⊢
            clear nq osq
            go_wp2
            refine ⟨⟨i + 1, dj, by go_num, by omega, by omega, hsj, SV, Lib.hid ?_⟩, by simp [intOf]; omega⟩
            rw [← HOF.out]
            exact HII.out
          · have hd : decide (cf x y < 0) = true := hl
            have HON := Lib.hid (show insInner (ltOf cf) a m (swp dj j m) = insInner (ltOf cf) a i dk by
              rw [← HJ.out, HM.out]
              exact (insInner_on _ a m dj (by omega) (by rw [← HM.out, ← HX.out, ← HY.out]; exact hl)).symm)
            clear hl
            go_wp2_with fail
            go_quiet_grown (first | (go_at_fn g; refine Calls.grown_of (hc _ _)))
            have SV := Lib.hid (SJ.out.grown nq osq)
            clear lx ly hc SJ
            generalize grow (wr.drewN nq) osq = wv at SV ⊢
            clear nq osq
            have hmj : m < j := by have := HM.out; omega
            have SW := Lib.hid (SV.out.swapped R j m (by omega) (by omega))
            have l1 := SV.out.ld1 R (by omega) P j (by omega)
            have l2 := SV.out.ld1 R (by omega) P m (by omega)
            have s1 := SV.out.st1 R (by omega) P j (by omega) dj[m]!
            have s2 := SV.out.st2 R (by omega) P j m (by omega) (by omega) dj[m]! dj[j]!
            have n1 : (enc dj[j]!).length = k := R.hk _
            have n2 : (enc dj[m]!).length = k := R.hk _
            generalize enc dj[j]! = cJ at SW l1 s2 n1
            generalize enc dj[m]! = cM at SW l2 s1 s2 n2
            clear SV
            go_wp2_with fail
            go_big_region_o
            clear l1 l2 s1 s2
            generalize (wv.drew.setCells blk (off + j * k) cM).setCells blk (off + m * k) cJ = wz at SW ⊢
            go_wp2
            go_roundw
            case rel => exact ⟨m, swp dj j m, by go_num, by omega, by omega, by rw [size_swp]; exact hsj, SW, HON⟩
            case measure => simp [intOf]; omega
        · obtain rfl : j = a := by omega
          have HOF := Lib.hid (show insInner (ltOf cf) j i dk = dj by
            rw [← HJ.out]
            exact insInner_stop _ j j dj (Nat.le_refl _))
          clear hja haj
          go_wp2_with fail
          go_big_region_o
          have SV := Lib.hid SJ.out.drew
          clear SJ
          generalize wr.drew = wv at SV ⊢
          go_wp2
          refine ⟨⟨i + 1, dj, by go_num, by omega, by omega, hsj, SV, Lib.hid ?_⟩, by simp [intOf]; omega⟩
          rw [← HOF.out]
          exact HII.out
    · have HE := Lib.hid (show dk = Sort.insertionSort (ltOf cf) d a b by
        have := HI.out
        rw [insOuter, if_neg hlt] at this
        exact this)
      go_wp2
      go_end0
      exact ⟨rfl, by rw [← HE.out]; exact SI.out⟩
end Go.Proofs.Ytaghophkfogdgaa
