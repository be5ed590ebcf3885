/- The sort's choice of a pivot under a method's value. Conditions: what the words say. -/
import Derived.Test.YtaghophkfogdgaaVe
namespace Go.Proofs.Ytaghophkfogdgaa
open Go.Shelf Go.RowKit Go.Lib Go.Sort
variable {P : Program} {ρ : Ren} {α : Type} [Inhabited α]

variable {k : Nat} {enc : α → List Value} {cf : α → α → Int} {g : Nat} {u : Value} {blk off : Nat} {d0 : Array α} {w0 : World}
/-- What a number of exchanges tells. -/
def hintC (s : Nat) : Int := if s = 0 then 1 else if s = 12 then 2 else 0
theorem pivot_mid (lt : α → α → Bool) (d : Array α) (a b p s : Nat) (hp : (choosePivot lt d a b).1 = p) (hh : (choosePivot lt d a b).2 = if s = 0 then Hint.increasing else if s = 12 then Hint.decreasing else Hint.unknown) :
    hintCode (choosePivot lt d a b).2 = hintC s ∧ (choosePivot lt d a b).1 = p := by
  refine ⟨?_, hp⟩
  rw [hh]
  unfold hintC
  split
  · rfl
  · split <;> rfl
set_option maxHeartbeats 8000000 in
set_option maxRecDepth 1000000 in
theorem pivotM (L : SlLaysF0.n23 P ρ) (F : FamM P ρ k enc cf g u blk off d0 w0) (cap a b : Nat) (d : Array α) (W : World) (hs : d0.size = d.size) (S : SWK enc k w0 blk off d W) (hab : a < b) (hb : b ≤ d.size) (hsz : d.size < 4611686018427387904) :
    Calls P (ρ.f 23) #[.slice (some ⟨blk, off, none⟩) d.size cap, .int .i64 a, .int .i64 b, .func (.func g) #[u] #[]] W fun e w' =>
      e = .returned (.tuple #[.int .i64 (choosePivot (ltOf cf) d a b).1, .int .i64 (hintCode (choosePivot (ltOf cf) d a b).2)]) ∧ SWK enc k w0 blk off d w' := by
  have mixed := L.mixed; have t0 := L.t0; have a0 := L.a0; have z0 := L.z0; have v0 := L.v0; have t3 := L.t3; have a3 := L.a3; have z3 := L.z3; have v3 := L.v3; have t4 := L.t4; have a4 := L.a4; have z4 := L.z4; have v4 := L.v4; have t22 := L.t22; have a22 := L.a22; have z22 := L.z22; have v22 := L.v22; have t25 := L.t25; have a25 := L.a25; have z25 := L.z25; have v25 := L.v25; have t45 := L.t45; have a45 := L.a45; have z45 := L.z45; have v45 := L.v45; have t70 := L.t70; have a70 := L.a70; have z70 := L.z70; have v70 := L.v70; have t77 := L.t77; have a77 := L.a77; have z77 := L.z77; have v77 := L.v77
  obtain ⟨_, _, FG⟩ := L.f23
  have e49 : ∀ args w, (callFunc (ρ.f 49) args).run P w = .ok (.enter (ρ.f 49) args) w := L.f49.enters rfl
  have e50 : ∀ args w, (callFunc (ρ.f 50) args).run P w = .ok (.enter (ρ.f 50) args) w := L.f50.enters rfl
  have MA := Lib.hid (fun (W' : World) (t x : Nat) (C' : CntK enc k w0 blk off d W.heap.size t W') (h1 : 1 ≤ x) (h2 : x + 1 < d.size) (h3 : t + 3 < 4611686018427387904) => medAdjM (P := P) (ρ := ρ) { L with } F cap x W.heap.size t d W' hs C' h1 h2 hsz h3)
  have MD := Lib.hid (fun (W' : World) (t x y z : Nat) (C' : CntK enc k w0 blk off d W.heap.size t W') (h1 : x < d.size) (h2 : y < d.size) (h3 : z < d.size) (h4 : t + 3 < 4611686018427387904) => medianM (P := P) (ρ := ρ) { L with } F cap x y z W.heap.size t d W' hs C' h1 h2 h3 hsz h4)
  have C0 : CntK enc k w0 blk off d W.heap.size 0 (W.alloc (.cells #[.int .i64 0] (ρ.t 3))) := CntK.start S (ρ.t 3)
  obtain ⟨I, hI⟩ : ∃ I : Nat, I = a + (b - a) / 4 * 1 := ⟨_, rfl⟩
  obtain ⟨J, hJ⟩ : ∃ J : Nat, J = a + (b - a) / 4 * 2 := ⟨_, rfl⟩
  obtain ⟨K, hK⟩ : ∃ K : Nat, K = a + (b - a) / 4 * 3 := ⟨_, rfl⟩
  have eI : ((a : Int) + ((b : Int) - (a : Int)) / 4) = (I : Int) := by omega
  have eJ : ((a : Int) + ((b : Int) - (a : Int)) / 4 * 2) = (J : Int) := by omega
  have eK : ((a : Int) + ((b : Int) - (a : Int)) / 4 * 3) = (K : Int) := by omega
  clear S F
  by_cases h8 : 8 ≤ b - a
  · by_cases h50 : 50 ≤ b - a
    · obtain ⟨i1, s1, h1⟩ : ∃ i t, medianAdjacent (ltOf cf) d I 0 = (i, t) := ⟨_, _, rfl⟩
      obtain ⟨j1, s2, h2⟩ : ∃ i t, medianAdjacent (ltOf cf) d J s1 = (i, t) := ⟨_, _, rfl⟩
      obtain ⟨k1, s3, h3⟩ : ∃ i t, medianAdjacent (ltOf cf) d K s2 = (i, t) := ⟨_, _, rfl⟩
      obtain ⟨p, s, h4⟩ : ∃ i t, median (ltOf cf) d i1 j1 k1 s3 = (i, t) := ⟨_, _, rfl⟩
      have n1 := median_in (ltOf cf) d (I - 1) I (I + 1) 0 d.size (by omega) (by omega) (by omega)
      have n2 := median_in (ltOf cf) d (J - 1) J (J + 1) s1 d.size (by omega) (by omega) (by omega)
      have n3 := median_in (ltOf cf) d (K - 1) K (K + 1) s2 d.size (by omega) (by omega) (by omega)
      rw [show median (ltOf cf) d (I - 1) I (I + 1) 0 = (i1, s1) from h1] at n1
      rw [show median (ltOf cf) d (J - 1) J (J + 1) s1 = (j1, s2) from h2] at n2
      rw [show median (ltOf cf) d (K - 1) K (K + 1) s2 = (k1, s3) from h3] at n3
      simp only [] at n1 n2 n3
      have c1 := MA.out _ 0 I C0 (by omega) (by omega) (by omega)
      have c2 := fun W' C' => MA.out W' s1 J C' (by omega) (by omega) (by omega)
      have c3 := fun W' C' => MA.out W' s2 K C' (by omega) (by omega) (by omega)
      have c4 := fun W' C' => MD.out W' s3 i1 j1 k1 C' (by omega) (by omega) (by omega) (by omega)
      rw [h1] at c1; rw [h2] at c2; rw [h3] at c3; rw [h4] at c4
      have H1 := Lib.hid c1; have H2 := Lib.hid c2; have H3 := Lib.hid c3; have H4 := Lib.hid c4
      have hv := pivot_mid (ltOf cf) d a b p s (by unfold choosePivot; simp only [if_pos h8, if_pos h50, ← hI, ← hJ, ← hK, h1, h2, h3, h4]) (by unfold choosePivot; simp only [if_pos h8, if_pos h50, ← hI, ← hJ, ← hK, h1, h2, h3, h4])
      rw [hv.1, hv.2]
      clear hv h1 h2 h3 h4 c1 c2 c3 c4 MA MD hI hJ hK C0
      obtain ⟨Hc, hHc⟩ : ∃ Hc : Int, Hc = hintC s := ⟨_, rfl⟩
      have HH := Lib.hid hHc
      rw [← hHc]
      clear hHc
      go_enter FG, SlBodyF.n23_ntmps ρ
      go_wp2_with (go_at_fn_of (ρ.f 49) (Value.int .i64 (I : Int)); refine H1.out.mono ?_; rintro e w1 ⟨rfl, C1⟩)
      go_wp2_with (go_at_fn_of (ρ.f 49) (Value.int .i64 (J : Int)); refine (H2.out _ C1).mono ?_; rintro e w2 ⟨rfl, C2⟩)
      go_wp2_with (go_at_fn_of (ρ.f 49) (Value.int .i64 (K : Int)); refine (H3.out _ C2).mono ?_; rintro e w3 ⟨rfl, C3⟩)
      go_wp2_with (go_at_fn (ρ.f 50); refine (H4.out _ C3).mono ?_; rintro e w4 ⟨rfl, S4, cc, cz, _, _⟩)
      all_goals
        go_ret2
        refine ⟨?_, S4⟩
        rw [HH.out]
        simp only [hintC]
        first
          | (have e0 : (s : Int) = 0 := of_beq_int (by assumption)
             rw [if_pos (by omega)]; rfl)
          | (have e1 : (s : Int) = 12 := of_beq_int (by assumption)
             rw [if_neg (by omega), if_pos (by omega)]; rfl)
          | (have e0 : (s : Int) ≠ 0 := of_bne_int (by assumption)
             have e1 : (s : Int) ≠ 12 := of_bne_int (by assumption)
             rw [if_neg (by omega), if_neg (by omega)]; rfl)
    · obtain ⟨p, s, h4⟩ : ∃ i t, median (ltOf cf) d I J K 0 = (i, t) := ⟨_, _, rfl⟩
      have c4 := MD.out _ 0 I J K C0 (by omega) (by omega) (by omega) (by omega)
      rw [h4] at c4
      have H4 := Lib.hid c4
      have hv := pivot_mid (ltOf cf) d a b p s (by unfold choosePivot; simp only [if_pos h8, if_neg h50, ← hI, ← hJ, ← hK, h4]) (by unfold choosePivot; simp only [if_pos h8, if_neg h50, ← hI, ← hJ, ← hK, h4])
      rw [hv.1, hv.2]
      clear hv h4 c4 MA MD hI hJ hK C0
      obtain ⟨Hc, hHc⟩ : ∃ Hc : Int, Hc = hintC s := ⟨_, rfl⟩
      have HH := Lib.hid hHc
      rw [← hHc]
      clear hHc
      go_enter FG, SlBodyF.n23_ntmps ρ
      go_wp2_with (go_at_fn (ρ.f 50); refine H4.out.mono ?_; rintro e w4 ⟨rfl, S4, cc, cz, _, _⟩)
      all_goals
        go_ret2
        refine ⟨?_, S4⟩
        rw [HH.out]
        simp only [hintC]
        first
          | (have e0 : (s : Int) = 0 := of_beq_int (by assumption)
             rw [if_pos (by omega)]; rfl)
          | (have e1 : (s : Int) = 12 := of_beq_int (by assumption)
             rw [if_neg (by omega), if_pos (by omega)]; rfl)
          | (have e0 : (s : Int) ≠ 0 := of_bne_int (by assumption)
             have e1 : (s : Int) ≠ 12 := of_bne_int (by assumption)
             rw [if_neg (by omega), if_neg (by omega)]; rfl)
  · have hv := pivot_mid (ltOf cf) d a b J 0 (by unfold choosePivot; simp only [if_neg h8, ← hJ]) (by unfold choosePivot; simp only [if_neg h8])
    rw [hv.1, hv.2]
    have S4 := C0.1
    clear hv MA MD hI hJ hK C0
    go_enter FG, SlBodyF.n23_ntmps ρ
    go_wp2
    all_goals
      go_ret2
      exact ⟨rfl, S4⟩
end Go.Proofs.Ytaghophkfogdgaa
