/- The sort's turning of a range under a method's value. Conditions: what the words say. -/
import Derived.Test.YtaghophkfogdgaaVe
namespace Go.Proofs.Ytaghophkfogdgaa
open Go.Shelf Go.RowKit Go.Lib Go.Sort
variable {P : Program} {ρ : Ren} {α : Type} [Inhabited α]

variable {k : Nat} {enc : α → List Value} {cf : α → α → Int} {g : Nat} {u : Value} {blk off : Nat} {d0 : Array α} {w0 : World}
set_option maxHeartbeats 8000000 in
set_option maxRecDepth 1000000 in
theorem revM (L : SlLaysF0.n24 P ρ) (F : FamM P ρ k enc cf g u blk off d0 w0) (cap a b : Nat) (d : Array α) (W : World) (hs : d0.size = d.size) (S : SWK enc k w0 blk off d W) (hab : a < b) (hb : b ≤ d.size) (hsz : d.size < 4611686018427387904) :
    Calls P (ρ.f 24) #[.slice (some ⟨blk, off, none⟩) d.size cap, .int .i64 a, .int .i64 b, .func (.func g) #[u] #[]] W fun e w' =>
      e = .returned (.tuple #[]) ∧ SWK enc k w0 blk off (reverseRange d a b) w' := by
  have mixed := L.mixed; have t0 := L.t0; have a0 := L.a0; have z0 := L.z0; have v0 := L.v0; have t3 := L.t3; have a3 := L.a3; have z3 := L.z3; have v3 := L.v3; have t4 := L.t4; have a4 := L.a4; have z4 := L.z4; have v4 := L.v4; have t22 := L.t22; have a22 := L.a22; have z22 := L.z22; have v22 := L.v22; have t25 := L.t25; have a25 := L.a25; have z25 := L.z25; have v25 := L.v25
  obtain ⟨_, _, FG⟩ := L.f24
  obtain ⟨aE, zE, eg, hcmp, R⟩ := F
  have S0 := Lib.hid S
  clear hcmp S eg
  go_enter FG, SlBodyF.n24_ntmps ρ
  go_wp2
  go_loopw [8, 9] (fun vi vj wr => ∃ (i j : Nat) (dj : Array α), vi = .int .i64 i ∧ vj = .int .i64 j ∧ i ≤ j + 1 ∧ j < b ∧ dj.size = d.size ∧ Hid (SWK enc k w0 blk off dj wr) ∧ Hid (reverseLoop i j dj = reverseRange d a b)) (fun _ vj _ => (intOf vj).toNat)
  case atStart => exact ⟨a, b - 1, d, rfl, by go_num, by omega, by omega, rfl, S0, Lib.hid rfl⟩
  case round =>
    clear S0
    obtain ⟨i, j, dj, rfl, rfl, hij, hjb, hsj, SJ, HJ⟩ := hrel
    by_cases hlt : i < j
    · have hlt' : (i : Int) < j := by omega
      have HN := Lib.hid (show reverseLoop (i + 1) (j - 1) (swp dj i j) = reverseRange d a b by
        have := HJ.out
        rw [reverseLoop, if_pos hlt] at this
        exact this)
      clear HJ
      have i_p : (0 : Int) ≤ (i : Int) := by omega
      have i_u : (i : Int) < (d.size : Int) := by omega
      have i_n : ((i : Int)).toNat = i := by omega
      have i_w : IntKind.i64.wrap (i : Int) = (i : Int) := by rw [IntKind.wrap_i64]; omega
      have j_p : (0 : Int) ≤ (j : Int) := by omega
      have j_u : (j : Int) < (d.size : Int) := by omega
      have j_n : ((j : Int)).toNat = j := by omega
      have j_w : IntKind.i64.wrap (j : Int) = (j : Int) := by rw [IntKind.wrap_i64]; omega
      go_wp2_with fail
      have SW := Lib.hid (SJ.out.swapped R i j (by omega) (by omega))
      have l1 := SJ.out.ld1 R (by omega) P i (by omega)
      have l2 := SJ.out.ld1 R (by omega) P j (by omega)
      have s1 := SJ.out.st1 R (by omega) P i (by omega) dj[j]!
      have s2 := SJ.out.st2 R (by omega) P i j (by omega) (by omega) dj[j]! dj[i]!
      have n1 : (enc dj[i]!).length = k := R.hk _
      have n2 : (enc dj[j]!).length = k := R.hk _
      generalize enc dj[i]! = cI at SW l1 s2 n1
      generalize enc dj[j]! = cJ at SW l2 s1 s2 n2
      clear SJ
      go_wp2_with fail
      go_big_region_o
      clear l1 l2 s1 s2 n1 n2
      generalize (wr.drew.setCells blk (off + i * k) cJ).setCells blk (off + j * k) cI = wz at SW ⊢
      go_wp2
      refine ⟨⟨i + 1, j - 1, swp dj i j, by go_num, by go_num, by omega, by omega, by rw [size_swp]; exact hsj, SW, HN⟩, by simp [intOf]; omega⟩
    · have HE := Lib.hid (show dj = reverseRange d a b by
        have := HJ.out
        rw [reverseLoop, if_neg hlt] at this
        exact this)
      go_wp2
      go_end0
      exact ⟨rfl, by rw [← HE.out]; exact SJ.out⟩
end Go.Proofs.Ytaghophkfogdgaa
