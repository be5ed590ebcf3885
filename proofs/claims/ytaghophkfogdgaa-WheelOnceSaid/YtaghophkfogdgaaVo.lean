/- The library's sort of structs under a method's value, of any length. Conditions: what the words say; fewer than 2^62. -/
import Derived.Test.YtaghophkfogdgaaVn
import Derived.Test.YtaghophkfogdgaaVd
namespace Go.Proofs.Ytaghophkfogdgaa
open Go.Shelf Go.RowKit Go.Lib Go.Sort
section
variable {P : Program} {ρ : Ren} {α : Type} [Inhabited α]
variable {k : Nat} {enc : α → List Value} {cf : α → α → Int} {g : Nat} {u : Value} {blk off : Nat}

set_option maxHeartbeats 8000000 in
set_option maxRecDepth 1000000 in
theorem sortM (L : SlLaysF0.n6 P ρ) (d : Array α) (w : World) (F : FamM P ρ k enc cf g u blk off d w) (hO : SWO (ltOf cf)) (cap : Nat) (hsz : d.size < 4611686018427387904) :
    Calls P (ρ.f 6) #[.slice (some ⟨blk, off, none⟩) d.size cap, .func (.func g) #[u] #[]] w fun e w' => e = .returned (.tuple #[]) ∧ ∃ d', PermIn 0 d.size d d' ∧ SortedIn (ltOf cf) 0 d.size d' ∧ SWK enc k w blk off d' w' := by
  have mixed := L.mixed; have t0 := L.t0; have a0 := L.a0; have t3 := L.t3; have a3 := L.a3; have z3 := L.z3; have v3 := L.v3; have t4 := L.t4; have t22 := L.t22; have t25 := L.t25; have t39 := L.t39; have t45 := L.t45; have t46 := L.t46; have t9 := L.t9; have t5 := L.t5
  have e14 : ∀ args w, (callFunc (ρ.f 14) args).run P w = .ok (.enter (ρ.f 14) args) w := L.f14.enters rfl
  have e15 : ∀ args w, (callFunc (ρ.f 15) args).run P w = .ok (.enter (ρ.f 15) args) w := enters_of L.f15 (by kernel_rfl) rfl
  have hlim : Lib.bitLen d.size < 4611686018427387904 := Nat.lt_of_le_of_lt (Lib.bitLen_le d.size 62 (by omega) (by omega)) (by omega)
  have hp := pdqM (P := P) (ρ := ρ) { L with } F hO cap d.size rfl hsz (d.size + 1) 0 d.size (Lib.bitLen d.size) d w (by omega) rfl (SWK.start F.row.hH) (Nat.zero_le _) (Nat.le_refl _) hlim (Or.inl rfl)
  rw [show ((0 : Nat) : Int) = 0 from rfl] at hp
  have HP := Lib.hid hp
  have hl : ∀ W, Calls P (ρ.f 15) #[.int .u64 (d.size : Int)] W fun e w' => e = .returned (.int .i64 (Lib.bitLen d.size : Nat)) ∧ w' = W := fun W => by
    have h := Any.bits_Len (SlLaysF0.n15.bits (P := P) (ρ := ρ) { L with }) (d.size : Int) W (by omega) (by omega)
    rw [Int.toNat_natCast] at h
    exact h
  have wr : IntKind.u64.wrap (d.size : Int) = d.size := by simp [IntKind.wrap, IntKind.bits, IntKind.signed]; omega
  obtain ⟨_, _, FG⟩ := L.f6
  clear F hp
  go_enter FG, SlBodyF.n6_ntmps ρ
  go_wp2_with (first | (go_at_fn (ρ.f 15); refine (hl _).mono ?_; rintro e w' ⟨rfl, rfl⟩) | (go_at_fn (ρ.f 14); refine HP.out.mono ?_; rintro e w' ⟨rfl, SW⟩))
  go_end0
  exact ⟨rfl, SW⟩
end
theorem sort_any : SortUpto 1000 := by
  intro w p b R base n c A L h ho hw hn
  refine sort_fin h ho hw (fun g D hA hD hC hR => ?_)
  refine (sortM sortTm8 D w ⟨Try.isAgg33, Try.sizeOf33, enters8, hC, hR⟩ (swoW R) c (by omega)).mono ?_
  rintro e w' ⟨rfl, d', h1, h2, hS⟩
  exact ⟨rfl, d', hS, h1, h2⟩
end Go.Proofs.Ytaghophkfogdgaa
