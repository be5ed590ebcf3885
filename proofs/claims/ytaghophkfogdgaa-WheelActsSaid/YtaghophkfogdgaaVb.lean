/- The library's sort of at most twelve structs under a method's value. Conditions: what the words say. -/
import Derived.Test.YtaghophkfogdgaaVa
namespace Go.Proofs.Ytaghophkfogdgaa
open Go.Shelf Go.RowKit Go.Lib Go.Sort
variable {P : Program} {ρ : Ren} {α : Type} [Inhabited α]

set_option maxHeartbeats 8000000 in
set_option maxRecDepth 1000000 in
theorem pdqM12 (L : SlLaysF0.n14 P ρ) (k : Nat) (aE : ∀ w, (isAgg (ρ.t 24)).run P w = .ok true w) (zE : ∀ w, (Go.sizeOf (ρ.t 24)).run P w = .ok k w) (enc : α → List Value) (cf : α → α → Int) (g : Nat) (u : Value) (blk off cap lim : Nat) (d0 d : Array α) (w0 w : World)
    (eg : ∀ args w, (callFunc g args).run P w = .ok (.enter g args) w) (hcmp : CmpM P g u enc k cf blk off d0.size w0) (R : RowK enc k w0 blk off d0) (hs : d0.size = d.size) (S : SWK enc k w0 blk off d w) (hsz : d.size ≤ 12) :
    Calls P (ρ.f 14) #[.slice (some ⟨blk, off, none⟩) d.size cap, .int .i64 0, .int .i64 d.size, .int .i64 lim, .func (.func g) #[u] #[]] w fun e w' => e = .returned (.tuple #[]) ∧ SWK enc k w0 blk off (Sort.insertionSort (ltOf cf) d 0 d.size) w' := by
  have mixed := L.mixed; have t0 := L.t0; have t3 := L.t3; have a3 := L.a3; have z3 := L.z3; have v3 := L.v3; have t4 := L.t4; have v4 := L.v4; have t22 := L.t22; have t25 := L.t25
  have e20 : ∀ args w, (callFunc (ρ.f 20) args).run P w = .ok (.enter (ρ.f 20) args) w := L.f20.enters rfl
  have HI := Lib.hid (fun W (SW : SWK enc k w0 blk off d W) => insertM (P := P) (ρ := ρ) { L with } k aE zE enc cf g u blk off cap 0 d.size d0 d w0 W eg hcmp R hs SW (Nat.zero_le _) (Nat.le_refl _) (by omega))
  obtain ⟨_, _, FG⟩ := L.f14
  have HS := Lib.hid S
  clear S hcmp
  have hle : (d.size : Int) ≤ 12 := by omega
  go_enter FG, SlBodyF.n14_ntmps ρ
  go_wp2
  refine wp_loop_rounds 1 ?_
  rw [rounds_succ]
  go_wp2_with (go_at_fn (ρ.f 20); refine (HI.out _ HS.out).mono ?_; rintro e w' ⟨rfl, SW⟩)
  (try simp only [Exit.inBlock, Exit.then]); refine bodyPost_ret (results_none rfl _ _ _) rfl ?_
  exact ⟨rfl, SW⟩
set_option maxHeartbeats 8000000 in
set_option maxRecDepth 1000000 in
theorem sortM12 (L : SlLaysF0.n6 P ρ) (k : Nat) (aE : ∀ w, (isAgg (ρ.t 24)).run P w = .ok true w) (zE : ∀ w, (Go.sizeOf (ρ.t 24)).run P w = .ok k w) (enc : α → List Value) (cf : α → α → Int) (g : Nat) (u : Value) (blk off cap : Nat) (d : Array α) (w : World)
    (eg : ∀ args w, (callFunc g args).run P w = .ok (.enter g args) w) (hcmp : CmpM P g u enc k cf blk off d.size w) (R : RowK enc k w blk off d) (hsz : d.size ≤ 12) :
    Calls P (ρ.f 6) #[.slice (some ⟨blk, off, none⟩) d.size cap, .func (.func g) #[u] #[]] w fun e w' => e = .returned (.tuple #[]) ∧ SWK enc k w blk off (Sort.insertionSort (ltOf cf) d 0 d.size) w' := by
  have mixed := L.mixed; have t0 := L.t0; have a0 := L.a0; have t3 := L.t3; have a3 := L.a3; have z3 := L.z3; have v3 := L.v3; have t4 := L.t4; have t22 := L.t22; have t25 := L.t25; have t39 := L.t39; have t45 := L.t45; have t46 := L.t46; have t9 := L.t9; have t5 := L.t5
  have e14 : ∀ args w, (callFunc (ρ.f 14) args).run P w = .ok (.enter (ρ.f 14) args) w := L.f14.enters rfl
  have e15 : ∀ args w, (callFunc (ρ.f 15) args).run P w = .ok (.enter (ρ.f 15) args) w := enters_of L.f15 (by kernel_rfl) rfl
  have hp := fun lim => pdqM12 (P := P) (ρ := ρ) { L with } k aE zE enc cf g u blk off cap lim d d w w eg hcmp R rfl (SWK.start R.hH) hsz
  have hl : ∀ W, Calls P (ρ.f 15) #[.int .u64 (d.size : Int)] W fun e w' => e = .returned (.int .i64 (Lib.bitLen d.size : Nat)) ∧ w' = W := fun W => by
    have h := Any.bits_Len (SlLaysF0.n15.bits (P := P) (ρ := ρ) { L with }) (d.size : Int) W (by omega) (by omega)
    rw [Int.toNat_natCast] at h
    exact h
  obtain ⟨_, _, FG⟩ := L.f6
  clear hcmp
  go_enter FG, SlBodyF.n6_ntmps ρ
  go_wp2_with (first | (go_at_fn (ρ.f 15); refine (hl _).mono ?_; rintro e w' ⟨rfl, rfl⟩) | (go_at_fn (ρ.f 14); refine (hp _).mono ?_; rintro e w' ⟨rfl, SW⟩))
  go_end0
  exact ⟨rfl, SW⟩
end Go.Proofs.Ytaghophkfogdgaa
