/- The sort's medians under a method's value. Conditions: what the words say. -/
import Derived.Test.YtaghophkfogdgaaVa
namespace Go.Proofs.Ytaghophkfogdgaa
open Go.Shelf Go.RowKit Go.Lib Go.Sort
variable {P : Program} {ρ : Ren} {α : Type} [Inhabited α]

/-- What the sort is told once: rows of k cells, the compare's function g with its receiver u ahead. -/
structure FamM (P : Program) (ρ : Ren) (k : Nat) (enc : α → List Value) (cf : α → α → Int) (g : Nat) (u : Value) (blk off : Nat) (d0 : Array α) (w0 : World) : Prop where
  agg : ∀ w, (isAgg (ρ.t 24)).run P w = .ok true w
  cells : ∀ w, (Go.sizeOf (ρ.t 24)).run P w = .ok k w
  ent : ∀ args w, (callFunc g args).run P w = .ok (.enter g args) w
  cmp : CmpM P g u enc k cf blk off d0.size w0
  row : RowK enc k w0 blk off d0
/-- The slice that is sorted. -/
def rowV (blk off n cap : Nat) : Value := .slice (some ⟨blk, off, none⟩) n cap
variable {k : Nat} {enc : α → List Value} {cf : α → α → Int} {g : Nat} {u : Value} {blk off : Nat} {d0 : Array α} {w0 : World}
set_option maxHeartbeats 8000000 in
set_option maxRecDepth 1000000 in
theorem orderM (L : SlLaysF0.n57 P ρ) (F : FamM P ρ k enc cf g u blk off d0 w0) (cap a b c s : Nat) (d : Array α) (W : World) (hs : d0.size = d.size) (C : CntK enc k w0 blk off d c s W) (ha : a < d.size) (hb : b < d.size) (hsz : d.size < 4611686018427387904) (hss : s < 4611686018427387904) :
    Calls P (ρ.f 57) #[.slice (some ⟨blk, off, none⟩) d.size cap, .int .i64 a, .int .i64 b, .pointer (some ⟨c, 0, none⟩), .func (.func g) #[u] #[]] W fun e w' =>
      e = .returned (.tuple #[.int .i64 (order2 (ltOf cf) d a b s).1, .int .i64 (order2 (ltOf cf) d a b s).2.1]) ∧ CntK enc k w0 blk off d c (order2 (ltOf cf) d a b s).2.2 w' := by
  have mixed := L.mixed; have t0 := L.t0; have a0 := L.a0; have z0 := L.z0; have v0 := L.v0; have t3 := L.t3; have a3 := L.a3; have z3 := L.z3; have v3 := L.v3; have t4 := L.t4; have a4 := L.a4; have z4 := L.z4; have v4 := L.v4; have t22 := L.t22; have a22 := L.a22; have z22 := L.z22; have v22 := L.v22; have t25 := L.t25; have a25 := L.a25; have z25 := L.z25; have v25 := L.v25; have t70 := L.t70; have a70 := L.a70; have z70 := L.z70; have v70 := L.v70
  obtain ⟨_, _, FG⟩ := L.f57
  obtain ⟨aE, zE, eg, hcmp, R⟩ := F
  have HC := Lib.hid hcmp
  have SJ := Lib.hid C.1
  have CJ := Lib.hid C
  clear hcmp C
  have a_p : (0 : Int) ≤ (a : Int) := by omega
  have a_u : (a : Int) < (d.size : Int) := by omega
  have a_n : ((a : Int)).toNat = a := by omega
  have a_w : IntKind.i64.wrap (a : Int) = (a : Int) := by rw [IntKind.wrap_i64]; omega
  have b_p : (0 : Int) ≤ (b : Int) := by omega
  have b_u : (b : Int) < (d.size : Int) := by omega
  have b_n : ((b : Int)).toNat = b := by omega
  have b_w : IntKind.i64.wrap (b : Int) = (b : Int) := by rw [IntKind.wrap_i64]; omega
  obtain ⟨x, hx⟩ : ∃ x, x = d[b]! := ⟨_, rfl⟩
  obtain ⟨y, hy⟩ : ∃ y, y = d[a]! := ⟨_, rfl⟩
  have lx := SJ.out.ld R (by omega) P b (by omega)
  have ly := SJ.out.ld R (by omega) P a (by omega)
  rw [← hx] at lx
  rw [← hy] at ly
  have hc := cmpM SJ.out HC.out (by omega) x y
  have HX := Lib.hid hx
  have HY := Lib.hid hy
  clear hx hy
  go_enter FG, SlBodyF.n57_ntmps ρ
  cases hl : ltOf cf x y
  · have ho : order2 (ltOf cf) d a b s = (a, b, s) := by
      unfold order2
      rw [← HX.out, ← HY.out, hl]
      rfl
    have hd : decide (cf x y < 0) = false := hl
    clear hl
    go_wp2_with fail
    go_quiet_grown (first | (go_at_fn g; refine Calls.grown_of (hc _ _)))
    have SV := Lib.hid (SJ.out.grown nq osq)
    have CV := Lib.hid (CJ.out.grown nq osq)
    clear CJ
    clear lx ly hc SJ hd
    generalize grow (W.drewN nq) osq = wv at * 
    clear nq osq
    obtain ⟨_, cc, cz, _, _⟩ := CV.out
    go_wp2
    go_ret2
    rw [ho]
    exact ⟨rfl, CV.out⟩
  · have ho : order2 (ltOf cf) d a b s = (b, a, s + 1) := by
      unfold order2
      rw [← HX.out, ← HY.out, hl]
      rfl
    have hd : decide (cf x y < 0) = true := hl
    clear hl
    go_wp2_with fail
    go_quiet_grown (first | (go_at_fn g; refine Calls.grown_of (hc _ _)))
    have SV := Lib.hid (SJ.out.grown nq osq)
    have CV := Lib.hid (CJ.out.grown nq osq)
    clear CJ
    clear lx ly hc SJ hd
    generalize grow (W.drewN nq) osq = wv at * 
    clear nq osq
    obtain ⟨_, cc, cz, _, _⟩ := CV.out
    go_wp2
    go_ret2
    rw [ho]
    exact ⟨rfl, by have := CV.out.bump (s + 1); simpa using this⟩
theorem order2_in (lt : α → α → Bool) (d : Array α) (a b s n : Nat) (ha : a < n) (hb : b < n) : (order2 lt d a b s).1 < n ∧ (order2 lt d a b s).2.1 < n ∧ (order2 lt d a b s).2.2 ≤ s + 1 := by
  unfold order2
  split <;> simp <;> omega
theorem median_in (lt : α → α → Bool) (d : Array α) (a b c s n : Nat) (ha : a < n) (hb : b < n) (hc : c < n) : (median lt d a b c s).1 < n ∧ (median lt d a b c s).2 ≤ s + 3 := by
  have h1 := order2_in lt d a b s n ha hb
  have h2 := order2_in lt d (order2 lt d a b s).2.1 c (order2 lt d a b s).2.2 n h1.2.1 hc
  have h3 := order2_in lt d (order2 lt d a b s).1 (order2 lt d (order2 lt d a b s).2.1 c (order2 lt d a b s).2.2).1 (order2 lt d (order2 lt d a b s).2.1 c (order2 lt d a b s).2.2).2.2 n h1.1 h2.1
  exact ⟨h3.2.1, by unfold median; simp only []; omega⟩
set_option maxHeartbeats 8000000 in
set_option maxRecDepth 1000000 in
theorem medianM (L : SlLaysF0.n50 P ρ) (F : FamM P ρ k enc cf g u blk off d0 w0) (cap a b e c s : Nat) (d : Array α) (W : World) (hs : d0.size = d.size) (C : CntK enc k w0 blk off d c s W) (ha : a < d.size) (hb : b < d.size) (he : e < d.size) (hsz : d.size < 4611686018427387904) (hss : s + 3 < 4611686018427387904) :
    Calls P (ρ.f 50) #[.slice (some ⟨blk, off, none⟩) d.size cap, .int .i64 a, .int .i64 b, .int .i64 e, .pointer (some ⟨c, 0, none⟩), .func (.func g) #[u] #[]] W fun ex w' =>
      ex = .returned (.int .i64 (median (ltOf cf) d a b e s).1) ∧ CntK enc k w0 blk off d c (median (ltOf cf) d a b e s).2 w' := by
  have mixed := L.mixed; have t0 := L.t0; have a0 := L.a0; have z0 := L.z0; have v0 := L.v0; have t3 := L.t3; have a3 := L.a3; have z3 := L.z3; have v3 := L.v3; have t4 := L.t4; have a4 := L.a4; have z4 := L.z4; have v4 := L.v4; have t22 := L.t22; have a22 := L.a22; have z22 := L.z22; have v22 := L.v22; have t25 := L.t25; have a25 := L.a25; have z25 := L.z25; have v25 := L.v25; have t70 := L.t70; have a70 := L.a70; have z70 := L.z70; have v70 := L.v70; have t77 := L.t77; have a77 := L.a77; have z77 := L.z77; have v77 := L.v77
  obtain ⟨_, _, FG⟩ := L.f50
  have e57 : ∀ args w, (callFunc (ρ.f 57) args).run P w = .ok (.enter (ρ.f 57) args) w := L.f57.enters rfl
  have ST := Lib.hid (fun (W' : World) (t x y : Nat) (C' : CntK enc k w0 blk off d c t W') (hx : x < d.size) (hy : y < d.size) (ht : t < 4611686018427387904) => orderM (P := P) (ρ := ρ) { L with } F cap x y c t d W' hs C' hx hy hsz ht)
  obtain ⟨p1, q1, t1, h1⟩ : ∃ p q t, order2 (ltOf cf) d a b s = (p, q, t) := ⟨_, _, _, rfl⟩
  have i1 := order2_in (ltOf cf) d a b s d.size ha hb
  rw [h1] at i1
  obtain ⟨p2, q2, t2, h2⟩ : ∃ p q t, order2 (ltOf cf) d q1 e t1 = (p, q, t) := ⟨_, _, _, rfl⟩
  have i2 := order2_in (ltOf cf) d q1 e t1 d.size i1.2.1 he
  rw [h2] at i2
  obtain ⟨p3, q3, t3', h3⟩ : ∃ p q t, order2 (ltOf cf) d p1 p2 t2 = (p, q, t) := ⟨_, _, _, rfl⟩
  have hm : median (ltOf cf) d a b e s = (q3, t3') := by
    unfold median
    simp only [h1, h2, h3]
  rw [hm]
  simp only [] at i1 i2
  have c1 := ST.out W s a b C ha hb (by omega)
  rw [h1] at c1
  have c2 := fun W' C' => ST.out W' t1 q1 e C' i1.2.1 he (by omega)
  rw [h2] at c2
  have c3 := fun W' C' => ST.out W' t2 p1 p2 C' i1.1 i2.1 (by omega)
  rw [h3] at c3
  have H1 := Lib.hid c1
  have H2 := Lib.hid c2
  have H3 := Lib.hid c3
  clear hm h1 h2 h3 c1 c2 c3 ST F C
  go_enter FG, SlBodyF.n50_ntmps ρ
  go_wp2_with (go_at_fn_of (ρ.f 57) (Value.int .i64 (b : Int)); refine H1.out.mono ?_; rintro ex w1 ⟨rfl, C1⟩)
  go_wp2_with (go_at_fn_of (ρ.f 57) (Value.int .i64 (e : Int)); refine (H2.out _ C1).mono ?_; rintro ex w2 ⟨rfl, C2⟩)
  go_wp2_with (go_at_fn_of (ρ.f 57) (Value.int .i64 (p1 : Int)); refine (H3.out _ C2).mono ?_; rintro ex w3 ⟨rfl, C3⟩)
  go_ret
  exact ⟨rfl, C3⟩
set_option maxHeartbeats 8000000 in
set_option maxRecDepth 1000000 in
theorem medAdjM (L : SlLaysF0.n49 P ρ) (F : FamM P ρ k enc cf g u blk off d0 w0) (cap a c s : Nat) (d : Array α) (W : World) (hs : d0.size = d.size) (C : CntK enc k w0 blk off d c s W) (ha : 1 ≤ a) (hb : a + 1 < d.size) (hsz : d.size < 4611686018427387904) (hss : s + 3 < 4611686018427387904) :
    Calls P (ρ.f 49) #[.slice (some ⟨blk, off, none⟩) d.size cap, .int .i64 a, .pointer (some ⟨c, 0, none⟩), .func (.func g) #[u] #[]] W fun ex w' =>
      ex = .returned (.int .i64 (medianAdjacent (ltOf cf) d a s).1) ∧ CntK enc k w0 blk off d c (medianAdjacent (ltOf cf) d a s).2 w' := by
  have mixed := L.mixed; have t0 := L.t0; have a0 := L.a0; have z0 := L.z0; have v0 := L.v0; have t3 := L.t3; have a3 := L.a3; have z3 := L.z3; have v3 := L.v3; have t4 := L.t4; have a4 := L.a4; have z4 := L.z4; have v4 := L.v4; have t22 := L.t22; have a22 := L.a22; have z22 := L.z22; have v22 := L.v22; have t25 := L.t25; have a25 := L.a25; have z25 := L.z25; have v25 := L.v25; have t70 := L.t70; have a70 := L.a70; have z70 := L.z70; have v70 := L.v70; have t77 := L.t77; have a77 := L.a77; have z77 := L.z77; have v77 := L.v77
  obtain ⟨_, _, FG⟩ := L.f49
  have e50 : ∀ args w, (callFunc (ρ.f 50) args).run P w = .ok (.enter (ρ.f 50) args) w := L.f50.enters rfl
  have hm := medianM (P := P) (ρ := ρ) { L with } F cap (a - 1) a (a + 1) c s d W hs C (by omega) (by omega) hb hsz hss
  rw [show ((a - 1 : Nat) : Int) = (a : Int) - 1 by omega, show ((a + 1 : Nat) : Int) = (a : Int) + 1 by omega] at hm
  have HM := Lib.hid hm
  clear hm F C
  go_enter FG, SlBodyF.n49_ntmps ρ
  go_wp2_with (go_at_fn (ρ.f 50); refine HM.out.mono ?_; rintro ex w1 ⟨rfl, C1⟩)
  go_ret
  exact ⟨rfl, C1⟩
end Go.Proofs.Ytaghophkfogdgaa
