/- The sort's heap sort under a method's value. Conditions: what the words say. -/
import Derived.Test.YtaghophkfogdgaaVg
namespace Go.Proofs.Ytaghophkfogdgaa
open Go.Shelf Go.RowKit Go.Lib Go.Sort
variable {P : Program} {ρ : Ren} {α : Type} [Inhabited α]

variable {k : Nat} {enc : α → List Value} {cf : α → α → Int} {g : Nat} {u : Value} {blk off : Nat} {d0 : Array α} {w0 : World}
set_option maxHeartbeats 8000000 in
set_option maxRecDepth 1000000 in
theorem heapM (L : SlLaysF0.n21 P ρ) (F : FamM P ρ k enc cf g u blk off d0 w0) (cap a b : Nat) (d : Array α) (W : World) (hs : d0.size = d.size) (S : SWK enc k w0 blk off d W) (hab : a < b) (hb : b ≤ d.size) (hsz : d.size < 4611686018427387904) :
    Calls P (ρ.f 21) #[.slice (some ⟨blk, off, none⟩) d.size cap, .int .i64 a, .int .i64 b, .func (.func g) #[u] #[]] W fun e w' =>
      e = .returned (.tuple #[]) ∧ SWK enc k w0 blk off (heapSort (ltOf cf) d a b) w' := by
  have mixed := L.mixed; have t0 := L.t0; have a0 := L.a0; have z0 := L.z0; have v0 := L.v0; have t3 := L.t3; have a3 := L.a3; have z3 := L.z3; have v3 := L.v3; have t4 := L.t4; have a4 := L.a4; have z4 := L.z4; have v4 := L.v4; have t22 := L.t22; have a22 := L.a22; have z22 := L.z22; have v22 := L.v22; have t25 := L.t25; have a25 := L.a25; have z25 := L.z25; have v25 := L.v25
  obtain ⟨_, _, FG⟩ := L.f21
  have e46 : ∀ args w, (callFunc (ρ.f 46) args).run P w = .ok (.enter (ρ.f 46) args) w := L.f46.enters rfl
  have SI := Lib.hid (fun (W' : World) (lo hi : Nat) (dj : Array α) (hj : dj.size = d.size) (S' : SWK enc k w0 blk off dj W') (h1 : lo ≤ hi) (h2 : a + hi ≤ d.size) => siftM (P := P) (ρ := ρ) { L with } F cap lo hi a dj W' (by omega) S' h1 (by omega) (by omega))
  obtain ⟨aE, zE, eg, hcmp, R⟩ := F
  have S0 := Lib.hid S
  clear hcmp S
  obtain ⟨n0, hn0⟩ : ∃ n, n = b - a := ⟨_, rfl⟩
  obtain ⟨n1, hn1⟩ : ∃ n, n = n0 - 1 := ⟨_, rfl⟩
  obtain ⟨n2, hn2⟩ : ∃ n, n = n1 / 2 := ⟨_, rfl⟩
  have e1 : (b : Int) - (a : Int) = (n0 : Int) := by omega
  have e2 : (n0 : Int) - 1 = (n1 : Int) := by omega
  have e3 : (n1 : Int) / 2 = (n2 : Int) := by omega
  have e4 : IntKind.i64.wrap (n0 : Int) = (n0 : Int) := by rw [IntKind.wrap_i64]; omega
  have e5 : IntKind.i64.wrap (n1 : Int) = (n1 : Int) := by rw [IntKind.wrap_i64]; omega
  have e6 : IntKind.i64.wrap (n2 : Int) = (n2 : Int) := by rw [IntKind.wrap_i64]; omega
  have hn21 : n2 < n0 := by omega
  have hn10 : n0 ≤ n1 + 1 := by omega
  have hn11 : n1 + 1 ≤ n0 := by omega
  have han : a + n0 ≤ d.size := by omega
  have HS := Lib.hid (show heapPop (ltOf cf) a n0 (heapBuild (ltOf cf) n0 a (n2 + 1) d) = heapSort (ltOf cf) d a b by
    unfold heapSort
    rw [hn2, hn1, hn0])
  clear hn0 hn1 hn2
  go_enter FG, SlBodyF.n21_ntmps ρ
  go_wp2
  go_loopw [11] (fun vi wr => ∃ (n : Nat) (iv : Int) (dj : Array α), vi = .int .i64 iv ∧ iv = (n : Int) - 1 ∧ n ≤ n2 + 1 ∧ dj.size = d.size ∧ Hid (SWK enc k w0 blk off dj wr) ∧ Hid (heapBuild (ltOf cf) n0 a n dj = heapBuild (ltOf cf) n0 a (n2 + 1) d)) (fun vi _ => (intOf vi + 1).toNat)
  case atStart => exact ⟨n2 + 1, (n2 : Int), d, rfl, by omega, by omega, rfl, S0, Lib.hid rfl⟩
  case round =>
    clear S0
    obtain ⟨n, iv, dj, rfl, hiv, hn, hsj, SJ, HJ⟩ := hrel
    rcases n with _ | m
    · have HE := Lib.hid (show heapPop (ltOf cf) a n0 dj = heapSort (ltOf cf) d a b by
        rw [← HS.out, ← HJ.out]; rfl)
      clear HJ HS
      obtain rfl : iv = -1 := by omega
      clear hiv
      go_wp2
      go_loopw [12] (fun vi wr => ∃ (n : Nat) (iv : Int) (dk : Array α), vi = .int .i64 iv ∧ iv = (n : Int) - 1 ∧ n ≤ n0 ∧ dk.size = d.size ∧ Hid (SWK enc k w0 blk off dk wr) ∧ Hid (heapPop (ltOf cf) a n dk = heapSort (ltOf cf) d a b)) (fun vi _ => (intOf vi + 1).toNat)
      case atStart => exact ⟨n0, (n1 : Int), dj, rfl, by omega, by omega, hsj, SJ, HE⟩
      case round =>
        clear SJ HE hsj
        obtain ⟨n, iv, dk, rfl, hiv, hn, hsk, SK, HK⟩ := hrel
        rcases n with _ | m
        · obtain rfl : iv = -1 := by omega
          clear hiv
          have HF := Lib.hid (show dk = heapSort (ltOf cf) d a b from HK.out)
          go_wp2
          go_end0
          exact ⟨rfl, by rw [← HF.out]; exact SK.out⟩
        · obtain rfl : iv = (m : Int) := by omega
          have HN := Lib.hid (show heapPop (ltOf cf) a m (siftDown (ltOf cf) m a 0 (swp dk a (a + m))) = heapSort (ltOf cf) d a b from HK.out)
          clear HK hiv
          obtain ⟨p, hp⟩ : ∃ p, p = a + m := ⟨_, rfl⟩
          rw [← hp] at HN
          have e7 : (a : Int) + (m : Int) = (p : Int) := by omega
          have gm : (0 : Int) ≤ (m : Int) := by omega
          have hc := fun W' S' => SI.out W' 0 m (swp dk a p) (by rw [size_swp]; exact hsk) S' (by omega) (by omega)
          rw [show ((0 : Nat) : Int) = 0 from rfl] at hc
          rw [show (swp dk a p).size = d.size by rw [size_swp]; exact hsk] at hc
          have HCs := Lib.hid hc
          clear hc hp
          have a_p : (0 : Int) ≤ (a : Int) := by omega
          have a_u : (a : Int) < (d.size : Int) := by omega
          have a_n : ((a : Int)).toNat = a := by omega
          have a_w : IntKind.i64.wrap (a : Int) = (a : Int) := by rw [IntKind.wrap_i64]; omega
          have p_p : (0 : Int) ≤ (p : Int) := by omega
          have p_u : (p : Int) < (d.size : Int) := by omega
          have p_n : ((p : Int)).toNat = p := by omega
          have p_w : IntKind.i64.wrap (p : Int) = (p : Int) := by rw [IntKind.wrap_i64]; omega
          go_wp2_with fail
          have SW := Lib.hid (SK.out.swapped R a p (by omega) (by omega))
          have l1 := SK.out.ld1 R (by omega) P a (by omega)
          have l2 := SK.out.ld1 R (by omega) P p (by omega)
          have s1 := SK.out.st1 R (by omega) P a (by omega) dk[p]!
          have s2 := SK.out.st2 R (by omega) P a p (by omega) (by omega) dk[p]! dk[a]!
          have n1 : (enc dk[a]!).length = k := R.hk _
          have n2 : (enc dk[p]!).length = k := R.hk _
          generalize enc dk[a]! = cI at SW l1 s2 n1
          generalize enc dk[p]! = cJ at SW l2 s1 s2 n2
          clear SK
          go_wp2_with fail
          go_big_region_o
          clear l1 l2 s1 s2 n1 n2
          generalize (wr.drew.setCells blk (off + a * k) cJ).setCells blk (off + p * k) cI = wz at SW ⊢
          go_wp2_with (go_at_fn (ρ.f 46); refine (HCs.out _ SW.out).mono ?_; rintro e w1 ⟨rfl, S1⟩)
          have SZ := Lib.hid S1
          clear S1
          refine ⟨⟨m, (m : Int) - 1, _, by go_num, rfl, by omega, ?_, SZ, HN⟩, by first | (simp [intOf]; done) | (simp [intOf]; omega)⟩
          rw [size_siftDown (ltOf cf) _ _ _ _ _ (Nat.le_refl _), size_swp]
          exact hsk
    · obtain rfl : iv = (m : Int) := by omega
      have HN := Lib.hid (show heapBuild (ltOf cf) n0 a m (siftDown (ltOf cf) n0 a m dj) = heapBuild (ltOf cf) n0 a (n2 + 1) d from HJ.out)
      clear HJ hiv
      have gm : (0 : Int) ≤ (m : Int) := by omega
      have hc := SI.out wr m n0 dj hsj SJ.out (by omega) (by omega)
      rw [hsj] at hc
      have HCs := Lib.hid hc
      clear hc
      go_wp2_with (go_at_fn (ρ.f 46); refine HCs.out.mono ?_; rintro e w1 ⟨rfl, S1⟩)
      have SZ := Lib.hid S1
      clear S1
      refine ⟨⟨m, (m : Int) - 1, _, by go_num, rfl, by omega, ?_, SZ, HN⟩, by first | (simp [intOf]; done) | (simp [intOf]; omega)⟩
      rw [size_siftDown (ltOf cf) _ _ _ _ _ (Nat.le_refl _)]
      exact hsj
end Go.Proofs.Ytaghophkfogdgaa
