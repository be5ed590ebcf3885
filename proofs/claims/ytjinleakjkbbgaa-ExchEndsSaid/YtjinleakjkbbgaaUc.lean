/- The library's stable sort, walked over any program and any struct: rows change places, and are rotated. Conditions: what the words say; fewer than 2 to the 62 items. -/
import Derived.Test.YtjinleakjkbbgaaUb
import Derived.Lib.Hide
import Derived.BigRegion
import Derived.Deep.LoopGhost
namespace Go.Proofs.Ytjinleakjkbbgaa
open Go.Shelf Go.RowKit Go.Lib Go.Sort
variable {P : Program} {α : Type} [Inhabited α]

/-- What the sort is told once: rows of k cells, the compare's function g, with what it has caught. -/
structure StabFam (P : Program) (te k : Nat) (enc : α → List Value) (cf : α → α → Int) (g : Nat) (cb : Array Value) (blk off : Nat) (d0 : Array α) (w0 : World) : Prop where
  agg : ∀ w, (isAgg te).run P w = .ok true w
  cells : ∀ w, (Go.sizeOf te).run P w = .ok k w
  ent : ∀ args w, (callFunc g args).run P w = .ok (.enter g args) w
  cmp : CmpLays P g cb enc k cf blk off d0.size w0
  swo : SWO (ltOf cf)
  row : RowK enc k w0 blk off d0
variable {fs fr fm fi fb ft ts te tc ti tb tu t0 k : Nat} {enc : α → List Value} {cf : α → α → Int} {g : Nat} {cb : Array Value} {blk off : Nat} {d0 : Array α} {w0 : World}
set_option maxHeartbeats 8000000 in
set_option maxRecDepth 1000000 in
theorem swapRange_any (L : StabLays P fs fr fm fi fb ft ts te tc ti tb tu t0) (F : StabFam P te k enc cf g cb blk off d0 w0) (cap a b n : Nat) (d : Array α) (W : World) (hs : d0.size = d.size) (S : SWK enc k w0 blk off d W) (hab : a + n ≤ b) (hb : b + n ≤ d.size) (hsz : d.size < 4611686018427387904) :
    Calls P fs #[.slice (some ⟨blk, off, none⟩) d.size cap, .int .i64 a, .int .i64 b, .int .i64 n, .func (.func g) #[] cb] W fun e w' =>
      e = .returned (.tuple #[]) ∧ ∃ d', SWK enc k w0 blk off d' w' ∧ SwpOk d a b n d' ∧ ∀ lo hi, lo ≤ a → b + n ≤ hi → hi ≤ d.size → PermIn lo hi d d' := by
  have mixed := L.mixed; have u0 := L.u0; have a0 := L.a0; have z0 := L.z0; have v0 := L.v0; have ui := L.ui; have ai := L.ai; have zi := L.zi; have vi := L.vi; have ub := L.ub; have ab := L.ab; have zb := L.zb; have vb := L.vb; have us := L.us; have aS := L.aS; have zs := L.zs; have vs := L.vs; have uc := L.uc; have ac := L.ac; have zc := L.zc; have vc := L.vc
  obtain ⟨nm, FG⟩ := L.fsw
  obtain ⟨aE, zE, eg, hcmp, -, R⟩ := F
  have S0 := Lib.hid S
  clear hcmp S eg
  go_enter FG, bSwap_n nm ts te tc ti tb t0
  go_wp2
  go_loopw [10] (fun vi wr => ∃ (i : Nat) (dk : Array α), vi = .int .i64 i ∧ i ≤ n ∧ dk.size = d.size ∧ Hid (SWK enc k w0 blk off dk wr) ∧ Hid (SwpOk d a b i dk) ∧ Hid (∀ lo hi, lo ≤ a → b + n ≤ hi → hi ≤ d.size → PermIn lo hi d dk)) (fun vi _ => n - (intOf vi).toNat)
  case atStart => exact ⟨0, d, rfl, Nat.zero_le _, rfl, S0, Lib.hid (SwpOk.zero d a b), Lib.hid (fun lo hi _ _ _ => permIn_refl d lo hi)⟩
  case round =>
    clear S0
    obtain ⟨i, dk, rfl, hin, hsk, SK, OK, PK⟩ := hrel
    by_cases hlt : i < n
    · have hlt' : (i : Int) < (n : Int) := by omega
      obtain ⟨p, hp⟩ : ∃ p, p = a + i := ⟨_, rfl⟩
      obtain ⟨q, hq⟩ : ∃ q, q = b + i := ⟨_, rfl⟩
      have e1 : (a : Int) + (i : Int) = (p : Int) := by omega
      have e2 : (b : Int) + (i : Int) = (q : Int) := by omega
      have p_p : (0 : Int) ≤ (p : Int) := by omega
      have p_u : (p : Int) < (d.size : Int) := by omega
      have p_n : ((p : Int)).toNat = p := by omega
      have p_w : IntKind.i64.wrap (p : Int) = (p : Int) := by rw [IntKind.wrap_i64]; omega
      have q_p : (0 : Int) ≤ (q : Int) := by omega
      have q_u : (q : Int) < (d.size : Int) := by omega
      have q_n : ((q : Int)).toNat = q := by omega
      have q_w : IntKind.i64.wrap (q : Int) = (q : Int) := by rw [IntKind.wrap_i64]; omega
      have OZ := Lib.hid (show SwpOk d a b (i + 1) (swp dk p q) by rw [hp, hq]; exact OK.out.step n hlt hab hb)
      have PZ := Lib.hid (show ∀ lo hi, lo ≤ a → b + n ≤ hi → hi ≤ d.size → PermIn lo hi d (swp dk p q) from fun lo hi h1 h2 h3 => permIn_trans _ _ _ _ _ (PK.out lo hi h1 h2 h3) (swp_permIn dk lo hi p q (by omega) (by omega) (by omega) (by omega) (by omega)))
      have hpd : p < dk.size := by omega
      have hqd : q < dk.size := by omega
      clear hp hq OK PK
      go_wp2_with fail
      have SW := Lib.hid (SK.out.swapped R p q hpd hqd)
      have l1 := SK.out.ld1 R (by omega) P p hpd
      have l2 := SK.out.ld1 R (by omega) P q hqd
      have s1 := SK.out.st1 R (by omega) P p hpd dk[q]!
      have s2 := SK.out.st2 R (by omega) P p q hpd hqd dk[q]! dk[p]!
      have n1 : (enc dk[p]!).length = k := R.hk _
      have n2 : (enc dk[q]!).length = k := R.hk _
      generalize enc dk[p]! = cI at SW l1 s2 n1
      generalize enc dk[q]! = cJ at SW l2 s1 s2 n2
      clear SK
      go_wp2_with fail
      go_big_region_o
      clear l1 l2 s1 s2 n1 n2
      generalize (wr.drew.setCells blk (off + p * k) cJ).setCells blk (off + q * k) cI = wz at SW ⊢
      go_wp2
      go_roundw
      case rel => exact ⟨i + 1, _, by go_num, by omega, by rw [size_swp]; exact hsk, SW, OZ, PZ⟩
      case measure => simp [intOf]; omega
    · have hin' : i = n := by omega
      subst hin'
      go_wp2
      go_end0
      exact ⟨rfl, dk, SK.out, OK.out, PK.out⟩
end Go.Proofs.Ytjinleakjkbbgaa
