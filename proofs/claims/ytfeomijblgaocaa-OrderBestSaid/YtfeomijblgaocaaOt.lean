/- The walk of the statement OrderBest. Conditions: the slice reads as heads. -/
import Derived.Test.YtfeomijblgaocaaOd
import Derived.Test.YtfeomijblgaocaaOw
namespace Go.Proofs.Ytfeomijblgaocaa
open Go.RowKit

/-- Heads of unlike numbers, of the first k. -/
def Unlike (L : List Hd) (k : Nat) : Prop := ∀ (i j : Nat) (x y : Hd), i < j → j < k → L[i]? = some x → L[j]? = some y → x.seq ≠ y.seq
/-- Heads of unlike numbers, of the first k, and of the first m with the one behind the first k. -/
def UnlikeTo (L : List Hd) (k m : Nat) : Prop := Unlike L k ∧ ∀ (i : Nat) (x y : Hd), i < m → L[i]? = some x → L[k]? = some y → x.seq ≠ y.seq
theorem unlike_zero (L : List Hd) : Unlike L 0 := fun _ _ _ _ _ h => absurd h (by omega)
theorem unlikeTo_zero {L : List Hd} {k : Nat} (h : Unlike L k) : UnlikeTo L k 0 := ⟨h, fun _ _ _ h => absurd h (by omega)⟩
theorem unlikeTo_next {L : List Hd} {k : Nat} (h : UnlikeTo L k k) : Unlike L (k + 1) := fun i j x y hij hj hx hy => by
  by_cases hjk : j = k
  · subst hjk
    exact h.2 i x y hij hx hy
  · exact h.1 i j x y hij (by omega) hx hy
theorem unlikeTo_more {L : List Hd} {k m : Nat} {x y : Hd} (h : UnlikeTo L k m) (hx : L[m]? = some x) (hy : L[k]? = some y) (hne : y.seq ≠ x.seq) : UnlikeTo L k (m + 1) :=
  ⟨h.1, fun i x' y' hi hx' hy' => by
    by_cases him : i = m
    · subst him
      rw [hx] at hx'
      rw [hy] at hy'
      injection hx' with hx'
      injection hy' with hy'
      subst hx' hy'
      exact hne.symm
    · exact h.2 i x' y' (by omega) hx' hy'⟩
theorem best_newer {L : List Hd} {n m i : Nat} {g x : Hd} (hn : L.length = n) (hu : Unlike L n) (hb : bestOf L n = m) (hg : L[m]? = some g) (hx : L[i]? = some x) (hi : i < n) (hne : (i : Int) ≠ m) : nw g x = 1 := by
  refine nw_seq (bestOf_max L (fun i j x y hij hx hy => hu i j x y hij (by rw [← hn]; exact (List.getElem?_eq_some_iff.1 hy).1) hx hy) n (by omega) g ?_ i x hi hx (by rw [hb]; exact hne))
  rw [hb]
  simpa using hg

set_option maxRecDepth 100000 in
set_option maxHeartbeats 16000000 in
theorem best_walk (A : Option Addr) (n c : Nat) (L : List Hd) (w : World) (h : Hds w w.heap.size A n L) (hn : n ≤ maxLen) :
    Calls Try.prog 4 #[.slice A n c] w fun e w' => e = .returned (.bool true) ∧ Below w.heap.size w w' := by
  have HP := Lib.hid h
  have HM := Lib.hid hn
  unfold maxLen at hn
  clear h
  go_enter Try.func4, Try.ntmps4
  go_wp2_with fail
  refine (wakes_any _).mono ?_
  rintro e1 w1 ⟨rfl, hb1⟩
  have B1 := Lib.hid hb1
  have hs1 := hb1.size
  clear hb1
  by_cases h50 : 50 < n
  · have hd : decide (50 < (n : Int)) = true := by simp; omega
    go_wp2
    go_ret
    exact ⟨rfl, B1.out⟩
  have hd : decide (50 < (n : Int)) = false := by simp; omega
  go_wp2_with fail
  refine (may_any A n c L w.heap.size _ (HP.out.below B1.out) hs1 HM.out).mono ?_
  rintro e2 w2 ⟨rfl, hb2⟩
  have B2 := Lib.hid (B1.out.trans (hb2.mono hs1))
  have hs2 := B2.out.size
  clear hb2 B1
  cases hall : L.all ageB
  · go_wp2
    go_ret
    exact ⟨rfl, B2.out⟩
  have HG := Lib.hid hall
  clear hall
  go_wp2_with fail
  refine (best_any A n c L w.heap.size _ (HP.out.below B2.out) hs2 (by omega) HG.out).mono ?_
  rintro e3 w3 ⟨rfl, hb3⟩
  have B3 := Lib.hid (B2.out.trans (hb3.mono hs2))
  have hs3 := B3.out.size
  clear hb3 B2
  obtain ⟨bb, hbb⟩ : ∃ bb, bestOf L n = bb := ⟨_, rfl⟩
  have HBB := Lib.hid hbb
  rw [hbb]
  have hbb1 : -1 ≤ bb ∧ bb < n ∨ bb = -1 := by rw [← hbb]; exact bestOf_bd L n
  clear hbb
  go_wp2_with fail
  go_loopw [4, 26] (fun t i wr => ∃ (k : Nat) (v : Int), k ≤ n ∧ Hid (bestOf L k = v) ∧ t = .int .i64 v ∧ i = .int .i64 k ∧ Hid (Below w.heap.size w wr)) (fun _ i _ => n - (intOf i).toNat)
  case atStart => exact ⟨0, -1, Nat.zero_le _, Lib.hid rfl, rfl, rfl, B3⟩
  case round =>
  obtain ⟨k, v, hk, HV, rfl, rfl, hb⟩ := hrel
  have hsz := hb.out.size
  have hkl : k ≤ L.length := by rw [HP.out.1]; exact hk
  have hv1 : -1 ≤ v ∧ v < k ∨ v = -1 := by rw [← HV.out]; exact bestOf_bd L k
  have hv0 : -1 ≤ v := by omega
  by_cases hlt : k < n
  · obtain ⟨b, o, x, rfl, hbb, hx, hat⟩ := Arr.at (HP.out.below hb.out) hlt
    have hlt' : (k : Int) < n := by omega
    have BN := Lib.hid (hb.out.alloc hsz (.cells #[.int .i64 x.age, .int .i64 x.kind, .int .i64 x.id, .int .i64 x.adv, .int .i64 x.seq, .int .i64 x.sum, .int .i64 x.long] 23))
    by_cases hneg : v < 0
    · have d1 : decide (v < 0) = true := by simpa using hneg
      have HN := Lib.hid (bestOf_first L k x hx (by rw [HV.out]; exact hneg))
      obtain ⟨k0, k1, k2, k3, k4, k5, k6⟩ := hat
      clear hx hv1 hv0 hkl
      go_wp2_with fail
      go_quiet (fail)
      go_wp2
      go_roundw
      case rel => exact ⟨k + 1, k, by omega, HN, by go_num, by go_num, Lib.hid (below_drewN BN.out _)⟩
      case measure => simp [intOf]; omega
    · obtain ⟨m, rfl⟩ : ∃ m : Nat, v = m := ⟨v.toNat, by omega⟩
      have hmk : m < n := by omega
      obtain ⟨b2, o2, g, e2, hbb2, hg, hat2⟩ := Arr.at (HP.out.below hb.out) hmk
      injection e2 with e2
      injection e2 with e2 e3
      subst e2 e3
      have hbv : ¬ bestOf L k < 0 := by rw [HV.out]; omega
      have hgm : L[(bestOf L k).toNat]? = some g := by rw [HV.out]; simpa using hg
      have HY := Lib.hid (bestOf_new L k x g hx hbv hgm)
      have HNo := Lib.hid (bestOf_old L k x g hx hbv hgm)
      have HAx := Lib.hid (all_at HG.out hx)
      have HAg := Lib.hid (all_at HG.out hg)
      obtain ⟨k0, k1, k2, k3, k4, k5, k6⟩ := hat
      have hmn' : (m : Int) < n := by omega
      clear hx hg hbv hgm hv1 hv0 hkl hneg
      have KN := Lib.hid (Blk.new wr 23 #[.int .i64 x.age, .int .i64 x.kind, .int .i64 x.id, .int .i64 x.adv, .int .i64 x.seq, .int .i64 x.sum, .int .i64 x.long])
      have HT2 := Lib.hid (hat2.move (w' := wr.alloc (.cells #[.int .i64 x.age, .int .i64 x.kind, .int .i64 x.id, .int .i64 x.adv, .int .i64 x.seq, .int .i64 x.sum, .int .i64 x.long] 23)) (B' := w.heap.size) (fun q hq => World.cell?_alloc_lt wr _ q (by omega)) hbb2)
      clear hat2
      go_wp2_with fail
      generalize hwn : wr.alloc (.cells #[.int .i64 x.age, .int .i64 x.kind, .int .i64 x.id, .int .i64 x.adv, .int .i64 x.seq, .int .i64 x.sum, .int .i64 x.long] 23) = wn at *
      have hlt0 := KN.out.lt
      have hsn : wr.heap.size ≤ wn.heap.size := by omega
      clear hwn k0 k1 k2 k3 k4 k5 k6
      obtain ⟨k0, k1, k2, k3, k4, k5, k6⟩ := KN.out.seven
      obtain ⟨g0, g1, g2, g3, g4, g5, g6⟩ := HT2.out
      have BR := (Below.refl wn.heap.size wn)
      have p3 : b < wn.heap.size := by omega
      go_region_held3 (fun w' => Below wn.heap.size wn w' ∧ (∀ b o, b < wn.heap.size → w'.cell? ⟨b, o, none⟩ = wn.cell? ⟨b, o, none⟩)) ((refine keepW ?_; first | with_reducible exact hB2q | with_reducible exact BR | with_reducible exact ⟨rfl, rfl, rfl, Nat.le_refl _, fun _ _ => rfl⟩))
        ((go_at_call 10; refine (refNewer_any x g _ HAx.out HAg.out).mono ?_; rintro ea wa ⟨rfl, hba⟩; have hB2q := Below.trans (And.left ‹_›) (hba.mono (Below.size (And.left ‹_›)))))
      have BF := Lib.hid (BN.out.trans (hB2q.mono (by omega)))
      clear hB2q hba k0 k1 k2 k3 k4 k5 k6 g0 g1 g2 g3 g4 g5 g6 BN
      have dm : decide ((m : Int) < 0) = false := by simp
      by_cases hp : 0 < nw x g
      · have HE := Lib.hid (HY.out hp)
        have dp : decide (0 < nw x g) = true := by simpa using hp
        generalize nw x g = q at *
        go_wp2
        go_roundw
        case rel => exact ⟨k + 1, k, by omega, HE, by go_num, by go_num, BF⟩
        case measure => simp [intOf]; omega
      · have HE := Lib.hid (show bestOf L (k + 1) = (m : Int) by rw [HNo.out (by omega)]; exact HV.out)
        have dp : decide (0 < nw x g) = false := by simpa using hp
        generalize nw x g = q at *
        go_wp2
        go_roundw
        case rel => exact ⟨k + 1, m, by omega, HE, by go_num, by go_num, BF⟩
        case measure => simp [intOf]; omega
  obtain rfl : v = bb := by rw [← HV.out, ← HBB.out, show n = k by omega]
  clear hkl hv1 hv0 HV B3 hs3 hs2 hs1
  have dvv : (v != v) = false := by simp
  go_wp2_with fail
  go_loopw [7, 49] (fun t i wx => ∃ (k : Nat) (f : Bool), k ≤ n ∧ t = .bool f ∧ i = .int .i64 k ∧ Hid (f = true → Unlike L k) ∧ Hid (Below w.heap.size w wx)) (fun _ i _ => n - (intOf i).toNat)
  case atStart => exact ⟨0, true, Nat.zero_le _, rfl, rfl, Lib.hid (fun _ => unlike_zero L), hb⟩
  case round =>
  clear hb hsz hk hlt
  obtain ⟨k2, f2, hk2, rfl, rfl, HU, hb⟩ := hrel
  by_cases hlt : k2 < n
  · have hlt' : (k2 : Int) < n := by omega
    go_wp2_with fail
    go_loopw [7, 53] (fun t i wx => ∃ (m : Nat) (f : Bool), m ≤ k2 ∧ t = .bool f ∧ i = .int .i64 m ∧ Hid (f = true → UnlikeTo L k2 m) ∧ Hid (Below w.heap.size w wx)) (fun _ i _ => k2 - (intOf i).toNat)
    case atStart => exact ⟨0, f2, Nat.zero_le _, rfl, rfl, Lib.hid (fun h => unlikeTo_zero (HU.out h)), hb⟩
    case round =>
    obtain ⟨m, f, hm, rfl, rfl, HF, hb3⟩ := hrel
    by_cases hlm : m < k2
    · have hlm' : (m : Int) < k2 := by omega
      have hmn : m < n := by omega
      have hmn' : (m : Int) < n := by omega
      obtain ⟨b, o, x, rfl, hbb, hx, hat⟩ := Arr.at (HP.out.below hb3.out) hlt
      obtain ⟨b2, o2, y, e2, hbb2, hy, hat2⟩ := Arr.at (HP.out.below hb3.out) hmn
      injection e2 with e2
      injection e2 with e2 e3
      subst e2 e3
      obtain ⟨-, -, -, -, k4, -, -⟩ := hat
      obtain ⟨-, -, -, -, g4, -, -⟩ := hat2
      have HX := Lib.hid hx
      have HY := Lib.hid hy
      clear hx hy
      cases f
      · go_wp2_with fail
        go_quiet (fail)
        go_wp2
        go_roundw
        case rel => exact ⟨m + 1, false, by omega, rfl, by go_num, Lib.hid (fun h => by cases h), Lib.hid (below_drewN hb3.out _)⟩
        case measure => simp [intOf]; omega
      · by_cases hxy : x.seq = y.seq
        · have dq : (x.seq != y.seq) = false := by simp [hxy]
          clear hxy
          go_wp2_with fail
          go_quiet (fail)
          go_wp2
          go_roundw
          case rel => exact ⟨m + 1, false, by omega, rfl, by go_num, Lib.hid (fun h => by cases h), Lib.hid (below_drewN hb3.out _)⟩
          case measure => simp [intOf]; omega
        · have dq : (x.seq != y.seq) = true := by simp [hxy]
          have HN := Lib.hid (unlikeTo_more (HF.out rfl) HY.out HX.out hxy)
          clear hxy
          go_wp2_with fail
          go_quiet (fail)
          go_wp2
          go_roundw
          case rel => exact ⟨m + 1, true, by omega, rfl, by go_num, Lib.hid (fun _ => HN.out), Lib.hid (below_drewN hb3.out _)⟩
          case measure => simp [intOf]; omega
    · obtain rfl : m = k2 := by omega
      go_wp2_with fail
      go_roundw
      case rel => exact ⟨m + 1, f, by omega, rfl, by go_num, Lib.hid (fun h => unlikeTo_next (HF.out h)), hb3⟩
      case measure => simp [intOf]; omega
  have HUN := Lib.hid (show f2 = true → Unlike L n by rw [show n = k2 by omega]; exact HU.out)
  clear HU
  go_wp2_with fail
  clear hlt
  go_loopw [74] (fun i wx => ∃ (k : Nat), k ≤ n ∧ i = .int .i64 k ∧ Hid (Below w.heap.size w wx)) (fun i _ => n - (intOf i).toNat)
  case atStart => exact ⟨0, Nat.zero_le _, rfl, hb⟩
  case round =>
  obtain ⟨k3, hk3, rfl, hb4⟩ := hrel
  have hsz4 := hb4.out.size
  by_cases hlt : k3 < n
  · have hlt' : (k3 : Int) < n := by omega
    obtain ⟨b, o, x, rfl, hbb, hx, hat⟩ := Arr.at (HP.out.below hb4.out) hlt
    have BN := Lib.hid (hb4.out.alloc hsz4 (.cells #[.int .i64 x.age, .int .i64 x.kind, .int .i64 x.id, .int .i64 x.adv, .int .i64 x.seq, .int .i64 x.sum, .int .i64 x.long] 23))
    have HX := Lib.hid hx
    clear hx
    cases f2
    · obtain ⟨c0, c1, c2, c3, c4, c5, c6⟩ := hat
      go_wp2_with fail
      go_quiet (fail)
      go_wp2
      go_roundw
      case rel => exact ⟨k3 + 1, by omega, by go_num, Lib.hid (below_drewN BN.out _)⟩
      case measure => simp [intOf]; omega
    · by_cases hne : (k3 : Int) = v
      · have dn : ((k3 : Int) != v) = false := by simp [hne]
        clear hne
        obtain ⟨c0, c1, c2, c3, c4, c5, c6⟩ := hat
        go_wp2_with fail
        go_quiet (fail)
        go_wp2
        go_roundw
        case rel => exact ⟨k3 + 1, by omega, by go_num, Lib.hid (below_drewN BN.out _)⟩
        case measure => simp [intOf]; omega
      · have dn : ((k3 : Int) != v) = true := by simp [hne]
        have hv0 : 0 ≤ v := by rw [← HBB.out]; exact bestOf_pos L n (by omega) (by rw [HP.out.1]; exact Nat.le_refl _)
        obtain ⟨m, rfl⟩ : ∃ m : Nat, v = m := ⟨v.toNat, by omega⟩
        have hmn : m < n := by omega
        have hmn' : (m : Int) < n := by omega
        obtain ⟨b2, o2, g, e2, hbb2, hg, hat2⟩ := Arr.at (HP.out.below hb4.out) hmn
        injection e2 with e2
        injection e2 with e2 e3
        subst e2 e3
        have HN := Lib.hid (best_newer HP.out.1 (HUN.out rfl) HBB.out hg HX.out hlt hne)
        have HAx := Lib.hid (all_at HG.out HX.out)
        have HAg := Lib.hid (all_at HG.out hg)
        obtain ⟨c0, c1, c2, c3, c4, c5, c6⟩ := hat
        clear hg hne hv0
        have KN := Lib.hid (Blk.new wr 23 #[.int .i64 x.age, .int .i64 x.kind, .int .i64 x.id, .int .i64 x.adv, .int .i64 x.seq, .int .i64 x.sum, .int .i64 x.long])
        have HT2 := Lib.hid (hat2.move (w' := wr.alloc (.cells #[.int .i64 x.age, .int .i64 x.kind, .int .i64 x.id, .int .i64 x.adv, .int .i64 x.seq, .int .i64 x.sum, .int .i64 x.long] 23)) (B' := w.heap.size) (fun q hq => World.cell?_alloc_lt wr _ q (by omega)) hbb2)
        clear hat2
        go_wp2_with fail
        generalize hwn : wr.alloc (.cells #[.int .i64 x.age, .int .i64 x.kind, .int .i64 x.id, .int .i64 x.adv, .int .i64 x.seq, .int .i64 x.sum, .int .i64 x.long] 23) = wn at *
        have hlt0 := KN.out.lt
        have hsn : wr.heap.size ≤ wn.heap.size := by omega
        clear hwn c0 c1 c2 c3 c4 c5 c6
        obtain ⟨c0, c1, c2, c3, c4, c5, c6⟩ := KN.out.seven
        obtain ⟨g0, g1, g2, g3, g4, g5, g6⟩ := HT2.out
        have BR := (Below.refl wn.heap.size wn)
        have p3 : b < wn.heap.size := by omega
        go_region_held3 (fun w' => Below wn.heap.size wn w' ∧ (∀ b o, b < wn.heap.size → w'.cell? ⟨b, o, none⟩ = wn.cell? ⟨b, o, none⟩)) ((refine keepW ?_; first | with_reducible exact hB2q | with_reducible exact BR | with_reducible exact ⟨rfl, rfl, rfl, Nat.le_refl _, fun _ _ => rfl⟩))
          ((go_at_call 9; refine (newer_any g x _ HAg.out HAx.out).mono ?_; rintro ea wa ⟨rfl, hba⟩; rw [HN.out]; have hB2q := Below.trans (And.left ‹_›) (hba.mono (Below.size (And.left ‹_›)))))
        have BF := Lib.hid (BN.out.trans (hB2q.mono (by omega)))
        clear hB2q hba c0 c1 c2 c3 c4 c5 c6 g0 g1 g2 g3 g4 g5 g6 BN
        go_wp2
        go_roundw
        case rel => exact ⟨k3 + 1, by omega, by go_num, BF⟩
        case measure => simp [intOf]; omega
  · go_wp2
    go_ret
    exact ⟨rfl, hb4.out⟩
end Go.Proofs.Ytfeomijblgaocaa
