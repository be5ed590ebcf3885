/- The best of many heads: the call Best of package order. Conditions: the slice reads as heads, of ages from 0 to 60. -/
import Derived.Test.YtfeomijblgaocaaOc
import Derived.Deep.RegionHeld3
namespace Go.Proofs.Ytfeomijblgaocaa
open Go.RowKit

theorem keepW {w0 w' : World} (hb : Below w0.heap.size w0 w') : Below w0.heap.size w0 w' ∧ (∀ b o, b < w0.heap.size → w'.cell? ⟨b, o, none⟩ = w0.cell? ⟨b, o, none⟩) :=
  ⟨hb, fun b o h => hb.cell (p := ⟨b, o, none⟩) h⟩
theorem all_at {f : Hd → Bool} {L : List Hd} (h : L.all f = true) {k : Nat} {x : Hd} (hx : L[k]? = some x) : f x = true := by
  rw [List.all_eq_true] at h
  exact h x (List.mem_of_getElem? hx)

set_option maxRecDepth 8000 in
set_option maxHeartbeats 8000000 in
theorem best_any (A : Option Addr) (n c : Nat) (L : List Hd) (B : Nat) (w : World) (h : Hds w B A n L) (hB : B ≤ w.heap.size) (hn : n ≤ 50) (hall : L.all ageB = true) :
    Calls Try.prog 11 #[.slice A n c] w fun e w' => e = .returned (.int .i64 (bestOf L n)) ∧ Below w.heap.size w w' := by
  have HP := Lib.hid h
  have HG := Lib.hid hall
  clear h hall
  go_enter Try.func11, Try.ntmps11
  go_wp2_with fail
  go_loopw [3, 8] (fun t i wr => ∃ (k : Nat) (v : Int), k ≤ n ∧ Hid (bestOf L k = v) ∧ t = .int .i64 v ∧ i = .int .i64 k ∧ Hid (Below w.heap.size w wr)) (fun _ i _ => n - (intOf i).toNat)
  case atStart => exact ⟨0, -1, Nat.zero_le _, Lib.hid rfl, rfl, rfl, Lib.hid (Below.refl _ _)⟩
  case round =>
    obtain ⟨k, v, hk, HV, rfl, rfl, hb⟩ := hrel
    have hsz := hb.out.size
    have hkl : k ≤ L.length := by rw [HP.out.1]; exact hk
    have hv1 : -1 ≤ v ∧ v < k ∨ v = -1 := by rw [← HV.out]; exact bestOf_bd L k
    have hv0 : -1 ≤ v := by omega
    by_cases hlt : k < n
    · obtain ⟨b, o, x, rfl, hbb, hx, hat⟩ := Arr.at (HP.out.below (hb.out.mono hB)) hlt
      have HAT := Lib.hid hat
      have HX := Lib.hid hx
      have hlt' : (k : Int) < n := by omega
      have BN := Lib.hid (hb.out.alloc hsz (.cells #[.int .i64 x.age, .int .i64 x.kind, .int .i64 x.id, .int .i64 x.adv, .int .i64 x.seq, .int .i64 x.sum, .int .i64 x.long] 23))
      by_cases hneg : v < 0
      · have d1 : decide (v < 0) = true := by simpa using hneg
        have HN := Lib.hid (bestOf_first L k x hx (by rw [HV.out]; exact hneg))
        obtain ⟨k0, k1, k2, k3, k4, k5, k6⟩ := hat
        clear hx hv1 hv0 hkl
        go_wp2_with fail
        go_quiet (fail)
        go_wp2
        go_roundw
        case rel => exact ⟨k + 1, k, by omega, HN, by go_num, by go_num, Lib.hid (below_drewN BN.out _)⟩
        case measure => simp [intOf]; omega
      · have d1 : decide (v < 0) = false := by simpa using hneg
        obtain ⟨m, rfl⟩ : ∃ m : Nat, v = m := ⟨v.toNat, by omega⟩
        have hmk : m < n := by omega
        obtain ⟨b2, o2, g, e2, hbb2, hg, hat2⟩ := Arr.at (HP.out.below (hb.out.mono hB)) hmk
        injection e2 with e2
        injection e2 with e2 e3
        subst e2 e3
        have HG2 := Lib.hid hg
        have hbv : ¬ bestOf L k < 0 := by rw [HV.out]; omega
        have hgm : L[(bestOf L k).toNat]? = some g := by rw [HV.out]; simpa using hg
        have HY := Lib.hid (bestOf_new L k x g hx hbv hgm)
        have HNo := Lib.hid (bestOf_old L k x g hx hbv hgm)
        have HAx := Lib.hid (all_at HG.out hx)
        have HAg := Lib.hid (all_at HG.out hg)
        obtain ⟨k0, k1, k2, k3, k4, k5, k6⟩ := hat
        have hmn' : (m : Int) < n := by omega
        clear hx hg hbv hgm hv1 hv0 hkl d1 hneg
        have KN := Lib.hid (Blk.new wr 23 #[.int .i64 x.age, .int .i64 x.kind, .int .i64 x.id, .int .i64 x.adv, .int .i64 x.seq, .int .i64 x.sum, .int .i64 x.long])
        have HT2 := Lib.hid (hat2.move (w' := wr.alloc (.cells #[.int .i64 x.age, .int .i64 x.kind, .int .i64 x.id, .int .i64 x.adv, .int .i64 x.seq, .int .i64 x.sum, .int .i64 x.long] 23)) (B' := B) (fun q hq => World.cell?_alloc_lt wr _ q (by omega)) hbb2)
        clear hat2
        go_wp2_with fail
        generalize hwn : wr.alloc (.cells #[.int .i64 x.age, .int .i64 x.kind, .int .i64 x.id, .int .i64 x.adv, .int .i64 x.seq, .int .i64 x.sum, .int .i64 x.long] 23) = wn at *
        have hlt0 := KN.out.lt
        have hsn : wr.heap.size ≤ wn.heap.size := by omega
        clear hwn k0 k1 k2 k3 k4 k5 k6
        obtain ⟨k0, k1, k2, k3, k4, k5, k6⟩ := KN.out.seven
        obtain ⟨g0, g1, g2, g3, g4, g5, g6⟩ := HT2.out
        have BR := (Below.refl wn.heap.size wn)
        have p3 : b < wn.heap.size := by omega
        go_region_held3 (fun w' => Below wn.heap.size wn w' ∧ (∀ b o, b < wn.heap.size → w'.cell? ⟨b, o, none⟩ = wn.cell? ⟨b, o, none⟩)) ((refine keepW ?_; first | with_reducible exact hB2q | with_reducible exact BR | with_reducible exact ⟨rfl, rfl, rfl, Nat.le_refl _, fun _ _ => rfl⟩))
          ((go_at_call 9; refine (newer_any x g _ HAx.out HAg.out).mono ?_; rintro ea wa ⟨rfl, hba⟩; have hB2q := Below.trans (And.left ‹_›) (hba.mono (Below.size (And.left ‹_›)))))
        have BF := Lib.hid (BN.out.trans (hB2q.mono (by omega)))
        clear hB2q hba k0 k1 k2 k3 k4 k5 k6 g0 g1 g2 g3 g4 g5 g6 BN
        have dm : decide ((m : Int) < 0) = false := by simp
        by_cases hp : 0 < nw x g
        · have HE := Lib.hid (HY.out hp)
          have dp : decide (0 < nw x g) = true := by simpa using hp
          generalize nw x g = q at *
          go_wp2
          go_roundw
          case rel => exact ⟨k + 1, k, by omega, HE, by go_num, by go_num, BF⟩
          case measure => simp [intOf]; omega
        · have HE := Lib.hid (show bestOf L (k + 1) = (m : Int) by rw [HNo.out (by omega)]; exact HV.out)
          have dp : decide (0 < nw x g) = false := by simpa using hp
          generalize nw x g = q at *
          go_wp2
          go_roundw
          case rel => exact ⟨k + 1, m, by omega, HE, by go_num, by go_num, BF⟩
          case measure => simp [intOf]; omega
    · have HE := Lib.hid (show bestOf L n = v by rw [show n = k by omega]; exact HV.out)
      go_wp2
      go_ret
      exact ⟨ret_int HE.out.symm, hb.out⟩
end Go.Proofs.Ytfeomijblgaocaa
