/- A router's election, by the program; who is apart. Conditions: numbers unlike, from 1 on; at most 1,000,000 others. -/
import Derived.Test.YtedlkoecnnmihaaIb
namespace Go.Proofs.Ytedlkoecnnmihaa
open Go.RowKit
theorem cells_own (i : If) (L : List Cd) : [.int .i64 i.self, .int .i64 i.prio, .int .i64 i.dr, .int .i64 i.bdr] ++ cellsBy encCd L = cellsBy encCd (ownI i :: L) := rfl

set_option maxRecDepth 8000 in
set_option maxHeartbeats 8000000 in
theorem apartL_any {w : World} {B n c : Nat} {A : Option Addr} {L : List Cd} (i : If) (hs : Cds w B A n L) (hB : B ≤ w.heap.size) (hn : n ≤ 1000000) :
    Calls Try.prog 8 #[.agg #[.int .i64 i.self, .int .i64 i.prio, .int .i64 i.state, .int .i64 i.dr, .int .i64 i.bdr], .slice A n c] w fun e w' => (∃ b : Bool, e = .returned (.bool b) ∧ (b = true ↔ ApartC (ownI i :: L))) ∧ Below w.heap.size w w' := by
  have HP := Lib.hid (hs.more hB)
  have HLEN := Lib.hid hs.1
  clear hs hB
  have B0 := Lib.hid ((Below.refl w.heap.size w).alloc (Nat.le_refl _) (.cells #[.int .i64 i.self, .int .i64 i.prio, .int .i64 i.state, .int .i64 i.dr, .int .i64 i.bdr] 23))
  obtain ⟨k0, k1, k2, k3, k4⟩ := (Blk.new w 23 #[.int .i64 i.self, .int .i64 i.prio, .int .i64 i.state, .int .i64 i.dr, .int .i64 i.bdr]).five
  go_enter Try.func8, Try.ntmps8
  go_wp2_with fail
  generalize w.alloc (.cells #[.int .i64 i.self, .int .i64 i.prio, .int .i64 i.state, .int .i64 i.dr, .int .i64 i.bdr] 23) = w0 at *
  refine (own_any i _).mono ?_
  rintro e1 w1 ⟨rfl, hb1⟩
  have B1 := Lib.hid (B0.out.trans (hb1.mono B0.out.size))
  have P1 := Lib.hid (HP.out.below B1.out)
  have O1 := Lib.hid (own_blk (n := 1) (size := 4) (base := w1.heap.size) (Blk.new w1 31 #[.int .i64 i.self, .int .i64 i.prio, .int .i64 i.dr, .int .i64 i.bdr]) rfl (by decide) (Nat.le_refl _))
  have BA := Lib.hid ((Below.refl w1.heap.size w1).alloc (Nat.le_refl _) (.cells #[.int .i64 i.self, .int .i64 i.prio, .int .i64 i.dr, .int .i64 i.bdr] 31))
  have PA := Lib.hid (P1.out.below (BA.out.mono B1.out.size))
  have hsl : w1.heap.size ≤ (w1.alloc (.cells #[.int .i64 i.self, .int .i64 i.prio, .int .i64 i.dr, .int .i64 i.bdr] 31)).heap.size := BA.out.size
  clear hb1 B0 k0 k1 k2 k3 k4
  go_wp2_with (at_builtin; refine wpList_append_any rfl (.tmp 7) (.tmp 8) 24 31 (.agg #[.int .i64 0, .int .i64 0, .int .i64 0, .int .i64 0]) 4 32 Try.underlying24 Try.infoCand rfl (by decide) (by decide) rfl w1.heap.size (.slice (some ⟨w1.heap.size, 0, none⟩) 1 1) 1 [.int .i64 i.self, .int .i64 i.prio, .int .i64 i.dr, .int .i64 i.bdr] (by rfl) O1.out A n c (cellsBy encCd L) (by rfl) (by rw [by_length encCd_len, HLEN.out]) PA.out.cells.1 PA.out.cells.2 (by_ones encCd_ones L) (by omega) hsl ?_; intro v2 w2 ho2 hg2; obtain ⟨A2, c2, rfl⟩ := own_slice ho2.out)
  have B2 := Lib.hid (B1.out.trans ((BA.out.trans (own_keeps7 O1.out hg2.out hsl)).mono B1.out.size))
  have P2 := Lib.hid (own_cds (L := ownI i :: L) (show w2.ownsRow w1.heap.size 31 4 (.slice A2 (1 + n) c2) (1 + n) (cellsBy encCd (ownI i :: L)) from ho2.out))
  have hn2 : 1 + n ≤ 1048576 := by omega
  clear ho2 hg2 hsl O1 BA PA P1 B1
  refine (apart_any P2.out (Nat.le_refl _) (by unfold maxLen; omega)).mono ?_
  rintro e3 w3 ⟨⟨b, rfl, hb⟩, hb3⟩
  go_wp2
  go_ret
  exact ⟨⟨b, rfl, hb⟩, B2.out.trans (hb3.mono B2.out.size)⟩

set_option maxRecDepth 8000 in
set_option maxHeartbeats 8000000 in
theorem elected_any {w : World} {B n c : Nat} {A : Option Addr} {L : List Cd} (i : If) (hs : Cds w B A n L) (hB : B ≤ w.heap.size) (hn : n ≤ 1000000) (ha : ApartC (ownI i :: L)) :
    Calls Try.prog 22 #[.agg #[.int .i64 i.self, .int .i64 i.prio, .int .i64 i.state, .int .i64 i.dr, .int .i64 i.bdr], .slice A n c] w fun e w' => e = .returned (.agg #[.int .i64 (voteI i L).self, .int .i64 (voteI i L).prio, .int .i64 (voteI i L).state, .int .i64 (voteI i L).dr, .int .i64 (voteI i L).bdr]) ∧ Below w.heap.size w w' := by
  have HP := Lib.hid (hs.more hB)
  have HLEN := Lib.hid hs.1
  have HAP := Lib.hid ha
  have H1 := Lib.hid (apart_own ha)
  clear hs hB ha
  obtain ⟨d, hd⟩ : ∃ d, d = (elecC (ownI i :: L) i.self).1 := ⟨_, rfl⟩
  obtain ⟨b, hb⟩ : ∃ b, b = (elecC (ownI i :: L) i.self).2 := ⟨_, rfl⟩
  have HEL := Lib.hid (fun (W : World) (A' : Option Addr) (c' : Nat) (h : Cds W W.heap.size A' (1 + n) (ownI i :: L)) => show Calls Try.prog 24 #[.int .i64 i.self, .slice A' (1 + n) c'] W fun e w' => e = .returned (.tuple #[.int .i64 d, .int .i64 b]) ∧ Below W.heap.size W w' by
    have := elect_any (k := c') i.self h (Nat.le_refl _) HAP.out (by omega)
    rw [← hd, ← hb] at this
    exact this)
  have HV := Lib.hid (show voteI i L = afterI i (d, b) by rw [voteI, hd, hb])
  rw [HV.out]
  simp only [afterI]
  clear hd hb HV
  generalize hst : (if d = i.self then 4 else if b = i.self then 3 else 2 : Int) = st
  have HST := Lib.hid hst
  clear hst
  have B0 := Lib.hid (below_new2 w (.cells #[.int .i64 i.self, .int .i64 i.prio, .int .i64 i.state, .int .i64 i.dr, .int .i64 i.bdr] 23) (.cells #[.int .i64 0, .int .i64 0, .int .i64 0, .int .i64 0, .int .i64 0] 23))
  have K0 := Lib.hid (blk_new07 w #[.int .i64 i.self, .int .i64 i.prio, .int .i64 i.state, .int .i64 i.dr, .int .i64 i.bdr] 23 (.cells #[.int .i64 0, .int .i64 0, .int .i64 0, .int .i64 0, .int .i64 0] 23))
  have R0 := Lib.hid (blk_new1 w (.cells #[.int .i64 i.self, .int .i64 i.prio, .int .i64 i.state, .int .i64 i.dr, .int .i64 i.bdr] 23) 23 #[.int .i64 0, .int .i64 0, .int .i64 0, .int .i64 0, .int .i64 0])
  obtain ⟨k0, k1, k2, k3, k4⟩ := K0.out.five
  go_enter Try.func22, Try.ntmps22
  go_wp2_with fail
  generalize (w.alloc (.cells #[.int .i64 i.self, .int .i64 i.prio, .int .i64 i.state, .int .i64 i.dr, .int .i64 i.bdr] 23)).alloc (.cells #[.int .i64 0, .int .i64 0, .int .i64 0, .int .i64 0, .int .i64 0] 23) = w0 at *
  generalize hr : w.heap.size + 1 = r at *
  generalize hp : w.heap.size = p at *
  have hwr : w.heap.size ≤ r := by omega
  refine (own_any i _).mono ?_
  rintro e1 w1 ⟨rfl, hb1⟩
  clear k0 k1 k2 k3 k4
  have hk0 := K0.out.lt
  have hr0 := R0.out.lt
  have B1 := Lib.hid (show Below w.heap.size w w1 from hp ▸ B0.out.trans (hb1.mono (by omega)))
  have K1 := Lib.hid (K0.out.below hb1 hk0)
  have R1 := Lib.hid (R0.out.below hb1 hr0)
  have hk1 := K1.out.lt
  have hr1 := R1.out.lt
  have P1 := Lib.hid ((show Cds w w.heap.size A n L from hp ▸ HP.out).below B1.out)
  have O1 := Lib.hid (own_blk (n := 1) (size := 4) (base := w1.heap.size) (Blk.new w1 31 #[.int .i64 i.self, .int .i64 i.prio, .int .i64 i.dr, .int .i64 i.bdr]) rfl (by decide) (Nat.le_refl _))
  have BA := Lib.hid ((Below.refl w1.heap.size w1).alloc (Nat.le_refl _) (.cells #[.int .i64 i.self, .int .i64 i.prio, .int .i64 i.dr, .int .i64 i.bdr] 31))
  have PA := Lib.hid (P1.out.below (BA.out.mono B1.out.size))
  have hsl : w1.heap.size ≤ (w1.alloc (.cells #[.int .i64 i.self, .int .i64 i.prio, .int .i64 i.dr, .int .i64 i.bdr] 31)).heap.size := BA.out.size
  clear hb1 B0 K0 R0 hk0 hr0 HP
  go_wp2_with (at_builtin; refine wpList_append_any rfl (.tmp 10) (.tmp 11) 24 31 (.agg #[.int .i64 0, .int .i64 0, .int .i64 0, .int .i64 0]) 4 32 Try.underlying24 Try.infoCand rfl (by decide) (by decide) rfl w1.heap.size (.slice (some ⟨w1.heap.size, 0, none⟩) 1 1) 1 [.int .i64 i.self, .int .i64 i.prio, .int .i64 i.dr, .int .i64 i.bdr] (by rfl) O1.out A n c (cellsBy encCd L) (by rfl) (by rw [by_length encCd_len, HLEN.out]) PA.out.cells.1 PA.out.cells.2 (by_ones encCd_ones L) (by omega) hsl ?_; intro v2 w2 ho2 hg2; obtain ⟨A2, c2, rfl⟩ := own_slice ho2.out; have HB2 := Lib.hid (BA.out.trans (own_keeps7 O1.out hg2.out hsl)); have K2 := Lib.hid (K1.out.below HB2.out hk1); obtain ⟨k0, k1, k2, k3, k4⟩ := K2.out.five)
  have B2 := Lib.hid (B1.out.trans (HB2.out.mono B1.out.size))
  have R2 := Lib.hid (R1.out.below HB2.out hr1)
  have P2 := Lib.hid (own_cds (L := ownI i :: L) (show w2.ownsRow w1.heap.size 31 4 (.slice A2 (1 + n) c2) (1 + n) (cellsBy encCd (ownI i :: L)) from ho2.out))
  have hk2 := K2.out.lt
  have hr2 := R2.out.lt
  clear ho2 hg2 hsl O1 BA PA P1 B1 HB2 K1 R1 hk1 hr1 k0 k1 k2 k3 k4
  refine (HEL.out _ _ _ P2.out).mono ?_
  rintro e3 w3 ⟨rfl, hb3⟩
  have B3 := Lib.hid (B2.out.trans (hb3.mono B2.out.size))
  have K3 := Lib.hid (K2.out.below hb3 hk2)
  have R3 := Lib.hid (R2.out.below hb3 hr2)
  have hk3 := K3.out.lt
  have hr3 := R3.out.lt
  obtain ⟨k0, k1, k2, k3, k4⟩ := K3.out.five
  clear hb3 B2 K2 R2 hk2 hr2 P2
  go_wp2_with fail
  refine (names_any d i.self _).mono ?_
  rintro e4 w4 ⟨rfl, hb4⟩
  clear k0 k1 k2 k3 k4
  have B4 := Lib.hid (B3.out.trans (hb4.mono B3.out.size))
  have K4 := Lib.hid (K3.out.below hb4 hk3)
  have R4 := Lib.hid (R3.out.below hb4 hr3)
  have hk4 := K4.out.lt
  have hr4 := R4.out.lt
  obtain ⟨k0, k1, k2, k3, k4⟩ := K4.out.five
  clear hb4 B3 K3 R3 hk3 hr3
  have h1 := H1.out
  by_cases hd : d = i.self
  · rw [show (d != 0 && d == i.self) = true by simp [hd]; omega]
    have HF := Lib.hid (show (Ending.returned (.agg #[.int .i64 i.self, .int .i64 i.prio, .int .i64 4, .int .i64 d, .int .i64 b])) = .returned (.agg #[.int .i64 i.self, .int .i64 i.prio, .int .i64 st, .int .i64 d, .int .i64 b]) by rw [← HST.out, if_pos hd])
    clear hd h1
    go_wp2_with fail
    refine (moved_any i 4 d b _).mono ?_
    rintro e9 w9 ⟨rfl, hb9⟩
    clear k0 k1 k2 k3 k4
    have R9 := Lib.hid (R4.out.below hb9 hr4)
    have B9 := Lib.hid (B4.out.trans (hb9.mono B4.out.size))
    obtain ⟨k0, k1, k2, k3, k4⟩ := R9.out.five
    obtain ⟨z0, z1, z2, z3, z4⟩ := R9.out.thaw
    have hr9 := R9.out.lt
    clear hb9 R4 B4 hr4
    go_wp2_with fail
    have KF := blk_put5 (v0 := .int .i64 i.self) (v1 := .int .i64 i.prio) (v2 := .int .i64 4) (v3 := .int .i64 d) (v4 := .int .i64 b) R9.out
    have BF := below_put5 (v0 := .int .i64 i.self) (v1 := .int .i64 i.prio) (v2 := .int .i64 4) (v3 := .int .i64 d) (v4 := .int .i64 b) B9.out hwr
    clear k0 k1 k2 k3 k4 z0 z1 z2 z3 z4
    generalize ((((w9.setCell ⟨r, 0, none⟩ (.int .i64 i.self)).setCell ⟨r, 1, none⟩ (.int .i64 i.prio)).setCell ⟨r, 2, none⟩ (.int .i64 4)).setCell ⟨r, 3, none⟩ (.int .i64 d)).setCell ⟨r, 4, none⟩ (.int .i64 b) = wz at *
    obtain ⟨k0, k1, k2, k3, k4⟩ := KF.five
    refine bodyPost_ret (v := .agg #[.int .i64 i.self, .int .i64 i.prio, .int .i64 4, .int .i64 d, .int .i64 b]) (by simp [results, Try.results22, go_sem, *]) rfl ?_
    exact ⟨HF.out, hp ▸ BF⟩
  · rw [show (d != 0 && d == i.self) = false by simp [hd]]
    clear h1
    go_wp2_with fail
    refine (names_any b i.self _).mono ?_
    rintro e5 w5 ⟨rfl, hb5⟩
    clear k0 k1 k2 k3 k4
    have B5 := Lib.hid (B4.out.trans (hb5.mono B4.out.size))
    have K5 := Lib.hid (K4.out.below hb5 hk4)
    have R5 := Lib.hid (R4.out.below hb5 hr4)
    have hk5 := K5.out.lt
    have hr5 := R5.out.lt
    obtain ⟨k0, k1, k2, k3, k4⟩ := K5.out.five
    clear hb5 B4 K4 R4 hk4 hr4
    have h1 := H1.out
    by_cases hbb : b = i.self
    · rw [show (b != 0 && b == i.self) = true by simp [hbb]; omega]
      have HF := Lib.hid (show (Ending.returned (.agg #[.int .i64 i.self, .int .i64 i.prio, .int .i64 3, .int .i64 d, .int .i64 b])) = .returned (.agg #[.int .i64 i.self, .int .i64 i.prio, .int .i64 st, .int .i64 d, .int .i64 b]) by rw [← HST.out, if_neg hd, if_pos hbb])
      clear hd h1 hbb
      go_wp2_with fail
      refine (moved_any i 3 d b _).mono ?_
      rintro e9 w9 ⟨rfl, hb9⟩
      clear k0 k1 k2 k3 k4
      have R9 := Lib.hid (R5.out.below hb9 hr5)
      have B9 := Lib.hid (B5.out.trans (hb9.mono B5.out.size))
      obtain ⟨k0, k1, k2, k3, k4⟩ := R9.out.five
      obtain ⟨z0, z1, z2, z3, z4⟩ := R9.out.thaw
      have hr9 := R9.out.lt
      clear hb9 R5 B5 hr5
      go_wp2_with fail
      have KF := blk_put5 (v0 := .int .i64 i.self) (v1 := .int .i64 i.prio) (v2 := .int .i64 3) (v3 := .int .i64 d) (v4 := .int .i64 b) R9.out
      have BF := below_put5 (v0 := .int .i64 i.self) (v1 := .int .i64 i.prio) (v2 := .int .i64 3) (v3 := .int .i64 d) (v4 := .int .i64 b) B9.out hwr
      clear k0 k1 k2 k3 k4 z0 z1 z2 z3 z4
      generalize ((((w9.setCell ⟨r, 0, none⟩ (.int .i64 i.self)).setCell ⟨r, 1, none⟩ (.int .i64 i.prio)).setCell ⟨r, 2, none⟩ (.int .i64 3)).setCell ⟨r, 3, none⟩ (.int .i64 d)).setCell ⟨r, 4, none⟩ (.int .i64 b) = wz at *
      obtain ⟨k0, k1, k2, k3, k4⟩ := KF.five
      refine bodyPost_ret (v := .agg #[.int .i64 i.self, .int .i64 i.prio, .int .i64 3, .int .i64 d, .int .i64 b]) (by simp [results, Try.results22, go_sem, *]) rfl ?_
      exact ⟨HF.out, hp ▸ BF⟩
    · rw [show (b != 0 && b == i.self) = false by simp [hbb]]
      have HF := Lib.hid (show (Ending.returned (.agg #[.int .i64 i.self, .int .i64 i.prio, .int .i64 2, .int .i64 d, .int .i64 b])) = .returned (.agg #[.int .i64 i.self, .int .i64 i.prio, .int .i64 st, .int .i64 d, .int .i64 b]) by rw [← HST.out, if_neg hd, if_neg hbb])
      clear hd h1 hbb
      go_wp2_with fail
      refine (moved_any i 2 d b _).mono ?_
      rintro e9 w9 ⟨rfl, hb9⟩
      clear k0 k1 k2 k3 k4
      have R9 := Lib.hid (R5.out.below hb9 hr5)
      have B9 := Lib.hid (B5.out.trans (hb9.mono B5.out.size))
      obtain ⟨k0, k1, k2, k3, k4⟩ := R9.out.five
      obtain ⟨z0, z1, z2, z3, z4⟩ := R9.out.thaw
      have hr9 := R9.out.lt
      clear hb9 R5 B5 hr5
      go_wp2_with fail
      have KF := blk_put5 (v0 := .int .i64 i.self) (v1 := .int .i64 i.prio) (v2 := .int .i64 2) (v3 := .int .i64 d) (v4 := .int .i64 b) R9.out
      have BF := below_put5 (v0 := .int .i64 i.self) (v1 := .int .i64 i.prio) (v2 := .int .i64 2) (v3 := .int .i64 d) (v4 := .int .i64 b) B9.out hwr
      clear k0 k1 k2 k3 k4 z0 z1 z2 z3 z4
      generalize ((((w9.setCell ⟨r, 0, none⟩ (.int .i64 i.self)).setCell ⟨r, 1, none⟩ (.int .i64 i.prio)).setCell ⟨r, 2, none⟩ (.int .i64 2)).setCell ⟨r, 3, none⟩ (.int .i64 d)).setCell ⟨r, 4, none⟩ (.int .i64 b) = wz at *
      obtain ⟨k0, k1, k2, k3, k4⟩ := KF.five
      refine bodyPost_ret (v := .agg #[.int .i64 i.self, .int .i64 i.prio, .int .i64 2, .int .i64 d, .int .i64 b]) (by simp [results, Try.results22, go_sem, *]) rfl ?_
      exact ⟨HF.out, hp ▸ BF⟩
end Go.Proofs.Ytedlkoecnnmihaa
