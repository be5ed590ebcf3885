/- The walk of the statement ElectIs. Conditions: what the words say. -/
import Derived.Test.YtjklbimneamcjaaEr
namespace Go.Proofs.Ytjklbimneamcjaa
open Go.RowKit

set_option maxRecDepth 8000 in
set_option maxHeartbeats 8000000 in
theorem is_walk (A : Option Addr) (n c : Nat) (L : List Cd) (self : Int) (w : World) (hs : Cds w w.heap.size A n L) (hn : n ≤ maxLen) :
    Calls Try.prog 3 #[.slice A n c, .int .i64 self] w fun e w' => e = .returned (.bool true) ∧ Below w.heap.size w w' := by
  have HP := Lib.hid hs
  have HLEN := Lib.hid hs.1
  have HN := Lib.hid hn
  clear hs hn
  go_enter Try.func3, Try.ntmps3
  go_wp2_with fail
  refine (wakes_any w).mono ?_
  rintro e1 w1 ⟨rfl, hb1⟩
  have B1 := Lib.hid hb1
  have P1 := Lib.hid ((HP.out.below hb1).more hb1.size)
  clear hb1
  by_cases hn : 30 < n
  · have d1 : decide ((30 : Int) < (n : Int)) = true := by simp; omega
    go_wp2
    go_ret
    exact ⟨rfl, B1.out⟩
  have d1 : decide ((30 : Int) < (n : Int)) = false := by simp; omega
  go_wp2_with fail
  refine (apart_any P1.out (Nat.le_refl _) HN.out).mono ?_
  rintro e2 w2 ⟨⟨r, rfl, hr⟩, hb2⟩
  have B2 := Lib.hid (B1.out.trans (hb2.mono B1.out.size))
  have P2 := Lib.hid ((P1.out.below hb2).more hb2.size)
  clear hb2 P1 B1
  cases r
  · clear hr
    go_wp2
    go_ret
    exact ⟨rfl, B2.out⟩
  have HAP := Lib.hid (hr.1 rfl)
  clear hr
  have hn3 : n < 1048576 := by omega
  have hn4 : n ≤ 1048576 := by omega
  obtain ⟨td, htd⟩ : ∃ r, r = (goC L).1 := ⟨_, rfl⟩
  obtain ⟨tb, htb⟩ : ∃ r, r = (goC L).2 := ⟨_, rfl⟩
  have HT := Lib.hid (show goC L = (td, tb) by rw [htd, htb])
  obtain ⟨sd, hsd⟩ : ∃ r, r = (elecC L self).1 := ⟨_, rfl⟩
  obtain ⟨sb, hsb⟩ : ∃ r, r = (elecC L self).2 := ⟨_, rfl⟩
  have HSE := Lib.hid (show elecC L self = (sd, sb) by rw [hsd, hsb])
  have q1 : (td != td) = false := by simp
  have q2 : (tb != tb) = false := by simp
  have q3 : (sd != sd) = false := by simp
  have q4 : (sb != sb) = false := by simp
  clear htd htb hsd hsb
  go_wp2_with fail
  refine (go_any P2.out (Nat.le_refl _) HAP.out HN.out).mono ?_
  rintro e3 w3 ⟨rfl, hb3⟩
  rw [HT.out]
  dsimp only
  have B3 := Lib.hid (B2.out.trans (hb3.mono B2.out.size))
  have P3 := Lib.hid ((P2.out.below hb3).more hb3.size)
  clear hb3 P2 B2
  go_wp2_with fail
  refine (rgo_any P3.out (Nat.le_refl _) HAP.out hn3).mono ?_
  rintro e4 w4 ⟨rfl, hb4⟩
  rw [HT.out]
  dsimp only
  have B4 := Lib.hid (B3.out.trans (hb4.mono B3.out.size))
  have P4 := Lib.hid ((P3.out.below hb4).more hb4.size)
  clear hb4 P3 B3
  have KX := Lib.hid (Blk.new w4 28 #[.int .i64 td, .int .i64 tb])
  have BX := Lib.hid (B4.out.alloc B4.out.size (.cells #[.int .i64 td, .int .i64 tb] 28))
  have PX := Lib.hid (P4.out.below ((Below.refl w4.heap.size w4).alloc (Nat.le_refl _) (.cells #[.int .i64 td, .int .i64 tb] 28)))
  have hsx : w4.heap.size ≤ (w4.alloc (.cells #[.int .i64 td, .int .i64 tb] 28)).heap.size := by simp
  go_upto_region 7 with fail
  generalize w4.alloc (.cells #[.int .i64 td, .int .i64 tb] 28) = w5 at *
  have hlx := KX.out.lt
  obtain ⟨k0, k1⟩ := KX.out.two
  have P5 := Lib.hid (PX.out.more hsx)
  clear P4 B4 PX hsx
  go_wp2_with fail
  refine (elect_any self P5.out (Nat.le_refl _) HAP.out hn4).mono ?_
  rintro e6 w6 ⟨rfl, hb6⟩
  rw [HSE.out]
  dsimp only
  have B6 := Lib.hid (BX.out.trans (hb6.mono BX.out.size))
  have P6 := Lib.hid ((P5.out.below hb6).more hb6.size)
  clear hb6 P5 BX k0 k1 KX hlx
  go_wp2_with fail
  refine (relect_any self P6.out (Nat.le_refl _) HAP.out hn3).mono ?_
  rintro e7 w7 ⟨rfl, hb7⟩
  rw [HSE.out]
  dsimp only
  have B7 := Lib.hid (B6.out.trans (hb7.mono B6.out.size))
  clear hb7 P6 B6
  have KX := Lib.hid (Blk.new w7 28 #[.int .i64 sd, .int .i64 sb])
  have BX := Lib.hid (B7.out.alloc B7.out.size (.cells #[.int .i64 sd, .int .i64 sb] 28))
  go_upto_region 11 with fail
  generalize w7.alloc (.cells #[.int .i64 sd, .int .i64 sb] 28) = w8 at *
  have hlx := KX.out.lt
  obtain ⟨k0, k1⟩ := KX.out.two
  go_wp2_with fail
  clear k0 k1 KX hlx
  go_loopw [60] (fun i wr => ∃ j : Nat, j ≤ n ∧ i = .int .i64 j ∧ Hid (Below w.heap.size w wr)) (fun i _ => n - (intOf i).toNat)
  case atStart => exact ⟨0, Nat.zero_le _, rfl, BX⟩
  case round =>
    clear BX B7
    obtain ⟨j, hj, rfl, HB⟩ := hrel
    by_cases hlt : j < n
    · have hlt' : (j : Int) < n := by omega
      have hsr := HB.out.size
      obtain ⟨b, o, x, rfl, hbb, hx, hat⟩ := Arr.at (HP.out.below HB.out) hlt
      obtain ⟨y0, y1, y2, y3⟩ := hat
      obtain ⟨ed, hed⟩ : ∃ r, r = (elecC L x.id).1 := ⟨_, rfl⟩
      obtain ⟨eb, heb⟩ : ∃ r, r = (elecC L x.id).2 := ⟨_, rfl⟩
      have HEL := Lib.hid (show elecC L x.id = (ed, eb) by rw [hed, heb])
      have q5 : (ed != ed) = false := by simp
      have q6 : (eb != eb) = false := by simp
      clear hed heb hx
      have KN := Lib.hid (Blk.new wr 33 #[.int .i64 x.id, .int .i64 x.prio, .int .i64 x.dr, .int .i64 x.bdr])
      have BN := Lib.hid (HB.out.alloc hsr (.cells #[.int .i64 x.id, .int .i64 x.prio, .int .i64 x.dr, .int .i64 x.bdr] 33))
      go_upto_region 16 with fail
      generalize wr.alloc (.cells #[.int .i64 x.id, .int .i64 x.prio, .int .i64 x.dr, .int .i64 x.bdr] 33) = wn at *
      have hnl := KN.out.lt
      have hsn := BN.out.size
      clear y0 y1 y2 y3
      obtain ⟨k0, k1, k2, k3⟩ := KN.out.four
      go_wp2_with fail
      refine (elect_any x.id ((HP.out.below BN.out).more hsn) (Nat.le_refl _) HAP.out hn4).mono ?_
      rintro e3 w3 ⟨rfl, hb3⟩
      rw [HEL.out]
      dsimp only
      have K3 := Lib.hid (KN.out.below hb3 hnl)
      have B3 := Lib.hid (BN.out.trans (hb3.mono hsn))
      have hl3 := K3.out.lt
      have hs3 := B3.out.size
      clear hb3 k0 k1 k2 k3
      obtain ⟨k0, k1, k2, k3⟩ := K3.out.four
      go_wp2_with fail
      refine (relect_any x.id ((HP.out.below B3.out).more hs3) (Nat.le_refl _) HAP.out hn3).mono ?_
      rintro e4 w4 ⟨rfl, hb4⟩
      rw [HEL.out]
      dsimp only
      have B4 := Lib.hid (B3.out.trans (hb4.mono hs3))
      clear hb4 k0 k1 k2 k3
      have KX := Lib.hid (Blk.new w4 28 #[.int .i64 ed, .int .i64 eb])
      have BX := Lib.hid (B4.out.alloc B4.out.size (.cells #[.int .i64 ed, .int .i64 eb] 28))
      go_upto_region 18 with fail
      generalize w4.alloc (.cells #[.int .i64 ed, .int .i64 eb] 28) = w5 at *
      have hlx := KX.out.lt
      obtain ⟨k0, k1⟩ := KX.out.two
      go_wp2_with fail
      go_roundw
      case rel => exact ⟨j + 1, by omega, by go_num, BX⟩
      case measure => simp [intOf]; omega
    · go_wp2
      go_ret
      exact ⟨rfl, HB.out⟩

end Go.Proofs.Ytjklbimneamcjaa
