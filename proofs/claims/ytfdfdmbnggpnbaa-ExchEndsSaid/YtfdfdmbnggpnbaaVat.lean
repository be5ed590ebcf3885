/- The walk of the statement ExchEnds. Conditions: what the words say. -/
import Derived.StillTailTactics
import Derived.Test.YtfdfdmbnggpnbaaVas
namespace Go.Proofs.Ytfdfdmbnggpnbaa
open Go.RowKit Go.Lib Go.Sort Go.Deep

set_option maxRecDepth 20000 in
set_option maxHeartbeats 16000000 in
theorem ends_walk (n0 n1 n2 n3 : Int) {w : World} {A A' : Option Addr} {n c n' c' : Nat} {S S' : List La} {Ab : Option Addr} {nb cb : Nat} {Lb : List (Pc × Nat)} (hS : Las w w.heap.size A n S) (hn : n ≤ maxLen) (hS' : Las w w.heap.size A' n' S') (hn' : n' ≤ maxLen) (hL : Dds w w.heap.size Ab nb Lb) (hnb : nb ≤ maxLen) :
    Calls Try.prog 8 #[.agg #[.int .i64 n0, .int .i64 n1, .int .i64 n2, .int .i64 n3], .agg #[.slice A n c, .slice A' n' c'], .slice Ab nb cb] w fun e w' => e = .returned (.bool true) ∧ Below w.heap.size w w' := by
  have HS := Lib.hid hS
  have HS' := Lib.hid hS'
  have HL := Lib.hid hL
  have HN := Lib.hid hn
  have HN' := Lib.hid hn'
  have B0 := Lib.hid (((Below.refl w.heap.size w).alloc (Nat.le_refl _) (.cells #[.int .i64 n0, .int .i64 n1, .int .i64 n2, .int .i64 n3] 58)).alloc (by simp) (.cells #[.slice A n c, .slice A' n' c'] 59))
  have N0 := Lib.hid ((Blk.new w 58 #[.int .i64 n0, .int .i64 n1, .int .i64 n2, .int .i64 n3]).alloc (.cells #[.slice A n c, .slice A' n' c'] 59))
  have M0 := Lib.hid (show Blk ((w.alloc (.cells #[.int .i64 n0, .int .i64 n1, .int .i64 n2, .int .i64 n3] 58)).alloc (.cells #[.slice A n c, .slice A' n' c'] 59)) (w.heap.size + 1) 59 #[.slice A n c, .slice A' n' c'] by
    have := Blk.new (w.alloc (.cells #[.int .i64 n0, .int .i64 n1, .int .i64 n2, .int .i64 n3] 58)) 59 #[.slice A n c, .slice A' n' c']
    simpa using this)
  unfold maxLen at hnb
  clear hS hS' hL hn hn'
  go_enter Try.func8, Try.ntmps8
  go_wp2_with fail
  refine (wakes14 _).mono ?_
  rintro e1 w1 ⟨rfl, hb1⟩
  have B1 := Lib.hid (B0.out.trans (hb1.mono B0.out.size))
  have N1 := Lib.hid (N0.out.below hb1 N0.out.lt)
  have M1 := Lib.hid (M0.out.below hb1 M0.out.lt)
  clear hb1 B0 N0 M0
  have m0 : w1.cell? ⟨w.heap.size + 1, 0, none⟩ = some (.slice A n c) := M1.out.cell 0
  have m1 : w1.cell? ⟨w.heap.size + 1, 1, none⟩ = some (.slice A' n' c') := M1.out.cell 1
  have hml := M1.out.lt
  go_wp2_with fail
  refine (many14 A n c S w.heap.size w1 (HS.out.below B1.out) B1.out.size HN.out).mono ?_
  rintro e2 w2 ⟨⟨t, rfl, ht⟩, hb2⟩
  have B2 := Lib.hid (B1.out.trans (hb2.mono B1.out.size))
  have N2 := Lib.hid (N1.out.below hb2 N1.out.lt)
  have M2 := Lib.hid (M1.out.below hb2 M1.out.lt)
  clear hb2 B1 N1 M1 m0 m1 hml
  cases t
  case true =>
    go_wp2
    go_ret
    exact ⟨rfl, B2.out⟩
  obtain ⟨hn60, -⟩ := ht rfl
  clear ht HN
  have m1 : w2.cell? ⟨w.heap.size + 1, 1, none⟩ = some (.slice A' n' c') := M2.out.cell 1
  have hml := M2.out.lt
  go_wp2_with fail
  refine (many14 A' n' c' S' w.heap.size w2 (HS'.out.below B2.out) B2.out.size HN'.out).mono ?_
  rintro e3 w3 ⟨⟨t, rfl, ht⟩, hb3⟩
  have B3 := Lib.hid (B2.out.trans (hb3.mono B2.out.size))
  have N3 := Lib.hid (N2.out.below hb3 N2.out.lt)
  have M3 := Lib.hid (M2.out.below hb3 M2.out.lt)
  clear hb3 B2 N2 M2 m1 hml
  cases t
  case true =>
    go_wp2
    go_ret
    exact ⟨rfl, B3.out⟩
  obtain ⟨hn60', -⟩ := ht rfl
  clear ht HN'
  by_cases hnb2 : 50 < nb
  · have d1 : decide (50 < (nb : Int)) = true := by simp; omega
    go_wp2
    go_ret
    exact ⟨rfl, B3.out⟩
  have d1 : decide (50 < (nb : Int)) = false := by simp; omega
  obtain ⟨k0, k1, k2, k3⟩ := N3.out.four
  have hkl := N3.out.lt
  have m0 : w3.cell? ⟨w.heap.size + 1, 0, none⟩ = some (.slice A n c) := M3.out.cell 0
  have m1 : w3.cell? ⟨w.heap.size + 1, 1, none⟩ = some (.slice A' n' c') := M3.out.cell 1
  have hml := M3.out.lt
  by_cases hne : n0 = n1
  · have d2 : (n0 == n1) = true := by simpa using hne
    clear hne
    go_wp2
    go_ret
    exact ⟨rfl, B3.out⟩
  have d2 : (n0 == n1) = false := by simpa using hne
  have HNE := Lib.hid hne
  clear hne
  go_wp2_with fail
  refine (two_any n0 n1 n2 n3 A n c A' n' c' _).mono ?_
  rintro e4 w4 h4
  obtain ⟨s, p, s', p', N, rfl, hd4, hN4, hb4⟩ := duoP_new h4
  have D4 := Lib.hid hd4
  have B4 := Lib.hid (B3.out.trans (hb4.mono B3.out.size))
  have N4 := Lib.hid (N3.out.below hb4 N3.out.lt)
  have M4 := Lib.hid (M3.out.below hb4 M3.out.lt)
  have HNZ := Lib.hid (show ∀ q, N q → w.heap.size + 1 < q ∧ q < w4.heap.size from fun q hq => by
    have h1 := hN4 q hq
    have h2 := M3.out.lt
    exact ⟨by omega, h1.2⟩)
  clear h4 hd4 hb4 hN4 k0 k1 k2 k3 hkl m0 m1 hml N3 B3 M3
  obtain ⟨K0, hK0⟩ := told_ex S
  obtain ⟨K1, hK1⟩ := told_ex S'
  have HK0 := Lib.hid hK0
  have HK1 := Lib.hid hK1
  have HK0l := Lib.hid (show K0.length ≤ 60 by have := told_len hK0; have := HS.out.1; omega)
  have HK1l := Lib.hid (show K1.length ≤ 60 by have := told_len hK1; have := HS'.out.1; omega)
  clear hK0 hK1
  obtain ⟨P, hP⟩ : ∃ P : Nat → Prop, (fun q => q < w4.heap.size ∧ ¬ N q) = P := ⟨_, rfl⟩
  have HPlt := Lib.hid (show ∀ q, P q → q < w4.heap.size from fun q hq => by
    rw [← hP] at hq
    exact hq.1)
  have HPB := Lib.hid (show ∀ q, q < w.heap.size + 2 → P q from fun q hq => by
    rw [← hP]
    exact ⟨by have := M4.out.lt; omega, fun e => by have := (HNZ.out q e).1; omega⟩)
  have D5 := Lib.hid (show DuoP w4 P s p s' p' A n c A' n' c' ⟨newE n0 n1 n2, []⟩ ⟨newE n1 n0 n3, []⟩ by
    rw [← hP]
    exact D4.out w4.heap.size)
  have J5 := Lib.hid (show Duo n0 n1 n2 n3 K0 K1 (2 * 0) true ⟨newE n0 n1 n2, []⟩ ⟨newE n1 n0 n3, []⟩ from Duo.start)
  have C5 := Lib.hid (Chg.refl (fun q => ¬ P q) w4)
  clear hP HNZ D4
  go_wp2_with fail
  go_loopw [47] (fun s47 wr => ∃ (k : Nat) (x y : Sd), s47 = .int .i64 k ∧ k ≤ 50 ∧ Hid (DuoP wr P s p s' p' A n c A' n' c' x y) ∧ Hid (Chg (fun q => ¬ P q) w4 wr) ∧ Hid (Duo n0 n1 n2 n3 K0 K1 (2 * k) true x y)) (fun s47 _ => 51 - (intOf s47).toNat)
  case atStart => exact ⟨0, _, _, rfl, by omega, D5, C5, J5⟩
  case round =>
    clear D5 C5 J5
    obtain ⟨k, x, y, rfl, hk, DR, CR, JR⟩ := hrel
    have BR := Lib.hid (B4.out.trans (chgP_below CR.out (fun q hq => HPB.out q (by omega)) B4.out.size))
    have HPr := Lib.hid (show ∀ q, P q → q < wr.heap.size from fun q hq => Nat.lt_of_lt_of_le (HPlt.out q hq) CR.out.size)
    by_cases hlt : k < 50
    · have hlt' : (k : Int) < 50 := by omega
      go_wp2_with fail
      refine (duoP_first DR.out (HS.out.below BR.out) BR.out.size HPr.out (fun q hq => HPB.out q (by omega)) (by omega) HK0.out (by have h1 := JR.out.took.1.1; have h2 := HK1l.out; omega)).mono ?_
      rintro e7 w7 ⟨rfl, hd7, hc7⟩
      have J7 := Lib.hid (JR.out.first HNE.out).2
      have D7 := Lib.hid hd7
      have C7 := Lib.hid (chgP_trans CR.out hc7)
      have B7 := Lib.hid (BR.out.trans (chgP_below hc7 (fun q hq => HPB.out q (by omega)) BR.out.size))
      have HP7 := Lib.hid (show ∀ q, P q → q < w7.heap.size from fun q hq => Nat.lt_of_lt_of_le (HPr.out q hq) hc7.size)
      clear hd7 hc7 DR CR BR HPr JR
      generalize hearsS K0 x y = x7 at *
      go_wp2_with fail
      refine (duoP_first D7.out.swap (HS'.out.below B7.out) B7.out.size HP7.out (fun q hq => HPB.out q (by omega)) (by omega) HK1.out (by have h1 := J7.out.took.2.1; have h2 := HK0l.out; omega)).mono ?_
      rintro e8 w8 ⟨rfl, hd8, hc8⟩
      have J8 := Lib.hid (show Duo n0 n1 n2 n3 K0 K1 (2 * (k + 1)) true x7 (hearsS K1 y x7) from (J7.out.second HNE.out).2)
      have D8 := Lib.hid hd8.swap
      have C8 := Lib.hid (chgP_trans C7.out hc8)
      clear hd8 hc8 D7 C7 B7 HP7 J7
      generalize hearsS K1 y x7 = y8 at *
      go_wp2
      go_roundw
      case rel => exact ⟨k + 1, x7, y8, by go_num, by omega, D8, C8, J8⟩
      case measure => simp [intOf]; omega
    · have hlt' : ¬ (k : Int) < 50 := by omega
      obtain ⟨e1, e2, e3, e4, e5, e6, e7⟩ := JR.out.ends (by omega) HK0l.out HK1l.out
      have HE1 := Lib.hid e1
      have HE5 := Lib.hid e5
      have HE7 := Lib.hid e7
      obtain ⟨N9, hN9, hD9⟩ := DR.out.blocks
      have HN9 := Lib.hid hN9
      have HD9 := Lib.hid hD9
      have N4r := Lib.hid (M4.out.chg CR.out (fun e => e (HPB.out _ (by omega))))
      clear e1 e2 e3 e4 e5 e6 e7 hN9 hD9 JR HK0 HK0l HK1l N4 M4 B4
      obtain ⟨c0, hsl, ⟨E, hx⟩, -⟩ := DR.out.side
      have HX := Lib.hid hx
      clear hx
      go_wp2_with fail
      refine (sayO HX.out).mono ?_
      rintro e10 w10 ⟨A5, m5, c5, rfl, hb10, hO10⟩
      have hm5 : m5 ≤ 3 := by
        have := own_lenH encHd_len (by omega) hO10
        rw [List.length_take] at this
        omega
      have hok := HX.out.ok.said
      have G1 := Lib.hid (hb10.alloc hb10.size (.cells #[.bool x.x.said.init, .bool x.x.said.more, .bool x.x.said.master, .int .i64 x.x.said.seq, .slice A5 m5 c5] 53))
      have K9 := Lib.hid (Blk.new w10 53 #[.bool x.x.said.init, .bool x.x.said.more, .bool x.x.said.master, .int .i64 x.x.said.seq, .slice A5 m5 c5])
      have O9 := Lib.hid (hO10.alloc (.cells #[.bool x.x.said.init, .bool x.x.said.more, .bool x.x.said.master, .int .i64 x.x.said.seq, .slice A5 m5 c5] 53))
      have HZ10 := Lib.hid hb10.size
      clear c0 hsl HX hb10 hO10
      have DR1 := Lib.hid (DR.out.below G1.out)
      obtain ⟨c0', hsl', ⟨E', hx'⟩, -⟩ := DR1.out.swap.side
      have HX' := Lib.hid hx'
      clear hx'
      go_wp2_with fail
      generalize w10.alloc (.cells #[.bool x.x.said.init, .bool x.x.said.more, .bool x.x.said.master, .int .i64 x.x.said.seq, .slice A5 m5 c5] 53) = w11 at *
      obtain ⟨z9, hz9⟩ : ∃ z9, w10.heap.size = z9 := ⟨_, rfl⟩
      have hz10 : wr.heap.size ≤ w10.heap.size := HZ10.out
      rw [hz9] at K9 hz10 ⊢
      clear hz9
      refine (sayO HX'.out).mono ?_
      rintro e12 w12 ⟨A6, m6, c6, rfl, hb12, hO12⟩
      have hok' := HX'.out.ok.said
      have G2 := Lib.hid (hb12.alloc hb12.size (.cells #[.bool y.x.said.init, .bool y.x.said.more, .bool y.x.said.master, .int .i64 y.x.said.seq, .slice A6 m6 c6] 53))
      have K11 := Lib.hid (Blk.new w12 53 #[.bool y.x.said.init, .bool y.x.said.more, .bool y.x.said.master, .int .i64 y.x.said.seq, .slice A6 m6 c6])
      have K9b := Lib.hid (K9.out.below G2.out K9.out.lt)
      have O9b := Lib.hid (own_chg O9.out (Chg.of_below (F := fun _ => False) G2.out) (fun _ _ hf => hf))
      have HS12 := Lib.hid hb12.size
      clear c0' hsl' HX' hb12 hO12
      have R11 := Lib.hid (show (w12.alloc (.cells #[.bool y.x.said.init, .bool y.x.said.more, .bool y.x.said.master, .int .i64 y.x.said.seq, .slice A6 m6 c6] 53)).rangeAt w12.heap.size 0 [.bool y.x.said.init, .bool y.x.said.more, .bool y.x.said.master, .int .i64 y.x.said.seq, .slice A6 m6 c6] from fun j v hv => by
        rw [Nat.zero_add, K11.out.cell, ← hv]
        simp)
      have G3 := (Below.refl (w12.alloc (.cells #[.bool y.x.said.init, .bool y.x.said.more, .bool y.x.said.master, .int .i64 y.x.said.seq, .slice A6 m6 c6] 53)).heap.size _).alloc (Nat.le_refl _) (.cells #[.bool y.x.said.init, .bool y.x.said.more, .bool y.x.said.master, .int .i64 y.x.said.seq, .slice A6 m6 c6] 53)
      have BW13 := Lib.hid ((BR.out.trans (G1.out.mono BR.out.size)).trans ((G2.out.trans (G3.mono G2.out.size)).mono (Nat.le_trans BR.out.size G1.out.size)))
      have K9c := Lib.hid (K9b.out.below G3 K9b.out.lt)
      have K11c := Lib.hid (K11.out.below G3 K11.out.lt)
      have O9c := Lib.hid (own_chg O9b.out (Chg.of_below (F := fun _ => False) G3) (fun _ _ hf => hf))
      have D13 := Lib.hid (fun M => (((HD9.out M).below G1.out).below G2.out).below G3)
      have N13 := Lib.hid (((N4r.out.below G1.out N4r.out.lt).below G2.out (Nat.lt_of_lt_of_le N4r.out.lt G1.out.size)).below G3 (Nat.lt_of_lt_of_le (Nat.lt_of_lt_of_le N4r.out.lt G1.out.size) G2.out.size))
      have KN := Blk.new (w12.alloc (.cells #[.bool y.x.said.init, .bool y.x.said.more, .bool y.x.said.master, .int .i64 y.x.said.seq, .slice A6 m6 c6] 53)) 53 #[.bool y.x.said.init, .bool y.x.said.more, .bool y.x.said.master, .int .i64 y.x.said.seq, .slice A6 m6 c6]
      rw [show (w12.alloc (.cells #[.bool y.x.said.init, .bool y.x.said.more, .bool y.x.said.master, .int .i64 y.x.said.seq, .slice A6 m6 c6] 53)).heap.size = w12.heap.size + 1 by simp] at KN
      have OW := Lib.hid (show ((w12.alloc (.cells #[.bool y.x.said.init, .bool y.x.said.more, .bool y.x.said.master, .int .i64 y.x.said.seq, .slice A6 m6 c6] 53)).alloc (.cells #[.bool y.x.said.init, .bool y.x.said.more, .bool y.x.said.master, .int .i64 y.x.said.seq, .slice A6 m6 c6] 53)).ownsRow 0 53 5 (.slice (some ⟨w12.heap.size + 1, 0, none⟩) 1 1) 1 (cellsBy encD [(y.x.said, A6, m6, c6)]) from ⟨rfl, .inr ⟨w12.heap.size + 1, 1, _, rfl, Nat.zero_le _, KN, Nat.le_refl _, by unfold maxLen; omega, rfl, rfl⟩⟩)
      obtain ⟨M, hMl, hMn, hMc, hMb⟩ := dds_cells (HL.out.below BW13.out)
      have HMB := Lib.hid (show ∀ d ∈ (y.x.said, A6, m6, c6) :: M, -9223372036854775808 ≤ d.1.seq ∧ d.1.seq ≤ 9223372036854775807 from fun d hd => by
        rcases List.mem_cons.1 hd with hd | hd
        · subst hd
          have := (okSeq_iff _).1 hok'
          show -9223372036854775808 ≤ y.x.said.seq ∧ y.x.said.seq ≤ 9223372036854775807
          omega
        · exact hMb d hd)
      have HMC := Lib.hid hMc
      have HN9b := Lib.hid (show ∀ q, N9 q → q < w12.heap.size from fun q hq => by
        have h1 := (HN9.out q hq).2
        have h2 := G1.out.size
        have h3 := HS12.out
        omega)
      have h912 : z9 < w12.heap.size := by
        have h1 := K9.out.lt
        have h3 := HS12.out
        omega
      have hz9r : wr.heap.size ≤ z9 := hz10
      have H9 := Lib.hid hz9r
      have HO9lt := Lib.hid (show ∀ g, (Value.slice A5 m5 c5).ownBlock = some g → g < w12.heap.size + 1 from fun g hg => by
        have := own_ltE O9b.out hg
        simpa using this)
      clear hMc hMb KN G3 DR DR1 G1 G2 K9 K9b K11 O9 O9b HD9 N4r hz10 hz9r
      go_wp2_with (first | (refine wpList_load_row 53 _ _ (by rfl) (.tmp 11) rfl (by rfl) R11.out Try.underlying53 rfl (by kernel_rfl) ?_) | (at_builtin; refine wpList_append_atE rfl (.tmp 73) (.tmp 74) 47 53 (.agg #[.bool false, .bool false, .bool false, .int .i64 0, .slice none 0 0]) 5 40 Try.underlying47 infoDd rfl (by decide) (by decide) rfl 0 (.slice (some ⟨w12.heap.size + 1, 0, none⟩) 1 1) 1 (cellsBy encD [(y.x.said, A6, m6, c6)]) (by rfl) OW.out Ab nb cb (cellsBy encD M) (by rfl) (by rw [by_length encD_len, hMl]) hMn HMC.out (by_ones encD_ones M) (by omega) (Nat.zero_le _) ?_; intro v14 w14 ho14 hg14 hw14; obtain ⟨A14, c14, rfl⟩ := own_slice ho14.out))
      obtain ⟨b13, hb13⟩ : ∃ b, b = w12.heap.size + 1 := ⟨_, rfl⟩
      have hs13 : b13 < ((w12.alloc (.cells #[.bool y.x.said.init, .bool y.x.said.more, .bool y.x.said.master, .int .i64 y.x.said.seq, .slice A6 m6 c6] 53)).alloc (.cells #[.bool y.x.said.init, .bool y.x.said.more, .bool y.x.said.master, .int .i64 y.x.said.seq, .slice A6 m6 c6] 53)).heap.size := by rw [hb13]; simp
      rw [← hb13] at hg14 hw14
      have CG := Chg.of_grown (F := fun q => q = b13) hg14.out (fun k hk => by
        injection hk with hk
        exact hk.symm)
      generalize hw13 : (w12.alloc (.cells #[.bool y.x.said.init, .bool y.x.said.more, .bool y.x.said.master, .int .i64 y.x.said.seq, .slice A6 m6 c6] 53)).alloc (.cells #[.bool y.x.said.init, .bool y.x.said.more, .bool y.x.said.master, .int .i64 y.x.said.seq, .slice A6 m6 c6] 53) = w13 at *
      have hs1413 := CG.size
      have hs1312 : w12.heap.size + 1 < w13.heap.size := by omega
      have hbr := BR.out.size
      have h10 := HZ10.out
      have h9 := H9.out
      have h12 := HS12.out
      obtain ⟨P2, hP2⟩ : ∃ P2 : Nat → Prop, (fun q => q < w14.heap.size ∧ ¬ N9 q) = P2 := ⟨_, rfl⟩
      have HP2lt := Lib.hid (show ∀ q, P2 q → q < w14.heap.size from fun q hq => by
        rw [← hP2] at hq
        exact hq.1)
      have HP2B := Lib.hid (show ∀ q, q < w.heap.size + 2 → P2 q from fun q hq => by
        rw [← hP2]
        exact ⟨by have := N13.out.lt; omega, fun e => (HN9.out q e).1 (HPB.out q hq)⟩)
      have hin : ∀ q, wr.heap.size ≤ q → q < w14.heap.size → P2 q := fun q h1 h2 => by
        rw [← hP2]
        exact ⟨h2, fun e => by have := (HN9.out q e).2; omega⟩
      have D14 := Lib.hid (show DuoP w14 P2 s p s' p' A n c A' n' c' x y from by
        have h1 := D13.out w14.heap.size
        rw [hP2] at h1
        obtain ⟨F, G, f1, f2, f3, f4⟩ := h1
        have hbP : P2 b13 := hin b13 (by omega) (by omega)
        exact ⟨F, G, f1.chg CG (fun q hq e => (f3 q hq).1 (by rw [e]; exact hbP)), f2.chg CG (fun q hq e => (f4 q hq).1 (by rw [e]; exact hbP)), f3, f4⟩)
      have K9d := Lib.hid (K9c.out.chg CG (by omega))
      have K11d := Lib.hid (K11c.out.chg CG (by omega))
      have Nq := Lib.hid (N13.out.chg CG (by omega))
      have O9d := Lib.hid (own_move O9c.out (fun g hg => CG.block g (own_ltE O9c.out hg) (by have := HO9lt.out g hg; omega)))
      have HPO9 := Lib.hid (show ∀ g, (Value.slice A5 m5 c5).ownBlock = some g → P2 g ∧ g < w14.heap.size from fun g hg => ⟨hin g (own_base_le O9d.out hg) (own_ltE O9d.out hg), own_ltE O9d.out hg⟩)
      have LO := Lib.hid (show w14.ownsRow 0 53 5 (.slice A14 (1 + nb) c14) (1 + nb) (cellsBy encD ((y.x.said, A6, m6, c6) :: M)) by
        have h := ho14.out
        rw [by_one] at h
        rw [by_cons]
        exact h)
      have HPLO := Lib.hid (show ∀ g, (Value.slice A14 (1 + nb) c14).ownBlock = some g → P2 g ∧ g < w14.heap.size from fun g hg => by
        have h2 := own_ltE LO.out hg
        refine ⟨hin g ?_ h2, h2⟩
        rcases hw14.out with h | h
        · rw [hg] at h
          have h : some g = some b13 := h
          injection h with h
          omega
        · rw [hg] at h
          injection h with h
          omega)
      have HPz9 := Lib.hid (hin z9 (by omega) (by omega))
      have HPz11 := Lib.hid (hin w12.heap.size (by omega) (by omega))
      have BW14 := Lib.hid (BW13.out.trans (CG.to_below (B := w.heap.size) (fun q hq => by omega) BW13.out.size))
      obtain ⟨z11, hz11⟩ : ∃ z11, w12.heap.size = z11 := ⟨_, rfl⟩
      rw [hz11] at K11d HPz11 ⊢
      have C14 := Lib.hid (Chg.refl (fun q => ¬ P2 q) w14)
      clear hP2 hin CG hw13 K9c K11c O9c D13 N13 OW HMC HN9b BW13 ho14 hg14 hw14 HO9lt R11 HN9 HPr CR BR hz11
      clear hs13 hs1413 hs1312 hbr h10 h9 h12 hb13 HZ10 H9 HS12 h912
      go_wp2_with fail
      go_loopw [77] (fun s77 wq => ∃ k : Nat, s77 = .int .i64 k ∧ k ≤ 1 + nb ∧ Hid (DuoP wq P2 s p s' p' A n c A' n' c' x y) ∧ Hid (Chg (fun q => ¬ P2 q) w14 wq)) (fun s77 _ => nb + 2 - (intOf s77).toNat)
      case atStart => exact ⟨0, rfl, Nat.zero_le _, D14, C14⟩
      case round =>
        clear D14 C14
        obtain ⟨k, rfl, hk, DQ, CQ⟩ := hrel
        have BQ := Lib.hid (BW14.out.trans (chgP_below CQ.out (fun q hq => HP2B.out q (by omega)) BW14.out.size))
        by_cases hlt2 : k < 1 + nb
        · have hlt3 : (k : Int) < ((1 + nb : Nat) : Int) := by omega
          have hlt4 : (k : Int) < 1 + (nb : Int) := by omega
          obtain ⟨g, d, rfl, hgl, hdM, hrg⟩ := own_dd (chgP_own LO.out CQ.out HPLO.out) hlt2
          obtain ⟨hd0, hd1⟩ := HMB.out d (List.mem_of_getElem? hdM)
          obtain ⟨⟨di, dm, ds, dq⟩, Ad, nd, cd⟩ := d
          dsimp only at hrg hd0 hd1
          have HRG := Lib.hid hrg
          have BX := (Below.refl wr.heap.size wr).alloc (Nat.le_refl _) (.cells #[.bool di, .bool dm, .bool ds, .int .i64 dq, .slice Ad nd cd] 53)
          have D1 := Lib.hid (DQ.out.below BX)
          have C1 := Lib.hid (chgP_trans CQ.out (Chg.of_below (F := fun q => ¬ P2 q) BX))
          have U1 := Lib.hid (Blk.new wr 53 #[.bool di, .bool dm, .bool ds, .int .i64 dq, .slice Ad nd cd])
          have K11q := Lib.hid ((K11d.out.chg CQ.out (fun e => e HPz11.out)).below BX (K11d.out.chg CQ.out (fun e => e HPz11.out)).lt)
          have Nq1 := Lib.hid ((Nq.out.chg CQ.out (fun e => e (HP2B.out _ (by omega)))).below BX (Nq.out.chg CQ.out (fun e => e (HP2B.out _ (by omega)))).lt)
          obtain ⟨u0, u1, u2, u3, u4⟩ := U1.out.five
          obtain ⟨l0, l1, l2, l3, l4⟩ := K11q.out.five
          have hul := U1.out.lt
          have hll := K11q.out.lt
          clear hrg hdM BX DQ CQ
          by_cases hneg : dq < 0
          · have d5 : decide (dq < 0) = true := decide_eq_true hneg
            clear hneg
            go_wp2_with (refine wpList_load_row 53 _ _ (by rfl) (.tmp 79) rfl (by rfl) HRG.out Try.underlying53 rfl (by kernel_rfl) ?_)
            go_roundw
            case rel => exact ⟨k + 1, by go_num, by omega, D1, C1⟩
            case measure => simp [intOf]; omega
          have d5 : decide (dq < 0) = false := decide_eq_false hneg
          by_cases hbig : 4294967295 < dq
          · have d6 : decide (4294967295 < dq) = true := decide_eq_true hbig
            clear hneg hbig
            go_wp2_with (refine wpList_load_row 53 _ _ (by rfl) (.tmp 79) rfl (by rfl) HRG.out Try.underlying53 rfl (by kernel_rfl) ?_)
            go_roundw
            case rel => exact ⟨k + 1, by go_num, by omega, D1, C1⟩
            case measure => simp [intOf]; omega
          have d6 : decide (4294967295 < dq) = false := decide_eq_false hbig
          have hokd : okSeq dq = true := (okSeq_iff _).2 ⟨by omega, by omega⟩
          clear hneg hbig
          by_cases hi : di = y.x.said.init
          · have q1 : (di == y.x.said.init) = true := by simpa using hi
            by_cases hm : dm = y.x.said.more
            · have q2 : (dm == y.x.said.more) = true := by simpa using hm
              by_cases hs : ds = y.x.said.master
              · have q3 : (ds == y.x.said.master) = true := by simpa using hs
                by_cases hq : dq = y.x.said.seq
                · have q4 : (dq == y.x.said.seq) = true := by simpa using hq
                  have hpe : (⟨di, dm, ds, dq⟩ : Pc) = x.x.took := by rw [HE7.out, hi, hm, hs, hq]
                  cases hl : x.x.leads
                  case false =>
                    have HR := Lib.hid (show hearE x.x ⟨di, dm, ds, dq⟩ nd K1 = (1, x.x) by
                      rw [done_hear HE5.out HE1.out hokd]
                      rw [if_pos hpe, if_neg (by rw [hl]; decide)])
                    obtain ⟨c0, hsl, ⟨E7, hx7⟩, -⟩ := D1.out.side
                    obtain ⟨h7, hB7, -⟩ := hx7.mem
                    have HBx := Lib.hid hB7
                    clear hx7 hB7
                    have n4b : (wr.alloc (.cells #[.bool di, .bool dm, .bool ds, .int .i64 dq, .slice Ad nd cd] 53)).cell? ⟨w.heap.size + 1, 1, none⟩ = some (.slice A' n' c') := Nq1.out.cell 1
                    have hnb4 := Nq1.out.lt
                    clear hpe hi hm hs hq
                    go_wp2_with (refine wpList_load_row 53 _ _ (by rfl) (.tmp 79) rfl (by rfl) HRG.out Try.underlying53 rfl (by kernel_rfl) ?_)
                    refine (leadsX HBx.out).mono ?_
                    rintro e4 w4b ⟨rfl, h4⟩
                    rw [h4, hl]
                    clear h4 hl
                    clear w4b
                    go_wp2_with fail
                    generalize wr.alloc (.cells #[.bool di, .bool dm, .bool ds, .int .i64 dq, .slice Ad nd cd] 53) = w1 at *
                    go_still_tail 7, (by kernel_rfl)
                    change wpList Try.prog _ _ _ _ w1.drew
                    have D2 := Lib.hid (D1.out.below (⟨rfl, rfl, rfl, Nat.le_refl _, fun _ _ => rfl⟩ : Below w1.heap.size w1 w1.drew))
                    have C2 := Lib.hid (chgP_trans C1.out (⟨rfl, rfl, rfl, Nat.le_refl _, fun _ _ _ => rfl⟩ : Chg (fun q => ¬ P2 q) w1 w1.drew))
                    clear c0 hsl n4b hnb4 u0 u1 u2 u3 u4 hul l0 l1 l2 l3 l4 hll D1 C1 Nq1 U1 K11q HBx
                    generalize w1.drew = w2 at *
                    have B2q := Lib.hid (BW14.out.trans (chgP_below C2.out (fun q hq => HP2B.out q (by omega)) BW14.out.size))
                    go_wp2_with fail
                    have hq5 := duoP_hear (K := K1) ⟨di, dm, ds, dq⟩ (Ah := Ad) (nh := nd) (ch := cd) (cl := c') D2.out hd0 hd1 (HS'.out.below B2q.out) B2q.out.size (fun q hq => Nat.lt_of_lt_of_le (HP2lt.out q hq) C2.out.size) (fun q hq => HP2B.out q (by omega)) (by omega) HK1.out
                    rw [HR.out] at hq5
                    refine hq5.mono ?_
                    rintro e5 w5 ⟨rfl, hp5, hc5⟩
                    have D5q := Lib.hid (show DuoP w5 P2 s p s' p' A n c A' n' c' x y from hp5)
                    have C5q := Lib.hid (chgP_trans C2.out hc5)
                    clear hp5 hc5 D2 C2 B2q HR hq5
                    obtain ⟨c0, hsl, ⟨E9, hx9⟩, -⟩ := D5q.out.side
                    have HX9 := Lib.hid hx9
                    clear hx9
                    go_wp2_with fail
                    refine (sayO HX9.out).mono ?_
                    rintro e6 w6 ⟨A7, m7, c7, rfl, hb7, hO7⟩
                    have hm7 : m7 ≤ 3 := by
                      have := own_lenH encHd_len (by omega) hO7
                      rw [List.length_take] at this
                      omega
                    have G7 := hb7.alloc hb7.size (.cells #[.bool x.x.said.init, .bool x.x.said.more, .bool x.x.said.master, .int .i64 x.x.said.seq, .slice A7 m7 c7] 53)
                    have C6q := Lib.hid (chgP_trans C5q.out (Chg.of_below (F := fun q => ¬ P2 q) G7))
                    have D6q := Lib.hid (D5q.out.below G7)
                    have K17 := Lib.hid (Blk.new w6 53 #[.bool x.x.said.init, .bool x.x.said.more, .bool x.x.said.master, .int .i64 x.x.said.seq, .slice A7 m7 c7])
                    have O7q := Lib.hid (own_hds (hO7.alloc (.cells #[.bool x.x.said.init, .bool x.x.said.more, .bool x.x.said.master, .int .i64 x.x.said.seq, .slice A7 m7 c7] 53)))
                    clear c0 hsl HX9 hb7 hO7 D5q C5q G7
                    have O9q := Lib.hid (own_hds (chgP_own O9d.out C6q.out HPO9.out))
                    have K9q := Lib.hid (K9d.out.chg C6q.out (fun e => e HPz9.out))
                    obtain ⟨d0, hsl, ⟨E8, hx8⟩, -⟩ := D6q.out.side
                    obtain ⟨h8, hB8, -⟩ := hx8.mem
                    have HB8 := Lib.hid hB8
                    obtain ⟨r0, r1, r2, r3, r4⟩ := K9q.out.five
                    have hrl := K9q.out.lt
                    obtain ⟨t0, t1, t2, t3, t4⟩ := K17.out.five
                    have htl := K17.out.lt
                    clear hx8 hB8
                    go_wp2_with fail
                    generalize w6.alloc (.cells #[.bool x.x.said.init, .bool x.x.said.more, .bool x.x.said.master, .int .i64 x.x.said.seq, .slice A7 m7 c7] 53) = w7 at *
                    refine (doneX HB8.out).mono ?_
                    rintro e8 w8 ⟨rfl, h8⟩
                    rw [h8, HE1.out]
                    clear h8 w8
                    go_wp2_with fail
                    refine (same14_yes (w := w7) (B := w7.heap.size) (B' := w7.heap.size) x.x.said x.x.said O9q.out O7q.out (Nat.le_refl _) (Nat.le_refl _) (by omega) (by omega) rfl rfl).mono ?_
                    rintro e9 w9 ⟨rfl, hg9⟩
                    have D10 := Lib.hid (D6q.out.below (below_grown13 hg9))
                    have C10 := Lib.hid (chgP_trans C6q.out (Chg.of_below (F := fun q => ¬ P2 q) (below_grown13 hg9)))
                    clear hg9 D6q C6q O9q O7q K9q K17 HB8 d0 hsl r0 r1 r2 r3 r4 hrl t0 t1 t2 t3 t4 htl
                    go_wp2
                    go_roundw
                    case rel => exact ⟨k + 1, by go_num, by omega, D10, C10⟩
                    case measure => simp [intOf]; omega
                  case true =>
                    have HR := Lib.hid (show hearE x.x ⟨di, dm, ds, dq⟩ nd K1 = (0, x.x) by
                      rw [done_hear HE5.out HE1.out hokd]
                      rw [if_pos hpe, if_pos hl])
                    obtain ⟨c0, hsl, ⟨E7, hx7⟩, -⟩ := D1.out.side
                    obtain ⟨h7, hB7, -⟩ := hx7.mem
                    have HBx := Lib.hid hB7
                    clear hx7 hB7
                    have n4b : (wr.alloc (.cells #[.bool di, .bool dm, .bool ds, .int .i64 dq, .slice Ad nd cd] 53)).cell? ⟨w.heap.size + 1, 1, none⟩ = some (.slice A' n' c') := Nq1.out.cell 1
                    have hnb4 := Nq1.out.lt
                    clear hpe hi hm hs hq
                    go_wp2_with (refine wpList_load_row 53 _ _ (by rfl) (.tmp 79) rfl (by rfl) HRG.out Try.underlying53 rfl (by kernel_rfl) ?_)
                    refine (leadsX HBx.out).mono ?_
                    rintro e4 w4b ⟨rfl, h4⟩
                    rw [h4, hl]
                    clear h4 hl
                    clear w4b
                    go_wp2_with fail
                    generalize wr.alloc (.cells #[.bool di, .bool dm, .bool ds, .int .i64 dq, .slice Ad nd cd] 53) = w1 at *
                    go_still_tail 7, (by kernel_rfl)
                    change wpList Try.prog _ _ _ _ w1.drew
                    have D2 := Lib.hid (D1.out.below (⟨rfl, rfl, rfl, Nat.le_refl _, fun _ _ => rfl⟩ : Below w1.heap.size w1 w1.drew))
                    have C2 := Lib.hid (chgP_trans C1.out (⟨rfl, rfl, rfl, Nat.le_refl _, fun _ _ _ => rfl⟩ : Chg (fun q => ¬ P2 q) w1 w1.drew))
                    clear c0 hsl n4b hnb4 u0 u1 u2 u3 u4 hul l0 l1 l2 l3 l4 hll D1 C1 Nq1 U1 K11q HBx
                    generalize w1.drew = w2 at *
                    have B2q := Lib.hid (BW14.out.trans (chgP_below C2.out (fun q hq => HP2B.out q (by omega)) BW14.out.size))
                    go_wp2_with fail
                    have hq5 := duoP_hear (K := K1) ⟨di, dm, ds, dq⟩ (Ah := Ad) (nh := nd) (ch := cd) (cl := c') D2.out hd0 hd1 (HS'.out.below B2q.out) B2q.out.size (fun q hq => Nat.lt_of_lt_of_le (HP2lt.out q hq) C2.out.size) (fun q hq => HP2B.out q (by omega)) (by omega) HK1.out
                    rw [HR.out] at hq5
                    refine hq5.mono ?_
                    rintro e5 w5 ⟨rfl, hp5, hc5⟩
                    have D5q := Lib.hid (show DuoP w5 P2 s p s' p' A n c A' n' c' x y from hp5)
                    have C5q := Lib.hid (chgP_trans C2.out hc5)
                    clear hp5 hc5 D2 C2 B2q HR hq5
                    obtain ⟨c0, hsl, ⟨E9, hx9⟩, -⟩ := D5q.out.side
                    have HX9 := Lib.hid hx9
                    clear hx9
                    go_wp2_with fail
                    refine (sayO HX9.out).mono ?_
                    rintro e6 w6 ⟨A7, m7, c7, rfl, hb7, hO7⟩
                    have hm7 : m7 ≤ 3 := by
                      have := own_lenH encHd_len (by omega) hO7
                      rw [List.length_take] at this
                      omega
                    have G7 := hb7.alloc hb7.size (.cells #[.bool x.x.said.init, .bool x.x.said.more, .bool x.x.said.master, .int .i64 x.x.said.seq, .slice A7 m7 c7] 53)
                    have C6q := Lib.hid (chgP_trans C5q.out (Chg.of_below (F := fun q => ¬ P2 q) G7))
                    have D6q := Lib.hid (D5q.out.below G7)
                    have K17 := Lib.hid (Blk.new w6 53 #[.bool x.x.said.init, .bool x.x.said.more, .bool x.x.said.master, .int .i64 x.x.said.seq, .slice A7 m7 c7])
                    have O7q := Lib.hid (own_hds (hO7.alloc (.cells #[.bool x.x.said.init, .bool x.x.said.more, .bool x.x.said.master, .int .i64 x.x.said.seq, .slice A7 m7 c7] 53)))
                    clear c0 hsl HX9 hb7 hO7 D5q C5q G7
                    have O9q := Lib.hid (own_hds (chgP_own O9d.out C6q.out HPO9.out))
                    have K9q := Lib.hid (K9d.out.chg C6q.out (fun e => e HPz9.out))
                    obtain ⟨d0, hsl, ⟨E8, hx8⟩, -⟩ := D6q.out.side
                    obtain ⟨h8, hB8, -⟩ := hx8.mem
                    have HB8 := Lib.hid hB8
                    obtain ⟨r0, r1, r2, r3, r4⟩ := K9q.out.five
                    have hrl := K9q.out.lt
                    obtain ⟨t0, t1, t2, t3, t4⟩ := K17.out.five
                    have htl := K17.out.lt
                    clear hx8 hB8
                    go_wp2_with fail
                    generalize w6.alloc (.cells #[.bool x.x.said.init, .bool x.x.said.more, .bool x.x.said.master, .int .i64 x.x.said.seq, .slice A7 m7 c7] 53) = w7 at *
                    refine (doneX HB8.out).mono ?_
                    rintro e8 w8 ⟨rfl, h8⟩
                    rw [h8, HE1.out]
                    clear h8 w8
                    go_wp2_with fail
                    refine (same14_yes (w := w7) (B := w7.heap.size) (B' := w7.heap.size) x.x.said x.x.said O9q.out O7q.out (Nat.le_refl _) (Nat.le_refl _) (by omega) (by omega) rfl rfl).mono ?_
                    rintro e9 w9 ⟨rfl, hg9⟩
                    have D10 := Lib.hid (D6q.out.below (below_grown13 hg9))
                    have C10 := Lib.hid (chgP_trans C6q.out (Chg.of_below (F := fun q => ¬ P2 q) (below_grown13 hg9)))
                    clear hg9 D6q C6q O9q O7q K9q K17 HB8 d0 hsl r0 r1 r2 r3 r4 hrl t0 t1 t2 t3 t4 htl
                    go_wp2
                    go_roundw
                    case rel => exact ⟨k + 1, by go_num, by omega, D10, C10⟩
                    case measure => simp [intOf]; omega
                · have q4 : (dq == y.x.said.seq) = false := by simpa using hq
                  clear hi hm hs
                  have HR := Lib.hid (show hearE x.x ⟨di, dm, ds, dq⟩ nd K1 = (3, x.x) by
                    rw [done_hear HE5.out HE1.out hokd]
                    rw [if_neg (by rw [HE7.out]; intro e; exact hq (congrArg Pc.seq e))])
                  obtain ⟨c0, hsl, ⟨E7, hx7⟩, -⟩ := D1.out.side
                  obtain ⟨h7, hB7, -⟩ := hx7.mem
                  have HBx := Lib.hid hB7
                  clear hx7 hB7
                  have n4b : (wr.alloc (.cells #[.bool di, .bool dm, .bool ds, .int .i64 dq, .slice Ad nd cd] 53)).cell? ⟨w.heap.size + 1, 1, none⟩ = some (.slice A' n' c') := Nq1.out.cell 1
                  have hnb4 := Nq1.out.lt
                  clear hq
                  go_wp2_with (refine wpList_load_row 53 _ _ (by rfl) (.tmp 79) rfl (by rfl) HRG.out Try.underlying53 rfl (by kernel_rfl) ?_)
                  generalize wr.alloc (.cells #[.bool di, .bool dm, .bool ds, .int .i64 dq, .slice Ad nd cd] 53) = w1 at *
                  go_still_tail 7, (by kernel_rfl)
                  change wpList Try.prog _ _ _ _ w1.drew
                  have D2 := Lib.hid (D1.out.below (⟨rfl, rfl, rfl, Nat.le_refl _, fun _ _ => rfl⟩ : Below w1.heap.size w1 w1.drew))
                  have C2 := Lib.hid (chgP_trans C1.out (⟨rfl, rfl, rfl, Nat.le_refl _, fun _ _ _ => rfl⟩ : Chg (fun q => ¬ P2 q) w1 w1.drew))
                  clear c0 hsl n4b hnb4 u0 u1 u2 u3 u4 hul l0 l1 l2 l3 l4 hll D1 C1 Nq1 U1 K11q HBx
                  generalize w1.drew = w2 at *
                  have B2q := Lib.hid (BW14.out.trans (chgP_below C2.out (fun q hq => HP2B.out q (by omega)) BW14.out.size))
                  go_wp2_with fail
                  have hq5 := duoP_hear (K := K1) ⟨di, dm, ds, dq⟩ (Ah := Ad) (nh := nd) (ch := cd) (cl := c') D2.out hd0 hd1 (HS'.out.below B2q.out) B2q.out.size (fun q hq => Nat.lt_of_lt_of_le (HP2lt.out q hq) C2.out.size) (fun q hq => HP2B.out q (by omega)) (by omega) HK1.out
                  rw [HR.out] at hq5
                  refine hq5.mono ?_
                  rintro e5 w5 ⟨rfl, hp5, hc5⟩
                  have D5q := Lib.hid (show DuoP w5 P2 s p s' p' A n c A' n' c' x y from hp5)
                  have C5q := Lib.hid (chgP_trans C2.out hc5)
                  clear hp5 hc5 D2 C2 B2q HR hq5
                  obtain ⟨c0, hsl, ⟨E9, hx9⟩, -⟩ := D5q.out.side
                  have HX9 := Lib.hid hx9
                  clear hx9
                  go_wp2_with fail
                  refine (sayO HX9.out).mono ?_
                  rintro e6 w6 ⟨A7, m7, c7, rfl, hb7, hO7⟩
                  have hm7 : m7 ≤ 3 := by
                    have := own_lenH encHd_len (by omega) hO7
                    rw [List.length_take] at this
                    omega
                  have G7 := hb7.alloc hb7.size (.cells #[.bool x.x.said.init, .bool x.x.said.more, .bool x.x.said.master, .int .i64 x.x.said.seq, .slice A7 m7 c7] 53)
                  have C6q := Lib.hid (chgP_trans C5q.out (Chg.of_below (F := fun q => ¬ P2 q) G7))
                  have D6q := Lib.hid (D5q.out.below G7)
                  have K17 := Lib.hid (Blk.new w6 53 #[.bool x.x.said.init, .bool x.x.said.more, .bool x.x.said.master, .int .i64 x.x.said.seq, .slice A7 m7 c7])
                  have O7q := Lib.hid (own_hds (hO7.alloc (.cells #[.bool x.x.said.init, .bool x.x.said.more, .bool x.x.said.master, .int .i64 x.x.said.seq, .slice A7 m7 c7] 53)))
                  clear c0 hsl HX9 hb7 hO7 D5q C5q G7
                  have O9q := Lib.hid (own_hds (chgP_own O9d.out C6q.out HPO9.out))
                  have K9q := Lib.hid (K9d.out.chg C6q.out (fun e => e HPz9.out))
                  obtain ⟨d0, hsl, ⟨E8, hx8⟩, -⟩ := D6q.out.side
                  obtain ⟨h8, hB8, -⟩ := hx8.mem
                  have HB8 := Lib.hid hB8
                  obtain ⟨r0, r1, r2, r3, r4⟩ := K9q.out.five
                  have hrl := K9q.out.lt
                  obtain ⟨t0, t1, t2, t3, t4⟩ := K17.out.five
                  have htl := K17.out.lt
                  clear hx8 hB8
                  go_wp2_with fail
                  generalize w6.alloc (.cells #[.bool x.x.said.init, .bool x.x.said.more, .bool x.x.said.master, .int .i64 x.x.said.seq, .slice A7 m7 c7] 53) = w7 at *
                  refine (doneX HB8.out).mono ?_
                  rintro e8 w8 ⟨rfl, h8⟩
                  rw [h8, HE1.out]
                  clear h8 w8
                  go_wp2_with fail
                  refine (same14_yes (w := w7) (B := w7.heap.size) (B' := w7.heap.size) x.x.said x.x.said O9q.out O7q.out (Nat.le_refl _) (Nat.le_refl _) (by omega) (by omega) rfl rfl).mono ?_
                  rintro e9 w9 ⟨rfl, hg9⟩
                  have D10 := Lib.hid (D6q.out.below (below_grown13 hg9))
                  have C10 := Lib.hid (chgP_trans C6q.out (Chg.of_below (F := fun q => ¬ P2 q) (below_grown13 hg9)))
                  clear hg9 D6q C6q O9q O7q K9q K17 HB8 d0 hsl r0 r1 r2 r3 r4 hrl t0 t1 t2 t3 t4 htl
                  go_wp2
                  go_roundw
                  case rel => exact ⟨k + 1, by go_num, by omega, D10, C10⟩
                  case measure => simp [intOf]; omega
              · have q3 : (ds == y.x.said.master) = false := by simpa using hs
                clear hi hm
                have HR := Lib.hid (show hearE x.x ⟨di, dm, ds, dq⟩ nd K1 = (3, x.x) by
                  rw [done_hear HE5.out HE1.out hokd]
                  rw [if_neg (by rw [HE7.out]; intro e; exact hs (congrArg Pc.master e))])
                obtain ⟨c0, hsl, ⟨E7, hx7⟩, -⟩ := D1.out.side
                obtain ⟨h7, hB7, -⟩ := hx7.mem
                have HBx := Lib.hid hB7
                clear hx7 hB7
                have n4b : (wr.alloc (.cells #[.bool di, .bool dm, .bool ds, .int .i64 dq, .slice Ad nd cd] 53)).cell? ⟨w.heap.size + 1, 1, none⟩ = some (.slice A' n' c') := Nq1.out.cell 1
                have hnb4 := Nq1.out.lt
                clear hs
                go_wp2_with (refine wpList_load_row 53 _ _ (by rfl) (.tmp 79) rfl (by rfl) HRG.out Try.underlying53 rfl (by kernel_rfl) ?_)
                generalize wr.alloc (.cells #[.bool di, .bool dm, .bool ds, .int .i64 dq, .slice Ad nd cd] 53) = w1 at *
                go_still_tail 7, (by kernel_rfl)
                change wpList Try.prog _ _ _ _ w1.drew
                have D2 := Lib.hid (D1.out.below (⟨rfl, rfl, rfl, Nat.le_refl _, fun _ _ => rfl⟩ : Below w1.heap.size w1 w1.drew))
                have C2 := Lib.hid (chgP_trans C1.out (⟨rfl, rfl, rfl, Nat.le_refl _, fun _ _ _ => rfl⟩ : Chg (fun q => ¬ P2 q) w1 w1.drew))
                clear c0 hsl n4b hnb4 u0 u1 u2 u3 u4 hul l0 l1 l2 l3 l4 hll D1 C1 Nq1 U1 K11q HBx
                generalize w1.drew = w2 at *
                have B2q := Lib.hid (BW14.out.trans (chgP_below C2.out (fun q hq => HP2B.out q (by omega)) BW14.out.size))
                go_wp2_with fail
                have hq5 := duoP_hear (K := K1) ⟨di, dm, ds, dq⟩ (Ah := Ad) (nh := nd) (ch := cd) (cl := c') D2.out hd0 hd1 (HS'.out.below B2q.out) B2q.out.size (fun q hq => Nat.lt_of_lt_of_le (HP2lt.out q hq) C2.out.size) (fun q hq => HP2B.out q (by omega)) (by omega) HK1.out
                rw [HR.out] at hq5
                refine hq5.mono ?_
                rintro e5 w5 ⟨rfl, hp5, hc5⟩
                have D5q := Lib.hid (show DuoP w5 P2 s p s' p' A n c A' n' c' x y from hp5)
                have C5q := Lib.hid (chgP_trans C2.out hc5)
                clear hp5 hc5 D2 C2 B2q HR hq5
                obtain ⟨c0, hsl, ⟨E9, hx9⟩, -⟩ := D5q.out.side
                have HX9 := Lib.hid hx9
                clear hx9
                go_wp2_with fail
                refine (sayO HX9.out).mono ?_
                rintro e6 w6 ⟨A7, m7, c7, rfl, hb7, hO7⟩
                have hm7 : m7 ≤ 3 := by
                  have := own_lenH encHd_len (by omega) hO7
                  rw [List.length_take] at this
                  omega
                have G7 := hb7.alloc hb7.size (.cells #[.bool x.x.said.init, .bool x.x.said.more, .bool x.x.said.master, .int .i64 x.x.said.seq, .slice A7 m7 c7] 53)
                have C6q := Lib.hid (chgP_trans C5q.out (Chg.of_below (F := fun q => ¬ P2 q) G7))
                have D6q := Lib.hid (D5q.out.below G7)
                have K17 := Lib.hid (Blk.new w6 53 #[.bool x.x.said.init, .bool x.x.said.more, .bool x.x.said.master, .int .i64 x.x.said.seq, .slice A7 m7 c7])
                have O7q := Lib.hid (own_hds (hO7.alloc (.cells #[.bool x.x.said.init, .bool x.x.said.more, .bool x.x.said.master, .int .i64 x.x.said.seq, .slice A7 m7 c7] 53)))
                clear c0 hsl HX9 hb7 hO7 D5q C5q G7
                have O9q := Lib.hid (own_hds (chgP_own O9d.out C6q.out HPO9.out))
                have K9q := Lib.hid (K9d.out.chg C6q.out (fun e => e HPz9.out))
                obtain ⟨d0, hsl, ⟨E8, hx8⟩, -⟩ := D6q.out.side
                obtain ⟨h8, hB8, -⟩ := hx8.mem
                have HB8 := Lib.hid hB8
                obtain ⟨r0, r1, r2, r3, r4⟩ := K9q.out.five
                have hrl := K9q.out.lt
                obtain ⟨t0, t1, t2, t3, t4⟩ := K17.out.five
                have htl := K17.out.lt
                clear hx8 hB8
                go_wp2_with fail
                generalize w6.alloc (.cells #[.bool x.x.said.init, .bool x.x.said.more, .bool x.x.said.master, .int .i64 x.x.said.seq, .slice A7 m7 c7] 53) = w7 at *
                refine (doneX HB8.out).mono ?_
                rintro e8 w8 ⟨rfl, h8⟩
                rw [h8, HE1.out]
                clear h8 w8
                go_wp2_with fail
                refine (same14_yes (w := w7) (B := w7.heap.size) (B' := w7.heap.size) x.x.said x.x.said O9q.out O7q.out (Nat.le_refl _) (Nat.le_refl _) (by omega) (by omega) rfl rfl).mono ?_
                rintro e9 w9 ⟨rfl, hg9⟩
                have D10 := Lib.hid (D6q.out.below (below_grown13 hg9))
                have C10 := Lib.hid (chgP_trans C6q.out (Chg.of_below (F := fun q => ¬ P2 q) (below_grown13 hg9)))
                clear hg9 D6q C6q O9q O7q K9q K17 HB8 d0 hsl r0 r1 r2 r3 r4 hrl t0 t1 t2 t3 t4 htl
                go_wp2
                go_roundw
                case rel => exact ⟨k + 1, by go_num, by omega, D10, C10⟩
                case measure => simp [intOf]; omega
            · have q2 : (dm == y.x.said.more) = false := by simpa using hm
              clear hi
              have HR := Lib.hid (show hearE x.x ⟨di, dm, ds, dq⟩ nd K1 = (3, x.x) by
                rw [done_hear HE5.out HE1.out hokd]
                rw [if_neg (by rw [HE7.out]; intro e; exact hm (congrArg Pc.more e))])
              obtain ⟨c0, hsl, ⟨E7, hx7⟩, -⟩ := D1.out.side
              obtain ⟨h7, hB7, -⟩ := hx7.mem
              have HBx := Lib.hid hB7
              clear hx7 hB7
              have n4b : (wr.alloc (.cells #[.bool di, .bool dm, .bool ds, .int .i64 dq, .slice Ad nd cd] 53)).cell? ⟨w.heap.size + 1, 1, none⟩ = some (.slice A' n' c') := Nq1.out.cell 1
              have hnb4 := Nq1.out.lt
              clear hm
              go_wp2_with (refine wpList_load_row 53 _ _ (by rfl) (.tmp 79) rfl (by rfl) HRG.out Try.underlying53 rfl (by kernel_rfl) ?_)
              generalize wr.alloc (.cells #[.bool di, .bool dm, .bool ds, .int .i64 dq, .slice Ad nd cd] 53) = w1 at *
              go_still_tail 7, (by kernel_rfl)
              change wpList Try.prog _ _ _ _ w1.drew
              have D2 := Lib.hid (D1.out.below (⟨rfl, rfl, rfl, Nat.le_refl _, fun _ _ => rfl⟩ : Below w1.heap.size w1 w1.drew))
              have C2 := Lib.hid (chgP_trans C1.out (⟨rfl, rfl, rfl, Nat.le_refl _, fun _ _ _ => rfl⟩ : Chg (fun q => ¬ P2 q) w1 w1.drew))
              clear c0 hsl n4b hnb4 u0 u1 u2 u3 u4 hul l0 l1 l2 l3 l4 hll D1 C1 Nq1 U1 K11q HBx
              generalize w1.drew = w2 at *
              have B2q := Lib.hid (BW14.out.trans (chgP_below C2.out (fun q hq => HP2B.out q (by omega)) BW14.out.size))
              go_wp2_with fail
              have hq5 := duoP_hear (K := K1) ⟨di, dm, ds, dq⟩ (Ah := Ad) (nh := nd) (ch := cd) (cl := c') D2.out hd0 hd1 (HS'.out.below B2q.out) B2q.out.size (fun q hq => Nat.lt_of_lt_of_le (HP2lt.out q hq) C2.out.size) (fun q hq => HP2B.out q (by omega)) (by omega) HK1.out
              rw [HR.out] at hq5
              refine hq5.mono ?_
              rintro e5 w5 ⟨rfl, hp5, hc5⟩
              have D5q := Lib.hid (show DuoP w5 P2 s p s' p' A n c A' n' c' x y from hp5)
              have C5q := Lib.hid (chgP_trans C2.out hc5)
              clear hp5 hc5 D2 C2 B2q HR hq5
              obtain ⟨c0, hsl, ⟨E9, hx9⟩, -⟩ := D5q.out.side
              have HX9 := Lib.hid hx9
              clear hx9
              go_wp2_with fail
              refine (sayO HX9.out).mono ?_
              rintro e6 w6 ⟨A7, m7, c7, rfl, hb7, hO7⟩
              have hm7 : m7 ≤ 3 := by
                have := own_lenH encHd_len (by omega) hO7
                rw [List.length_take] at this
                omega
              have G7 := hb7.alloc hb7.size (.cells #[.bool x.x.said.init, .bool x.x.said.more, .bool x.x.said.master, .int .i64 x.x.said.seq, .slice A7 m7 c7] 53)
              have C6q := Lib.hid (chgP_trans C5q.out (Chg.of_below (F := fun q => ¬ P2 q) G7))
              have D6q := Lib.hid (D5q.out.below G7)
              have K17 := Lib.hid (Blk.new w6 53 #[.bool x.x.said.init, .bool x.x.said.more, .bool x.x.said.master, .int .i64 x.x.said.seq, .slice A7 m7 c7])
              have O7q := Lib.hid (own_hds (hO7.alloc (.cells #[.bool x.x.said.init, .bool x.x.said.more, .bool x.x.said.master, .int .i64 x.x.said.seq, .slice A7 m7 c7] 53)))
              clear c0 hsl HX9 hb7 hO7 D5q C5q G7
              have O9q := Lib.hid (own_hds (chgP_own O9d.out C6q.out HPO9.out))
              have K9q := Lib.hid (K9d.out.chg C6q.out (fun e => e HPz9.out))
              obtain ⟨d0, hsl, ⟨E8, hx8⟩, -⟩ := D6q.out.side
              obtain ⟨h8, hB8, -⟩ := hx8.mem
              have HB8 := Lib.hid hB8
              obtain ⟨r0, r1, r2, r3, r4⟩ := K9q.out.five
              have hrl := K9q.out.lt
              obtain ⟨t0, t1, t2, t3, t4⟩ := K17.out.five
              have htl := K17.out.lt
              clear hx8 hB8
              go_wp2_with fail
              generalize w6.alloc (.cells #[.bool x.x.said.init, .bool x.x.said.more, .bool x.x.said.master, .int .i64 x.x.said.seq, .slice A7 m7 c7] 53) = w7 at *
              refine (doneX HB8.out).mono ?_
              rintro e8 w8 ⟨rfl, h8⟩
              rw [h8, HE1.out]
              clear h8 w8
              go_wp2_with fail
              refine (same14_yes (w := w7) (B := w7.heap.size) (B' := w7.heap.size) x.x.said x.x.said O9q.out O7q.out (Nat.le_refl _) (Nat.le_refl _) (by omega) (by omega) rfl rfl).mono ?_
              rintro e9 w9 ⟨rfl, hg9⟩
              have D10 := Lib.hid (D6q.out.below (below_grown13 hg9))
              have C10 := Lib.hid (chgP_trans C6q.out (Chg.of_below (F := fun q => ¬ P2 q) (below_grown13 hg9)))
              clear hg9 D6q C6q O9q O7q K9q K17 HB8 d0 hsl r0 r1 r2 r3 r4 hrl t0 t1 t2 t3 t4 htl
              go_wp2
              go_roundw
              case rel => exact ⟨k + 1, by go_num, by omega, D10, C10⟩
              case measure => simp [intOf]; omega
          · have q1 : (di == y.x.said.init) = false := by simpa using hi
            have HR := Lib.hid (show hearE x.x ⟨di, dm, ds, dq⟩ nd K1 = (3, x.x) by
              rw [done_hear HE5.out HE1.out hokd]
              rw [if_neg (by rw [HE7.out]; intro e; exact hi (congrArg Pc.init e))])
            obtain ⟨c0, hsl, ⟨E7, hx7⟩, -⟩ := D1.out.side
            obtain ⟨h7, hB7, -⟩ := hx7.mem
            have HBx := Lib.hid hB7
            clear hx7 hB7
            have n4b : (wr.alloc (.cells #[.bool di, .bool dm, .bool ds, .int .i64 dq, .slice Ad nd cd] 53)).cell? ⟨w.heap.size + 1, 1, none⟩ = some (.slice A' n' c') := Nq1.out.cell 1
            have hnb4 := Nq1.out.lt
            clear hi
            go_wp2_with (refine wpList_load_row 53 _ _ (by rfl) (.tmp 79) rfl (by rfl) HRG.out Try.underlying53 rfl (by kernel_rfl) ?_)
            generalize wr.alloc (.cells #[.bool di, .bool dm, .bool ds, .int .i64 dq, .slice Ad nd cd] 53) = w1 at *
            go_still_tail 7, (by kernel_rfl)
            change wpList Try.prog _ _ _ _ w1.drew
            have D2 := Lib.hid (D1.out.below (⟨rfl, rfl, rfl, Nat.le_refl _, fun _ _ => rfl⟩ : Below w1.heap.size w1 w1.drew))
            have C2 := Lib.hid (chgP_trans C1.out (⟨rfl, rfl, rfl, Nat.le_refl _, fun _ _ _ => rfl⟩ : Chg (fun q => ¬ P2 q) w1 w1.drew))
            clear c0 hsl n4b hnb4 u0 u1 u2 u3 u4 hul l0 l1 l2 l3 l4 hll D1 C1 Nq1 U1 K11q HBx
            generalize w1.drew = w2 at *
            have B2q := Lib.hid (BW14.out.trans (chgP_below C2.out (fun q hq => HP2B.out q (by omega)) BW14.out.size))
            go_wp2_with fail
            have hq5 := duoP_hear (K := K1) ⟨di, dm, ds, dq⟩ (Ah := Ad) (nh := nd) (ch := cd) (cl := c') D2.out hd0 hd1 (HS'.out.below B2q.out) B2q.out.size (fun q hq => Nat.lt_of_lt_of_le (HP2lt.out q hq) C2.out.size) (fun q hq => HP2B.out q (by omega)) (by omega) HK1.out
            rw [HR.out] at hq5
            refine hq5.mono ?_
            rintro e5 w5 ⟨rfl, hp5, hc5⟩
            have D5q := Lib.hid (show DuoP w5 P2 s p s' p' A n c A' n' c' x y from hp5)
            have C5q := Lib.hid (chgP_trans C2.out hc5)
            clear hp5 hc5 D2 C2 B2q HR hq5
            obtain ⟨c0, hsl, ⟨E9, hx9⟩, -⟩ := D5q.out.side
            have HX9 := Lib.hid hx9
            clear hx9
            go_wp2_with fail
            refine (sayO HX9.out).mono ?_
            rintro e6 w6 ⟨A7, m7, c7, rfl, hb7, hO7⟩
            have hm7 : m7 ≤ 3 := by
              have := own_lenH encHd_len (by omega) hO7
              rw [List.length_take] at this
              omega
            have G7 := hb7.alloc hb7.size (.cells #[.bool x.x.said.init, .bool x.x.said.more, .bool x.x.said.master, .int .i64 x.x.said.seq, .slice A7 m7 c7] 53)
            have C6q := Lib.hid (chgP_trans C5q.out (Chg.of_below (F := fun q => ¬ P2 q) G7))
            have D6q := Lib.hid (D5q.out.below G7)
            have K17 := Lib.hid (Blk.new w6 53 #[.bool x.x.said.init, .bool x.x.said.more, .bool x.x.said.master, .int .i64 x.x.said.seq, .slice A7 m7 c7])
            have O7q := Lib.hid (own_hds (hO7.alloc (.cells #[.bool x.x.said.init, .bool x.x.said.more, .bool x.x.said.master, .int .i64 x.x.said.seq, .slice A7 m7 c7] 53)))
            clear c0 hsl HX9 hb7 hO7 D5q C5q G7
            have O9q := Lib.hid (own_hds (chgP_own O9d.out C6q.out HPO9.out))
            have K9q := Lib.hid (K9d.out.chg C6q.out (fun e => e HPz9.out))
            obtain ⟨d0, hsl, ⟨E8, hx8⟩, -⟩ := D6q.out.side
            obtain ⟨h8, hB8, -⟩ := hx8.mem
            have HB8 := Lib.hid hB8
            obtain ⟨r0, r1, r2, r3, r4⟩ := K9q.out.five
            have hrl := K9q.out.lt
            obtain ⟨t0, t1, t2, t3, t4⟩ := K17.out.five
            have htl := K17.out.lt
            clear hx8 hB8
            go_wp2_with fail
            generalize w6.alloc (.cells #[.bool x.x.said.init, .bool x.x.said.more, .bool x.x.said.master, .int .i64 x.x.said.seq, .slice A7 m7 c7] 53) = w7 at *
            refine (doneX HB8.out).mono ?_
            rintro e8 w8 ⟨rfl, h8⟩
            rw [h8, HE1.out]
            clear h8 w8
            go_wp2_with fail
            refine (same14_yes (w := w7) (B := w7.heap.size) (B' := w7.heap.size) x.x.said x.x.said O9q.out O7q.out (Nat.le_refl _) (Nat.le_refl _) (by omega) (by omega) rfl rfl).mono ?_
            rintro e9 w9 ⟨rfl, hg9⟩
            have D10 := Lib.hid (D6q.out.below (below_grown13 hg9))
            have C10 := Lib.hid (chgP_trans C6q.out (Chg.of_below (F := fun q => ¬ P2 q) (below_grown13 hg9)))
            clear hg9 D6q C6q O9q O7q K9q K17 HB8 d0 hsl r0 r1 r2 r3 r4 hrl t0 t1 t2 t3 t4 htl
            go_wp2
            go_roundw
            case rel => exact ⟨k + 1, by go_num, by omega, D10, C10⟩
            case measure => simp [intOf]; omega
        · have hlt3 : ¬ (k : Int) < ((1 + nb : Nat) : Int) := by omega
          have hlt4 : ¬ (k : Int) < 1 + (nb : Int) := by omega
          go_wp2
          go_ret
          exact ⟨rfl, BQ.out⟩
end Go.Proofs.Ytfdfdmbnggpnbaa
