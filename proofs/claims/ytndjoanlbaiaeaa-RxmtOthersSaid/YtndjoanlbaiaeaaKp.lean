/- The walk of the statement RxmtOthers. Conditions: what the words say. -/
import Derived.Test.YtndjoanlbaiaeaaKo
import Derived.Test.YtndjoanlbaiaeaaKu
namespace Go.Proofs.Ytndjoanlbaiaeaa
open Go.RowKit Go.Shelf Go.Lib Go.Sort Go.Deep

theorem two_cells {w : World} {g : Nat} {t : TypeId} {a b : Value} (h : Blk w g t #[a, b]) : w.cell? ⟨g, 0, none⟩ = some a ∧ w.cell? ⟨g, 1, none⟩ = some b := ⟨h.cell 0, h.cell 1⟩
theorem own_kept {w w' : World} {B n : Nat} {A : Option Addr} {K : List Ky} (h : Kys w B A n K) (hb : Below B w w') : Kys w' B A n K := h.below hb
set_option maxRecDepth 20000 in
set_option maxHeartbeats 32000000 in
theorem others16_walk {w : World} {A : Option Addr} {nn c : Nat} {K : List Ky} {a b : Int × Int} (ha : wfN a) (hb : wfN b) (hK : Kys w w.heap.size A nn K) (hwf : ∀ k ∈ K, wfKy k) (hnn : nn ≤ maxLen) : Calls Try.prog 5 #[.agg #[.int .i64 a.1, .int .i64 a.2], .agg #[.int .i64 b.1, .int .i64 b.2], .slice A nn c] w fun e w' => e = .returned (.bool true) ∧ Below w.heap.size w w' := by
  unfold maxLen at hnn
  generalize hQ : (fun (e : Ending) (w' : World) => e = .returned (.bool true) ∧ Below w.heap.size w w') = Q
  have HQ := Lib.hid hQ
  have HK := Lib.hid hK
  have HWF := Lib.hid hwf
  have HA := Lib.hid ha
  have HB := Lib.hid hb
  have B0 := Lib.hid (below_new2 w (.cells #[.int .i64 a.1, .int .i64 a.2] 47) (.cells #[.int .i64 b.1, .int .i64 b.2] 47))
  have S0 := Lib.hid (blk_new07 w #[.int .i64 a.1, .int .i64 a.2] 47 (.cells #[.int .i64 b.1, .int .i64 b.2] 47))
  have R0 := Lib.hid (blk_new1 w (.cells #[.int .i64 a.1, .int .i64 a.2] 47) 47 #[.int .i64 b.1, .int .i64 b.2])
  clear hQ hK hwf ha hb
  go_enter Try.func5, Try.ntmps5
  go_wp2_with fail
  refine (wakes_any _).mono ?_
  rintro e1 w1 ⟨rfl, hb1⟩
  have B1 := Lib.hid (B0.out.trans (hb1.mono B0.out.size))
  have S1 := Lib.hid (S0.out.below hb1 S0.out.lt)
  have R1 := Lib.hid (R0.out.below hb1 R0.out.lt)
  clear hb1 B0 S0 R0
  by_cases hn : 60 < nn
  · have hn' : (60 : Int) < nn := by omega
    go_wp2
    show Q (.returned (.bool true)) w1
    rw [← HQ.out]
    exact ⟨rfl, B1.out⟩
  have hn' : ¬ (60 : Int) < nn := by omega
  obtain ⟨s0, s1⟩ := two_cells S1.out
  obtain ⟨r0, r1⟩ := two_cells R1.out
  have eK := fun W => equalPr HA.out HB.out W
  by_cases hab : a = b
  · rw [decide_eq_true hab] at eK
    clear hab
    go_wp2
    show Q (.returned (.bool true)) w1
    rw [← HQ.out]
    exact ⟨rfl, B1.out⟩
  rw [decide_eq_false hab] at eK
  have HNE := Lib.hid hab
  clear hab
  go_wp2_with fail
  refine (new_x _).mono ?_
  rintro e2 w2 ⟨p, F2, rfl, hb2, hX2, hp2, hF2⟩
  have X2 := Lib.hid hX2
  have B2 := Lib.hid (B1.out.trans (hb2.mono B1.out.size))
  have S2 := Lib.hid (S1.out.below hb2 S1.out.lt)
  have R2 := Lib.hid (R1.out.below hb2 R1.out.lt)
  have HF2 := Lib.hid (show ∀ q, F2 q → w.heap.size ≤ q from fun q hq => Nat.le_trans B1.out.size (hF2 q hq))
  clear hb2 hX2 hp2 hF2 S1 R1 B1 s0 s1 r0 r1 eK
  obtain ⟨s0, s1⟩ := two_cells S2.out
  go_wp2_with fail
  refine (put_x X2.out a HA.out (HK.out.below B2.out) B2.out.size HWF.out (by simp; omega)).mono ?_
  rintro e3 w3 ⟨rfl, F3, hX3, hC3, hF3⟩
  have X3 := Lib.hid hX3
  have B3 := Lib.hid (B2.out.trans (hC3.to_below (fun q hq => HF2.out q hq) B2.out.size))
  have S3 := Lib.hid (S2.out.chg hC3 (RxIs.no_blk X2.out S2.out))
  have R3 := Lib.hid (R2.out.chg hC3 (RxIs.no_blk X2.out R2.out))
  have HF3 := Lib.hid (show ∀ q, F3 q → w.heap.size ≤ q from fun q hq => by
    rcases hF3 q hq with h | h
    · exact HF2.out q h
    · exact Nat.le_trans B2.out.size h)
  clear hX3 hC3 hF3 X2 B2 S2 R2 HF2
  have HLA := Lib.hid (len_mem (n := a) (K := K) X3.out.nodup (fun y => by rw [(puts_all (n := a) (K := K) (L := []) List.nodup_nil).2]; simp))
  rw [HLA.out]
  clear s0 s1
  obtain ⟨r0, r1⟩ := two_cells R3.out
  go_wp2_with fail
  refine (put_x X3.out b HB.out (HK.out.below B3.out) B3.out.size HWF.out (by have := putsK_len a K []; have := HK.out.1; simp at *; omega)).mono ?_
  rintro e4 w4 ⟨rfl, F4, hX4, hC4, hF4⟩
  have X4 := Lib.hid hX4
  have B4 := Lib.hid (B3.out.trans (hC4.to_below (fun q hq => HF3.out q hq) B3.out.size))
  have S4 := Lib.hid (S3.out.chg hC4 (RxIs.no_blk X3.out S3.out))
  have R4 := Lib.hid (R3.out.chg hC4 (RxIs.no_blk X3.out R3.out))
  have HF4 := Lib.hid (show ∀ q, F4 q → w.heap.size ≤ q from fun q hq => by
    rcases hF4 q hq with h | h
    · exact HF3.out q h
    · exact Nat.le_trans B3.out.size h)
  clear hX4 hC4 hF4 X3 B3 S3 R3 HF3
  have HOT := Lib.hid (OT.start a b K)
  have HLB := Lib.hid (len_mem (n := b) (K := K) X4.out.nodup HOT.out.on)
  rw [HLB.out]
  have HLL := Lib.hid (show (putsK (putsK [] a K) b K).length ≤ 200 by have := putsK_len a K []; have := putsK_len b K (putsK [] a K); have := HK.out.1; simp at *; omega)
  generalize putsK (putsK [] a K) b K = L4 at *
  obtain ⟨dl, hdl⟩ : ∃ dl, (srtK K).length = dl := ⟨_, rfl⟩
  rw [hdl]
  have HDL := Lib.hid hdl
  have dn : ((dl : Int) != (dl : Int)) = false := by simp
  clear hdl r0 r1 HLA HLB
  go_wp2_with fail
  clear dn
  go_loopw [42] (fun s wr => ∃ (j : Nat) (L : List Rw) (F : Nat → Prop), j ≤ nn ∧ s = .int .i64 j ∧ Hid (RxIs wr p L F) ∧ Hid (∀ q, F q → w.heap.size ≤ q) ∧ Hid (OT a b K L) ∧ Hid (L.length ≤ 200) ∧ Hid (Below w.heap.size w wr) ∧ Hid (Blk wr w.heap.size 47 #[.int .i64 a.1, .int .i64 a.2]) ∧ Hid (Blk wr (w.heap.size + 1) 47 #[.int .i64 b.1, .int .i64 b.2])) (fun i _ => nn - (intOf i).toNat)
  case atStart => exact ⟨0, L4, F4, Nat.zero_le _, rfl, X4, HF4, HOT, HLL, B4, S4, R4⟩
  case round =>
    clear X4 HF4 HOT HLL B4 S4 R4
    obtain ⟨j, L, F5, hj, rfl, X5, HF5, HOT, HLL, B5, S5, R5⟩ := hrel
    by_cases hlt : j < nn
    · have hlt' : (j : Int) < nn := by omega
      obtain ⟨gb, ob, k, rfl, hgl, hx, y0, y1, y2⟩ := kys_item (HK.out.below B5.out) hlt
      have HWK := Lib.hid (HWF.out k (List.mem_of_getElem? hx))
      have HKM := Lib.hid (List.mem_of_getElem? hx)
      have Y6 := Lib.hid (Blk.new wr 34 #[.int .i64 k.kind, .int .i64 k.id, .int .i64 k.adv])
      have X6 := Lib.hid (X5.out.below ((Below.refl wr.heap.size wr).alloc (Nat.le_refl _) (.cells #[.int .i64 k.kind, .int .i64 k.id, .int .i64 k.adv] 34)))
      have B6 := Lib.hid (B5.out.alloc B5.out.size (.cells #[.int .i64 k.kind, .int .i64 k.id, .int .i64 k.adv] 34))
      have S6 := Lib.hid (S5.out.alloc (.cells #[.int .i64 k.kind, .int .i64 k.id, .int .i64 k.adv] 34))
      have R6 := Lib.hid (R5.out.alloc (.cells #[.int .i64 k.kind, .int .i64 k.id, .int .i64 k.adv] 34))
      have HF6 := HF5
      clear hx X5 B5 S5 R5 HF5
      obtain ⟨k0, k1, k2⟩ := Y6.out.three
      obtain ⟨s0, s1⟩ := two_cells S6.out
      go_wp2_with fail
      refine (ack_x X6.out a HA.out k HWK.out).mono ?_
      rintro e7 w7 ⟨rfl, F7, hX7, hC7, hF7⟩
      have Y7 := Lib.hid (Y6.out.chg hC7 (RxIs.no_blk X6.out Y6.out))
      have X7 := Lib.hid hX7
      have B7 := Lib.hid (B6.out.trans (hC7.to_below (fun q hq => HF6.out q hq) B6.out.size))
      have S7 := Lib.hid (S6.out.chg hC7 (RxIs.no_blk X6.out S6.out))
      have R7 := Lib.hid (R6.out.chg hC7 (RxIs.no_blk X6.out R6.out))
      have HF7 := Lib.hid (show ∀ q, F7 q → w.heap.size ≤ q from fun q hq => by
        rcases hF7 q hq with h | h
        · exact HF6.out q h
        · exact Nat.le_trans B6.out.size h)
      clear hX7 hC7 hF7 X6 B6 S6 R6 HF6
      clear Y6 k0 k1 k2 s0 s1
      obtain ⟨hot, hna⟩ := HOT.out.ack HNE.out k
      have HOT7 := Lib.hid hot
      have HLL7 := Lib.hid (show (ackK L a k).length ≤ 200 from Nat.le_trans (List.length_filter_le _ _) HLL.out)
      have HNA := Lib.hid hna
      clear hot hna HOT HLL
      obtain ⟨k0, k1, k2⟩ := Y7.out.three
      obtain ⟨s0, s1⟩ := two_cells S7.out
      go_wp2_with fail
      refine (on_i X7.out a HA.out k HWK.out).mono ?_
      rintro e8 w8 ⟨rfl, hb8⟩
      rw [decide_eq_false HNA.out]
      have X8 := Lib.hid (X7.out.below hb8)
      have B8 := Lib.hid (B7.out.trans (hb8.mono B7.out.size))
      have S8 := Lib.hid (S7.out.below hb8 S7.out.lt)
      have R8 := Lib.hid (R7.out.below hb8 R7.out.lt)
      have Y8 := Lib.hid (Y7.out.below hb8 Y7.out.lt)
      clear hb8 X7 B7 S7 R7 Y7 k0 k1 k2 s0 s1
      obtain ⟨k0, k1, k2⟩ := Y8.out.three
      obtain ⟨r0, r1⟩ := two_cells R8.out
      go_wp2_with fail
      refine (on_i X8.out b HB.out k HWK.out).mono ?_
      rintro e9 w9 ⟨rfl, hb9⟩
      rw [decide_eq_true ((HOT7.out.on k).2 HKM.out)]
      have X9 := Lib.hid (X8.out.below hb9)
      have B9 := Lib.hid (B8.out.trans (hb9.mono B8.out.size))
      have S9 := Lib.hid (S8.out.below hb9 S8.out.lt)
      have R9 := Lib.hid (R8.out.below hb9 R8.out.lt)
      clear hb9 X8 B8 S8 R8 Y8 k0 k1 k2 r0 r1
      go_wp2
      go_roundw
      case rel => exact ⟨j + 1, _, F7, by omega, by go_num, X9, HF7, HOT7, HLL7, B9, S9, R9⟩
      case measure => simp [intOf]; omega
    · have hlt' : ¬ (j : Int) < nn := by omega
      obtain ⟨s0, s1⟩ := two_cells S5.out
      obtain ⟨q1, q2, q3⟩ := HOT.out.again X5.out.nodup HNE.out
      have Q1 := Lib.hid q1
      have Q2 := Lib.hid q2
      have Q3 := Lib.hid q3
      clear q1 q2 q3
      go_wp2_with fail
      refine (put_x X5.out a HA.out (HK.out.below B5.out) B5.out.size HWF.out (by have := HLL.out; omega)).mono ?_
      rintro e6 w6 ⟨rfl, F6, hX6, hC6, hF6⟩
      have X6 := Lib.hid hX6
      have B6 := Lib.hid (B5.out.trans (hC6.to_below (fun q hq => HF5.out q hq) B5.out.size))
      have S6 := Lib.hid (S5.out.chg hC6 (RxIs.no_blk X5.out S5.out))
      have R6 := Lib.hid (R5.out.chg hC6 (RxIs.no_blk X5.out R5.out))
      have HF6 := Lib.hid (show ∀ q, F6 q → w.heap.size ≤ q from fun q hq => by
        rcases hF6 q hq with h | h
        · exact HF5.out q h
        · exact Nat.le_trans B5.out.size h)
      clear hX6 hC6 hF6 X5 B5 S5 R5 HF5
      have HL6 := Lib.hid (len_mem (n := a) (K := K) X6.out.nodup Q1.out)
      clear s0 s1
      obtain ⟨s0, s1⟩ := two_cells S6.out
      go_wp2_with fail
      refine (forget_x X6.out a HA.out).mono ?_
      rintro e7 w7 ⟨rfl, F7, hX7, hC7, hF7⟩
      rw [HL6.out, HDL.out]
      have X7 := Lib.hid hX7
      have B7 := Lib.hid (B6.out.trans (hC7.to_below (fun q hq => HF6.out q hq) B6.out.size))
      have S7 := Lib.hid (S6.out.chg hC7 (RxIs.no_blk X6.out S6.out))
      have R7 := Lib.hid (R6.out.chg hC7 (RxIs.no_blk X6.out R6.out))
      have HF7 := Lib.hid (show ∀ q, F7 q → w.heap.size ≤ q from fun q hq => by
        rcases hF7 q hq with h | h
        · exact HF6.out q h
        · exact Nat.le_trans B6.out.size h)
      clear hX7 hC7 hF7 X6 B6 S6 R6 HF6
      have HL7 := Lib.hid (len_mem (n := b) (K := K) X7.out.nodup Q2.out)
      clear s0 s1
      obtain ⟨s0, s1⟩ := two_cells S7.out
      go_wp2_with fail
      refine (len_i X7.out a HA.out).mono ?_
      rintro e8 w8 ⟨rfl, rfl⟩
      rw [Q3.out, List.length_nil]
      clear s0 s1
      obtain ⟨r0, r1⟩ := two_cells R7.out
      go_wp2_with fail
      refine (len_i X7.out b HB.out).mono ?_
      rintro e9 w9 ⟨rfl, rfl⟩
      rw [HL7.out, HDL.out]
      clear r0 r1
      go_wp2
      show Q (.returned (.bool true)) w7
      rw [← HQ.out]
      exact ⟨rfl, B7.out⟩
end Go.Proofs.Ytndjoanlbaiaeaa
