/- The walk of the statement ExchSelf. Conditions: what the words say. -/
import Derived.Test.YtjinleakjkbbgaaBo
import Derived.Test.YtjinleakjkbbgaaBp
namespace Go.Proofs.Ytjinleakjkbbgaa
open Go.RowKit Go.Lib Go.Sort Go.Deep

theorem bls_item {w : World} {B n k : Nat} {A : Option Addr} {L : List Bool} (h : Bls w B A n L) (hk : k < n) : ∃ (b o : Nat) (x : Bool), A = some ⟨b, o, none⟩ ∧ b < B ∧ L[k]? = some x ∧ w.cell? ⟨b, o + k, none⟩ = some (.bool x) := by
  obtain ⟨b, o, x, rfl, hb, hx, hh⟩ := Arr.at h hk
  rw [Nat.mul_one] at hh
  exact ⟨b, o, x, rfl, hb, hx, hh⟩
theorem self_hear1 {w : World} {B s p s' p' : Nat} {A A' : Option Addr} {n c n' c' : Nat} {S : List La} {a b : Sd} (h : DuoAt w B s p s' p' A n c A' n' c' a b) (hS : Las w B A n S) (hBw : B ≤ w.heap.size) (hn : n ≤ 100) (ht : a.took.length ≤ 1000)
    (ha : a.x.agreed = false) (hs : a.x.self = a.x.other) :
    Calls Try.prog 17 #[.pointer (some ⟨s, 0, none⟩), .pointer (some ⟨s', 0, none⟩)] w fun e w' => e = .returned (.bool true) ∧ DuoAt w' B s p s' p' A n c A' n' c' a b ∧ Below B w w' := by
  obtain ⟨K, hK⟩ := told_ex S
  refine (duo_first h hS hBw hn hK ht).mono ?_
  rintro e w1 ⟨rfl, hd, hb⟩
  obtain ⟨h1, h2⟩ := self_hears (y := b) (K := K) ha hs
  rw [h2] at hd
  exact ⟨by rw [h1]; rfl, hd, hb⟩
set_option maxRecDepth 20000 in
set_option maxHeartbeats 16000000 in
theorem self_walk (n0 n1 n2 : Int) {w : World} {A : Option Addr} {n c : Nat} {T : List La} {Ab : Option Addr} {nb cb : Nat} {Lb : List Bool} (hT : Las w w.heap.size A n T) (hn : n ≤ maxLen) (hL : Bls w w.heap.size Ab nb Lb) (hnb : nb ≤ maxLen) :
    Calls Try.prog 6 #[.agg #[.int .i64 n0, .int .i64 n1, .int .i64 n2], .slice A n c, .slice Ab nb cb] w fun e w' => e = .returned (.bool true) ∧ Below w.heap.size w w' := by
  have HT := Lib.hid hT
  have HL := Lib.hid hL
  have HN := Lib.hid hn
  have B0 := Lib.hid ((Below.refl w.heap.size w).alloc (Nat.le_refl _) (.cells #[.int .i64 n0, .int .i64 n1, .int .i64 n2] 22))
  have N0 := Lib.hid (Blk.new w 22 #[.int .i64 n0, .int .i64 n1, .int .i64 n2])
  unfold maxLen at hnb
  clear hT hL hn
  go_enter Try.func6, Try.ntmps6
  go_wp2_with fail
  refine (wakes14 _).mono ?_
  rintro e1 w1 ⟨rfl, hb1⟩
  have B1 := Lib.hid (B0.out.trans (hb1.mono B0.out.size))
  have N1 := Lib.hid (N0.out.below hb1 N0.out.lt)
  clear hb1 B0 N0
  go_wp2_with fail
  refine (many14 A n c T w.heap.size w1 (HT.out.below B1.out) B1.out.size HN.out).mono ?_
  rintro e2 w2 ⟨⟨t, rfl, ht⟩, hb2⟩
  have B2 := Lib.hid (B1.out.trans (hb2.mono B1.out.size))
  have N2 := Lib.hid (N1.out.below hb2 N1.out.lt)
  clear hb2 B1 N1
  cases t
  case true =>
    go_wp2
    go_ret
    exact ⟨rfl, B2.out⟩
  obtain ⟨hn60, -⟩ := ht rfl
  clear ht HN
  by_cases hnb2 : 100 < nb
  · have d1 : decide (100 < (nb : Int)) = true := by simp; omega
    go_wp2
    go_ret
    exact ⟨rfl, B2.out⟩
  have d1 : decide (100 < (nb : Int)) = false := by simp; omega
  obtain ⟨n0', n1', n2'⟩ := N2.out.three
  have hnl := N2.out.lt
  go_wp2_with fail
  refine (two_any n0 n0 n1 n2 A n c A n c _).mono ?_
  rintro e3 w3 h3
  obtain ⟨s, p, s', p', rfl, hd3, hb3⟩ := duo_new h3 B2.out.size
  have D3 := Lib.hid hd3
  have B3 := Lib.hid (B2.out.trans (hb3.mono B2.out.size))
  clear h3 hd3 hb3 n0' n1' n2' hnl N2 B2
  go_wp2_with fail
  go_loopw [38] (fun s38 wr => ∃ k : Nat, s38 = .int .i64 k ∧ k ≤ nb ∧ Hid (DuoAt wr w.heap.size s p s' p' A n c A n c ⟨newE n0 n0 n1, []⟩ ⟨newE n0 n0 n2, []⟩) ∧ Hid (Below w.heap.size w wr)) (fun s38 _ => nb - (intOf s38).toNat)
  case atStart => exact ⟨0, rfl, Nat.zero_le _, D3, B3⟩
  case round =>
    clear D3 B3
    obtain ⟨k, rfl, hk, DR, BR⟩ := hrel
    by_cases hlt : k < nb
    · have hlt' : (k : Int) < (nb : Int) := by omega
      obtain ⟨bb, bo, x, rfl, hbb, hx, hcell⟩ := bls_item (HL.out.below BR.out) hlt
      have hbl : bb < wr.heap.size := Nat.lt_of_lt_of_le hbb BR.out.size
      clear hx
      cases x
      · go_wp2_with fail
        refine (self_hear1 DR.out.swap (HT.out.below BR.out) BR.out.size (by omega) (Nat.zero_le _) rfl rfl).mono ?_
        rintro e4 w4 ⟨rfl, hd4, hb4⟩
        have D4 := Lib.hid hd4.swap
        have B4 := Lib.hid (BR.out.trans hb4)
        clear hd4 hb4 DR BR hcell hbl
        obtain ⟨c0, hsl, ⟨E, hx⟩, -⟩ := D4.out.side
        obtain ⟨c0', hsl', ⟨E', hx'⟩, -⟩ := D4.out.swap.side
        obtain ⟨h, hB, -⟩ := hx.mem
        obtain ⟨h', hB', -⟩ := hx'.mem
        clear hx hx'
        go_wp2_with fail
        refine (agreedX hB).mono ?_
        rintro e5 w5 ⟨rfl, h5⟩
        rw [h5]
        clear h5 w5
        go_wp2_with fail
        refine (agreedX hB').mono ?_
        rintro e5 w5 ⟨rfl, h5⟩
        rw [h5]
        clear h5 w5 hB hB' c0 c0' hsl hsl'
        go_wp2
        go_roundw
        case rel => exact ⟨k + 1, by go_num, by omega, D4, B4⟩
        case measure => simp [intOf]; omega
      · go_wp2_with fail
        refine (self_hear1 DR.out (HT.out.below BR.out) BR.out.size (by omega) (Nat.zero_le _) rfl rfl).mono ?_
        rintro e4 w4 ⟨rfl, hd4, hb4⟩
        have D4 := Lib.hid hd4
        have B4 := Lib.hid (BR.out.trans hb4)
        clear hd4 hb4 DR BR hcell hbl
        obtain ⟨c0, hsl, ⟨E, hx⟩, -⟩ := D4.out.side
        obtain ⟨c0', hsl', ⟨E', hx'⟩, -⟩ := D4.out.swap.side
        obtain ⟨h, hB, -⟩ := hx.mem
        obtain ⟨h', hB', -⟩ := hx'.mem
        clear hx hx'
        go_wp2_with fail
        refine (agreedX hB).mono ?_
        rintro e5 w5 ⟨rfl, h5⟩
        rw [h5]
        clear h5 w5
        go_wp2_with fail
        refine (agreedX hB').mono ?_
        rintro e5 w5 ⟨rfl, h5⟩
        rw [h5]
        clear h5 w5 hB hB' c0 c0' hsl hsl'
        go_wp2
        go_roundw
        case rel => exact ⟨k + 1, by go_num, by omega, D4, B4⟩
        case measure => simp [intOf]; omega
    · have hlt' : ¬ (k : Int) < (nb : Int) := by omega
      obtain ⟨c0, hsl, -, At, nt, ct, c2, h0, -, -, -⟩ := DR.out.side
      obtain ⟨c0', hsl', -, At', nt', ct', c2', h0', -, -, -⟩ := DR.out.swap.side
      obtain rfl : nt = 0 := h0
      obtain rfl : nt' = 0 := h0'
      go_wp2_with fail
      go_quiet (fail)
      go_wp2
      go_ret
      exact ⟨rfl, belowD BR.out⟩
end Go.Proofs.Ytjinleakjkbbgaa
