/- The reference of packets: which packets are right, plain facts. Conditions: the lists read as such. -/
import Derived.Test.YtekhgkkgmkodmaaGreatRb
import Derived.Test.YtekhgkkgmkodmaaGreatJaq
namespace Go.Proofs.YtekhgkkgmkodmaaGreat
open Go.RowKit

theorem right_noH {v : Pv} {l : Pl} (hk : v.kind ≠ 1) (h : zeroH v.every v.dead v.prio v.dr v.bdr l.seen = false) : rightP v l = false := by
  unfold rightP onlyB sameF
  rw [decide_eq_false hk, h]
  simp
theorem right_noD {v : Pv} {l : Pl} (hk : v.kind ≠ 2) (h : zeroD v.ini v.mor v.mas v.seq l.heads = false) : rightP v l = false := by
  unfold rightP onlyB sameF
  rw [decide_eq_false hk, h]
  simp
theorem right_noW {v : Pv} {l : Pl} (hk : v.kind ≠ 3) (h : 0 < l.wants.length) : rightP v l = false := by
  unfold rightP onlyB sameF
  rw [decide_eq_false hk, decide_eq_false (show ¬ l.wants.length = 0 by omega)]
  simp
theorem right_noL {v : Pv} {l : Pl} (hk : v.kind ≠ 4) (h : 0 < l.lsas.length) : rightP v l = false := by
  unfold rightP onlyB sameF
  rw [decide_eq_false hk, decide_eq_false (show ¬ l.lsas.length = 0 by omega)]
  simp
theorem right_noA {v : Pv} {l : Pl} (hk : v.kind ≠ 5) (h : 0 < l.acks.length) : rightP v l = false := by
  unfold rightP onlyB sameF
  rw [decide_eq_false hk, decide_eq_false (show ¬ l.acks.length = 0 by omega)]
  simp
theorem right_part {v : Pv} {l : Pl} (h0 : inB v.sender 1 15 = true) (h1 : v.kind = 1 ∨ zeroH v.every v.dead v.prio v.dr v.bdr l.seen = true) (h2 : v.kind = 2 ∨ zeroD v.ini v.mor v.mas v.seq l.heads = true) (h3 : v.kind = 3 ∨ l.wants.length = 0) (h4 : v.kind = 4 ∨ l.lsas.length = 0) (h5 : v.kind = 5 ∨ l.acks.length = 0) : rightP v l = partB v l := by
  unfold rightP onlyB sameF
  rw [h0, show (decide (v.kind = 1) || zeroH v.every v.dead v.prio v.dr v.bdr l.seen) = true by rcases h1 with h | h <;> simp [h], show (decide (v.kind = 2) || zeroD v.ini v.mor v.mas v.seq l.heads) = true by rcases h2 with h | h <;> simp [h], show (decide (v.kind = 3) || decide (l.wants.length = 0)) = true by rcases h3 with h | h <;> simp [h], show (decide (v.kind = 4) || decide (l.lsas.length = 0)) = true by rcases h4 with h | h <;> simp [h], show (decide (v.kind = 5) || decide (l.acks.length = 0)) = true by rcases h5 with h | h <;> simp [h]]
  rfl
theorem len3 (n : Nat) : inB (n : Int) 0 3 = decide (n ≤ 3) := by
  rw [Bool.eq_iff_iff, inB_iff]
  simp only [decide_eq_true_eq]
  omega
theorem dd_parts (i m s : Bool) (q : Int) (L : List Hd) : ddB i m s q L = ((!i || (m && (s && decide (L.length = 0)))) && (inB q 0 4294967295 && (L.all hdB && decide (L.length ≤ 3)))) := by
  unfold ddB pieceB
  rw [fit4_is, len3, Bool.and_comm (decide (L.length ≤ 3))]
theorem keyB_is (k : Ky) : keyB k = (inB k.kind 1 2 && (inB k.id 0 4294967295 && inB k.adv 1 15)) := by
  unfold keyB
  rw [fit4_is]

end Go.Proofs.YtekhgkkgmkodmaaGreat
