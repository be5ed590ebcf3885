/- The reference of packets: which packets are right. Conditions: the lists read as such. -/
import Derived.Test.YtekhgkkgmkodmaaGreatRc
import Derived.Test.YtekhgkkgmkodmaaGreatRc2
import Derived.Test.YtekhgkkgmkodmaaGreatRc3
import Derived.Test.YtekhgkkgmkodmaaGreatRd
namespace Go.Proofs.YtekhgkkgmkodmaaGreat
open Go.RowKit

set_option maxRecDepth 8000 in
set_option maxHeartbeats 8000000 in
theorem r5Right_no (v : Pv) (w : World) (hno : inB v.kind 1 5 = false ∨ inB v.kind 1 5 = true ∧ inB v.sender 1 15 = false) :
    Calls Tryz.prog 7 #[.agg #[.int .i64 v.kind, .int .i64 v.sender, .int .i64 v.every, .int .i64 v.dead, .int .i64 v.prio, .int .i64 v.dr, .int .i64 v.bdr, .slice v.seen.a v.seen.n v.seen.c, .bool v.ini, .bool v.mor, .bool v.mas, .int .i64 v.seq, .slice v.heads.a v.heads.n v.heads.c, .slice v.wants.a v.wants.n v.wants.c, .slice v.lsas.a v.lsas.n v.lsas.c, .slice v.acks.a v.acks.n v.acks.c]] w fun x w' => x = .returned (.bool false) ∧ Below w.heap.size w w' := by
  have B0 := Lib.hid ((Below.refl w.heap.size w).alloc (Nat.le_refl _) (.cells #[.int .i64 v.kind, .int .i64 v.sender, .int .i64 v.every, .int .i64 v.dead, .int .i64 v.prio, .int .i64 v.dr, .int .i64 v.bdr, .slice v.seen.a v.seen.n v.seen.c, .bool v.ini, .bool v.mor, .bool v.mas, .int .i64 v.seq, .slice v.heads.a v.heads.n v.heads.c, .slice v.wants.a v.wants.n v.wants.c, .slice v.lsas.a v.lsas.n v.lsas.c, .slice v.acks.a v.acks.n v.acks.c] 31))
  rcases hno with h1 | ⟨h1, h2⟩
  · have H1 := Lib.hid h1
    clear h1
    go_enter Tryz.func7, Tryz.ntmps7
    go_wp2_with fail
    refine (r5In_is v.kind 1 5 false _ H1.out).mono ?_
    rintro e1 w1 ⟨rfl, rfl⟩
    go_wp2
    go_ret
    exact ⟨rfl, B0.out⟩
  · have H1 := Lib.hid h1
    have H2 := Lib.hid h2
    clear h1 h2
    go_enter Tryz.func7, Tryz.ntmps7
    go_wp2_with fail
    refine (r5In_is v.kind 1 5 true _ H1.out).mono ?_
    rintro e1 w1 ⟨rfl, rfl⟩
    go_wp2_with fail
    refine (r5In_is v.sender 1 15 false _ H2.out).mono ?_
    rintro e1 w1 ⟨rfl, rfl⟩
    go_wp2
    go_ret
    exact ⟨rfl, B0.out⟩
theorem right_sender {v : Pv} {l : Pl} (h : inB v.sender 1 15 = false) : rightP v l = false := by
  unfold rightP
  rw [h]
  rfl
theorem right_noK {v : Pv} {l : Pl} (h : inB v.kind 1 5 = false) : rightP v l = false := by
  have hk : ¬ (1 ≤ v.kind ∧ v.kind ≤ 5) := by
    rw [← inB_iff, h]
    decide
  unfold rightP partB
  rw [if_neg (by omega), if_neg (by omega), if_neg (by omega), if_neg (by omega), if_neg (by omega), Bool.and_false, Bool.and_false]
theorem r5Right_any (v : Pv) (l : Pl) (B : Nat) (w : World) (h : PkIn w B v l) (hs : PkSm v) (hB : B ≤ w.heap.size) :
    Calls Tryz.prog 7 #[.agg #[.int .i64 v.kind, .int .i64 v.sender, .int .i64 v.every, .int .i64 v.dead, .int .i64 v.prio, .int .i64 v.dr, .int .i64 v.bdr, .slice v.seen.a v.seen.n v.seen.c, .bool v.ini, .bool v.mor, .bool v.mas, .int .i64 v.seq, .slice v.heads.a v.heads.n v.heads.c, .slice v.wants.a v.wants.n v.wants.c, .slice v.lsas.a v.lsas.n v.lsas.c, .slice v.acks.a v.acks.n v.acks.c]] w fun x w' => x = .returned (.bool (rightP v l)) ∧ Below w.heap.size w w' := by
  cases h1 : inB v.kind 1 5
  · rw [right_noK h1]
    exact r5Right_no v w (.inl h1)
  cases h2 : inB v.sender 1 15
  · rw [right_sender h2]
    exact r5Right_no v w (.inr ⟨h1, h2⟩)
  rw [inB_iff] at h1
  by_cases k1 : v.kind = 1
  · have := r5Right_hello v l B w h hs hB k1 h2
    rw [← k1] at this
    exact this
  by_cases k2 : v.kind = 2
  · have := r5Right_dd v l B w h hs hB k2 h2
    rw [← k2] at this
    exact this
  by_cases k3 : v.kind = 3
  · have := r5Right_want v l B w h hs hB k3 h2
    rw [← k3] at this
    exact this
  by_cases k4 : v.kind = 4
  · have := r5Right_update v l B w h hs hB k4 h2
    rw [← k4] at this
    exact this
  have k5 : v.kind = 5 := by omega
  have := r5Right_ack v l B w h hs hB k5 h2
  rw [← k5] at this
  exact this
end Go.Proofs.YtekhgkkgmkodmaaGreat
