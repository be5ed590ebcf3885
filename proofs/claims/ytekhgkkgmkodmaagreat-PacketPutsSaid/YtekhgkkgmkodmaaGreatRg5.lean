/- The reference of packets: the bytes of what a packet has, of any kind. Conditions: the packet is right. -/
import Derived.Test.YtekhgkkgmkodmaaGreatRf
import Derived.Test.YtekhgkkgmkodmaaGreatRf2
import Derived.Test.YtekhgkkgmkodmaaGreatRg
import Derived.Test.YtekhgkkgmkodmaaGreatRg4
namespace Go.Proofs.YtekhgkkgmkodmaaGreat
open Go.RowKit

theorem r5Body_any (v : Pv) (l : Pl) (B m : Nat) (w : World) (h : PkIn w B v l) (hB : B ≤ w.heap.size) (hr : rightP v l = true) (hm : (bodyBs v l).length = m) :
    Calls Tryz.prog 37 #[.agg #[.int .i64 v.kind, .int .i64 v.sender, .int .i64 v.every, .int .i64 v.dead, .int .i64 v.prio, .int .i64 v.dr, .int .i64 v.bdr, .slice v.seen.a v.seen.n v.seen.c, .bool v.ini, .bool v.mor, .bool v.mas, .int .i64 v.seq, .slice v.heads.a v.heads.n v.heads.c, .slice v.wants.a v.wants.n v.wants.c, .slice v.lsas.a v.lsas.n v.lsas.c, .slice v.acks.a v.acks.n v.acks.c]] w (PutA w (bodyBs v l) m) := by
  have hk : 1 ≤ v.kind ∧ v.kind ≤ 5 := by
    rw [← inB_iff]
    cases hh : inB v.kind 1 5
    · rw [right_noK hh] at hr
      cases hr
    · rfl
  by_cases k1 : v.kind = 1
  · have := r5Body_hello v l B m w h hB hr k1 hm
    rw [← k1] at this
    exact this
  by_cases k2 : v.kind = 2
  · have := r5Body_dd v l B m w h hB hr k2 hm
    rw [← k2] at this
    exact this
  by_cases k3 : v.kind = 3
  · have := r5Body_want v l B m w h hB hr k3 hm
    rw [← k3] at this
    exact this
  by_cases k4 : v.kind = 4
  · have := r5Body_update v l B m w h hB hr k4 hm
    rw [← k4] at this
    exact this
  have k5 : v.kind = 5 := by omega
  have := r5Body_ack v l B m w h hB hr k5 hm
  rw [← k5] at this
  exact this
end Go.Proofs.YtekhgkkgmkodmaaGreat
