/- The reference of packets: the bytes of what a packet has, plain facts. Conditions: the packet is right. -/
import Derived.Test.YtekhgkkgmkodmaaGreatRe
import Derived.Test.YtekhgkkgmkodmaaGreatJar
namespace Go.Proofs.YtekhgkkgmkodmaaGreat
open Go.RowKit

theorem right_lens {v : Pv} {l : Pl} (h : rightP v l = true) : (v.kind ≠ 3 → l.wants.length = 0) ∧ (v.kind ≠ 4 → l.lsas.length = 0) ∧ (v.kind ≠ 5 → l.acks.length = 0) := by
  refine ⟨fun hk => ?_, fun hk => ?_, fun hk => ?_⟩
  · by_cases hl : 0 < l.wants.length
    · rw [right_noW hk hl] at h
      cases h
    · omega
  · by_cases hl : 0 < l.lsas.length
    · rw [right_noL hk hl] at h
      cases h
    · omega
  · by_cases hl : 0 < l.acks.length
    · rw [right_noA hk hl] at h
      cases h
    · omega
end Go.Proofs.YtekhgkkgmkodmaaGreat
