/- The library's Compact of a row of keys. Conditions: at most 1000 keys. -/
import Derived.Test.YtjinleakjkbbgaaUm
namespace Go.Proofs.Ytjinleakjkbbgaa
open Go.RowKit Go.Lib Go.Sort Go.Deep

instance : Inhabited Ky := ⟨⟨0, 0, 0⟩⟩
/-- A row of keys without those that stand behind the same. -/
def dedupK (L : List Ky) : List Ky := compactUpTo L.toArray L.length
theorem dedup_short {L : List Ky} (h : ∀ j, j < L.length → keeps L.toArray j = true) : dedupK L = L := by
  unfold dedupK
  rw [compactUpTo_all _ _ h]
  have := range_map_get L.toArray
  simpa using this
end Go.Proofs.Ytjinleakjkbbgaa
