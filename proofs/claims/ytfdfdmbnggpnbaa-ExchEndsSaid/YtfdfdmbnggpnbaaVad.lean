/- The call links of package lsa: a router's links, read to the end. Conditions: at most 2^20 bytes. -/
import Derived.Test.YtfdfdmbnggpnbaaVac
namespace Go.Proofs.Ytfdfdmbnggpnbaa
open Go.RowKit

/-- How many links there is room for. -/
def many (l : List Int) : Nat := (l.length - 4) / 12
theorem blk_new1 (w : World) (o : Obj) (t : TypeId) (cs : Array Value) : Blk ((w.alloc o).alloc (.cells cs t)) (w.heap.size + 1) t cs := by
  have := Blk.new (w.alloc o) t cs
  rwa [World.size_alloc] at this
end Go.Proofs.Ytfdfdmbnggpnbaa
