/- Gone. Conditions: what the words say; at most 100 descriptions. -/
import Derived.Test.YtjinleakjkbbgaaUn
namespace Go.Proofs.Ytjinleakjkbbgaa
open Go.RowKit Go.Lib Go.Sort Go.Deep

/-- The keys of what is gone, in order, each once. -/
def goneL (S : List La) : List Ky := dedupK ((goneK S).mergeSort leKy)
end Go.Proofs.Ytjinleakjkbbgaa
