/- A map of the places at which keys stand: what it holds, and what its operations make of that. Conditions: keys of 64 bits. -/
import Derived.Deep.DeepCutAuto
import Derived.Test.YtjinleakjkbbgaaJaj
import Derived.Test.YtjinleakjkbbgaaJai
import Derived.Test.YtjinleakjkbbgaaJah
namespace Go.Proofs.Ytjinleakjkbbgaa
open Go.RowKit
open Go.Maps (Keyed)
open Go.ChangeMaps (notKey putKey delKey)

/-- At which place a key stands. -/
structure Pl where
  k : Ky
  i : Nat
def plVal (r : Pl) : Value := .int .i64 (r.i : Int)
def plE (r : Pl) : Lit × DataW Value := (kyLit (r.k), .held (plVal r))
/-- Block b is a map that holds just the places of R, each under its key. -/
def PlIs (w : World) (b : Nat) (R : List Pl) : Prop :=
  (∀ r ∈ R, wfKy (r.k)) ∧ ∃ l : List (Lit × DataW Value), w.ownsMap Try.prog 80 asIs b R.length (.map l) ∧ l.Perm (R.map plE)

section
variable {w w' : World} {b : Nat} {R : List Pl}
theorem PlIs.lt (h : PlIs w b R) : b < w.heap.size := by
  obtain ⟨-, l, ho, -⟩ := h
  exact ho.lt
theorem PlIs.heap (h : PlIs w b R) (he : w'.heap[b]? = w.heap[b]?) : PlIs w' b R := by
  obtain ⟨hw, l, ho, hp⟩ := h
  exact ⟨hw, l, own_heap ho he, hp⟩
theorem PlIs.chg {F : Nat → Prop} (h : PlIs w b R) (hc : Chg F w w') (hF : ¬ F b) : PlIs w' b R := h.heap (hc.block b h.lt hF)
theorem PlIs.below {B : Nat} (h : PlIs w b R) (hb : Below B w w') (hlt : b < B) : PlIs w' b R := h.heap (hb.block b hlt)
theorem PlIs.alloc (h : PlIs w b R) (o : Obj) : PlIs (w.alloc o) b R := h.below ((Below.refl w.heap.size w).alloc (Nat.le_refl _) o) h.lt
theorem PlIs.drew (h : PlIs w b R) : PlIs w.drew b R := h.heap rfl
theorem PlIs.setCell (h : PlIs w b R) {a : Addr} (ha : b ≠ a.block) (u : Value) : PlIs (w.setCell a u) b R := h.heap (RowKit.Below.heap_setCell _ _ _ _ ha)
theorem PlIs.made (w : World) : PlIs (w.alloc (.map #[] 0)) w.heap.size [] := ⟨fun r h => (by cases h), [], World.ownsMap_made _ _ _ _, List.Perm.refl _⟩
end
/-- The one of a key. -/
def getP (R : List Pl) (k : Ky) : Option Pl := R.find? fun r => sameKy (r.k) k
theorem getP_some {R : List Pl} {k : Ky} {r : Pl} (h : getP R k = some r) : r ∈ R ∧ r.k = k := by
  unfold getP at h
  exact ⟨List.mem_of_find?_eq_some h, (sameKy_iff _ _).1 (List.find?_some (p := fun r : Pl => sameKy (r.k) k) h)⟩
theorem getP_none {R : List Pl} {k : Ky} (h : getP R k = none) : ∀ r ∈ R, r.k ≠ k := by
  unfold getP at h
  rw [List.find?_eq_none] at h
  exact fun r hr e => h r hr ((sameKy_iff _ _).2 e)
section
variable {w : World} {b : Nat} {R : List Pl} {k : Ky}
end

end Go.Proofs.Ytjinleakjkbbgaa
