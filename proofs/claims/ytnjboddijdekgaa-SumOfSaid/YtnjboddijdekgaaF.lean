/- A slice of slices of bytes that came in, read as rows. No conditions. -/
import Derived.Test.YtnjboddijdekgaaE
import Derived.Deep.Matrix
namespace Go.Proofs.Ytnjboddijdekgaa
open Go.RowKit Go.WideShapes Go.Deep

/-- What the walk is told of a slice of slices of bytes that came in. -/
def IsRows (w : World) (a : Option Addr) (len cap : Nat) (ls : List (List Int)) : Prop := Rows2 w w.heap.size a len ls ∧ (∀ l ∈ ls, Byt l) ∧ len ≤ cap ∧ len ≤ maxLen

theorem isRows_of {H : Type} {enc : TypeId × Value → H} {P : Program} {w : World} {base : Nat} {held : Bool} {t e q : TypeId} {fuel : Nat} {a : Option Addr} {len cap : Nat} {x : DataW H × List MemPlace}
    (ht : P.underlying t = some (.slice e)) (he : P.underlying e = some (.slice q)) (hq : P.underlying q = some (.int .u8)) (ce : P.cellsOf e = 1) (cq : P.cellsOf q = 1)
    (h : DataW.trod enc P w base (fun _ => true) held fuel t [.slice a len cap] = some x) : ∃ ls, IsRows w a len cap ls := by
  rcases open_int_rows ht he hq ce cq h with ⟨hcs, _⟩ | ⟨a', len', cap', A, L, C, Z, hcs, _, hl, hm, _, hr⟩
  · simp at hcs
    obtain ⟨rfl, rfl, rfl⟩ := hcs
    exact ⟨[], Rows2.nil, (fun _ h => nomatch h), Nat.le_refl _, Nat.zero_le _⟩
  · simp at hcs
    obtain ⟨rfl, rfl, rfl⟩ := hcs
    refine ⟨(List.range len).map fun r => (Z r).take (L r), ⟨by simp, fun hn => ?_⟩, ?_, hl, Nat.le_trans hl hm⟩
    · obtain ⟨b, off, spot⟩ := a'
      have hspot : spot = none := by simpa [Addr.add] using World.cell?_spot (hr 0 (by omega)).1
      subst hspot
      refine ⟨b, off, rfl, ?_, fun j hj => ?_⟩
      · exact World.block_lt_of_cell? w _ (hr 0 (by omega)).1
      · obtain ⟨h1, h2, h3, h4, h5, h6, h7⟩ := hr j (by omega)
        rw [add_plain] at h1
        refine ⟨A j, L j, C j, h1, h2, ?_⟩
        have e : ((List.range len).map fun r => (Z r).take (L r)).getD j [] = (Z j).take (L j) := by
          rw [List.getD_eq_getElem?_getD, List.getElem?_map, List.getElem?_range hj]; rfl
        rw [e]
        refine ⟨by rw [List.length_take]; omega, fun h0 => ?_⟩
        cases hA : A j with
        | none => have := h6 hA; omega
        | some a'' =>
          obtain ⟨_, hc⟩ := h7 a'' hA
          obtain ⟨b2, off2, spot2⟩ := a''
          have hspot2 : spot2 = none := by simpa [Addr.add] using World.cell?_spot (hc 0 (by omega))
          subst hspot2
          refine ⟨b2, off2, rfl, World.block_lt_of_cell? w _ (hc 0 (by omega)), fun i hi => ?_⟩
          rw [← add_plain, hc i (by omega)]
          simp only [List.getD_eq_getElem?_getD, List.getElem?_take, if_pos hi]
    · intro l hl2
      obtain ⟨r, hr2, rfl⟩ := List.mem_map.1 hl2
      have hr3 := List.mem_range.1 hr2
      exact (byt_of_wf (hr r (by omega)).2.2.2.2.1).take _

theorem byt_flat {ls : List (List Int)} (h : ∀ l ∈ ls, Byt l) : Byt ls.flatten := fun x hx => by
  obtain ⟨l, hl, hx⟩ := List.mem_flatten.1 hx
  exact h l hl x hx
end Go.Proofs.Ytnjboddijdekgaa
