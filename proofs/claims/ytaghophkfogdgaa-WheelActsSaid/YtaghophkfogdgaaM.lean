/- Words for memory that the proofs of package quad share: a row of integers that a slice leads to, a block that is known whole, and a goto ahead out of a scope. No conditions. -/
import Derived.Below
import Derived.Laws.OwnMore
import Derived.Laws.Rows
import Derived.Deep.Draws
import Derived.ScopeJumps
import Derived.WalkMore
namespace Go.Proofs.Ytaghophkfogdgaa
open Go.RowKit

/-- A goto ahead: at the goto the rest behind the label is walked from there. -/
theorem scope_fwd {P : Program} {a : Act} {w : World} {Q : Exit → Act → World → Prop} {c rest : Code} (l : Nat) (hf : findLabel c l = some rest)
    (h : c.wp P (Exit.jump l (fun a w => rest.wp P (Exit.noGoto Q) a w) Q) a w) : (Code.scope c).wp P Q a w := by
  refine wp_scope_jumps l (fun a w => rest.wp P (Exit.noGoto Q) a w) (fun _ _ => 0) hf h (fun a w hp => ?_)
  refine wp_mono hp fun e a w q => ?_
  cases e <;> first | exact q | exact q.elim

/-- The cells of block g are just cs, of element type t, none frozen. -/
def Blk (w : World) (g : Nat) (t : TypeId) (cs : Array Value) : Prop := w.heap[g]? = some (.cells cs t (0, 0))

section
variable {w w' : World} {g : Nat} {t : TypeId} {cs : Array Value}
theorem Blk.lt (h : Blk w g t cs) : g < w.heap.size := (Array.getElem?_eq_some_iff.1 h).1
theorem Blk.cell (h : Blk w g t cs) (i : Nat) : w.cell? ⟨g, i, none⟩ = cs[i]? := cell_of_row w g i cs t (0, 0) h
theorem Blk.frozen (h : Blk w g t cs) (i : Nat) : w.frozen? ⟨g, i, none⟩ = false := by
  unfold Blk at h
  simp [World.frozen?, h]
theorem Blk.new (w : World) (t : TypeId) (cs : Array Value) : Blk (w.alloc (.cells cs t)) w.heap.size t cs := heap_alloc_new w _
theorem Blk.drewN (h : Blk w g t cs) (n : Nat) : Blk (w.drewN n) g t cs := h
theorem Blk.drew (h : Blk w g t cs) : Blk w.drew g t cs := h
theorem Blk.alloc (h : Blk w g t cs) (o : Obj) : Blk (w.alloc o) g t cs := (Below.heap_alloc w o g h.lt).trans h
theorem Blk.put (h : Blk w g t cs) (i : Nat) (u : Value) : Blk (w.setCell ⟨g, i, none⟩ u) g t (cs.setIfInBounds i u) := by
  unfold Blk at h ⊢
  simp [World.setCell, Array.getElem?_modify, h]
theorem Blk.far (h : Blk w g t cs) {p : Addr} (hp : g ≠ p.block) (u : Value) : Blk (w.setCell p u) g t cs := (Below.heap_setCell w p u g hp).trans h
theorem Blk.below {B : Nat} (h : Blk w g t cs) (hb : Below B w w') (hg : g < B) : Blk w' g t cs := (hb.block g hg).trans h
end

/-- A new block, and then it alone is written: what was there is as it was. -/
theorem below_new {w w2 : World} {o : Obj} {z : Nat} (hg : (w.alloc o).grownBy w2 (some z)) (hz : w.heap.size ≤ z) : Below w.heap.size w w2 :=
  ((Below.refl _ _).alloc (Nat.le_refl _) _).grown hg (by simp) (fun k hk => by injection hk with hk; omega)

/-- A slice value '.slice A n c' whose elements are the integers l of kind k; what it leads to lies below block B. -/
def Row (k : IntKind) (w : World) (B : Nat) (A : Option Addr) (n : Nat) (l : List Int) : Prop :=
  l.length = n ∧ (0 < n → ∃ b o, A = some ⟨b, o, none⟩ ∧ b < B ∧ ∀ j, j < n → w.cell? ⟨b, o + j, none⟩ = some (.int k (l.getD j 0)))

section
variable {k : IntKind} {w w' : World} {B B' n : Nat} {A : Option Addr} {l : List Int}
theorem Row.nil : Row k w B A 0 [] := ⟨rfl, fun h => absurd h (by omega)⟩
theorem Row.keep (h : Row k w B A n l) (hk : ∀ p : Addr, p.block < B → w'.cell? p = w.cell? p) : Row k w' B A n l :=
  ⟨h.1, fun hn => by
    obtain ⟨b, o, e, hb, hc⟩ := h.2 hn
    exact ⟨b, o, e, hb, fun j hj => (hk _ hb).trans (hc j hj)⟩⟩
theorem Row.more (h : Row k w B A n l) (hB : B ≤ B') : Row k w B' A n l :=
  ⟨h.1, fun hn => by
    obtain ⟨b, o, e, hb, hc⟩ := h.2 hn
    exact ⟨b, o, e, by omega, hc⟩⟩
theorem Row.below (h : Row k w B A n l) (hb : Below B w w') : Row k w' B A n l := h.keep fun _ hp => hb.cell hp
theorem Row.drewN (h : Row k w B A n l) (m : Nat) : Row k (w.drewN m) B A n l := h
theorem Row.drew (h : Row k w B A n l) : Row k w.drew B A n l := h
theorem Row.far (h : Row k w B A n l) {p : Addr} (hp : ∀ b o, A = some ⟨b, o, none⟩ → b ≠ p.block) (u : Value) : Row k (w.setCell p u) B A n l :=
  ⟨h.1, fun hn => by
    obtain ⟨b, o, e, hb, hc⟩ := h.2 hn
    exact ⟨b, o, e, hb, fun j hj => (World.cell?_setCell_other w p _ u (fun q => by subst q; exact hp b o e rfl)).trans (hc j hj)⟩⟩
theorem Row.alloc (h : Row k w B A n l) (hB : B ≤ w.heap.size) (o : Obj) : Row k (w.alloc o) B A n l := h.keep fun p hp => World.cell?_alloc_lt w o p (by omega)
end

/-- The slice at A' has the m elements of the one at A (of n elements) from place a on, whatever memory holds. -/
def Cut (A : Option Addr) (n a m : Nat) (A' : Option Addr) : Prop := ∀ k W B l, Row k W B A n l → Row k W B A' m ((l.drop a).take m)
theorem cut_none (A : Option Addr) (n a : Nat) (A' : Option Addr) : Cut A n a 0 A' := fun _ _ _ _ _ => by
  simpa using Row.nil
theorem cut_some (A : Option Addr) (n a m : Nat) (h : a + m ≤ n) : Cut A n a m (A.map (·.add a)) := by
  intro k W B l hr
  refine ⟨by have := hr.1; simp; omega, fun hm => ?_⟩
  obtain ⟨b, o, rfl, hb, hc⟩ := hr.2 (by omega)
  refine ⟨b, o + a, ?_, hb, fun j hj => ?_⟩
  · simp [Addr.add]
  · have := hc (a + j) (by omega)
    rw [show o + a + j = o + (a + j) from by omega, this]
    congr 2
    have := hr.1
    simp only [List.getD_eq_getElem?_getD, List.getElem?_take, if_pos hj, List.getElem?_drop]
end Go.Proofs.Ytaghophkfogdgaa
