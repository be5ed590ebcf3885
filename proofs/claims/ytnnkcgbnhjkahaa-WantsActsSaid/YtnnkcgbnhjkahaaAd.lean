/- What is wanted, in memory. No conditions. -/
import Derived.Test.YtnnkcgbnhjkahaaAb
import Derived.Test.YtnnkcgbnhjkahaaJan
namespace Go.Proofs.Ytnnkcgbnhjkahaa
open Go.RowKit Go.Lib Go.Sort Go.Deep


/-- Block p is what is wanted, S, in the map at block b. -/
def PwIs (w : World) (p b : Nat) (S : List Hd) : Prop := Blk w p 79 #[.map (some b)] ∧ (∃ R, HmIs w b R ∧ R.Perm S) ∧ SortH S
theorem HmIs.ne_cell {w : World} {b g o : Nat} {R : List Hd} {v : Value} (h : HmIs w b R) (hc : w.cell? ⟨g, o, none⟩ = some v) : g ≠ b := by
  rintro rfl
  obtain ⟨-, l, ⟨es, clock, hb, -⟩, -⟩ := h
  simp [World.cell?, hb] at hc
theorem HmIs.ne_hds {w : World} {b B n g : Nat} {o : Nat} {R : List Hd} {L : List Hd} (h : HmIs w b R) (hL : Hds w B (some ⟨g, o, none⟩) n L) (hn : 0 < n) : g ≠ b := by
  obtain ⟨g', o', e, -, hat⟩ := hL.2 hn
  injection e with e
  injection e with e1 e2
  subst e1 e2
  obtain ⟨x, hx⟩ : ∃ x, L[0]? = some x := ⟨_, List.getElem?_eq_getElem (by have := hL.1; omega)⟩
  exact h.ne_cell (hat 0 x hx).1
/-- A row of heads stays while a map turns. -/
theorem Hds.turned {w w' : World} {b B n : Nat} {A : Option Addr} {R : List Hd} {L : List Hd} (hL : Hds w B A n L) (h : HmIs w b R) (hc : Chg (fun q => q = b) w w') : Hds w' B A n L := by
  refine ⟨hL.1, fun hn => ?_⟩
  obtain ⟨g, o, rfl, hg, hat⟩ := hL.2 hn
  have hne := h.ne_hds hL hn
  refine ⟨g, o, rfl, hg, fun j x hx => ?_⟩
  have hh := hat j x hx
  have hlt : g < w.heap.size := World.block_lt_of_cell? w _ hh.1
  have hk : ∀ i, w'.cell? ⟨g, i, none⟩ = w.cell? ⟨g, i, none⟩ := fun i => by
    simp only [World.cell?, hc.block g hlt hne]
  unfold HdAt at hh ⊢
  simp only [hk]
  exact hh
section
variable {w w' : World} {p b : Nat} {S : List Hd}
theorem PwIs.ltp (h : PwIs w p b S) : p < w.heap.size := h.1.lt
theorem PwIs.ltb (h : PwIs w p b S) : b < w.heap.size := by
  obtain ⟨-, ⟨R, hR, -⟩, -⟩ := h
  exact hR.lt
theorem PwIs.ne (h : PwIs w p b S) : p ≠ b := by
  obtain ⟨hB, ⟨R, hR, -⟩, -⟩ := h
  exact hR.ne_blk hB
theorem PwIs.chg {F : Nat → Prop} (h : PwIs w p b S) (hc : Chg F w w') (hp : ¬ F p) (hb : ¬ F b) : PwIs w' p b S := by
  obtain ⟨hB, ⟨R, hR, hP⟩, hs⟩ := h
  exact ⟨hB.chg hc hp, ⟨R, hR.chg hc hb, hP⟩, hs⟩
theorem PwIs.below (h : PwIs w p b S) (hb : Below w.heap.size w w') : PwIs w' p b S := h.chg (Chg.of_below (F := fun _ => False) hb) (fun h => h) (fun h => h)
theorem PwIs.wf (h : PwIs w p b S) : ∀ x ∈ S, wfKy (keyH x) := by
  obtain ⟨-, ⟨R, hR, hP⟩, -⟩ := h
  exact fun x hx => hR.1 x (hP.mem_iff.2 hx)
/-- A look-up. -/
theorem look_wanted {R S : List Hd} (hP : R.Perm S) (hs : SortH S) {k : Ky} (hk : wfKy k) (b : Nat) : ∃ r0 : Hd, ((getH S k = none ∧ r0 = zeroHd) ∨ getH S k = some r0) ∧
    ∀ W, HmIs W b R → (Instr.lookup 77 (.map (some b)) (.agg #[.int .i64 k.kind, .int .i64 k.id, .int .i64 k.adv]) true).run Try.prog W = .ok (.tuple #[.agg #[.int .i64 r0.age, .int .i64 r0.kind, .int .i64 r0.id, .int .i64 r0.adv, .int .i64 r0.seq, .int .i64 r0.sum, .int .i64 r0.long], .bool (getH S k).isSome]) W := by
  cases hg : getH S k with
  | none => exact ⟨zeroHd, .inl ⟨rfl, rfl⟩, fun W hW => hW.look_none hk (by rw [getH_perm hP hs]; exact hg)⟩
  | some r => exact ⟨r, .inr rfl, fun W hW => (hW.look_some hk (by rw [getH_perm hP hs]; exact hg)).1⟩
end
end Go.Proofs.Ytnnkcgbnhjkahaa
