/- Memory of links: a slice of structs of four integers that reads as a list. No conditions. -/
import Derived.Test.YtidncajbedgplaaR
import Derived.Test.YtidncajbedgplaaLsP
namespace Go.Proofs.Ytidncajbedgplaa
open Go.RowKit

/-- From place p of block b on there lies the link k. -/
def LkAt (w : World) (b p : Nat) (k : Lk) : Prop :=
  w.cell? ⟨b, p, none⟩ = some (.int .i64 k.kind) ∧ w.cell? ⟨b, p + 1, none⟩ = some (.int .i64 k.id) ∧ w.cell? ⟨b, p + 2, none⟩ = some (.int .i64 k.data) ∧ w.cell? ⟨b, p + 3, none⟩ = some (.int .i64 k.cost)
theorem LkAt.keep {w w' : World} {b p : Nat} {k : Lk} (h : LkAt w b p k) (hk : ∀ q : Addr, q.block = b → w'.cell? q = w.cell? q) : LkAt w' b p k :=
  ⟨(hk _ rfl).trans h.1, (hk _ rfl).trans h.2.1, (hk _ rfl).trans h.2.2.1, (hk _ rfl).trans h.2.2.2⟩

/-- A slice value '.slice A n c' whose elements are the links L; what it leads to lies below block B. -/
def Lnk (w : World) (B : Nat) (A : Option Addr) (n : Nat) (L : List Lk) : Prop :=
  L.length = n ∧ (0 < n → ∃ b o, A = some ⟨b, o, none⟩ ∧ b < B ∧ ∀ j, j < n → LkAt w b (o + j * 4) (L.getD j ⟨0, 0, 0, 0⟩))
section
variable {w w' : World} {B B' n : Nat} {A : Option Addr} {L : List Lk}
theorem Lnk.nil : Lnk w B A 0 [] := ⟨rfl, fun h => absurd h (by omega)⟩
theorem Lnk.keep (h : Lnk w B A n L) (hk : ∀ p : Addr, p.block < B → w'.cell? p = w.cell? p) : Lnk w' B A n L :=
  ⟨h.1, fun hn => by
    obtain ⟨b, o, e, hb, hc⟩ := h.2 hn
    exact ⟨b, o, e, hb, fun j hj => (hc j hj).keep fun q hq => hk q (by omega)⟩⟩
theorem Lnk.more (h : Lnk w B A n L) (hB : B ≤ B') : Lnk w B' A n L :=
  ⟨h.1, fun hn => by
    obtain ⟨b, o, e, hb, hc⟩ := h.2 hn
    exact ⟨b, o, e, by omega, hc⟩⟩
theorem Lnk.below (h : Lnk w B A n L) (hb : Below B w w') : Lnk w' B A n L := h.keep fun _ hp => hb.cell hp
theorem Lnk.drewN (h : Lnk w B A n L) (m : Nat) : Lnk (w.drewN m) B A n L := h
theorem Lnk.alloc (h : Lnk w B A n L) (hB : B ≤ w.heap.size) (o : Obj) : Lnk (w.alloc o) B A n L := h.keep fun p hp => World.cell?_alloc_lt w o p (by omega)
end
theorem bcell {W w1 : World} (hb : Below W.heap.size W w1) : (∀ b o, b < W.heap.size → w1.cell? ⟨b, o, none⟩ = W.cell? ⟨b, o, none⟩) ∧ (∀ b o, b < W.heap.size → w1.frozen? ⟨b, o, none⟩ = W.frozen? ⟨b, o, none⟩) :=
  ⟨fun b o h => hb.cell (p := ⟨b, o, none⟩) h, fun b o h => hb.frozen (p := ⟨b, o, none⟩) h⟩
theorem all_snocL (f : Lk → Bool) (l : List Lk) (k : Nat) (h : k < l.length) (h1 : (l.take k).all f = true) (h2 : f (l.getD k ⟨0, 0, 0, 0⟩) = true) : (l.take (k + 1)).all f = true := by
  have e : l.getD k ⟨0, 0, 0, 0⟩ = l[k] := by rw [List.getD_eq_getElem?_getD, List.getElem?_eq_getElem h]; rfl
  rw [e] at h2
  rw [List.take_succ_eq_append_getElem h, List.all_append, h1, List.all_cons, h2]; rfl
theorem all_falseL (f : Lk → Bool) (l : List Lk) (k : Nat) (h : k < l.length) (h2 : f (l.getD k ⟨0, 0, 0, 0⟩) = false) : l.all f = false := by
  rw [List.all_eq_false]
  refine ⟨l.getD k ⟨0, 0, 0, 0⟩, ?_, by rw [h2]; decide⟩
  rw [List.getD_eq_getElem?_getD, List.getElem?_eq_getElem h]
  exact List.getElem_mem h
end Go.Proofs.Ytidncajbedgplaa
