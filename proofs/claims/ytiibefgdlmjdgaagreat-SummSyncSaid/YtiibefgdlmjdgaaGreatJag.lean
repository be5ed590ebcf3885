/- The call told of package lsa: the description that bytes tell. Conditions: 20 to 2^20 bytes. -/
import Derived.Test.YtiibefgdlmjdgaaGreatJaf
namespace Go.Proofs.YtiibefgdlmjdgaaGreat
open Go.RowKit

/-- The links that bytes tell. -/
def tL (l : List Int) : List Lk := if (headOf l).kind = 1 then lks (l.drop 20) (many (l.drop 20)) else []
/-- The members that bytes tell. -/
def tM (l : List Int) : List Int := if (headOf l).kind = 1 then [] else words (l.drop 20) ((l.drop 20).length / 4)
/-- Is what stands behind the head formed as told? -/
def okBody (l : List Int) : Bool := if (headOf l).kind = 1 then okLinks (l.drop 20) else decide ((l.drop 20).length % 4 = 0)
/-- Do bytes tell a description that is right? -/
def okTold (l : List Int) : Bool := okHead l && (okBody l && rightB (headOf l) (tL l) (tM l))
/-- What Get answers. -/
def GotL (w : World) (h : Hd) (L : List Lk) (M : List Int) (e : Int) (x : Ending) (w' : World) : Prop :=
  ∃ A n c A' n' c', x = .returned (.tuple #[.agg #[.int .i64 h.age, .int .i64 h.kind, .int .i64 h.id, .int .i64 h.adv, .int .i64 h.seq, .int .i64 h.sum, .int .i64 h.long, .slice A n c, .slice A' n' c'], .int .i64 e]) ∧ w'.ownsRow w.heap.size 87 4 (.slice A n c) n (lkCells L) ∧ L.length = n ∧ w'.ownsRow w.heap.size 3 1 (.slice A' n' c') n' (M.map (Value.int .i64)) ∧ M.length = n' ∧ Below w.heap.size w w'
theorem gotL_zero {w w' : World} {e : Int} (hb : Below w.heap.size w w') : GotL w zeroHd [] [] e (.returned (.tuple #[.agg #[.int .i64 0, .int .i64 0, .int .i64 0, .int .i64 0, .int .i64 0, .int .i64 0, .int .i64 0, .slice none 0 0, .slice none 0 0], .int .i64 e])) w' :=
  ⟨none, 0, 0, none, 0, 0, rfl, World.ownsRow_nil _ _ _ _, rfl, World.ownsRow_nil _ _ _ _, rfl, hb⟩
theorem Blk.nineF {w : World} {g : Nat} {t : TypeId} {cs : Array Value} (h : Blk w g t cs) :
    w.frozen? ⟨g, 0, none⟩ = false ∧ w.frozen? ⟨g, 1, none⟩ = false ∧ w.frozen? ⟨g, 2, none⟩ = false ∧ w.frozen? ⟨g, 3, none⟩ = false ∧ w.frozen? ⟨g, 4, none⟩ = false ∧ w.frozen? ⟨g, 5, none⟩ = false ∧ w.frozen? ⟨g, 6, none⟩ = false ∧ w.frozen? ⟨g, 7, none⟩ = false ∧ w.frozen? ⟨g, 8, none⟩ = false :=
  ⟨h.frozen 0, h.frozen 1, h.frozen 2, h.frozen 3, h.frozen 4, h.frozen 5, h.frozen 6, h.frozen 7, h.frozen 8⟩

theorem grown_setCell (w : World) (p : Addr) (u : Value) : w.grownBy (w.setCell p u) (some p.block) :=
  ⟨rfl, rfl, rfl, by simp [World.setCell], fun k _ hk => Below.heap_setCell w p u k (fun e => hk (by rw [e]))⟩
theorem own_set {w : World} {base n size : Nat} {t : TypeId} {v : Value} {xs : List Value} (h : w.ownsRow base t size v n xs) (p : Addr) (u : Value) (hb : p.block < base) : (w.setCell p u).ownsRow base t size v n xs := own_grown h (grown_setCell w p u) hb
theorem own_low {w : World} {b b' : Nat} {t : TypeId} {v : Value} {n size : Nat} {xs : List Value} (h : w.ownsRow b t size v n xs) (hb : b' ≤ b) : w.ownsRow b' t size v n xs := by
  refine ⟨h.1, ?_⟩
  rcases h.2 with h0 | ⟨g, cap, cur, h1, h2, h3⟩
  · exact .inl h0
  · exact .inr ⟨g, cap, cur, h1, Nat.le_trans hb h2, h3⟩
theorem gotL_links {w w' : World} {h : Hd} {L : List Lk} {q c base : Nat} {A : Option Addr} {e : Int} (ho : w'.ownsRow base 87 4 (.slice A q c) q (lkCells L)) (hq : L.length = q) (hbase : w.heap.size < base) (hb : Below w.heap.size w w') :
    GotL w h L [] e (.returned (.tuple #[.agg #[.int .i64 h.age, .int .i64 h.kind, .int .i64 h.id, .int .i64 h.adv, .int .i64 h.seq, .int .i64 h.sum, .int .i64 h.long, .slice A q c, .slice none 0 0], .int .i64 e])) w' :=
  ⟨A, q, c, none, 0, 0, rfl, own_low ho (by omega), hq, World.ownsRow_nil _ _ _ _, rfl, hb⟩
theorem gotL_members {w w' : World} {h : Hd} {M : List Int} {q c base : Nat} {A : Option Addr} {e : Int} (ho : w'.ownsRow base 3 1 (.slice A q c) q (M.map (Value.int .i64))) (hq : M.length = q) (hbase : w.heap.size < base) (hb : Below w.heap.size w w') :
    GotL w h [] M e (.returned (.tuple #[.agg #[.int .i64 h.age, .int .i64 h.kind, .int .i64 h.id, .int .i64 h.adv, .int .i64 h.seq, .int .i64 h.sum, .int .i64 h.long, .slice none 0 0, .slice A q c], .int .i64 e])) w' :=
  ⟨none, 0, 0, A, q, c, rfl, World.ownsRow_nil _ _ _ _, rfl, own_low ho (by omega), hq, hb⟩
theorem own_below2 {w w' : World} {base n size : Nat} {t : TypeId} {v : Value} {xs : List Value} (h : w.ownsRow base t size v n xs) (hb : Below w.heap.size w w') : w'.ownsRow base t size v n xs :=
  h.kept (row := none) (grown_of_below hb none) (by cases v.ownBlock <;> simp)

end Go.Proofs.YtiibefgdlmjdgaaGreat
