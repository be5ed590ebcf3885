/- The walk of the statement WantsActs. Conditions: what the words say. · An exchange in memory; what it tells; its small calls. Conditions: what the words say. · goOn of the program. Conditions: what the words say. · Hear of the program. Conditions: a number of 64 bits; at most 100 descriptions, on blocks below those of the exchange. · Say of the program; of no exchange. Conditions: what the words say. · One side of two in memory; it hears the other one. Conditions: at most 100 descriptions, at most 1000 heads. -/
import Derived.Sort.Lot0
import Derived.Sort.LotA
import Derived.Deep.MidRow
import Derived.BigQuiet
import Derived.StillTailTactics
import Derived.Deep.DeepCutAuto
import Derived.Deep.RegionHeld3
import Derived.Deep.RegionLaw
import Derived.Test.YtndjoanlbaiaeaaJak
import Derived.Test.YtndjoanlbaiaeaaJai
import Derived.Test.YtndjoanlbaiaeaaJag
import Derived.Test.YtndjoanlbaiaeaaJah
import Derived.Test.YtndjoanlbaiaeaaJaa
import Derived.Test.YtndjoanlbaiaeaaJaj
namespace Go.Proofs.Ytndjoanlbaiaeaa
open Go.RowKit Go.Lib Go.Sort Go.Deep

theorem Chg.more {F F' : Nat → Prop} {w w' : World} (h : Chg F w w') (hF : ∀ k, F k → F' k) : Chg F' w w' := ⟨h.os, h.tape, h.output, h.size, fun k hk hn => h.block k hk (fun hf => hn (hF k hf))⟩
theorem keepX {F : Nat → Prop} {w w' : World} {X : Nat} {t : TypeId} {cs : Array Value} (K : Blk w X t cs) (hX : ¬ F X) (hc : Chg F w w') : (∀ o, w'.cell? ⟨X, o, none⟩ = w.cell? ⟨X, o, none⟩) ∧ X < w'.heap.size :=
  ⟨fun o => by rw [(K.chg hc hX).cell, K.cell], Nat.lt_of_lt_of_le K.lt hc.size⟩
theorem keepY {F : Nat → Prop} {w w' : World} {X G : Nat} {t : TypeId} {cs : Array Value} (K : Blk w X t cs) (hX : ¬ F X) (hG : G < w.heap.size) (hGF : ¬ F G) (hc : Chg F w w') : ((∀ o, w'.cell? ⟨X, o, none⟩ = w.cell? ⟨X, o, none⟩) ∧ X < w'.heap.size) ∧ (∀ o, w'.cell? ⟨G, o, none⟩ = w.cell? ⟨G, o, none⟩) :=
  ⟨keepX K hX hc, fun o => World.cell?_of_block (a := ⟨G, o, none⟩) (hc.block G hG hGF)⟩
end Go.Proofs.Ytndjoanlbaiaeaa
namespace Go.Proofs.Ytndjoanlbaiaeaa
open Go.RowKit Go.Lib Go.Sort Go.Deep

section
variable {w w' : World} {F F' : Nat → Prop} {p : Nat} {h : Option Addr} {K : List Hd}
end
/-- Stores into a block: of one cell; of a piece. -/
theorem Blk.fill {b : Nat} {t : TypeId} (post : List Value) : ∀ (vs rest pre : List Value) (w : World), rest.length = vs.length → Blk w b t (pre ++ rest ++ post).toArray → Blk (w.setCells b pre.length vs) b t (pre ++ vs ++ post).toArray
  | [], rest, pre, w, hl, h => by
    have : rest = [] := List.eq_nil_of_length_eq_zero hl
    subst this
    exact h
  | v :: r, [], pre, w, hl, h => by simp at hl
  | v :: r, u :: rest, pre, w, hl, h => by
    have h1 := h.put pre.length v
    have e : (pre ++ u :: rest ++ post).toArray.setIfInBounds pre.length v = ((pre ++ [v]) ++ rest ++ post).toArray := by
      rw [List.setIfInBounds_toArray]
      congr 1
      simp
    rw [e] at h1
    have h2 := Blk.fill post r rest (pre ++ [v]) _ (by simpa using hl) h1
    rw [List.length_append, List.length_singleton] at h2
    have e2 : (pre ++ v :: r ++ post).toArray = ((pre ++ [v]) ++ r ++ post).toArray := by simp
    rw [e2]
    exact h2
theorem Blk.thereAll {w : World} {b : Nat} {t : TypeId} {cs : Array Value} (h : Blk w b t cs) (o n : Nat) (hn : o + n ≤ cs.size) : w.there b o n := fun j hj => by
  constructor
  · rw [h.cell, Array.getElem?_eq_getElem (by omega)]
    rfl
  · exact h.frozen _
section
variable {ops : Array Oper} {rest : List Oper} {op : Oper} {a : Act} {w : World} {Q : Exit → Act → World → Prop}
theorem wpList_store_in (ty : TypeId) (pre old post vs : List Value) (hg : op.guard = none) (x v : Operand) (ho : op.op = .store ty x v) {b : Nat} {t : TypeId}
    (hx : a.eval x = .pointer (some ⟨b, pre.length, none⟩)) (hv : a.eval v = .agg vs.toArray) (hB : Blk w b t (pre ++ old ++ post).toArray) (hl : old.length = vs.length) (hi : (Try.prog.info? ty).map (·.size) = some vs.length) (h1 : ∀ u ∈ vs, u.oneCell' = true)
    (hn : ∀ w', Hid (Blk w' b t (pre ++ vs ++ post).toArray) → Hid (Chg (fun k => k = b) w w') → wpList Try.prog ops Q rest (a.put op.dst undef) w') : wpList Try.prog ops Q (op :: rest) a w := by
  refine wpList_store_mid hg ty x v ho b pre.length vs.toArray hx hv (hB.thereAll _ _ (by simp [hl])) (by simpa using hi) (all_oneCell_toArray h1) (hn _ (Lib.hid ?_) (Lib.hid ?_))
  · exact Blk.fill post vs old pre w hl hB
  · exact chg_setCells b _ _ w
end
theorem chg_put {F : Nat → Prop} (w : World) {a : Addr} (u : Value) (h : F a.block) : Chg F w (w.setCell a u) := Chg.of_grown (grown_setCell w a u) (fun k hk => by injection hk with hk; rw [← hk]; exact h)

section
variable {w : World} {F : Nat → Prop} {p : Nat}
theorem grownW {w : World} {q : Nat} {os : Array Obj} : Below w.heap.size w (Go.Sort.grow (w.drewN q) os) := ⟨rfl, rfl, rfl, by rw [Go.Sort.size_grow]; exact Nat.le_add_right _ _, fun k hk => heap_grow_old _ _ (by exact hk)⟩
end
end Go.Proofs.Ytndjoanlbaiaeaa
namespace Go.Proofs.Ytndjoanlbaiaeaa
open Go.RowKit Go.Lib Go.Sort Go.Deep

theorem Chg.wide {F F' : Nat → Prop} {w w' : World} (h : Chg F w w') (hF : ∀ q, F q → F' q) : Chg F' w w' := ⟨h.os, h.tape, h.output, h.size, fun k hk hf => h.block k hk (fun e => hf (hF k e))⟩
section
variable {w : World} {F : Nat → Prop} {p : Nat}
end
end Go.Proofs.Ytndjoanlbaiaeaa
namespace Go.Proofs.Ytndjoanlbaiaeaa
open Go.RowKit Go.Lib Go.Sort Go.Deep

theorem Blk.five {w : World} {g : Nat} {t : TypeId} {a0 a1 a2 a3 a4 : Value} (h : Blk w g t #[a0, a1, a2, a3, a4]) : w.cell? ⟨g, 0, none⟩ = some a0 ∧ w.cell? ⟨g, 1, none⟩ = some a1 ∧ w.cell? ⟨g, 2, none⟩ = some a2 ∧ w.cell? ⟨g, 3, none⟩ = some a3 ∧ w.cell? ⟨g, 4, none⟩ = some a4 := ⟨h.cell 0, h.cell 1, h.cell 2, h.cell 3, h.cell 4⟩
section
variable {w : World} {F : Nat → Prop} {p : Nat}
end
end Go.Proofs.Ytndjoanlbaiaeaa
namespace Go.Proofs.Ytndjoanlbaiaeaa
open Go.RowKit Go.Lib Go.Sort Go.Deep

theorem own_base {w : World} {b b' n size : Nat} {t : TypeId} {v : Value} {xs : List Value} (h : w.ownsRow b t size v n xs) (hb : b' ≤ b) : w.ownsRow b' t size v n xs := by
  refine ⟨h.1, ?_⟩
  rcases h.2 with h2 | ⟨g, cap, cur, h1, h2, h3⟩
  · exact .inl h2
  · exact .inr ⟨g, cap, cur, h1, Nat.le_trans hb h2, h3⟩
theorem keepZ {w w' : World} {z : Nat} (h : Chg (fun k => k = z) w w') : ∀ b o, b < w.heap.size → b ≠ z → w'.cell? ⟨b, o, none⟩ = w.cell? ⟨b, o, none⟩ :=
  fun b o hb hne => World.cell?_of_block (a := ⟨b, o, none⟩) (h.block b hb hne)
section
variable {w : World} {F : Nat → Prop} {p : Nat}
end
end Go.Proofs.Ytndjoanlbaiaeaa
namespace Go.Proofs.Ytndjoanlbaiaeaa
open Go.RowKit Go.Lib Go.Sort Go.Deep

section
variable {w w' : World} {F F' : Nat → Prop} {s p : Nat} {A : Option Addr} {n c : Nat}
theorem own_move {w w' : World} {b n size : Nat} {t : TypeId} {v : Value} {xs : List Value} (h : w.ownsRow b t size v n xs) (hm : ∀ g, v.ownBlock = some g → w'.heap[g]? = w.heap[g]?) : w'.ownsRow b t size v n xs := by
  refine ⟨h.1, ?_⟩
  rcases h.2 with h2 | ⟨g, cap, cur, rfl, h2, h3, h4⟩
  · exact .inl h2
  · exact .inr ⟨g, cap, cur, rfl, h2, (hm g rfl).trans h3, h4⟩
end
end Go.Proofs.Ytndjoanlbaiaeaa
