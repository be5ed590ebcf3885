/- The call Put: what was there, and behind it each number's lowest bytes, in memory of its own. Conditions: what is handed in reads as bytes and as integers, at most 100000 of each. · The call PutHead of package lsa and the reference's HeadBytes: the twenty bytes of a head. No conditions. · The call body of package lsa: what stands behind the head. Conditions: at most 50 links and 50 members. · The reference's Bytes: a description's bytes. Conditions: the description is right, at most 50 links and 50 members. · A reader as a whole: its bytes, and where it stands. Conditions: at most 2^40 bytes. · The call GetHead of package lsa. Conditions: the slice reads as bytes, at most 2^40 of them. -/
import Derived.Deep.DeepCutAuto
import Derived.Laws.FloatArith
import Derived.Laws.ComplexArith
import Derived.Deep.RegionLawGrows
import Derived.Test.YtndjoanlbaiaeaaJaa
namespace Go.Proofs.Ytndjoanlbaiaeaa
open Go.RowKit

/-- What Put answers, and leaves: a row of bytes of its own. -/
def Put0 (w : World) (l : List Int) (x : Ending) (w' : World) : Prop :=
  ∃ A c, x = .returned (.slice A l.length c) ∧ l.length ≤ c ∧ c ≤ maxLen ∧ Row .u8 w' w'.heap.size A l.length l ∧ Below w.heap.size w w'

theorem put0_of_own {w w' : World} {base : Nat} {v : Value} {L : List Int} (h : w'.ownsRow base 5 1 v L.length (L.map (Value.int .u8))) (hb : Below w.heap.size w w') : Put0 w L (.returned v) w' := by
  rcases h.2 with ⟨rfl, h0⟩ | ⟨g, cap, cur, rfl, hg, hh, hn, hm, hs, ht⟩
  · have : L = [] := List.eq_nil_of_length_eq_zero h0
    subst this
    exact ⟨_, _, rfl, Nat.le_refl _, by unfold maxLen; omega, Row.nil, hb⟩
  · refine ⟨_, _, rfl, hn, hm, ⟨rfl, fun _ => ⟨g, 0, rfl, (Blk.lt hh), fun j hj => ?_⟩⟩, hb⟩
    have hc := h.cells (g := g) rfl j (.int .u8 (L.getD j 0)) (by rw [List.getElem?_map, List.getD_eq_getElem?_getD, List.getElem?_eq_getElem hj]; rfl)
    have e : (⟨g, 0, none⟩ : Addr).add j = ⟨g, 0 + j, none⟩ := by
      unfold Addr.add
      split <;> simp_all
    rw [e] at hc
    exact hc

end Go.Proofs.Ytndjoanlbaiaeaa
namespace Go.Proofs.Ytndjoanlbaiaeaa
open Go.RowKit

/-- A row of n bytes of its own, L, is answered; what was in W is as it was. -/
def PutN (W : World) (L : List Int) (n : Nat) (x : Ending) (w' : World) : Prop :=
  ∃ A c, x = .returned (.slice A n c) ∧ n ≤ c ∧ c ≤ maxLen ∧ Row .u8 w' w'.heap.size A n L ∧ Below W.heap.size W w'
theorem putN_of {W w' : World} {L : List Int} {x : Ending} (n : Nat) (h : Put0 W L x w') (hn : L.length = n) : PutN W L n x w' := by
  subst hn
  exact h
/-- v is a row of n bytes of the call's own, L; what was in w0 is as it was. -/
def Acc (w0 w : World) (v : Value) (n : Nat) (L : List Int) : Prop := w.ownsRow w0.heap.size 5 1 v n (L.map (Value.int .u8)) ∧ Below w0.heap.size w0 w
theorem Acc.nil {w0 w : World} (h : Below w0.heap.size w0 w) : Acc w0 w (.slice none 0 0) 0 [] := ⟨World.ownsRow_nil w _ _ _, h⟩
theorem Acc.below {w0 w w' : World} {v : Value} {n : Nat} {L : List Int} (h : Acc w0 w v n L) (hb : Below w.heap.size w w') : Acc w0 w' v n L :=
  ⟨own_below h.1 hb, h.2.trans (hb.mono h.2.size)⟩
theorem Acc.alloc {w0 w : World} {v : Value} {n : Nat} {L : List Int} (h : Acc w0 w v n L) (o : Obj) : Acc w0 (w.alloc o) v n L :=
  h.below ((Below.refl _ _).alloc (Nat.le_refl _) o)
theorem Acc.putN {w0 w : World} {v : Value} {n : Nat} {L : List Int} (h : Acc w0 w v n L) : PutN w0 L n (.returned v) w := by
  have hl : L.length = n := by have := h.1.1; simpa using this
  subst hl
  exact putN_of _ (put0_of_own h.1 h.2) rfl
theorem Acc.blk {w0 w : World} {v : Value} {n g : Nat} {L : List Int} {t : TypeId} {cs : Array Value} (h : Acc w0 w v n L) (hb : Blk w0 g t cs) : Blk w g t cs := hb.below h.2 hb.lt
end Go.Proofs.Ytndjoanlbaiaeaa
namespace Go.Proofs.Ytndjoanlbaiaeaa
open Go.RowKit

theorem Blk.four {w : World} {g : Nat} {t : TypeId} {a0 a1 a2 a3 : Value} (h : Blk w g t #[a0, a1, a2, a3]) :
    w.cell? ⟨g, 0, none⟩ = some a0 ∧ w.cell? ⟨g, 1, none⟩ = some a1 ∧ w.cell? ⟨g, 2, none⟩ = some a2 ∧ w.cell? ⟨g, 3, none⟩ = some a3 :=
  ⟨h.cell 0, h.cell 1, h.cell 2, h.cell 3⟩

end Go.Proofs.Ytndjoanlbaiaeaa
namespace Go.Proofs.Ytndjoanlbaiaeaa
open Go.RowKit

/-- Block x is known whole, and the row v is not in it. -/
def Keep (w : World) (v : Value) (x : Nat) (t : TypeId) (cs : Array Value) : Prop := Blk w x t cs ∧ v.ownBlock ≠ some x
theorem Keep.below {w w' : World} {v : Value} {x : Nat} {t : TypeId} {cs : Array Value} (h : Keep w v x t cs) (hb : Below w.heap.size w w') : Keep w' v x t cs := ⟨h.1.below hb h.1.lt, h.2⟩
theorem Keep.alloc {w : World} {v : Value} {x : Nat} {t : TypeId} {cs : Array Value} (h : Keep w v x t cs) (o : Obj) : Keep (w.alloc o) v x t cs := ⟨h.1.alloc o, h.2⟩
/-- A row of the call's own, as a slice value. -/
theorem Acc.form {w0 w : World} {v : Value} {n : Nat} {L : List Int} (h : Acc w0 w v n L) : ∃ A c, v = .slice A n c ∧ n ≤ c ∧ c ≤ maxLen ∧ Row .u8 w w.heap.size A n L := by
  obtain ⟨A, c, h1, h2, h3, h4, _⟩ := h.putN
  injection h1 with h1
  exact ⟨A, c, h1, h2, h3, h4⟩
theorem Acc.some {w0 w : World} {v : Value} {n : Nat} {L : List Int} (h : Acc w0 w v n L) (hn : 0 < n) : ∃ g c, v = .slice (some ⟨g, 0, none⟩) n c ∧ n ≤ c ∧ c ≤ maxLen ∧ g < w.heap.size ∧ w0.heap.size ≤ g ∧ Row .u8 w w.heap.size (some ⟨g, 0, none⟩) n L := by
  obtain ⟨g, c, rest, rfl, hg, hc, hk⟩ := own_blk h.1 hn
  obtain ⟨A', c', h1, h2, h3, h4⟩ := h.form
  injection h1 with h1 _ h5
  subst h1 h5
  exact ⟨g, c, rfl, h2, h3, hk.lt, hg, h4⟩
/-- The first m of n. -/
theorem Row.head {k : IntKind} {w : World} {B n : Nat} {A : Option Addr} {l : List Int} (h : Row k w B A n l) (m : Nat) (hm : m ≤ n) : Row k w B A m (l.take m) :=
  ⟨by have := h.1; simp; omega, fun h0 => by
    obtain ⟨b, o, e, hb, hc⟩ := h.2 (by omega)
    refine ⟨b, o, e, hb, fun j hj => ?_⟩
    have := hc j (by omega)
    simpa [List.getElem?_take, hj] using this⟩
end Go.Proofs.Ytndjoanlbaiaeaa
namespace Go.Proofs.Ytndjoanlbaiaeaa
open Go.RowKit

/-- The number in the w bytes from place a on. -/
def wordAt (l : List Int) (a w : Nat) : Int := num ((l.drop a).take w)
section
variable {w w' : World} {base b g a : Nat} {l : List Int}
end
theorem grown_of_below {w w1 : World} (h : Below w.heap.size w w1) (r : Option Nat) : w.grownBy w1 r := ⟨h.os, h.tape, h.output, h.size, fun k hk _ => h.block k hk⟩
theorem Blk.grown {w w1 : World} {g x : Nat} {t : TypeId} {cs : Array Value} (h : Blk w x t cs) (hg : w.grownBy w1 (some g)) (hne : x ≠ g) : Blk w1 x t cs :=
  (hg.block x h.lt (fun e => by injection e with e; exact hne e)).trans h
end Go.Proofs.Ytndjoanlbaiaeaa
namespace Go.Proofs.Ytndjoanlbaiaeaa
open Go.RowKit

/-- A number of 32 bits that goes round below 0. -/
def sgn (n : Int) : Int := if 2147483648 ≤ n then n - 4294967296 else n
/-- The head that twenty bytes tell. -/
def headOf (l : List Int) : Hd := ⟨wordAt l 0 2, wordAt l 3 1, wordAt l 4 4, wordAt l 8 4, sgn (wordAt l 12 4), wordAt l 16 2, wordAt l 18 2⟩
end Go.Proofs.Ytndjoanlbaiaeaa
