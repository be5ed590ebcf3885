/- The Reader's call Bytes. Conditions: the reader's three fields as they stand, and its bytes in another block. -/
import Derived.Test.YtidncajbedgplaaQuD
namespace Go.Proofs.Ytidncajbedgplaa
open Go.RowKit

def pos (n : Int) : Int := if n < 0 then 0 else n

/-- Behind a call of the reader in block g: that block holds the three fields as given; no other block that was there has turned. -/
def Step (w : World) (g : Nat) (A : Option Addr) (n c : Nat) (a e : Int) (w' : World) : Prop := w.grownBy w' (some g) ∧ Blk w' g 72 #[.slice A n c, .int .i64 a, .int .i64 e]

section
variable {w w' w2 : World} {g n c : Nat} {A : Option Addr} {a e : Int}
theorem step_at (h : Blk w g 72 #[.slice A n c, .int .i64 a, .int .i64 e]) (a' : Int) (d : Nat) : Step w g A n c a' e ((w.setCell ⟨g, 1, none⟩ (.int .i64 a')).drewN d) :=
  ⟨⟨rfl, rfl, rfl, by simp [World.setCell, World.drewN], fun k _ hk => Below.heap_setCell w _ _ k (fun e => hk (by rw [e]))⟩, h.put 1 _⟩
theorem step_err (h : Blk w g 72 #[.slice A n c, .int .i64 a, .int .i64 e]) (e' : Int) (d : Nat) : Step w g A n c a e' ((w.setCell ⟨g, 2, none⟩ (.int .i64 e')).drewN d) :=
  ⟨⟨rfl, rfl, rfl, by simp [World.setCell, World.drewN], fun k _ hk => Below.heap_setCell w _ _ k (fun e => hk (by rw [e]))⟩, h.put 2 _⟩
theorem Step.lt (h : Step w g A n c a e w') (hg : g < w.heap.size) : g < w'.heap.size := Nat.lt_of_lt_of_le hg h.1.size
theorem Step.more (h : Step w g A n c a e w') (hb : Below w'.heap.size w' w2) : Step w g A n c a e w2 :=
  ⟨⟨hb.os.trans h.1.os, hb.tape.trans h.1.tape, hb.output.trans h.1.output, Nat.le_trans h.1.size hb.size, fun k hk hne => (hb.block k (Nat.lt_of_lt_of_le hk h.1.size)).trans (h.1.block k hk hne)⟩, h.2.below hb h.2.lt⟩
theorem Row.step {k : IntKind} {B m : Nat} {l : List Int} {A' : Option Addr} (hr : Row k w B A' m l) (h : Step w g A n c a e w') (hB : B ≤ w.heap.size) (hg : B ≤ g) : Row k w' B A' m l :=
  hr.keep fun p hp => World.cell?_of_block (h.1.block p.block (by omega) (fun q => by injection q with q; omega))
end

/-- What Bytes answers, and leaves: a row of bytes of its own. -/
def Got (w : World) (g : Nat) (A : Option Addr) (n c : Nat) (a e : Int) (l : List Int) (x : Ending) (w' : World) : Prop :=
  ∃ A' c', x = .returned (.slice A' l.length c') ∧ Row .u8 w' w'.heap.size A' l.length l ∧ Step w g A n c a e w'

end Go.Proofs.Ytidncajbedgplaa
