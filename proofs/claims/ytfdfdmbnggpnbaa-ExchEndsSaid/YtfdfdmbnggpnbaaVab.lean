/- The small calls of package quad: held and Wide answer the width held within 1 to 4, and what a nil Reader answers. No conditions. · The Reader's call Bytes. Conditions: the reader's three fields as they stand, and its bytes in another block. · The call Put: what was there, and behind it each number's lowest bytes, in memory of its own. Conditions: what is handed in reads as bytes and as integers, at most 100000 of each. · The call PutHead of package lsa and the reference's HeadBytes: the twenty bytes of a head. No conditions. · The call body of package lsa: what stands behind the head. Conditions: at most 50 links and 50 members. · Plain facts on the two sums of bytes modulo 255. No program, no conditions. -/
import Derived.IntWalk
import Derived.Deep.DeepCutAuto
import Derived.Test.YtfdfdmbnggpnbaaVaa
namespace Go.Proofs.Ytfdfdmbnggpnbaa
open Go.RowKit

theorem held_any (n : Int) (w : World) : Calls Try.prog 84 #[.int .i64 n] w fun e w' => e = .returned (.int .i64 (hold n)) ∧ w = w' := by
  unfold hold
  by_cases h1 : n < 1
  · rw [if_pos h1]
    go_enter Try.func84, Try.ntmps84
    go_wp2
    go_ret
    exact ⟨rfl, rfl⟩
  · rw [if_neg h1]
    by_cases h2 : 4 < n
    · rw [if_pos h2]
      go_enter Try.func84, Try.ntmps84
      go_wp2
      go_ret
      exact ⟨rfl, rfl⟩
    · rw [if_neg h2]
      go_enter Try.func84, Try.ntmps84
      go_wp2
      go_ret
      exact ⟨rfl, rfl⟩

end Go.Proofs.Ytfdfdmbnggpnbaa
namespace Go.Proofs.Ytfdfdmbnggpnbaa
open Go.RowKit

def pos (n : Int) : Int := if n < 0 then 0 else n

/-- Behind a call of the reader in block g: that block holds the three fields as given; no other block that was there has turned. -/
def Step (w : World) (g : Nat) (A : Option Addr) (n c : Nat) (a e : Int) (w' : World) : Prop := w.grownBy w' (some g) ∧ Blk w' g 169 #[.slice A n c, .int .i64 a, .int .i64 e]

section
variable {w w' w2 : World} {g n c : Nat} {A : Option Addr} {a e : Int}
theorem Step.lt (h : Step w g A n c a e w') (hg : g < w.heap.size) : g < w'.heap.size := Nat.lt_of_lt_of_le hg h.1.size
theorem Step.more (h : Step w g A n c a e w') (hb : Below w'.heap.size w' w2) : Step w g A n c a e w2 :=
  ⟨⟨hb.os.trans h.1.os, hb.tape.trans h.1.tape, hb.output.trans h.1.output, Nat.le_trans h.1.size hb.size, fun k hk hne => (hb.block k (Nat.lt_of_lt_of_le hk h.1.size)).trans (h.1.block k hk hne)⟩, h.2.below hb h.2.lt⟩
theorem Row.step {k : IntKind} {B m : Nat} {l : List Int} {A' : Option Addr} (hr : Row k w B A' m l) (h : Step w g A n c a e w') (hB : B ≤ w.heap.size) (hg : B ≤ g) : Row k w' B A' m l :=
  hr.keep fun p hp => World.cell?_of_block (h.1.block p.block (by omega) (fun q => by injection q with q; omega))
end

end Go.Proofs.Ytfdfdmbnggpnbaa
namespace Go.Proofs.Ytfdfdmbnggpnbaa
open Go.RowKit

/-- What Put answers, and leaves: a row of bytes of its own. -/
def Put0 (w : World) (l : List Int) (x : Ending) (w' : World) : Prop :=
  ∃ A c, x = .returned (.slice A l.length c) ∧ l.length ≤ c ∧ c ≤ maxLen ∧ Row .u8 w' w'.heap.size A l.length l ∧ Below w.heap.size w w'

theorem put0_of_own {w w' : World} {base : Nat} {v : Value} {L : List Int} (h : w'.ownsRow base 5 1 v L.length (L.map (Value.int .u8))) (hb : Below w.heap.size w w') : Put0 w L (.returned v) w' := by
  rcases h.2 with ⟨rfl, h0⟩ | ⟨g, cap, cur, rfl, hg, hh, hn, hm, hs, ht⟩
  · have : L = [] := List.eq_nil_of_length_eq_zero h0
    subst this
    exact ⟨_, _, rfl, Nat.le_refl _, by unfold maxLen; omega, Row.nil, hb⟩
  · refine ⟨_, _, rfl, hn, hm, ⟨rfl, fun _ => ⟨g, 0, rfl, (Blk.lt hh), fun j hj => ?_⟩⟩, hb⟩
    have hc := h.cells (g := g) rfl j (.int .u8 (L.getD j 0)) (by rw [List.getElem?_map, List.getD_eq_getElem?_getD, List.getElem?_eq_getElem hj]; rfl)
    have e : (⟨g, 0, none⟩ : Addr).add j = ⟨g, 0 + j, none⟩ := by
      unfold Addr.add
      split <;> simp_all
    rw [e] at hc
    exact hc

end Go.Proofs.Ytfdfdmbnggpnbaa
namespace Go.Proofs.Ytfdfdmbnggpnbaa
open Go.RowKit

/-- The twenty bytes of a head. -/
def headBytes (h : Hd) : List Int := enc h.age 2 ++ (enc 0 1 ++ (enc h.kind 1 ++ (enc h.id 4 ++ (enc h.adv 4 ++ (enc h.seq 4 ++ (enc h.sum 2 ++ enc h.long 2))))))
/-- A row of n bytes of its own, L, is answered; what was in W is as it was. -/
def PutN (W : World) (L : List Int) (n : Nat) (x : Ending) (w' : World) : Prop :=
  ∃ A c, x = .returned (.slice A n c) ∧ n ≤ c ∧ c ≤ maxLen ∧ Row .u8 w' w'.heap.size A n L ∧ Below W.heap.size W w'
theorem putN_of {W w' : World} {L : List Int} {x : Ending} (n : Nat) (h : Put0 W L x w') (hn : L.length = n) : PutN W L n x w' := by
  subst hn
  exact h
/-- v is a row of n bytes of the call's own, L; what was in w0 is as it was. -/
def Acc (w0 w : World) (v : Value) (n : Nat) (L : List Int) : Prop := w.ownsRow w0.heap.size 5 1 v n (L.map (Value.int .u8)) ∧ Below w0.heap.size w0 w
theorem Acc.nil {w0 w : World} (h : Below w0.heap.size w0 w) : Acc w0 w (.slice none 0 0) 0 [] := ⟨World.ownsRow_nil w _ _ _, h⟩
theorem Acc.below {w0 w w' : World} {v : Value} {n : Nat} {L : List Int} (h : Acc w0 w v n L) (hb : Below w.heap.size w w') : Acc w0 w' v n L :=
  ⟨own_below h.1 hb, h.2.trans (hb.mono h.2.size)⟩
theorem Acc.alloc {w0 w : World} {v : Value} {n : Nat} {L : List Int} (h : Acc w0 w v n L) (o : Obj) : Acc w0 (w.alloc o) v n L :=
  h.below ((Below.refl _ _).alloc (Nat.le_refl _) o)
theorem Acc.putN {w0 w : World} {v : Value} {n : Nat} {L : List Int} (h : Acc w0 w v n L) : PutN w0 L n (.returned v) w := by
  have hl : L.length = n := by have := h.1.1; simpa using this
  subst hl
  exact putN_of _ (put0_of_own h.1 h.2) rfl
theorem Acc.blk {w0 w : World} {v : Value} {n g : Nat} {L : List Int} {t : TypeId} {cs : Array Value} (h : Acc w0 w v n L) (hb : Blk w0 g t cs) : Blk w g t cs := hb.below h.2 hb.lt
end Go.Proofs.Ytfdfdmbnggpnbaa
namespace Go.Proofs.Ytfdfdmbnggpnbaa
open Go.RowKit

/-- The twelve bytes of a link. -/
def linkBytes (k : Lk) : List Int := enc k.id 4 ++ (enc k.data 4 ++ (enc k.kind 1 ++ (enc 0 1 ++ enc k.cost 2)))
/-- All links' bytes. -/
def linksBytes : List Lk → List Int
  | [] => []
  | k :: l => linkBytes k ++ linksBytes l
/-- What stands behind the head. -/
def bodyBytes (h : Hd) (L : List Lk) (M : List Int) : List Int := if h.kind = 1 then enc L.length 4 ++ linksBytes L else encs 4 M
theorem Blk.nine {w : World} {g : Nat} {t : TypeId} {a0 a1 a2 a3 a4 a5 a6 a7 a8 : Value} (h : Blk w g t #[a0, a1, a2, a3, a4, a5, a6, a7, a8]) :
    w.cell? ⟨g, 0, none⟩ = some a0 ∧ w.cell? ⟨g, 1, none⟩ = some a1 ∧ w.cell? ⟨g, 2, none⟩ = some a2 ∧ w.cell? ⟨g, 3, none⟩ = some a3 ∧ w.cell? ⟨g, 4, none⟩ = some a4 ∧ w.cell? ⟨g, 5, none⟩ = some a5 ∧ w.cell? ⟨g, 6, none⟩ = some a6 ∧ w.cell? ⟨g, 7, none⟩ = some a7 ∧ w.cell? ⟨g, 8, none⟩ = some a8 :=
  ⟨h.cell 0, h.cell 1, h.cell 2, h.cell 3, h.cell 4, h.cell 5, h.cell 6, h.cell 7, h.cell 8⟩
theorem Blk.four {w : World} {g : Nat} {t : TypeId} {a0 a1 a2 a3 : Value} (h : Blk w g t #[a0, a1, a2, a3]) :
    w.cell? ⟨g, 0, none⟩ = some a0 ∧ w.cell? ⟨g, 1, none⟩ = some a1 ∧ w.cell? ⟨g, 2, none⟩ = some a2 ∧ w.cell? ⟨g, 3, none⟩ = some a3 :=
  ⟨h.cell 0, h.cell 1, h.cell 2, h.cell 3⟩

end Go.Proofs.Ytfdfdmbnggpnbaa
namespace Go.Proofs.Ytfdfdmbnggpnbaa

/-- The sum of all. -/
def ffst : List Int → Int
  | [] => 0
  | b :: l => b + ffst l
/-- The sum of each times how many stand from it on. -/
def fsnd : List Int → Int
  | [] => 0
  | b :: l => (l.length + 1 : Int) * b + fsnd l
/-- Behind the bytes l: both sums modulo 255, as whole numbers. -/
def Two (l : List Int) (x y : Nat) : Prop := (x : Int) = ffst l % 255 ∧ (y : Int) = fsnd l % 255
theorem Two.nil : Two [] 0 0 := ⟨rfl, rfl⟩
theorem Two.lt {l : List Int} {x y : Nat} (h : Two l x y) : x < 255 ∧ y < 255 := by
  have h1 := h.1
  have h2 := h.2
  omega
/-- Are bytes whole? -/
def wholeB (l : List Int) : Bool := decide (0 < l.length ∧ ffst l % 255 = 0 ∧ fsnd l % 255 = 0)
theorem Two.whole {l : List Int} {x y : Nat} (h : Two l x y) (h0 : 0 < l.length) : wholeB l = (decide (x = 0) && decide (y = 0)) := by
  have h1 := h.1
  have h2 := h.2
  unfold wholeB
  rw [Bool.eq_iff_iff]
  simp [h0]
  omega

/-- Bytes with two zeros from k on. -/
def fzero (l : List Int) (k : Nat) : List Int := (l.set k 0).set (k + 1) 0
/-- Bytes with two others from k on. -/
def put2 (l : List Int) (k : Nat) (x y : Int) : List Int := (l.set k x).set (k + 1) y
/-- The first byte that is lacking, of both sums of the rest and how many stand from the second one on. -/
def lackX (x y s : Int) : Int := (s % 255 * x - y) % 255
/-- The second one. -/
def lackY (x X : Int) : Int := (-x - X) % 255
/-- Bytes, made whole from k on. -/
def ffill (l : List Int) (k : Nat) : List Int :=
  put2 l k (lackX (ffst (fzero l k) % 255) (fsnd (fzero l k) % 255) ((l.length : Int) - k - 1)) (lackY (ffst (fzero l k) % 255) (lackX (ffst (fzero l k) % 255) (fsnd (fzero l k) % 255) ((l.length : Int) - k - 1)))
end Go.Proofs.Ytfdfdmbnggpnbaa
