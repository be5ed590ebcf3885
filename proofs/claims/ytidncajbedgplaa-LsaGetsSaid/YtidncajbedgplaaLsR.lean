/- A reader as a whole: its bytes, and where it stands. Conditions: at most 2^40 bytes. -/
import Derived.Test.YtidncajbedgplaaLsJ
namespace Go.Proofs.Ytidncajbedgplaa
open Go.RowKit

/-- The number in the w bytes from place a on. -/
def wordAt (l : List Int) (a w : Nat) : Int := num ((l.drop a).take w)
theorem wordAt_one (l : List Int) (a : Nat) (h : a < l.length) : wordAt l a 1 = l.getD a 0 := by
  unfold wordAt
  have e : (l.drop a).take 1 = [l.getD a 0] := by
    rw [List.drop_eq_getElem_cons h, List.getD_eq_getElem?_getD, List.getElem?_eq_getElem h]; rfl
  rw [e]
  simp [num]
theorem wordAt_bd (l : List Int) (h : Byt l) (a w : Nat) (hw : a + w ≤ l.length) : 0 ≤ wordAt l a w ∧ wordAt l a w < 256 ^ w := by
  have h1 := num_bd (l.drop a) (h.drop a) w (by rw [List.length_drop]; omega)
  exact h1

/-- In block g there is a reader of the bytes l, at place a, without an error; its bytes lie in a block from base on. -/
def Rd (w : World) (base g : Nat) (l : List Int) (a : Nat) : Prop :=
  ∃ d c, Blk w g 72 #[.slice (some ⟨d, 0, none⟩) l.length c, .int .i64 a, .int .i64 0] ∧ Row .u8 w (d + 1) (some ⟨d, 0, none⟩) l.length l ∧ base ≤ d ∧ d < g ∧ l.length ≤ c ∧ c ≤ maxLen ∧ a ≤ l.length ∧ Byt l
section
variable {w w' : World} {base b g a : Nat} {l : List Int}
theorem Rd.lt (h : Rd w base g l a) : g < w.heap.size ∧ base ≤ g := by
  obtain ⟨d, c, h1, _, h3, h4, _⟩ := h
  exact ⟨h1.lt, by omega⟩
theorem Rd.below (h : Rd w base g l a) (hb : Below b w w') (hg : g < b) : Rd w' base g l a := by
  obtain ⟨d, c, h1, h2, h3, h4, h5⟩ := h
  exact ⟨d, c, h1.below hb hg, h2.below (hb.mono (by omega)), h3, h4, h5⟩
theorem Rd.alloc (h : Rd w base g l a) (o : Obj) : Rd (w.alloc o) base g l a := h.below ((Below.refl _ _).alloc (Nat.le_refl _) o) h.lt.1
theorem Rd.far (h : Rd w base g l a) {p : Addr} (hp : p.block < base ∨ g < p.block) (u : Value) : Rd (w.setCell p u) base g l a := by
  obtain ⟨d, c, h1, h2, h3, h4, h5⟩ := h
  refine ⟨d, c, h1.far (by omega) u, h2.far ?_ u, h3, h4, h5⟩
  intro b o e
  injection e with e
  injection e with e
  omega
theorem Rd.lower (h : Rd w base g l a) (hb : b ≤ base) : Rd w b g l a := by
  obtain ⟨d, c, h1, h2, h3, h4⟩ := h
  exact ⟨d, c, h1, h2, by omega, h4⟩
end
theorem grown_trans {w w1 w2 : World} {r : Option Nat} (h1 : w.grownBy w1 r) (h2 : w1.grownBy w2 r) : w.grownBy w2 r :=
  ⟨h2.os.trans h1.os, h2.tape.trans h1.tape, h2.output.trans h1.output, Nat.le_trans h1.size h2.size, fun k hk hne => (h2.block k (Nat.lt_of_lt_of_le hk h1.size) hne).trans (h1.block k hk hne)⟩
theorem grown_of_below {w w1 : World} (h : Below w.heap.size w w1) (r : Option Nat) : w.grownBy w1 r := ⟨h.os, h.tape, h.output, h.size, fun k hk _ => h.block k hk⟩
theorem grown_refl (w : World) (r : Option Nat) : w.grownBy w r := ⟨rfl, rfl, rfl, Nat.le_refl _, fun _ _ _ => rfl⟩
theorem grown_set {w w1 : World} {r : Option Nat} (h : w.grownBy w1 r) {p : Addr} (hp : w.heap.size ≤ p.block) (u : Value) : w.grownBy (w1.setCell p u) r :=
  ⟨h.os, h.tape, h.output, by have := h.size; simpa [World.setCell] using this, fun k hk hne => (Below.heap_setCell w1 p u k (by omega)).trans (h.block k hk hne)⟩
theorem grown_alloc {w w1 : World} {r : Option Nat} (h : w.grownBy w1 r) (o : Obj) : w.grownBy (w1.alloc o) r := grown_trans h (World.grownBy_alloc w1 o r)
theorem Blk.grown {w w1 : World} {g x : Nat} {t : TypeId} {cs : Array Value} (h : Blk w x t cs) (hg : w.grownBy w1 (some g)) (hne : x ≠ g) : Blk w1 x t cs :=
  (hg.block x h.lt (fun e => by injection e with e; exact hne e)).trans h
theorem below_grown {b g : Nat} {w w1 w2 : World} (h : Below b w w1) (hg : w1.grownBy w2 (some g)) (hs : b ≤ w.heap.size) (hb : b ≤ g) : Below b w w2 :=
  h.grown hg (Nat.le_trans hs h.size) (fun k hk => by injection hk with hk; omega)

theorem rd_read (A : Option Addr) (n c B : Nat) (l : List Int) (w : World) (hr : Row .u8 w B A n l) (hby : Byt l) (hB : B ≤ w.heap.size) (hn : n ≤ 1099511627776) :
    Calls Try.prog 34 #[.slice A n c] w fun x w' => x = .returned (.pointer (some ⟨w.heap.size + 1, 0, none⟩)) ∧ Below w.heap.size w w' ∧ Rd w' w.heap.size (w.heap.size + 1) l 0 := by
  refine (read_any A n c B l w hr hB hn).mono ?_
  rintro x w' ⟨rfl, h1, h2, h3⟩
  exact ⟨rfl, h1, w.heap.size, l.length, h3, h2, Nat.le_refl _, by omega, Nat.le_refl _, by have := hr.1; unfold maxLen; omega, Nat.zero_le _, hby⟩
/-- What Num answers, and leaves, where the bytes are there. -/
theorem rd_num (base g a m : Nat) (k : Int) (l : List Int) (w : World) (h : Rd w base g l a) (hm : (hold k).toNat = m) (ha : a + m ≤ l.length) :
    Calls Try.prog 35 #[.pointer (some ⟨g, 0, none⟩), .int .i64 k] w fun x w' => x = .returned (.int .i64 (wordAt l a m)) ∧ Rd w' base g l (a + m) ∧ w.grownBy w' (some g) := by
  obtain ⟨d, c, h1, h2, h3, h4, h5, h6, h7, h8⟩ := h
  have hk := hold_lo k
  refine (num_ok g (some ⟨d, 0, none⟩) l.length c (d + 1) a k l w h1 (by omega) (by omega) h5 h6 (by omega) h2 h8 (by omega)).mono ?_
  rintro x w' ⟨rfl, d', rfl⟩
  have hs := step_at h1 ((a : Int) + hold k) d'
  have e : (a : Int) + hold k = ((a + m : Nat) : Int) := by omega
  rw [e] at hs ⊢
  refine ⟨by rw [hm]; rfl, ⟨d, c, hs.2, ?_, h3, h4, h5, h6, ha, h8⟩, hs.1⟩
  refine h2.keep fun p hp => World.cell?_of_block (hs.1.block p.block ?_ ?_)
  · have := h1.lt; omega
  · intro q; injection q with q; omega
/-- Num where bytes are lacking: the reader has an error then. -/
theorem rd_short (base g a m : Nat) (k : Int) (l : List Int) (w : World) (h : Rd w base g l a) (hm : (hold k).toNat = m) (ha : l.length < a + m) :
    Calls Try.prog 35 #[.pointer (some ⟨g, 0, none⟩), .int .i64 k] w fun x w' => x = .returned (.int .i64 0) ∧ (∃ A n c b, Blk w' g 72 #[.slice A n c, .int .i64 b, .int .i64 3]) ∧ w.grownBy w' (some g) := by
  obtain ⟨d, c, h1, h2, h3, h4, h5, h6, h7, h8⟩ := h
  have hk := hold_lo k
  refine (num_short g (some ⟨d, 0, none⟩) l.length c a k w h1 (by omega) (by omega) (by omega) (by omega)).mono ?_
  rintro x w' ⟨rfl, d', rfl⟩
  have hs := step_err h1 3 d'
  exact ⟨rfl, ⟨_, _, _, _, hs.2⟩, hs.1⟩
theorem rd_left (base g a : Nat) (l : List Int) (w : World) (h : Rd w base g l a) :
    Calls Try.prog 60 #[.pointer (some ⟨g, 0, none⟩)] w fun x w' => x = .returned (.int .i64 ((l.length - a : Nat) : Int)) ∧ ∃ d, w' = w.drewN d := by
  obtain ⟨d, c, h1, h2, h3, h4, h5, h6, h7, h8⟩ := h
  refine (left_any g (some ⟨d, 0, none⟩) l.length c a 0 w h1 (by omega) (by omega) (by omega)).mono ?_
  rintro x w' ⟨rfl, h⟩
  exact ⟨ret_int (by omega), h⟩
theorem rd_err (base g a : Nat) (l : List Int) (w : World) (h : Rd w base g l a) :
    Calls Try.prog 62 #[.pointer (some ⟨g, 0, none⟩)] w fun x w' => x = .returned (.int .i64 0) ∧ w = w' := by
  obtain ⟨d, c, h1, _⟩ := h
  exact err_any g _ _ c a 0 w h1
end Go.Proofs.Ytidncajbedgplaa
