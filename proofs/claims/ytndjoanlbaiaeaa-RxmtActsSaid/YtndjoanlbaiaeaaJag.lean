/- Plain words for packets and databases, and memory of lists of structs: heads, keys and descriptions that a slice leads to. No conditions. · Descriptions as they lie in memory: a head and two slices; lists of them of a call's own. No conditions. · The small calls of the reference of databases: a description's key, keys in order, a new one, a key's place. No conditions. · The reference's Drop: the list without the one of a key, in new memory. Conditions: at most 1000 items. · The reference's Tick: each item's age is one more, in place; the keys of those that came to be 60. Conditions: at most 1000 items, of ages from 0 to 60. · Plain facts on databases: lists of descriptions in the order of their keys. No program, no conditions. -/
import Derived.Deep.MidRow
import Derived.IntWalk
import Derived.Deep.RegionHeld3
import Derived.Laws.FloatArith
import Derived.Laws.ComplexArith
import Derived.Deep.DeepCutAuto
import Derived.Deep.RegionLawGrows
import Derived.Test.YtndjoanlbaiaeaaJaf
import Derived.Test.YtndjoanlbaiaeaaJae
import Derived.Test.YtndjoanlbaiaeaaJad
import Derived.Test.YtndjoanlbaiaeaaJaa
import Derived.Test.YtndjoanlbaiaeaaJab
namespace Go.Proofs.Ytndjoanlbaiaeaa
open Go.RowKit

/-- A key. -/
structure Ky where
  kind : Int
  id : Int
  adv : Int
/-- A description. -/
structure La where
  h : Hd
  L : List Lk
  M : List Int

/-- A slice value '.slice A n c' whose elements, of sz cells each, are L, as P tells; what it leads to lies below block B. -/
def Arr {α : Type} (sz : Nat) (P : World → Nat → Nat → Nat → α → Prop) (w : World) (B : Nat) (A : Option Addr) (n : Nat) (L : List α) : Prop :=
  L.length = n ∧ (0 < n → ∃ b o, A = some ⟨b, o, none⟩ ∧ b < B ∧ ∀ j x, L[j]? = some x → P w B b (o + j * sz) x)
/-- From place p of block b on there lies the head h. -/
def HdAt (w : World) (_B b p : Nat) (h : Hd) : Prop :=
  w.cell? ⟨b, p, none⟩ = some (.int .i64 h.age) ∧ w.cell? ⟨b, p + 1, none⟩ = some (.int .i64 h.kind) ∧ w.cell? ⟨b, p + 2, none⟩ = some (.int .i64 h.id) ∧ w.cell? ⟨b, p + 3, none⟩ = some (.int .i64 h.adv) ∧ w.cell? ⟨b, p + 4, none⟩ = some (.int .i64 h.seq) ∧ w.cell? ⟨b, p + 5, none⟩ = some (.int .i64 h.sum) ∧ w.cell? ⟨b, p + 6, none⟩ = some (.int .i64 h.long)
def KyAt (w : World) (_B b p : Nat) (k : Ky) : Prop :=
  w.cell? ⟨b, p, none⟩ = some (.int .i64 k.kind) ∧ w.cell? ⟨b, p + 1, none⟩ = some (.int .i64 k.id) ∧ w.cell? ⟨b, p + 2, none⟩ = some (.int .i64 k.adv) ∧ -9223372036854775808 ≤ k.id ∧ k.id ≤ 9223372036854775807
def LaAt (w : World) (B b p : Nat) (x : La) : Prop :=
  HdAt w B b p x.h ∧ ∃ A n c A' n' c', w.cell? ⟨b, p + 7, none⟩ = some (.slice A n c) ∧ w.cell? ⟨b, p + 8, none⟩ = some (.slice A' n' c') ∧ Lnk w B A n x.L ∧ Row .i64 w B A' n' x.M ∧ n ≤ maxLen ∧ n' ≤ maxLen
section
variable {α : Type} {sz : Nat} {P : World → Nat → Nat → Nat → α → Prop} {w w' : World} {B B' n : Nat} {A : Option Addr} {L : List α}
theorem Arr.nil : Arr sz P w B A 0 [] := ⟨rfl, fun h => absurd h (by omega)⟩
theorem Arr.move (hP : ∀ b p x, b < B → P w B b p x → P w' B' b p x) (hB : B ≤ B') (h : Arr sz P w B A n L) : Arr sz P w' B' A n L :=
  ⟨h.1, fun hn => by
    obtain ⟨b, o, e, hb, hc⟩ := h.2 hn
    exact ⟨b, o, e, by omega, fun j x hx => hP _ _ _ hb (hc j x hx)⟩⟩
theorem Arr.at (h : Arr sz P w B A n L) {j : Nat} (hj : j < n) : ∃ b o x, A = some ⟨b, o, none⟩ ∧ b < B ∧ L[j]? = some x ∧ P w B b (o + j * sz) x := by
  obtain ⟨b, o, e, hb, hc⟩ := h.2 (by omega)
  have hl := h.1
  have hx : L[j]? = some (L[j]'(by omega)) := List.getElem?_eq_getElem (by omega)
  exact ⟨b, o, _, e, hb, hx, hc j _ hx⟩
end
section
variable {w w' : World} {B B' b p : Nat}
theorem HdAt.move {x : Hd} (hk : ∀ q : Addr, q.block < B → w'.cell? q = w.cell? q) (hb : b < B) (h : HdAt w B b p x) : HdAt w' B' b p x :=
  ⟨(hk _ hb).trans h.1, (hk _ hb).trans h.2.1, (hk _ hb).trans h.2.2.1, (hk _ hb).trans h.2.2.2.1, (hk _ hb).trans h.2.2.2.2.1, (hk _ hb).trans h.2.2.2.2.2.1, (hk _ hb).trans h.2.2.2.2.2.2⟩
theorem KyAt.move {x : Ky} (hk : ∀ q : Addr, q.block < B → w'.cell? q = w.cell? q) (hb : b < B) (h : KyAt w B b p x) : KyAt w' B' b p x :=
  ⟨(hk _ hb).trans h.1, (hk _ hb).trans h.2.1, (hk _ hb).trans h.2.2.1, h.2.2.2⟩
theorem LaAt.move {x : La} (hk : ∀ q : Addr, q.block < B → w'.cell? q = w.cell? q) (hB : B ≤ B') (hb : b < B) (h : LaAt w B b p x) : LaAt w' B' b p x := by
  obtain ⟨h1, A, n, c, A', n', c', h2, h3, h4, h5, h6⟩ := h
  exact ⟨h1.move hk hb, A, n, c, A', n', c', (hk _ hb).trans h2, (hk _ hb).trans h3, (h4.keep hk).more hB, (h5.keep hk).more hB, h6⟩
end
/-- Heads, keys, descriptions. -/
def Hds (w : World) (B : Nat) (A : Option Addr) (n : Nat) (L : List Hd) : Prop := Arr 7 HdAt w B A n L
def Kys (w : World) (B : Nat) (A : Option Addr) (n : Nat) (L : List Ky) : Prop := Arr 3 KyAt w B A n L
def Las (w : World) (B : Nat) (A : Option Addr) (n : Nat) (L : List La) : Prop := Arr 9 LaAt w B A n L
section
variable {w w' : World} {B B' n : Nat} {A : Option Addr}
theorem Hds.move {L : List Hd} (h : Hds w B A n L) (hk : ∀ q : Addr, q.block < B → w'.cell? q = w.cell? q) (hB : B ≤ B') : Hds w' B' A n L := Arr.move (fun _ _ _ hb h => HdAt.move hk hb h) hB h
theorem Kys.move {L : List Ky} (h : Kys w B A n L) (hk : ∀ q : Addr, q.block < B → w'.cell? q = w.cell? q) (hB : B ≤ B') : Kys w' B' A n L := Arr.move (fun _ _ _ hb h => KyAt.move hk hb h) hB h
theorem Las.move {L : List La} (h : Las w B A n L) (hk : ∀ q : Addr, q.block < B → w'.cell? q = w.cell? q) (hB : B ≤ B') : Las w' B' A n L := Arr.move (fun _ _ _ hb h => LaAt.move hk hB hb h) hB h
theorem Hds.below {L : List Hd} (h : Hds w B A n L) (hb : Below B w w') : Hds w' B A n L := h.move (fun _ hp => hb.cell hp) (Nat.le_refl _)
theorem Kys.below {L : List Ky} (h : Kys w B A n L) (hb : Below B w w') : Kys w' B A n L := h.move (fun _ hp => hb.cell hp) (Nat.le_refl _)
theorem Las.below {L : List La} (h : Las w B A n L) (hb : Below B w w') : Las w' B A n L := h.move (fun _ hp => hb.cell hp) (Nat.le_refl _)
theorem Hds.alloc {L : List Hd} (h : Hds w B A n L) (hB : B ≤ w.heap.size) (o : Obj) : Hds (w.alloc o) B A n L := h.move (fun p hp => World.cell?_alloc_lt w o p (by omega)) (Nat.le_refl _)
theorem Kys.alloc {L : List Ky} (h : Kys w B A n L) (hB : B ≤ w.heap.size) (o : Obj) : Kys (w.alloc o) B A n L := h.move (fun p hp => World.cell?_alloc_lt w o p (by omega)) (Nat.le_refl _)
theorem Las.alloc {L : List La} (h : Las w B A n L) (hB : B ≤ w.heap.size) (o : Obj) : Las (w.alloc o) B A n L := h.move (fun p hp => World.cell?_alloc_lt w o p (by omega)) (Nat.le_refl _)
theorem Hds.more {L : List Hd} (h : Hds w B A n L) (hB : B ≤ B') : Hds w B' A n L := h.move (fun _ _ => rfl) hB
theorem Kys.more {L : List Ky} (h : Kys w B A n L) (hB : B ≤ B') : Kys w B' A n L := h.move (fun _ _ => rfl) hB
theorem Las.more {L : List La} (h : Las w B A n L) (hB : B ≤ B') : Las w B' A n L := h.move (fun _ _ => rfl) hB
end
theorem keepW {w0 w' : World} (hb : Below w0.heap.size w0 w') : Below w0.heap.size w0 w' ∧ (∀ b o, b < w0.heap.size → w'.cell? ⟨b, o, none⟩ = w0.cell? ⟨b, o, none⟩) :=
  ⟨hb, fun b o h => hb.cell (p := ⟨b, o, none⟩) h⟩
/-- Are heads alike? -/
def sameHd (a b : Hd) : Bool := decide (a.age = b.age) && (decide (a.kind = b.kind) && (decide (a.id = b.id) && (decide (a.adv = b.adv) && (decide (a.seq = b.seq) && (decide (a.sum = b.sum) && decide (a.long = b.long))))))
theorem sameHd_iff (a b : Hd) : sameHd a b = true ↔ a = b := by
  cases a; cases b
  simp [sameHd]
end Go.Proofs.Ytndjoanlbaiaeaa
namespace Go.Proofs.Ytndjoanlbaiaeaa
open Go.RowKit

/-- A slice's three parts. -/
structure Sv where
  a : Option Addr
  n : Nat
  c : Nat
/-- A description as it lies in memory. -/
structure Rc where
  h : Hd
  p : Sv
  q : Sv
def Rc.cells (r : Rc) : List Value := [.int .i64 r.h.age, .int .i64 r.h.kind, .int .i64 r.h.id, .int .i64 r.h.adv, .int .i64 r.h.seq, .int .i64 r.h.sum, .int .i64 r.h.long, .slice r.p.a r.p.n r.p.c, .slice r.q.a r.q.n r.q.c]
def keyH (h : Hd) : Ky := ⟨h.kind, h.id, h.adv⟩
/-- Are keys alike? -/
def sameKy (a b : Ky) : Bool := decide (a.kind = b.kind) && (decide (a.id = b.id) && decide (a.adv = b.adv))
theorem sameKy_iff (a b : Ky) : sameKy a b = true ↔ a = b := by
  cases a; cases b
  simp [sameKy]
/-- Are keys in order? -/
def lessKy (a b : Ky) : Bool := if a.kind ≠ b.kind then decide (a.kind < b.kind) else if a.id ≠ b.id then decide (a.id < b.id) else decide (a.adv < b.adv)

/-- Nine cells from place p of block b on. -/
def RcAt (w : World) (b p : Nat) (r : Rc) : Prop := ∀ i, i < 9 → w.cell? ⟨b, p + i, none⟩ = r.cells[i]?
theorem RcAt.range {w : World} {b p : Nat} {r : Rc} (h : RcAt w b p r) : w.rangeAt b p r.cells := fun j v hj => by
  have hl : j < 9 := by
    have := (List.getElem?_eq_some_iff.1 hj).1
    simpa [Rc.cells] using this
  exact (h j hl).trans hj
theorem RcAt.below {w w' : World} {B b p : Nat} {r : Rc} (h : RcAt w b p r) (hb : Below B w w') (hlt : b < B) : RcAt w' b p r := fun i hi => (hb.cell (p := ⟨b, p + i, none⟩) hlt).trans (h i hi)

/-- A slice of keys, and its keys in memory. -/
def kyCells (K : List Ky) : List Value := K.flatMap fun k => [.int .i64 k.kind, .int .i64 k.id, .int .i64 k.adv]
theorem kyCells_cons (k : Ky) (K : List Ky) : kyCells (k :: K) = [.int .i64 k.kind, .int .i64 k.id, .int .i64 k.adv] ++ kyCells K := rfl
theorem kyCells_append (K K' : List Ky) : kyCells (K ++ K') = kyCells K ++ kyCells K' := by simp [kyCells]
theorem kyCells_length (K : List Ky) : (kyCells K).length = K.length * 3 := by
  induction K with
  | nil => rfl
  | cons r R ih => rw [kyCells_cons, List.length_append, ih]; simp; omega
theorem kyCells_ones (K : List Ky) : ∀ u ∈ kyCells K, u.oneCell' = true := by
  induction K with
  | nil => intro u hu; cases hu
  | cons r R ih =>
    intro u hu
    rw [kyCells_cons, List.mem_append] at hu
    rcases hu with hu | hu
    · simp only [List.mem_cons, List.not_mem_nil, or_false] at hu
      rcases hu with rfl | rfl | rfl <;> rfl
    · exact ih u hu

theorem wpList_load_row {ops : Array Oper} {rest : List Oper} {op : Oper} {a : Act} {w : World} {Q : Exit → Act → World → Prop} {b o : Nat} (ty : TypeId) (cs : List Value) (d : TypeDesc) (hw : Region.wanted op (yielded ops a.tmps) = true) (x : Operand) (ho : op.op = .load ty x)
    (hx : a.eval x = .pointer (some ⟨b, o, none⟩)) (hc : w.rangeAt b o cs) (hu : Try.prog.underlying ty = some d) (hd : d.isRow = true) (hi : (Try.prog.info? ty).map (·.size) = some cs.length) (h : wpList Try.prog ops Q rest (a.put op.dst (.agg cs.toArray)) w) : wpList Try.prog ops Q (op :: rest) a w :=
  wpList_step fun K hK => by
    rw [if_pos hw]
    exact wp_load_mid ty x ho b o hx cs d hc hu hd hi (hK _ _ h)
theorem Blk.three {w : World} {g : Nat} {t : TypeId} {a0 a1 a2 : Value} (h : Blk w g t #[a0, a1, a2]) : w.cell? ⟨g, 0, none⟩ = some a0 ∧ w.cell? ⟨g, 1, none⟩ = some a1 ∧ w.cell? ⟨g, 2, none⟩ = some a2 := ⟨h.cell 0, h.cell 1, h.cell 2⟩
end Go.Proofs.Ytndjoanlbaiaeaa
namespace Go.Proofs.Ytndjoanlbaiaeaa
open Go.RowKit

theorem below_new2 (w : World) (o o2 : Obj) : Below w.heap.size w ((w.alloc o).alloc o2) := ((Below.refl _ _).alloc (Nat.le_refl _) o).alloc (by simp) o2

end Go.Proofs.Ytndjoanlbaiaeaa
namespace Go.Proofs.Ytndjoanlbaiaeaa
open Go.RowKit

theorem own_keeps7 {w w' : World} {b : Nat} {t : TypeId} {size n : Nat} {v : Value} {xs : List Value} (ho : w.ownsRow b t size v n xs) (hg : w.grownBy w' v.ownBlock) (hb : b ≤ w.heap.size) : Below b w w' :=
  (Below.refl b w).grown hg hb fun k hk => by
    rcases ho.2 with ⟨rfl, _⟩ | ⟨g, _, _, rfl, hbg, _⟩
    · cases hk
    · simp [Value.ownBlock] at hk
      omega

/-- What lies in a new block, as a slice of one item. -/
theorem news_new (w : World) (t : TypeId) (cs : List Value) : ∀ ad, (some ⟨w.heap.size, 0, none⟩ : Option Addr) = some ad → ∀ j u, cs[j]? = some u → (w.alloc (.cells cs.toArray t)).cell? (ad.add j) = some u := by
  intro ad e j u hu
  injection e with e
  subst e
  rw [addr_add, Nat.zero_add, (Blk.new w t cs.toArray).cell]
  simpa using hu

end Go.Proofs.Ytndjoanlbaiaeaa
namespace Go.Proofs.Ytndjoanlbaiaeaa
open Go.RowKit

theorem own_set1 {w : World} {base n size b c : Nat} {t : TypeId} {xs : List Value} (h : w.ownsRow base t size (.slice (some ⟨b, 0, none⟩) n c) n xs) (p : Nat) (u : Value) :
    (w.setCell ⟨b, p, none⟩ u).ownsRow base t size (.slice (some ⟨b, 0, none⟩) n c) n (xs.set p u) := by
  refine ⟨by rw [List.length_set]; exact h.1, ?_⟩
  rcases h.2 with ⟨hv, _⟩ | ⟨g, cap, cur, hv, hb, hg, h1, h2, h3, h4⟩
  · cases hv
  · injection hv with e1 e2 e3
    injection e1 with e1
    injection e1 with e1
    subst e1 e3
    have hB : Blk w b t cur := hg
    refine .inr ⟨b, c, cur.setIfInBounds p u, rfl, hb, hB.put p u, h1, h2, by simpa using h3, ?_⟩
    rw [← h4]
    simp [List.take_set]
end Go.Proofs.Ytndjoanlbaiaeaa
namespace Go.Proofs.Ytndjoanlbaiaeaa

theorem lessKy_iff (a b : Ky) : lessKy a b = true ↔ a.kind < b.kind ∨ (a.kind = b.kind ∧ (a.id < b.id ∨ (a.id = b.id ∧ a.adv < b.adv))) := by
  unfold lessKy
  by_cases h1 : a.kind = b.kind
  · rw [if_neg (by simp [h1])]
    by_cases h2 : a.id = b.id
    · rw [if_neg (by simp [h2]), decide_eq_true_iff]
      omega
    · rw [if_pos h2, decide_eq_true_iff]
      omega
  · rw [if_pos h1, decide_eq_true_iff]
    omega
theorem lessKy_irrefl (a : Ky) : lessKy a a = false := by
  cases h : lessKy a a
  · rfl
  · rw [lessKy_iff] at h
    omega
theorem lessKy_trans {a b c : Ky} (h1 : lessKy a b = true) (h2 : lessKy b c = true) : lessKy a c = true := by
  rw [lessKy_iff] at h1 h2 ⊢
  omega
theorem lessKy_total {a b : Ky} (h : lessKy a b = false) (hne : a ≠ b) : lessKy b a = true := by
  cases h2 : lessKy b a
  · exfalso
    apply hne
    have n1 : ¬ lessKy a b = true := by rw [h]; decide
    have n2 : ¬ lessKy b a = true := by rw [h2]; decide
    rw [lessKy_iff] at n1 n2
    obtain ⟨a1, a2, a3⟩ := a
    obtain ⟨b1, b2, b3⟩ := b
    simp only at n1 n2
    congr 1 <;> omega
  · rfl
/-- Two lists, item by item. -/
def All2 {α β : Type} (P : α → β → Prop) (R : List α) (S : List β) : Prop := R.length = S.length ∧ ∀ (j : Nat) (r : α) (x : β), R[j]? = some r → S[j]? = some x → P r x
section
variable {α β : Type} {P Q : α → β → Prop}
theorem All2.nil : All2 P [] [] := ⟨rfl, fun j r x h => by simp at h⟩
theorem All2.cons {r : α} {x : β} {R : List α} {S : List β} (h : P r x) (t : All2 P R S) : All2 P (r :: R) (x :: S) :=
  ⟨by simp [t.1], fun j r' x' h1 h2 => by
    cases j with
    | zero =>
      simp at h1 h2
      subst h1 h2
      exact h
    | succ j => exact t.2 j r' x' (by simpa using h1) (by simpa using h2)⟩
theorem All2.head {r : α} {x : β} {R : List α} {S : List β} (h : All2 P (r :: R) (x :: S)) : P r x ∧ All2 P R S :=
  ⟨h.2 0 r x (by simp) (by simp), by have := h.1; simp at this; exact this, fun j r' x' h1 h2 => h.2 (j + 1) r' x' (by simpa using h1) (by simpa using h2)⟩
theorem All2.at {R : List α} {S : List β} (h : All2 P R S) {j : Nat} {r : α} (hr : R[j]? = some r) : ∃ x, S[j]? = some x ∧ P r x := by
  have hj := (List.getElem?_eq_some_iff.1 hr).1
  have hs : S[j]? = some (S[j]'(by rw [← h.1]; exact hj)) := List.getElem?_eq_getElem _
  exact ⟨_, hs, h.2 j r _ hr hs⟩
theorem All2.at' {R : List α} {S : List β} (h : All2 P R S) {j : Nat} {x : β} (hx : S[j]? = some x) : ∃ r, R[j]? = some r ∧ P r x := by
  have hj := (List.getElem?_eq_some_iff.1 hx).1
  have hs : R[j]? = some (R[j]'(by rw [h.1]; exact hj)) := List.getElem?_eq_getElem _
  exact ⟨_, hs, h.2 j _ x hs hx⟩
theorem All2.map {γ δ : Type} {P' : γ → δ → Prop} {f : α → γ} {g : β → δ} {R : List α} {S : List β} (h : All2 P R S) (hi : ∀ r x, P r x → P' (f r) (g x)) : All2 P' (R.map f) (S.map g) := by
  induction R generalizing S with
  | nil =>
    cases S with
    | nil => exact ⟨rfl, fun j r x h => by simp at h⟩
    | cons x S => have := h.1; simp at this
  | cons r R ih =>
    cases S with
    | nil => have := h.1; simp at this
    | cons x S => exact All2.cons (hi _ _ h.head.1) (ih h.head.2)
end
/-- A description's key. -/
def kyL (x : La) : Ky := keyH x.h
/-- In order. -/
def SortL (S : List La) : Prop := S.Pairwise fun a b => lessKy (kyL a) (kyL b) = true
theorem SortL.tail {x : La} {S : List La} (h : SortL (x :: S)) : SortL S := (List.pairwise_cons.1 h).2
theorem SortL.head {x : La} {S : List La} (h : SortL (x :: S)) : ∀ y ∈ S, lessKy (kyL x) (kyL y) = true := (List.pairwise_cons.1 h).1
end Go.Proofs.Ytndjoanlbaiaeaa
