/- Plain words for packets and databases, and memory of lists of structs: heads, keys and descriptions that a slice leads to. No conditions. · Descriptions as they lie in memory: a head and two slices; lists of them of a call's own. No conditions. · The reference's Drop: the list without the one of a key, in new memory. Conditions: at most 1000 items. · The reference's Put: an error, or the list with it in its place. Conditions: at most 1000 items. · Plain facts on databases: lists of descriptions in the order of their keys. No program, no conditions. · The reference's database in memory: what it holds, on which blocks it hangs, and what its calls make of it. Conditions: none but what the words say. -/
import Derived.Deep.MidRow
import Derived.IntWalk
import Derived.Deep.RegionHeld3
import Derived.Laws.FloatArith
import Derived.Laws.ComplexArith
import Derived.Deep.DeepCutAuto
import Derived.Test.YtjinleakjkbbgaaJaf
import Derived.Test.YtjinleakjkbbgaaJae
import Derived.Test.YtjinleakjkbbgaaJaa
import Derived.Test.YtjinleakjkbbgaaJab
namespace Go.Proofs.Ytjinleakjkbbgaa
open Go.RowKit

/-- A key. -/
structure Ky where
  kind : Int
  id : Int
  adv : Int
/-- A description. -/
structure La where
  h : Hd
  L : List Lk
  M : List Int

/-- A slice value '.slice A n c' whose elements, of sz cells each, are L, as P tells; what it leads to lies below block B. -/
def Arr {α : Type} (sz : Nat) (P : World → Nat → Nat → Nat → α → Prop) (w : World) (B : Nat) (A : Option Addr) (n : Nat) (L : List α) : Prop :=
  L.length = n ∧ (0 < n → ∃ b o, A = some ⟨b, o, none⟩ ∧ b < B ∧ ∀ j x, L[j]? = some x → P w B b (o + j * sz) x)
/-- From place p of block b on there lies the head h. -/
def HdAt (w : World) (_B b p : Nat) (h : Hd) : Prop :=
  w.cell? ⟨b, p, none⟩ = some (.int .i64 h.age) ∧ w.cell? ⟨b, p + 1, none⟩ = some (.int .i64 h.kind) ∧ w.cell? ⟨b, p + 2, none⟩ = some (.int .i64 h.id) ∧ w.cell? ⟨b, p + 3, none⟩ = some (.int .i64 h.adv) ∧ w.cell? ⟨b, p + 4, none⟩ = some (.int .i64 h.seq) ∧ w.cell? ⟨b, p + 5, none⟩ = some (.int .i64 h.sum) ∧ w.cell? ⟨b, p + 6, none⟩ = some (.int .i64 h.long)
def KyAt (w : World) (_B b p : Nat) (k : Ky) : Prop :=
  w.cell? ⟨b, p, none⟩ = some (.int .i64 k.kind) ∧ w.cell? ⟨b, p + 1, none⟩ = some (.int .i64 k.id) ∧ w.cell? ⟨b, p + 2, none⟩ = some (.int .i64 k.adv) ∧ -9223372036854775808 ≤ k.id ∧ k.id ≤ 9223372036854775807
def LaAt (w : World) (B b p : Nat) (x : La) : Prop :=
  HdAt w B b p x.h ∧ ∃ A n c A' n' c', w.cell? ⟨b, p + 7, none⟩ = some (.slice A n c) ∧ w.cell? ⟨b, p + 8, none⟩ = some (.slice A' n' c') ∧ Lnk w B A n x.L ∧ Row .i64 w B A' n' x.M ∧ n ≤ maxLen ∧ n' ≤ maxLen
section
variable {α : Type} {sz : Nat} {P : World → Nat → Nat → Nat → α → Prop} {w w' : World} {B B' n : Nat} {A : Option Addr} {L : List α}
theorem Arr.nil : Arr sz P w B A 0 [] := ⟨rfl, fun h => absurd h (by omega)⟩
theorem Arr.move (hP : ∀ b p x, b < B → P w B b p x → P w' B' b p x) (hB : B ≤ B') (h : Arr sz P w B A n L) : Arr sz P w' B' A n L :=
  ⟨h.1, fun hn => by
    obtain ⟨b, o, e, hb, hc⟩ := h.2 hn
    exact ⟨b, o, e, by omega, fun j x hx => hP _ _ _ hb (hc j x hx)⟩⟩
theorem Arr.at (h : Arr sz P w B A n L) {j : Nat} (hj : j < n) : ∃ b o x, A = some ⟨b, o, none⟩ ∧ b < B ∧ L[j]? = some x ∧ P w B b (o + j * sz) x := by
  obtain ⟨b, o, e, hb, hc⟩ := h.2 (by omega)
  have hl := h.1
  have hx : L[j]? = some (L[j]'(by omega)) := List.getElem?_eq_getElem (by omega)
  exact ⟨b, o, _, e, hb, hx, hc j _ hx⟩
end
section
variable {w w' : World} {B B' b p : Nat}
theorem HdAt.move {x : Hd} (hk : ∀ q : Addr, q.block < B → w'.cell? q = w.cell? q) (hb : b < B) (h : HdAt w B b p x) : HdAt w' B' b p x :=
  ⟨(hk _ hb).trans h.1, (hk _ hb).trans h.2.1, (hk _ hb).trans h.2.2.1, (hk _ hb).trans h.2.2.2.1, (hk _ hb).trans h.2.2.2.2.1, (hk _ hb).trans h.2.2.2.2.2.1, (hk _ hb).trans h.2.2.2.2.2.2⟩
theorem KyAt.move {x : Ky} (hk : ∀ q : Addr, q.block < B → w'.cell? q = w.cell? q) (hb : b < B) (h : KyAt w B b p x) : KyAt w' B' b p x :=
  ⟨(hk _ hb).trans h.1, (hk _ hb).trans h.2.1, (hk _ hb).trans h.2.2.1, h.2.2.2⟩
theorem LaAt.move {x : La} (hk : ∀ q : Addr, q.block < B → w'.cell? q = w.cell? q) (hB : B ≤ B') (hb : b < B) (h : LaAt w B b p x) : LaAt w' B' b p x := by
  obtain ⟨h1, A, n, c, A', n', c', h2, h3, h4, h5, h6⟩ := h
  exact ⟨h1.move hk hb, A, n, c, A', n', c', (hk _ hb).trans h2, (hk _ hb).trans h3, (h4.keep hk).more hB, (h5.keep hk).more hB, h6⟩
end
/-- Heads, keys, descriptions. -/
def Hds (w : World) (B : Nat) (A : Option Addr) (n : Nat) (L : List Hd) : Prop := Arr 7 HdAt w B A n L
def Kys (w : World) (B : Nat) (A : Option Addr) (n : Nat) (L : List Ky) : Prop := Arr 3 KyAt w B A n L
def Las (w : World) (B : Nat) (A : Option Addr) (n : Nat) (L : List La) : Prop := Arr 9 LaAt w B A n L
section
variable {w w' : World} {B B' n : Nat} {A : Option Addr}
theorem Hds.move {L : List Hd} (h : Hds w B A n L) (hk : ∀ q : Addr, q.block < B → w'.cell? q = w.cell? q) (hB : B ≤ B') : Hds w' B' A n L := Arr.move (fun _ _ _ hb h => HdAt.move hk hb h) hB h
theorem Kys.move {L : List Ky} (h : Kys w B A n L) (hk : ∀ q : Addr, q.block < B → w'.cell? q = w.cell? q) (hB : B ≤ B') : Kys w' B' A n L := Arr.move (fun _ _ _ hb h => KyAt.move hk hb h) hB h
theorem Las.move {L : List La} (h : Las w B A n L) (hk : ∀ q : Addr, q.block < B → w'.cell? q = w.cell? q) (hB : B ≤ B') : Las w' B' A n L := Arr.move (fun _ _ _ hb h => LaAt.move hk hB hb h) hB h
theorem Hds.below {L : List Hd} (h : Hds w B A n L) (hb : Below B w w') : Hds w' B A n L := h.move (fun _ hp => hb.cell hp) (Nat.le_refl _)
theorem Kys.below {L : List Ky} (h : Kys w B A n L) (hb : Below B w w') : Kys w' B A n L := h.move (fun _ hp => hb.cell hp) (Nat.le_refl _)
theorem Las.below {L : List La} (h : Las w B A n L) (hb : Below B w w') : Las w' B A n L := h.move (fun _ hp => hb.cell hp) (Nat.le_refl _)
theorem Hds.alloc {L : List Hd} (h : Hds w B A n L) (hB : B ≤ w.heap.size) (o : Obj) : Hds (w.alloc o) B A n L := h.move (fun p hp => World.cell?_alloc_lt w o p (by omega)) (Nat.le_refl _)
theorem Kys.alloc {L : List Ky} (h : Kys w B A n L) (hB : B ≤ w.heap.size) (o : Obj) : Kys (w.alloc o) B A n L := h.move (fun p hp => World.cell?_alloc_lt w o p (by omega)) (Nat.le_refl _)
theorem Las.alloc {L : List La} (h : Las w B A n L) (hB : B ≤ w.heap.size) (o : Obj) : Las (w.alloc o) B A n L := h.move (fun p hp => World.cell?_alloc_lt w o p (by omega)) (Nat.le_refl _)
theorem Hds.more {L : List Hd} (h : Hds w B A n L) (hB : B ≤ B') : Hds w B' A n L := h.move (fun _ _ => rfl) hB
theorem Kys.more {L : List Ky} (h : Kys w B A n L) (hB : B ≤ B') : Kys w B' A n L := h.move (fun _ _ => rfl) hB
theorem Las.more {L : List La} (h : Las w B A n L) (hB : B ≤ B') : Las w B' A n L := h.move (fun _ _ => rfl) hB
end
theorem take_snocA {α : Type} (l : List α) (k : Nat) (x : α) (hx : l[k]? = some x) : l.take (k + 1) = l.take k ++ [x] := by
  have hk : k < l.length := (List.getElem?_eq_some_iff.1 hx).1
  have e : l[k] = x := (List.getElem?_eq_some_iff.1 hx).2
  rw [List.take_succ_eq_append_getElem hk, e]

/-- Are heads alike? -/
def sameHd (a b : Hd) : Bool := decide (a.age = b.age) && (decide (a.kind = b.kind) && (decide (a.id = b.id) && (decide (a.adv = b.adv) && (decide (a.seq = b.seq) && (decide (a.sum = b.sum) && decide (a.long = b.long))))))
theorem sameHd_iff (a b : Hd) : sameHd a b = true ↔ a = b := by
  cases a; cases b
  simp [sameHd]
end Go.Proofs.Ytjinleakjkbbgaa
namespace Go.Proofs.Ytjinleakjkbbgaa
open Go.RowKit

/-- A slice's three parts. -/
structure Sv where
  a : Option Addr
  n : Nat
  c : Nat
/-- A description as it lies in memory. -/
structure Rc where
  h : Hd
  p : Sv
  q : Sv
def Rc.cells (r : Rc) : List Value := [.int .i64 r.h.age, .int .i64 r.h.kind, .int .i64 r.h.id, .int .i64 r.h.adv, .int .i64 r.h.seq, .int .i64 r.h.sum, .int .i64 r.h.long, .slice r.p.a r.p.n r.p.c, .slice r.q.a r.q.n r.q.c]
def keyH (h : Hd) : Ky := ⟨h.kind, h.id, h.adv⟩
/-- Are keys alike? -/
def sameKy (a b : Ky) : Bool := decide (a.kind = b.kind) && (decide (a.id = b.id) && decide (a.adv = b.adv))
theorem sameKy_iff (a b : Ky) : sameKy a b = true ↔ a = b := by
  cases a; cases b
  simp [sameKy]
/-- Are keys in order? -/
def lessKy (a b : Ky) : Bool := if a.kind ≠ b.kind then decide (a.kind < b.kind) else if a.id ≠ b.id then decide (a.id < b.id) else decide (a.adv < b.adv)

/-- Nine cells from place p of block b on. -/
def RcAt (w : World) (b p : Nat) (r : Rc) : Prop := ∀ i, i < 9 → w.cell? ⟨b, p + i, none⟩ = r.cells[i]?
theorem RcAt.nine {w : World} {b p : Nat} {r : Rc} (h : RcAt w b p r) :
    w.cell? ⟨b, p, none⟩ = some (.int .i64 r.h.age) ∧ w.cell? ⟨b, p + 1, none⟩ = some (.int .i64 r.h.kind) ∧ w.cell? ⟨b, p + 2, none⟩ = some (.int .i64 r.h.id) ∧ w.cell? ⟨b, p + 3, none⟩ = some (.int .i64 r.h.adv) ∧ w.cell? ⟨b, p + 4, none⟩ = some (.int .i64 r.h.seq) ∧ w.cell? ⟨b, p + 5, none⟩ = some (.int .i64 r.h.sum) ∧ w.cell? ⟨b, p + 6, none⟩ = some (.int .i64 r.h.long) ∧ w.cell? ⟨b, p + 7, none⟩ = some (.slice r.p.a r.p.n r.p.c) ∧ w.cell? ⟨b, p + 8, none⟩ = some (.slice r.q.a r.q.n r.q.c) :=
  ⟨h 0 (by omega), h 1 (by omega), h 2 (by omega), h 3 (by omega), h 4 (by omega), h 5 (by omega), h 6 (by omega), h 7 (by omega), h 8 (by omega)⟩
theorem RcAt.range {w : World} {b p : Nat} {r : Rc} (h : RcAt w b p r) : w.rangeAt b p r.cells := fun j v hj => by
  have hl : j < 9 := by
    have := (List.getElem?_eq_some_iff.1 hj).1
    simpa [Rc.cells] using this
  exact (h j hl).trans hj
theorem RcAt.below {w w' : World} {B b p : Nat} {r : Rc} (h : RcAt w b p r) (hb : Below B w w') (hlt : b < B) : RcAt w' b p r := fun i hi => (hb.cell (p := ⟨b, p + i, none⟩) hlt).trans (h i hi)

/-- A slice of keys, and its keys in memory. -/
def kyCells (K : List Ky) : List Value := K.flatMap fun k => [.int .i64 k.kind, .int .i64 k.id, .int .i64 k.adv]
theorem kyCells_cons (k : Ky) (K : List Ky) : kyCells (k :: K) = [.int .i64 k.kind, .int .i64 k.id, .int .i64 k.adv] ++ kyCells K := rfl
theorem kyCells_length (K : List Ky) : (kyCells K).length = K.length * 3 := by
  induction K with
  | nil => rfl
  | cons r R ih => rw [kyCells_cons, List.length_append, ih]; simp; omega
theorem wpList_load_row {ops : Array Oper} {rest : List Oper} {op : Oper} {a : Act} {w : World} {Q : Exit → Act → World → Prop} {b o : Nat} (ty : TypeId) (cs : List Value) (d : TypeDesc) (hw : Region.wanted op (yielded ops a.tmps) = true) (x : Operand) (ho : op.op = .load ty x)
    (hx : a.eval x = .pointer (some ⟨b, o, none⟩)) (hc : w.rangeAt b o cs) (hu : Try.prog.underlying ty = some d) (hd : d.isRow = true) (hi : (Try.prog.info? ty).map (·.size) = some cs.length) (h : wpList Try.prog ops Q rest (a.put op.dst (.agg cs.toArray)) w) : wpList Try.prog ops Q (op :: rest) a w :=
  wpList_step fun K hK => by
    rw [if_pos hw]
    exact wp_load_mid ty x ho b o hx cs d hc hu hd hi (hK _ _ h)
theorem Blk.three {w : World} {g : Nat} {t : TypeId} {a0 a1 a2 : Value} (h : Blk w g t #[a0, a1, a2]) : w.cell? ⟨g, 0, none⟩ = some a0 ∧ w.cell? ⟨g, 1, none⟩ = some a1 ∧ w.cell? ⟨g, 2, none⟩ = some a2 := ⟨h.cell 0, h.cell 1, h.cell 2⟩
end Go.Proofs.Ytjinleakjkbbgaa
namespace Go.Proofs.Ytjinleakjkbbgaa
open Go.RowKit

theorem own_keeps7 {w w' : World} {b : Nat} {t : TypeId} {size n : Nat} {v : Value} {xs : List Value} (ho : w.ownsRow b t size v n xs) (hg : w.grownBy w' v.ownBlock) (hb : b ≤ w.heap.size) : Below b w w' :=
  (Below.refl b w).grown hg hb fun k hk => by
    rcases ho.2 with ⟨rfl, _⟩ | ⟨g, _, _, rfl, hbg, _⟩
    · cases hk
    · simp [Value.ownBlock] at hk
      omega

/-- What lies in a new block, as a slice of one item. -/
theorem news_new (w : World) (t : TypeId) (cs : List Value) : ∀ ad, (some ⟨w.heap.size, 0, none⟩ : Option Addr) = some ad → ∀ j u, cs[j]? = some u → (w.alloc (.cells cs.toArray t)).cell? (ad.add j) = some u := by
  intro ad e j u hu
  injection e with e
  subst e
  rw [addr_add, Nat.zero_add, (Blk.new w t cs.toArray).cell]
  simpa using hu

end Go.Proofs.Ytjinleakjkbbgaa
namespace Go.Proofs.Ytjinleakjkbbgaa
open Go.RowKit

/-- A list with an item of key k ahead of the first greater one. -/
def insR (k : Ky) (x : Rc) : List Rc → List Rc
  | [] => [x]
  | r :: R => if lessKy k (keyH r.h) = true then x :: r :: R else r :: insR k x R
/-- Rows of unlike items lie apart. -/
theorem own_apart {w : World} {b b' n n' size size' : Nat} {t t' : TypeId} {v v' : Value} {xs xs' : List Value} (h : w.ownsRow b t size v n xs) (h' : w.ownsRow b' t' size' v' n' xs') (ht : t ≠ t') : v'.ownBlock = none ∨ v'.ownBlock ≠ v.ownBlock := by
  rcases h'.2 with ⟨rfl, _⟩ | ⟨g', cap', cur', rfl, _, hg', _⟩
  · exact .inl rfl
  · rcases h.2 with ⟨rfl, _⟩ | ⟨g, cap, cur, rfl, _, hg, _⟩
    · exact .inr (by simp [Value.ownBlock])
    · refine .inr (fun e => ?_)
      simp [Value.ownBlock] at e
      subst e
      rw [hg] at hg'
      injection hg' with hg'
      injection hg' with _ e2
      exact ht e2
/-- A description of the call's own: sealed, its lists in memory of their own. -/
def XOk (w : World) (lo : Nat) (h : Hd) (L : List Lk) (M : List Int) (x : Rc) : Prop :=
  x.h = sealHd h L M ∧ w.ownsRow lo 114 4 (.slice x.p.a x.p.n x.p.c) x.p.n (lkCells L) ∧ L.length = x.p.n ∧ w.ownsRow lo 3 1 (.slice x.q.a x.q.n x.q.c) x.q.n (M.map (Value.int .i64)) ∧ M.length = x.q.n
theorem XOk.below {w w' : World} {lo : Nat} {h : Hd} {L : List Lk} {M : List Int} {x : Rc} (hx : XOk w lo h L M x) (hb : Below w.heap.size w w') : XOk w' lo h L M x := ⟨hx.1, own_below2 hx.2.1 hb, hx.2.2.1, own_below2 hx.2.2.2.1 hb, hx.2.2.2.2⟩
theorem XOk.alloc {w : World} {lo : Nat} {h : Hd} {L : List Lk} {M : List Int} {x : Rc} (hx : XOk w lo h L M x) (o : Obj) : XOk (w.alloc o) lo h L M x := ⟨hx.1, hx.2.1.alloc o, hx.2.2.1, hx.2.2.2.1.alloc o, hx.2.2.2.2⟩
/-- .. while a list of descriptions grows. -/
theorem XOk.grown {w w' : World} {lo b n : Nat} {h : Hd} {L : List Lk} {M : List Int} {x : Rc} {v : Value} {xs : List Value} (hx : XOk w lo h L M x) (ho : w.ownsRow b 62 9 v n xs) (hg : w.grownBy w' v.ownBlock) : XOk w' lo h L M x :=
  ⟨hx.1, hx.2.1.kept hg (own_apart ho hx.2.1 (by decide)), hx.2.2.1, hx.2.2.2.1.kept hg (own_apart ho hx.2.2.2.1 (by decide)), hx.2.2.2.2⟩
/-- Of a list R the first j items have been taken over; f: x has been laid in. -/
def Mid (w : World) (lo : Nat) (h : Hd) (L : List Lk) (M : List Int) (k : Ky) (R : List Rc) (j : Nat) (f : Bool) (xs : List Rc) : Prop :=
  (f = false → xs = R.take j ∧ ∀ (m : Nat) (y : Rc), m < j → R[m]? = some y → lessKy k (keyH y.h) = false) ∧ (f = true → ∃ x, XOk w lo h L M x ∧ xs ++ R.drop j = insR k x R)
section
variable {w w' : World} {lo : Nat} {h : Hd} {L : List Lk} {M : List Int} {k : Ky} {R xs : List Rc} {j : Nat} {f : Bool}
theorem Mid.start : Mid w lo h L M k R 0 false [] := by
  refine ⟨fun _ => ⟨by simp, fun m y hm _ => absurd hm (by omega)⟩, fun e => ?_⟩
  cases e
theorem Mid.move (hm : Mid w lo h L M k R j f xs) (hx : ∀ x, XOk w lo h L M x → XOk w' lo h L M x) : Mid w' lo h L M k R j f xs :=
  ⟨hm.1, fun e => by
    obtain ⟨x, h1, h2⟩ := hm.2 e
    exact ⟨x, hx x h1, h2⟩⟩
theorem Mid.no {r : Rc} (hm : Mid w lo h L M k R j f xs) (hr : R[j]? = some r) (hn : (!f && lessKy k (keyH r.h)) = false) : Mid w lo h L M k R (j + 1) f (xs ++ [r]) := by
  have hj := (List.getElem?_eq_some_iff.1 hr).1
  have er := (List.getElem?_eq_some_iff.1 hr).2
  refine ⟨fun e => ?_, fun e => ?_⟩
  · obtain ⟨h1, h2⟩ := hm.1 e
    rw [e] at hn
    refine ⟨by rw [h1, List.take_succ_eq_append_getElem hj, er], fun m y hmj hy => ?_⟩
    by_cases hmj' : m = j
    · subst hmj'
      rw [hr] at hy
      injection hy with hy
      subst hy
      simpa using hn
    · exact h2 m y (by omega) hy
  · obtain ⟨x, h1, h2⟩ := hm.2 e
    refine ⟨x, h1, ?_⟩
    rw [← h2, List.append_assoc, List.drop_eq_getElem_cons hj, er]
    rfl
end
end Go.Proofs.Ytjinleakjkbbgaa
namespace Go.Proofs.Ytjinleakjkbbgaa

theorem lessKy_iff (a b : Ky) : lessKy a b = true ↔ a.kind < b.kind ∨ (a.kind = b.kind ∧ (a.id < b.id ∨ (a.id = b.id ∧ a.adv < b.adv))) := by
  unfold lessKy
  by_cases h1 : a.kind = b.kind
  · rw [if_neg (by simp [h1])]
    by_cases h2 : a.id = b.id
    · rw [if_neg (by simp [h2]), decide_eq_true_iff]
      omega
    · rw [if_pos h2, decide_eq_true_iff]
      omega
  · rw [if_pos h1, decide_eq_true_iff]
    omega
theorem lessKy_irrefl (a : Ky) : lessKy a a = false := by
  cases h : lessKy a a
  · rfl
  · rw [lessKy_iff] at h
    omega
theorem lessKy_trans {a b c : Ky} (h1 : lessKy a b = true) (h2 : lessKy b c = true) : lessKy a c = true := by
  rw [lessKy_iff] at h1 h2 ⊢
  omega
/-- Two lists, item by item. -/
def All2 {α β : Type} (P : α → β → Prop) (R : List α) (S : List β) : Prop := R.length = S.length ∧ ∀ (j : Nat) (r : α) (x : β), R[j]? = some r → S[j]? = some x → P r x
section
variable {α β : Type} {P Q : α → β → Prop}
theorem All2.nil : All2 P [] [] := ⟨rfl, fun j r x h => by simp at h⟩
theorem All2.cons {r : α} {x : β} {R : List α} {S : List β} (h : P r x) (t : All2 P R S) : All2 P (r :: R) (x :: S) :=
  ⟨by simp [t.1], fun j r' x' h1 h2 => by
    cases j with
    | zero =>
      simp at h1 h2
      subst h1 h2
      exact h
    | succ j => exact t.2 j r' x' (by simpa using h1) (by simpa using h2)⟩
theorem All2.head {r : α} {x : β} {R : List α} {S : List β} (h : All2 P (r :: R) (x :: S)) : P r x ∧ All2 P R S :=
  ⟨h.2 0 r x (by simp) (by simp), by have := h.1; simp at this; exact this, fun j r' x' h1 h2 => h.2 (j + 1) r' x' (by simpa using h1) (by simpa using h2)⟩
theorem All2.at {R : List α} {S : List β} (h : All2 P R S) {j : Nat} {r : α} (hr : R[j]? = some r) : ∃ x, S[j]? = some x ∧ P r x := by
  have hj := (List.getElem?_eq_some_iff.1 hr).1
  have hs : S[j]? = some (S[j]'(by rw [← h.1]; exact hj)) := List.getElem?_eq_getElem _
  exact ⟨_, hs, h.2 j r _ hr hs⟩
theorem All2.map {γ δ : Type} {P' : γ → δ → Prop} {f : α → γ} {g : β → δ} {R : List α} {S : List β} (h : All2 P R S) (hi : ∀ r x, P r x → P' (f r) (g x)) : All2 P' (R.map f) (S.map g) := by
  induction R generalizing S with
  | nil =>
    cases S with
    | nil => exact ⟨rfl, fun j r x h => by simp at h⟩
    | cons x S => have := h.1; simp at this
  | cons r R ih =>
    cases S with
    | nil => have := h.1; simp at this
    | cons x S => exact All2.cons (hi _ _ h.head.1) (ih h.head.2)
end
/-- A description's key. -/
def kyL (x : La) : Ky := keyH x.h
def tickL (x : La) : La := if x.h.age < 60 then { x with h := { x.h with age := x.h.age + 1 } } else x
/-- In order. -/
def SortL (S : List La) : Prop := S.Pairwise fun a b => lessKy (kyL a) (kyL b) = true
theorem SortL.tail {x : La} {S : List La} (h : SortL (x :: S)) : SortL S := (List.pairwise_cons.1 h).2
theorem SortL.head {x : La} {S : List La} (h : SortL (x :: S)) : ∀ y ∈ S, lessKy (kyL x) (kyL y) = true := (List.pairwise_cons.1 h).1
end Go.Proofs.Ytjinleakjkbbgaa
namespace Go.Proofs.Ytjinleakjkbbgaa
open Go.RowKit

/-- Only blocks of F, and new ones, have turned. -/
structure Chg (F : Nat → Prop) (w w' : World) : Prop where
  os : w'.os = w.os
  tape : w'.tape = w.tape
  output : w'.output = w.output
  size : w.heap.size ≤ w'.heap.size
  block : ∀ k, k < w.heap.size → ¬ F k → w'.heap[k]? = w.heap[k]?
section
variable {F F' : Nat → Prop} {w w' w'' : World}
theorem Chg.refl (F : Nat → Prop) (w : World) : Chg F w w := ⟨rfl, rfl, rfl, Nat.le_refl _, fun _ _ _ => rfl⟩
theorem Chg.of_below (h : Below w.heap.size w w') : Chg F w w' := ⟨h.os, h.tape, h.output, h.size, fun k hk _ => h.block k hk⟩
theorem Chg.of_grown {row : Option Nat} (h : w.grownBy w' row) (hr : ∀ k, row = some k → F k) : Chg F w w' := ⟨h.os, h.tape, h.output, h.size, fun k hk hn => h.block k hk (fun e => hn (hr k e.symm))⟩
theorem Chg.to_below {B : Nat} (h : Chg F w w') (hF : ∀ k, F k → B ≤ k) (hB : B ≤ w.heap.size) : Below B w w' := ⟨h.os, h.tape, h.output, h.size, fun k hk => h.block k (by omega) (fun hf => by have := hF k hf; omega)⟩
/-- One change, and another one: F grows by new blocks alone. -/
theorem Chg.trans (h : Chg F w w') (h' : Chg F' w' w'') (hF : ∀ k, F' k → F k ∨ w.heap.size ≤ k) : Chg F w w'' :=
  ⟨h'.os.trans h.os, h'.tape.trans h.tape, h'.output.trans h.output, Nat.le_trans h.size h'.size, fun k hk hn => (h'.block k (Nat.lt_of_lt_of_le hk h.size) (fun hf => by
    rcases hF k hf with h1 | h1
    · exact hn h1
    · omega)).trans (h.block k hk hn)⟩
end
theorem own_chg {F : Nat → Prop} {w w' : World} {b n size : Nat} {t : TypeId} {v : Value} {xs : List Value} (ho : w.ownsRow b t size v n xs) (h : Chg F w w') (hv : ∀ q, v.ownBlock = some q → ¬ F q) : w'.ownsRow b t size v n xs := by
  refine ⟨ho.1, ?_⟩
  rcases ho.2 with hn | ⟨g, cap, cur, rfl, hb, hg, rest⟩
  · exact .inl hn
  · exact .inr ⟨g, cap, cur, rfl, hb, (h.block g (Array.getElem?_eq_some_iff.1 hg).1 (hv g rfl)).trans hg, rest⟩
theorem Blk.chg {F : Nat → Prop} {w w' : World} {g : Nat} {t : TypeId} {cs : Array Value} (hb : Blk w g t cs) (h : Chg F w w') (hF : ¬ F g) : Blk w' g t cs := (h.block g hb.lt hF).trans hb

/-- A description in memory of the call's own. -/
def RcIs (w : World) (lo : Nat) (r : Rc) (x : La) : Prop :=
  r.h = x.h ∧ w.ownsRow lo 114 4 (.slice r.p.a r.p.n r.p.c) r.p.n (lkCells x.L) ∧ x.L.length = r.p.n ∧ w.ownsRow lo 3 1 (.slice r.q.a r.q.n r.q.c) r.q.n (x.M.map (Value.int .i64)) ∧ x.M.length = r.q.n
/-- On which blocks it hangs. -/
def rcFoot (r : Rc) (q : Nat) : Prop := (Value.slice r.p.a r.p.n r.p.c).ownBlock = some q ∨ (Value.slice r.q.a r.q.n r.q.c).ownBlock = some q
theorem RcIs.chg {F : Nat → Prop} {w w' : World} {lo : Nat} {r : Rc} {x : La} (h : RcIs w lo r x) (hc : Chg F w w') (hf : ∀ q, rcFoot r q → ¬ F q) : RcIs w' lo r x :=
  ⟨h.1, own_chg h.2.1 hc (fun q hq => hf q (.inl hq)), h.2.2.1, own_chg h.2.2.2.1 hc (fun q hq => hf q (.inr hq)), h.2.2.2.2⟩
theorem RcIs.mono {w : World} {lo lo' : Nat} {r : Rc} {x : La} (h : RcIs w lo r x) (hl : lo' ≤ lo) : RcIs w lo' r x := ⟨h.1, own_low h.2.1 hl, h.2.2.1, own_low h.2.2.2.1 hl, h.2.2.2.2⟩
/-- Lists of a description lie in no block of a database, and of a list of descriptions. -/
theorem RcIs.apart {w : World} {lo b n : Nat} {r : Rc} {x : La} {v : Value} {xs : List Value} (h : RcIs w lo r x) (ho : w.ownsRow b 62 9 v n xs) {q : Nat} (hq : rcFoot r q) : v.ownBlock ≠ some q := by
  intro e
  rcases hq with hq | hq
  · rcases own_apart ho h.2.1 (by decide) with h1 | h1
    · rw [h1] at hq
      cases hq
    · exact h1 (hq.trans e.symm)
  · rcases own_apart ho h.2.2.2.1 (by decide) with h1 | h1
    · rw [h1] at hq
      cases hq
    · exact h1 (hq.trans e.symm)
theorem own_ne_blk {w : World} {b n size g : Nat} {t t' : TypeId} {v : Value} {xs : List Value} {cs : Array Value} (h : w.ownsRow b t size v n xs) (hB : Blk w g t' cs) (ht : t ≠ t') : v.ownBlock ≠ some g := by
  intro e
  rcases h.2 with ⟨rfl, _⟩ | ⟨q, cap, cur, rfl, _, hg, _⟩
  · cases e
  · injection e with e
    subst e
    have h1 : w.heap[q]? = some (.cells cs t' (0, 0)) := hB
    rw [h1] at hg
    injection hg with hg
    injection hg with _ hg
    exact ht hg.symm
end Go.Proofs.Ytjinleakjkbbgaa
