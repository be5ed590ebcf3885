/- Lists and descriptions that are alike: slices.Equal, Same, and the reference's Ints and Same. Conditions: the lists read alike. · Plain words for packets and databases, and memory of lists of structs: heads, keys and descriptions that a slice leads to. No conditions. · Descriptions as they lie in memory: a head and two slices; lists of them of a call's own. No conditions. · The small calls of the reference of databases: a description's key, keys in order, a new one, a key's place. No conditions. · The reference's search for a key, and lists of keys that are alike. Conditions: at most 1000 items. · The reference's lists that are alike: of keys, and of descriptions. Conditions: the slices read so. -/
import Derived.Deep.MidRow
import Derived.IntWalk
import Derived.Deep.RegionHeld3
import Derived.Test.YtnnkcgbnhjkahaaJah
import Derived.Test.YtnnkcgbnhjkahaaJai
namespace Go.Proofs.Ytnnkcgbnhjkahaa
open Go.RowKit

set_option maxRecDepth 4000 in
set_option maxHeartbeats 2000000 in
theorem refInts_yes (A A' : Option Addr) (n c c' B B' : Nat) (M : List Int) (w : World) (hr : Row .i64 w B A n M) (hr' : Row .i64 w B' A' n M) (hn : n ≤ maxLen) :
    Calls Try.prog 71 #[.slice A n c, .slice A' n c'] w fun e w' => e = .returned (.bool true) ∧ ∃ d, w' = w.drewN d := by
  unfold maxLen at hn
  have HR := Lib.hid hr
  have HR' := Lib.hid hr'
  clear hr hr'
  go_enter Try.func71, Try.ntmps71
  go_wp2
  go_loopw [5] (fun i wr => ∃ k d : Nat, k ≤ n ∧ i = .int .i64 k ∧ wr = w.drewN d) (fun i _ => n - (intOf i).toNat)
  case atStart => exact ⟨0, 0, Nat.zero_le _, rfl, rfl⟩
  case round =>
    obtain ⟨k, d, hk, rfl, rfl⟩ := hrel
    by_cases hlt : k < n
    · obtain ⟨b, o, rfl, hb, hc⟩ := HR.out.2 (by omega)
      obtain ⟨b', o', rfl, hb', hc'⟩ := HR'.out.2 (by omega)
      have hx := hc k hlt
      have hy := hc' k hlt
      clear hc hc'
      have hlt' : (k : Int) < n := by omega
      go_wp2
      go_quiet (fail)
      go_wp2
      go_roundw
      case rel => exact ⟨k + 1, _, by omega, by go_num, rfl⟩
      case measure => simp [intOf]; omega
    · go_wp2
      go_ret
      exact ⟨rfl, _, rfl⟩
set_option maxRecDepth 4000 in
set_option maxHeartbeats 4000000 in
theorem refSame_yes (h : Hd) (L : List Lk) (M : List Int) (A A' A2 A2' : Option Addr) (n c n' c' c2 c2' B B2 : Nat) (w : World) (hL : Lnk w B A n L) (hM : Row .i64 w B A' n' M) (hL2 : Lnk w B2 A2 n L) (hM2 : Row .i64 w B2 A2' n' M) (hB : B ≤ w.heap.size) (hB2 : B2 ≤ w.heap.size) (hn : n ≤ maxLen) (hn' : n' ≤ maxLen) :
    Calls Try.prog 50 #[.agg #[.int .i64 h.age, .int .i64 h.kind, .int .i64 h.id, .int .i64 h.adv, .int .i64 h.seq, .int .i64 h.sum, .int .i64 h.long, .slice A n c, .slice A' n' c'], .agg #[.int .i64 h.age, .int .i64 h.kind, .int .i64 h.id, .int .i64 h.adv, .int .i64 h.seq, .int .i64 h.sum, .int .i64 h.long, .slice A2 n c2, .slice A2' n' c2']] w fun e w' => e = .returned (.bool true) ∧ Below w.heap.size w w' := by
  have HN := Lib.hid hn
  have HN' := Lib.hid hn'
  unfold maxLen at hn hn'
  have HL := Lib.hid ((hL.alloc hB (.cells #[.int .i64 h.age, .int .i64 h.kind, .int .i64 h.id, .int .i64 h.adv, .int .i64 h.seq, .int .i64 h.sum, .int .i64 h.long, .slice A n c, .slice A' n' c'] 62)).alloc (by simp; omega) (.cells #[.int .i64 h.age, .int .i64 h.kind, .int .i64 h.id, .int .i64 h.adv, .int .i64 h.seq, .int .i64 h.sum, .int .i64 h.long, .slice A2 n c2, .slice A2' n' c2'] 62))
  have HM := Lib.hid ((hM.alloc hB (.cells #[.int .i64 h.age, .int .i64 h.kind, .int .i64 h.id, .int .i64 h.adv, .int .i64 h.seq, .int .i64 h.sum, .int .i64 h.long, .slice A n c, .slice A' n' c'] 62)).alloc (by simp; omega) (.cells #[.int .i64 h.age, .int .i64 h.kind, .int .i64 h.id, .int .i64 h.adv, .int .i64 h.seq, .int .i64 h.sum, .int .i64 h.long, .slice A2 n c2, .slice A2' n' c2'] 62))
  have HL2 := Lib.hid ((hL2.alloc hB2 (.cells #[.int .i64 h.age, .int .i64 h.kind, .int .i64 h.id, .int .i64 h.adv, .int .i64 h.seq, .int .i64 h.sum, .int .i64 h.long, .slice A n c, .slice A' n' c'] 62)).alloc (by simp; omega) (.cells #[.int .i64 h.age, .int .i64 h.kind, .int .i64 h.id, .int .i64 h.adv, .int .i64 h.seq, .int .i64 h.sum, .int .i64 h.long, .slice A2 n c2, .slice A2' n' c2'] 62))
  have HM2 := Lib.hid ((hM2.alloc hB2 (.cells #[.int .i64 h.age, .int .i64 h.kind, .int .i64 h.id, .int .i64 h.adv, .int .i64 h.seq, .int .i64 h.sum, .int .i64 h.long, .slice A n c, .slice A' n' c'] 62)).alloc (by simp; omega) (.cells #[.int .i64 h.age, .int .i64 h.kind, .int .i64 h.id, .int .i64 h.adv, .int .i64 h.seq, .int .i64 h.sum, .int .i64 h.long, .slice A2 n c2, .slice A2' n' c2'] 62))
  have BW := Lib.hid (((Below.refl w.heap.size w).alloc (Nat.le_refl _) (.cells #[.int .i64 h.age, .int .i64 h.kind, .int .i64 h.id, .int .i64 h.adv, .int .i64 h.seq, .int .i64 h.sum, .int .i64 h.long, .slice A n c, .slice A' n' c'] 62)).alloc (by simp) (.cells #[.int .i64 h.age, .int .i64 h.kind, .int .i64 h.id, .int .i64 h.adv, .int .i64 h.seq, .int .i64 h.sum, .int .i64 h.long, .slice A2 n c2, .slice A2' n' c2'] 62))
  clear hL hM hL2 hM2
  go_enter Try.func50, Try.ntmps50
  go_wp2_with fail
  refine (refInts_yes A' A2' n' c' c2' B B2 M _ HM.out HM2.out HN'.out).mono ?_
  rintro e2 w2 ⟨rfl, d2, rfl⟩
  have K1 := Lib.hid ((Blk.new w 62 #[.int .i64 h.age, .int .i64 h.kind, .int .i64 h.id, .int .i64 h.adv, .int .i64 h.seq, .int .i64 h.sum, .int .i64 h.long, .slice A n c, .slice A' n' c']).alloc (.cells #[.int .i64 h.age, .int .i64 h.kind, .int .i64 h.id, .int .i64 h.adv, .int .i64 h.seq, .int .i64 h.sum, .int .i64 h.long, .slice A2 n c2, .slice A2' n' c2'] 62))
  have K2 := Lib.hid (blk_new1 w (.cells #[.int .i64 h.age, .int .i64 h.kind, .int .i64 h.id, .int .i64 h.adv, .int .i64 h.seq, .int .i64 h.sum, .int .i64 h.long, .slice A n c, .slice A' n' c'] 62) 62 #[.int .i64 h.age, .int .i64 h.kind, .int .i64 h.id, .int .i64 h.adv, .int .i64 h.seq, .int .i64 h.sum, .int .i64 h.long, .slice A2 n c2, .slice A2' n' c2'])
  go_wp2_with fail
  generalize (w.alloc (.cells #[.int .i64 h.age, .int .i64 h.kind, .int .i64 h.id, .int .i64 h.adv, .int .i64 h.seq, .int .i64 h.sum, .int .i64 h.long, .slice A n c, .slice A' n' c'] 62)).alloc (.cells #[.int .i64 h.age, .int .i64 h.kind, .int .i64 h.id, .int .i64 h.adv, .int .i64 h.seq, .int .i64 h.sum, .int .i64 h.long, .slice A2 n c2, .slice A2' n' c2'] 62) = w0 at *
  go_loopw [5] (fun i wr => ∃ k d : Nat, k ≤ n ∧ i = .int .i64 k ∧ wr = w0.drewN d) (fun i _ => n - (intOf i).toNat)
  case atStart => exact ⟨0, _, Nat.zero_le _, rfl, rfl⟩
  case round =>
    obtain ⟨k, d, hk, rfl, rfl⟩ := hrel
    obtain ⟨k0, k1, k2, k3, k4, k5, k6, k7, k8⟩ := K1.out.nine
    obtain ⟨j0, j1, j2, j3, j4, j5, j6, j7, j8⟩ := K2.out.nine
    clear k0 k1 k2 k3 k4 k5 k6 k8 j0 j1 j2 j3 j4 j5 j6 j8
    by_cases hlt : k < n
    · obtain ⟨b, o, rfl, hb, hc⟩ := HL.out.2 (by omega)
      obtain ⟨b', o', rfl, hb', hc'⟩ := HL2.out.2 (by omega)
      obtain ⟨x0, x1, x2, x3⟩ := hc k hlt
      obtain ⟨y0, y1, y2, y3⟩ := hc' k hlt
      generalize L.getD k ⟨0, 0, 0, 0⟩ = kk at *
      clear hc hc'
      have hlt' : (k : Int) < n := by omega
      go_wp2
      go_quiet (fail)
      go_wp2
      go_roundw
      case rel => exact ⟨k + 1, _, by omega, by go_num, rfl⟩
      case measure => simp [intOf]; omega
    · go_wp2
      go_ret
      exact ⟨rfl, below_drewN BW.out _⟩
end Go.Proofs.Ytnnkcgbnhjkahaa
namespace Go.Proofs.Ytnnkcgbnhjkahaa
open Go.RowKit

/-- A key. -/
structure Ky where
  kind : Int
  id : Int
  adv : Int
/-- A description. -/
structure La where
  h : Hd
  L : List Lk
  M : List Int

/-- A slice value '.slice A n c' whose elements, of sz cells each, are L, as P tells; what it leads to lies below block B. -/
def Arr {α : Type} (sz : Nat) (P : World → Nat → Nat → Nat → α → Prop) (w : World) (B : Nat) (A : Option Addr) (n : Nat) (L : List α) : Prop :=
  L.length = n ∧ (0 < n → ∃ b o, A = some ⟨b, o, none⟩ ∧ b < B ∧ ∀ j x, L[j]? = some x → P w B b (o + j * sz) x)
/-- From place p of block b on there lies the head h. -/
def HdAt (w : World) (_B b p : Nat) (h : Hd) : Prop :=
  w.cell? ⟨b, p, none⟩ = some (.int .i64 h.age) ∧ w.cell? ⟨b, p + 1, none⟩ = some (.int .i64 h.kind) ∧ w.cell? ⟨b, p + 2, none⟩ = some (.int .i64 h.id) ∧ w.cell? ⟨b, p + 3, none⟩ = some (.int .i64 h.adv) ∧ w.cell? ⟨b, p + 4, none⟩ = some (.int .i64 h.seq) ∧ w.cell? ⟨b, p + 5, none⟩ = some (.int .i64 h.sum) ∧ w.cell? ⟨b, p + 6, none⟩ = some (.int .i64 h.long)
def KyAt (w : World) (_B b p : Nat) (k : Ky) : Prop :=
  w.cell? ⟨b, p, none⟩ = some (.int .i64 k.kind) ∧ w.cell? ⟨b, p + 1, none⟩ = some (.int .i64 k.id) ∧ w.cell? ⟨b, p + 2, none⟩ = some (.int .i64 k.adv) ∧ -9223372036854775808 ≤ k.id ∧ k.id ≤ 9223372036854775807
def LaAt (w : World) (B b p : Nat) (x : La) : Prop :=
  HdAt w B b p x.h ∧ ∃ A n c A' n' c', w.cell? ⟨b, p + 7, none⟩ = some (.slice A n c) ∧ w.cell? ⟨b, p + 8, none⟩ = some (.slice A' n' c') ∧ Lnk w B A n x.L ∧ Row .i64 w B A' n' x.M ∧ n ≤ maxLen ∧ n' ≤ maxLen
section
variable {α : Type} {sz : Nat} {P : World → Nat → Nat → Nat → α → Prop} {w w' : World} {B B' n : Nat} {A : Option Addr} {L : List α}
theorem Arr.nil : Arr sz P w B A 0 [] := ⟨rfl, fun h => absurd h (by omega)⟩
theorem Arr.move (hP : ∀ b p x, b < B → P w B b p x → P w' B' b p x) (hB : B ≤ B') (h : Arr sz P w B A n L) : Arr sz P w' B' A n L :=
  ⟨h.1, fun hn => by
    obtain ⟨b, o, e, hb, hc⟩ := h.2 hn
    exact ⟨b, o, e, by omega, fun j x hx => hP _ _ _ hb (hc j x hx)⟩⟩
theorem Arr.at (h : Arr sz P w B A n L) {j : Nat} (hj : j < n) : ∃ b o x, A = some ⟨b, o, none⟩ ∧ b < B ∧ L[j]? = some x ∧ P w B b (o + j * sz) x := by
  obtain ⟨b, o, e, hb, hc⟩ := h.2 (by omega)
  have hl := h.1
  have hx : L[j]? = some (L[j]'(by omega)) := List.getElem?_eq_getElem (by omega)
  exact ⟨b, o, _, e, hb, hx, hc j _ hx⟩
end
section
variable {w w' : World} {B B' b p : Nat}
theorem HdAt.move {x : Hd} (hk : ∀ q : Addr, q.block < B → w'.cell? q = w.cell? q) (hb : b < B) (h : HdAt w B b p x) : HdAt w' B' b p x :=
  ⟨(hk _ hb).trans h.1, (hk _ hb).trans h.2.1, (hk _ hb).trans h.2.2.1, (hk _ hb).trans h.2.2.2.1, (hk _ hb).trans h.2.2.2.2.1, (hk _ hb).trans h.2.2.2.2.2.1, (hk _ hb).trans h.2.2.2.2.2.2⟩
theorem KyAt.move {x : Ky} (hk : ∀ q : Addr, q.block < B → w'.cell? q = w.cell? q) (hb : b < B) (h : KyAt w B b p x) : KyAt w' B' b p x :=
  ⟨(hk _ hb).trans h.1, (hk _ hb).trans h.2.1, (hk _ hb).trans h.2.2.1, h.2.2.2⟩
theorem LaAt.move {x : La} (hk : ∀ q : Addr, q.block < B → w'.cell? q = w.cell? q) (hB : B ≤ B') (hb : b < B) (h : LaAt w B b p x) : LaAt w' B' b p x := by
  obtain ⟨h1, A, n, c, A', n', c', h2, h3, h4, h5, h6⟩ := h
  exact ⟨h1.move hk hb, A, n, c, A', n', c', (hk _ hb).trans h2, (hk _ hb).trans h3, (h4.keep hk).more hB, (h5.keep hk).more hB, h6⟩
end
/-- Heads, keys, descriptions. -/
def Hds (w : World) (B : Nat) (A : Option Addr) (n : Nat) (L : List Hd) : Prop := Arr 7 HdAt w B A n L
def Kys (w : World) (B : Nat) (A : Option Addr) (n : Nat) (L : List Ky) : Prop := Arr 3 KyAt w B A n L
def Las (w : World) (B : Nat) (A : Option Addr) (n : Nat) (L : List La) : Prop := Arr 9 LaAt w B A n L
section
variable {w w' : World} {B B' n : Nat} {A : Option Addr}
theorem Hds.move {L : List Hd} (h : Hds w B A n L) (hk : ∀ q : Addr, q.block < B → w'.cell? q = w.cell? q) (hB : B ≤ B') : Hds w' B' A n L := Arr.move (fun _ _ _ hb h => HdAt.move hk hb h) hB h
theorem Kys.move {L : List Ky} (h : Kys w B A n L) (hk : ∀ q : Addr, q.block < B → w'.cell? q = w.cell? q) (hB : B ≤ B') : Kys w' B' A n L := Arr.move (fun _ _ _ hb h => KyAt.move hk hb h) hB h
theorem Las.move {L : List La} (h : Las w B A n L) (hk : ∀ q : Addr, q.block < B → w'.cell? q = w.cell? q) (hB : B ≤ B') : Las w' B' A n L := Arr.move (fun _ _ _ hb h => LaAt.move hk hB hb h) hB h
theorem Hds.below {L : List Hd} (h : Hds w B A n L) (hb : Below B w w') : Hds w' B A n L := h.move (fun _ hp => hb.cell hp) (Nat.le_refl _)
theorem Kys.below {L : List Ky} (h : Kys w B A n L) (hb : Below B w w') : Kys w' B A n L := h.move (fun _ hp => hb.cell hp) (Nat.le_refl _)
theorem Las.below {L : List La} (h : Las w B A n L) (hb : Below B w w') : Las w' B A n L := h.move (fun _ hp => hb.cell hp) (Nat.le_refl _)
theorem Hds.alloc {L : List Hd} (h : Hds w B A n L) (hB : B ≤ w.heap.size) (o : Obj) : Hds (w.alloc o) B A n L := h.move (fun p hp => World.cell?_alloc_lt w o p (by omega)) (Nat.le_refl _)
theorem Kys.alloc {L : List Ky} (h : Kys w B A n L) (hB : B ≤ w.heap.size) (o : Obj) : Kys (w.alloc o) B A n L := h.move (fun p hp => World.cell?_alloc_lt w o p (by omega)) (Nat.le_refl _)
theorem Las.alloc {L : List La} (h : Las w B A n L) (hB : B ≤ w.heap.size) (o : Obj) : Las (w.alloc o) B A n L := h.move (fun p hp => World.cell?_alloc_lt w o p (by omega)) (Nat.le_refl _)
theorem Hds.more {L : List Hd} (h : Hds w B A n L) (hB : B ≤ B') : Hds w B' A n L := h.move (fun _ _ => rfl) hB
theorem Kys.more {L : List Ky} (h : Kys w B A n L) (hB : B ≤ B') : Kys w B' A n L := h.move (fun _ _ => rfl) hB
theorem Las.more {L : List La} (h : Las w B A n L) (hB : B ≤ B') : Las w B' A n L := h.move (fun _ _ => rfl) hB
end
theorem take_snocA {α : Type} (l : List α) (k : Nat) (x : α) (hx : l[k]? = some x) : l.take (k + 1) = l.take k ++ [x] := by
  have hk : k < l.length := (List.getElem?_eq_some_iff.1 hx).1
  have e : l[k] = x := (List.getElem?_eq_some_iff.1 hx).2
  rw [List.take_succ_eq_append_getElem hk, e]

theorem keepW {w0 w' : World} (hb : Below w0.heap.size w0 w') : Below w0.heap.size w0 w' ∧ (∀ b o, b < w0.heap.size → w'.cell? ⟨b, o, none⟩ = w0.cell? ⟨b, o, none⟩) :=
  ⟨hb, fun b o h => hb.cell (p := ⟨b, o, none⟩) h⟩
/-- Are heads alike? -/
def sameHd (a b : Hd) : Bool := decide (a.age = b.age) && (decide (a.kind = b.kind) && (decide (a.id = b.id) && (decide (a.adv = b.adv) && (decide (a.seq = b.seq) && (decide (a.sum = b.sum) && decide (a.long = b.long))))))
theorem sameHd_iff (a b : Hd) : sameHd a b = true ↔ a = b := by
  cases a; cases b
  simp [sameHd]
end Go.Proofs.Ytnnkcgbnhjkahaa
namespace Go.Proofs.Ytnnkcgbnhjkahaa
open Go.RowKit

/-- A slice's three parts. -/
structure Sv where
  a : Option Addr
  n : Nat
  c : Nat
/-- A description as it lies in memory. -/
structure Rc where
  h : Hd
  p : Sv
  q : Sv
def Rc.cells (r : Rc) : List Value := [.int .i64 r.h.age, .int .i64 r.h.kind, .int .i64 r.h.id, .int .i64 r.h.adv, .int .i64 r.h.seq, .int .i64 r.h.sum, .int .i64 r.h.long, .slice r.p.a r.p.n r.p.c, .slice r.q.a r.q.n r.q.c]
def rcCells (R : List Rc) : List Value := R.flatMap Rc.cells
def keyH (h : Hd) : Ky := ⟨h.kind, h.id, h.adv⟩
/-- Are keys alike? -/
def sameKy (a b : Ky) : Bool := decide (a.kind = b.kind) && (decide (a.id = b.id) && decide (a.adv = b.adv))
theorem sameKy_iff (a b : Ky) : sameKy a b = true ↔ a = b := by
  cases a; cases b
  simp [sameKy]
/-- Are keys in order? -/
def lessKy (a b : Ky) : Bool := if a.kind ≠ b.kind then decide (a.kind < b.kind) else if a.id ≠ b.id then decide (a.id < b.id) else decide (a.adv < b.adv)

theorem rcCells_cons (r : Rc) (R : List Rc) : rcCells (r :: R) = r.cells ++ rcCells R := rfl
theorem rcCells_append (R R' : List Rc) : rcCells (R ++ R') = rcCells R ++ rcCells R' := by simp [rcCells]
theorem rcCells_length (R : List Rc) : (rcCells R).length = R.length * 9 := by
  induction R with
  | nil => rfl
  | cons r R ih => rw [rcCells_cons, List.length_append, ih]; simp [Rc.cells]; omega
theorem rcCells_ones (R : List Rc) : ∀ u ∈ rcCells R, u.oneCell' = true := by
  induction R with
  | nil => intro u hu; cases hu
  | cons r R ih =>
    intro u hu
    rw [rcCells_cons, List.mem_append] at hu
    rcases hu with hu | hu
    · simp only [Rc.cells, List.mem_cons, List.not_mem_nil, or_false] at hu
      rcases hu with rfl | rfl | rfl | rfl | rfl | rfl | rfl | rfl | rfl <;> rfl
    · exact ih u hu
theorem rcCells_at (R : List Rc) : ∀ (j : Nat) (r : Rc), R[j]? = some r → ∀ i, i < 9 → (rcCells R)[j * 9 + i]? = r.cells[i]? := by
  induction R with
  | nil => intro j h hx; simp at hx
  | cons x l ih =>
    intro j h hx i hi
    rw [rcCells_cons]
    cases j with
    | zero =>
      simp at hx
      subst hx
      rw [List.getElem?_append_left (by simp [Rc.cells]; omega)]
      simp
    | succ j =>
      rw [List.getElem?_append_right (by simp [Rc.cells]; omega)]
      have e : (j + 1) * 9 + i - x.cells.length = j * 9 + i := by simp [Rc.cells]; omega
      rw [e]
      exact ih j h (by simpa using hx) i hi

/-- Nine cells from place p of block b on. -/
def RcAt (w : World) (b p : Nat) (r : Rc) : Prop := ∀ i, i < 9 → w.cell? ⟨b, p + i, none⟩ = r.cells[i]?
theorem RcAt.nine {w : World} {b p : Nat} {r : Rc} (h : RcAt w b p r) :
    w.cell? ⟨b, p, none⟩ = some (.int .i64 r.h.age) ∧ w.cell? ⟨b, p + 1, none⟩ = some (.int .i64 r.h.kind) ∧ w.cell? ⟨b, p + 2, none⟩ = some (.int .i64 r.h.id) ∧ w.cell? ⟨b, p + 3, none⟩ = some (.int .i64 r.h.adv) ∧ w.cell? ⟨b, p + 4, none⟩ = some (.int .i64 r.h.seq) ∧ w.cell? ⟨b, p + 5, none⟩ = some (.int .i64 r.h.sum) ∧ w.cell? ⟨b, p + 6, none⟩ = some (.int .i64 r.h.long) ∧ w.cell? ⟨b, p + 7, none⟩ = some (.slice r.p.a r.p.n r.p.c) ∧ w.cell? ⟨b, p + 8, none⟩ = some (.slice r.q.a r.q.n r.q.c) :=
  ⟨h 0 (by omega), h 1 (by omega), h 2 (by omega), h 3 (by omega), h 4 (by omega), h 5 (by omega), h 6 (by omega), h 7 (by omega), h 8 (by omega)⟩
theorem RcAt.range {w : World} {b p : Nat} {r : Rc} (h : RcAt w b p r) : w.rangeAt b p r.cells := fun j v hj => by
  have hl : j < 9 := by
    have := (List.getElem?_eq_some_iff.1 hj).1
    simpa [Rc.cells] using this
  exact (h j hl).trans hj
theorem RcAt.below {w w' : World} {B b p : Nat} {r : Rc} (h : RcAt w b p r) (hb : Below B w w') (hlt : b < B) : RcAt w' b p r := fun i hi => (hb.cell (p := ⟨b, p + i, none⟩) hlt).trans (h i hi)

/-- A list of descriptions of the call's own, item j of it. -/
theorem own_rc {w : World} {base n : Nat} {A : Option Addr} {c : Nat} {R : List Rc} (h : w.ownsRow base 62 9 (.slice A n c) n (rcCells R)) {j : Nat} {r : Rc} (hj : R[j]? = some r) :
    ∃ b, A = some ⟨b, 0, none⟩ ∧ base ≤ b ∧ b < w.heap.size ∧ n ≤ c ∧ c ≤ maxLen ∧ RcAt w b (j * 9) r := by
  have hl := h.1
  rw [rcCells_length] at hl
  have hjl := (List.getElem?_eq_some_iff.1 hj).1
  rcases h.2 with ⟨_, hn⟩ | ⟨g, cap, cur, hv, hb, hg, h1, h2, h3, h4⟩
  · omega
  · injection hv with e1 e2 e3
    subst e3
    refine ⟨g, e1, hb, (Array.getElem?_eq_some_iff.1 hg).1, h1, h2, fun i hi => ?_⟩
    have hB : Blk w g 62 cur := hg
    rw [hB.cell, ← rcCells_at R j r hj i hi, ← h4, List.getElem?_take, if_pos (by omega)]
    simp
/-- A slice of keys, and its keys in memory. -/
def kyCells (K : List Ky) : List Value := K.flatMap fun k => [.int .i64 k.kind, .int .i64 k.id, .int .i64 k.adv]
theorem kyCells_cons (k : Ky) (K : List Ky) : kyCells (k :: K) = [.int .i64 k.kind, .int .i64 k.id, .int .i64 k.adv] ++ kyCells K := rfl
theorem kyCells_append (K K' : List Ky) : kyCells (K ++ K') = kyCells K ++ kyCells K' := by simp [kyCells]
theorem kyCells_length (K : List Ky) : (kyCells K).length = K.length * 3 := by
  induction K with
  | nil => rfl
  | cons r R ih => rw [kyCells_cons, List.length_append, ih]; simp; omega
theorem kyCells_ones (K : List Ky) : ∀ u ∈ kyCells K, u.oneCell' = true := by
  induction K with
  | nil => intro u hu; cases hu
  | cons r R ih =>
    intro u hu
    rw [kyCells_cons, List.mem_append] at hu
    rcases hu with hu | hu
    · simp only [List.mem_cons, List.not_mem_nil, or_false] at hu
      rcases hu with rfl | rfl | rfl <;> rfl
    · exact ih u hu

theorem wpList_load_row {ops : Array Oper} {rest : List Oper} {op : Oper} {a : Act} {w : World} {Q : Exit → Act → World → Prop} {b o : Nat} (ty : TypeId) (cs : List Value) (d : TypeDesc) (hw : Region.wanted op (yielded ops a.tmps) = true) (x : Operand) (ho : op.op = .load ty x)
    (hx : a.eval x = .pointer (some ⟨b, o, none⟩)) (hc : w.rangeAt b o cs) (hu : Try.prog.underlying ty = some d) (hd : d.isRow = true) (hi : (Try.prog.info? ty).map (·.size) = some cs.length) (h : wpList Try.prog ops Q rest (a.put op.dst (.agg cs.toArray)) w) : wpList Try.prog ops Q (op :: rest) a w :=
  wpList_step fun K hK => by
    rw [if_pos hw]
    exact wp_load_mid ty x ho b o hx cs d hc hu hd hi (hK _ _ h)
/-- A description's load as the next operation of a plain region's list. -/
theorem wpList_load_rc {ops : Array Oper} {rest : List Oper} {op : Oper} {a : Act} {w : World} {Q : Exit → Act → World → Prop} {g p : Nat} {r : Rc} (hw : Region.wanted op (yielded ops a.tmps) = true) (x : Operand) (ho : op.op = .load 62 x)
    (hx : a.eval x = .pointer (some ⟨g, p, none⟩)) (hB : RcAt w g p r) (hn : wpList Try.prog ops Q rest (a.put op.dst (.agg #[.int .i64 r.h.age, .int .i64 r.h.kind, .int .i64 r.h.id, .int .i64 r.h.adv, .int .i64 r.h.seq, .int .i64 r.h.sum, .int .i64 r.h.long, .slice r.p.a r.p.n r.p.c, .slice r.q.a r.q.n r.q.c])) w) : wpList Try.prog ops Q (op :: rest) a w :=
  wpList_load_row 62 r.cells _ hw x ho hx hB.range Try.underlying62 rfl (by kernel_rfl) hn
theorem rcAt_blk {w : World} {g : Nat} {t : TypeId} {r : Rc} (h : Blk w g t #[.int .i64 r.h.age, .int .i64 r.h.kind, .int .i64 r.h.id, .int .i64 r.h.adv, .int .i64 r.h.seq, .int .i64 r.h.sum, .int .i64 r.h.long, .slice r.p.a r.p.n r.p.c, .slice r.q.a r.q.n r.q.c]) : RcAt w g 0 r := fun i _ => by
  rw [Nat.zero_add, h.cell]
  simp [Rc.cells]
theorem Blk.three {w : World} {g : Nat} {t : TypeId} {a0 a1 a2 : Value} (h : Blk w g t #[a0, a1, a2]) : w.cell? ⟨g, 0, none⟩ = some a0 ∧ w.cell? ⟨g, 1, none⟩ = some a1 ∧ w.cell? ⟨g, 2, none⟩ = some a2 := ⟨h.cell 0, h.cell 1, h.cell 2⟩
end Go.Proofs.Ytnnkcgbnhjkahaa
namespace Go.Proofs.Ytnnkcgbnhjkahaa
open Go.RowKit

theorem below_new2 (w : World) (o o2 : Obj) : Below w.heap.size w ((w.alloc o).alloc o2) := ((Below.refl _ _).alloc (Nat.le_refl _) o).alloc (by simp) o2

set_option maxRecDepth 8000 in
set_option maxHeartbeats 2000000 in
theorem r7key_any (r : Rc) (w : World) : Calls Try.prog 46 #[.agg #[.int .i64 r.h.age, .int .i64 r.h.kind, .int .i64 r.h.id, .int .i64 r.h.adv, .int .i64 r.h.seq, .int .i64 r.h.sum, .int .i64 r.h.long, .slice r.p.a r.p.n r.p.c, .slice r.q.a r.q.n r.q.c]] w
    fun e w' => e = .returned (.agg #[.int .i64 r.h.kind, .int .i64 r.h.id, .int .i64 r.h.adv]) ∧ Below w.heap.size w w' := by
  have B0 := Lib.hid (below_new2 w (.cells #[.int .i64 r.h.age, .int .i64 r.h.kind, .int .i64 r.h.id, .int .i64 r.h.adv, .int .i64 r.h.seq, .int .i64 r.h.sum, .int .i64 r.h.long, .slice r.p.a r.p.n r.p.c, .slice r.q.a r.q.n r.q.c] 62) (.cells #[.int .i64 r.h.kind, .int .i64 r.h.id, .int .i64 r.h.adv] 47))
  go_enter Try.func46, Try.ntmps46
  go_wp2
  refine bodyPost_ret (v := .agg #[.int .i64 r.h.kind, .int .i64 r.h.id, .int .i64 r.h.adv]) (by simp [results, Try.results46, go_sem, *]) rfl ?_
  exact ⟨rfl, B0.out⟩

set_option maxRecDepth 8000 in
set_option maxHeartbeats 2000000 in
theorem r7less_any (a b : Ky) (w : World) : Calls Try.prog 48 #[.agg #[.int .i64 a.kind, .int .i64 a.id, .int .i64 a.adv], .agg #[.int .i64 b.kind, .int .i64 b.id, .int .i64 b.adv]] w
    fun e w' => e = .returned (.bool (lessKy a b)) ∧ Below w.heap.size w w' := by
  generalize hv : lessKy a b = v
  have HV := Lib.hid hv
  clear hv
  have B0 := Lib.hid (below_new2 w (.cells #[.int .i64 a.kind, .int .i64 a.id, .int .i64 a.adv] 47) (.cells #[.int .i64 b.kind, .int .i64 b.id, .int .i64 b.adv] 47))
  go_enter Try.func48, Try.ntmps48
  by_cases h1 : a.kind = b.kind
  · have d1 : (a.kind != b.kind) = false := by simp [h1]
    by_cases h2 : a.id = b.id
    · have d2 : (a.id != b.id) = false := by simp [h2]
      have HC := Lib.hid (show decide (a.adv < b.adv) = v by rw [← HV.out, lessKy, if_neg (by simp [h1]), if_neg (by simp [h2])])
      clear h1 h2
      go_wp2
      go_ret
      exact ⟨ret_bool HC.out, B0.out⟩
    · have d2 : (a.id != b.id) = true := by simp [h2]
      have HC := Lib.hid (show decide (a.id < b.id) = v by rw [← HV.out, lessKy, if_neg (by simp [h1]), if_pos h2])
      clear h1 h2
      go_wp2
      go_ret
      exact ⟨ret_bool HC.out, B0.out⟩
  · have d1 : (a.kind != b.kind) = true := by simp [h1]
    have HC := Lib.hid (show decide (a.kind < b.kind) = v by rw [← HV.out, lessKy, if_pos h1])
    clear h1
    go_wp2
    go_ret
    exact ⟨ret_bool HC.out, B0.out⟩

/-- A database's room. -/
def roomOf (r : Int) : Int := if r < 1 then 1 else if 40 < r then 40 else r
theorem roomOf_bd (r : Int) : 1 ≤ roomOf r ∧ roomOf r ≤ 40 := by
  unfold roomOf
  repeat' split
  all_goals omega
set_option maxHeartbeats 1000000 in
theorem r7new_any (r : Int) (w : World) : Calls Try.prog 27 #[.int .i64 r] w
    fun e w' => e = .returned (.pointer (some ⟨w.heap.size, 0, none⟩)) ∧ Blk w' w.heap.size 68 #[.slice none 0 0, .int .i64 (roomOf r)] ∧ Below w.heap.size w w' := by
  generalize hv : roomOf r = v
  have HV := Lib.hid hv
  clear hv
  go_enter Try.func27, Try.ntmps27
  by_cases h1 : r < 1
  · obtain rfl : v = 1 := by rw [← HV.out, roomOf, if_pos h1]
    go_wp2
    go_ret
    exact ⟨rfl, Blk.new w _ _, (Below.refl _ _).alloc (Nat.le_refl _) _⟩
  · by_cases h2 : 40 < r
    · obtain rfl : v = 40 := by rw [← HV.out, roomOf, if_neg h1, if_pos h2]
      go_wp2
      go_ret
      exact ⟨rfl, Blk.new w _ _, (Below.refl _ _).alloc (Nat.le_refl _) _⟩
    · obtain rfl : v = r := by rw [← HV.out, roomOf, if_neg h1, if_neg h2]
      go_wp2
      go_ret
      exact ⟨rfl, Blk.new w _ _, (Below.refl _ _).alloc (Nat.le_refl _) _⟩
end Go.Proofs.Ytnnkcgbnhjkahaa
namespace Go.Proofs.Ytnnkcgbnhjkahaa
open Go.RowKit

/-- The place of a key in a list, from place i on; -1: there is none. -/
def findFrom (k : Ky) : List Rc → Nat → Int
  | [], _ => -1
  | r :: R, i => if sameKy (keyH r.h) k = true then (i : Int) else findFrom k R (i + 1)
def findR (R : List Rc) (k : Ky) : Int := findFrom k R 0
theorem findFrom_none {k : Ky} : ∀ {R : List Rc} {i : Nat}, (∀ r ∈ R, keyH r.h ≠ k) → findFrom k R i = -1
  | [], _, _ => rfl
  | r :: R, i, h => by
    unfold findFrom
    rw [if_neg (fun e => h r (by simp) ((sameKy_iff _ _).1 e))]
    exact findFrom_none fun x hx => h x (by simp [hx])
theorem findFrom_at {k : Ky} : ∀ {R : List Rc} {i j : Nat} {r : Rc}, R[j]? = some r → keyH r.h = k → (∀ m x, m < j → R[m]? = some x → keyH x.h ≠ k) → findFrom k R i = ((i + j : Nat) : Int)
  | [], _, _, _, h, _, _ => by simp at h
  | x :: R, i, 0, r, h, hk, _ => by
    simp at h
    subst h
    unfold findFrom
    rw [if_pos ((sameKy_iff _ _).2 hk)]
    rfl
  | x :: R, i, j + 1, r, h, hk, hn => by
    unfold findFrom
    rw [if_neg (fun e => hn 0 x (by omega) (by simp) ((sameKy_iff _ _).1 e)), findFrom_at (j := j) (r := r) (by simpa using h) hk (fun m y hm hy => hn (m + 1) y (by omega) (by simpa using hy))]
    congr 1
    omega
theorem findR_none {R : List Rc} {k : Ky} (h : ∀ r ∈ R, keyH r.h ≠ k) : findR R k = -1 := findFrom_none h
theorem findR_at {R : List Rc} {k : Ky} {j : Nat} {r : Rc} (h : R[j]? = some r) (hk : keyH r.h = k) (hn : ∀ m x, m < j → R[m]? = some x → keyH x.h ≠ k) : findR R k = (j : Int) := by
  have := findFrom_at (i := 0) h hk hn
  simpa [findR] using this
/-- Two keys: where they are unlike first. -/
theorem ky_cases (a b : Ky) : (a ≠ b ∧ (a.kind == b.kind) = false) ∨ (a ≠ b ∧ (a.kind == b.kind) = true ∧ (a.id == b.id) = false) ∨ (a ≠ b ∧ (a.kind == b.kind) = true ∧ (a.id == b.id) = true ∧ (a.adv == b.adv) = false) ∨ (a = b ∧ (a.kind == b.kind) = true ∧ (a.id == b.id) = true ∧ (a.adv == b.adv) = true) := by
  obtain ⟨a1, a2, a3⟩ := a
  obtain ⟨b1, b2, b3⟩ := b
  simp only [ne_eq, Ky.mk.injEq, beq_iff_eq, beq_eq_false_iff_ne]
  by_cases h1 : a1 = b1 <;> by_cases h2 : a2 = b2 <;> by_cases h3 : a3 = b3 <;> simp [h1, h2, h3]

set_option maxRecDepth 8000 in
set_option maxHeartbeats 4000000 in
theorem r7find_any (g : Nat) (A : Option Addr) (n c : Nat) (room : Int) (R : List Rc) (k : Ky) (base : Nat) (w : World) (hB : Blk w g 68 #[.slice A n c, .int .i64 room]) (hO : w.ownsRow base 62 9 (.slice A n c) n (rcCells R)) (hn : n ≤ 1000) :
    Calls Try.prog 31 #[.pointer (some ⟨g, 0, none⟩), .agg #[.int .i64 k.kind, .int .i64 k.id, .int .i64 k.adv]] w
    fun e w' => e = .returned (.int .i64 (findR R k)) ∧ Below w.heap.size w w' := by
  have hl := hO.1
  rw [rcCells_length] at hl
  generalize hv : findR R k = v
  have HV := Lib.hid hv
  have HO := Lib.hid hO
  have HB := Lib.hid hB
  have hgl := hB.lt
  clear hv hO hB
  have B0 := Lib.hid ((Below.refl w.heap.size w).alloc (Nat.le_refl _) (.cells #[.int .i64 k.kind, .int .i64 k.id, .int .i64 k.adv] 47))
  have K0 := Lib.hid (Blk.new w 47 #[.int .i64 k.kind, .int .i64 k.id, .int .i64 k.adv])
  go_enter Try.func31, Try.ntmps31
  go_upto_region 2 with fail
  generalize hw0 : w.alloc (.cells #[.int .i64 k.kind, .int .i64 k.id, .int .i64 k.adv] 47) = w0 at *
  have hs0 := B0.out.size
  have hlk := K0.out.lt
  have hgl0 : g < w0.heap.size := by omega
  clear hw0
  go_wp2_with fail
  go_loopw [5] (fun i wr => ∃ j : Nat, j ≤ n ∧ i = .int .i64 j ∧ Hid (∀ m x, m < j → R[m]? = some x → keyH x.h ≠ k) ∧ Hid (Below w0.heap.size w0 wr)) (fun i _ => n - (intOf i).toNat)
  case atStart => exact ⟨0, Nat.zero_le _, rfl, Lib.hid (fun _ _ h => absurd h (by omega)), Lib.hid (Below.refl _ _)⟩
  case round =>
    obtain ⟨j, hj, rfl, HNO, hb⟩ := hrel
    have hsz := hb.out.size
    have HBr := Lib.hid (HB.out.below (B0.out.trans (hb.out.mono hs0)) hgl)
    have c0 := HBr.out.cell 0
    have c1 := HBr.out.cell 1
    by_cases hlt : j < n
    · have hlt' : (j : Int) < n := by omega
      obtain ⟨r, hr⟩ : ∃ r, R[j]? = some r := ⟨R[j]'(by omega), List.getElem?_eq_getElem (by omega)⟩
      obtain ⟨b, rfl, -, hb1, hnc, hcm, hat⟩ := own_rc HO.out hr
      have HR := Lib.hid hr
      unfold maxLen at hcm
      have HAT := Lib.hid (hat.below (B0.out.trans (hb.out.mono hs0)) hb1)
      obtain ⟨k0, k1, k2, k3, k4, k5, k6, k7, k8⟩ := HAT.out.nine
      obtain ⟨y0, y1, y2⟩ := (K0.out.below hb.out hlk).three
      have p1 : g < wr.heap.size := by omega
      have p2 : b < wr.heap.size := by omega
      have p3 : w.heap.size < wr.heap.size := by omega
      have BR := Below.refl wr.heap.size wr
      clear hat hr
      have HNX := Lib.hid (show keyH r.h ≠ k → ∀ m x, m < j + 1 → R[m]? = some x → keyH x.h ≠ k from fun hne m x hm hx => by
        by_cases hmj : m = j
        · subst hmj
          rw [HR.out] at hx
          injection hx with hx
          subst hx
          exact hne
        · exact HNO.out m x (by omega) hx)
      rcases ky_cases (keyH r.h) k with ⟨hne, d1⟩ | ⟨hne, d1, d2⟩ | ⟨hne, d1, d2, d3⟩ | ⟨heq, d1, d2, d3⟩
      · have HN := Lib.hid hne
        clear hne
        dsimp only [keyH] at d1
        go_wp2_with fail
        go_region_held3 (fun w' => Below wr.heap.size wr w' ∧ (∀ b o, b < wr.heap.size → w'.cell? ⟨b, o, none⟩ = wr.cell? ⟨b, o, none⟩)) ((refine keepW ?_; first | with_reducible exact hB2q | with_reducible exact BR | with_reducible exact ⟨rfl, rfl, rfl, Nat.le_refl _, fun _ _ => rfl⟩))
          ((go_at_call 46; refine (r7key_any r _).mono ?_; rintro ea wa ⟨rfl, hba⟩; have hB2q := Below.trans (And.left ‹_›) (hba.mono (Below.size (And.left ‹_›)))))
        have BF := Lib.hid (hb.out.trans (hB2q.mono hsz))
        clear hB2q hba
        go_wp2
        go_roundw
        case rel => exact ⟨j + 1, by omega, by go_num, HNX.out HN.out, BF⟩
        case measure => simp [intOf]; omega
      · have HN := Lib.hid hne
        clear hne
        dsimp only [keyH] at d1 d2
        go_wp2_with fail
        go_region_held3 (fun w' => Below wr.heap.size wr w' ∧ (∀ b o, b < wr.heap.size → w'.cell? ⟨b, o, none⟩ = wr.cell? ⟨b, o, none⟩)) ((refine keepW ?_; first | with_reducible exact hB2q | with_reducible exact BR | with_reducible exact ⟨rfl, rfl, rfl, Nat.le_refl _, fun _ _ => rfl⟩))
          ((go_at_call 46; refine (r7key_any r _).mono ?_; rintro ea wa ⟨rfl, hba⟩; have hB2q := Below.trans (And.left ‹_›) (hba.mono (Below.size (And.left ‹_›)))))
        have BF := Lib.hid (hb.out.trans (hB2q.mono hsz))
        clear hB2q hba
        go_wp2
        go_roundw
        case rel => exact ⟨j + 1, by omega, by go_num, HNX.out HN.out, BF⟩
        case measure => simp [intOf]; omega
      · have HN := Lib.hid hne
        clear hne
        dsimp only [keyH] at d1 d2 d3
        go_wp2_with fail
        go_region_held3 (fun w' => Below wr.heap.size wr w' ∧ (∀ b o, b < wr.heap.size → w'.cell? ⟨b, o, none⟩ = wr.cell? ⟨b, o, none⟩)) ((refine keepW ?_; first | with_reducible exact hB2q | with_reducible exact BR | with_reducible exact ⟨rfl, rfl, rfl, Nat.le_refl _, fun _ _ => rfl⟩))
          ((go_at_call 46; refine (r7key_any r _).mono ?_; rintro ea wa ⟨rfl, hba⟩; have hB2q := Below.trans (And.left ‹_›) (hba.mono (Below.size (And.left ‹_›)))))
        have BF := Lib.hid (hb.out.trans (hB2q.mono hsz))
        clear hB2q hba
        go_wp2
        go_roundw
        case rel => exact ⟨j + 1, by omega, by go_num, HNX.out HN.out, BF⟩
        case measure => simp [intOf]; omega
      · have HE := Lib.hid (findR_at HR.out heq HNO.out)
        clear heq
        dsimp only [keyH] at d1 d2 d3
        go_wp2_with fail
        go_region_held3 (fun w' => Below wr.heap.size wr w' ∧ (∀ b o, b < wr.heap.size → w'.cell? ⟨b, o, none⟩ = wr.cell? ⟨b, o, none⟩)) ((refine keepW ?_; first | with_reducible exact hB2q | with_reducible exact BR | with_reducible exact ⟨rfl, rfl, rfl, Nat.le_refl _, fun _ _ => rfl⟩))
          ((go_at_call 46; refine (r7key_any r _).mono ?_; rintro ea wa ⟨rfl, hba⟩; have hB2q := Below.trans (And.left ‹_›) (hba.mono (Below.size (And.left ‹_›)))))
        have BF := Lib.hid (hb.out.trans (hB2q.mono hsz))
        clear hB2q hba
        obtain rfl : v = (j : Int) := by rw [← HV.out]; exact HE.out
        go_wp2
        go_ret
        exact ⟨rfl, B0.out.trans (BF.out.mono hs0)⟩
    · have hE : v = -1 := by
        rw [← HV.out]
        refine findR_none fun r hr => ?_
        obtain ⟨m, hm⟩ := List.getElem?_of_mem hr
        exact HNO.out m r (by have := (List.getElem?_eq_some_iff.1 hm).1; omega) hm
      subst hE
      go_wp2
      go_ret
      exact ⟨rfl, B0.out.trans (hb.out.mono hs0)⟩
end Go.Proofs.Ytnnkcgbnhjkahaa
namespace Go.Proofs.Ytnnkcgbnhjkahaa
open Go.RowKit

set_option maxRecDepth 8000 in
set_option maxHeartbeats 4000000 in
theorem r7keys_yes (A A' : Option Addr) (n c c' B B' : Nat) (K : List Ky) (w : World) (hr : Kys w B A n K) (hr' : Kys w B' A' n K) (hn : n ≤ maxLen) :
    Calls Try.prog 17 #[.slice A n c, .slice A' n c'] w fun e w' => e = .returned (.bool true) ∧ ∃ d, w' = w.drewN d := by
  unfold maxLen at hn
  have HR := Lib.hid hr
  have HR' := Lib.hid hr'
  clear hr hr'
  have hnn : ((n : Int) != n) = false := by simp
  go_enter Try.func17, Try.ntmps17
  go_wp2
  go_loopw [5] (fun i wr => ∃ k d : Nat, k ≤ n ∧ i = .int .i64 k ∧ wr = w.drewN d) (fun i _ => n - (intOf i).toNat)
  case atStart => exact ⟨0, 0, Nat.zero_le _, rfl, rfl⟩
  case round =>
    obtain ⟨k, d, hk, rfl, rfl⟩ := hrel
    by_cases hlt : k < n
    · obtain ⟨b, o, x, rfl, hb, hx, hat⟩ := Arr.at HR.out hlt
      obtain ⟨b', o', y, rfl, hb', hy, hat'⟩ := Arr.at HR'.out hlt
      obtain rfl : x = y := by rw [hx] at hy; exact Option.some.inj hy
      obtain ⟨x0, x1, x2, -, -⟩ := hat
      obtain ⟨y0, y1, y2, -, -⟩ := hat'
      have hlt' : (k : Int) < n := by omega
      clear hx hy
      go_wp2
      go_quiet (fail)
      go_wp2
      go_roundw
      case rel => exact ⟨k + 1, _, by omega, by go_num, rfl⟩
      case measure => simp [intOf]; omega
    · go_wp2
      go_ret
      exact ⟨rfl, _, rfl⟩

set_option maxRecDepth 8000 in
set_option maxHeartbeats 8000000 in
theorem r7same_yes (A A' : Option Addr) (n c c' B B' : Nat) (S : List La) (w : World) (hr : Las w B A n S) (hr' : Las w B' A' n S) (hB : B ≤ w.heap.size) (hB' : B' ≤ w.heap.size) (hn : n ≤ maxLen) :
    Calls Try.prog 32 #[.slice A n c, .slice A' n c'] w fun e w' => e = .returned (.bool true) ∧ Below w.heap.size w w' := by
  unfold maxLen at hn
  have HR := Lib.hid hr
  have HR' := Lib.hid hr'
  clear hr hr'
  have hnn : ((n : Int) != n) = false := by simp
  go_enter Try.func32, Try.ntmps32
  go_wp2
  go_loopw [5] (fun i wr => ∃ k : Nat, k ≤ n ∧ i = .int .i64 k ∧ Hid (Below w.heap.size w wr)) (fun i _ => n - (intOf i).toNat)
  case atStart => exact ⟨0, Nat.zero_le _, rfl, Lib.hid (Below.refl _ _)⟩
  case round =>
    obtain ⟨k, hk, rfl, hb⟩ := hrel
    have hszr := hb.out.size
    by_cases hlt : k < n
    · obtain ⟨b, o, x, rfl, hbb, hx, hat⟩ := Arr.at (HR.out.below (hb.out.mono hB)) hlt
      obtain ⟨b', o', y, rfl, hbb', hy, hat'⟩ := Arr.at (HR'.out.below (hb.out.mono hB')) hlt
      obtain rfl : x = y := by rw [hx] at hy; exact Option.some.inj hy
      obtain ⟨⟨x0, x1, x2, x3, x4, x5, x6⟩, Ax, nx, cx, Ax', nx', cx', x7, x8, hLx, hMx, hnx, hnx'⟩ := hat
      obtain ⟨⟨y0, y1, y2, y3, y4, y5, y6⟩, Ay, ny, cy, Ay', ny', cy', y7, y8, hLy, hMy, hny, hny'⟩ := hat'
      obtain rfl : nx = ny := hLx.1.symm.trans hLy.1
      obtain rfl : nx' = ny' := hMx.1.symm.trans hMy.1
      have HLx := Lib.hid hLx
      have HMx := Lib.hid hMx
      have HLy := Lib.hid hLy
      have HMy := Lib.hid hMy
      have HNx := Lib.hid hnx
      have HNx' := Lib.hid hnx'
      have HBr := Lib.hid (show B ≤ wr.heap.size ∧ B' ≤ wr.heap.size by omega)
      have BR := (Below.refl wr.heap.size wr)
      clear hx hy hLx hMx hLy hMy hny hny' hnx hnx'
      have hlt' : (k : Int) < n := by omega
      have p3 : b < wr.heap.size := by omega
      have p4 : b' < wr.heap.size := by omega
      go_wp2_with fail
      go_region_held3 (fun w' => Below wr.heap.size wr w' ∧ (∀ b o, b < wr.heap.size → w'.cell? ⟨b, o, none⟩ = wr.cell? ⟨b, o, none⟩)) ((refine keepW ?_; first | with_reducible exact hB2q | with_reducible exact BR | with_reducible exact ⟨rfl, rfl, rfl, Nat.le_refl _, fun _ _ => rfl⟩))
        ((go_at_call 50; refine (refSame_yes x.h x.L x.M Ax Ax' Ay Ay' nx cx nx' cx' cy cy' B B' _ (HLx.out.below (Below.mono (And.left ‹_›) HBr.out.1)) (HMx.out.below (Below.mono (And.left ‹_›) HBr.out.1)) (HLy.out.below (Below.mono (And.left ‹_›) HBr.out.2)) (HMy.out.below (Below.mono (And.left ‹_›) HBr.out.2)) (Nat.le_trans HBr.out.1 (Below.size (And.left ‹_›))) (Nat.le_trans HBr.out.2 (Below.size (And.left ‹_›))) HNx.out HNx'.out).mono ?_; rintro ea wa ⟨rfl, hba⟩; have hB2q := Below.trans (And.left ‹_›) (hba.mono (Below.size (And.left ‹_›)))))
      have HB3 := Lib.hid (hb.out.trans (hB2q.mono hszr))
      go_wp2
      go_roundw
      case rel => exact ⟨k + 1, by omega, by go_num, HB3⟩
      case measure => simp [intOf]; omega
    · go_wp2
      go_ret
      exact ⟨rfl, hb.out⟩
end Go.Proofs.Ytnnkcgbnhjkahaa
