/- Plain words for packets and databases, and memory of lists of structs: heads, keys and descriptions that a slice leads to. No conditions. · Plain words of an exchange: what comes of a piece; two that hear each other. No program. · Plain facts on two that hear each other: what was taken, when both are done; of one that is done; of two of one number. No program. · A region that draws its order, whose head reads, and calls what reads, draws and lays blocks, and whose tail is of one order: of any program. No conditions. -/
import Derived.StillTail
import Derived.Shelf.SlSortCmp.QuietGrown
import Derived.Test.YtfdfdmbnggpnbaaVag
import Derived.Test.YtfdfdmbnggpnbaaVaf
namespace Go.Proofs.Ytfdfdmbnggpnbaa
open Go.RowKit

/-- A key. -/
structure Ky where
  kind : Int
  id : Int
  adv : Int
/-- A description. -/
structure La where
  h : Hd
  L : List Lk
  M : List Int

/-- A slice value '.slice A n c' whose elements, of sz cells each, are L, as P tells; what it leads to lies below block B. -/
def Arr {α : Type} (sz : Nat) (P : World → Nat → Nat → Nat → α → Prop) (w : World) (B : Nat) (A : Option Addr) (n : Nat) (L : List α) : Prop :=
  L.length = n ∧ (0 < n → ∃ b o, A = some ⟨b, o, none⟩ ∧ b < B ∧ ∀ j x, L[j]? = some x → P w B b (o + j * sz) x)
/-- From place p of block b on there lies the head h. -/
def HdAt (w : World) (_B b p : Nat) (h : Hd) : Prop :=
  w.cell? ⟨b, p, none⟩ = some (.int .i64 h.age) ∧ w.cell? ⟨b, p + 1, none⟩ = some (.int .i64 h.kind) ∧ w.cell? ⟨b, p + 2, none⟩ = some (.int .i64 h.id) ∧ w.cell? ⟨b, p + 3, none⟩ = some (.int .i64 h.adv) ∧ w.cell? ⟨b, p + 4, none⟩ = some (.int .i64 h.seq) ∧ w.cell? ⟨b, p + 5, none⟩ = some (.int .i64 h.sum) ∧ w.cell? ⟨b, p + 6, none⟩ = some (.int .i64 h.long)
def KyAt (w : World) (_B b p : Nat) (k : Ky) : Prop :=
  w.cell? ⟨b, p, none⟩ = some (.int .i64 k.kind) ∧ w.cell? ⟨b, p + 1, none⟩ = some (.int .i64 k.id) ∧ w.cell? ⟨b, p + 2, none⟩ = some (.int .i64 k.adv) ∧ -9223372036854775808 ≤ k.id ∧ k.id ≤ 9223372036854775807
def LaAt (w : World) (B b p : Nat) (x : La) : Prop :=
  HdAt w B b p x.h ∧ ∃ A n c A' n' c', w.cell? ⟨b, p + 7, none⟩ = some (.slice A n c) ∧ w.cell? ⟨b, p + 8, none⟩ = some (.slice A' n' c') ∧ Lnk w B A n x.L ∧ Row .i64 w B A' n' x.M ∧ n ≤ maxLen ∧ n' ≤ maxLen
section
variable {α : Type} {sz : Nat} {P : World → Nat → Nat → Nat → α → Prop} {w w' : World} {B B' n : Nat} {A : Option Addr} {L : List α}
theorem Arr.nil : Arr sz P w B A 0 [] := ⟨rfl, fun h => absurd h (by omega)⟩
theorem Arr.move (hP : ∀ b p x, b < B → P w B b p x → P w' B' b p x) (hB : B ≤ B') (h : Arr sz P w B A n L) : Arr sz P w' B' A n L :=
  ⟨h.1, fun hn => by
    obtain ⟨b, o, e, hb, hc⟩ := h.2 hn
    exact ⟨b, o, e, by omega, fun j x hx => hP _ _ _ hb (hc j x hx)⟩⟩
theorem Arr.at (h : Arr sz P w B A n L) {j : Nat} (hj : j < n) : ∃ b o x, A = some ⟨b, o, none⟩ ∧ b < B ∧ L[j]? = some x ∧ P w B b (o + j * sz) x := by
  obtain ⟨b, o, e, hb, hc⟩ := h.2 (by omega)
  have hl := h.1
  have hx : L[j]? = some (L[j]'(by omega)) := List.getElem?_eq_getElem (by omega)
  exact ⟨b, o, _, e, hb, hx, hc j _ hx⟩
end
section
variable {w w' : World} {B B' b p : Nat}
theorem HdAt.move {x : Hd} (hk : ∀ q : Addr, q.block < B → w'.cell? q = w.cell? q) (hb : b < B) (h : HdAt w B b p x) : HdAt w' B' b p x :=
  ⟨(hk _ hb).trans h.1, (hk _ hb).trans h.2.1, (hk _ hb).trans h.2.2.1, (hk _ hb).trans h.2.2.2.1, (hk _ hb).trans h.2.2.2.2.1, (hk _ hb).trans h.2.2.2.2.2.1, (hk _ hb).trans h.2.2.2.2.2.2⟩
theorem KyAt.move {x : Ky} (hk : ∀ q : Addr, q.block < B → w'.cell? q = w.cell? q) (hb : b < B) (h : KyAt w B b p x) : KyAt w' B' b p x :=
  ⟨(hk _ hb).trans h.1, (hk _ hb).trans h.2.1, (hk _ hb).trans h.2.2.1, h.2.2.2⟩
theorem LaAt.move {x : La} (hk : ∀ q : Addr, q.block < B → w'.cell? q = w.cell? q) (hB : B ≤ B') (hb : b < B) (h : LaAt w B b p x) : LaAt w' B' b p x := by
  obtain ⟨h1, A, n, c, A', n', c', h2, h3, h4, h5, h6⟩ := h
  exact ⟨h1.move hk hb, A, n, c, A', n', c', (hk _ hb).trans h2, (hk _ hb).trans h3, (h4.keep hk).more hB, (h5.keep hk).more hB, h6⟩
end
/-- Heads, keys, descriptions. -/
def Hds (w : World) (B : Nat) (A : Option Addr) (n : Nat) (L : List Hd) : Prop := Arr 7 HdAt w B A n L
def Kys (w : World) (B : Nat) (A : Option Addr) (n : Nat) (L : List Ky) : Prop := Arr 3 KyAt w B A n L
def Las (w : World) (B : Nat) (A : Option Addr) (n : Nat) (L : List La) : Prop := Arr 9 LaAt w B A n L
section
variable {w w' : World} {B B' n : Nat} {A : Option Addr}
theorem Hds.move {L : List Hd} (h : Hds w B A n L) (hk : ∀ q : Addr, q.block < B → w'.cell? q = w.cell? q) (hB : B ≤ B') : Hds w' B' A n L := Arr.move (fun _ _ _ hb h => HdAt.move hk hb h) hB h
theorem Kys.move {L : List Ky} (h : Kys w B A n L) (hk : ∀ q : Addr, q.block < B → w'.cell? q = w.cell? q) (hB : B ≤ B') : Kys w' B' A n L := Arr.move (fun _ _ _ hb h => KyAt.move hk hb h) hB h
theorem Las.move {L : List La} (h : Las w B A n L) (hk : ∀ q : Addr, q.block < B → w'.cell? q = w.cell? q) (hB : B ≤ B') : Las w' B' A n L := Arr.move (fun _ _ _ hb h => LaAt.move hk hB hb h) hB h
theorem Hds.below {L : List Hd} (h : Hds w B A n L) (hb : Below B w w') : Hds w' B A n L := h.move (fun _ hp => hb.cell hp) (Nat.le_refl _)
theorem Kys.below {L : List Ky} (h : Kys w B A n L) (hb : Below B w w') : Kys w' B A n L := h.move (fun _ hp => hb.cell hp) (Nat.le_refl _)
theorem Las.below {L : List La} (h : Las w B A n L) (hb : Below B w w') : Las w' B A n L := h.move (fun _ hp => hb.cell hp) (Nat.le_refl _)
theorem Hds.alloc {L : List Hd} (h : Hds w B A n L) (hB : B ≤ w.heap.size) (o : Obj) : Hds (w.alloc o) B A n L := h.move (fun p hp => World.cell?_alloc_lt w o p (by omega)) (Nat.le_refl _)
theorem Kys.alloc {L : List Ky} (h : Kys w B A n L) (hB : B ≤ w.heap.size) (o : Obj) : Kys (w.alloc o) B A n L := h.move (fun p hp => World.cell?_alloc_lt w o p (by omega)) (Nat.le_refl _)
theorem Las.alloc {L : List La} (h : Las w B A n L) (hB : B ≤ w.heap.size) (o : Obj) : Las (w.alloc o) B A n L := h.move (fun p hp => World.cell?_alloc_lt w o p (by omega)) (Nat.le_refl _)
theorem Hds.more {L : List Hd} (h : Hds w B A n L) (hB : B ≤ B') : Hds w B' A n L := h.move (fun _ _ => rfl) hB
theorem Kys.more {L : List Ky} (h : Kys w B A n L) (hB : B ≤ B') : Kys w B' A n L := h.move (fun _ _ => rfl) hB
theorem Las.more {L : List La} (h : Las w B A n L) (hB : B ≤ B') : Las w B' A n L := h.move (fun _ _ => rfl) hB
end
theorem take_snocA {α : Type} (l : List α) (k : Nat) (x : α) (hx : l[k]? = some x) : l.take (k + 1) = l.take k ++ [x] := by
  have hk : k < l.length := (List.getElem?_eq_some_iff.1 hx).1
  have e : l[k] = x := (List.getElem?_eq_some_iff.1 hx).2
  rw [List.take_succ_eq_append_getElem hk, e]

/-- Are heads alike? -/
def sameHd (a b : Hd) : Bool := decide (a.age = b.age) && (decide (a.kind = b.kind) && (decide (a.id = b.id) && (decide (a.adv = b.adv) && (decide (a.seq = b.seq) && (decide (a.sum = b.sum) && decide (a.long = b.long))))))
theorem sameHd_iff (a b : Hd) : sameHd a b = true ↔ a = b := by
  cases a; cases b
  simp [sameHd]
end Go.Proofs.Ytfdfdmbnggpnbaa
namespace Go.Proofs.Ytfdfdmbnggpnbaa
open Go.Lib

/-- What a piece is told apart by. -/
structure Pc where
  init : Bool
  more : Bool
  master : Bool
  seq : Int
deriving DecidableEq
/-- One side of an exchange; K is what of its heads is left to tell. -/
structure Ex where
  self : Int
  other : Int
  seq : Int
  agreed : Bool
  leads : Bool
  done : Bool
  took : Pc
  said : Pc
  K : List Hd
/-- One more, round at 2^32. -/
def up32 (q : Int) : Int := (q + 1) % 4294967296
def pc0 : Pc := ⟨false, false, false, 0⟩
def newE (self other seq : Int) : Ex := ⟨self, other, seq % 4294967296, false, false, false, pc0, ⟨true, true, true, seq % 4294967296⟩, []⟩
def okSeq (q : Int) : Bool := decide (0 ≤ q) && decide (q < 4294967296)
def agreesE (x : Ex) (p : Pc) (n : Nat) : Bool :=
  if x.self < x.other then p.init && p.more && p.master && decide (n = 0)
  else decide (x.other < x.self) && !p.init && !p.master && decide (p.seq = x.seq)
def sayE (x : Ex) : Ex := { x with said := ⟨false, decide (3 < x.K.length), x.leads, x.seq⟩ }
def takeE (x : Ex) (p : Pc) : Ex := { x with took := p, seq := if x.leads then up32 p.seq else p.seq }
def beginE (x : Ex) (p : Pc) (K : List Hd) : Ex := sayE (takeE { x with agreed := true, leads := decide (x.other < x.self), K := K } p)
def fitsE (x : Ex) (p : Pc) : Bool := !x.done && !p.init && (p.master != x.leads) && decide (p.seq = if x.leads then x.seq else up32 x.seq)
def stepE (x : Ex) : Ex := sayE { x with K := x.K.drop 3 }
def goOnE (x : Ex) (p : Pc) : Ex :=
  if x.leads && !p.more && !x.said.more then { takeE x p with done := true }
  else { stepE (takeE x p) with done := !x.leads && !p.more && !(stepE (takeE x p)).said.more }
/-- What comes of a piece with n heads, where K are the heads to tell; what is behind it. -/
def hearE (x : Ex) (p : Pc) (n : Nat) (K : List Hd) : Int × Ex :=
  if okSeq p.seq = false then (0, x)
  else if x.agreed = false then if agreesE x p n then (2, beginE x p K) else (0, x)
  else if p = x.took then if x.leads then (0, x) else (1, x)
  else if fitsE x p then (2, goOnE x p) else (3, x)

/-- One side of two: its exchange, and what it took. -/
structure Sd where
  x : Ex
  took : List Hd
def hearsC (K : List Hd) (a b : Sd) : Int := (hearE a.x b.x.said (b.x.K.take 3).length K).1
def hearsS (K : List Hd) (a b : Sd) : Sd := ⟨(hearE a.x b.x.said (b.x.K.take 3).length K).2, if hearsC K a b = 2 then a.took ++ b.x.K.take 3 else a.took⟩

/-- What is left at piece i; is there one behind it? -/
def leftAt (K : List Hd) (i : Nat) : List Hd := K.drop (3 * i)
def moreAt (K : List Hd) (i : Nat) : Bool := decide (3 < (leftAt K i).length)
def numAt (s : Int) (i : Nat) : Int := (s + i) % 4294967296
def fP (s : Int) (KF : List Hd) (i : Nat) : Pc := ⟨false, moreAt KF i, false, numAt s i⟩
def lP (s : Int) (KL : List Hd) (i : Nat) : Pc := ⟨false, moreAt KL i, true, numAt s (i + 1)⟩
/-- The one that leads, when it has taken m pieces. -/
def LS (hi lo s : Int) (KL KF : List Hd) : Nat → Ex
  | 0 => newE hi lo s
  | m + 1 => ⟨hi, lo, numAt s (m + 1), true, true, false, fP s KF m, lP s KL m, leftAt KL m⟩
/-- The one that leads, done. -/
def LE (hi lo s : Int) (KL KF : List Hd) (m : Nat) : Ex := ⟨hi, lo, numAt s (m + 2), true, true, true, fP s KF (m + 1), lP s KL m, leftAt KL m⟩
def FD (KL KF : List Hd) : Nat → Bool
  | 0 => false
  | 1 => false
  | m + 2 => !moreAt KL m && !moreAt KF (m + 1)
/-- The one that follows, when it has taken m pieces. -/
def FS (lo hi s sF : Int) (KL KF : List Hd) : Nat → Ex
  | 0 => newE lo hi sF
  | 1 => ⟨lo, hi, numAt s 0, true, false, false, ⟨true, true, true, numAt s 0⟩, fP s KF 0, leftAt KF 0⟩
  | m + 2 => ⟨lo, hi, numAt s (m + 1), true, false, !moreAt KL m && !moreAt KF (m + 1), lP s KL m, fP s KF (m + 1), leftAt KF (m + 1)⟩
theorem more_fold (K : List Hd) (i : Nat) : decide (3 < (leftAt K i).length) = moreAt K i := rfl
theorem numAt_ok (s : Int) (i : Nat) : okSeq (numAt s i) = true := by
  unfold okSeq numAt
  simp only [Bool.and_eq_true, decide_eq_true_eq]
  omega
theorem numAt_up (s : Int) (i : Nat) : up32 (numAt s i) = numAt s (i + 1) := by
  unfold up32 numAt
  omega
theorem numAt_next (s : Int) (i : Nat) : ¬ numAt s (i + 1) = numAt s i := by
  unfold numAt
  omega
theorem numAt_zero (s : Int) : s % 4294967296 = numAt s 0 := by
  unfold numAt
  rw [show s + ((0 : Nat) : Int) = s by omega]
theorem left_drop (K : List Hd) (i : Nat) : (leftAt K i).drop 3 = leftAt K (i + 1) := by
  unfold leftAt
  rw [List.drop_drop, show 3 * i + 3 = 3 * (i + 1) by omega]
theorem left_zero (K : List Hd) : leftAt K 0 = K := by simp [leftAt]
theorem take_left (K : List Hd) (i : Nat) : K.take (3 * i) ++ (leftAt K i).take 3 = K.take (3 * (i + 1)) := by
  unfold leftAt
  rw [show 3 * (i + 1) = 3 * i + 3 by omega, List.take_add]
theorem FS_done (lo hi s sF : Int) (KL KF : List Hd) (b : Nat) : (FS lo hi s sF KL KF b).done = FD KL KF b := by
  match b with
  | 0 => rfl
  | 1 => rfl
  | m + 2 => rfl
section
variable (hi lo s sF : Int) (KL KF K : List Hd)
/-- Neither has agreed: the one that leads hears the other one. -/
theorem l00 (h : lo < hi) (n : Nat) : hearE (LS hi lo s KL KF 0) (FS lo hi s sF KL KF 0).said n K = (0, LS hi lo s KL KF 0) := by
  have h1 : ¬ hi < lo := by omega
  simp only [hearE, LS, FS, newE, numAt_zero, numAt_ok, agreesE, h1]
  simp
theorem f00 (h : lo < hi) : hearE (FS lo hi s sF KL KF 0) (LS hi lo s KL KF 0).said 0 KF = (2, FS lo hi s sF KL KF 1) := by
  have h2 : decide (hi < lo) = false := by simp; omega
  simp only [hearE, LS, FS, newE, numAt_zero, numAt_ok, agreesE, h, beginE, sayE, takeE, h2, fP, left_zero, moreAt]
  simp
theorem l01 (h : lo < hi) (n : Nat) : hearE (LS hi lo s KL KF 0) (FS lo hi s sF KL KF 1).said n KL = (2, LS hi lo s KL KF 1) := by
  have h1 : ¬ hi < lo := by omega
  simp only [hearE, LS, FS, newE, numAt_zero, numAt_ok, agreesE, h1, beginE, sayE, takeE, h, fP, lP, left_zero, moreAt, numAt_up]
  simp
theorem f01 (n : Nat) : hearE (FS lo hi s sF KL KF 1) (LS hi lo s KL KF 0).said n K = (1, FS lo hi s sF KL KF 1) := by
  simp only [hearE, LS, FS, newE, numAt_zero, numAt_ok]
  simp
/-- Both have taken as many. -/
theorem laa (m n : Nat) : hearE (LS hi lo s KL KF (m + 1)) (FS lo hi s sF KL KF (m + 1)).said n K = (0, LS hi lo s KL KF (m + 1)) := by
  have e : (FS lo hi s sF KL KF (m + 1)).said = fP s KF m := by cases m <;> rfl
  rw [e]
  simp only [hearE, LS, fP, numAt_ok]
  simp
theorem faa (m n : Nat) (hd : FD KL KF (m + 1) = false) : hearE (FS lo hi s sF KL KF (m + 1)) (LS hi lo s KL KF (m + 1)).said n K = (2, FS lo hi s sF KL KF (m + 2)) := by
  have hn := numAt_next s m
  have hu := numAt_up s m
  match m with
  | 0 =>
    simp only [hearE, LS, FS, fP, lP, numAt_ok, fitsE, goOnE, stepE, sayE, takeE, left_drop, moreAt, numAt_up]
    simp
  | m + 1 =>
    simp only [FD] at hd
    simp only [hearE, LS, FS, fP, lP, numAt_ok, fitsE, goOnE, stepE, sayE, takeE, left_drop, more_fold, numAt_up, hd]
    simp [hn]
/-- The one that follows is one ahead. -/
theorem fab (m n : Nat) : hearE (FS lo hi s sF KL KF (m + 2)) (LS hi lo s KL KF (m + 1)).said n K = (1, FS lo hi s sF KL KF (m + 2)) := by
  simp only [hearE, LS, FS, lP, numAt_ok]
  simp
theorem lab (m n : Nat) : hearE (LS hi lo s KL KF (m + 1)) (FS lo hi s sF KL KF (m + 2)).said n K = (2, if FD KL KF (m + 2) = true then LE hi lo s KL KF m else LS hi lo s KL KF (m + 2)) := by
  have hn := numAt_next s m
  simp only [hearE, LS, LE, FS, FD, fP, lP, numAt_ok, fitsE, goOnE, stepE, sayE, takeE, left_drop, numAt_up, more_fold]
  rcases Bool.eq_false_or_eq_true (moreAt KL m) with h1 | h1 <;> rcases Bool.eq_false_or_eq_true (moreAt KF (m + 1)) with h2 | h2 <;> simp [hn, h1, h2]
/-- Both are done. -/
theorem lE (m n : Nat) : hearE (LE hi lo s KL KF m) (FS lo hi s sF KL KF (m + 2)).said n K = (0, LE hi lo s KL KF m) := by
  simp only [hearE, LE, FS, fP, numAt_ok]
  simp
theorem fE (m n : Nat) : hearE (FS lo hi s sF KL KF (m + 2)) (LE hi lo s KL KF m).said n K = (1, FS lo hi s sF KL KF (m + 2)) := by
  simp only [hearE, LE, FS, lP, numAt_ok]
  simp
end
/-- One leads, one follows; q is how often at least they have gone on; lt: is it the turn of the one that leads? -/
def Joint (hi lo s sF : Int) (KL KF : List Hd) (q : Nat) (lt : Bool) (L F : Sd) : Prop :=
  (∃ a b : Nat, (b = a ∨ b = a + 1) ∧ FD KL KF a = false ∧ L = ⟨LS hi lo s KL KF a, KF.take (3 * a)⟩ ∧ F = ⟨FS lo hi s sF KL KF b, KL.take (3 * (b - 1))⟩ ∧ (q ≤ a + b ∨ (q ≤ a + b + 1 ∧ (lt = true ↔ b = a + 1)))) ∨
  ∃ m : Nat, FD KL KF (m + 2) = true ∧ L = ⟨LE hi lo s KL KF m, KF.take (3 * (m + 2))⟩ ∧ F = ⟨FS lo hi s sF KL KF (m + 2), KL.take (3 * (m + 1))⟩
section
variable {hi lo s sF : Int} {KL KF : List Hd} {q : Nat} {lt : Bool} {L F : Sd}
theorem Joint.start : Joint hi lo s sF KL KF 0 lt ⟨newE hi lo s, []⟩ ⟨newE lo hi sF, []⟩ := .inl ⟨0, 0, .inl rfl, rfl, rfl, rfl, .inl (Nat.zero_le _)⟩
theorem Joint.weak (h : Joint hi lo s sF KL KF q lt L F) (lt' : Bool) : Joint hi lo s sF KL KF 0 lt' L F := by
  rcases h with ⟨a, b, h1, h2, h3, h4, _⟩ | h
  · exact .inl ⟨a, b, h1, h2, h3, h4, .inl (Nat.zero_le _)⟩
  · exact .inr h
theorem hears_of {K : List Hd} {a b : Sd} {x : Ex} {t : List Hd} {c : Int} (h : hearE a.x b.x.said (b.x.K.take 3).length K = (c, x)) (hc : c ≠ 3) (ht : (if c = 2 then a.took ++ b.x.K.take 3 else a.took) = t) : hearsC K a b ≠ 3 ∧ hearsS K a b = ⟨x, t⟩ := by
  have hcc : hearsC K a b = c := by unfold hearsC; rw [h]
  refine ⟨by rw [hcc]; exact hc, ?_⟩
  unfold hearsS
  rw [hcc, h, ht]
theorem Joint.lead (h : Joint hi lo s sF KL KF q true L F) (hlt : lo < hi) : hearsC KL L F ≠ 3 ∧ Joint hi lo s sF KL KF (q + 1) false (hearsS KL L F) F := by
  rcases h with ⟨a, b, h1, h2, rfl, rfl, h5⟩ | ⟨m, h2, rfl, rfl⟩
  · have h6 : b = a → q ≤ a + b := fun e => by
      rcases h5 with h5 | ⟨_, h5⟩
      · exact h5
      · have := h5.1 rfl
        omega
    have h7 : q ≤ a + b + 1 := by omega
    rcases h1 with h1 | h1
    · subst h1
      have h6 := h6 rfl
      cases b with
      | zero =>
        obtain ⟨e1, e2⟩ := hears_of (K := KL) (a := ⟨LS hi lo s KL KF 0, KF.take (3 * 0)⟩) (b := ⟨FS lo hi s sF KL KF 0, KL.take (3 * (0 - 1))⟩) (l00 hi lo s sF KL KF KL hlt _) (by decide) rfl
        rw [e2]
        exact ⟨e1, .inl ⟨0, 0, .inl rfl, h2, rfl, rfl, .inr ⟨by omega, by simp⟩⟩⟩
      | succ m =>
        obtain ⟨e1, e2⟩ := hears_of (K := KL) (a := ⟨LS hi lo s KL KF (m + 1), KF.take (3 * (m + 1))⟩) (b := ⟨FS lo hi s sF KL KF (m + 1), KL.take (3 * (m + 1 - 1))⟩) (laa hi lo s sF KL KF KL m _) (by decide) rfl
        rw [e2]
        exact ⟨e1, .inl ⟨m + 1, m + 1, .inl rfl, h2, rfl, rfl, .inr ⟨by omega, by simp⟩⟩⟩
    · subst h1
      cases a with
      | zero =>
        obtain ⟨e1, e2⟩ := hears_of (K := KL) (a := ⟨LS hi lo s KL KF 0, KF.take (3 * 0)⟩) (b := ⟨FS lo hi s sF KL KF (0 + 1), KL.take (3 * (0 + 1 - 1))⟩) (t := KF.take (3 * 1)) (l01 hi lo s sF KL KF hlt _) (by decide) (by
          rw [if_pos rfl]
          exact take_left KF 0)
        rw [e2]
        exact ⟨e1, .inl ⟨1, 1, .inl rfl, rfl, rfl, rfl, .inr ⟨by omega, by simp⟩⟩⟩
      | succ m =>
        obtain ⟨e1, e2⟩ := hears_of (K := KL) (a := ⟨LS hi lo s KL KF (m + 1), KF.take (3 * (m + 1))⟩) (b := ⟨FS lo hi s sF KL KF (m + 1 + 1), KL.take (3 * (m + 1 + 1 - 1))⟩) (t := KF.take (3 * (m + 2))) (lab hi lo s sF KL KF KL m _) (by decide) (by
          rw [if_pos rfl]
          exact take_left KF (m + 1))
        rw [e2]
        refine ⟨e1, ?_⟩
        by_cases hd : FD KL KF (m + 2) = true
        · rw [if_pos hd]
          exact .inr ⟨m, hd, rfl, rfl⟩
        · rw [if_neg hd]
          exact .inl ⟨m + 2, m + 2, .inl rfl, by simpa using hd, rfl, rfl, .inr ⟨by omega, by simp⟩⟩
  · obtain ⟨e1, e2⟩ := hears_of (K := KL) (a := ⟨LE hi lo s KL KF m, KF.take (3 * (m + 2))⟩) (b := ⟨FS lo hi s sF KL KF (m + 2), KL.take (3 * (m + 1))⟩) (lE hi lo s sF KL KF KL m _) (by decide) rfl
    rw [e2]
    exact ⟨e1, .inr ⟨m, h2, rfl, rfl⟩⟩
theorem Joint.foll (h : Joint hi lo s sF KL KF q false L F) (hlt : lo < hi) : hearsC KF F L ≠ 3 ∧ Joint hi lo s sF KL KF (q + 1) true L (hearsS KF F L) := by
  rcases h with ⟨a, b, h1, h2, rfl, rfl, h5⟩ | ⟨m, h2, rfl, rfl⟩
  · have h6 : b = a + 1 → q ≤ a + b := fun e => by
      rcases h5 with h5 | ⟨_, h5⟩
      · exact h5
      · have := h5.2 e
        simp at this
    have h7 : q ≤ a + b + 1 := by omega
    rcases h1 with h1 | h1
    · subst h1
      cases b with
      | zero =>
        obtain ⟨e1, e2⟩ := hears_of (K := KF) (a := ⟨FS lo hi s sF KL KF 0, KL.take (3 * (0 - 1))⟩) (b := ⟨LS hi lo s KL KF 0, KF.take (3 * 0)⟩) (t := []) (f00 hi lo s sF KL KF hlt) (by decide) (by simp [LS, newE])
        rw [e2]
        exact ⟨e1, .inl ⟨0, 1, .inr rfl, h2, rfl, by simp, .inr ⟨by omega, by simp⟩⟩⟩
      | succ m =>
        obtain ⟨e1, e2⟩ := hears_of (K := KF) (a := ⟨FS lo hi s sF KL KF (m + 1), KL.take (3 * (m + 1 - 1))⟩) (b := ⟨LS hi lo s KL KF (m + 1), KF.take (3 * (m + 1))⟩) (t := KL.take (3 * (m + 1))) (faa hi lo s sF KL KF KF m _ h2) (by decide) (by
          rw [if_pos rfl]
          exact take_left KL m)
        rw [e2]
        exact ⟨e1, .inl ⟨m + 1, m + 2, .inr rfl, h2, rfl, rfl, .inr ⟨by omega, by simp⟩⟩⟩
    · subst h1
      have h6 := h6 rfl
      cases a with
      | zero =>
        obtain ⟨e1, e2⟩ := hears_of (K := KF) (a := ⟨FS lo hi s sF KL KF (0 + 1), KL.take (3 * (0 + 1 - 1))⟩) (b := ⟨LS hi lo s KL KF 0, KF.take (3 * 0)⟩) (f01 hi lo s sF KL KF KF _) (by decide) rfl
        rw [e2]
        exact ⟨e1, .inl ⟨0, 1, .inr rfl, h2, rfl, rfl, .inr ⟨by omega, by simp⟩⟩⟩
      | succ m =>
        obtain ⟨e1, e2⟩ := hears_of (K := KF) (a := ⟨FS lo hi s sF KL KF (m + 1 + 1), KL.take (3 * (m + 1 + 1 - 1))⟩) (b := ⟨LS hi lo s KL KF (m + 1), KF.take (3 * (m + 1))⟩) (fab hi lo s sF KL KF KF m _) (by decide) rfl
        rw [e2]
        exact ⟨e1, .inl ⟨m + 1, m + 2, .inr rfl, h2, rfl, rfl, .inr ⟨by omega, by simp⟩⟩⟩
  · obtain ⟨e1, e2⟩ := hears_of (K := KF) (a := ⟨FS lo hi s sF KL KF (m + 2), KL.take (3 * (m + 1))⟩) (b := ⟨LE hi lo s KL KF m, KF.take (3 * (m + 2))⟩) (fE hi lo s sF KL KF KF m _) (by decide) rfl
    rw [e2]
    exact ⟨e1, .inr ⟨m, h2, rfl, rfl⟩⟩
end
end Go.Proofs.Ytfdfdmbnggpnbaa
namespace Go.Proofs.Ytfdfdmbnggpnbaa
open Go.Lib

theorem more_of {K : List Hd} {i : Nat} (h : moreAt K i = true) : 3 * i + 3 < K.length := by
  unfold moreAt leftAt at h
  rw [decide_eq_true_iff, List.length_drop] at h
  omega
theorem no_more {K : List Hd} {i : Nat} (h : moreAt K i = false) : K.length ≤ 3 * (i + 1) := by
  unfold moreAt leftAt at h
  rw [decide_eq_false_iff_not, List.length_drop] at h
  omega
theorem FD_small {KL KF : List Hd} (hL : KL.length ≤ 60) (hF : KF.length ≤ 60) : ∀ {a : Nat}, FD KL KF a = false → a ≤ 20
  | 0, _ => by omega
  | 1, _ => by omega
  | m + 2, h => by
    simp only [FD] at h
    cases h1 : moreAt KL m
    · cases h2 : moreAt KF (m + 1)
      · rw [h1, h2] at h
        cases h
      · have := more_of h2
        omega
    · have := more_of h1
      omega
theorem FD_all {KL KF : List Hd} {m : Nat} (h : FD KL KF (m + 2) = true) : KL.take (3 * (m + 1)) = KL ∧ KF.take (3 * (m + 2)) = KF := by
  simp only [FD, Bool.and_eq_true, Bool.not_eq_true'] at h
  exact ⟨List.take_of_length_le (no_more h.1), List.take_of_length_le (no_more h.2)⟩
theorem LS_done (hi lo s : Int) (KL KF : List Hd) (a : Nat) : (LS hi lo s KL KF a).done = false := by cases a <;> rfl
theorem beg_take (K : List Hd) (k : Nat) : (K.take k).length ≤ K.length ∧ K.take k = K.take (K.take k).length := by
  rw [List.length_take]
  refine ⟨by omega, ?_⟩
  rw [List.take_eq_take_iff]
  omega
/-- What one has took: a beginning; all of it, if it is done. -/
def Beg (d : Bool) (T K : List Hd) : Prop := T.length ≤ K.length ∧ T = K.take T.length ∧ (d = true → T = K)
theorem Beg.of {d : Bool} {K : List Hd} {k : Nat} (h : d = true → K.take k = K) : Beg d (K.take k) K := ⟨(beg_take K k).1, (beg_take K k).2, h⟩
section
variable {hi lo s sF : Int} {KL KF : List Hd} {q : Nat} {lt : Bool} {L F : Sd}
theorem Joint.took (h : Joint hi lo s sF KL KF q lt L F) : Beg L.x.done L.took KF ∧ Beg F.x.done F.took KL := by
  rcases h with ⟨a, b, h1, h2, rfl, rfl, _⟩ | ⟨m, h2, rfl, rfl⟩
  · refine ⟨Beg.of (fun h => ?_), Beg.of (fun h => ?_)⟩
    · rw [LS_done] at h
      cases h
    · rw [FS_done] at h
      match b, h with
      | m + 2, h => exact (FD_all h).1
  · exact ⟨Beg.of (fun _ => (FD_all h2).2), Beg.of (fun _ => (FD_all h2).1)⟩
theorem Joint.ends (h : Joint hi lo s sF KL KF q lt L F) (hq : 43 ≤ q) (hL : KL.length ≤ 60) (hF : KF.length ≤ 60) :
    L.x.done = true ∧ F.x.done = true ∧ L.x.leads = true ∧ F.x.leads = false ∧ L.x.agreed = true ∧ F.x.agreed = true ∧ L.x.took = F.x.said ∧ F.x.took = L.x.said := by
  rcases h with ⟨a, b, h1, h2, rfl, rfl, h5⟩ | ⟨m, h2, rfl, rfl⟩
  · have := FD_small hL hF h2
    omega
  · exact ⟨rfl, h2, rfl, rfl, rfl, rfl, rfl, rfl⟩
end
/-- Duo of unlike numbers n0, n1, which began with s0, s1 and have K0, K1 to tell; q: how often at least they have gone on; t: is it the first one's turn? -/
def Duo (n0 n1 s0 s1 : Int) (K0 K1 : List Hd) (q : Nat) (t : Bool) (x y : Sd) : Prop :=
  if n1 < n0 then Joint n0 n1 s0 s1 K0 K1 q t x y else Joint n1 n0 s1 s0 K1 K0 q (!t) y x
section
variable {n0 n1 s0 s1 : Int} {K0 K1 : List Hd} {q : Nat} {t : Bool} {x y : Sd}
theorem Duo.start : Duo n0 n1 s0 s1 K0 K1 0 t ⟨newE n0 n1 s0, []⟩ ⟨newE n1 n0 s1, []⟩ := by
  unfold Duo
  split
  · exact Joint.start
  · exact Joint.start
theorem Duo.weak (h : Duo n0 n1 s0 s1 K0 K1 q t x y) (t' : Bool) : Duo n0 n1 s0 s1 K0 K1 0 t' x y := by
  unfold Duo at h ⊢
  split at h
  next hh => rw [if_pos hh]; exact h.weak _
  next hh => rw [if_neg hh]; exact h.weak _
theorem Duo.first (h : Duo n0 n1 s0 s1 K0 K1 q true x y) (hn : n0 ≠ n1) : hearsC K0 x y ≠ 3 ∧ Duo n0 n1 s0 s1 K0 K1 (q + 1) false (hearsS K0 x y) y := by
  unfold Duo at h ⊢
  split at h
  next hh => rw [if_pos hh]; exact h.lead hh
  next hh => rw [if_neg hh]; exact h.foll (by omega)
theorem Duo.second (h : Duo n0 n1 s0 s1 K0 K1 q false x y) (hn : n0 ≠ n1) : hearsC K1 y x ≠ 3 ∧ Duo n0 n1 s0 s1 K0 K1 (q + 1) true x (hearsS K1 y x) := by
  unfold Duo at h ⊢
  split at h
  next hh => rw [if_pos hh]; exact h.foll hh
  next hh => rw [if_neg hh]; exact h.lead (by omega)
theorem Duo.took (h : Duo n0 n1 s0 s1 K0 K1 q t x y) : Beg x.x.done x.took K1 ∧ Beg y.x.done y.took K0 := by
  unfold Duo at h
  split at h
  · exact h.took
  · exact ⟨h.took.2, h.took.1⟩
theorem Duo.ends (h : Duo n0 n1 s0 s1 K0 K1 q t x y) (hq : 43 ≤ q) (h0 : K0.length ≤ 60) (h1 : K1.length ≤ 60) :
    x.x.done = true ∧ y.x.done = true ∧ x.x.leads = decide (n1 < n0) ∧ y.x.leads = !decide (n1 < n0) ∧ x.x.agreed = true ∧ y.x.agreed = true ∧ x.x.took = y.x.said := by
  unfold Duo at h
  split at h
  next hh =>
    obtain ⟨a, b, c, d, e, f, g, i⟩ := h.ends hq h0 h1
    rw [decide_eq_true hh]
    exact ⟨a, b, c, d, e, f, g⟩
  next hh =>
    obtain ⟨a, b, c, d, e, f, g, i⟩ := h.ends hq h1 h0
    rw [decide_eq_false hh]
    exact ⟨b, a, d, c, f, e, i⟩
end
/-- One that is done takes no piece any more. -/
theorem done_hear {x : Ex} {p : Pc} {n : Nat} {K : List Hd} (ha : x.agreed = true) (hd : x.done = true) (hp : okSeq p.seq = true) : hearE x p n K = (if p = x.took then (if x.leads = true then 0 else 1) else 3, x) := by
  unfold hearE
  rw [hp, ha, if_neg (by decide), if_neg (by decide)]
  split
  · split <;> rfl
  · rw [show fitsE x p = false by unfold fitsE; rw [hd]; rfl]
    rfl
/-- Duo of one number hear nothing. -/
theorem self_hear {x : Ex} {p : Pc} {n : Nat} {K : List Hd} (ha : x.agreed = false) (hs : x.self = x.other) : hearE x p n K = (0, x) := by
  unfold hearE
  rw [ha, show agreesE x p n = false by unfold agreesE; rw [hs]; simp]
  simp
theorem self_hears {x y : Sd} {K : List Hd} (ha : x.x.agreed = false) (hs : x.x.self = x.x.other) : hearsC K x y = 0 ∧ hearsS K x y = x := by
  have h := self_hear (p := y.x.said) (n := (y.x.K.take 3).length) (K := K) ha hs
  have h1 : hearsC K x y = 0 := by unfold hearsC; rw [h]
  refine ⟨h1, ?_⟩
  unfold hearsS
  rw [h1, h]
  rfl
/-- The numbers of an exchange are from 0 to 2^32 - 1; there aren't more than 1000 heads. -/
structure ExOk (x : Ex) : Prop where
  seq : okSeq x.seq = true
  took : okSeq x.took.seq = true
  said : okSeq x.said.seq = true
  len : x.K.length ≤ 1000
theorem okSeq_iff (q : Int) : okSeq q = true ↔ 0 ≤ q ∧ q < 4294967296 := by simp [okSeq]
theorem up32_ok (q : Int) : okSeq (up32 q) = true := by
  rw [okSeq_iff]
  unfold up32
  omega
theorem newE_ok (a b s : Int) : ExOk (newE a b s) := by
  have h : okSeq (s % 4294967296) = true := by
    rw [okSeq_iff]
    omega
  exact ⟨h, rfl, h, Nat.zero_le _⟩
theorem ExOk.say {x : Ex} (h : ExOk x) : ExOk (sayE x) := ⟨h.seq, h.took, h.seq, h.len⟩
theorem ExOk.take {x : Ex} {p : Pc} (h : ExOk x) (hp : okSeq p.seq = true) : ExOk (takeE x p) := ⟨by
  unfold takeE
  dsimp only
  split
  · exact up32_ok _
  · exact hp, hp, h.said, h.len⟩
theorem ExOk.step {x : Ex} (h : ExOk x) : ExOk (stepE x) := ExOk.say ⟨h.seq, h.took, h.said, by
  have := h.len
  simp
  omega⟩
theorem ExOk.begin {x : Ex} {p : Pc} {K : List Hd} (h : ExOk x) (hp : okSeq p.seq = true) (hK : K.length ≤ 1000) : ExOk (beginE x p K) := (ExOk.take (x := { x with agreed := true, leads := decide (x.other < x.self), K := K }) ⟨h.seq, h.took, h.said, hK⟩ hp).say
theorem ExOk.goOn {x : Ex} {p : Pc} (h : ExOk x) (hp : okSeq p.seq = true) : ExOk (goOnE x p) := by
  unfold goOnE
  split
  · exact ⟨(h.take hp).seq, (h.take hp).took, (h.take hp).said, (h.take hp).len⟩
  · exact ⟨(h.take hp).step.seq, (h.take hp).step.took, (h.take hp).step.said, (h.take hp).step.len⟩
theorem ExOk.hear {x : Ex} {p : Pc} {n : Nat} {K : List Hd} (h : ExOk x) (hK : K.length ≤ 1000) : ExOk (hearE x p n K).2 := by
  unfold hearE
  split
  · exact h
  next hp =>
    have hp : okSeq p.seq = true := by simpa using hp
    split
    · split
      · exact h.begin hp hK
      · exact h
    · split
      · split <;> exact h
      · split
        · exact h.goOn hp
        · exact h
end Go.Proofs.Ytfdfdmbnggpnbaa
namespace Go.Proofs.Ytfdfdmbnggpnbaa
open Go.Sort

section
variable {P : Program} {md : Region.Mode} {ops : Array Oper} {C : World → Prop}
/-- Whatever order is picked from here on, as long as it is one of the first n. -/
def wpAnyQL (P : Program) (md : Region.Mode) (ops : Array Oper) (C : World → Prop) (n : Nat) (L : Array Bool → Act → Prop) : Nat → Array Bool → Act → Prop
  | 0, listed, a => L listed a
  | f + 1, listed, a => Region.ready md ops listed ≠ [] ∧ ∀ i ∈ Region.ready md ops listed, i < n ∧ qOp P ops C i (wpAnyQL P md ops C n L f (listed.setIfInBounds i true)) a

theorem any_of_headQ {n g : Nat} {L : Array Bool → Act → Prop} {Q' : Exit → Act → World → Prop} (hL : ∀ listed a w, C w → L listed a → wpAny P md ops Q' g listed a w) :
    ∀ (f : Nat) (listed : Array Bool) (a : Act) (w : World), C w → wpAnyQL P md ops C n L f listed a → wpAny P md ops Q' (f + g) listed a w
  | 0, listed, a, w, hw, h => by
    rw [Nat.zero_add]
    exact hL _ _ _ hw h
  | f + 1, listed, a, w, hw, h => by
    rw [show f + 1 + g = (f + g) + 1 by omega]
    exact ⟨fun h0 => absurd h0 h.1, fun i hi => wpOp_of_qOp hw (fun a' w' hw' h' => any_of_headQ hL f _ a' w' hw' h') (h.2 i hi).2⟩

theorem anyQL_first {n i : Nat} {oi : Oper} {v : Value} {L : Array Bool → Act → Prop} (hi : ops[i]? = some oi) (hsel : ∀ (j : Nat) (o : Oper) cs b, ops[j]? = some o → o.op ≠ .select cs b)
    (hs : Region.sinkB md ops n = true) (hc : Region.chainB md ops n = true) (hn : n < ops.size) (hin : i < n) (hdone : ∀ listed a, L listed a → ∀ j ∈ Region.ready md ops listed, n ≤ j) :
    ∀ (f : Nat) (listed : Array Bool) (a : Act), HeadInv md ops n listed →
      (∀ j oj, ops[j]? = some oj → j ≠ i → listed.getD j true = false → (∀ e ∈ oj.after, Region.binds md e = true → e.on ≠ i) → oi.apart ops oj = true) →
      i ∈ Region.ready md ops listed → YieldsIn P ops C oi v a → wpAnyQL P md ops C n L f (listed.setIfInBounds i true) (a.put oi.dst v) → wpAnyQL P md ops C n L (f + 1) listed a := by
  intro f
  induction f with
  | zero =>
    intro listed a inv _ hr hy H
    have hun := (mem_ready.1 hr).1
    refine ⟨fun h => (by rw [h] at hr; cases hr), fun j hj => ?_⟩
    have hjn : j < n := Nat.lt_of_not_le fun h => absurd hj (tail_waits hs hc hn inv _ i rfl hin hun j h)
    refine ⟨hjn, ?_⟩
    by_cases hji : j = i
    · subst hji
      exact hy.qOp hi H
    · have := hdone _ _ H j (ready_mono hj hji)
      omega
  | succ f ih =>
    intro listed a inv hfree hr hy H
    have hun := (mem_ready.1 hr).1
    refine ⟨fun h => (by rw [h] at hr; cases hr), fun j hj => ?_⟩
    have hjn : j < n := Nat.lt_of_not_le fun h => absurd hj (tail_waits hs hc hn inv _ i rfl hin hun j h)
    refine ⟨hjn, ?_⟩
    by_cases hji : j = i
    · subst hji
      exact hy.qOp hi H
    · have h1 := (H.2 j (ready_mono hj hji)).2
      obtain ⟨hjun, oj, hoj, hall⟩ := mem_ready.1 hj
      have hnot : ∀ e ∈ oj.after, Region.binds md e = true → e.on ≠ i := fun e he hb heq => by
        have h3 := hall e he hb
        rw [heq, getD_both hun] at h3
        cases h3
      have h2 := qOp_put hoj (hfree j oj hoj hji hjun hnot) (fun cs b => hsel i oi cs b hi) (fun cs b => hsel j oj cs b hoj) hy h1
      have hfree' : ∀ k ok, ops[k]? = some ok → k ≠ i → (listed.setIfInBounds j true).getD k true = false → (∀ e ∈ ok.after, Region.binds md e = true → e.on ≠ i) → oi.apart ops ok = true := fun k ok hk hki hku hno => by
        refine hfree k ok hk hki ?_ hno
        by_cases hjk : j = k
        · rw [← hjk]
          exact hjun
        · rwa [getD_set_ne true hjk] at hku
      refine qOp_mono (fun a' h3 => ih (listed.setIfInBounds j true) a' (inv.set hj hjn) hfree' (ready_mono hr (Ne.symm hji)) h3.1 ?_) h2
      rw [Array.setIfInBounds_comm _ _ hji]
      exact h3.2

theorem anyQL_lex {n g : Nat} {Lq : Act → Prop} (hsel : Region.noSelect ops = true) (hs : Region.sinkB md ops n = true) (hc : Region.chainB md ops n = true) (hn : n < ops.size) :
    ∀ (l : List Oper) (k : Nat) (listed : Array Bool) (a : Act), (∀ j, j < l.length → l[j]? = ops[k + j]?) → k + l.length = n → HeadInv md ops n listed → Region.lexHead md ops g l.length k listed = true → wpQuiet P ops C Lq l a →
    wpAnyQL P md ops C n (fun listed' a' => Region.seqB md ops g n listed' = true ∧ Lq a') l.length listed a
  | [], k, listed, a, _, hk, _, hB, h => by
    obtain rfl : k = n := by simpa using hk
    exact ⟨by simpa [Region.lexHead] using hB, h⟩
  | o :: l, k, listed, a, hl, hk, inv, hB, h => by
    have h0 : ops[k]? = some o := by simpa using (hl 0 (by simp)).symm
    simp only [List.length_cons, Region.lexHead, Bool.and_eq_true] at hB
    obtain ⟨⟨hr, hf⟩, hB'⟩ := hB
    have hkn : k < n := by
      simp only [List.length_cons] at hk
      omega
    have hr' : k ∈ Region.ready md ops listed := by simpa using hr
    have hst : qOp P ops C k (wpQuiet P ops C Lq l) a := by
      unfold qOp
      simp only [h0]
      exact h
    obtain ⟨v, hy, hK⟩ := yieldsIn_of_qOp h0 hst
    exact anyQL_first h0 (Region.noSelect_spec hsel) hs hc hn hkn (fun listed' a' hL => seqB_ready hL.1) l.length listed a inv (Region.free_spec h0 hf) hr' hy
      (anyQL_lex hsel hs hc hn l (k + 1) _ _ (fun j hj => by have := hl (j + 1) (by simp; omega); simpa [Nat.add_assoc, Nat.add_comm 1 j] using this) (by simp only [List.length_cons] at hk; omega) (inv.set hr' hkn) hB' hK)
end

theorem region_grown_tail {P : Program} {id : Nat} {Q : Exit → Act → World → Prop} {a : Act} {w : World} {l : List Oper} (n : Nat) (hm : P.follows .mixedOrders = true) (hB : Region.lexTailB .any l.toArray n = true)
    (h : wpQuiet P l.toArray (fun w' => ∃ p : GrownBy, w' = grow (w.drewN p.n) p.os) (fun a' => ∀ w', (∃ p : GrownBy, w' = grow (w.drewN p.n) p.os) → wpList P l.toArray Q (l.drop n) a' w') (l.take n) a) : (Code.region id l.toArray true).wp P Q a w := by
  simp only [Region.lexTailB, Bool.and_eq_true, decide_eq_true_eq] at hB
  obtain ⟨⟨⟨⟨hsel, hn⟩, hs⟩, hc⟩, hlex⟩ := hB
  have hn' : n < l.length := by simpa using hn
  have htl : (l.take n).length = n := by simp; omega
  have hdl : (l.drop n).length = l.toArray.size - n := by simp
  have inv0 : HeadInv .any l.toArray n (Array.replicate l.toArray.size false) :=
    ⟨by simp, fun j oj _ hl => (by rw [getD_replicate_false] at hl; cases hl), fun t _ ht => getD_in (by simpa using ht) (getD_replicate_false _ _)⟩
  have H := anyQL_lex (md := .any) (g := l.toArray.size - n) hsel hs hc hn (l.take n) 0 _ a (fun j hj => by
    have hj' : j < n := by rw [htl] at hj; exact hj
    simp [hj']) (by simpa using htl) inv0 (by rw [htl]; exact hlex) h
  refine wp_region_any hm ?_
  have := any_of_headQ (Q' := Q) (g := l.toArray.size - n) (fun listed a' w' hw' hL => by
    have := wpAny_of_seq (md := .any) (Q' := Q) (l.drop n) n listed a' w' (fun j => by simp [List.getElem?_drop]) (by rw [hdl]; exact hL.1) (hL.2 w' hw')
    rwa [hdl] at this) _ _ _ { w with drawn := w.drawn + 1 } ⟨⟨1, #[]⟩, by rw [grow_empty]; rfl⟩ H
  rw [htl, show n + (l.toArray.size - n) = l.toArray.size by omega] at this
  exact this
end Go.Proofs.Ytfdfdmbnggpnbaa
