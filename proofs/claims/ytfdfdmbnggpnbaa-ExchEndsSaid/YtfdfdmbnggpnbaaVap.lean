/- The program's keys: the keys of all that a database holds, in order. Conditions: what the words say. · A tick, as what it makes of the list that a database holds, one by one: plain facts. No conditions. · The program's Tick. Conditions: what the words say. · A map of the places at which keys stand: what it holds, and what its operations make of that. Conditions: keys of 64 bits. · What a database lacks of a head; Get of one that is not there. Conditions: keys of 64 bits, ages from 0 to 60 where they are compared. · Lacks. Conditions: at most 100 heads, keys of 64 bits, ages from 0 to 60 where they are compared. -/
import Derived.Deep.DeepCutAuto
import Derived.StillTailTactics
import Derived.WalkKit
import Derived.WalkLawsBesides
import Derived.Deep.QuietTactic
import Derived.BigQuiet
import Derived.Lib.Hide
import Derived.OpenShut
import Derived.Deep.MidRow
import Derived.Deep.Slices
import Derived.Deep.Fields
import Derived.IntWalk
import Derived.Test.YtfdfdmbnggpnbaaVan
import Derived.Test.YtfdfdmbnggpnbaaVam
namespace Go.Proofs.Ytfdfdmbnggpnbaa
open Go.RowKit
open Go.Maps (Keyed)

/-- Keys collected so far. -/
def Coll (D : DataW Value) (left : Lit → Bool) (ks : List Ky) : Prop :=
  (∀ k ∈ ks, wfKy k) ∧ ks.Pairwise (· ≠ ·) ∧ ∀ k, wfKy k → (k ∈ ks ↔ Maps.has D (kyLit k) = true ∧ left (kyLit k) = false)
theorem Coll.start (D : DataW Value) : Coll D (Maps.has D) [] :=
  ⟨fun k h => (by cases h), List.Pairwise.nil, fun k _ => ⟨fun h => (by cases h), fun h => by rw [h.1] at h; exact absurd h.2 (by decide)⟩⟩
theorem Coll.step {D : DataW Value} {left : Lit → Bool} {ks : List Ky} (h : Coll D left ks) {x : Ky} (hx : wfKy x) (hl : left (kyLit x) = true) {y : DataW Value} (hat : ∀ zd, D.atKey (kyLit x) zd = y) :
    Coll D (fun z => left z && !z.sameKey (kyLit x)) (ks ++ [x]) := by
  obtain ⟨h1, h2, h3⟩ := h
  have hh : Maps.has D (kyLit x) = true := Maps.has_true_of_atKey hat
  have hnx : x ∉ ks := fun hm => by
    have := ((h3 x hx).1 hm).2
    rw [hl] at this
    cases this
  refine ⟨fun k hk => ?_, ?_, fun k hk => ?_⟩
  · rcases List.mem_append.1 hk with hk | hk
    · exact h1 k hk
    · rw [List.mem_singleton.1 hk]
      exact hx
  · rw [List.pairwise_append]
    refine ⟨h2, List.pairwise_singleton _ _, fun a ha b hb e => ?_⟩
    rw [List.mem_singleton.1 hb] at e
    exact hnx (e ▸ ha)
  · rw [List.mem_append, List.mem_singleton]
    show k ∈ ks ∨ k = x ↔ _ ∧ (left (kyLit k) && !(kyLit k).sameKey (kyLit x)) = false
    rw [sameKey_ky hk hx]
    constructor
    · rintro (hk' | rfl)
      · obtain ⟨e1, e2⟩ := (h3 k hk).1 hk'
        exact ⟨e1, by rw [e2]; rfl⟩
      · exact ⟨hh, by rw [(sameKy_iff k k).2 rfl, hl]; rfl⟩
    · rintro ⟨e1, e2⟩
      cases hs : sameKy k x
      · rw [hs] at e2
        simp at e2
        exact .inl ((h3 k hk).2 ⟨e1, e2⟩)
      · exact .inr ((sameKy_iff _ _).1 hs)
end Go.Proofs.Ytfdfdmbnggpnbaa
namespace Go.Proofs.Ytfdfdmbnggpnbaa

/-- The first j are a tick on. -/
def tickUp (S : List La) (j : Nat) : List La := (S.take j).map tickL ++ S.drop j
/-- The round's item, and the rest. -/
theorem tickUp_split {S : List La} {j : Nat} {x : La} (hx : S[j]? = some x) : tickUp S j = (S.take j).map tickL ++ x :: S.drop (j + 1) ∧ tickUp S (j + 1) = (S.take j).map tickL ++ tickL x :: S.drop (j + 1) := by
  have hj := (List.getElem?_eq_some_iff.1 hx).1
  have e1 : S.drop j = x :: S.drop (j + 1) := by
    rw [List.drop_eq_getElem_cons hj]
    congr 1
    exact (List.getElem?_eq_some_iff.1 hx).2
  have e2 : S.take (j + 1) = S.take j ++ [x] := by
    rw [List.take_add_one, hx]
    rfl
  unfold tickUp
  refine ⟨by rw [e1], ?_⟩
  rw [e2, List.map_append, List.append_assoc]
  rfl
/-- One that is of the greatest age stays. -/
theorem tickUp_old {S : List La} {j : Nat} {x : La} (hx : S[j]? = some x) (h : ¬ x.h.age < 60) : tickUp S (j + 1) = tickUp S j := by
  obtain ⟨e1, e2⟩ := tickUp_split hx
  rw [e1, e2]
  unfold tickL
  rw [if_neg h]
end Go.Proofs.Ytfdfdmbnggpnbaa
namespace Go.Proofs.Ytfdfdmbnggpnbaa
open Go.RowKit

/-- How far a tick is: behind j keys. -/
def TickIs (w w1 wr : World) (lo b : Nat) (S : List La) (F : Nat → Prop) (j : Nat) : Prop :=
  ∃ (R : List Rc) (T : List La), MapIs wr b R ∧ All2 (RcIs w lo) R T ∧ T.Perm (tickUp S j) ∧ (∀ r ∈ R, ∀ q, rcFoot r q → F q) ∧ Chg (fun q => q = b) w1 wr
theorem TickIs.below {w w1 wr w2 : World} {lo b : Nat} {S : List La} {F : Nat → Prop} {j : Nat} (h : TickIs w w1 wr lo b S F j) (hb : Below wr.heap.size wr w2) : TickIs w w1 w2 lo b S F j := by
  obtain ⟨R, T, h1, h2, h3, h4, h5⟩ := h
  exact ⟨R, T, h1.below hb h1.lt, h2, h3, h4, h5.below hb⟩
/-- An append to the list of keys leaves it. -/
theorem TickIs.grown {w w1 w5 w6 : World} {lo b base m : Nat} {S : List La} {F : Nat → Prop} {j : Nat} {t : TypeId} {size : Nat} {v : Value} {xs : List Value} {o : Obj} (h : TickIs w w1 w5 lo b S F j) (ho : w5.ownsRow base t size v m xs) (hb : w1.heap.size ≤ base) (hg : (w5.alloc o).grownBy w6 v.ownBlock) : TickIs w w1 w6 lo b S F j := by
  obtain ⟨R, T, h1, h2, h3, h4, h5⟩ := h
  have hc : Chg (fun q => v.ownBlock = some q) w5 w6 := (Chg.of_below (F := fun q => v.ownBlock = some q) ((Below.refl w5.heap.size w5).alloc (Nat.le_refl _) o)).trans (Chg.of_grown hg (fun q hq => hq)) (fun q hq => .inl hq)
  exact ⟨R, T, h1.chg hc (own_ne_map h1 ho), h2, h3, h4, h5.trans hc (fun q hq => .inr (Nat.le_trans hb (ho.lt q hq).1))⟩
/-- A round that lays none anew. -/
theorem TickIs.old {w w1 wr : World} {lo b : Nat} {S : List La} {F : Nat → Prop} {j : Nat} {x : La} (h : TickIs w w1 wr lo b S F j) (hx : S[j]? = some x) (ha : ¬ x.h.age < 60) : TickIs w w1 wr lo b S F (j + 1) := by
  obtain ⟨R, T, h1, h2, h3, h4, h5⟩ := h
  exact ⟨R, T, h1, h2, by rw [tickUp_old hx ha]; exact h3, h4, h5⟩
end Go.Proofs.Ytfdfdmbnggpnbaa
namespace Go.Proofs.Ytfdfdmbnggpnbaa
open Go.RowKit
open Go.Maps (Keyed)
open Go.ChangeMaps (notKey putKey delKey)

/-- At which place a key stands. -/
structure Pl where
  k : Ky
  i : Nat
def plVal (r : Pl) : Value := .int .i64 (r.i : Int)
def plE (r : Pl) : Lit × DataW Value := (kyLit (r.k), .held (plVal r))
/-- Block b is a map that holds just the places of R, each under its key. -/
def PlIs (w : World) (b : Nat) (R : List Pl) : Prop :=
  (∀ r ∈ R, wfKy (r.k)) ∧ ∃ l : List (Lit × DataW Value), w.ownsMap Try.prog 86 asIs b R.length (.map l) ∧ l.Perm (R.map plE)

section
variable {w w' : World} {b : Nat} {R : List Pl}
theorem PlIs.lt (h : PlIs w b R) : b < w.heap.size := by
  obtain ⟨-, l, ho, -⟩ := h
  exact ho.lt
theorem PlIs.heap (h : PlIs w b R) (he : w'.heap[b]? = w.heap[b]?) : PlIs w' b R := by
  obtain ⟨hw, l, ho, hp⟩ := h
  exact ⟨hw, l, own_heap ho he, hp⟩
theorem PlIs.chg {F : Nat → Prop} (h : PlIs w b R) (hc : Chg F w w') (hF : ¬ F b) : PlIs w' b R := h.heap (hc.block b h.lt hF)
theorem PlIs.below {B : Nat} (h : PlIs w b R) (hb : Below B w w') (hlt : b < B) : PlIs w' b R := h.heap (hb.block b hlt)
theorem PlIs.alloc (h : PlIs w b R) (o : Obj) : PlIs (w.alloc o) b R := h.below ((Below.refl w.heap.size w).alloc (Nat.le_refl _) o) h.lt
theorem PlIs.drew (h : PlIs w b R) : PlIs w.drew b R := h.heap rfl
theorem PlIs.setCell (h : PlIs w b R) {a : Addr} (ha : b ≠ a.block) (u : Value) : PlIs (w.setCell a u) b R := h.heap (RowKit.Below.heap_setCell _ _ _ _ ha)
theorem PlIs.made (w : World) : PlIs (w.alloc (.map #[] 0)) w.heap.size [] := ⟨fun r h => (by cases h), [], World.ownsMap_made _ _ _ _, List.Perm.refl _⟩
end
/-- The one of a key. -/
def getP (R : List Pl) (k : Ky) : Option Pl := R.find? fun r => sameKy (r.k) k
theorem getP_some {R : List Pl} {k : Ky} {r : Pl} (h : getP R k = some r) : r ∈ R ∧ r.k = k := by
  unfold getP at h
  exact ⟨List.mem_of_find?_eq_some h, (sameKy_iff _ _).1 (List.find?_some (p := fun r : Pl => sameKy (r.k) k) h)⟩
theorem getP_none {R : List Pl} {k : Ky} (h : getP R k = none) : ∀ r ∈ R, r.k ≠ k := by
  unfold getP at h
  rw [List.find?_eq_none] at h
  exact fun r hr e => h r hr ((sameKy_iff _ _).2 e)
section
variable {w : World} {b : Nat} {R : List Pl} {k : Ky}
theorem PlIs.len (h : PlIs w b R) (ty : TypeId) : (Builtin.len_ #[101] ty #[.map (some b)]).run Try.prog w = .ok (.int .i64 (R.length : Int)) w := by
  obtain ⟨hw, l, ho, hp⟩ := h
  rw [ho.len Try.underlying101 ty, Maps.size_eq, hp.length_eq, List.length_map]
/-- Those of other keys. -/
def restP (R : List Pl) (k : Ky) : List Pl := R.filter fun s => !sameKy (s.k) k
theorem mem_restP {s : Pl} : s ∈ restP R k ↔ s ∈ R ∧ s.k ≠ k := by
  unfold restP
  rw [List.mem_filter]
  have := sameKy_iff (s.k) k
  simp [← this]
theorem filter_plE (hw : ∀ r ∈ R, wfKy (r.k)) (hk : wfKy k) : (R.map plE).filter (notKey (kyLit k)) = (restP R k).map plE := by
  rw [List.filter_map]
  unfold restP
  congr 1
  refine List.filter_congr (fun s hs => ?_)
  show (!(kyLit (s.k)).sameKey (kyLit k)) = _
  rw [sameKey_ky (hw s hs) hk]
/-- 'm[k] = v'. -/
theorem PlIs.put (h : PlIs w b R) (r : Pl) (hk : wfKy (r.k)) (hn : R.length < maxLen) :
    ∃ w', (Instr.mapUpdate 101 (.map (some b)) (.agg #[.int .i64 r.k.kind, .int .i64 r.k.id, .int .i64 r.k.adv]) (plVal r)).run Try.prog w = .ok () w' ∧ PlIs w' b (r :: restP R (r.k)) ∧ w.mapTurned w' b := by
  obtain ⟨hw, l, ho, hp⟩ := h
  obtain ⟨w', h1, h2, h3⟩ := ho.store keyed7 Try.underlying101 hn (keyOf_ky hk) (val := plVal r) (d := .held (plVal r)) (ps := []) rfl
  rw [DataW.put_eq] at h2
  have hp2 : (putKey (kyLit (r.k)) (.held (plVal r)) l).Perm ((r :: restP R (r.k)).map plE) := by
    refine (WideShapes.insert_perm _ _).trans ?_
    rw [List.map_cons]
    refine List.Perm.cons _ ?_
    rw [← filter_plE hw hk]
    exact hp.filter _
  have h4 := own_tight h2
  rw [hp2.length_eq, List.length_map] at h4
  refine ⟨w', h1, ⟨fun s hs => ?_, _, h4, hp2⟩, h3⟩
  rcases List.mem_cons.1 hs with rfl | hs
  · exact hk
  · exact hw s (mem_restP.1 hs).1
end

end Go.Proofs.Ytfdfdmbnggpnbaa
namespace Go.Proofs.Ytfdfdmbnggpnbaa
open Go.RowKit Go.Lib Go.Sort Go.Deep

/-- At which place a key stands. -/
def placeK (out : List Hd) (k : Ky) : Option Nat := out.findIdx? fun h => sameKy (keyH h) k
/-- R tells at which place each key of out stands. -/
structure PlOk (out : List Hd) (R : List Pl) : Prop where
  len : R.length = out.length
  at_ : ∀ r ∈ R, ∃ h, out[r.i]? = some h ∧ keyH h = r.k
  of : ∀ i h, out[i]? = some h → ∃ r ∈ R, r.k = keyH h ∧ r.i = i
theorem PlOk.nil : PlOk [] [] := ⟨rfl, fun r hr => (by cases hr), fun i h hi => (by simp at hi)⟩
theorem PlOk.none {out : List Hd} {R : List Pl} (h : PlOk out R) {k : Ky} (hg : getP R k = none) : placeK out k = none ∧ ∀ x ∈ out, keyH x ≠ k := by
  have h1 : ∀ x ∈ out, keyH x ≠ k := fun x hx e => by
    obtain ⟨i, hi⟩ := List.getElem?_of_mem hx
    obtain ⟨r, hr, e1, -⟩ := h.of i x hi
    exact getP_none hg r hr (e1.trans e)
  refine ⟨?_, h1⟩
  unfold placeK
  rw [List.findIdx?_eq_none_iff]
  intro x hx
  cases hs : sameKy (keyH x) k
  · rfl
  · exact absurd ((sameKy_iff _ _).1 hs) (h1 x hx)
theorem PlOk.some {out : List Hd} {R : List Pl} (h : PlOk out R) (hn : R.Pairwise fun r s => r.k ≠ s.k) {k : Ky} {r : Pl} (hg : getP R k = some r) : placeK out k = some r.i ∧ ∃ g, out[r.i]? = some g ∧ keyH g = k := by
  obtain ⟨hr, e⟩ := getP_some hg
  obtain ⟨g, hg1, hg2⟩ := h.at_ r hr
  have hlt := (List.getElem?_eq_some_iff.1 hg1).1
  refine ⟨?_, g, hg1, hg2.trans e⟩
  unfold placeK
  rw [List.findIdx?_eq_some_iff_getElem]
  refine ⟨hlt, ?_, fun j hj => ?_⟩
  · rw [(List.getElem?_eq_some_iff.1 hg1).2, (sameKy_iff _ _).2 (hg2.trans e)]
  · intro hs
    have hjl : j < out.length := by omega
    obtain ⟨r2, hr2, e2, e3⟩ := h.of j out[j] (List.getElem?_eq_getElem hjl)
    have e4 : r2.k = r.k := by rw [e2, (sameKy_iff _ _).1 hs, e]
    have := pw_eq hn r2 hr2 r hr e4
    rw [this] at e3
    omega
theorem PlOk.set {out : List Hd} {R : List Pl} (h : PlOk out R) {i : Nat} {g : Hd} (hi : out[i]? = Option.some g) (x : Hd) (hk : keyH x = keyH g) : PlOk (out.set i x) R := by
  have hlt := (List.getElem?_eq_some_iff.1 hi).1
  refine ⟨by rw [List.length_set]; exact h.len, fun r hr => ?_, fun j y hj => ?_⟩
  · obtain ⟨y, hy1, hy2⟩ := h.at_ r hr
    by_cases e : r.i = i
    · refine ⟨x, by rw [e, List.getElem?_set_self hlt], ?_⟩
      rw [hk, ← hy2]
      rw [e, hi] at hy1
      injection hy1 with hy1
      rw [hy1]
    · exact ⟨y, by rw [List.getElem?_set_ne (Ne.symm e)]; exact hy1, hy2⟩
  · by_cases e : j = i
    · subst e
      rw [List.getElem?_set_self hlt] at hj
      injection hj with hj
      subst hj
      obtain ⟨r, hr, e1, e2⟩ := h.of j g hi
      exact ⟨r, hr, e1.trans hk.symm, e2⟩
    · rw [List.getElem?_set_ne (Ne.symm e)] at hj
      exact h.of j y hj
/-- A database, or none, in memory. -/
def DbV (w : World) (v : Value) (S : List La) (F : Nat → Prop) : Prop := (v = .pointer none ∧ S = []) ∨ ∃ (lo p : Nat) (room : Int), v = .pointer (some ⟨p, 0, none⟩) ∧ PDb w lo p room S F ∧ SortL S
theorem DbV.below {w w' : World} {v : Value} {S : List La} {F : Nat → Prop} (h : DbV w v S F) (hb : Below w.heap.size w w') : DbV w' v S F := by
  rcases h with h | ⟨lo, p, room, e, hd, hs⟩
  · exact .inl h
  · exact .inr ⟨lo, p, room, e, hd.chg (Chg.of_below (F := fun _ => False) hb) (fun _ _ hf => hf), hs⟩
end Go.Proofs.Ytfdfdmbnggpnbaa
namespace Go.Proofs.Ytfdfdmbnggpnbaa
open Go.RowKit Go.Lib Go.Sort Go.Deep

theorem setAll_is (post : List Value) : ∀ (vs rest pre : List Value), rest.length = vs.length → setAll (pre ++ rest ++ post) pre.length vs = pre ++ vs ++ post
  | [], rest, pre, hl => by
    have : rest = [] := List.eq_nil_of_length_eq_zero hl
    subst this
    rfl
  | v :: r, [], pre, hl => by simp at hl
  | v :: r, u :: rest, pre, hl => by
    have h2 := setAll_is post r rest (pre ++ [v]) (by simpa using hl)
    rw [List.length_append, List.length_singleton] at h2
    unfold setAll
    have e : (pre ++ u :: rest ++ post).set pre.length v = (pre ++ [v]) ++ rest ++ post := by simp
    rw [e, h2]
    simp

theorem own_putH {w : World} {base n b c j : Nat} {L : List Hd} (h : w.ownsRow base 43 7 (.slice (some ⟨b, 0, none⟩) n c) n (cellsBy encHd L)) (hj : j < L.length) (y : Hd) :
    (w.setCells b (j * 7) (encHd y)).ownsRow base 43 7 (.slice (some ⟨b, 0, none⟩) n c) n (cellsBy encHd (L.set j y)) := by
  have h1 := own_setCells (encHd y) (j * 7) w _ h
  have e0 : L = L.take j ++ [L[j]] ++ L.drop (j + 1) := by simp
  have e1 : setAll (cellsBy encHd L) (j * 7) (encHd y) = cellsBy encHd (L.set j y) := by
    have hl : (cellsBy encHd (L.take j)).length = j * 7 := by rw [by_length encHd_len]; simp; omega
    have e2 : cellsBy encHd L = cellsBy encHd (L.take j) ++ encHd L[j] ++ cellsBy encHd (L.drop (j + 1)) := by
      conv => lhs; rw [e0]
      rw [by_append, by_append, by_one]
    rw [e2, ← hl, setAll_is _ (encHd y) (encHd L[j]) (cellsBy encHd (L.take j)) rfl, List.set_eq_take_append_cons_drop, if_pos hj, by_append, by_cons]
    simp
  rw [e1] at h1
  exact h1
theorem own_thereH {w : World} {base n c k size g : Nat} {t : TypeId} {xs : List Value} (h : w.ownsRow base t size (.slice (some ⟨g, 0, none⟩) n c) n xs) (hk : k < n) : w.there g (k * size) size := by
  rcases h.2 with ⟨hv, _⟩ | ⟨g', cap, cur, hv, hb, hg, h1, h2, h3, h4⟩
  · cases hv
  · cases hv
    have hB : Blk w g t cur := hg
    have h5 : (k + 1) * size ≤ c * size := Nat.mul_le_mul_right _ (by omega)
    rw [Nat.succ_mul] at h5
    intro j hj
    refine ⟨?_, hB.frozen _⟩
    rw [hB.cell, Array.getElem?_eq_getElem (by omega)]
    rfl
/-- A head stored over an item of a row. -/
theorem wpList_over_hd {ops : Array Oper} {rest : List Oper} {op : Oper} {a : Act} {w : World} {Q : Exit → Act → World → Prop} {base n c g k : Nat} {L : List Hd} (y : Hd) (hg : op.guard = none) (x v : Operand) (ho : op.op = .store 43 x v) (hx : a.eval x = .pointer (some ⟨g, k * 7, none⟩)) (hv : a.eval v = .agg #[.int .i64 y.age, .int .i64 y.kind, .int .i64 y.id, .int .i64 y.adv, .int .i64 y.seq, .int .i64 y.sum, .int .i64 y.long])
    (hown : w.ownsRow base 43 7 (.slice (some ⟨g, 0, none⟩) n c) n (cellsBy encHd L)) (hk : k < n)
    (hn : ∀ w', Hid (w'.ownsRow base 43 7 (.slice (some ⟨g, 0, none⟩) n c) n (cellsBy encHd (L.set k y))) → Hid (Chg (fun q => q = g) w w') → wpList Try.prog ops Q rest (a.put op.dst undef) w') : wpList Try.prog ops Q (op :: rest) a w :=
  wpList_store_mid hg 43 x v ho g (k * 7) (encHd y).toArray hx hv (own_thereH hown hk) (by kernel_rfl) (all_oneCell_toArray (encHd_ones y)) (hn _ (Lib.hid (own_putH hown (by rw [own_lenH encHd_len (by omega) hown]; exact hk) y)) (Lib.hid (chg_setCells g _ _ _)))
theorem hds_item {w : World} {B n k : Nat} {A : Option Addr} {L : List Hd} (h : Hds w B A n L) (hk : k < n) : ∃ (b o : Nat) (x : Hd), A = some ⟨b, o, none⟩ ∧ b < B ∧ L[k]? = some x ∧ w.rangeAt b (o + k * 7) [.int .i64 x.age, .int .i64 x.kind, .int .i64 x.id, .int .i64 x.adv, .int .i64 x.seq, .int .i64 x.sum, .int .i64 x.long] := by
  obtain ⟨b, o, x, rfl, hb, hx, hh⟩ := Arr.at h hk
  exact ⟨b, o, x, rfl, hb, hx, HdAt.range hh⟩
end Go.Proofs.Ytfdfdmbnggpnbaa
