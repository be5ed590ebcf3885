/- A tick, as what it makes of the list that a database holds, one by one: plain facts. No conditions. · The program's Tick. Conditions: what the words say. · A map of the places at which keys stand: what it holds, and what its operations make of that. Conditions: keys of 64 bits. · What a database lacks of a head; Get of one that is not there. Conditions: keys of 64 bits, ages from 0 to 60 where they are compared. · Lacks. Conditions: at most 100 heads, keys of 64 bits, ages from 0 to 60 where they are compared. · Heads, lists of heads and of descriptions that came in. No conditions. -/
import Derived.Deep.MidRow
import Derived.Test.YtnnkcgbnhjkahaaJap
import Derived.Test.YtnnkcgbnhjkahaaJao
import Derived.Test.YtnnkcgbnhjkahaaJan
import Derived.Test.YtnnkcgbnhjkahaaJaq
namespace Go.Proofs.Ytnnkcgbnhjkahaa

/-- The first j are a tick on. -/
def tickUp (S : List La) (j : Nat) : List La := (S.take j).map tickL ++ S.drop j
end Go.Proofs.Ytnnkcgbnhjkahaa
namespace Go.Proofs.Ytnnkcgbnhjkahaa
open Go.RowKit

/-- How far a tick is: behind j keys. -/
def TickIs (w w1 wr : World) (lo b : Nat) (S : List La) (F : Nat → Prop) (j : Nat) : Prop :=
  ∃ (R : List Rc) (T : List La), MapIs wr b R ∧ All2 (RcIs w lo) R T ∧ T.Perm (tickUp S j) ∧ (∀ r ∈ R, ∀ q, rcFoot r q → F q) ∧ Chg (fun q => q = b) w1 wr
theorem TickIs.below {w w1 wr w2 : World} {lo b : Nat} {S : List La} {F : Nat → Prop} {j : Nat} (h : TickIs w w1 wr lo b S F j) (hb : Below wr.heap.size wr w2) : TickIs w w1 w2 lo b S F j := by
  obtain ⟨R, T, h1, h2, h3, h4, h5⟩ := h
  exact ⟨R, T, h1.below hb h1.lt, h2, h3, h4, h5.below hb⟩
/-- An append to the list of keys leaves it. -/
theorem TickIs.grown {w w1 w5 w6 : World} {lo b base m : Nat} {S : List La} {F : Nat → Prop} {j : Nat} {t : TypeId} {size : Nat} {v : Value} {xs : List Value} {o : Obj} (h : TickIs w w1 w5 lo b S F j) (ho : w5.ownsRow base t size v m xs) (hb : w1.heap.size ≤ base) (hg : (w5.alloc o).grownBy w6 v.ownBlock) : TickIs w w1 w6 lo b S F j := by
  obtain ⟨R, T, h1, h2, h3, h4, h5⟩ := h
  have hc : Chg (fun q => v.ownBlock = some q) w5 w6 := (Chg.of_below (F := fun q => v.ownBlock = some q) ((Below.refl w5.heap.size w5).alloc (Nat.le_refl _) o)).trans (Chg.of_grown hg (fun q hq => hq)) (fun q hq => .inl hq)
  exact ⟨R, T, h1.chg hc (own_ne_map h1 ho), h2, h3, h4, h5.trans hc (fun q hq => .inr (Nat.le_trans hb (ho.lt q hq).1))⟩
end Go.Proofs.Ytnnkcgbnhjkahaa
namespace Go.Proofs.Ytnnkcgbnhjkahaa
open Go.RowKit
open Go.Maps (Keyed)
open Go.ChangeMaps (notKey putKey delKey)

theorem zero_int13 (w : World) : (zeroValue 3).run Try.prog w = .ok (.int .i64 0) w := by kernel_rfl
/-- At which place a key stands. -/
structure Pl where
  k : Ky
  i : Nat
def plVal (r : Pl) : Value := .int .i64 (r.i : Int)
def plE (r : Pl) : Lit × DataW Value := (kyLit (r.k), .held (plVal r))
/-- Block b is a map that holds just the places of R, each under its key. -/
def PlIs (w : World) (b : Nat) (R : List Pl) : Prop :=
  (∀ r ∈ R, wfKy (r.k)) ∧ ∃ l : List (Lit × DataW Value), w.ownsMap Try.prog 47 asIs b R.length (.map l) ∧ l.Perm (R.map plE)

section
variable {w w' : World} {b : Nat} {R : List Pl}
theorem PlIs.lt (h : PlIs w b R) : b < w.heap.size := by
  obtain ⟨-, l, ho, -⟩ := h
  exact ho.lt
theorem PlIs.heap (h : PlIs w b R) (he : w'.heap[b]? = w.heap[b]?) : PlIs w' b R := by
  obtain ⟨hw, l, ho, hp⟩ := h
  exact ⟨hw, l, own_heap ho he, hp⟩
theorem PlIs.chg {F : Nat → Prop} (h : PlIs w b R) (hc : Chg F w w') (hF : ¬ F b) : PlIs w' b R := h.heap (hc.block b h.lt hF)
theorem PlIs.below {B : Nat} (h : PlIs w b R) (hb : Below B w w') (hlt : b < B) : PlIs w' b R := h.heap (hb.block b hlt)
theorem PlIs.alloc (h : PlIs w b R) (o : Obj) : PlIs (w.alloc o) b R := h.below ((Below.refl w.heap.size w).alloc (Nat.le_refl _) o) h.lt
theorem PlIs.drew (h : PlIs w b R) : PlIs w.drew b R := h.heap rfl
theorem PlIs.setCell (h : PlIs w b R) {a : Addr} (ha : b ≠ a.block) (u : Value) : PlIs (w.setCell a u) b R := h.heap (RowKit.Below.heap_setCell _ _ _ _ ha)
theorem PlIs.made (w : World) : PlIs (w.alloc (.map #[] 0)) w.heap.size [] := ⟨fun r h => (by cases h), [], World.ownsMap_made _ _ _ _, List.Perm.refl _⟩
/-- No key stands twice. -/
theorem PlIs.nodup (h : PlIs w b R) : R.Pairwise fun r s => r.k ≠ s.k := by
  obtain ⟨hw, l, ho, hp⟩ := h
  obtain ⟨es, he, hpw⟩ := ho.tidy keyed7
  injection he with he
  subst he
  have h1 := (hp.pairwise_iff (fun {_ _} hne => Ne.symm hne)).1 hpw
  rw [List.pairwise_map] at h1
  exact h1.imp (fun hne e => hne (by unfold plE; rw [e]))
end
/-- The one of a key. -/
def getP (R : List Pl) (k : Ky) : Option Pl := R.find? fun r => sameKy (r.k) k
theorem getP_some {R : List Pl} {k : Ky} {r : Pl} (h : getP R k = some r) : r ∈ R ∧ r.k = k := by
  unfold getP at h
  exact ⟨List.mem_of_find?_eq_some h, (sameKy_iff _ _).1 (List.find?_some (p := fun r : Pl => sameKy (r.k) k) h)⟩
theorem getP_none {R : List Pl} {k : Ky} (h : getP R k = none) : ∀ r ∈ R, r.k ≠ k := by
  unfold getP at h
  rw [List.find?_eq_none] at h
  exact fun r hr e => h r hr ((sameKy_iff _ _).2 e)
section
variable {w : World} {b : Nat} {R : List Pl} {k : Ky}
/-- What stands at a key. -/
theorem pl_at (hw : ∀ r ∈ R, wfKy (r.k)) (hn : R.Pairwise fun r s => r.k ≠ s.k) {l : List (Lit × DataW Value)} (hp : l.Perm (R.map plE)) (hk : wfKy k) :
    (∀ z, getP R k = none → (DataW.map l).atKey (kyLit k) z = z ∧ Maps.has (DataW.map l) (kyLit k) = false) ∧ (∀ r z, getP R k = some r → (DataW.map l).atKey (kyLit k) z = .held (plVal r) ∧ Maps.has (DataW.map l) (kyLit k) = true) := by
  have back : ∀ p ∈ l, p.1.sameKey (kyLit k) = true → ∃ r ∈ R, r.k = k ∧ p = plE r := fun p hpl hs => by
    obtain ⟨r, hr, rfl⟩ := List.mem_map.1 (hp.mem_iff.1 hpl)
    refine ⟨r, hr, ?_, rfl⟩
    have h1 : (kyLit (r.k)).sameKey (kyLit k) = true := hs
    rw [sameKey_ky (hw r hr) hk] at h1
    exact (sameKy_iff _ _).1 h1
  constructor
  · intro z hg
    have hno : ∀ p ∈ l, ¬ p.1.sameKey (kyLit k) = true := fun p hpl hs => by
      obtain ⟨r, hr, e, _⟩ := back p hpl hs
      exact getP_none hg r hr e
    refine ⟨?_, ?_⟩
    · simp only [DataW.atKey, List.find?_eq_none.2 hno]
    · unfold Maps.has
      rw [List.any_eq_false]
      exact hno
  · intro r z hg
    obtain ⟨hr, e⟩ := getP_some hg
    have hm : plE r ∈ l := hp.mem_iff.2 (List.mem_map.2 ⟨r, hr, rfl⟩)
    have hs : (plE r).1.sameKey (kyLit k) = true := by
      show (kyLit (r.k)).sameKey (kyLit k) = true
      rw [sameKey_ky (hw r hr) hk]
      exact (sameKy_iff _ _).2 e
    refine ⟨?_, ?_⟩
    · cases hf : l.find? (fun p => p.1.sameKey (kyLit k)) with
      | none => exact absurd hs (List.find?_eq_none.1 hf _ hm)
      | some p =>
        obtain ⟨s, hs1, hs2, rfl⟩ := back p (List.mem_of_find?_eq_some hf) (List.find?_some (p := fun p : Lit × DataW Value => p.1.sameKey (kyLit k)) hf)
        have e2 := pw_eq hn s hs1 r hr (hs2.trans e.symm)
        subst e2
        simp only [DataW.atKey, hf]
        rfl
    · unfold Maps.has
      rw [List.any_eq_true]
      exact ⟨_, hm, hs⟩
/-- 'v, is := m[k]', of a key that is there. -/
theorem PlIs.look_some (h : PlIs w b R) (hk : wfKy k) {r : Pl} (hg : getP R k = some r) :
    (Instr.lookup 92 (.map (some b)) (.agg #[.int .i64 k.kind, .int .i64 k.id, .int .i64 k.adv]) true).run Try.prog w = .ok (.tuple #[plVal r, .bool true]) w ∧
    (Instr.lookup 92 (.map (some b)) (.agg #[.int .i64 k.kind, .int .i64 k.id, .int .i64 k.adv]) false).run Try.prog w = .ok (plVal r) w := by
  have hn := h.nodup
  obtain ⟨hw, l, ho, hp⟩ := h
  have hat := (pl_at hw hn hp hk).2 r
  obtain ⟨v, ps, h1, h2⟩ := ho.look_ok keyed7 Try.underlying92 (zero_int13 w) (zd := .held _) (zp := []) rfl (keyOf_ky hk)
  obtain ⟨v', ps', h1', h2'⟩ := ho.lookup keyed7 Try.underlying92 (zero_int13 w) (zd := .held _) (zp := []) rfl (keyOf_ky hk)
  rw [(hat _ hg).1] at h2 h2'
  rw [(hat (.held undef) hg).2, asIs_inj h2] at h1
  rw [asIs_inj h2'] at h1'
  exact ⟨h1, h1'⟩
theorem PlIs.look_none (h : PlIs w b R) (hk : wfKy k) (hg : getP R k = none) :
    (Instr.lookup 92 (.map (some b)) (.agg #[.int .i64 k.kind, .int .i64 k.id, .int .i64 k.adv]) true).run Try.prog w = .ok (.tuple #[.int .i64 0, .bool false]) w := by
  have hn := h.nodup
  obtain ⟨hw, l, ho, hp⟩ := h
  have hat := (pl_at hw hn hp hk).1
  obtain ⟨v, ps, h1, h2⟩ := ho.look_ok keyed7 Try.underlying92 (zero_int13 w) (zd := .held _) (zp := []) rfl (keyOf_ky hk)
  rw [(hat _ hg).1] at h2
  rw [(hat (.held undef) hg).2, asIs_inj h2] at h1
  exact h1
theorem PlIs.len (h : PlIs w b R) (ty : TypeId) : (Builtin.len_ #[92] ty #[.map (some b)]).run Try.prog w = .ok (.int .i64 (R.length : Int)) w := by
  obtain ⟨hw, l, ho, hp⟩ := h
  rw [ho.len Try.underlying92 ty, Maps.size_eq, hp.length_eq, List.length_map]
/-- Those of other keys. -/
def restP (R : List Pl) (k : Ky) : List Pl := R.filter fun s => !sameKy (s.k) k
theorem mem_restP {s : Pl} : s ∈ restP R k ↔ s ∈ R ∧ s.k ≠ k := by
  unfold restP
  rw [List.mem_filter]
  have := sameKy_iff (s.k) k
  simp [← this]
theorem filter_plE (hw : ∀ r ∈ R, wfKy (r.k)) (hk : wfKy k) : (R.map plE).filter (notKey (kyLit k)) = (restP R k).map plE := by
  rw [List.filter_map]
  unfold restP
  congr 1
  refine List.filter_congr (fun s hs => ?_)
  show (!(kyLit (s.k)).sameKey (kyLit k)) = _
  rw [sameKey_ky (hw s hs) hk]
/-- 'm[k] = v'. -/
theorem PlIs.put (h : PlIs w b R) (r : Pl) (hk : wfKy (r.k)) (hn : R.length < maxLen) :
    ∃ w', (Instr.mapUpdate 92 (.map (some b)) (.agg #[.int .i64 r.k.kind, .int .i64 r.k.id, .int .i64 r.k.adv]) (plVal r)).run Try.prog w = .ok () w' ∧ PlIs w' b (r :: restP R (r.k)) ∧ w.mapTurned w' b := by
  obtain ⟨hw, l, ho, hp⟩ := h
  obtain ⟨w', h1, h2, h3⟩ := ho.store keyed7 Try.underlying92 hn (keyOf_ky hk) (val := plVal r) (d := .held (plVal r)) (ps := []) rfl
  rw [DataW.put_eq] at h2
  have hp2 : (putKey (kyLit (r.k)) (.held (plVal r)) l).Perm ((r :: restP R (r.k)).map plE) := by
    refine (WideShapes.insert_perm _ _).trans ?_
    rw [List.map_cons]
    refine List.Perm.cons _ ?_
    rw [← filter_plE hw hk]
    exact hp.filter _
  have h4 := own_tight h2
  rw [hp2.length_eq, List.length_map] at h4
  refine ⟨w', h1, ⟨fun s hs => ?_, _, h4, hp2⟩, h3⟩
  rcases List.mem_cons.1 hs with rfl | hs
  · exact hk
  · exact hw s (mem_restP.1 hs).1
end

theorem PlIs.ne_blk {w : World} {b g : Nat} {R : List Pl} {t : TypeId} {cs : Array Value} (h : PlIs w b R) (hB : Blk w g t cs) : g ≠ b := by
  rintro rfl
  obtain ⟨-, l, ⟨es, clock, hb, -⟩, -⟩ := h
  have h1 : w.heap[g]? = some (.cells cs t (0, 0)) := hB
  rw [hb] at h1
  cases h1
theorem PlIs.ne_own {w : World} {base n size b : Nat} {R : List Pl} {t : TypeId} {v : Value} {xs : List Value} (h : PlIs w b R) (ho : w.ownsRow base t size v n xs) : v.ownBlock ≠ some b := by
  intro e
  obtain ⟨-, l, ⟨es, clock, hb, -⟩, -⟩ := h
  rcases ho.2 with ⟨rfl, _⟩ | ⟨g, cap, cur, rfl, _, hg, _⟩
  · cases e
  · injection e with e
    subst e
    rw [hb] at hg
    cases hg
/-- 'm[k] = i' as the next operation of a plain region's list. -/
theorem wpList_putP {ops : Array Oper} {rest : List Oper} {o : Oper} {a : Act} {w : World} {Q : Exit → Act → World → Prop} {b : Nat} {R : List Pl} (r : Pl) (hg : o.guard = none) (m x v : Operand) (hop : o.op = Op.mapUpdate 92 m x v) (hm : a.eval m = .map (some b)) (hx : a.eval x = .agg #[.int .i64 r.k.kind, .int .i64 r.k.id, .int .i64 r.k.adv]) (hv : a.eval v = .int .i64 (r.i : Int))
    (h : PlIs w b R) (hk : wfKy r.k) (hn : R.length < maxLen) (hK : ∀ w', PlIs w' b (r :: restP R r.k) → w.mapTurned w' b → wpList Try.prog ops Q rest (a.put o.dst undef) w') : wpList Try.prog ops Q (o :: rest) a w := by
  refine wpList_plain hg fun K' hK' => ?_
  obtain ⟨w', hrun, r1, r2⟩ := h.put r hk hn
  have hv2 : a.eval v = plVal r := hv
  unfold Oper.wp
  simp [execOp, hop, hm, hx, hv2, hrun, Result.andThen]
  exact hK' _ _ (hK w' r1 r2)
end Go.Proofs.Ytnnkcgbnhjkahaa
namespace Go.Proofs.Ytnnkcgbnhjkahaa
open Go.RowKit Go.Lib Go.Sort Go.Deep

/-- Does a database that holds S lack a head? -/
def lackB (S : List La) (h : Hd) : Bool := match getL S (keyH h) with
  | none => true
  | some x => decide (0 < nw h x.h)
/-- At which place a key stands. -/
def placeK (out : List Hd) (k : Ky) : Option Nat := out.findIdx? fun h => sameKy (keyH h) k
/-- One head more. -/
def lackStep (S : List La) (out : List Hd) (h : Hd) : List Hd := if lackB S h = true then (match placeK out (keyH h) with
  | none => out ++ [h]
  | some i => match out[i]? with
    | some g => if 0 < nw h g then out.set i h else out
    | none => out) else out
/-- What it lacks of heads. -/
def lacksL (S : List La) (L : List Hd) : List Hd := L.foldl (lackStep S) []
theorem lacksL_snoc (S : List La) (L : List Hd) (h : Hd) : lacksL S (L ++ [h]) = lackStep S (lacksL S L) h := by
  unfold lacksL
  rw [List.foldl_append]
  rfl
/-- R tells at which place each key of out stands. -/
structure PlOk (out : List Hd) (R : List Pl) : Prop where
  len : R.length = out.length
  at_ : ∀ r ∈ R, ∃ h, out[r.i]? = some h ∧ keyH h = r.k
  of : ∀ i h, out[i]? = some h → ∃ r ∈ R, r.k = keyH h ∧ r.i = i
theorem PlOk.nil : PlOk [] [] := ⟨rfl, fun r hr => (by cases hr), fun i h hi => (by simp at hi)⟩
theorem PlOk.none {out : List Hd} {R : List Pl} (h : PlOk out R) {k : Ky} (hg : getP R k = none) : placeK out k = none ∧ ∀ x ∈ out, keyH x ≠ k := by
  have h1 : ∀ x ∈ out, keyH x ≠ k := fun x hx e => by
    obtain ⟨i, hi⟩ := List.getElem?_of_mem hx
    obtain ⟨r, hr, e1, -⟩ := h.of i x hi
    exact getP_none hg r hr (e1.trans e)
  refine ⟨?_, h1⟩
  unfold placeK
  rw [List.findIdx?_eq_none_iff]
  intro x hx
  cases hs : sameKy (keyH x) k
  · rfl
  · exact absurd ((sameKy_iff _ _).1 hs) (h1 x hx)
theorem PlOk.some {out : List Hd} {R : List Pl} (h : PlOk out R) (hn : R.Pairwise fun r s => r.k ≠ s.k) {k : Ky} {r : Pl} (hg : getP R k = some r) : placeK out k = some r.i ∧ ∃ g, out[r.i]? = some g ∧ keyH g = k := by
  obtain ⟨hr, e⟩ := getP_some hg
  obtain ⟨g, hg1, hg2⟩ := h.at_ r hr
  have hlt := (List.getElem?_eq_some_iff.1 hg1).1
  refine ⟨?_, g, hg1, hg2.trans e⟩
  unfold placeK
  rw [List.findIdx?_eq_some_iff_getElem]
  refine ⟨hlt, ?_, fun j hj => ?_⟩
  · rw [(List.getElem?_eq_some_iff.1 hg1).2, (sameKy_iff _ _).2 (hg2.trans e)]
  · intro hs
    have hjl : j < out.length := by omega
    obtain ⟨r2, hr2, e2, e3⟩ := h.of j out[j] (List.getElem?_eq_getElem hjl)
    have e4 : r2.k = r.k := by rw [e2, (sameKy_iff _ _).1 hs, e]
    have := pw_eq hn r2 hr2 r hr e4
    rw [this] at e3
    omega
theorem PlOk.snoc {out : List Hd} {R : List Pl} (h : PlOk out R) (x : Hd) (hg : getP R (keyH x) = Option.none) : PlOk (out ++ [x]) (⟨keyH x, out.length⟩ :: restP R (keyH x)) := by
  have hR : restP R (keyH x) = R := by
    unfold restP
    rw [List.filter_eq_self]
    intro s hs
    cases hk : sameKy s.k (keyH x)
    · rfl
    · exact absurd ((sameKy_iff _ _).1 hk) (getP_none hg s hs)
  rw [hR]
  refine ⟨by simp [h.len], fun r hr => ?_, fun i y hi => ?_⟩
  · rcases List.mem_cons.1 hr with rfl | hr
    · exact ⟨x, by simp, rfl⟩
    · obtain ⟨g, hg1, hg2⟩ := h.at_ r hr
      have hlt := (List.getElem?_eq_some_iff.1 hg1).1
      exact ⟨g, by rw [List.getElem?_append_left hlt]; exact hg1, hg2⟩
  · by_cases hlt : i < out.length
    · rw [List.getElem?_append_left hlt] at hi
      obtain ⟨r, hr, e1, e2⟩ := h.of i y hi
      exact ⟨r, List.mem_cons_of_mem _ hr, e1, e2⟩
    · rw [List.getElem?_append_right (by omega)] at hi
      have h0 : i - out.length = 0 := by
        rcases Nat.eq_zero_or_pos (i - out.length) with h0 | h0
        · exact h0
        · rw [List.getElem?_eq_none (by simp; omega)] at hi
          cases hi
      rw [h0] at hi
      injection hi with hi
      subst hi
      exact ⟨_, List.mem_cons_self, rfl, by show out.length = i; omega⟩
theorem PlOk.set {out : List Hd} {R : List Pl} (h : PlOk out R) {i : Nat} {g : Hd} (hi : out[i]? = Option.some g) (x : Hd) (hk : keyH x = keyH g) : PlOk (out.set i x) R := by
  have hlt := (List.getElem?_eq_some_iff.1 hi).1
  refine ⟨by rw [List.length_set]; exact h.len, fun r hr => ?_, fun j y hj => ?_⟩
  · obtain ⟨y, hy1, hy2⟩ := h.at_ r hr
    by_cases e : r.i = i
    · refine ⟨x, by rw [e, List.getElem?_set_self hlt], ?_⟩
      rw [hk, ← hy2]
      rw [e, hi] at hy1
      injection hy1 with hy1
      rw [hy1]
    · exact ⟨y, by rw [List.getElem?_set_ne (Ne.symm e)]; exact hy1, hy2⟩
  · by_cases e : j = i
    · subst e
      rw [List.getElem?_set_self hlt] at hj
      injection hj with hj
      subst hj
      obtain ⟨r, hr, e1, e2⟩ := h.of j g hi
      exact ⟨r, hr, e1.trans hk.symm, e2⟩
    · rw [List.getElem?_set_ne (Ne.symm e)] at hj
      exact h.of j y hj
def zeroLa : La := ⟨⟨0, 0, 0, 0, 0, 0, 0⟩, [], []⟩
/-- A database, or none, in memory. -/
def DbV (w : World) (v : Value) (S : List La) (F : Nat → Prop) : Prop := (v = .pointer none ∧ S = []) ∨ ∃ (lo p : Nat) (room : Int), v = .pointer (some ⟨p, 0, none⟩) ∧ PDb w lo p room S F ∧ SortL S
theorem DbV.below {w w' : World} {v : Value} {S : List La} {F : Nat → Prop} (h : DbV w v S F) (hb : Below w.heap.size w w') : DbV w' v S F := by
  rcases h with h | ⟨lo, p, room, e, hd, hs⟩
  · exact .inl h
  · exact .inr ⟨lo, p, room, e, hd.chg (Chg.of_below (F := fun _ => False) hb) (fun _ _ hf => hf), hs⟩
theorem get_nil (k : Ky) (w : World) : Calls Try.prog 49 #[.pointer none, .agg #[.int .i64 k.kind, .int .i64 k.id, .int .i64 k.adv]] w fun e w' => e = .returned (.tuple #[.agg #[.int .i64 0, .int .i64 0, .int .i64 0, .int .i64 0, .int .i64 0, .int .i64 0, .int .i64 0, .slice none 0 0, .slice none 0 0], .bool false]) ∧ Below w.heap.size w w' := by
  have B0 := Lib.hid (((Below.refl w.heap.size w).alloc (Nat.le_refl _) (.cells #[.int .i64 k.kind, .int .i64 k.id, .int .i64 k.adv] 47)).alloc (by simp) (.cells #[.int .i64 0, .int .i64 0, .int .i64 0, .int .i64 0, .int .i64 0, .int .i64 0, .int .i64 0, .slice none 0 0, .slice none 0 0] 62))
  have K1 := Blk.new (w.alloc (.cells #[.int .i64 k.kind, .int .i64 k.id, .int .i64 k.adv] 47)) 62 #[.int .i64 0, .int .i64 0, .int .i64 0, .int .i64 0, .int .i64 0, .int .i64 0, .int .i64 0, .slice none 0 0, .slice none 0 0]
  rw [show (w.alloc (.cells #[.int .i64 k.kind, .int .i64 k.id, .int .i64 k.adv] 47)).heap.size = w.heap.size + 1 by simp] at K1
  obtain ⟨o0, o1, o2, o3, o4, o5, o6, o7, o8⟩ := K1.nine
  clear K1
  go_enter Try.func49, Try.ntmps49
  go_wp2
  refine bodyPost_ret (v := .tuple #[.agg #[.int .i64 0, .int .i64 0, .int .i64 0, .int .i64 0, .int .i64 0, .int .i64 0, .int .i64 0, .slice none 0 0, .slice none 0 0], .bool false]) (by simp [results, Try.results49, go_sem, *]) rfl ?_
  exact ⟨rfl, B0.out⟩
theorem get_v {w : World} {v : Value} {S : List La} {F : Nat → Prop} (h : DbV w v S F) (k : Ky) (hk : wfKy k) :
    Calls Try.prog 49 #[v, .agg #[.int .i64 k.kind, .int .i64 k.id, .int .i64 k.adv]] w fun e w' => Below w.heap.size w w' ∧ ∃ (x : Option La) (A : Option Addr) (n c : Nat) (A' : Option Addr) (n' c' : Nat), x = getL S k ∧ e = .returned (.tuple #[.agg #[.int .i64 (x.getD zeroLa).h.age, .int .i64 (x.getD zeroLa).h.kind, .int .i64 (x.getD zeroLa).h.id, .int .i64 (x.getD zeroLa).h.adv, .int .i64 (x.getD zeroLa).h.seq, .int .i64 (x.getD zeroLa).h.sum, .int .i64 (x.getD zeroLa).h.long, .slice A n c, .slice A' n' c'], .bool x.isSome]) := by
  rcases h with ⟨rfl, rfl⟩ | ⟨lo, p, room, rfl, hd, hs⟩
  · refine (get_nil k w).mono ?_
    rintro e w' ⟨rfl, hb⟩
    exact ⟨hb, none, none, 0, 0, none, 0, 0, rfl, rfl⟩
  · refine (get_db hd hs k hk).mono ?_
    rintro e w' ⟨hb, hg⟩
    rcases hg with ⟨h1, rfl⟩ | ⟨x, A, n, c, A', n', c', h1, rfl, -⟩
    · exact ⟨hb, none, none, 0, 0, none, 0, 0, h1.symm, rfl⟩
    · exact ⟨hb, some x, A, n, c, A', n', c', h1.symm, rfl⟩
set_option maxRecDepth 8000 in
set_option maxHeartbeats 4000000 in
theorem lacks_any {w : World} {v : Value} {S : List La} {F : Nat → Prop} (h : DbV w v S F) (x : Hd) (hk : wfKy (keyH x)) (ha : ∀ y, getL S (keyH x) = some y → ageB x = true ∧ ageB y.h = true) :
    Calls Try.prog 53 #[v, .agg #[.int .i64 x.age, .int .i64 x.kind, .int .i64 x.id, .int .i64 x.adv, .int .i64 x.seq, .int .i64 x.sum, .int .i64 x.long]] w fun e w' => e = .returned (.bool (lackB S x)) ∧ Below w.heap.size w w' := by
  obtain ⟨r, hr⟩ : ∃ r, lackB S x = r := ⟨_, rfl⟩
  rw [hr]
  have HR := Lib.hid hr
  have HA := Lib.hid ha
  have HK := Lib.hid hk
  have B0 := Lib.hid ((Below.refl w.heap.size w).alloc (Nat.le_refl _) (.cells #[.int .i64 x.age, .int .i64 x.kind, .int .i64 x.id, .int .i64 x.adv, .int .i64 x.seq, .int .i64 x.sum, .int .i64 x.long] 38))
  have HD0 := Lib.hid (h.below B0.out)
  have K0 := Lib.hid (Blk.new w 38 #[.int .i64 x.age, .int .i64 x.kind, .int .i64 x.id, .int .i64 x.adv, .int .i64 x.seq, .int .i64 x.sum, .int .i64 x.long])
  have R0 := Lib.hid (blk_range7 K0.out)
  clear hr ha hk h
  go_enter Try.func53, Try.ntmps53
  go_wp2_with (first | refine wpList_load_row 38 _ _ (by rfl) (.tmp 3) rfl (by rfl) R0.out Try.underlying38 rfl (by kernel_rfl) ?_)
  refine (keyOf_any x _).mono ?_
  rintro e1 w1 ⟨rfl, hb1⟩
  generalize w.alloc (.cells #[.int .i64 x.age, .int .i64 x.kind, .int .i64 x.id, .int .i64 x.adv, .int .i64 x.seq, .int .i64 x.sum, .int .i64 x.long] 38) = w0 at *
  have hz0 := B0.out.size
  have B1 := Lib.hid (B0.out.trans (hb1.mono hz0))
  have D1 := Lib.hid (HD0.out.below hb1)
  have K1 := Lib.hid (K0.out.below hb1 K0.out.lt)
  clear hb1 R0 K0 B0 HD0 hz0
  go_wp2_with fail
  refine (get_v D1.out (keyH x) HK.out).mono ?_
  rintro e2 w2 ⟨hb2, y, A, n, c, A', n', c', hy, rfl⟩
  have B2 := Lib.hid (B1.out.trans (hb2.mono B1.out.size))
  have K2 := Lib.hid (K1.out.below hb2 K1.out.lt)
  have HY := Lib.hid hy
  clear hb2 K1 B1 D1 hy
  cases y with
  | none =>
    have HT := Lib.hid (show true = r by rw [← HR.out]; unfold lackB; rw [← HY.out])
    have B3 := Lib.hid (B2.out.alloc B2.out.size (.cells #[.int .i64 zeroLa.h.age, .int .i64 zeroLa.h.kind, .int .i64 zeroLa.h.id, .int .i64 zeroLa.h.adv, .int .i64 zeroLa.h.seq, .int .i64 zeroLa.h.sum, .int .i64 zeroLa.h.long, .slice A n c, .slice A' n' c'] 62))
    clear HR HA HY
    dsimp only [Option.getD_none, Option.isSome_none]
    go_wp2
    go_ret
    exact ⟨by rw [← HT.out]; rfl, B3.out⟩
  | some y =>
    have hab := HA.out y HY.out.symm
    have HT := Lib.hid (show decide (0 < nw x y.h) = r by rw [← HR.out]; unfold lackB; rw [← HY.out])
    have HAB := Lib.hid hab
    have B3 := Lib.hid (B2.out.alloc B2.out.size (.cells #[.int .i64 y.h.age, .int .i64 y.h.kind, .int .i64 y.h.id, .int .i64 y.h.adv, .int .i64 y.h.seq, .int .i64 y.h.sum, .int .i64 y.h.long, .slice A n c, .slice A' n' c'] 62))
    have K3 := Lib.hid (K2.out.alloc (.cells #[.int .i64 y.h.age, .int .i64 y.h.kind, .int .i64 y.h.id, .int .i64 y.h.adv, .int .i64 y.h.seq, .int .i64 y.h.sum, .int .i64 y.h.long, .slice A n c, .slice A' n' c'] 62))
    have R3 := Lib.hid (blk_range7 K3.out)
    have RX := Lib.hid (show (w2.alloc (.cells #[.int .i64 y.h.age, .int .i64 y.h.kind, .int .i64 y.h.id, .int .i64 y.h.adv, .int .i64 y.h.seq, .int .i64 y.h.sum, .int .i64 y.h.long, .slice A n c, .slice A' n' c'] 62)).rangeAt w2.heap.size 0 [.int .i64 y.h.age, .int .i64 y.h.kind, .int .i64 y.h.id, .int .i64 y.h.adv, .int .i64 y.h.seq, .int .i64 y.h.sum, .int .i64 y.h.long] from head_range (Blk.new w2 62 #[.int .i64 y.h.age, .int .i64 y.h.kind, .int .i64 y.h.id, .int .i64 y.h.adv, .int .i64 y.h.seq, .int .i64 y.h.sum, .int .i64 y.h.long, .slice A n c, .slice A' n' c']))
    clear HR HA HY hab K2 K3 B2
    dsimp only [Option.getD_some, Option.isSome_some]
    go_wp2_with (first | refine wpList_load_row 38 _ _ (by rfl) (.tmp 3) rfl (by rfl) R3.out Try.underlying38 rfl (by kernel_rfl) ?_ | refine wpList_load_row 38 _ _ (by rfl) (.tmp 18) rfl (by rfl) RX.out Try.underlying38 rfl (by kernel_rfl) ?_)
    refine (newer_any x y.h _ HAB.out.1 HAB.out.2).mono ?_
    rintro e3 w3 ⟨rfl, hb3⟩
    have B4 := Lib.hid (B3.out.trans (hb3.mono B3.out.size))
    clear hb3 B3 R3 RX
    go_wp2
    go_ret
    exact ⟨by rw [← HT.out]; rfl, B4.out⟩
end Go.Proofs.Ytnnkcgbnhjkahaa
namespace Go.Proofs.Ytnnkcgbnhjkahaa
open Go.RowKit Go.Lib Go.Sort Go.Deep

theorem setAll_is (post : List Value) : ∀ (vs rest pre : List Value), rest.length = vs.length → setAll (pre ++ rest ++ post) pre.length vs = pre ++ vs ++ post
  | [], rest, pre, hl => by
    have : rest = [] := List.eq_nil_of_length_eq_zero hl
    subst this
    rfl
  | v :: r, [], pre, hl => by simp at hl
  | v :: r, u :: rest, pre, hl => by
    have h2 := setAll_is post r rest (pre ++ [v]) (by simpa using hl)
    rw [List.length_append, List.length_singleton] at h2
    unfold setAll
    have e : (pre ++ u :: rest ++ post).set pre.length v = (pre ++ [v]) ++ rest ++ post := by simp
    rw [e, h2]
    simp

theorem own_putH {w : World} {base n b c j : Nat} {L : List Hd} (h : w.ownsRow base 38 7 (.slice (some ⟨b, 0, none⟩) n c) n (cellsBy encHd L)) (hj : j < L.length) (y : Hd) :
    (w.setCells b (j * 7) (encHd y)).ownsRow base 38 7 (.slice (some ⟨b, 0, none⟩) n c) n (cellsBy encHd (L.set j y)) := by
  have h1 := own_setCells (encHd y) (j * 7) w _ h
  have e0 : L = L.take j ++ [L[j]] ++ L.drop (j + 1) := by simp
  have e1 : setAll (cellsBy encHd L) (j * 7) (encHd y) = cellsBy encHd (L.set j y) := by
    have hl : (cellsBy encHd (L.take j)).length = j * 7 := by rw [by_length encHd_len]; simp; omega
    have e2 : cellsBy encHd L = cellsBy encHd (L.take j) ++ encHd L[j] ++ cellsBy encHd (L.drop (j + 1)) := by
      conv => lhs; rw [e0]
      rw [by_append, by_append, by_one]
    rw [e2, ← hl, setAll_is _ (encHd y) (encHd L[j]) (cellsBy encHd (L.take j)) rfl, List.set_eq_take_append_cons_drop, if_pos hj, by_append, by_cons]
    simp
  rw [e1] at h1
  exact h1
theorem own_thereH {w : World} {base n c k size g : Nat} {t : TypeId} {xs : List Value} (h : w.ownsRow base t size (.slice (some ⟨g, 0, none⟩) n c) n xs) (hk : k < n) : w.there g (k * size) size := by
  rcases h.2 with ⟨hv, _⟩ | ⟨g', cap, cur, hv, hb, hg, h1, h2, h3, h4⟩
  · cases hv
  · cases hv
    have hB : Blk w g t cur := hg
    have h5 : (k + 1) * size ≤ c * size := Nat.mul_le_mul_right _ (by omega)
    rw [Nat.succ_mul] at h5
    intro j hj
    refine ⟨?_, hB.frozen _⟩
    rw [hB.cell, Array.getElem?_eq_getElem (by omega)]
    rfl
/-- A head stored over an item of a row. -/
theorem wpList_over_hd {ops : Array Oper} {rest : List Oper} {op : Oper} {a : Act} {w : World} {Q : Exit → Act → World → Prop} {base n c g k : Nat} {L : List Hd} (y : Hd) (hg : op.guard = none) (x v : Operand) (ho : op.op = .store 38 x v) (hx : a.eval x = .pointer (some ⟨g, k * 7, none⟩)) (hv : a.eval v = .agg #[.int .i64 y.age, .int .i64 y.kind, .int .i64 y.id, .int .i64 y.adv, .int .i64 y.seq, .int .i64 y.sum, .int .i64 y.long])
    (hown : w.ownsRow base 38 7 (.slice (some ⟨g, 0, none⟩) n c) n (cellsBy encHd L)) (hk : k < n)
    (hn : ∀ w', Hid (w'.ownsRow base 38 7 (.slice (some ⟨g, 0, none⟩) n c) n (cellsBy encHd (L.set k y))) → Hid (Chg (fun q => q = g) w w') → wpList Try.prog ops Q rest (a.put op.dst undef) w') : wpList Try.prog ops Q (op :: rest) a w :=
  wpList_store_mid hg 38 x v ho g (k * 7) (encHd y).toArray hx hv (own_thereH hown hk) (by kernel_rfl) (all_oneCell_toArray (encHd_ones y)) (hn _ (Lib.hid (own_putH hown (by rw [own_lenH encHd_len (by omega) hown]; exact hk) y)) (Lib.hid (chg_setCells g _ _ _)))
/-- An append of one head: which blocks have turned. -/
theorem wpList_app_hd2 {wb : World} {ops : Array Oper} {rest : List Oper} {o : Oper} {a : Act} {Q : Exit → Act → World → Prop} (hgd : o.guard = none) (s x : Operand) (ho : o.op = .call { callee := .builtin .append, args := #[s, x], argTypes := #[27, 27] })
    {base n c : Nat} {A : Option Addr} {L : List Hd} (y : Hd) (hs : a.eval s = .slice A n c) (hx : a.eval x = .slice (some ⟨wb.heap.size, 0, none⟩) 1 1) (hown : wb.ownsRow base 38 7 (.slice A n c) n (cellsBy encHd L)) (hn : n ≤ 1000) (hbase : base ≤ wb.heap.size)
    (h : ∀ A' c' w', Hid (w'.ownsRow base 38 7 (.slice A' (n + 1) c') (n + 1) (cellsBy encHd (L ++ [y]))) → Hid (Chg (fun q => (Value.slice A n c).ownBlock = some q) wb w') → wpList Try.prog ops Q rest (a.put o.dst (.slice A' (n + 1) c')) w') : wpList Try.prog ops Q (o :: rest) a (wb.alloc (.cells #[.int .i64 y.age, .int .i64 y.kind, .int .i64 y.id, .int .i64 y.adv, .int .i64 y.seq, .int .i64 y.sum, .int .i64 y.long] 38)) := by
  refine wpList_append_any hgd s x 27 38 (.agg #[.int .i64 0, .int .i64 0, .int .i64 0, .int .i64 0, .int .i64 0, .int .i64 0, .int .i64 0]) 7 56 Try.underlying27 infoHd rfl (by decide) (by decide) ho base (.slice A n c) n (cellsBy encHd L) hs (hown.alloc _) (some ⟨wb.heap.size, 0, none⟩) 1 1 (encHd y) hx rfl (fun h => by cases h) (news_new wb 38 (encHd y)) (encHd_ones y) (by omega) (by simp; omega) ?_
  intro v2 w2 ho2 hg2
  obtain ⟨A2, c2, rfl⟩ := own_slice ho2.out
  refine h A2 c2 w2 (Lib.hid (by rw [by_append, by_one]; exact ho2.out)) (Lib.hid ?_)
  exact (Chg.of_below (F := fun q => (Value.slice A n c).ownBlock = some q) ((Below.refl wb.heap.size wb).alloc (Nat.le_refl _) (.cells #[.int .i64 y.age, .int .i64 y.kind, .int .i64 y.id, .int .i64 y.adv, .int .i64 y.seq, .int .i64 y.sum, .int .i64 y.long] 38))).trans (Chg.of_grown hg2.out (fun q hq => hq)) (fun q hq => .inl hq)
theorem lackStep_mem {S : List La} {out : List Hd} {h x : Hd} (hx : x ∈ lackStep S out h) : x ∈ out ∨ x = h := by
  unfold lackStep at hx
  split at hx
  · split at hx
    · simpa using hx
    · split at hx
      · split at hx
        · exact List.mem_or_eq_of_mem_set hx
        · exact .inl hx
      · exact .inl hx
  · exact .inl hx
theorem lacksF_mem {S : List La} : ∀ (L out : List Hd) {x : Hd}, x ∈ L.foldl (lackStep S) out → x ∈ out ∨ x ∈ L
  | [], out, x, h => .inl h
  | a :: L, out, x, h => by
    rcases lacksF_mem L _ h with h | h
    · rcases lackStep_mem h with h | rfl
      · exact .inl h
      · exact .inr List.mem_cons_self
    · exact .inr (List.mem_cons_of_mem _ h)
theorem lacksL_mem {S : List La} {L : List Hd} {x : Hd} (h : x ∈ lacksL S L) : x ∈ L := (lacksF_mem L [] h).resolve_left (by simp)
/-- What Lacks answers. -/
def LacksQ (S : List La) (L : List Hd) (w : World) (e : Ending) (w' : World) : Prop :=
  ∃ (A : Option Addr) (m c : Nat), e = .returned (.slice A m c) ∧ Below w.heap.size w w' ∧ w'.ownsRow w.heap.size 38 7 (.slice A m c) m (cellsBy encHd (lacksL S L))
theorem hds_item {w : World} {B n k : Nat} {A : Option Addr} {L : List Hd} (h : Hds w B A n L) (hk : k < n) : ∃ (b o : Nat) (x : Hd), A = some ⟨b, o, none⟩ ∧ b < B ∧ L[k]? = some x ∧ w.rangeAt b (o + k * 7) [.int .i64 x.age, .int .i64 x.kind, .int .i64 x.id, .int .i64 x.adv, .int .i64 x.seq, .int .i64 x.sum, .int .i64 x.long] := by
  obtain ⟨b, o, x, rfl, hb, hx, hh⟩ := Arr.at h hk
  exact ⟨b, o, x, rfl, hb, hx, HdAt.range hh⟩
set_option maxRecDepth 8000 in
set_option maxHeartbeats 8000000 in
theorem lacksS_any {w : World} {v : Value} {S : List La} {F : Nat → Prop} {A : Option Addr} {n c B : Nat} {L : List Hd} (hD : DbV w v S F) (hL : Hds w B A n L) (hB : B ≤ w.heap.size) (hn : n ≤ 100) (hk : ∀ h ∈ L, wfKy (keyH h))
    (ha : ∀ h ∈ L, ∀ y, getL S (keyH h) = some y → ageB h = true ∧ ageB y.h = true) (hb : ∀ (i j : Nat) (g h : Hd), i < j → L[i]? = some g → L[j]? = some h → ageB g = true ∧ ageB h = true) :
    Calls Try.prog 34 #[v, .slice A n c] w (LacksQ S L w) := by
  generalize hQ : LacksQ S L w = Q
  have HQ := Lib.hid hQ
  have HL := Lib.hid hL
  have HD := Lib.hid hD
  have HK := Lib.hid hk
  have HA := Lib.hid ha
  have HBB := Lib.hid hb
  have O0 := Lib.hid ((World.ownsRow_nil w w.heap.size 38 7).alloc (.map #[] 0))
  have B0 := Lib.hid ((Below.refl w.heap.size w).alloc (Nat.le_refl _) (.map #[] 0))
  have M0 := Lib.hid (PlIs.made w)
  clear hQ hL hD hk ha hb
  have hmm := @run_makeMap Try.prog
  go_enter Try.func34, Try.ntmps34
  go_wp2_with fail
  clear hmm
  generalize w.alloc (.map #[] 0) = w0 at *
  generalize hbm : w.heap.size = bm at *
  have HBM := Lib.hid hbm
  clear hbm
  go_loopw [5, 15] (fun s5 s15 wr => ∃ (k m c' : Nat) (A' : Option Addr) (R : List Pl), s15 = .int .i64 k ∧ s5 = .slice A' m c' ∧ k ≤ n ∧ m ≤ k ∧ Hid (wr.ownsRow bm 38 7 (.slice A' m c') m (cellsBy encHd (lacksL S (L.take k)))) ∧ Hid (PlIs wr bm R) ∧ Hid (PlOk (lacksL S (L.take k)) R) ∧ Hid (Below bm w wr)) (fun _ s15 _ => n - (intOf s15).toNat)
  case atStart => exact ⟨0, 0, 0, none, [], rfl, rfl, Nat.zero_le _, Nat.le_refl _, Lib.hid (by simpa [lacksL, cellsBy] using O0.out), M0, Lib.hid PlOk.nil, B0⟩
  case round =>
    clear O0 B0 M0
    obtain ⟨k, m, c', A', R, rfl, rfl, hk, hmk, OW, MW, PW, BW⟩ := hrel
    by_cases hlt : k < n
    · have hlt' : (k : Int) < (n : Int) := by omega
      obtain ⟨b, o, x, rfl, hbb, hx, hr⟩ := hds_item (HL.out.below (BW.out.mono hB)) hlt
      have HR := Lib.hid hr
      have HX := Lib.hid hx
      have hxm : x ∈ L := List.mem_of_getElem? hx
      have HWF := Lib.hid (HK.out x hxm)
      have HAX := Lib.hid (HA.out x hxm)
      have hz := BW.out.size
      have BX := Lib.hid (BW.out.alloc (by have := HBM.out; omega) (.cells #[.int .i64 x.age, .int .i64 x.kind, .int .i64 x.id, .int .i64 x.adv, .int .i64 x.seq, .int .i64 x.sum, .int .i64 x.long] 38))
      have KX := Lib.hid (Blk.new wr 38 #[.int .i64 x.age, .int .i64 x.kind, .int .i64 x.id, .int .i64 x.adv, .int .i64 x.seq, .int .i64 x.sum, .int .i64 x.long])
      have OX := Lib.hid (OW.out.alloc (.cells #[.int .i64 x.age, .int .i64 x.kind, .int .i64 x.id, .int .i64 x.adv, .int .i64 x.seq, .int .i64 x.sum, .int .i64 x.long] 38))
      have MX := Lib.hid (MW.out.alloc (.cells #[.int .i64 x.age, .int .i64 x.kind, .int .i64 x.id, .int .i64 x.adv, .int .i64 x.seq, .int .i64 x.sum, .int .i64 x.long] 38))
      have RX := Lib.hid (blk_range7 KX.out)
      have HS := Lib.hid (lacksL_snoc S (L.take k) x)
      rw [← take_snocA L k x HX.out] at HS
      clear hr hx hxm OW BW MW
      go_wp2_with (first | refine wpList_load_row 38 _ _ (by rfl) (.tmp 17) rfl (by rfl) HR.out Try.underlying38 rfl (by kernel_rfl) ?_ | refine wpList_load_row 38 _ _ (by rfl) (.tmp 8) rfl (by rfl) RX.out Try.underlying38 rfl (by kernel_rfl) ?_)
      refine (lacks_any (HD.out.below (by rw [HBM.out]; exact BX.out)) x HWF.out HAX.out).mono ?_
      rintro e1 w1 ⟨rfl, hb1⟩
      generalize wr.alloc (.cells #[.int .i64 x.age, .int .i64 x.kind, .int .i64 x.id, .int .i64 x.adv, .int .i64 x.seq, .int .i64 x.sum, .int .i64 x.long] 38) = wx at *
      generalize wr.heap.size = X at *
      have hzx : bm ≤ wx.heap.size := by have := BX.out.size; have := HBM.out; omega
      have B1 := Lib.hid (BX.out.trans (hb1.mono hzx))
      have K1 := Lib.hid (KX.out.below hb1 KX.out.lt)
      have R1 := Lib.hid (blk_range7 K1.out)
      have O1 := Lib.hid (own_chg OX.out (Chg.of_below (F := fun _ => False) hb1) (fun _ _ hf => hf))
      have M1 := Lib.hid (MX.out.below hb1 MX.out.lt)
      have hz1 := hb1.size
      clear hb1 BX KX OX MX RX HR
      cases hl : lackB S x
      · have HT := Lib.hid (show lacksL S (L.take (k + 1)) = lacksL S (L.take k) by
          have := HS.out
          unfold lackStep at this
          rwa [hl, if_neg (by decide)] at this)
        have O3 := Lib.hid (show w1.ownsRow bm 38 7 (.slice A' m c') m (cellsBy encHd (lacksL S (L.take (k + 1)))) by rw [HT.out]; exact O1.out)
        have P3 := Lib.hid (show PlOk (lacksL S (L.take (k + 1))) R by rw [HT.out]; exact PW.out)
        clear HT O1 PW HS hl R1 K1
        go_wp2
        go_roundw
        case rel => exact ⟨k + 1, m, c', A', R, by go_num, rfl, by omega, by omega, O3, M1, P3, B1⟩
        case measure => simp [intOf]; omega
      · have HT := Lib.hid (show lacksL S (L.take (k + 1)) = (match placeK (lacksL S (L.take k)) (keyH x) with
          | none => lacksL S (L.take k) ++ [x]
          | some i => match (lacksL S (L.take k))[i]? with
            | some g => if 0 < nw x g then (lacksL S (L.take k)).set i x else lacksL S (L.take k)
            | none => lacksL S (L.take k)) by
          have := HS.out
          unfold lackStep at this
          rwa [hl, if_pos rfl] at this)
        clear HS hl
        go_wp2_with (first | refine wpList_load_row 38 _ _ (by rfl) (.tmp 8) rfl (by rfl) R1.out Try.underlying38 rfl (by kernel_rfl) ?_)
        refine (keyOf_any x _).mono ?_
        rintro e2 w2 ⟨rfl, hb2⟩
        have B2 := Lib.hid (B1.out.trans (hb2.mono (by omega)))
        have K2 := Lib.hid (K1.out.below hb2 K1.out.lt)
        have O2 := Lib.hid (own_chg O1.out (Chg.of_below (F := fun _ => False) hb2) (fun _ _ hf => hf))
        have M2 := Lib.hid (M1.out.below hb2 M1.out.lt)
        have hz2 := hb2.size
        clear hb2 K1 O1 M1 B1 R1
        have B3 := Lib.hid (B2.out.alloc (by omega) (.cells #[.int .i64 x.kind, .int .i64 x.id, .int .i64 x.adv] 47))
        have K3 := Lib.hid (K2.out.alloc (.cells #[.int .i64 x.kind, .int .i64 x.id, .int .i64 x.adv] 47))
        have O3 := Lib.hid (O2.out.alloc (.cells #[.int .i64 x.kind, .int .i64 x.id, .int .i64 x.adv] 47))
        have M3 := Lib.hid (M2.out.alloc (.cells #[.int .i64 x.kind, .int .i64 x.id, .int .i64 x.adv] 47))
        have Y3 := Lib.hid (Blk.new w2 47 #[.int .i64 x.kind, .int .i64 x.id, .int .i64 x.adv])
        have R3 := Lib.hid (blk_range7 K3.out)
        have hXl := K3.out.lt
        clear K2 O2 M2 B2
        have hRL := Lib.hid (show R.length = m by rw [PW.out.len]; exact own_lenH encHd_len (by omega) O3.out)
        have hz3 : bm ≤ (w2.alloc (.cells #[.int .i64 x.kind, .int .i64 x.id, .int .i64 x.adv] 47)).heap.size := by have := B3.out.size; have := HBM.out; omega
        have NX := Lib.hid (M3.out.ne_blk K3.out)
        have NO := Lib.hid (M3.out.ne_own O3.out)
        obtain ⟨y0, y1, y2⟩ := Y3.out.three
        cases hg : getP R (keyH x) with
        | none =>
          have hlook := M3.out.look_none HWF.out hg
          unfold keyH at hlook
          dsimp only at hlook
          have PZ := Lib.hid (PW.out.snoc x hg)
          have HT2 := Lib.hid (show lacksL S (L.take (k + 1)) = lacksL S (L.take k) ++ [x] by rw [HT.out, (PW.out.none hg).1])
          have HML := Lib.hid (own_lenH encHd_len (by omega) O3.out)
          rw [HML.out] at PZ
          rw [← HT2.out] at PZ
          clear HT PW hg R3
          go_wp2_with (first | refine wpList_load_row 38 _ _ (by rfl) (.tmp 8) rfl (by rfl) R4.out Try.underlying38 rfl (by kernel_rfl) ?_ | (at_mapUpdate; refine wpList_putP ⟨keyH x, m⟩ rfl (.tmp 33) (.tmp 34) (.tmp 36) rfl rfl rfl rfl M3.out HWF.out (by have := hRL.out; unfold maxLen; omega) ?_; intro w4 hm4 ht4; have C4 := Lib.hid (chg_of_turned ht4); have M4 := Lib.hid hm4; have K4 := Lib.hid (K3.out.chg C4.out NX.out); have O4 := Lib.hid (own_chg O3.out C4.out (fun q hq e => NO.out (by rw [hq, e]))); have R4 := Lib.hid (show w4.rangeAt X 0 [.int .i64 x.age, .int .i64 x.kind, .int .i64 x.id, .int .i64 x.adv, .int .i64 x.seq, .int .i64 x.sum, .int .i64 x.long] from blk_range7 K4.out); have hz4 : bm ≤ w4.heap.size := Nat.le_trans hz3 C4.out.size; have B4 := Lib.hid (B3.out.trans (C4.out.to_below (fun q hq => Nat.le_of_eq hq.symm) hz3)); clear hm4 ht4 C4 K3 O3 M3 B3 hlook y0 y1 y2 Y3 K4) | (at_builtin; refine wpList_app_hd2 rfl (.tmp 37) (.tmp 39) rfl x (by rfl) (by rfl) O4.out (by omega) hz4 ?_; intro A5 c5 w5 HO5 HC5))
          have O5 := Lib.hid (show w5.ownsRow bm 38 7 (.slice A5 (m + 1) c5) (m + 1) (cellsBy encHd (lacksL S (L.take (k + 1)))) by rw [HT2.out]; exact HO5.out)
          have M5 := Lib.hid (M4.out.chg HC5.out (M4.out.ne_own O4.out))
          have B5 := Lib.hid (B4.out.trans (HC5.out.to_below (fun q hq => (O4.out.lt q hq).1) hz4))
          clear HO5 HC5 M4 O4 B4 R4 HT2
          go_roundw
          case rel => exact ⟨k + 1, m + 1, c5, A5, _, by go_num, by first | rfl | go_num, by omega, by omega, O5, M5, PZ, B5⟩
          case measure => simp [intOf]; omega
        | some r =>
          obtain ⟨hp1, g, hp2, hp3⟩ := PW.out.some M3.out.nodup hg
          have hlook := (M3.out.look_some HWF.out hg).1
          unfold keyH plVal at hlook
          dsimp only at hlook
          have HT2 := Lib.hid (show lacksL S (L.take (k + 1)) = if 0 < nw x g then (lacksL S (L.take k)).set r.i x else lacksL S (L.take k) by rw [HT.out, hp1]; dsimp only; rw [hp2])
          have him : r.i < m := by
            have := (List.getElem?_eq_some_iff.1 hp2).1
            have := own_lenH encHd_len (by omega) O3.out
            omega
          have HAG := Lib.hid (show ageB x = true ∧ ageB g = true by
            obtain ⟨j, hj⟩ := List.getElem?_of_mem (lacksL_mem (List.mem_of_getElem? hp2))
            have hjk : j < k := by
              rw [List.getElem?_take] at hj
              split at hj
              · assumption
              · cases hj
            rw [List.getElem?_take_of_lt hjk] at hj
            exact ⟨(HBB.out j k g x hjk hj HX.out).2, (HBB.out j k g x hjk hj HX.out).1⟩)
          have PS := Lib.hid (PW.out.set hp2 x hp3.symm)
          obtain ⟨q, rfl, hqb, hql, hmc, hcm, hat⟩ := own_item encHd_len (by omega) O3.out hp2
          have HI := Lib.hid hp2
          obtain ⟨i, hi⟩ : ∃ i, i = r.i := ⟨_, rfl⟩
          rw [← hi] at hlook HT2 him hat PS HI
          clear HT hg hp1 hp2 hp3 hi
          unfold maxLen at hcm
          have i_p : (0 : Int) ≤ (i : Int) := by omega
          have i_u : (i : Int) < (m : Int) := by omega
          have i_n : ((i : Int)).toNat = i := by omega
          go_wp2_with fail
          clear hlook y0 y1 y2 Y3 R3
          generalize w2.alloc (.cells #[.int .i64 x.kind, .int .i64 x.id, .int .i64 x.adv] 47) = w3 at *
          obtain ⟨x0, x1, x2, x3, x4, x5, x6⟩ := K3.out.sevenH
          have g0 : w3.cell? ⟨q, i * 7, none⟩ = some (.int .i64 g.age) := hat 0 (by omega)
          have g1 : w3.cell? ⟨q, i * 7 + 1, none⟩ = some (.int .i64 g.kind) := hat 1 (by omega)
          have g2 : w3.cell? ⟨q, i * 7 + 2, none⟩ = some (.int .i64 g.id) := hat 2 (by omega)
          have g3 : w3.cell? ⟨q, i * 7 + 3, none⟩ = some (.int .i64 g.adv) := hat 3 (by omega)
          have g4 : w3.cell? ⟨q, i * 7 + 4, none⟩ = some (.int .i64 g.seq) := hat 4 (by omega)
          have g5 : w3.cell? ⟨q, i * 7 + 5, none⟩ = some (.int .i64 g.sum) := hat 5 (by omega)
          have g6 : w3.cell? ⟨q, i * 7 + 6, none⟩ = some (.int .i64 g.long) := hat 6 (by omega)
          clear hat
          have BR : Below w3.heap.size w3 w3.drew := ⟨rfl, rfl, rfl, Nat.le_refl _, fun _ _ => rfl⟩
          have hnw := fun W => newer_any x g W HAG.out.1 HAG.out.2
          obtain ⟨d, hd⟩ : ∃ d, nw x g = d := ⟨_, rfl⟩
          rw [hd] at hnw HT2
          clear hd
          go_region_held3 (fun w' => Below w3.heap.size w3 w' ∧ (∀ b o, b < w3.heap.size → w'.cell? ⟨b, o, none⟩ = w3.cell? ⟨b, o, none⟩)) ((refine keepW ?_; first | with_reducible exact BR | with_reducible exact BR3)) (first | (go_at_call 39; refine (hnw _).mono ?_; rintro e3 w4 ⟨rfl, hb4⟩; have BR3 := BR.trans (show Below w3.heap.size w3.drew w4 from hb4)))
          clear x0 x1 x2 x3 x4 x5 x6 g0 g1 g2 g3 g4 g5 g6 hnw
          have B4 := Lib.hid (B3.out.trans (BR3.mono hz3))
          have M4 := Lib.hid (M3.out.below BR3 M3.out.lt)
          have O4 := Lib.hid (own_chg O3.out (Chg.of_below (F := fun _ => False) BR3) (fun _ _ hf => hf))
          have R4 := Lib.hid (show w4.rangeAt X 0 [.int .i64 x.age, .int .i64 x.kind, .int .i64 x.id, .int .i64 x.adv, .int .i64 x.seq, .int .i64 x.sum, .int .i64 x.long] from blk_range7 (K3.out.below BR3 hXl))
          have hz4 : bm ≤ w4.heap.size := Nat.le_trans hz3 BR3.size
          clear BR3 BR B3 M3 O3 K3
          by_cases hd : 0 < d
          · have HT3 := Lib.hid (show lacksL S (L.take (k + 1)) = (lacksL S (L.take k)).set i x by rw [HT2.out, if_pos hd])
            go_wp2_with (first | refine wpList_load_row 38 _ _ (by rfl) (.tmp 8) rfl (by rfl) R4.out Try.underlying38 rfl (by kernel_rfl) ?_ | (refine wpList_over_hd x rfl (.tmp 51) (.tmp 50) rfl (by rfl) (by rfl) O4.out him ?_; intro w5 HO5 HC5))
            have O5 := Lib.hid (show w5.ownsRow bm 38 7 (.slice (some ⟨q, 0, none⟩) m c') m (cellsBy encHd (lacksL S (L.take (k + 1)))) by rw [HT3.out]; exact HO5.out)
            have P5 := Lib.hid (show PlOk (lacksL S (L.take (k + 1))) R by rw [HT3.out]; exact PS.out)
            have M5 := Lib.hid (M4.out.chg HC5.out (fun e => M4.out.ne_own O4.out (by rw [e]; rfl)))
            have B5 := Lib.hid (B4.out.trans (HC5.out.to_below (fun t ht => by rw [ht]; exact hqb) hz4))
            clear HO5 HC5 M4 O4 B4 R4 HT2 HT3 PS PW
            go_roundw
            case rel => exact ⟨k + 1, m, c', _, R, by go_num, rfl, by omega, by omega, O5, M5, P5, B5⟩
            case measure => simp [intOf]; omega
          · have HT3 := Lib.hid (show lacksL S (L.take (k + 1)) = lacksL S (L.take k) by rw [HT2.out, if_neg hd])
            have O5 := Lib.hid (show w4.ownsRow bm 38 7 (.slice (some ⟨q, 0, none⟩) m c') m (cellsBy encHd (lacksL S (L.take (k + 1)))) by rw [HT3.out]; exact O4.out)
            have P5 := Lib.hid (show PlOk (lacksL S (L.take (k + 1))) R by rw [HT3.out]; exact PW.out)
            clear O4 R4 HT2 HT3 PS PW
            go_wp2
            go_roundw
            case rel => exact ⟨k + 1, m, c', _, R, by go_num, rfl, by omega, by omega, O5, M4, P5, B4⟩
            case measure => simp [intOf]; omega
    · have hlt' : ¬ (k : Int) < (n : Int) := by omega
      have HT := Lib.hid (show lacksL S (L.take k) = lacksL S L by
        rw [List.take_of_length_le (by have := HL.out.1; omega)])
      rw [HT.out] at OW
      go_wp2
      show Q (.returned (.slice A' m c')) wr
      rw [← HQ.out]
      exact ⟨A', m, c', rfl, by rw [HBM.out]; exact BW.out, by rw [HBM.out]; exact OW.out⟩
end Go.Proofs.Ytnnkcgbnhjkahaa
namespace Go.Proofs.Ytnnkcgbnhjkahaa
open Go.ChangeShapes Go.WideShapes Go.RowKit Go.Deep
set_option maxRecDepth 20000

theorem Try.cellsHd13 : Try.prog.cellsOf 38 = 7 := by kernel_rfl
section
variable {H : Type} {enc : TypeId × Value → H} {w : World} {base : Nat} {held : Bool} {fuel : Nat}
theorem hd_cameB {v : Value} {d : DataW H} {p : List MemPlace} {r : Reach} {b0 : Nat} {spare : Nat → Bool} (hv : Value.okWide Try.prog w r b0 38 v) (h : DataW.Trod enc Try.prog w base spare held 38 v d p) : ∃ h : Hd, v = .agg #[.int .i64 h.age, .int .i64 h.kind, .int .i64 h.id, .int .i64 h.adv, .int .i64 h.seq, .int .i64 h.sum, .int .i64 h.long] ∧ wfKy (keyH h) := by
  obtain ⟨cs, rfl, hsz⟩ := okWide_struct Try.underlying38 hv
  obtain ⟨l⟩ := cs
  obtain ⟨fuel, hf⟩ := h
  obtain ⟨h, hh, hw⟩ := head_cameB hf
  refine ⟨h, ?_, hw⟩
  simp [Value.cells] at hh
  rw [hh]
theorem las_came {v : Value} {x : DataW H × List MemPlace} (h : DataW.trod enc Try.prog w base (fun _ => true) held fuel 53 [v] = some x) :
    ∃ A n c L, v = .slice A n c ∧ Las w w.heap.size A n L ∧ n ≤ c ∧ c ≤ maxLen := by
  refine arr_came (P := LaAt) ⟨⟨0, 0, 0, 0, 0, 0, 0⟩, [], []⟩ Try.underlying53 Try.cellsLsa7 (by omega) ?_ h
  intro n a cs y hat htr hsp
  obtain ⟨hd, A, A', n1, e1, n2, e2, L, M, rfl, h1, h2, h3, h4, hw⟩ := la_cameB htr
  obtain ⟨b, o, spot⟩ := a
  obtain rfl : spot = none := hsp
  simp only [addr_add] at hat
  exact ⟨⟨hd, L, M⟩, ⟨hat 0 (by omega), hat 1 (by omega), hat 2 (by omega), hat 3 (by omega), hat 4 (by omega), hat 5 (by omega), hat 6 (by omega)⟩, A, n1, e1, A', n2, e2, hat 7 (by omega), hat 8 (by omega), h1, h3, h2, h4⟩
/-- From place p of block b on there lies a head with a key of 64 bits. -/
def HdW (w : World) (B b p : Nat) (h : Hd) : Prop := HdAt w B b p h ∧ wfKy (keyH h)
theorem hds_came {v : Value} {x : DataW H × List MemPlace} (h : DataW.trod enc Try.prog w base (fun _ => true) held fuel 27 [v] = some x) :
    ∃ A n c L, v = .slice A n c ∧ Hds w w.heap.size A n L ∧ (∀ h ∈ L, wfKy (keyH h)) ∧ n ≤ c ∧ c ≤ maxLen := by
  obtain ⟨A, n, c, L, rfl, hA, hc, hm⟩ := arr_came (P := HdW) ⟨0, 0, 0, 0, 0, 0, 0⟩ Try.underlying27 Try.cellsHd13 (by omega) (fun n a cs y hat htr hsp => by
    obtain ⟨hd, rfl, hw⟩ := head_cameB htr
    obtain ⟨b, o, spot⟩ := a
    obtain rfl : spot = none := hsp
    simp only [addr_add] at hat
    exact ⟨hd, ⟨hat 0 (by omega), hat 1 (by omega), hat 2 (by omega), hat 3 (by omega), hat 4 (by omega), hat 5 (by omega), hat 6 (by omega)⟩, hw⟩) h
  refine ⟨A, n, c, L, rfl, ⟨hA.1, fun hn => by
    obtain ⟨b, o, e, hb, hat⟩ := hA.2 hn
    exact ⟨b, o, e, hb, fun j x hx => (hat j x hx).1⟩⟩, fun h hh => ?_, hc, hm⟩
  obtain ⟨j, hj⟩ := List.getElem?_of_mem hh
  have hjl := (List.getElem?_eq_some_iff.1 hj).1
  obtain ⟨b, o, e, hb, hat⟩ := hA.2 (by have := hA.1; omega)
  exact (hat j h hj).2
end
end Go.Proofs.Ytnnkcgbnhjkahaa
