/- Maps of any program whose keys are structs: what they hold, and what their operations make of that; ranges over them. No conditions. -/
import Derived.Test.YtndjoanlbaiaeaaJah
import Derived.Maps.RangeWalk
import Derived.Deep.RegionHeld3
namespace Go.Proofs.Ytndjoanlbaiaeaa
open Go.RowKit Go.Lib
open Go.Maps (Keyed)
open Go.ChangeMaps (notKey putKey delKey)

/-- A type of keys: which may be, what they read as, what they are as values. -/
structure MKind (P : Program) (κ : Type) where
  kt : TypeId
  wf : κ → Prop
  lit : κ → Lit
  kv : κ → Value
  law : Keyed P kt
  of : ∀ k, wf k → keyOf P kt (kv k) = some (lit k)
  inv : ∀ v l, keyOf P kt v = some l → ∃ k, wf k ∧ v = kv k ∧ l = lit k
  inj : ∀ a b, kv a = kv b → a = b
section
variable {P : Program} {κ : Type} [DecidableEq κ] {M : MKind P κ}
omit [DecidableEq κ] in
theorem MKind.lit_inj {a b : κ} (ha : M.wf a) (hb : M.wf b) (h : M.lit a = M.lit b) : a = b := by
  have e1 := M.of a ha
  rw [h] at e1
  exact M.inj _ _ (M.law.inj e1 (M.of b hb))
theorem MKind.same {a b : κ} (ha : M.wf a) (hb : M.wf b) : (M.lit a).sameKey (M.lit b) = decide (a = b) := by
  by_cases h : a = b
  · subst h
    rw [WideAt.sameKey_self (M.law.key (M.of a ha))]
    simp
  · cases h2 : (M.lit a).sameKey (M.lit b)
    · simp [h]
    · exact absurd (M.lit_inj ha hb (WideAt.sameKey_eq h2)) h
def MKind.e (M : MKind P κ) (x : κ × Value) : Lit × DataW Value := (M.lit x.1, .held x.2)
/-- Block b is a map that holds just the entries E. -/
def MKind.holds (M : MKind P κ) (w : World) (b : Nat) (E : List (κ × Value)) : Prop :=
  (∀ x ∈ E, M.wf x.1) ∧ ∃ l : List (Lit × DataW Value), w.ownsMap P M.kt asIs b E.length (.map l) ∧ l.Perm (E.map M.e)
variable {w w' : World} {b : Nat} {E : List (κ × Value)} {k : κ}
omit [DecidableEq κ] in
theorem MKind.holds.lt (h : M.holds w b E) : b < w.heap.size := by
  obtain ⟨-, l, ho, -⟩ := h
  exact ho.lt
omit [DecidableEq κ] in
theorem MKind.holds.heap (h : M.holds w b E) (he : w'.heap[b]? = w.heap[b]?) : M.holds w' b E := by
  obtain ⟨hw, l, ho, hp⟩ := h
  exact ⟨hw, l, own_heap ho he, hp⟩
omit [DecidableEq κ] in
theorem MKind.holds.chg {F : Nat → Prop} (h : M.holds w b E) (hc : Chg F w w') (hF : ¬ F b) : M.holds w' b E := h.heap (hc.block b h.lt hF)
omit [DecidableEq κ] in
theorem MKind.holds.below {B : Nat} (h : M.holds w b E) (hb : Below B w w') (hlt : b < B) : M.holds w' b E := h.heap (hb.block b hlt)
omit [DecidableEq κ] in
theorem MKind.holds.alloc (h : M.holds w b E) (o : Obj) : M.holds (w.alloc o) b E := h.below ((Below.refl w.heap.size w).alloc (Nat.le_refl _) o) h.lt
omit [DecidableEq κ] in
theorem MKind.holds.drew (h : M.holds w b E) : M.holds w.drew b E := h.heap rfl
omit [DecidableEq κ] in
theorem MKind.holds.setCell (h : M.holds w b E) {a : Addr} (ha : b ≠ a.block) (u : Value) : M.holds (w.setCell a u) b E := h.heap (RowKit.Below.heap_setCell _ _ _ _ ha)
omit [DecidableEq κ] in
theorem MKind.holds.made (w : World) : M.holds (w.alloc (.map #[] 0)) w.heap.size [] := ⟨fun r h => (by cases h), [], World.ownsMap_made _ _ _ _, List.Perm.refl _⟩
omit [DecidableEq κ] in
/-- No key stands twice. -/
theorem MKind.holds.nodup (h : M.holds w b E) : E.Pairwise fun r s => r.1 ≠ s.1 := by
  obtain ⟨hw, l, ho, hp⟩ := h
  obtain ⟨es, he, hpw⟩ := ho.tidy M.law
  injection he with he
  subst he
  have h1 := (hp.pairwise_iff (fun {_ _} hne => Ne.symm hne)).1 hpw
  rw [List.pairwise_map] at h1
  exact h1.imp (fun hne e => hne (by unfold MKind.e; rw [e]))
omit [DecidableEq κ] in
theorem MKind.holds.isMap (h : M.holds w b E) : ∃ es clock, w.heap[b]? = some (.map es clock) := by
  obtain ⟨-, l, ⟨es, clock, hb, -⟩, -⟩ := h
  exact ⟨es, clock, hb⟩
omit [DecidableEq κ] in
theorem MKind.holds.ne_blk {g : Nat} {t : TypeId} {cs : Array Value} (h : M.holds w b E) (hB : Blk w g t cs) : g ≠ b := by
  rintro rfl
  obtain ⟨es, clock, hb⟩ := h.isMap
  have h1 : w.heap[g]? = some (.cells cs t (0, 0)) := hB
  rw [hb] at h1
  cases h1
omit [DecidableEq κ] in
theorem MKind.holds.ne_cell {g o : Nat} {v : Value} (h : M.holds w b E) (hc : w.cell? ⟨g, o, none⟩ = some v) : g ≠ b := by
  rintro rfl
  obtain ⟨es, clock, hb⟩ := h.isMap
  simp [World.cell?, hb] at hc
omit [DecidableEq κ] in
theorem MKind.holds.ne_own {base n size : Nat} {t : TypeId} {v : Value} {xs : List Value} (h : M.holds w b E) (ho : w.ownsRow base t size v n xs) : v.ownBlock ≠ some b := by
  intro e
  obtain ⟨es, clock, hb⟩ := h.isMap
  rcases ho.2 with ⟨rfl, _⟩ | ⟨g, cap, cur, rfl, _, hg, _⟩
  · cases e
  · injection e with e
    subst e
    rw [hb] at hg
    cases hg
/-- What stands at a key. -/
def getE (E : List (κ × Value)) (k : κ) : Option Value := (E.find? fun x => decide (x.1 = k)).map Prod.snd
def restE (E : List (κ × Value)) (k : κ) : List (κ × Value) := E.filter fun x => !decide (x.1 = k)
theorem getE_some {v : Value} (h : getE E k = some v) : (k, v) ∈ E := by
  unfold getE at h
  cases hf : E.find? fun x => decide (x.1 = k) with
  | none => rw [hf] at h; cases h
  | some x =>
    rw [hf] at h
    injection h with h
    have h1 := of_decide_eq_true (List.find?_some (p := fun x : κ × Value => decide (x.1 = k)) hf)
    have h2 := List.mem_of_find?_eq_some hf
    obtain ⟨a, c⟩ := x
    simp only at h h1
    subst h h1
    exact h2
theorem getE_none (h : getE E k = none) : ∀ x ∈ E, x.1 ≠ k := by
  unfold getE at h
  rw [Option.map_eq_none_iff, List.find?_eq_none] at h
  exact fun x hx e => h x hx (by simp [e])
theorem mem_restE {x : κ × Value} : x ∈ restE E k ↔ x ∈ E ∧ x.1 ≠ k := by
  unfold restE
  rw [List.mem_filter]
  simp
omit [DecidableEq κ] in
theorem one_of_E (h : E.Pairwise fun r s => r.1 ≠ s.1) : ∀ {x y : κ × Value}, x ∈ E → y ∈ E → x.1 = y.1 → x = y := by
  induction E with
  | nil => exact fun hx => by cases hx
  | cons z E ih =>
    obtain ⟨h1, h2⟩ := List.pairwise_cons.1 h
    intro x y hx hy e
    rcases List.mem_cons.1 hx with rfl | hx'
    · rcases List.mem_cons.1 hy with rfl | hy'
      · rfl
      · exact absurd e (h1 y hy')
    · rcases List.mem_cons.1 hy with rfl | hy'
      · exact absurd e.symm (h1 x hx')
      · exact ih h2 hx' hy' e
theorem MKind.at (hw : ∀ x ∈ E, M.wf x.1) (hn : E.Pairwise fun r s => r.1 ≠ s.1) {l : List (Lit × DataW Value)} (hp : l.Perm (E.map M.e)) (hk : M.wf k) :
    (∀ z, getE E k = none → (DataW.map l).atKey (M.lit k) z = z ∧ Maps.has (DataW.map l) (M.lit k) = false) ∧ (∀ v z, getE E k = some v → (DataW.map l).atKey (M.lit k) z = .held v ∧ Maps.has (DataW.map l) (M.lit k) = true) := by
  have back : ∀ p ∈ l, p.1.sameKey (M.lit k) = true → ∃ x ∈ E, x.1 = k ∧ p = M.e x := fun p hpl hs => by
    obtain ⟨x, hx, rfl⟩ := List.mem_map.1 (hp.mem_iff.1 hpl)
    refine ⟨x, hx, ?_, rfl⟩
    have h1 : (M.lit x.1).sameKey (M.lit k) = true := hs
    rw [M.same (hw x hx) hk] at h1
    exact of_decide_eq_true h1
  constructor
  · intro z hg
    have hno : ∀ p ∈ l, ¬ p.1.sameKey (M.lit k) = true := fun p hpl hs => by
      obtain ⟨x, hx, e, _⟩ := back p hpl hs
      exact getE_none hg x hx e
    refine ⟨?_, ?_⟩
    · simp only [DataW.atKey, List.find?_eq_none.2 hno]
    · unfold Maps.has
      rw [List.any_eq_false]
      exact hno
  · intro v z hg
    have hx := getE_some hg
    have hm : M.e (k, v) ∈ l := hp.mem_iff.2 (List.mem_map.2 ⟨_, hx, rfl⟩)
    have hs : (M.e (k, v)).1.sameKey (M.lit k) = true := by
      show (M.lit k).sameKey (M.lit k) = true
      rw [M.same hk hk]
      simp
    refine ⟨?_, ?_⟩
    · cases hf : l.find? (fun p => p.1.sameKey (M.lit k)) with
      | none => exact absurd hs (List.find?_eq_none.1 hf _ hm)
      | some p =>
        obtain ⟨y, hy, hs2, rfl⟩ := back p (List.mem_of_find?_eq_some hf) (List.find?_some (p := fun p : Lit × DataW Value => p.1.sameKey (M.lit k)) hf)
        have e2 := one_of_E hn hy hx hs2
        subst e2
        simp only [DataW.atKey, hf]
        rfl
    · unfold Maps.has
      rw [List.any_eq_true]
      exact ⟨_, hm, hs⟩
/-- 'm[k]', and 'v, is := m[k]'. -/
theorem MKind.holds.look {t e : TypeId} {z : Value} (h : M.holds w b E) (ht : P.underlying t = some (.map M.kt e)) (hz : (zeroValue e).run P w = .ok z w) (hk : M.wf k) :
    (Instr.lookup t (.map (some b)) (M.kv k) true).run P w = .ok (.tuple #[(getE E k).getD z, .bool (getE E k).isSome]) w ∧
    (Instr.lookup t (.map (some b)) (M.kv k) false).run P w = .ok ((getE E k).getD z) w := by
  have hn := h.nodup
  obtain ⟨hw, l, ho, hp⟩ := h
  obtain ⟨v, ps, h1, h2⟩ := ho.look_ok M.law ht hz (zd := .held z) (zp := []) rfl (M.of k hk)
  obtain ⟨v', ps', h1', h2'⟩ := ho.lookup M.law ht hz (zd := .held z) (zp := []) rfl (M.of k hk)
  obtain ⟨a1, a2⟩ := MKind.at hw hn hp hk
  cases hg : getE E k with
  | none =>
    rw [(a1 _ hg).1] at h2 h2'
    rw [(a1 (.held z) hg).2, asIs_inj h2] at h1
    rw [asIs_inj h2'] at h1'
    exact ⟨h1, h1'⟩
  | some u =>
    rw [(a2 u _ hg).1] at h2 h2'
    rw [(a2 u (.held z) hg).2, asIs_inj h2] at h1
    rw [asIs_inj h2'] at h1'
    exact ⟨h1, h1'⟩
omit [DecidableEq κ] in
theorem MKind.look_nil {t e : TypeId} {z : Value} (c : Bool) (ht : P.underlying t = some (.map M.kt e)) (hz : (zeroValue e).run P w = .ok z w) (hk : M.wf k) :
    (Instr.lookup t (.map none) (M.kv k) c).run P w = .ok (if c then .tuple #[z, .bool false] else z) w := Maps.look_nil c M.law ht hz (M.of k hk)
omit [DecidableEq κ] in
theorem MKind.holds.len {t e : TypeId} (h : M.holds w b E) (ht : P.underlying t = some (.map M.kt e)) (ty : TypeId) : (Builtin.len_ #[t] ty #[.map (some b)]).run P w = .ok (.int .i64 (E.length : Int)) w := by
  obtain ⟨hw, l, ho, hp⟩ := h
  rw [ho.len ht ty, Maps.size_eq, hp.length_eq, List.length_map]
theorem MKind.filter (hw : ∀ x ∈ E, M.wf x.1) (hk : M.wf k) : (E.map M.e).filter (notKey (M.lit k)) = (restE E k).map M.e := by
  rw [List.filter_map]
  unfold restE
  congr 1
  refine List.filter_congr (fun x hx => ?_)
  show (!(M.lit x.1).sameKey (M.lit k)) = _
  rw [M.same (hw x hx) hk]
/-- 'm[k] = v'. -/
theorem MKind.holds.put {t e : TypeId} (h : M.holds w b E) (ht : P.underlying t = some (.map M.kt e)) (hk : M.wf k) (v : Value) (hn : E.length < maxLen) :
    ∃ w', (Instr.mapUpdate t (.map (some b)) (M.kv k) v).run P w = .ok () w' ∧ M.holds w' b ((k, v) :: restE E k) ∧ w.mapTurned w' b := by
  obtain ⟨hw, l, ho, hp⟩ := h
  obtain ⟨w', h1, h2, h3⟩ := ho.store M.law ht hn (M.of k hk) (val := v) (d := .held v) (ps := []) rfl
  rw [DataW.put_eq] at h2
  have hp2 : (putKey (M.lit k) (.held v) l).Perm (((k, v) :: restE E k).map M.e) := by
    refine (WideShapes.insert_perm _ _).trans ?_
    rw [List.map_cons]
    refine List.Perm.cons _ ?_
    rw [← MKind.filter hw hk]
    exact hp.filter _
  have h4 := own_tight h2
  rw [hp2.length_eq, List.length_map] at h4
  refine ⟨w', h1, ⟨fun x hx => ?_, _, h4, hp2⟩, h3⟩
  rcases List.mem_cons.1 hx with rfl | hx
  · exact hk
  · exact hw x (mem_restE.1 hx).1
/-- 'delete(m, k)'. -/
theorem MKind.holds.drop {t e : TypeId} (h : M.holds w b E) (ht : P.underlying t = some (.map M.kt e)) (hk : M.wf k) (ty : TypeId) :
    ∃ w', (Builtin.delete_ #[t, M.kt] ty #[.map (some b), M.kv k]).run P w = .ok (.tuple #[]) w' ∧ M.holds w' b (restE E k) ∧ w.mapTurned w' b := by
  obtain ⟨hw, l, ho, hp⟩ := h
  obtain ⟨w', h1, h2, h3⟩ := ho.drop M.law ht (M.of k hk) ty
  rw [DataW.del_eq] at h2
  have hp2 : (delKey (M.lit k) l).Perm ((restE E k).map M.e) := by
    rw [← MKind.filter hw hk]
    exact hp.filter _
  have h4 := own_tight h2
  rw [hp2.length_eq, List.length_map] at h4
  exact ⟨w', h1, ⟨fun x hx => hw x (mem_restE.1 hx).1, _, h4, hp2⟩, h3⟩
/-- A map reads one way only. -/
theorem own_one {H : Type} {k : TypeId} {R : Value → Option (DataW H × List MemPlace)} {n m : Nat} {D D' : DataW H} (h : w.ownsMap P k R b n D) (h' : w.ownsMap P k R b m D') : D = D' := by
  obtain ⟨es, clock, hb, F, hs, hD⟩ := h
  obtain ⟨es', clock', hb', F', hs', hD'⟩ := h'
  rw [hb] at hb'
  injection hb' with hb'
  injection hb' with e1 e2
  rw [hD, hD', e1]
/-- A range over a map is kept where neither it nor the map has turned. -/
theorem ranges_keep {H : Type} {k : TypeId} {R : Value → Option (DataW H × List MemPlace)} {r n cnt : Nat} {D : DataW H} {left : Lit → Bool} {F : Nat → Prop} (h : w.ranges P k R b r n D left cnt) (hc : Chg F w w') (hb' : ¬ F b) (hr' : ¬ F r) : w'.ranges P k R b r n D left cnt := by
  have h1 := h.owns.lt
  have h2 := h.lt
  obtain ⟨es, clock, since, seen, c0, hb, F', hs, hD, hr, rest⟩ := h
  exact ⟨es, clock, since, seen, c0, (hc.block b h1 hb').trans hb, F', hs, hD, (hc.block r h2 hr').trans hr, rest⟩
/-- An iterator is no map. -/
theorem ranges_ne {H : Type} {k : TypeId} {R : Value → Option (DataW H × List MemPlace)} {r n cnt b' : Nat} {D : DataW H} {left : Lit → Bool} (h : w.ranges P k R b r n D left cnt) (hm : ∃ es clock, w.heap[b']? = some (.map es clock)) : r ≠ b' := by
  rintro rfl
  obtain ⟨es, clock, since, seen, c0, hb, F', hs, hD, hr, rest⟩ := h
  obtain ⟨es', clock', hb'⟩ := hm
  rw [hr] at hb'
  cases hb'
omit [DecidableEq κ] in
/-- 'delete(m, k)' of a map over which a range goes: the range goes on. -/
theorem ranges_drop {t e ty : TypeId} {r n cnt : Nat} {D : DataW Value} {left : Lit → Bool} (h : w.ranges P M.kt asIs b r n D left cnt) (ht : P.underlying t = some (.map M.kt e)) (hk : M.wf k) (hrun : (Builtin.delete_ #[t, M.kt] ty #[.map (some b), M.kv k]).run P w = .ok (.tuple #[]) w') :
    ∃ D' cnt', w'.ranges P M.kt asIs b r n D' (fun z => left z && !z.sameKey (M.lit k)) cnt' ∧ cnt' ≤ cnt := by
  obtain ⟨w2, cnt', h1, h2, h3, -⟩ := h.drop M.law ht (M.of k hk) ty
  rw [hrun] at h1
  injection h1 with h1 h1'
  subst h1'
  exact ⟨_, cnt', h2, h3⟩
section
variable {ops : Array Oper} {rest : List Oper} {o : Oper} {a : Act} {Q : Exit → Act → World → Prop}
/-- 'range m'. -/
theorem wpList_range_M (M : MKind P κ) (hg : o.guard = none) (m : Operand) (t e : TypeId) (hop : o.op = Op.range t m) (ht : P.underlying t = some (.map M.kt e)) (hm : a.eval m = .map (some b)) (h : M.holds w b E)
    (hK : ∀ D left cnt w', w'.ranges P M.kt asIs b w.heap.size E.length D left cnt → (∀ x ∈ E, left (M.lit x.1) = true) → cnt = E.length → w.grownBy w' none → w'.heap.size = w.heap.size + 1 → wpList P ops Q rest (a.put o.dst (.pointer (some ⟨w.heap.size, 0, none⟩))) w') : wpList P ops Q (o :: rest) a w := by
  have hn := h.nodup
  obtain ⟨hw, l, ho, hp⟩ := h
  refine wpList_range_own w hg m t hop M.kt e M.law ht asIs b E.length (.map l) hm ho fun w' h1 h2 h3 => ?_
  refine hK _ _ _ w' h1 (fun x hx => ?_) (by rw [Maps.size_eq, hp.length_eq, List.length_map]) h2 h3
  refine ((MKind.at hw hn hp (hw x hx)).2 x.2 (.held x.2) ?_).2
  cases hg : getE E x.1 with
  | none => exact absurd rfl (getE_none hg x hx)
  | some v => rw [show x = (x.1, v) from one_of_E hn hx (getE_some hg) rfl]
/-- The step of a range. -/
theorem wpList_next_M (M : MKind P κ) (hg : o.guard = none) (it : Operand) (hop : o.op = Op.next it false) {r n cnt : Nat} {D : DataW Value} {left : Lit → Bool} (h : w.ranges P M.kt asIs b r n D left cnt) (hE : M.holds w b E) (hit : a.eval it = .pointer (some ⟨r, 0, none⟩))
    (hDone : cnt = 0 → (∀ kl, left kl = false) → wpList P ops Q rest (a.put o.dst (.tuple #[.bool false])) w)
    (hMore : ∀ x ∈ E, ∀ w' cnt', left (M.lit x.1) = true → w'.ranges P M.kt asIs b r n D (fun z => left z && !z.sameKey (M.lit x.1)) cnt' → cnt' < cnt → w.grownBy w' (some r) → w'.heap.size = w.heap.size → (Instr.entry (.pointer (some ⟨r, 0, none⟩))).run P w' = .ok (.tuple #[M.kv x.1, x.2]) w' → wpList P ops Q rest (a.put o.dst (.tuple #[.bool true, M.kv x.1, x.2])) w') : wpList P ops Q (o :: rest) a w := by
  refine wpList_plain hg fun K' hK' => ?_
  unfold Oper.wp
  rcases h.next M.law o.type with ⟨h0, hl, hrun⟩ | ⟨key, v, kl, y, w', cnt', hkey, hlk, hv, hat, hrun, hrg, hlt, hgr, hsz, hen⟩
  · simp [execOp, hop, hit, hrun, Result.andThen]
    exact hK' _ _ (hDone h0 hl)
  · obtain ⟨k, hk, rfl, rfl⟩ := M.inv key kl hkey
    have hn := hE.nodup
    obtain ⟨hw, l, ho, hp⟩ := hE
    obtain rfl := own_one h.owns ho
    obtain ⟨a1, a2⟩ := MKind.at hw hn hp hk
    unfold asIs at hv
    injection hv with hv
    subst hv
    simp only at hat
    cases hgk : getE E k with
    | none =>
      have e1 := (a1 .nil hgk).1
      rw [hat] at e1
      cases e1
    | some u =>
      have e1 := (a2 u .nil hgk).1
      rw [hat] at e1
      injection e1 with e1
      subst e1
      simp [execOp, hop, hit, hrun, Result.andThen]
      exact hK' _ _ (hMore (k, v) (getE_some hgk) w' cnt' hlk hrg hlt hgr hsz hen)
end
end
end Go.Proofs.Ytndjoanlbaiaeaa
