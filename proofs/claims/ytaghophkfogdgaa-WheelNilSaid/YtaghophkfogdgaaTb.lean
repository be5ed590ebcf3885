/- A wheel's map: what it holds, and what its operations make of that. Conditions: numbers of 64 bits. -/
import Derived.Test.YtaghophkfogdgaaTa
import Derived.Maps.OwnSet
import Derived.Maps.Range
namespace Go.Proofs.Ytaghophkfogdgaa
open Go.RowKit
open Go.Maps (Keyed)
open Go.ChangeMaps (notKey putKey delKey)

/-- An entry: a tick, and its timer. -/
structure En where
  tick : Int
  t : Tm
deriving DecidableEq
instance : Inhabited En := ⟨⟨0, default⟩⟩
/-- An element of the map reads as itself. -/
def asIs (v : Value) : Option (DataW Value × List MemPlace) := some (.held v, [])
def rcE (r : En) : Lit × DataW Value := (tmLit r.t, .held (.int .i64 r.tick))
/-- Block b is a map that holds just the entries of R, each tick under its timer. -/
def MapIs (w : World) (b : Nat) (R : List En) : Prop :=
  (∀ r ∈ R, wfTm r.t) ∧ ∃ l : List (Lit × DataW Value), w.ownsMap Try.prog 33 asIs b R.length (.map l) ∧ l.Perm (R.map rcE)

theorem own_tight {H : Type} {P : Program} {k : TypeId} {R : Value → Option (DataW H × List MemPlace)} {w : World} {b n : Nat} {l : List (Lit × DataW H)} (h : w.ownsMap P k R b n (.map l)) : w.ownsMap P k R b l.length (.map l) := by
  obtain ⟨es, clock, hb, F, hs, hD⟩ := h
  refine ⟨es, clock, hb, F, ?_, hD⟩
  injection hD with hD
  rw [hD, length_sorted, List.length_map, Array.length_toList]
  exact Nat.le_refl _
theorem own_heap {H : Type} {P : Program} {k : TypeId} {R : Value → Option (DataW H × List MemPlace)} {w w' : World} {b n : Nat} {D : DataW H} (h : w.ownsMap P k R b n D) (he : w'.heap[b]? = w.heap[b]?) : w'.ownsMap P k R b n D := by
  obtain ⟨es, clock, hb, r⟩ := h
  exact ⟨es, clock, he.trans hb, r⟩
section
variable {w w' : World} {b : Nat} {R : List En}
theorem MapIs.lt (h : MapIs w b R) : b < w.heap.size := by
  obtain ⟨-, l, ho, -⟩ := h
  exact ho.lt
theorem MapIs.heap (h : MapIs w b R) (he : w'.heap[b]? = w.heap[b]?) : MapIs w' b R := by
  obtain ⟨hw, l, ho, hp⟩ := h
  exact ⟨hw, l, own_heap ho he, hp⟩
theorem MapIs.chg {F : Nat → Prop} (h : MapIs w b R) (hc : Chg F w w') (hF : ¬ F b) : MapIs w' b R := h.heap (hc.block b h.lt hF)
theorem MapIs.below {B : Nat} (h : MapIs w b R) (hb : Below B w w') (hlt : b < B) : MapIs w' b R := h.heap (hb.block b hlt)
theorem MapIs.alloc (h : MapIs w b R) (o : Obj) : MapIs (w.alloc o) b R := h.below ((Below.refl w.heap.size w).alloc (Nat.le_refl _) o) h.lt
theorem MapIs.drew (h : MapIs w b R) : MapIs w.drew b R := h.heap rfl
theorem MapIs.setCell (h : MapIs w b R) {a : Addr} (ha : b ≠ a.block) (u : Value) : MapIs (w.setCell a u) b R := h.heap (RowKit.Below.heap_setCell _ _ _ _ ha)
theorem MapIs.made (w : World) : MapIs (w.alloc (.map #[] 0)) w.heap.size [] := ⟨fun r h => (by cases h), [], World.ownsMap_made _ _ _ _, List.Perm.refl _⟩
/-- No key stands twice. -/
theorem MapIs.nodup (h : MapIs w b R) : R.Pairwise fun r s => r.t ≠ s.t := by
  obtain ⟨hw, l, ho, hp⟩ := h
  obtain ⟨es, he, hpw⟩ := ho.tidy keyed8
  injection he with he
  subst he
  have h1 := (hp.pairwise_iff (fun {_ _} hne => Ne.symm hne)).1 hpw
  rw [List.pairwise_map] at h1
  exact h1.imp (fun hne e => hne (by unfold rcE; rw [e]))
end
theorem pw_eq {α β : Type} {f : α → β} : ∀ {R : List α}, R.Pairwise (fun r s => f r ≠ f s) → ∀ r ∈ R, ∀ s ∈ R, f r = f s → r = s
  | x :: R, h, r, hr, s, hs, e => by
    obtain ⟨h1, h2⟩ := List.pairwise_cons.1 h
    rcases List.mem_cons.1 hr with rfl | hr'
    · rcases List.mem_cons.1 hs with rfl | hs'
      · rfl
      · exact absurd e (h1 s hs')
    · rcases List.mem_cons.1 hs with rfl | hs'
      · exact absurd e.symm (h1 r hr')
      · exact pw_eq h2 r hr' s hs' e
/-- The one of a key. -/
def getR (R : List En) (k : Tm) : Option En := R.find? fun r => decide (r.t = k)
theorem getR_some {R : List En} {k : Tm} {r : En} (h : getR R k = some r) : r ∈ R ∧ r.t = k := by
  unfold getR at h
  exact ⟨List.mem_of_find?_eq_some h, of_decide_eq_true (List.find?_some (p := fun r : En => decide (r.t = k)) h)⟩
theorem getR_none {R : List En} {k : Tm} (h : getR R k = none) : ∀ r ∈ R, r.t ≠ k := by
  unfold getR at h
  rw [List.find?_eq_none] at h
  exact fun r hr e => h r hr (decide_eq_true e)
section
variable {w : World} {b : Nat} {R : List En} {k : Tm}
/-- What stands at a key. -/
theorem map_at (hw : ∀ r ∈ R, wfTm r.t) (hn : R.Pairwise fun r s => r.t ≠ s.t) {l : List (Lit × DataW Value)} (hp : l.Perm (R.map rcE)) (hk : wfTm k) :
    (∀ z, getR R k = none → (DataW.map l).atKey (tmLit k) z = z ∧ Maps.has (DataW.map l) (tmLit k) = false) ∧ (∀ r z, getR R k = some r → (DataW.map l).atKey (tmLit k) z = .held (Value.int .i64 r.tick) ∧ Maps.has (DataW.map l) (tmLit k) = true) := by
  have back : ∀ p ∈ l, p.1.sameKey (tmLit k) = true → ∃ r ∈ R, r.t = k ∧ p = rcE r := fun p hpl hs => by
    obtain ⟨r, hr, rfl⟩ := List.mem_map.1 (hp.mem_iff.1 hpl)
    refine ⟨r, hr, ?_, rfl⟩
    have h1 : (tmLit r.t).sameKey (tmLit k) = true := hs
    rw [sameKey_tm (hw r hr) hk] at h1
    exact of_decide_eq_true h1
  constructor
  · intro z hg
    have hno : ∀ p ∈ l, ¬ p.1.sameKey (tmLit k) = true := fun p hpl hs => by
      obtain ⟨r, hr, e, _⟩ := back p hpl hs
      exact getR_none hg r hr e
    refine ⟨?_, ?_⟩
    · simp only [DataW.atKey, List.find?_eq_none.2 hno]
    · unfold Maps.has
      rw [List.any_eq_false]
      exact hno
  · intro r z hg
    obtain ⟨hr, e⟩ := getR_some hg
    have hm : rcE r ∈ l := hp.mem_iff.2 (List.mem_map.2 ⟨r, hr, rfl⟩)
    have hs : (rcE r).1.sameKey (tmLit k) = true := by
      show (tmLit r.t).sameKey (tmLit k) = true
      rw [sameKey_tm (hw r hr) hk]
      exact decide_eq_true e
    refine ⟨?_, ?_⟩
    · cases hf : l.find? (fun p => p.1.sameKey (tmLit k)) with
      | none => exact absurd hs (List.find?_eq_none.1 hf _ hm)
      | some p =>
        obtain ⟨s, hs1, hs2, rfl⟩ := back p (List.mem_of_find?_eq_some hf) (List.find?_some (p := fun p : Lit × DataW Value => p.1.sameKey (tmLit k)) hf)
        have e2 := pw_eq hn s hs1 r hr (hs2.trans e.symm)
        subst e2
        simp only [DataW.atKey, hf]
        rfl
    · unfold Maps.has
      rw [List.any_eq_true]
      exact ⟨_, hm, hs⟩
theorem zero_int8 (w : World) : (zeroValue 3).run Try.prog w = .ok (.int .i64 0) w := by kernel_rfl
theorem asIs_inj {v : Value} {d : Value} {ps : List MemPlace} (h : asIs v = some (.held d, ps)) : v = d := by
  unfold asIs at h
  injection h with h
  injection h with h _
  injection h
/-- 'v, is := m[k]', of a key that is there. -/
theorem MapIs.look_some (h : MapIs w b R) (hk : wfTm k) {r : En} (hg : getR R k = some r) :
    (Instr.lookup 54 (.map (some b)) (.agg (encTm k).toArray) true).run Try.prog w = .ok (.tuple #[Value.int .i64 r.tick, .bool true]) w ∧
    (Instr.lookup 54 (.map (some b)) (.agg (encTm k).toArray) false).run Try.prog w = .ok (Value.int .i64 r.tick) w := by
  have hn := h.nodup
  obtain ⟨hw, l, ho, hp⟩ := h
  have hat := (map_at hw hn hp hk).2 r
  obtain ⟨v, ps, h1, h2⟩ := ho.look_ok keyed8 Try.underlying54 (zero_int8 w) (zd := .held _) (zp := []) rfl (keyOf_tm hk)
  obtain ⟨v', ps', h1', h2'⟩ := ho.lookup keyed8 Try.underlying54 (zero_int8 w) (zd := .held _) (zp := []) rfl (keyOf_tm hk)
  rw [(hat _ hg).1] at h2 h2'
  rw [(hat (.held undef) hg).2, asIs_inj h2] at h1
  rw [asIs_inj h2'] at h1'
  exact ⟨h1, h1'⟩
theorem MapIs.look_none (h : MapIs w b R) (hk : wfTm k) (hg : getR R k = none) :
    (Instr.lookup 54 (.map (some b)) (.agg (encTm k).toArray) true).run Try.prog w = .ok (.tuple #[.int .i64 0, .bool false]) w := by
  have hn := h.nodup
  obtain ⟨hw, l, ho, hp⟩ := h
  have hat := (map_at hw hn hp hk).1
  obtain ⟨v, ps, h1, h2⟩ := ho.look_ok keyed8 Try.underlying54 (zero_int8 w) (zd := .held _) (zp := []) rfl (keyOf_tm hk)
  rw [(hat _ hg).1] at h2
  rw [(hat (.held undef) hg).2, asIs_inj h2] at h1
  exact h1
theorem MapIs.len (h : MapIs w b R) (ty : TypeId) : (Builtin.len_ #[54] ty #[.map (some b)]).run Try.prog w = .ok (.int .i64 (R.length : Int)) w := by
  obtain ⟨hw, l, ho, hp⟩ := h
  rw [ho.len Try.underlying54 ty, Maps.size_eq, hp.length_eq, List.length_map]
/-- Those of other keys. -/
def restR (R : List En) (k : Tm) : List En := R.filter fun s => !decide (s.t = k)
theorem mem_restR {s : En} : s ∈ restR R k ↔ s ∈ R ∧ s.t ≠ k := by
  unfold restR
  rw [List.mem_filter]
  simp
theorem filter_rcE (hw : ∀ r ∈ R, wfTm r.t) (hk : wfTm k) : (R.map rcE).filter (notKey (tmLit k)) = (restR R k).map rcE := by
  rw [List.filter_map]
  unfold restR
  congr 1
  refine List.filter_congr (fun s hs => ?_)
  show (!(tmLit s.t).sameKey (tmLit k)) = _
  rw [sameKey_tm (hw s hs) hk]
theorem chg_of_turned {w' : World} (h : w.mapTurned w' b) : Chg (fun q => q = b) w w' := Chg.of_grown h.grown (fun q hq => by cases hq; rfl)
/-- 'm[k] = v'. -/
theorem MapIs.put (h : MapIs w b R) (r : En) (hk : wfTm r.t) (hn : R.length < maxLen) :
    ∃ w', (Instr.mapUpdate 54 (.map (some b)) (.agg (encTm r.t).toArray) (Value.int .i64 r.tick)).run Try.prog w = .ok () w' ∧ MapIs w' b (r :: restR R r.t) ∧ w.mapTurned w' b := by
  obtain ⟨hw, l, ho, hp⟩ := h
  obtain ⟨w', h1, h2, h3⟩ := ho.store keyed8 Try.underlying54 hn (keyOf_tm hk) (val := Value.int .i64 r.tick) (d := .held (Value.int .i64 r.tick)) (ps := []) rfl
  rw [DataW.put_eq] at h2
  have hp2 : (putKey (tmLit r.t) (.held (Value.int .i64 r.tick)) l).Perm ((r :: restR R r.t).map rcE) := by
    refine (WideShapes.insert_perm _ _).trans ?_
    rw [List.map_cons]
    refine List.Perm.cons _ ?_
    rw [← filter_rcE hw hk]
    exact hp.filter _
  have h4 := own_tight h2
  rw [hp2.length_eq, List.length_map] at h4
  refine ⟨w', h1, ⟨fun s hs => ?_, _, h4, hp2⟩, h3⟩
  rcases List.mem_cons.1 hs with rfl | hs
  · exact hk
  · exact hw s (mem_restR.1 hs).1
/-- 'delete(m, k)'. -/
theorem MapIs.drop (h : MapIs w b R) (hk : wfTm k) (ty : TypeId) :
    ∃ w', (Builtin.delete_ #[54, 33] ty #[.map (some b), .agg (encTm k).toArray]).run Try.prog w = .ok (.tuple #[]) w' ∧ MapIs w' b (restR R k) ∧ w.mapTurned w' b := by
  obtain ⟨hw, l, ho, hp⟩ := h
  obtain ⟨w', h1, h2, h3⟩ := ho.drop keyed8 Try.underlying54 (keyOf_tm hk) ty
  rw [DataW.del_eq] at h2
  have hp2 : (delKey (tmLit k) l).Perm ((restR R k).map rcE) := by
    rw [← filter_rcE hw hk]
    exact hp.filter _
  have h4 := own_tight h2
  rw [hp2.length_eq, List.length_map] at h4
  exact ⟨w', h1, ⟨fun s hs => hw s (mem_restR.1 hs).1, _, h4, hp2⟩, h3⟩
end
end Go.Proofs.Ytaghophkfogdgaa
