/- A map of the places at which keys stand: what it holds, and what its operations make of that. Conditions: keys of 64 bits. -/
import Derived.Test.YtiibefgdlmjdgaaGreatJaq
import Derived.Test.YtiibefgdlmjdgaaGreatJao
namespace Go.Proofs.YtiibefgdlmjdgaaGreat
open Go.RowKit
open Go.Maps (Keyed)
open Go.ChangeMaps (notKey putKey delKey)

theorem zero_int13 (w : World) : (zeroValue 3).run Tryz.prog w = .ok (.int .i64 0) w := by kernel_rfl
/-- At which place a key stands. -/
structure Pl where
  k : Ky
  i : Nat
def plVal (r : Pl) : Value := .int .i64 (r.i : Int)
def plE (r : Pl) : Lit × DataW Value := (kyLit (r.k), .held (plVal r))
/-- Block b is a map that holds just the places of R, each under its key. -/
def PlIs (w : World) (b : Nat) (R : List Pl) : Prop :=
  (∀ r ∈ R, wfKy (r.k)) ∧ ∃ l : List (Lit × DataW Value), w.ownsMap Tryz.prog 48 asIs b R.length (.map l) ∧ l.Perm (R.map plE)

section
variable {w w' : World} {b : Nat} {R : List Pl}
theorem PlIs.lt (h : PlIs w b R) : b < w.heap.size := by
  obtain ⟨-, l, ho, -⟩ := h
  exact ho.lt
theorem PlIs.heap (h : PlIs w b R) (he : w'.heap[b]? = w.heap[b]?) : PlIs w' b R := by
  obtain ⟨hw, l, ho, hp⟩ := h
  exact ⟨hw, l, own_heap ho he, hp⟩
theorem PlIs.chg {F : Nat → Prop} (h : PlIs w b R) (hc : Chg F w w') (hF : ¬ F b) : PlIs w' b R := h.heap (hc.block b h.lt hF)
theorem PlIs.below {B : Nat} (h : PlIs w b R) (hb : Below B w w') (hlt : b < B) : PlIs w' b R := h.heap (hb.block b hlt)
theorem PlIs.alloc (h : PlIs w b R) (o : Obj) : PlIs (w.alloc o) b R := h.below ((Below.refl w.heap.size w).alloc (Nat.le_refl _) o) h.lt
theorem PlIs.drew (h : PlIs w b R) : PlIs w.drew b R := h.heap rfl
theorem PlIs.setCell (h : PlIs w b R) {a : Addr} (ha : b ≠ a.block) (u : Value) : PlIs (w.setCell a u) b R := h.heap (RowKit.Below.heap_setCell _ _ _ _ ha)
theorem PlIs.made (w : World) : PlIs (w.alloc (.map #[] 0)) w.heap.size [] := ⟨fun r h => (by cases h), [], World.ownsMap_made _ _ _ _, List.Perm.refl _⟩
/-- No key stands twice. -/
theorem PlIs.nodup (h : PlIs w b R) : R.Pairwise fun r s => r.k ≠ s.k := by
  obtain ⟨hw, l, ho, hp⟩ := h
  obtain ⟨es, he, hpw⟩ := ho.tidy keyed7
  injection he with he
  subst he
  have h1 := (hp.pairwise_iff (fun {_ _} hne => Ne.symm hne)).1 hpw
  rw [List.pairwise_map] at h1
  exact h1.imp (fun hne e => hne (by unfold plE; rw [e]))
end
/-- The one of a key. -/
def getP (R : List Pl) (k : Ky) : Option Pl := R.find? fun r => sameKy (r.k) k
theorem getP_some {R : List Pl} {k : Ky} {r : Pl} (h : getP R k = some r) : r ∈ R ∧ r.k = k := by
  unfold getP at h
  exact ⟨List.mem_of_find?_eq_some h, (sameKy_iff _ _).1 (List.find?_some (p := fun r : Pl => sameKy (r.k) k) h)⟩
theorem getP_none {R : List Pl} {k : Ky} (h : getP R k = none) : ∀ r ∈ R, r.k ≠ k := by
  unfold getP at h
  rw [List.find?_eq_none] at h
  exact fun r hr e => h r hr ((sameKy_iff _ _).2 e)
section
variable {w : World} {b : Nat} {R : List Pl} {k : Ky}
/-- What stands at a key. -/
theorem pl_at (hw : ∀ r ∈ R, wfKy (r.k)) (hn : R.Pairwise fun r s => r.k ≠ s.k) {l : List (Lit × DataW Value)} (hp : l.Perm (R.map plE)) (hk : wfKy k) :
    (∀ z, getP R k = none → (DataW.map l).atKey (kyLit k) z = z ∧ Maps.has (DataW.map l) (kyLit k) = false) ∧ (∀ r z, getP R k = some r → (DataW.map l).atKey (kyLit k) z = .held (plVal r) ∧ Maps.has (DataW.map l) (kyLit k) = true) := by
  have back : ∀ p ∈ l, p.1.sameKey (kyLit k) = true → ∃ r ∈ R, r.k = k ∧ p = plE r := fun p hpl hs => by
    obtain ⟨r, hr, rfl⟩ := List.mem_map.1 (hp.mem_iff.1 hpl)
    refine ⟨r, hr, ?_, rfl⟩
    have h1 : (kyLit (r.k)).sameKey (kyLit k) = true := hs
    rw [sameKey_ky (hw r hr) hk] at h1
    exact (sameKy_iff _ _).1 h1
  constructor
  · intro z hg
    have hno : ∀ p ∈ l, ¬ p.1.sameKey (kyLit k) = true := fun p hpl hs => by
      obtain ⟨r, hr, e, _⟩ := back p hpl hs
      exact getP_none hg r hr e
    refine ⟨?_, ?_⟩
    · simp only [DataW.atKey, List.find?_eq_none.2 hno]
    · unfold Maps.has
      rw [List.any_eq_false]
      exact hno
  · intro r z hg
    obtain ⟨hr, e⟩ := getP_some hg
    have hm : plE r ∈ l := hp.mem_iff.2 (List.mem_map.2 ⟨r, hr, rfl⟩)
    have hs : (plE r).1.sameKey (kyLit k) = true := by
      show (kyLit (r.k)).sameKey (kyLit k) = true
      rw [sameKey_ky (hw r hr) hk]
      exact (sameKy_iff _ _).2 e
    refine ⟨?_, ?_⟩
    · cases hf : l.find? (fun p => p.1.sameKey (kyLit k)) with
      | none => exact absurd hs (List.find?_eq_none.1 hf _ hm)
      | some p =>
        obtain ⟨s, hs1, hs2, rfl⟩ := back p (List.mem_of_find?_eq_some hf) (List.find?_some (p := fun p : Lit × DataW Value => p.1.sameKey (kyLit k)) hf)
        have e2 := pw_eq hn s hs1 r hr (hs2.trans e.symm)
        subst e2
        simp only [DataW.atKey, hf]
        rfl
    · unfold Maps.has
      rw [List.any_eq_true]
      exact ⟨_, hm, hs⟩
/-- 'v, is := m[k]', of a key that is there. -/
theorem PlIs.look_some (h : PlIs w b R) (hk : wfKy k) {r : Pl} (hg : getP R k = some r) :
    (Instr.lookup 59 (.map (some b)) (.agg #[.int .i64 k.kind, .int .i64 k.id, .int .i64 k.adv]) true).run Tryz.prog w = .ok (.tuple #[plVal r, .bool true]) w ∧
    (Instr.lookup 59 (.map (some b)) (.agg #[.int .i64 k.kind, .int .i64 k.id, .int .i64 k.adv]) false).run Tryz.prog w = .ok (plVal r) w := by
  have hn := h.nodup
  obtain ⟨hw, l, ho, hp⟩ := h
  have hat := (pl_at hw hn hp hk).2 r
  obtain ⟨v, ps, h1, h2⟩ := ho.look_ok keyed7 Tryz.underlying59 (zero_int13 w) (zd := .held _) (zp := []) rfl (keyOf_ky hk)
  obtain ⟨v', ps', h1', h2'⟩ := ho.lookup keyed7 Tryz.underlying59 (zero_int13 w) (zd := .held _) (zp := []) rfl (keyOf_ky hk)
  rw [(hat _ hg).1] at h2 h2'
  rw [(hat (.held undef) hg).2, asIs_inj h2] at h1
  rw [asIs_inj h2'] at h1'
  exact ⟨h1, h1'⟩
theorem PlIs.look_none (h : PlIs w b R) (hk : wfKy k) (hg : getP R k = none) :
    (Instr.lookup 59 (.map (some b)) (.agg #[.int .i64 k.kind, .int .i64 k.id, .int .i64 k.adv]) true).run Tryz.prog w = .ok (.tuple #[.int .i64 0, .bool false]) w := by
  have hn := h.nodup
  obtain ⟨hw, l, ho, hp⟩ := h
  have hat := (pl_at hw hn hp hk).1
  obtain ⟨v, ps, h1, h2⟩ := ho.look_ok keyed7 Tryz.underlying59 (zero_int13 w) (zd := .held _) (zp := []) rfl (keyOf_ky hk)
  rw [(hat _ hg).1] at h2
  rw [(hat (.held undef) hg).2, asIs_inj h2] at h1
  exact h1
theorem PlIs.len (h : PlIs w b R) (ty : TypeId) : (Builtin.len_ #[59] ty #[.map (some b)]).run Tryz.prog w = .ok (.int .i64 (R.length : Int)) w := by
  obtain ⟨hw, l, ho, hp⟩ := h
  rw [ho.len Tryz.underlying59 ty, Maps.size_eq, hp.length_eq, List.length_map]
/-- Those of other keys. -/
def restP (R : List Pl) (k : Ky) : List Pl := R.filter fun s => !sameKy (s.k) k
theorem mem_restP {s : Pl} : s ∈ restP R k ↔ s ∈ R ∧ s.k ≠ k := by
  unfold restP
  rw [List.mem_filter]
  have := sameKy_iff (s.k) k
  simp [← this]
theorem filter_plE (hw : ∀ r ∈ R, wfKy (r.k)) (hk : wfKy k) : (R.map plE).filter (notKey (kyLit k)) = (restP R k).map plE := by
  rw [List.filter_map]
  unfold restP
  congr 1
  refine List.filter_congr (fun s hs => ?_)
  show (!(kyLit (s.k)).sameKey (kyLit k)) = _
  rw [sameKey_ky (hw s hs) hk]
/-- 'm[k] = v'. -/
theorem PlIs.put (h : PlIs w b R) (r : Pl) (hk : wfKy (r.k)) (hn : R.length < maxLen) :
    ∃ w', (Instr.mapUpdate 59 (.map (some b)) (.agg #[.int .i64 r.k.kind, .int .i64 r.k.id, .int .i64 r.k.adv]) (plVal r)).run Tryz.prog w = .ok () w' ∧ PlIs w' b (r :: restP R (r.k)) ∧ w.mapTurned w' b := by
  obtain ⟨hw, l, ho, hp⟩ := h
  obtain ⟨w', h1, h2, h3⟩ := ho.store keyed7 Tryz.underlying59 hn (keyOf_ky hk) (val := plVal r) (d := .held (plVal r)) (ps := []) rfl
  rw [DataW.put_eq] at h2
  have hp2 : (putKey (kyLit (r.k)) (.held (plVal r)) l).Perm ((r :: restP R (r.k)).map plE) := by
    refine (WideShapes.insert_perm _ _).trans ?_
    rw [List.map_cons]
    refine List.Perm.cons _ ?_
    rw [← filter_plE hw hk]
    exact hp.filter _
  have h4 := own_tight h2
  rw [hp2.length_eq, List.length_map] at h4
  refine ⟨w', h1, ⟨fun s hs => ?_, _, h4, hp2⟩, h3⟩
  rcases List.mem_cons.1 hs with rfl | hs
  · exact hk
  · exact hw s (mem_restP.1 hs).1
end

theorem PlIs.ne_blk {w : World} {b g : Nat} {R : List Pl} {t : TypeId} {cs : Array Value} (h : PlIs w b R) (hB : Blk w g t cs) : g ≠ b := by
  rintro rfl
  obtain ⟨-, l, ⟨es, clock, hb, -⟩, -⟩ := h
  have h1 : w.heap[g]? = some (.cells cs t (0, 0)) := hB
  rw [hb] at h1
  cases h1
theorem PlIs.ne_own {w : World} {base n size b : Nat} {R : List Pl} {t : TypeId} {v : Value} {xs : List Value} (h : PlIs w b R) (ho : w.ownsRow base t size v n xs) : v.ownBlock ≠ some b := by
  intro e
  obtain ⟨-, l, ⟨es, clock, hb, -⟩, -⟩ := h
  rcases ho.2 with ⟨rfl, _⟩ | ⟨g, cap, cur, rfl, _, hg, _⟩
  · cases e
  · injection e with e
    subst e
    rw [hb] at hg
    cases hg
/-- 'm[k] = i' as the next operation of a plain region's list. -/
theorem wpList_putP {ops : Array Oper} {rest : List Oper} {o : Oper} {a : Act} {w : World} {Q : Exit → Act → World → Prop} {b : Nat} {R : List Pl} (r : Pl) (hg : o.guard = none) (m x v : Operand) (hop : o.op = Op.mapUpdate 59 m x v) (hm : a.eval m = .map (some b)) (hx : a.eval x = .agg #[.int .i64 r.k.kind, .int .i64 r.k.id, .int .i64 r.k.adv]) (hv : a.eval v = .int .i64 (r.i : Int))
    (h : PlIs w b R) (hk : wfKy r.k) (hn : R.length < maxLen) (hK : ∀ w', PlIs w' b (r :: restP R r.k) → w.mapTurned w' b → wpList Tryz.prog ops Q rest (a.put o.dst undef) w') : wpList Tryz.prog ops Q (o :: rest) a w := by
  refine wpList_plain hg fun K' hK' => ?_
  obtain ⟨w', hrun, r1, r2⟩ := h.put r hk hn
  have hv2 : a.eval v = plVal r := hv
  unfold Oper.wp
  simp [execOp, hop, hm, hx, hv2, hrun, Result.andThen]
  exact hK' _ _ (hK w' r1 r2)
end Go.Proofs.YtiibefgdlmjdgaaGreat
