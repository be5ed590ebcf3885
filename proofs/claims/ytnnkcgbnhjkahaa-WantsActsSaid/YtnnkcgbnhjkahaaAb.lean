/- The map of what is wanted: what it holds, and what its operations make of that. Conditions: keys of 64 bits. -/
import Derived.Test.YtnnkcgbnhjkahaaAa
import Derived.Test.YtnnkcgbnhjkahaaJan
namespace Go.Proofs.Ytnnkcgbnhjkahaa
open Go.RowKit
open Go.Maps (Keyed)
open Go.ChangeMaps (notKey putKey delKey)

theorem zero_hd15 (w : World) : (zeroValue 38).run Try.prog w = .ok (.agg #[.int .i64 0, .int .i64 0, .int .i64 0, .int .i64 0, .int .i64 0, .int .i64 0, .int .i64 0]) w := by kernel_rfl
def hdVal (r : Hd) : Value := .agg #[.int .i64 r.age, .int .i64 r.kind, .int .i64 r.id, .int .i64 r.adv, .int .i64 r.seq, .int .i64 r.sum, .int .i64 r.long]
def hdE (r : Hd) : Lit × DataW Value := (kyLit (keyH r), .held (hdVal r))
/-- Block b is a map that holds just the places of R, each under its key. -/
def HmIs (w : World) (b : Nat) (R : List Hd) : Prop :=
  (∀ r ∈ R, wfKy (keyH r)) ∧ ∃ l : List (Lit × DataW Value), w.ownsMap Try.prog 47 asIs b R.length (.map l) ∧ l.Perm (R.map hdE)

section
variable {w w' : World} {b : Nat} {R : List Hd}
theorem HmIs.lt (h : HmIs w b R) : b < w.heap.size := by
  obtain ⟨-, l, ho, -⟩ := h
  exact ho.lt
theorem HmIs.heap (h : HmIs w b R) (he : w'.heap[b]? = w.heap[b]?) : HmIs w' b R := by
  obtain ⟨hw, l, ho, hp⟩ := h
  exact ⟨hw, l, own_heap ho he, hp⟩
theorem HmIs.chg {F : Nat → Prop} (h : HmIs w b R) (hc : Chg F w w') (hF : ¬ F b) : HmIs w' b R := h.heap (hc.block b h.lt hF)
theorem HmIs.below {B : Nat} (h : HmIs w b R) (hb : Below B w w') (hlt : b < B) : HmIs w' b R := h.heap (hb.block b hlt)
theorem HmIs.alloc (h : HmIs w b R) (o : Obj) : HmIs (w.alloc o) b R := h.below ((Below.refl w.heap.size w).alloc (Nat.le_refl _) o) h.lt
theorem HmIs.drew (h : HmIs w b R) : HmIs w.drew b R := h.heap rfl
theorem HmIs.setCell (h : HmIs w b R) {a : Addr} (ha : b ≠ a.block) (u : Value) : HmIs (w.setCell a u) b R := h.heap (RowKit.Below.heap_setCell _ _ _ _ ha)
theorem HmIs.made (w : World) : HmIs (w.alloc (.map #[] 0)) w.heap.size [] := ⟨fun r h => (by cases h), [], World.ownsMap_made _ _ _ _, List.Perm.refl _⟩
/-- No key stands twice. -/
theorem HmIs.nodup (h : HmIs w b R) : R.Pairwise fun r s => keyH r ≠ keyH s := by
  obtain ⟨hw, l, ho, hp⟩ := h
  obtain ⟨es, he, hpw⟩ := ho.tidy keyed7
  injection he with he
  subst he
  have h1 := (hp.pairwise_iff (fun {_ _} hne => Ne.symm hne)).1 hpw
  rw [List.pairwise_map] at h1
  exact h1.imp (fun hne e => hne (by unfold hdE; rw [e]))
end
section
variable {w : World} {b : Nat} {R : List Hd} {k : Ky}
/-- What stands at a key. -/
theorem hm_at (hw : ∀ r ∈ R, wfKy (keyH r)) (hn : R.Pairwise fun r s => keyH r ≠ keyH s) {l : List (Lit × DataW Value)} (hp : l.Perm (R.map hdE)) (hk : wfKy k) :
    (∀ z, getH R k = none → (DataW.map l).atKey (kyLit k) z = z ∧ Maps.has (DataW.map l) (kyLit k) = false) ∧ (∀ r z, getH R k = some r → (DataW.map l).atKey (kyLit k) z = .held (hdVal r) ∧ Maps.has (DataW.map l) (kyLit k) = true) := by
  have back : ∀ p ∈ l, p.1.sameKey (kyLit k) = true → ∃ r ∈ R, keyH r = k ∧ p = hdE r := fun p hpl hs => by
    obtain ⟨r, hr, rfl⟩ := List.mem_map.1 (hp.mem_iff.1 hpl)
    refine ⟨r, hr, ?_, rfl⟩
    have h1 : (kyLit (keyH r)).sameKey (kyLit k) = true := hs
    rw [sameKey_ky (hw r hr) hk] at h1
    exact (sameKy_iff _ _).1 h1
  constructor
  · intro z hg
    have hno : ∀ p ∈ l, ¬ p.1.sameKey (kyLit k) = true := fun p hpl hs => by
      obtain ⟨r, hr, e, _⟩ := back p hpl hs
      exact getH_none.1 hg r hr e
    refine ⟨?_, ?_⟩
    · simp only [DataW.atKey, List.find?_eq_none.2 hno]
    · unfold Maps.has
      rw [List.any_eq_false]
      exact hno
  · intro r z hg
    obtain ⟨hr, e⟩ := getH_some hg
    have hm : hdE r ∈ l := hp.mem_iff.2 (List.mem_map.2 ⟨r, hr, rfl⟩)
    have hs : (hdE r).1.sameKey (kyLit k) = true := by
      show (kyLit (keyH r)).sameKey (kyLit k) = true
      rw [sameKey_ky (hw r hr) hk]
      exact (sameKy_iff _ _).2 e
    refine ⟨?_, ?_⟩
    · cases hf : l.find? (fun p => p.1.sameKey (kyLit k)) with
      | none => exact absurd hs (List.find?_eq_none.1 hf _ hm)
      | some p =>
        obtain ⟨s, hs1, hs2, rfl⟩ := back p (List.mem_of_find?_eq_some hf) (List.find?_some (p := fun p : Lit × DataW Value => p.1.sameKey (kyLit k)) hf)
        have e2 := pw_keyH hn s hs1 r hr (hs2.trans e.symm)
        subst e2
        simp only [DataW.atKey, hf]
        rfl
    · unfold Maps.has
      rw [List.any_eq_true]
      exact ⟨_, hm, hs⟩
/-- 'v, is := m[k]', of a key that is there. -/
theorem HmIs.look_some (h : HmIs w b R) (hk : wfKy k) {r : Hd} (hg : getH R k = some r) :
    (Instr.lookup 77 (.map (some b)) (.agg #[.int .i64 k.kind, .int .i64 k.id, .int .i64 k.adv]) true).run Try.prog w = .ok (.tuple #[hdVal r, .bool true]) w ∧
    (Instr.lookup 77 (.map (some b)) (.agg #[.int .i64 k.kind, .int .i64 k.id, .int .i64 k.adv]) false).run Try.prog w = .ok (hdVal r) w := by
  have hn := h.nodup
  obtain ⟨hw, l, ho, hp⟩ := h
  have hat := (hm_at hw hn hp hk).2 r
  obtain ⟨v, ps, h1, h2⟩ := ho.look_ok keyed7 Try.underlying77 (zero_hd15 w) (zd := .held _) (zp := []) rfl (keyOf_ky hk)
  obtain ⟨v', ps', h1', h2'⟩ := ho.lookup keyed7 Try.underlying77 (zero_hd15 w) (zd := .held _) (zp := []) rfl (keyOf_ky hk)
  rw [(hat _ hg).1] at h2 h2'
  rw [(hat (.held undef) hg).2, asIs_inj h2] at h1
  rw [asIs_inj h2'] at h1'
  exact ⟨h1, h1'⟩
theorem HmIs.look_none (h : HmIs w b R) (hk : wfKy k) (hg : getH R k = none) :
    (Instr.lookup 77 (.map (some b)) (.agg #[.int .i64 k.kind, .int .i64 k.id, .int .i64 k.adv]) true).run Try.prog w = .ok (.tuple #[.agg #[.int .i64 0, .int .i64 0, .int .i64 0, .int .i64 0, .int .i64 0, .int .i64 0, .int .i64 0], .bool false]) w := by
  have hn := h.nodup
  obtain ⟨hw, l, ho, hp⟩ := h
  have hat := (hm_at hw hn hp hk).1
  obtain ⟨v, ps, h1, h2⟩ := ho.look_ok keyed7 Try.underlying77 (zero_hd15 w) (zd := .held _) (zp := []) rfl (keyOf_ky hk)
  rw [(hat _ hg).1] at h2
  rw [(hat (.held undef) hg).2, asIs_inj h2] at h1
  exact h1
theorem HmIs.len (h : HmIs w b R) (ty : TypeId) : (Builtin.len_ #[77] ty #[.map (some b)]).run Try.prog w = .ok (.int .i64 (R.length : Int)) w := by
  obtain ⟨hw, l, ho, hp⟩ := h
  rw [ho.len Try.underlying77 ty, Maps.size_eq, hp.length_eq, List.length_map]
theorem filter_hdE (hw : ∀ r ∈ R, wfKy (keyH r)) (hk : wfKy k) : (R.map hdE).filter (notKey (kyLit k)) = (restH R k).map hdE := by
  rw [List.filter_map]
  unfold restH
  congr 1
  refine List.filter_congr (fun s hs => ?_)
  show (!(kyLit (keyH s)).sameKey (kyLit k)) = _
  rw [sameKey_ky (hw s hs) hk]
/-- 'm[k] = v'. -/
theorem HmIs.put (h : HmIs w b R) (r : Hd) (hk : wfKy (keyH r)) (hn : R.length < maxLen) :
    ∃ w', (Instr.mapUpdate 77 (.map (some b)) (.agg #[.int .i64 (keyH r).kind, .int .i64 (keyH r).id, .int .i64 (keyH r).adv]) (hdVal r)).run Try.prog w = .ok () w' ∧ HmIs w' b (r :: restH R (keyH r)) ∧ w.mapTurned w' b := by
  obtain ⟨hw, l, ho, hp⟩ := h
  obtain ⟨w', h1, h2, h3⟩ := ho.store keyed7 Try.underlying77 hn (keyOf_ky hk) (val := hdVal r) (d := .held (hdVal r)) (ps := []) rfl
  rw [DataW.put_eq] at h2
  have hp2 : (putKey (kyLit (keyH r)) (.held (hdVal r)) l).Perm ((r :: restH R (keyH r)).map hdE) := by
    refine (WideShapes.insert_perm _ _).trans ?_
    rw [List.map_cons]
    refine List.Perm.cons _ ?_
    rw [← filter_hdE hw hk]
    exact hp.filter _
  have h4 := own_tight h2
  rw [hp2.length_eq, List.length_map] at h4
  refine ⟨w', h1, ⟨fun s hs => ?_, _, h4, hp2⟩, h3⟩
  rcases List.mem_cons.1 hs with rfl | hs
  · exact hk
  · exact hw s (mem_restH.1 hs).1
end

theorem HmIs.ne_blk {w : World} {b g : Nat} {R : List Hd} {t : TypeId} {cs : Array Value} (h : HmIs w b R) (hB : Blk w g t cs) : g ≠ b := by
  rintro rfl
  obtain ⟨-, l, ⟨es, clock, hb, -⟩, -⟩ := h
  have h1 : w.heap[g]? = some (.cells cs t (0, 0)) := hB
  rw [hb] at h1
  cases h1
theorem HmIs.ne_own {w : World} {base n size b : Nat} {R : List Hd} {t : TypeId} {v : Value} {xs : List Value} (h : HmIs w b R) (ho : w.ownsRow base t size v n xs) : v.ownBlock ≠ some b := by
  intro e
  obtain ⟨-, l, ⟨es, clock, hb, -⟩, -⟩ := h
  rcases ho.2 with ⟨rfl, _⟩ | ⟨g, cap, cur, rfl, _, hg, _⟩
  · cases e
  · injection e with e
    subst e
    rw [hb] at hg
    cases hg
/-- 'm[k] = i' as the next operation of a plain region's list. -/
theorem wpList_putHm {ops : Array Oper} {rest : List Oper} {o : Oper} {a : Act} {w : World} {Q : Exit → Act → World → Prop} {b : Nat} {R : List Hd} (r : Hd) (hg : o.guard = none) (m x v : Operand) (hop : o.op = Op.mapUpdate 77 m x v) (hm : a.eval m = .map (some b)) (hx : a.eval x = .agg #[.int .i64 r.kind, .int .i64 r.id, .int .i64 r.adv]) (hv : a.eval v = .agg #[.int .i64 r.age, .int .i64 r.kind, .int .i64 r.id, .int .i64 r.adv, .int .i64 r.seq, .int .i64 r.sum, .int .i64 r.long])
    (h : HmIs w b R) (hk : wfKy (keyH r)) (hn : R.length < maxLen) (hK : ∀ w', HmIs w' b (r :: restH R (keyH r)) → w.mapTurned w' b → wpList Try.prog ops Q rest (a.put o.dst undef) w') : wpList Try.prog ops Q (o :: rest) a w := by
  refine wpList_plain hg fun K' hK' => ?_
  obtain ⟨w', hrun, r1, r2⟩ := h.put r hk hn
  have hv2 : a.eval v = hdVal r := hv
  have hx2 : a.eval x = .agg #[.int .i64 (keyH r).kind, .int .i64 (keyH r).id, .int .i64 (keyH r).adv] := hx
  unfold Oper.wp
  simp [execOp, hop, hm, hx2, hv2, hrun, Result.andThen]
  exact hK' _ _ (hK w' r1 r2)
/-- 'delete(m, k)'. -/
theorem HmIs.drop {w : World} {b : Nat} {R : List Hd} {k : Ky} (h : HmIs w b R) (hk : wfKy k) (ty : TypeId) :
    ∃ w', (Builtin.delete_ #[77, 47] ty #[.map (some b), .agg #[.int .i64 k.kind, .int .i64 k.id, .int .i64 k.adv]]).run Try.prog w = .ok (.tuple #[]) w' ∧ HmIs w' b (restH R k) ∧ w.mapTurned w' b := by
  obtain ⟨hw, l, ho, hp⟩ := h
  obtain ⟨w', h1, h2, h3⟩ := ho.drop keyed7 Try.underlying77 (keyOf_ky hk) ty
  rw [DataW.del_eq] at h2
  have hp2 : (delKey (kyLit k) l).Perm ((restH R k).map hdE) := by
    rw [← filter_hdE hw hk]
    exact hp.filter _
  have h4 := own_tight h2
  rw [hp2.length_eq, List.length_map] at h4
  exact ⟨w', h1, ⟨fun s hs => hw s (mem_restH.1 hs).1, _, h4, hp2⟩, h3⟩
/-- 'clear(m)'. -/
theorem HmIs.clear {w : World} {b : Nat} {R : List Hd} (h : HmIs w b R) (ty : TypeId) :
    ∃ w', (Builtin.clear_ #[77] ty #[.map (some b)]).run Try.prog w = .ok (.tuple #[]) w' ∧ HmIs w' b [] ∧ w.mapTurned w' b := by
  obtain ⟨hw, l, ⟨es, clock, hb, F, hs, hD⟩, hp⟩ := h
  refine ⟨_, ?_, ⟨fun r h => (by cases h), [], ⟨#[], clock, (MapKept.heap_set hb (o' := .map #[] clock)).1, ⟨by simp, MapKept.stamped_empty clock, by simp⟩, Nat.le_refl _, rfl⟩, List.Perm.refl _⟩, ⟨es, clock, #[], clock, hb, rfl⟩⟩
  simp [Builtin.clear_, run_underlying Try.underlying77, MapKept.run_getObj_map hb, MapKept.run_setObj_map _ hb, Result.andThen]
  rfl
/-- 'delete(m, k)' as the next operation of a plain region's list. -/
theorem wpList_deleteHm {ops : Array Oper} {rest : List Oper} {o : Oper} {a : Act} {w : World} {Q : Exit → Act → World → Prop} {b : Nat} {R : List Hd} {k : Ky} (hg : o.guard = none) (m x : Operand) (hop : o.op = Op.call { callee := Callee.builtin Builtin.delete, args := #[m, x], argTypes := #[77, 47] })
    (hm : a.eval m = .map (some b)) (hx : a.eval x = .agg #[.int .i64 k.kind, .int .i64 k.id, .int .i64 k.adv]) (h : HmIs w b R) (hk : wfKy k) (hK : ∀ w', HmIs w' b (restH R k) → w.mapTurned w' b → wpList Try.prog ops Q rest (a.put o.dst (.tuple #[])) w') : wpList Try.prog ops Q (o :: rest) a w := by
  refine wpList_plain hg fun K' hK' => ?_
  obtain ⟨w', hrun, r1, r2⟩ := h.drop hk o.type
  unfold Oper.wp
  simp [execOp, hop, resolve, invoke, builtin, hm, hx, hrun, Result.andThen]
  exact hK' _ _ (hK w' r1 r2)
/-- 'clear(m)' as the next operation of a plain region's list. -/
theorem wpList_clearHm {ops : Array Oper} {rest : List Oper} {o : Oper} {a : Act} {w : World} {Q : Exit → Act → World → Prop} {b : Nat} {R : List Hd} (hg : o.guard = none) (m : Operand) (hop : o.op = Op.call { callee := Callee.builtin Builtin.clear, args := #[m], argTypes := #[77] })
    (hm : a.eval m = .map (some b)) (h : HmIs w b R) (hK : ∀ w', HmIs w' b [] → w.mapTurned w' b → wpList Try.prog ops Q rest (a.put o.dst (.tuple #[])) w') : wpList Try.prog ops Q (o :: rest) a w := by
  refine wpList_plain hg fun K' hK' => ?_
  obtain ⟨w', hrun, r1, r2⟩ := h.clear o.type
  unfold Oper.wp
  simp [execOp, hop, resolve, invoke, builtin, hm, hrun, Result.andThen]
  exact hK' _ _ (hK w' r1 r2)
/-- 'len(m)' as the next operation of a plain region's list. -/
theorem wpList_lenHm {ops : Array Oper} {rest : List Oper} {o : Oper} {a : Act} {w : World} {Q : Exit → Act → World → Prop} {b : Nat} {R : List Hd} (hg : o.guard = none) (m : Operand) (hop : o.op = Op.call { callee := Callee.builtin Builtin.len, args := #[m], argTypes := #[77] })
    (hm : a.eval m = .map (some b)) (h : HmIs w b R) (hK : wpList Try.prog ops Q rest (a.put o.dst (.int .i64 (R.length : Int))) w) : wpList Try.prog ops Q (o :: rest) a w := by
  refine wpList_plain hg fun K' hK' => ?_
  unfold Oper.wp
  simp [execOp, hop, resolve, invoke, builtin, hm, h.len o.type, Result.andThen]
  exact hK' _ _ hK
end Go.Proofs.Ytnnkcgbnhjkahaa
