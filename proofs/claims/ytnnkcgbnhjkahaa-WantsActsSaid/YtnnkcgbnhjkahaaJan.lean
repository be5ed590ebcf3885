/- A database's map: what it holds, and what its operations make of that. Conditions: keys of 64 bits. · Copies of lists of the call's own, and of a description. Conditions: at most 1000 items. · The program's database in memory: a map of descriptions; what it holds. Plain facts on such maps. No conditions. · The program's New, Len and Drop. Conditions: what the words say. · The program's Drop. Conditions: what the words say. · The program's Get. Conditions: what the words say. -/
import Derived.Deep.RegionHeld3
import Derived.StillTailTactics
import Derived.Deep.DeepCutAuto
import Derived.Test.YtnnkcgbnhjkahaaJam
namespace Go.Proofs.Ytnnkcgbnhjkahaa
open Go.RowKit
open Go.Maps (Keyed)
open Go.ChangeMaps (notKey putKey delKey)

/-- A description as a value. -/
def rcVal (r : Rc) : Value := .agg #[.int .i64 r.h.age, .int .i64 r.h.kind, .int .i64 r.h.id, .int .i64 r.h.adv, .int .i64 r.h.seq, .int .i64 r.h.sum, .int .i64 r.h.long, .slice r.p.a r.p.n r.p.c, .slice r.q.a r.q.n r.q.c]
/-- An element of the map reads as itself. -/
def asIs (v : Value) : Option (DataW Value × List MemPlace) := some (.held v, [])
def rcE (r : Rc) : Lit × DataW Value := (kyLit (keyH r.h), .held (rcVal r))
/-- Block b is a map that holds just the descriptions of R, each under its key. -/
def MapIs (w : World) (b : Nat) (R : List Rc) : Prop :=
  (∀ r ∈ R, wfKy (keyH r.h)) ∧ ∃ l : List (Lit × DataW Value), w.ownsMap Try.prog 47 asIs b R.length (.map l) ∧ l.Perm (R.map rcE)

theorem own_tight {H : Type} {P : Program} {k : TypeId} {R : Value → Option (DataW H × List MemPlace)} {w : World} {b n : Nat} {l : List (Lit × DataW H)} (h : w.ownsMap P k R b n (.map l)) : w.ownsMap P k R b l.length (.map l) := by
  obtain ⟨es, clock, hb, F, hs, hD⟩ := h
  refine ⟨es, clock, hb, F, ?_, hD⟩
  injection hD with hD
  rw [hD, length_sorted, List.length_map, Array.length_toList]
  exact Nat.le_refl _
theorem own_heap {H : Type} {P : Program} {k : TypeId} {R : Value → Option (DataW H × List MemPlace)} {w w' : World} {b n : Nat} {D : DataW H} (h : w.ownsMap P k R b n D) (he : w'.heap[b]? = w.heap[b]?) : w'.ownsMap P k R b n D := by
  obtain ⟨es, clock, hb, r⟩ := h
  exact ⟨es, clock, he.trans hb, r⟩
section
variable {w w' : World} {b : Nat} {R : List Rc}
theorem MapIs.lt (h : MapIs w b R) : b < w.heap.size := by
  obtain ⟨-, l, ho, -⟩ := h
  exact ho.lt
theorem MapIs.heap (h : MapIs w b R) (he : w'.heap[b]? = w.heap[b]?) : MapIs w' b R := by
  obtain ⟨hw, l, ho, hp⟩ := h
  exact ⟨hw, l, own_heap ho he, hp⟩
theorem MapIs.chg {F : Nat → Prop} (h : MapIs w b R) (hc : Chg F w w') (hF : ¬ F b) : MapIs w' b R := h.heap (hc.block b h.lt hF)
theorem MapIs.below {B : Nat} (h : MapIs w b R) (hb : Below B w w') (hlt : b < B) : MapIs w' b R := h.heap (hb.block b hlt)
theorem MapIs.alloc (h : MapIs w b R) (o : Obj) : MapIs (w.alloc o) b R := h.below ((Below.refl w.heap.size w).alloc (Nat.le_refl _) o) h.lt
theorem MapIs.drew (h : MapIs w b R) : MapIs w.drew b R := h.heap rfl
theorem MapIs.setCell (h : MapIs w b R) {a : Addr} (ha : b ≠ a.block) (u : Value) : MapIs (w.setCell a u) b R := h.heap (RowKit.Below.heap_setCell _ _ _ _ ha)
theorem MapIs.made (w : World) : MapIs (w.alloc (.map #[] 0)) w.heap.size [] := ⟨fun r h => (by cases h), [], World.ownsMap_made _ _ _ _, List.Perm.refl _⟩
/-- No key stands twice. -/
theorem MapIs.nodup (h : MapIs w b R) : R.Pairwise fun r s => keyH r.h ≠ keyH s.h := by
  obtain ⟨hw, l, ho, hp⟩ := h
  obtain ⟨es, he, hpw⟩ := ho.tidy keyed7
  injection he with he
  subst he
  have h1 := (hp.pairwise_iff (fun {_ _} hne => Ne.symm hne)).1 hpw
  rw [List.pairwise_map] at h1
  exact h1.imp (fun hne e => hne (by unfold rcE; rw [e]))
end
theorem pw_eq {α β : Type} {f : α → β} : ∀ {R : List α}, R.Pairwise (fun r s => f r ≠ f s) → ∀ r ∈ R, ∀ s ∈ R, f r = f s → r = s
  | x :: R, h, r, hr, s, hs, e => by
    obtain ⟨h1, h2⟩ := List.pairwise_cons.1 h
    rcases List.mem_cons.1 hr with rfl | hr'
    · rcases List.mem_cons.1 hs with rfl | hs'
      · rfl
      · exact absurd e (h1 s hs')
    · rcases List.mem_cons.1 hs with rfl | hs'
      · exact absurd e.symm (h1 r hr')
      · exact pw_eq h2 r hr' s hs' e
/-- The one of a key. -/
def getR (R : List Rc) (k : Ky) : Option Rc := R.find? fun r => sameKy (keyH r.h) k
theorem getR_some {R : List Rc} {k : Ky} {r : Rc} (h : getR R k = some r) : r ∈ R ∧ keyH r.h = k := by
  unfold getR at h
  exact ⟨List.mem_of_find?_eq_some h, (sameKy_iff _ _).1 (List.find?_some (p := fun r : Rc => sameKy (keyH r.h) k) h)⟩
theorem getR_none {R : List Rc} {k : Ky} (h : getR R k = none) : ∀ r ∈ R, keyH r.h ≠ k := by
  unfold getR at h
  rw [List.find?_eq_none] at h
  exact fun r hr e => h r hr ((sameKy_iff _ _).2 e)
theorem sameKey_ky {a b : Ky} (ha : wfKy a) (hb : wfKy b) : (kyLit a).sameKey (kyLit b) = sameKy a b := by
  cases h : sameKy a b
  · cases h2 : (kyLit a).sameKey (kyLit b)
    · rfl
    · have := kyLit_inj ha hb (WideAt.sameKey_eq h2)
      rw [(sameKy_iff _ _).2 this] at h
      cases h
  · rw [(sameKy_iff _ _).1 h]
    exact WideAt.sameKey_self (keyed7.key (keyOf_ky hb))
section
variable {w : World} {b : Nat} {R : List Rc} {k : Ky}
/-- What stands at a key. -/
theorem map_at (hw : ∀ r ∈ R, wfKy (keyH r.h)) (hn : R.Pairwise fun r s => keyH r.h ≠ keyH s.h) {l : List (Lit × DataW Value)} (hp : l.Perm (R.map rcE)) (hk : wfKy k) :
    (∀ z, getR R k = none → (DataW.map l).atKey (kyLit k) z = z ∧ Maps.has (DataW.map l) (kyLit k) = false) ∧ (∀ r z, getR R k = some r → (DataW.map l).atKey (kyLit k) z = .held (rcVal r) ∧ Maps.has (DataW.map l) (kyLit k) = true) := by
  have back : ∀ p ∈ l, p.1.sameKey (kyLit k) = true → ∃ r ∈ R, keyH r.h = k ∧ p = rcE r := fun p hpl hs => by
    obtain ⟨r, hr, rfl⟩ := List.mem_map.1 (hp.mem_iff.1 hpl)
    refine ⟨r, hr, ?_, rfl⟩
    have h1 : (kyLit (keyH r.h)).sameKey (kyLit k) = true := hs
    rw [sameKey_ky (hw r hr) hk] at h1
    exact (sameKy_iff _ _).1 h1
  constructor
  · intro z hg
    have hno : ∀ p ∈ l, ¬ p.1.sameKey (kyLit k) = true := fun p hpl hs => by
      obtain ⟨r, hr, e, _⟩ := back p hpl hs
      exact getR_none hg r hr e
    refine ⟨?_, ?_⟩
    · simp only [DataW.atKey, List.find?_eq_none.2 hno]
    · unfold Maps.has
      rw [List.any_eq_false]
      exact hno
  · intro r z hg
    obtain ⟨hr, e⟩ := getR_some hg
    have hm : rcE r ∈ l := hp.mem_iff.2 (List.mem_map.2 ⟨r, hr, rfl⟩)
    have hs : (rcE r).1.sameKey (kyLit k) = true := by
      show (kyLit (keyH r.h)).sameKey (kyLit k) = true
      rw [sameKey_ky (hw r hr) hk]
      exact (sameKy_iff _ _).2 e
    refine ⟨?_, ?_⟩
    · cases hf : l.find? (fun p => p.1.sameKey (kyLit k)) with
      | none => exact absurd hs (List.find?_eq_none.1 hf _ hm)
      | some p =>
        obtain ⟨s, hs1, hs2, rfl⟩ := back p (List.mem_of_find?_eq_some hf) (List.find?_some (p := fun p : Lit × DataW Value => p.1.sameKey (kyLit k)) hf)
        have e2 := pw_eq hn s hs1 r hr (hs2.trans e.symm)
        subst e2
        simp only [DataW.atKey, hf]
        rfl
    · unfold Maps.has
      rw [List.any_eq_true]
      exact ⟨_, hm, hs⟩
theorem zero_lsa7 (w : World) : (zeroValue 62).run Try.prog w = .ok (.agg #[.int .i64 0, .int .i64 0, .int .i64 0, .int .i64 0, .int .i64 0, .int .i64 0, .int .i64 0, .slice none 0 0, .slice none 0 0]) w := by kernel_rfl
theorem asIs_inj {v : Value} {d : Value} {ps : List MemPlace} (h : asIs v = some (.held d, ps)) : v = d := by
  unfold asIs at h
  injection h with h
  injection h with h _
  injection h
/-- 'v, is := m[k]', of a key that is there. -/
theorem MapIs.look_some (h : MapIs w b R) (hk : wfKy k) {r : Rc} (hg : getR R k = some r) :
    (Instr.lookup 83 (.map (some b)) (.agg #[.int .i64 k.kind, .int .i64 k.id, .int .i64 k.adv]) true).run Try.prog w = .ok (.tuple #[rcVal r, .bool true]) w ∧
    (Instr.lookup 83 (.map (some b)) (.agg #[.int .i64 k.kind, .int .i64 k.id, .int .i64 k.adv]) false).run Try.prog w = .ok (rcVal r) w := by
  have hn := h.nodup
  obtain ⟨hw, l, ho, hp⟩ := h
  have hat := (map_at hw hn hp hk).2 r
  obtain ⟨v, ps, h1, h2⟩ := ho.look_ok keyed7 Try.underlying83 (zero_lsa7 w) (zd := .held _) (zp := []) rfl (keyOf_ky hk)
  obtain ⟨v', ps', h1', h2'⟩ := ho.lookup keyed7 Try.underlying83 (zero_lsa7 w) (zd := .held _) (zp := []) rfl (keyOf_ky hk)
  rw [(hat _ hg).1] at h2 h2'
  rw [(hat (.held undef) hg).2, asIs_inj h2] at h1
  rw [asIs_inj h2'] at h1'
  exact ⟨h1, h1'⟩
theorem MapIs.look_none (h : MapIs w b R) (hk : wfKy k) (hg : getR R k = none) :
    (Instr.lookup 83 (.map (some b)) (.agg #[.int .i64 k.kind, .int .i64 k.id, .int .i64 k.adv]) true).run Try.prog w = .ok (.tuple #[.agg #[.int .i64 0, .int .i64 0, .int .i64 0, .int .i64 0, .int .i64 0, .int .i64 0, .int .i64 0, .slice none 0 0, .slice none 0 0], .bool false]) w := by
  have hn := h.nodup
  obtain ⟨hw, l, ho, hp⟩ := h
  have hat := (map_at hw hn hp hk).1
  obtain ⟨v, ps, h1, h2⟩ := ho.look_ok keyed7 Try.underlying83 (zero_lsa7 w) (zd := .held _) (zp := []) rfl (keyOf_ky hk)
  rw [(hat _ hg).1] at h2
  rw [(hat (.held undef) hg).2, asIs_inj h2] at h1
  exact h1
theorem MapIs.len (h : MapIs w b R) (ty : TypeId) : (Builtin.len_ #[83] ty #[.map (some b)]).run Try.prog w = .ok (.int .i64 (R.length : Int)) w := by
  obtain ⟨hw, l, ho, hp⟩ := h
  rw [ho.len Try.underlying83 ty, Maps.size_eq, hp.length_eq, List.length_map]
/-- Those of other keys. -/
def restR (R : List Rc) (k : Ky) : List Rc := R.filter fun s => !sameKy (keyH s.h) k
theorem mem_restR {s : Rc} : s ∈ restR R k ↔ s ∈ R ∧ keyH s.h ≠ k := by
  unfold restR
  rw [List.mem_filter]
  have := sameKy_iff (keyH s.h) k
  simp [← this]
theorem filter_rcE (hw : ∀ r ∈ R, wfKy (keyH r.h)) (hk : wfKy k) : (R.map rcE).filter (notKey (kyLit k)) = (restR R k).map rcE := by
  rw [List.filter_map]
  unfold restR
  congr 1
  refine List.filter_congr (fun s hs => ?_)
  show (!(kyLit (keyH s.h)).sameKey (kyLit k)) = _
  rw [sameKey_ky (hw s hs) hk]
theorem chg_of_turned {w' : World} (h : w.mapTurned w' b) : Chg (fun q => q = b) w w' := Chg.of_grown h.grown (fun q hq => by cases hq; rfl)
/-- 'm[k] = v'. -/
theorem MapIs.put (h : MapIs w b R) (r : Rc) (hk : wfKy (keyH r.h)) (hn : R.length < maxLen) :
    ∃ w', (Instr.mapUpdate 83 (.map (some b)) (.agg #[.int .i64 r.h.kind, .int .i64 r.h.id, .int .i64 r.h.adv]) (rcVal r)).run Try.prog w = .ok () w' ∧ MapIs w' b (r :: restR R (keyH r.h)) ∧ w.mapTurned w' b := by
  obtain ⟨hw, l, ho, hp⟩ := h
  obtain ⟨w', h1, h2, h3⟩ := ho.store keyed7 Try.underlying83 hn (keyOf_ky hk) (val := rcVal r) (d := .held (rcVal r)) (ps := []) rfl
  rw [DataW.put_eq] at h2
  have hp2 : (putKey (kyLit (keyH r.h)) (.held (rcVal r)) l).Perm ((r :: restR R (keyH r.h)).map rcE) := by
    refine (WideShapes.insert_perm _ _).trans ?_
    rw [List.map_cons]
    refine List.Perm.cons _ ?_
    rw [← filter_rcE hw hk]
    exact hp.filter _
  have h4 := own_tight h2
  rw [hp2.length_eq, List.length_map] at h4
  refine ⟨w', h1, ⟨fun s hs => ?_, _, h4, hp2⟩, h3⟩
  rcases List.mem_cons.1 hs with rfl | hs
  · exact hk
  · exact hw s (mem_restR.1 hs).1
/-- 'delete(m, k)'. -/
theorem MapIs.drop (h : MapIs w b R) (hk : wfKy k) (ty : TypeId) :
    ∃ w', (Builtin.delete_ #[83, 47] ty #[.map (some b), .agg #[.int .i64 k.kind, .int .i64 k.id, .int .i64 k.adv]]).run Try.prog w = .ok (.tuple #[]) w' ∧ MapIs w' b (restR R k) ∧ w.mapTurned w' b := by
  obtain ⟨hw, l, ho, hp⟩ := h
  obtain ⟨w', h1, h2, h3⟩ := ho.drop keyed7 Try.underlying83 (keyOf_ky hk) ty
  rw [DataW.del_eq] at h2
  have hp2 : (delKey (kyLit k) l).Perm ((restR R k).map rcE) := by
    rw [← filter_rcE hw hk]
    exact hp.filter _
  have h4 := own_tight h2
  rw [hp2.length_eq, List.length_map] at h4
  exact ⟨w', h1, ⟨fun s hs => hw s (mem_restR.1 hs).1, _, h4, hp2⟩, h3⟩
end
end Go.Proofs.Ytnnkcgbnhjkahaa
namespace Go.Proofs.Ytnnkcgbnhjkahaa
open Go.RowKit Go.Shelf Go.Lib

theorem blk_new07 (w : World) (cs : Array Value) (t : TypeId) (o : Obj) : Blk ((w.alloc (.cells cs t)).alloc o) w.heap.size t cs := (Blk.new w t cs).below ((Below.refl (w.alloc (.cells cs t)).heap.size (w.alloc (.cells cs t))).alloc (Nat.le_refl _) o) (by simp)
theorem own_cell7 {w : World} {base n size g : Nat} {e : TypeId} {c : Nat} {xs : List Value} (ho : w.ownsRow base e size (.slice (some ⟨g, 0, none⟩) n c) n xs) : ∀ j u, xs[j]? = some u → w.cell? ⟨g, 0 + j, none⟩ = some u := by
  intro j u hj
  have h1 := ho.cells (g := g) rfl j u hj
  have e : (⟨g, 0, none⟩ : Addr).add j = ⟨g, 0 + j, none⟩ := by
    cases j with
    | zero => rfl
    | succ j => rfl
  rwa [e] at h1
theorem own_addr7 {w : World} {base n size : Nat} {e : TypeId} {A : Option Addr} {c : Nat} {xs : List Value} (ho : w.ownsRow base e size (.slice A n c) n xs) : (A = none ∧ n = 0 ∧ c = 0) ∨ ∃ g, A = some ⟨g, 0, none⟩ := by
  rcases ho.2 with ⟨hv, hn⟩ | ⟨g, cap, cur, hv, _⟩
  · injection hv with e1 e2 e3
    exact .inl ⟨e1, e2, e3⟩
  · injection hv with e1 e2 e3
    exact .inr ⟨g, e1⟩
theorem own_drew7 {w : World} {base n size : Nat} {e : TypeId} {v : Value} {xs : List Value} (h : w.ownsRow base e size v n xs) : w.drew.ownsRow base e size v n xs := h
/-- What a copy is. -/
def CopyOk (w : World) (e : TypeId) (size : Nat) (A : Option Addr) (n : Nat) (xs : List Value) (x : Ending) (w' : World) : Prop :=
  ∃ A' c', x = .returned (.slice A' n c') ∧ w'.ownsRow w.heap.size e size (.slice A' n c') n xs ∧ Below w.heap.size w w' ∧ (A = none → A' = none ∧ c' = 0)
theorem copy_of7 {w w' : World} {e : TypeId} {size n : Nat} {g : Nat} {xs : List Value} {v : Value} (ho : w'.ownsRow w.heap.size e size v n xs) (hb : Below w.heap.size w w') : CopyOk w e size (some ⟨g, 0, none⟩) n xs (.returned v) w' := by
  obtain ⟨A', c', rfl⟩ := own_slice ho
  exact ⟨A', c', rfl, ho, hb, fun h => by cases h⟩
theorem infoLk7 : (Try.prog.info? 96).map (fun i => (i.zero, i.size, i.bytes)) = some (some (.agg #[.int .i64 0, .int .i64 0, .int .i64 0, .int .i64 0]), 4, 32) := by kernel_rfl
theorem infoInt7 : (Try.prog.info? 3).map (fun i => (i.zero, i.size, i.bytes)) = some (some (.int .i64 0), 1, 8) := by kernel_rfl
theorem lkCells_ones7 : ∀ (L : List Lk), ∀ u ∈ lkCells L, u.oneCell' = true
  | [], u, h => by cases h
  | k :: L, u, h => by
    unfold lkCells at h
    simp only [List.mem_cons] at h
    rcases h with rfl | rfl | rfl | rfl | h
    · rfl
    · rfl
    · rfl
    · rfl
    · exact lkCells_ones7 L u h
theorem ints_ones7 (M : List Int) : ∀ u ∈ M.map (Value.int .i64), u.oneCell' = true := by
  intro u hu
  obtain ⟨x, _, rfl⟩ := List.mem_map.1 hu
  rfl
theorem cloneLk_any {w : World} {lo n c : Nat} {A : Option Addr} {L : List Lk} (ho : w.ownsRow lo 96 4 (.slice A n c) n (lkCells L)) (hn : n ≤ 1000) :
    Calls Try.prog 73 #[.slice A n c] w (CopyOk w 96 4 A n (lkCells L)) := by
  rcases own_addr7 ho with ⟨rfl, rfl, rfl⟩ | ⟨g, rfl⟩
  · refine (AnyE.slices_Clone_nil cloneLk7 0 0 w).mono ?_
    rintro e w' ⟨rfl, rfl⟩
    have hl := ho.1
    exact ⟨none, 0, rfl, by rw [List.eq_nil_of_length_eq_zero (by omega : (lkCells L).length = 0)]; exact World.ownsRow_nil _ _ _ _, Below.refl _ _, fun _ => ⟨rfl, rfl⟩⟩
  · obtain ⟨i0, hi, hz0, hz1, hz2⟩ := info_parts infoLk7
    refine (AnyE.slices_Clone cloneLk7 i0 (.agg #[.int .i64 0, .int .i64 0, .int .i64 0, .int .i64 0]) 4 32 hi hz0 hz1 hz2 rfl (by decide) Try.sizeOf96 g 0 n c (lkCells L) w ho.1 (by unfold maxLen; omega) (by omega) (own_cell7 ho) (lkCells_ones7 L)).mono ?_
    rintro e w' ⟨v', rfl, h1, -, h2⟩
    exact copy_of7 h1 h2
theorem cloneInt_any {w : World} {lo n c : Nat} {A : Option Addr} {M : List Int} (ho : w.ownsRow lo 3 1 (.slice A n c) n (M.map (Value.int .i64))) (hn : n ≤ 1000) :
    Calls Try.prog 74 #[.slice A n c] w (CopyOk w 3 1 A n (M.map (Value.int .i64))) := by
  rcases own_addr7 ho with ⟨rfl, rfl, rfl⟩ | ⟨g, rfl⟩
  · refine (AnyE.slices_Clone_nil cloneInt7 0 0 w).mono ?_
    rintro e w' ⟨rfl, rfl⟩
    have hl := ho.1
    exact ⟨none, 0, rfl, by rw [List.eq_nil_of_length_eq_zero (by omega : (M.map (Value.int .i64)).length = 0)]; exact World.ownsRow_nil _ _ _ _, Below.refl _ _, fun _ => ⟨rfl, rfl⟩⟩
  · obtain ⟨i0, hi, hz0, hz1, hz2⟩ := info_parts infoInt7
    refine (AnyE.slices_Clone cloneInt7 i0 (.int .i64 0) 1 8 hi hz0 hz1 hz2 rfl (by decide) Try.sizeOf3 g 0 n c (M.map (Value.int .i64)) w ho.1 (by unfold maxLen; omega) (by omega) (own_cell7 ho) (ints_ones7 M)).mono ?_
    rintro e w' ⟨v', rfl, h1, -, h2⟩
    exact copy_of7 h1 h2
/-- What fresh answers. -/
def Fresh7 (w : World) (r : Rc) (x : La) (e : Ending) (w' : World) : Prop := ∃ r' : Rc, e = .returned (rcVal r') ∧ Below w.heap.size w w' ∧ RcIs w' w.heap.size r' x ∧ r'.p.n = r.p.n ∧ r'.q.n = r.q.n ∧ (r.p.a = none → r'.p = ⟨none, r.p.n, 0⟩) ∧ (r.q.a = none → r'.q = ⟨none, r.q.n, 0⟩)
theorem keep9c {w0 w' : World} {p g2 : Nat} {t : TypeId} {a0 a1 a2 a3 a4 a5 a6 a7 a8 : Value} (hk : Blk w0 p t #[a0, a1, a2, a3, a4, a5, a6, a7, a8]) (hne : p ≠ g2) (hc : Chg (fun q => q = g2) w0 w') :
    Chg (fun q => q = g2) w0 w' ∧ w'.cell? ⟨p, 0, none⟩ = some a0 ∧ w'.cell? ⟨p, 1, none⟩ = some a1 ∧ w'.cell? ⟨p, 2, none⟩ = some a2 ∧ w'.cell? ⟨p, 3, none⟩ = some a3 ∧ w'.cell? ⟨p, 4, none⟩ = some a4 ∧ w'.cell? ⟨p, 5, none⟩ = some a5 ∧ w'.cell? ⟨p, 6, none⟩ = some a6 ∧ w'.cell? ⟨p, 7, none⟩ = some a7 ∧ w'.cell? ⟨p, 8, none⟩ = some a8 :=
  ⟨hc, (hk.chg hc hne).nine⟩
theorem Chg.setCell {F : Nat → Prop} {w w' : World} (h : Chg F w w') (a : Addr) (ha : F a.block) (v : Value) : Chg F w (w'.setCell a v) :=
  h.trans (Chg.of_grown (grown_setCell w' a v) (fun _ hq => by cases hq; exact ha)) (fun _ hq => .inl hq)
theorem Chg.below {F : Nat → Prop} {w w' w'' : World} (h : Chg F w w') (hb : Below w'.heap.size w' w'') : Chg F w w'' := h.trans (Chg.of_below (F := F) hb) (fun _ hq => .inl hq)
theorem own_nine7 {w : World} {base n size g : Nat} {t : TypeId} {v : Value} {xs : List Value} (ho : w.ownsRow base t size v n xs) (hne : v.ownBlock ≠ some g) (u0 u1 u2 u3 u4 u5 u6 u7 u8 : Value) :
    (((((((((w.setCell ⟨g, 0, none⟩ u0).setCell ⟨g, 1, none⟩ u1).setCell ⟨g, 2, none⟩ u2).setCell ⟨g, 3, none⟩ u3).setCell ⟨g, 4, none⟩ u4).setCell ⟨g, 5, none⟩ u5).setCell ⟨g, 6, none⟩ u6).setCell ⟨g, 7, none⟩ u7).setCell ⟨g, 8, none⟩ u8).ownsRow base t size v n xs := (own_ne (own_ne (own_ne (own_ne (own_ne (own_ne (own_ne (own_ne (own_ne ho ⟨g, 0, none⟩ u0 hne) ⟨g, 1, none⟩ u1 hne) ⟨g, 2, none⟩ u2 hne) ⟨g, 3, none⟩ u3 hne) ⟨g, 4, none⟩ u4 hne) ⟨g, 5, none⟩ u5 hne) ⟨g, 6, none⟩ u6 hne) ⟨g, 7, none⟩ u7 hne) ⟨g, 8, none⟩ u8 hne)
set_option maxRecDepth 8000 in
set_option maxHeartbeats 8000000 in
theorem fresh7 {w : World} {lo : Nat} {r : Rc} {x : La} (h : RcIs w lo r x) (hp : r.p.n ≤ 1000) (hq : r.q.n ≤ 1000) : Calls Try.prog 52 #[rcVal r] w (Fresh7 w r x) := by
  obtain ⟨⟨a, k, i, v, s, u, l⟩, ⟨A, n, c⟩, ⟨A', n', c'⟩⟩ := r
  obtain ⟨h1, h2, h3, h4, h5⟩ := h
  simp only at h1 h2 h3 h4 h5 hp hq
  generalize hQ : Fresh7 w ⟨⟨a, k, i, v, s, u, l⟩, ⟨A, n, c⟩, ⟨A', n', c'⟩⟩ x = Q
  have HQ := Lib.hid hQ
  clear hQ
  unfold rcVal
  have K0 := Lib.hid (blk_new07 w #[.int .i64 a, .int .i64 k, .int .i64 i, .int .i64 v, .int .i64 s, .int .i64 u, .int .i64 l, .slice A n c, .slice A' n' c'] 62 (.cells #[.int .i64 0, .int .i64 0, .int .i64 0, .int .i64 0, .int .i64 0, .int .i64 0, .int .i64 0, .slice none 0 0, .slice none 0 0] 62))
  have K1 := Lib.hid (blk_new1 w (.cells #[.int .i64 a, .int .i64 k, .int .i64 i, .int .i64 v, .int .i64 s, .int .i64 u, .int .i64 l, .slice A n c, .slice A' n' c'] 62) 62 #[.int .i64 0, .int .i64 0, .int .i64 0, .int .i64 0, .int .i64 0, .int .i64 0, .int .i64 0, .slice none 0 0, .slice none 0 0])
  have B0 := Lib.hid (below_new2 w (.cells #[.int .i64 a, .int .i64 k, .int .i64 i, .int .i64 v, .int .i64 s, .int .i64 u, .int .i64 l, .slice A n c, .slice A' n' c'] 62) (.cells #[.int .i64 0, .int .i64 0, .int .i64 0, .int .i64 0, .int .i64 0, .int .i64 0, .int .i64 0, .slice none 0 0, .slice none 0 0] 62))
  have O2 := Lib.hid (own_below2 h2 B0.out)
  have O4 := Lib.hid (own_below2 h4 B0.out)
  go_enter Try.func52, Try.ntmps52
  go_wp2_with fail
  generalize (w.alloc (.cells #[.int .i64 a, .int .i64 k, .int .i64 i, .int .i64 v, .int .i64 s, .int .i64 u, .int .i64 l, .slice A n c, .slice A' n' c'] 62)).alloc (.cells #[.int .i64 0, .int .i64 0, .int .i64 0, .int .i64 0, .int .i64 0, .int .i64 0, .int .i64 0, .slice none 0 0, .slice none 0 0] 62) = w0 at *
  obtain ⟨k0, k1, k2, k3, k4, k5, k6, k7, k8⟩ := K0.out.nine
  obtain ⟨g0, g1, g2, g3, g4, g5, g6, g7, g8⟩ := K1.out.nineF
  have HNE := Lib.hid (show w.heap.size ≠ w.heap.size + 1 by omega)
  have C0 : Chg (fun q => q = w.heap.size + 1) w0 w0.drew := ⟨rfl, rfl, rfl, Nat.le_refl _, fun _ _ _ => rfl⟩
  have hlt1 := K1.out.lt
  go_region_held3 (fun w' => Chg (fun q => q = w.heap.size + 1) w0 w' ∧ w'.cell? ⟨w.heap.size, 0, none⟩ = some (.int .i64 a) ∧ w'.cell? ⟨w.heap.size, 1, none⟩ = some (.int .i64 k) ∧ w'.cell? ⟨w.heap.size, 2, none⟩ = some (.int .i64 i) ∧ w'.cell? ⟨w.heap.size, 3, none⟩ = some (.int .i64 v) ∧ w'.cell? ⟨w.heap.size, 4, none⟩ = some (.int .i64 s) ∧ w'.cell? ⟨w.heap.size, 5, none⟩ = some (.int .i64 u) ∧ w'.cell? ⟨w.heap.size, 6, none⟩ = some (.int .i64 l) ∧ w'.cell? ⟨w.heap.size, 7, none⟩ = some (.slice A n c) ∧ w'.cell? ⟨w.heap.size, 8, none⟩ = some (.slice A' n' c')) ((refine keep9c K0.out HNE.out ?_; first | with_reducible exact C0 | with_reducible exact hCL | with_reducible exact hCI | with_reducible exact hCI.setCell _ rfl _ | with_reducible exact (((((((((hCI.setCell _ rfl _).setCell _ rfl _).setCell _ rfl _).setCell _ rfl _).setCell _ rfl _).setCell _ rfl _).setCell _ rfl _).setCell _ rfl _).setCell _ rfl _)))
    (first
      | (go_at_call 73; refine (cloneLk_any (own_drew7 O2.out) hp).mono ?_; rintro eL wL ⟨AL, cL, rfl, hoL, hbL, hnL⟩; have hCL := C0.below hbL)
      | (go_at_call 74; refine (cloneInt_any (own_below2 (own_drew7 O4.out) hbL) hq).mono ?_; rintro eI wI ⟨AI, cI, rfl, hoI, hbI, hnI⟩; have hCI := hCL.below hbI; have KI := ((K1.out.drew.below hbL hlt1).below hbI (Nat.lt_of_lt_of_le hlt1 hbL.size)); obtain ⟨f0, f1, f2, f3, f4, f5, f6, f7, f8⟩ := KI.nineF; obtain ⟨z0, z1, z2, z3, z4, z5, z6, z7, z8⟩ := KI.nine))
  have hz0 := B0.out.size
  have hzL := hbL.size
  have BI : Below w.heap.size w wI := ((B0.out.trans (⟨rfl, rfl, rfl, Nat.le_refl _, fun _ _ => rfl⟩ : Below w.heap.size w0 w0.drew)).trans (hbL.mono hz0)).trans (hbI.mono (Nat.le_trans hz0 hzL))
  have neL := own_not hoL (.inl hlt1)
  have neI := own_not hoI (.inl (Nat.lt_of_lt_of_le hlt1 hzL))
  have OL := Lib.hid (own_low (own_nine7 (own_below2 hoL hbI) neL (.int .i64 a) (.int .i64 k) (.int .i64 i) (.int .i64 v) (.int .i64 s) (.int .i64 u) (.int .i64 l) (.slice AL n cL) (.slice AI n' cI)) hz0)
  have OI := Lib.hid (own_low (own_nine7 hoI neI (.int .i64 a) (.int .i64 k) (.int .i64 i) (.int .i64 v) (.int .i64 s) (.int .i64 u) (.int .i64 l) (.slice AL n cL) (.slice AI n' cI)) (Nat.le_trans hz0 hzL))
  have BB := Lib.hid (((((((((BI.setCell (p := ⟨w.heap.size + 1, 0, none⟩) (Nat.le_succ _) (.int .i64 a)).setCell (p := ⟨w.heap.size + 1, 1, none⟩) (Nat.le_succ _) (.int .i64 k)).setCell (p := ⟨w.heap.size + 1, 2, none⟩) (Nat.le_succ _) (.int .i64 i)).setCell (p := ⟨w.heap.size + 1, 3, none⟩) (Nat.le_succ _) (.int .i64 v)).setCell (p := ⟨w.heap.size + 1, 4, none⟩) (Nat.le_succ _) (.int .i64 s)).setCell (p := ⟨w.heap.size + 1, 5, none⟩) (Nat.le_succ _) (.int .i64 u)).setCell (p := ⟨w.heap.size + 1, 6, none⟩) (Nat.le_succ _) (.int .i64 l)).setCell (p := ⟨w.heap.size + 1, 7, none⟩) (Nat.le_succ _) (.slice AL n cL)).setCell (p := ⟨w.heap.size + 1, 8, none⟩) (Nat.le_succ _) (.slice AI n' cI))
  have NL := Lib.hid hnL
  have NI := Lib.hid hnI
  clear BI neL neI hoL hoI hbL hbI hCL hCI C0 hnL hnI KI k0 k1 k2 k3 k4 k5 k6 k7 k8 g0 g1 g2 g3 g4 g5 g6 g7 g8
  go_wp2_with fail
  refine bodyPost_ret (v := .agg #[.int .i64 a, .int .i64 k, .int .i64 i, .int .i64 v, .int .i64 s, .int .i64 u, .int .i64 l, .slice AL n cL, .slice AI n' cI]) (by simp [results, Try.results52, go_sem, *]) rfl ?_
  rw [← HQ.out]
  exact ⟨⟨⟨a, k, i, v, s, u, l⟩, ⟨AL, n, cL⟩, ⟨AI, n', cI⟩⟩, rfl, BB.out, ⟨h1, OL.out, h3, OI.out, h5⟩, rfl, rfl, fun hA => by obtain ⟨e1, e2⟩ := NL.out hA; rw [e1, e2], fun hA => by obtain ⟨e1, e2⟩ := NI.out hA; rw [e1, e2]⟩
end Go.Proofs.Ytnnkcgbnhjkahaa
namespace Go.Proofs.Ytnnkcgbnhjkahaa
open Go.RowKit

/-- Block p is a database of the program of so much room that holds S, and hangs on the blocks of F alone, all from lo on. -/
def PDb (w : World) (lo p : Nat) (room : Int) (S : List La) (F : Nat → Prop) : Prop :=
  ∃ (b : Nat) (R : List Rc) (T : List La), Blk w p 85 #[.int .i64 room, .map (some b)] ∧ lo ≤ p ∧ lo ≤ b ∧ MapIs w b R ∧ All2 (RcIs w lo) R T ∧ T.Perm S ∧ (S.length : Int) ≤ room ∧ room ≤ 40 ∧ (∀ x ∈ S, rightB x.h x.L x.M = true) ∧
    (∀ q, F q ↔ q = p ∨ q = b ∨ ∃ r ∈ R, rcFoot r q)
theorem PDb.foot {w : World} {lo p : Nat} {room : Int} {S : List La} {F : Nat → Prop} (h : PDb w lo p room S F) {q : Nat} (hq : F q) : lo ≤ q ∧ q < w.heap.size := by
  obtain ⟨b, R, T, hB, h1, h2, hM, hA, -, -, -, -, hF⟩ := h
  rcases (hF q).1 hq with rfl | rfl | ⟨r, hr, hf⟩
  · exact ⟨h1, hB.lt⟩
  · exact ⟨h2, hM.lt⟩
  · obtain ⟨x, _, hx⟩ := all2_mem hA hr
    exact hx.foot hf
theorem PDb.chg {w w' : World} {lo p : Nat} {room : Int} {S : List La} {F F' : Nat → Prop} (h : PDb w lo p room S F) (hc : Chg F' w w') (hd : ∀ q, F q → ¬ F' q) : PDb w' lo p room S F := by
  obtain ⟨b, R, T, hB, h1, h2, hM, hA, h3, h4, h5, h6, hF⟩ := h
  exact ⟨b, R, T, hB.chg hc (hd p ((hF p).2 (.inl rfl))), h1, h2, hM.chg hc (hd b ((hF b).2 (.inr (.inl rfl)))), all2_imp hA (fun r hr x hx => hx.chg hc (fun q hq => hd q ((hF q).2 (.inr (.inr ⟨r, hr, hq⟩))))), h3, h4, h5, h6, hF⟩
/-- The one of a key. -/
theorem get_both {P : Rc → La → Prop} (hk : ∀ r x, P r x → r.h = x.h) {R : List Rc} {T S : List La} (ha : All2 P R T) (hp : T.Perm S) (hs : SortL S) (k : Ky) :
    (getR R k = none ∧ getL S k = none) ∨ ∃ r x, getR R k = some r ∧ getL S k = some x ∧ P r x ∧ r ∈ R ∧ x ∈ S := by
  cases hg : getR R k with
  | none =>
    refine .inl ⟨rfl, getL_none.2 (fun x hx e => ?_)⟩
    obtain ⟨j, hj⟩ := List.getElem?_of_mem (hp.mem_iff.2 hx)
    obtain ⟨r, hr, hpr⟩ := ha.at' hj
    exact getR_none hg r (List.mem_of_getElem? hr) (by rw [hk _ _ hpr]; exact e)
  | some r =>
    obtain ⟨hr, e⟩ := getR_some hg
    obtain ⟨x, hx, hpr⟩ := all2_mem ha hr
    have hxS := hp.mem_iff.1 hx
    have e2 : kyL x = k := by
      unfold kyL
      rw [← hk _ _ hpr]
      exact e
    exact .inr ⟨r, x, rfl, by rw [← e2]; exact getL_mem hs hxS, hpr, hr, hxS⟩
theorem all2_filter {P : Rc → La → Prop} {f : Rc → Bool} {g : La → Bool} (hfg : ∀ r x, P r x → f r = g x) : ∀ {R : List Rc} {T : List La}, All2 P R T → All2 P (R.filter f) (T.filter g)
  | [], [], _ => All2.nil
  | [], y :: S, h => by have := h.1; simp at this
  | r :: R, [], h => by have := h.1; simp at this
  | r :: R, y :: S, h => by
    rw [List.filter_cons, List.filter_cons, hfg _ _ h.head.1]
    cases g y
    · exact all2_filter hfg h.head.2
    · exact All2.cons h.head.1 (all2_filter hfg h.head.2)
theorem all2_rest {P : Rc → La → Prop} (hk : ∀ r x, P r x → r.h = x.h) {R : List Rc} {T : List La} (ha : All2 P R T) (k : Ky) : All2 P (restR R k) (dropL T k) :=
  all2_filter (fun r x hp => by unfold kyL; rw [hk _ _ hp]) ha
theorem insL_perm (x : La) : ∀ S : List La, (insL x S).Perm (x :: S)
  | [] => List.Perm.refl _
  | y :: S => by
    unfold insL
    split
    · exact List.Perm.refl _
    · exact ((insL_perm x S).cons y).trans (List.Perm.swap x y S)
theorem wfKy_right {x : La} (h : rightB x.h x.L x.M = true) : wfKy (kyL x) := by
  obtain ⟨-, h2, h3, -, h5, -, -⟩ := right_facts h
  unfold wfKy kyL keyH
  simp only
  omega
theorem rc_short {w : World} {lo : Nat} {r : Rc} {x : La} (h : RcIs w lo r x) (hr : rightB x.h x.L x.M = true) : r.p.n ≤ 1000 ∧ r.q.n ≤ 1000 := by
  obtain ⟨h1, h2⟩ := right_short hr
  rw [← h.2.2.1, ← h.2.2.2.2]
  exact ⟨h1, h2⟩
/-- A map's block is no block of cells. -/
theorem MapIs.ne_blk {w : World} {b g : Nat} {R : List Rc} {t : TypeId} {cs : Array Value} (h : MapIs w b R) (hB : Blk w g t cs) : g ≠ b := by
  rintro rfl
  obtain ⟨-, l, ⟨es, clock, hb, -⟩, -⟩ := h
  have h1 : w.heap[g]? = some (.cells cs t (0, 0)) := hB
  rw [hb] at h1
  cases h1
theorem own_ne_map {w : World} {base n size b : Nat} {R : List Rc} {t : TypeId} {v : Value} {xs : List Value} (h : MapIs w b R) (ho : w.ownsRow base t size v n xs) : v.ownBlock ≠ some b := by
  intro e
  obtain ⟨-, l, ⟨es, clock, hb, -⟩, -⟩ := h
  rcases ho.2 with ⟨rfl, _⟩ | ⟨g, cap, cur, rfl, _, hg, _⟩
  · cases e
  · injection e with e
    subst e
    rw [hb] at hg
    cases hg
theorem RcIs.ne_map {w : World} {lo b : Nat} {R : List Rc} {r : Rc} {x : La} (h : RcIs w lo r x) (hM : MapIs w b R) {q : Nat} (hq : rcFoot r q) : q ≠ b := by
  rintro rfl
  rcases hq with hq | hq
  · exact own_ne_map hM h.2.1 hq
  · exact own_ne_map hM h.2.2.2.1 hq
end Go.Proofs.Ytnnkcgbnhjkahaa
namespace Go.Proofs.Ytnnkcgbnhjkahaa
open Go.RowKit

/-- 'len(m)' as the next operation of a plain region's list. -/
theorem wpList_len7 {ops : Array Oper} {rest : List Oper} {o : Oper} {a : Act} {w : World} {Q : Exit → Act → World → Prop} {b : Nat} {R : List Rc} (hg : o.guard = none) (m : Operand) (hop : o.op = Op.call { callee := Callee.builtin Builtin.len, args := #[m], argTypes := #[83] })
    (hm : a.eval m = .map (some b)) (h : MapIs w b R) (hK : wpList Try.prog ops Q rest (a.put o.dst (.int .i64 (R.length : Int))) w) : wpList Try.prog ops Q (o :: rest) a w := by
  refine wpList_plain hg fun K' hK' => ?_
  unfold Oper.wp
  simp [execOp, hop, resolve, invoke, builtin, hm, h.len o.type, Result.andThen]
  exact hK' _ _ hK
set_option maxHeartbeats 2000000 in
theorem len_db {w : World} {lo p : Nat} {room : Int} {S : List La} {F : Nat → Prop} (h : PDb w lo p room S F) : Calls Try.prog 35 #[.pointer (some ⟨p, 0, none⟩)] w
    fun e w' => e = .returned (.int .i64 (S.length : Int)) ∧ Below w.heap.size w w' := by
  obtain ⟨b, R, T, hB, h1, h2, hM, hA, hp, -⟩ := h
  have c0 := hB.cell 0
  have c1 := hB.cell 1
  simp at c0 c1
  have hl : R.length = S.length := hA.1.trans hp.length_eq
  rw [← hl]
  have HM := Lib.hid hM
  clear hM hA hB hl
  go_enter Try.func35, Try.ntmps35
  go_wp2_with (at_len; refine wpList_len7 rfl _ rfl rfl HM.out ?_)
  go_ret
  exact ⟨rfl, Below.refl _ _⟩
set_option maxHeartbeats 2000000 in
theorem new_db (r : Int) (w : World) : Calls Try.prog 26 #[.int .i64 r] w fun e w' => ∃ (p : Nat) (F : Nat → Prop), e = .returned (.pointer (some ⟨p, 0, none⟩)) ∧ Below w.heap.size w w' ∧ PDb w' w.heap.size p (roomOf r) [] F := by
  have hmm := @run_makeMap Try.prog
  go_enter Try.func26, Try.ntmps26
  go_wp2
  have hr : min (max r 1) 40 = roomOf r := by
    unfold roomOf
    repeat' split
    all_goals omega
  rw [hr]
  go_ret
  refine ⟨w.heap.size + 1, fun q => q = w.heap.size + 1 ∨ q = w.heap.size, rfl, below_new2 _ _ _, w.heap.size, [], [], blk_new1 _ _ _ _, Nat.le_succ _, Nat.le_refl _, (MapIs.made w).alloc _, All2.nil, List.Perm.refl _, ?_, (roomOf_bd r).2, fun x hx => (by cases hx), fun q => ?_⟩
  · have := roomOf_bd r
    simp
    omega
  · simp
end Go.Proofs.Ytnnkcgbnhjkahaa
namespace Go.Proofs.Ytnnkcgbnhjkahaa
open Go.RowKit

/-- What a look-up answers, in whatever world has the map. -/
theorem look_both {w : World} {b : Nat} {R : List Rc} {T S : List La} {lo : Nat} (hA : All2 (RcIs w lo) R T) (hp : T.Perm S) (hs : SortL S) {k : Ky} (hk : wfKy k) :
    ∃ r0 : Rc, (∀ W, MapIs W b R → (Instr.lookup 83 (.map (some b)) (.agg #[.int .i64 k.kind, .int .i64 k.id, .int .i64 k.adv]) true).run Try.prog W = .ok (.tuple #[.agg #[.int .i64 r0.h.age, .int .i64 r0.h.kind, .int .i64 r0.h.id, .int .i64 r0.h.adv, .int .i64 r0.h.seq, .int .i64 r0.h.sum, .int .i64 r0.h.long, .slice r0.p.a r0.p.n r0.p.c, .slice r0.q.a r0.q.n r0.q.c], .bool (getL S k).isSome]) W) ∧
      ((getL S k = none ∧ r0 = ⟨⟨0, 0, 0, 0, 0, 0, 0⟩, ⟨none, 0, 0⟩, ⟨none, 0, 0⟩⟩) ∨ ∃ x, getL S k = some x ∧ RcIs w lo r0 x ∧ r0 ∈ R ∧ x ∈ S) := by
  rcases get_both (fun r x h => h.1) hA hp hs k with ⟨h1, h2⟩ | ⟨r, x, h1, h2, h3, h4, h5⟩
  · exact ⟨⟨⟨0, 0, 0, 0, 0, 0, 0⟩, ⟨none, 0, 0⟩, ⟨none, 0, 0⟩⟩, fun W hW => by rw [h2]; exact hW.look_none hk h1, .inl ⟨h2, rfl⟩⟩
  · exact ⟨r, fun W hW => by rw [h2]; exact (hW.look_some hk h1).1, .inr ⟨x, h2, h3, h4, h5⟩⟩
theorem keepDb {w0 w' : World} {b : Nat} {R : List Rc} (hM : MapIs w0 b R) (hb : Below w0.heap.size w0 w') : Below w0.heap.size w0 w' ∧ MapIs w' b R ∧ (∀ b o, b < w0.heap.size → w'.cell? ⟨b, o, none⟩ = w0.cell? ⟨b, o, none⟩) :=
  ⟨hb, hM.below hb hM.lt, fun _ _ hl => hb.cell (p := ⟨_, _, none⟩) hl⟩
end Go.Proofs.Ytnnkcgbnhjkahaa
namespace Go.Proofs.Ytnnkcgbnhjkahaa
open Go.RowKit

/-- What a look-up finds, as a description in memory. -/
theorem look_rc {w : World} {S : List La} {k : Ky} {lo : Nat} {R : List Rc} {r0 : Rc} (hr : ∀ x ∈ S, rightB x.h x.L x.M = true) (h : (getL S k = none ∧ r0 = ⟨⟨0, 0, 0, 0, 0, 0, 0⟩, ⟨none, 0, 0⟩, ⟨none, 0, 0⟩⟩) ∨ ∃ x, getL S k = some x ∧ RcIs w lo r0 x ∧ r0 ∈ R ∧ x ∈ S) :
    ∃ x0, RcIs w lo r0 x0 ∧ r0.p.n ≤ 1000 ∧ r0.q.n ≤ 1000 ∧ ((getL S k = none ∧ r0 = ⟨⟨0, 0, 0, 0, 0, 0, 0⟩, ⟨none, 0, 0⟩, ⟨none, 0, 0⟩⟩) ∨ getL S k = some x0) := by
  rcases h with ⟨h1, rfl⟩ | ⟨x, h1, h2, -, h3⟩
  · exact ⟨⟨⟨0, 0, 0, 0, 0, 0, 0⟩, [], []⟩, ⟨rfl, World.ownsRow_nil _ _ _ _, rfl, World.ownsRow_nil _ _ _ _, rfl⟩, Nat.zero_le _, Nat.zero_le _, .inl ⟨h1, rfl⟩⟩
  · obtain ⟨h4, h5⟩ := rc_short h2 (hr x h3)
    exact ⟨x, h2, h4, h5, .inr h1⟩
/-- What Get answers, from what fresh answers. -/
theorem getOk_of {w w1 w2 : World} {S : List La} {k : Ky} {r0 r2 : Rc} {x0 : La} {g : Nat} (h : (getL S k = none ∧ r0 = ⟨⟨0, 0, 0, 0, 0, 0, 0⟩, ⟨none, 0, 0⟩, ⟨none, 0, 0⟩⟩) ∨ getL S k = some x0) (h0 : r0.h = x0.h) (h1 : RcIs w2 w1.heap.size r2 x0) (hn : r2.p.n = r0.p.n) (hn' : r2.q.n = r0.q.n) (hp : r0.p.a = none → r2.p = ⟨none, r0.p.n, 0⟩) (hq : r0.q.a = none → r2.q = ⟨none, r0.q.n, 0⟩) (hl : w.heap.size ≤ w1.heap.size) (hg : g < w1.heap.size) (u0 u1 u2 u3 u4 u5 u6 u7 u8 : Value) :
    GetOk w S k (.returned (.tuple #[.agg #[.int .i64 r2.h.age, .int .i64 r2.h.kind, .int .i64 r2.h.id, .int .i64 r2.h.adv, .int .i64 r2.h.seq, .int .i64 r2.h.sum, .int .i64 r2.h.long, .slice r2.p.a r2.p.n r2.p.c, .slice r2.q.a r2.q.n r2.q.c], .bool (getL S k).isSome])) (((((((((w2.setCell ⟨g, 0, none⟩ u0).setCell ⟨g, 1, none⟩ u1).setCell ⟨g, 2, none⟩ u2).setCell ⟨g, 3, none⟩ u3).setCell ⟨g, 4, none⟩ u4).setCell ⟨g, 5, none⟩ u5).setCell ⟨g, 6, none⟩ u6).setCell ⟨g, 7, none⟩ u7).setCell ⟨g, 8, none⟩ u8) := by
  rcases h with ⟨e1, rfl⟩ | e1
  · refine .inl ⟨e1, ?_⟩
    have e2 := h1.1
    rw [← h0] at e2
    rw [e1, e2, hp rfl, hq rfl]
    rfl
  · refine .inr ⟨x0, r2.p.a, r2.p.n, r2.p.c, r2.q.a, r2.q.n, r2.q.c, e1, ?_, own_low (own_nine7 h1.2.1 (own_not h1.2.1 (.inl hg)) u0 u1 u2 u3 u4 u5 u6 u7 u8) hl, h1.2.2.1, own_low (own_nine7 h1.2.2.2.1 (own_not h1.2.2.2.1 (.inl hg)) u0 u1 u2 u3 u4 u5 u6 u7 u8) hl, h1.2.2.2.2⟩
    rw [e1, h1.1]
    rfl
set_option maxRecDepth 8000 in
set_option maxHeartbeats 8000000 in
theorem get_db {w : World} {lo p : Nat} {room : Int} {S : List La} {F : Nat → Prop} (h : PDb w lo p room S F) (hs : SortL S) (k : Ky) (hk : wfKy k) :
    Calls Try.prog 49 #[.pointer (some ⟨p, 0, none⟩), .agg #[.int .i64 k.kind, .int .i64 k.id, .int .i64 k.adv]] w fun e w' => Below w.heap.size w w' ∧ GetOk w S k e w' := by
  obtain ⟨b, R, T, hB, h1, h2, hM, hA, hp, h3, h4, h5, hF⟩ := h
  obtain ⟨r0, hlook, hwho⟩ := look_both (b := b) hA hp hs hk
  obtain ⟨x0, hrc, hn1, hn2, hcase⟩ := look_rc h5 hwho
  generalize hQ : (fun (e : Ending) (w' : World) => Below w.heap.size w w' ∧ GetOk w S k e w') = Q
  have HQ := Lib.hid hQ
  clear hQ hwho
  have HC := Lib.hid hcase
  clear hcase
  obtain ⟨fd, hfd⟩ : ∃ fd, fd = (getL S k).isSome := ⟨_, rfl⟩
  rw [← hfd] at hlook
  have HFD := Lib.hid hfd
  clear hfd
  have B0 := Lib.hid (below_new2 w (.cells #[.int .i64 k.kind, .int .i64 k.id, .int .i64 k.adv] 47) (.cells #[.int .i64 0, .int .i64 0, .int .i64 0, .int .i64 0, .int .i64 0, .int .i64 0, .int .i64 0, .slice none 0 0, .slice none 0 0] 62))
  have K0 := Lib.hid (blk_new07 w #[.int .i64 k.kind, .int .i64 k.id, .int .i64 k.adv] 47 (.cells #[.int .i64 0, .int .i64 0, .int .i64 0, .int .i64 0, .int .i64 0, .int .i64 0, .int .i64 0, .slice none 0 0, .slice none 0 0] 62))
  have Z0 := Lib.hid (blk_new1 w (.cells #[.int .i64 k.kind, .int .i64 k.id, .int .i64 k.adv] 47) 62 #[.int .i64 0, .int .i64 0, .int .i64 0, .int .i64 0, .int .i64 0, .int .i64 0, .int .i64 0, .slice none 0 0, .slice none 0 0])
  have D0 := Lib.hid (hB.below B0.out hB.lt)
  have M0 := Lib.hid (hM.below B0.out hM.lt)
  have hpl := hB.lt
  go_enter Try.func49, Try.ntmps49
  go_wp2_with fail
  generalize (w.alloc (.cells #[.int .i64 k.kind, .int .i64 k.id, .int .i64 k.adv] 47)).alloc (.cells #[.int .i64 0, .int .i64 0, .int .i64 0, .int .i64 0, .int .i64 0, .int .i64 0, .int .i64 0, .slice none 0 0, .slice none 0 0] 62) = w0 at *
  have hlt := Z0.out.lt
  have hpl0 : p < w0.heap.size := by omega
  obtain ⟨k0, k1, k2⟩ := K0.out.three
  have c0 := D0.out.cell 0
  have c1 := D0.out.cell 1
  simp at c0 c1
  have hlt0 : w.heap.size < w0.heap.size := by omega
  have BR : Below w0.heap.size w0 w0.drew := ⟨rfl, rfl, rfl, Nat.le_refl _, fun _ _ => rfl⟩
  have BR2 : ∀ o, Below w0.heap.size w0 (w0.alloc o).drew := fun o => below_drewN ((Below.refl _ _).alloc (Nat.le_refl _) o) 1
  go_cut [6, 7] (fun s6 s7 wx => ∃ ob, s6 = .pointer (some ⟨ob, 0, none⟩) ∧ s7 = .bool fd ∧ Hid (Below w0.heap.size w0 wx ∧ Blk wx ob 62 #[.int .i64 r0.h.age, .int .i64 r0.h.kind, .int .i64 r0.h.id, .int .i64 r0.h.adv, .int .i64 r0.h.seq, .int .i64 r0.h.sum, .int .i64 r0.h.long, .slice r0.p.a r0.p.n r0.p.c, .slice r0.q.a r0.q.n r0.q.c]))
  case first =>
    go_region_held3 (fun w' => Below w0.heap.size w0 w' ∧ MapIs w' b R ∧ (∀ b o, b < w0.heap.size → w'.cell? ⟨b, o, none⟩ = w0.cell? ⟨b, o, none⟩)) ((refine keepDb M0.out ?_; first | with_reducible exact BR | with_reducible exact BR2 _ | with_reducible exact BR.alloc BR.size _)) (first | fail)
    all_goals (go_wp2_with fail; go_meet; exact ⟨_, rfl, rfl, Lib.hid ⟨And.left ‹Below w0.heap.size w0 _ ∧ _›, Blk.new _ _ _⟩⟩)
  case rest =>
    obtain ⟨ob, rfl, rfl, hbx⟩ := hcut
    have Bx := Lib.hid (B0.out.trans (hbx.out.1.mono B0.out.size))
    have Zx := Lib.hid (Z0.out.below hbx.out.1 hlt)
    have Ox := Lib.hid hbx.out.2
    have hl := hbx.out.1.size
    have RX := Lib.hid (hrc.chg (Chg.of_below (F := fun _ => False) Bx.out) (fun _ _ hf => hf))
    have HH := Lib.hid hrc.1
    clear k0 k1 k2 c0 c1 BR BR2 hbx K0 D0 M0 B0 Z0 hlook hrc
    obtain ⟨o0, o1, o2, o3, o4, o5, o6, o7, o8⟩ := Ox.out.nine
    go_wp2_with fail
    refine (fresh7 RX.out hn1 hn2).mono ?_
    rintro e2 w2 ⟨r2, rfl, hbf, hrf, hf1, hf2, hf3, hf4⟩
    unfold rcVal
    have ZF := Lib.hid (Zx.out.below hbf (by omega))
    have BF := Bx.out.trans (hbf.mono Bx.out.size)
    have BB := Lib.hid (((((((((BF.setCell (p := ⟨w.heap.size + 1, 0, none⟩) (Nat.le_succ _) (.int .i64 r2.h.age)).setCell (p := ⟨w.heap.size + 1, 1, none⟩) (Nat.le_succ _) (.int .i64 r2.h.kind)).setCell (p := ⟨w.heap.size + 1, 2, none⟩) (Nat.le_succ _) (.int .i64 r2.h.id)).setCell (p := ⟨w.heap.size + 1, 3, none⟩) (Nat.le_succ _) (.int .i64 r2.h.adv)).setCell (p := ⟨w.heap.size + 1, 4, none⟩) (Nat.le_succ _) (.int .i64 r2.h.seq)).setCell (p := ⟨w.heap.size + 1, 5, none⟩) (Nat.le_succ _) (.int .i64 r2.h.sum)).setCell (p := ⟨w.heap.size + 1, 6, none⟩) (Nat.le_succ _) (.int .i64 r2.h.long)).setCell (p := ⟨w.heap.size + 1, 7, none⟩) (Nat.le_succ _) (.slice r2.p.a r2.p.n r2.p.c)).setCell (p := ⟨w.heap.size + 1, 8, none⟩) (Nat.le_succ _) (.slice r2.q.a r2.q.n r2.q.c))
    have GG := Lib.hid (getOk_of (g := w.heap.size + 1) HC.out HH.out hrf hf1 hf2 hf3 hf4 Bx.out.size (by omega) (.int .i64 r2.h.age) (.int .i64 r2.h.kind) (.int .i64 r2.h.id) (.int .i64 r2.h.adv) (.int .i64 r2.h.seq) (.int .i64 r2.h.sum) (.int .i64 r2.h.long) (.slice r2.p.a r2.p.n r2.p.c) (.slice r2.q.a r2.q.n r2.q.c))
    rw [← HFD.out] at GG
    clear BF hbf hrf hf1 hf2 hf3 hf4 HC HFD o0 o1 o2 o3 o4 o5 o6 o7 o8
    obtain ⟨z0, z1, z2, z3, z4, z5, z6, z7, z8⟩ := ZF.out.nine
    obtain ⟨f0, f1, f2, f3, f4, f5, f6, f7, f8⟩ := ZF.out.nineF
    go_wp2_with fail
    refine bodyPost_ret (v := .tuple #[.agg #[.int .i64 r2.h.age, .int .i64 r2.h.kind, .int .i64 r2.h.id, .int .i64 r2.h.adv, .int .i64 r2.h.seq, .int .i64 r2.h.sum, .int .i64 r2.h.long, .slice r2.p.a r2.p.n r2.p.c, .slice r2.q.a r2.q.n r2.q.c], .bool fd]) (by simp [results, Try.results49, go_sem, *]) rfl ?_
    rw [← HQ.out]
    exact ⟨BB.out, GG.out⟩
end Go.Proofs.Ytnnkcgbnhjkahaa
