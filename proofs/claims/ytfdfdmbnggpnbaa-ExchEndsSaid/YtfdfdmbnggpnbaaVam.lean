/- A database's map: what it holds, and what its operations make of that. Conditions: keys of 64 bits. · Copies of lists of the call's own, and of a description. Conditions: at most 1000 items. · Keys of the call's own, sorted. No conditions. · Keys of the call's own, sorted by the library's sort under the program's compare. Conditions: at most 1000 keys. · Heads in memory; the order of two of them, as the program's function literal tells it; the library's stable sort of a row of them. Conditions: at most 1000 heads. · Acts that came in, and whether they are more than a statement takes. No conditions. -/
import Derived.Deep.RegionHeld3
import Derived.StillTailTactics
import Derived.Sort.Grow
import Derived.Deep.Slices
import Derived.Deep.Fields
import Derived.OpenShut
import Derived.Test.YtfdfdmbnggpnbaaVal
import Derived.Test.YtfdfdmbnggpnbaaVak
import Derived.Test.YtfdfdmbnggpnbaaVag
import Derived.Test.YtfdfdmbnggpnbaaVaf
import Derived.Test.YtfdfdmbnggpnbaaVaa
import Derived.Test.YtfdfdmbnggpnbaaVah
namespace Go.Proofs.Ytfdfdmbnggpnbaa
open Go.RowKit
open Go.Maps (Keyed)
open Go.ChangeMaps (notKey putKey delKey)

/-- A description as a value. -/
def rcVal (r : Rc) : Value := .agg #[.int .i64 r.h.age, .int .i64 r.h.kind, .int .i64 r.h.id, .int .i64 r.h.adv, .int .i64 r.h.seq, .int .i64 r.h.sum, .int .i64 r.h.long, .slice r.p.a r.p.n r.p.c, .slice r.q.a r.q.n r.q.c]
/-- An element of the map reads as itself. -/
def asIs (v : Value) : Option (DataW Value × List MemPlace) := some (.held v, [])
def rcE (r : Rc) : Lit × DataW Value := (kyLit (keyH r.h), .held (rcVal r))
/-- Block b is a map that holds just the descriptions of R, each under its key. -/
def MapIs (w : World) (b : Nat) (R : List Rc) : Prop :=
  (∀ r ∈ R, wfKy (keyH r.h)) ∧ ∃ l : List (Lit × DataW Value), w.ownsMap Try.prog 86 asIs b R.length (.map l) ∧ l.Perm (R.map rcE)

theorem own_tight {H : Type} {P : Program} {k : TypeId} {R : Value → Option (DataW H × List MemPlace)} {w : World} {b n : Nat} {l : List (Lit × DataW H)} (h : w.ownsMap P k R b n (.map l)) : w.ownsMap P k R b l.length (.map l) := by
  obtain ⟨es, clock, hb, F, hs, hD⟩ := h
  refine ⟨es, clock, hb, F, ?_, hD⟩
  injection hD with hD
  rw [hD, length_sorted, List.length_map, Array.length_toList]
  exact Nat.le_refl _
theorem own_heap {H : Type} {P : Program} {k : TypeId} {R : Value → Option (DataW H × List MemPlace)} {w w' : World} {b n : Nat} {D : DataW H} (h : w.ownsMap P k R b n D) (he : w'.heap[b]? = w.heap[b]?) : w'.ownsMap P k R b n D := by
  obtain ⟨es, clock, hb, r⟩ := h
  exact ⟨es, clock, he.trans hb, r⟩
section
variable {w w' : World} {b : Nat} {R : List Rc}
theorem MapIs.lt (h : MapIs w b R) : b < w.heap.size := by
  obtain ⟨-, l, ho, -⟩ := h
  exact ho.lt
theorem MapIs.heap (h : MapIs w b R) (he : w'.heap[b]? = w.heap[b]?) : MapIs w' b R := by
  obtain ⟨hw, l, ho, hp⟩ := h
  exact ⟨hw, l, own_heap ho he, hp⟩
theorem MapIs.chg {F : Nat → Prop} (h : MapIs w b R) (hc : Chg F w w') (hF : ¬ F b) : MapIs w' b R := h.heap (hc.block b h.lt hF)
theorem MapIs.below {B : Nat} (h : MapIs w b R) (hb : Below B w w') (hlt : b < B) : MapIs w' b R := h.heap (hb.block b hlt)
theorem MapIs.alloc (h : MapIs w b R) (o : Obj) : MapIs (w.alloc o) b R := h.below ((Below.refl w.heap.size w).alloc (Nat.le_refl _) o) h.lt
theorem MapIs.drew (h : MapIs w b R) : MapIs w.drew b R := h.heap rfl
theorem MapIs.setCell (h : MapIs w b R) {a : Addr} (ha : b ≠ a.block) (u : Value) : MapIs (w.setCell a u) b R := h.heap (RowKit.Below.heap_setCell _ _ _ _ ha)
theorem MapIs.made (w : World) : MapIs (w.alloc (.map #[] 0)) w.heap.size [] := ⟨fun r h => (by cases h), [], World.ownsMap_made _ _ _ _, List.Perm.refl _⟩
end
theorem pw_eq {α β : Type} {f : α → β} : ∀ {R : List α}, R.Pairwise (fun r s => f r ≠ f s) → ∀ r ∈ R, ∀ s ∈ R, f r = f s → r = s
  | x :: R, h, r, hr, s, hs, e => by
    obtain ⟨h1, h2⟩ := List.pairwise_cons.1 h
    rcases List.mem_cons.1 hr with rfl | hr'
    · rcases List.mem_cons.1 hs with rfl | hs'
      · rfl
      · exact absurd e (h1 s hs')
    · rcases List.mem_cons.1 hs with rfl | hs'
      · exact absurd e.symm (h1 r hr')
      · exact pw_eq h2 r hr' s hs' e
theorem sameKey_ky {a b : Ky} (ha : wfKy a) (hb : wfKy b) : (kyLit a).sameKey (kyLit b) = sameKy a b := by
  cases h : sameKy a b
  · cases h2 : (kyLit a).sameKey (kyLit b)
    · rfl
    · have := kyLit_inj ha hb (WideAt.sameKey_eq h2)
      rw [(sameKy_iff _ _).2 this] at h
      cases h
  · rw [(sameKy_iff _ _).1 h]
    exact WideAt.sameKey_self (keyed7.key (keyOf_ky hb))
section
variable {w : World} {b : Nat} {R : List Rc} {k : Ky}
theorem MapIs.len (h : MapIs w b R) (ty : TypeId) : (Builtin.len_ #[98] ty #[.map (some b)]).run Try.prog w = .ok (.int .i64 (R.length : Int)) w := by
  obtain ⟨hw, l, ho, hp⟩ := h
  rw [ho.len Try.underlying98 ty, Maps.size_eq, hp.length_eq, List.length_map]
/-- Those of other keys. -/
def restR (R : List Rc) (k : Ky) : List Rc := R.filter fun s => !sameKy (keyH s.h) k
theorem mem_restR {s : Rc} : s ∈ restR R k ↔ s ∈ R ∧ keyH s.h ≠ k := by
  unfold restR
  rw [List.mem_filter]
  have := sameKy_iff (keyH s.h) k
  simp [← this]
theorem filter_rcE (hw : ∀ r ∈ R, wfKy (keyH r.h)) (hk : wfKy k) : (R.map rcE).filter (notKey (kyLit k)) = (restR R k).map rcE := by
  rw [List.filter_map]
  unfold restR
  congr 1
  refine List.filter_congr (fun s hs => ?_)
  show (!(kyLit (keyH s.h)).sameKey (kyLit k)) = _
  rw [sameKey_ky (hw s hs) hk]
/-- 'm[k] = v'. -/
theorem MapIs.put (h : MapIs w b R) (r : Rc) (hk : wfKy (keyH r.h)) (hn : R.length < maxLen) :
    ∃ w', (Instr.mapUpdate 98 (.map (some b)) (.agg #[.int .i64 r.h.kind, .int .i64 r.h.id, .int .i64 r.h.adv]) (rcVal r)).run Try.prog w = .ok () w' ∧ MapIs w' b (r :: restR R (keyH r.h)) ∧ w.mapTurned w' b := by
  obtain ⟨hw, l, ho, hp⟩ := h
  obtain ⟨w', h1, h2, h3⟩ := ho.store keyed7 Try.underlying98 hn (keyOf_ky hk) (val := rcVal r) (d := .held (rcVal r)) (ps := []) rfl
  rw [DataW.put_eq] at h2
  have hp2 : (putKey (kyLit (keyH r.h)) (.held (rcVal r)) l).Perm ((r :: restR R (keyH r.h)).map rcE) := by
    refine (WideShapes.insert_perm _ _).trans ?_
    rw [List.map_cons]
    refine List.Perm.cons _ ?_
    rw [← filter_rcE hw hk]
    exact hp.filter _
  have h4 := own_tight h2
  rw [hp2.length_eq, List.length_map] at h4
  refine ⟨w', h1, ⟨fun s hs => ?_, _, h4, hp2⟩, h3⟩
  rcases List.mem_cons.1 hs with rfl | hs
  · exact hk
  · exact hw s (mem_restR.1 hs).1
/-- 'delete(m, k)'. -/
theorem MapIs.drop (h : MapIs w b R) (hk : wfKy k) (ty : TypeId) :
    ∃ w', (Builtin.delete_ #[98, 86] ty #[.map (some b), .agg #[.int .i64 k.kind, .int .i64 k.id, .int .i64 k.adv]]).run Try.prog w = .ok (.tuple #[]) w' ∧ MapIs w' b (restR R k) ∧ w.mapTurned w' b := by
  obtain ⟨hw, l, ho, hp⟩ := h
  obtain ⟨w', h1, h2, h3⟩ := ho.drop keyed7 Try.underlying98 (keyOf_ky hk) ty
  rw [DataW.del_eq] at h2
  have hp2 : (delKey (kyLit k) l).Perm ((restR R k).map rcE) := by
    rw [← filter_rcE hw hk]
    exact hp.filter _
  have h4 := own_tight h2
  rw [hp2.length_eq, List.length_map] at h4
  exact ⟨w', h1, ⟨fun s hs => hw s (mem_restR.1 hs).1, _, h4, hp2⟩, h3⟩
end
end Go.Proofs.Ytfdfdmbnggpnbaa
namespace Go.Proofs.Ytfdfdmbnggpnbaa
open Go.RowKit Go.Shelf Go.Lib

theorem blk_new07 (w : World) (cs : Array Value) (t : TypeId) (o : Obj) : Blk ((w.alloc (.cells cs t)).alloc o) w.heap.size t cs := (Blk.new w t cs).below ((Below.refl (w.alloc (.cells cs t)).heap.size (w.alloc (.cells cs t))).alloc (Nat.le_refl _) o) (by simp)
theorem Chg.setCell {F : Nat → Prop} {w w' : World} (h : Chg F w w') (a : Addr) (ha : F a.block) (v : Value) : Chg F w (w'.setCell a v) :=
  h.trans (Chg.of_grown (grown_setCell w' a v) (fun _ hq => by cases hq; exact ha)) (fun _ hq => .inl hq)
theorem Chg.below {F : Nat → Prop} {w w' w'' : World} (h : Chg F w w') (hb : Below w'.heap.size w' w'') : Chg F w w'' := h.trans (Chg.of_below (F := F) hb) (fun _ hq => .inl hq)
end Go.Proofs.Ytfdfdmbnggpnbaa
namespace Go.Proofs.Ytfdfdmbnggpnbaa
open Go.RowKit Go.Shelf Go.Lib Go.Sort

set_option maxRecDepth 20000 in
set_option maxHeartbeats 8000000 in
/-- The program's compare. -/
theorem compare7 (a b : Ky) (w : World) : Calls Try.prog 53 #[.agg #[.int .i64 a.kind, .int .i64 a.id, .int .i64 a.adv], .agg #[.int .i64 b.kind, .int .i64 b.id, .int .i64 b.adv]] w
    fun e w' => e = .returned (.int .i64 (cmpK a b)) ∧ ∃ q os', w' = grow (w.drewN q) os' := by
  obtain ⟨a0, a1, a2⟩ := Blk.three (blk_new07 w #[.int .i64 a.kind, .int .i64 a.id, .int .i64 a.adv] 86 (.cells #[.int .i64 b.kind, .int .i64 b.id, .int .i64 b.adv] 86))
  obtain ⟨b0, b1, b2⟩ := Blk.three (blk_new1 w (.cells #[.int .i64 a.kind, .int .i64 a.id, .int .i64 a.adv] 86) 86 #[.int .i64 b.kind, .int .i64 b.id, .int .i64 b.adv])
  have HG := Lib.hid (show ∃ os, (w.alloc (.cells #[.int .i64 a.kind, .int .i64 a.id, .int .i64 a.adv] 86)).alloc (.cells #[.int .i64 b.kind, .int .i64 b.id, .int .i64 b.adv] 86) = grow w os from ⟨_, by rw [alloc_eq_grow, alloc_eq_grow, grow_grow]⟩)
  have p1 := fun W => cmp7 a.kind b.kind W
  have p2 := fun W => cmp7 a.id b.id W
  have p3 := fun W => cmp7 a.adv b.adv W
  unfold cmpK
  generalize Lib.compareInt a.kind b.kind = x1 at *
  generalize Lib.compareInt a.id b.id = x2 at *
  generalize Lib.compareInt a.adv b.adv = x3 at *
  go_enter Try.func53, Try.ntmps53
  go_wp2_with fail
  generalize (w.alloc (.cells #[.int .i64 a.kind, .int .i64 a.id, .int .i64 a.adv] 86)).alloc (.cells #[.int .i64 b.kind, .int .i64 b.id, .int .i64 b.adv] 86) = w0 at *
  refine wp_region_still_tail 15 (by kernel_rfl) (by kernel_rfl) ?_
  simp only [List.take_succ_cons, List.take_zero, List.drop_succ_cons, List.drop_zero]
  repeat still_step
  still_call (p1 _)
  repeat still_step
  still_call (p2 _)
  repeat still_step
  still_call (p3 _)
  refine wpStill_nil ?_
  change wpList _ _ _ _ _ w0.drew
  obtain ⟨os, hos⟩ := HG.out
  have HW := Lib.hid (show w0.drew = grow (w.drewN 1) os by rw [hos]; rfl)
  clear HG hos a0 a1 a2 b0 b1 b2
  generalize w0.drew = w2 at *
  obtain ⟨c0, c1, c2⟩ := Blk.three (Blk.new w2 3 #[.int .i64 x1, .int .i64 x2, .int .i64 x3])
  go_wp2_with (go_at_call 78; refine (or7 x1 x2 x3 _ _ c0 c1 c2).mono ?_; rintro e w' ⟨rfl, rfl⟩)
  go_ret
  exact ⟨rfl, 1, _, by rw [HW.out, alloc_eq_grow, grow_grow]⟩
end Go.Proofs.Ytfdfdmbnggpnbaa
namespace Go.Proofs.Ytfdfdmbnggpnbaa
open Go.RowKit Go.Shelf Go.Lib Go.Sort

instance : Inhabited Ky := ⟨⟨0, 0, 0⟩⟩
section
variable {w : World} {g : Nat} {e : TypeId} {cur : Array Value} {F : Array Value}
theorem holds7 (hb : w.heap[g]? = some (.cells cur e (0, 0))) (ht : cur.toList.take F.size = F.toList) : Holds id w g 0 F := by
  intro j hj
  refine ⟨?_, by simp [World.frozen?, hb]⟩
  have h1 : (cur.toList.take F.size)[j]? = F.toList[j]? := by rw [ht]
  rw [List.getElem?_take_of_lt hj] at h1
  simp only [World.cell?, hb, Nat.zero_add]
  simp only [Option.isSome_none, Bool.false_eq_true, if_false]
  rw [← Array.getElem?_toList, h1]
  simp [hj]
theorem heap_sorted7 {n : Nat} {os : Array Obj} {fr : Nat × Nat} (F : Array Value) (hb : w.heap[g]? = some (.cells cur e fr)) :
    (grow (putRow id (Sort.ahead w n) g 0 F) os).heap[g]? = some (.cells (putCells id 0 F cur) e fr) := by
  have hg : g < w.heap.size := (Array.getElem?_eq_some_iff.1 hb).1
  rw [heap_grow_old _ _ (by simpa using hg)]
  simp [putRow, mapBlock, Sort.ahead, Array.getElem?_modify, hb, onCells]
theorem grownBy_sorted7 {n : Nat} {os : Array Obj} (F : Array Value) : w.grownBy (grow (putRow id (Sort.ahead w n) g 0 F) os) (some g) := by
  refine ⟨rfl, rfl, rfl, by simp, fun k hk hne => ?_⟩
  rw [heap_grow_old _ _ (by simpa using hk)]
  have : g ≠ k := fun e => hne (by rw [e])
  simp [putRow, mapBlock, Sort.ahead, Array.getElem?_modify, this]
theorem take_putCells7 (h : F.size ≤ cur.size) : (putCells id 0 F cur).toList.take F.size = F.toList := by
  apply List.ext_getElem?
  intro j
  by_cases hj : j < F.size
  · rw [List.getElem?_take_of_lt hj, Array.getElem?_toList]
    simp [putCells, hj, show j < cur.size by omega]
  · rw [List.getElem?_take_eq_none (by omega), List.getElem?_eq_none (by simp; omega)]
end
end Go.Proofs.Ytfdfdmbnggpnbaa
namespace Go.Proofs.Ytfdfdmbnggpnbaa
open Go.RowKit Go.Shelf Go.Lib Go.Sort

section
variable {α : Type} {enc : α → List Value} {k : Nat}
/-- The cells of items, one behind the other. -/
def cellsBy (enc : α → List Value) (L : List α) : List Value := L.flatMap enc
theorem by_cons (x : α) (L : List α) : cellsBy enc (x :: L) = enc x ++ cellsBy enc L := by simp [cellsBy]
theorem by_append (L M : List α) : cellsBy enc (L ++ M) = cellsBy enc L ++ cellsBy enc M := by simp [cellsBy]
theorem by_one (x : α) : cellsBy enc [x] = enc x := by simp [cellsBy]
theorem by_length (hk : ∀ x, (enc x).length = k) (L : List α) : (cellsBy enc L).length = L.length * k := by
  induction L with
  | nil => simp [cellsBy]
  | cons x L ih => rw [by_cons, List.length_append, ih, hk, List.length_cons, Nat.succ_mul, Nat.add_comm]
theorem by_ones (h1 : ∀ x, ∀ v ∈ enc x, v.oneCell' = true) (L : List α) : ∀ v ∈ cellsBy enc L, v.oneCell' = true := by
  intro v hv
  obtain ⟨x, _, hx⟩ := List.mem_flatMap.1 hv
  exact h1 x v hx
theorem by_at (hk : ∀ x, (enc x).length = k) : ∀ (L : List α) (j : Nat) (x : α), L[j]? = some x → ∀ i, i < k → (cellsBy enc L)[j * k + i]? = (enc x)[i]?
  | [], j, x, h, i, hi => by simp at h
  | y :: L, 0, x, h, i, hi => by
    simp at h
    subst h
    rw [by_cons, Nat.zero_mul, Nat.zero_add, List.getElem?_append_left (by rw [hk]; exact hi)]
  | y :: L, j + 1, x, h, i, hi => by
    have := by_at hk L j x (by simpa using h) i hi
    rw [by_cons, List.getElem?_append_right (by rw [hk, Nat.succ_mul]; omega), hk, ← this]
    congr 1
    rw [Nat.succ_mul]
    omega
/-- A row of the call's own, item j of it. -/
theorem own_item {w : World} {base n : Nat} {ty : TypeId} {A : Option Addr} {c : Nat} {L : List α} (hk : ∀ x, (enc x).length = k) (hk0 : 0 < k) (h : w.ownsRow base ty k (.slice A n c) n (cellsBy enc L)) {j : Nat} {x : α} (hj : L[j]? = some x) :
    ∃ g, A = some ⟨g, 0, none⟩ ∧ base ≤ g ∧ g < w.heap.size ∧ n ≤ c ∧ c ≤ maxLen ∧ ∀ i, i < k → w.cell? ⟨g, j * k + i, none⟩ = (enc x)[i]? := by
  have hl := h.1
  rw [by_length hk] at hl
  have hln : L.length = n := Nat.eq_of_mul_eq_mul_right hk0 hl
  have hjl := (List.getElem?_eq_some_iff.1 hj).1
  rcases h.2 with ⟨_, hn⟩ | ⟨g, cap, cur, hv, hb, hg, h1, h2, h3, h4⟩
  · omega
  · cases hv
    refine ⟨g, rfl, hb, (Array.getElem?_eq_some_iff.1 hg).1, h1, h2, fun i hi => ?_⟩
    have hB : Blk w g ty cur := hg
    have hlt : j * k + i < n * k := by
      have : (j + 1) * k ≤ n * k := Nat.mul_le_mul_right k (by omega)
      rw [Nat.succ_mul] at this
      omega
    rw [hB.cell, ← by_at hk L j x hj i hi, ← h4, List.getElem?_take, if_pos hlt]
    simp
theorem own_lenH {w : World} {base n : Nat} {ty : TypeId} {v : Value} {L : List α} (hk : ∀ x, (enc x).length = k) (hk0 : 0 < k) (h : w.ownsRow base ty k v n (cellsBy enc L)) : L.length = n := by
  have hl := h.1
  rw [by_length hk] at hl
  exact Nat.eq_of_mul_eq_mul_right hk0 hl
end

instance : Inhabited Hd := ⟨⟨0, 0, 0, 0, 0, 0, 0⟩⟩
def encHd (h : Hd) : List Value := [.int .i64 h.age, .int .i64 h.kind, .int .i64 h.id, .int .i64 h.adv, .int .i64 h.seq, .int .i64 h.sum, .int .i64 h.long]
theorem encHd_len (h : Hd) : (encHd h).length = 7 := rfl
theorem encHd_ones (h : Hd) : ∀ v ∈ encHd h, v.oneCell' = true := fun v hv => by
  simp only [encHd, List.mem_cons, List.not_mem_nil, or_false] at hv
  rcases hv with rfl | rfl | rfl | rfl | rfl | rfl | rfl <;> rfl
/-- The order of heads: that of their keys. -/
def cmpH (a b : Hd) : Int := cmpK (keyH a) (keyH b)
def lessH (a b : Hd) : Bool := lessKy (keyH a) (keyH b)
theorem ltOf_cmpH : ltOf cmpH = lessH := by
  funext a b
  exact cmpK_less _ _
theorem swo_less : SWO lessH where
  irrefl x := lessKy_irrefl _
  trans x y z h1 h2 := lessKy_trans h1 h2
  ntrans x y z h1 h2 := by
    cases h : lessH x z
    · rfl
    · have n1 : ¬ lessKy (keyH x) (keyH y) = true := by
        show ¬ lessH x y = true
        rw [h1]
        decide
      have n2 : ¬ lessKy (keyH y) (keyH z) = true := by
        show ¬ lessH y z = true
        rw [h2]
        decide
      have h3 : lessKy (keyH x) (keyH z) = true := h
      rw [lessKy_iff] at n1 n2 h3
      omega
theorem swo_cmpH : SWO (ltOf cmpH) := by
  rw [ltOf_cmpH]
  exact swo_less
set_option maxRecDepth 8000 in
set_option maxHeartbeats 2000000 in
theorem keyOf_grown (h : Hd) (w : World) : Calls Try.prog 51 #[.agg #[.int .i64 h.age, .int .i64 h.kind, .int .i64 h.id, .int .i64 h.adv, .int .i64 h.seq, .int .i64 h.sum, .int .i64 h.long]] w
    fun e w' => e = .returned (.agg #[.int .i64 h.kind, .int .i64 h.id, .int .i64 h.adv]) ∧ ∃ q os', w' = grow (w.drewN q) os' := by
  have HG := Lib.hid (show ∃ q os', (w.alloc (.cells #[.int .i64 h.age, .int .i64 h.kind, .int .i64 h.id, .int .i64 h.adv, .int .i64 h.seq, .int .i64 h.sum, .int .i64 h.long] 43)).alloc (.cells #[.int .i64 h.kind, .int .i64 h.id, .int .i64 h.adv] 86) = grow (w.drewN q) os' from ⟨0, _, by rw [alloc_eq_grow, alloc_eq_grow, grow_grow]; rfl⟩)
  go_enter Try.func51, Try.ntmps51
  go_wp2
  refine bodyPost_ret (v := .agg #[.int .i64 h.kind, .int .i64 h.id, .int .i64 h.adv]) (by simp [results, Try.results51, go_sem, *]) rfl ?_
  exact ⟨rfl, HG.out⟩
theorem Blk.sevenH {w : World} {g : Nat} {t : TypeId} {a0 a1 a2 a3 a4 a5 a6 : Value} (h : Blk w g t #[a0, a1, a2, a3, a4, a5, a6]) : w.cell? ⟨g, 0, none⟩ = some a0 ∧ w.cell? ⟨g, 1, none⟩ = some a1 ∧ w.cell? ⟨g, 2, none⟩ = some a2 ∧ w.cell? ⟨g, 3, none⟩ = some a3 ∧ w.cell? ⟨g, 4, none⟩ = some a4 ∧ w.cell? ⟨g, 5, none⟩ = some a5 ∧ w.cell? ⟨g, 6, none⟩ = some a6 := ⟨h.cell 0, h.cell 1, h.cell 2, h.cell 3, h.cell 4, h.cell 5, h.cell 6⟩
set_option maxRecDepth 20000 in
set_option maxHeartbeats 8000000 in
/-- The function literal that the stable sort is handed. -/
theorem compareH (a b : Hd) (w : World) : Calls Try.prog 43 #[.agg #[.int .i64 a.age, .int .i64 a.kind, .int .i64 a.id, .int .i64 a.adv, .int .i64 a.seq, .int .i64 a.sum, .int .i64 a.long], .agg #[.int .i64 b.age, .int .i64 b.kind, .int .i64 b.id, .int .i64 b.adv, .int .i64 b.seq, .int .i64 b.sum, .int .i64 b.long]] w
    fun e w' => e = .returned (.int .i64 (cmpH a b)) ∧ ∃ q os', w' = grow (w.drewN q) os' := by
  obtain ⟨a0, a1, a2, a3, a4, a5, a6⟩ := Blk.sevenH (blk_new07 w #[.int .i64 a.age, .int .i64 a.kind, .int .i64 a.id, .int .i64 a.adv, .int .i64 a.seq, .int .i64 a.sum, .int .i64 a.long] 43 (.cells #[.int .i64 b.age, .int .i64 b.kind, .int .i64 b.id, .int .i64 b.adv, .int .i64 b.seq, .int .i64 b.sum, .int .i64 b.long] 43))
  obtain ⟨b0, b1, b2, b3, b4, b5, b6⟩ := Blk.sevenH (blk_new1 w (.cells #[.int .i64 a.age, .int .i64 a.kind, .int .i64 a.id, .int .i64 a.adv, .int .i64 a.seq, .int .i64 a.sum, .int .i64 a.long] 43) 43 #[.int .i64 b.age, .int .i64 b.kind, .int .i64 b.id, .int .i64 b.adv, .int .i64 b.seq, .int .i64 b.sum, .int .i64 b.long])
  have HG := Lib.hid (show ∃ os, (w.alloc (.cells #[.int .i64 a.age, .int .i64 a.kind, .int .i64 a.id, .int .i64 a.adv, .int .i64 a.seq, .int .i64 a.sum, .int .i64 a.long] 43)).alloc (.cells #[.int .i64 b.age, .int .i64 b.kind, .int .i64 b.id, .int .i64 b.adv, .int .i64 b.seq, .int .i64 b.sum, .int .i64 b.long] 43) = grow w os from ⟨_, by rw [alloc_eq_grow, alloc_eq_grow, grow_grow]⟩)
  have mixed : Try.prog.follows .mixedOrders = true := by kernel_rfl
  go_enter Try.func43, Try.ntmps43
  go_wp2_with fail
  generalize (w.alloc (.cells #[.int .i64 a.age, .int .i64 a.kind, .int .i64 a.id, .int .i64 a.adv, .int .i64 a.seq, .int .i64 a.sum, .int .i64 a.long] 43)).alloc (.cells #[.int .i64 b.age, .int .i64 b.kind, .int .i64 b.id, .int .i64 b.adv, .int .i64 b.seq, .int .i64 b.sum, .int .i64 b.long] 43) = w0 at *
  have p1 := fun n os => Calls.grown_of (keyOf_grown a (grow (w0.drewN n) os))
  have p2 := fun n os => Calls.grown_of (keyOf_grown b (grow (w0.drewN n) os))
  have p3 := fun n os => Calls.grown_of (compare7 (keyH a) (keyH b) (grow (w0.drewN n) os))
  have ga0 := fun n os => cell_grown (n := n) (os := os) (World.block_lt_of_cell? w0 _ a0) a0
  have ga1 := fun n os => cell_grown (n := n) (os := os) (World.block_lt_of_cell? w0 _ a1) a1
  have ga2 := fun n os => cell_grown (n := n) (os := os) (World.block_lt_of_cell? w0 _ a2) a2
  have ga3 := fun n os => cell_grown (n := n) (os := os) (World.block_lt_of_cell? w0 _ a3) a3
  have ga4 := fun n os => cell_grown (n := n) (os := os) (World.block_lt_of_cell? w0 _ a4) a4
  have ga5 := fun n os => cell_grown (n := n) (os := os) (World.block_lt_of_cell? w0 _ a5) a5
  have ga6 := fun n os => cell_grown (n := n) (os := os) (World.block_lt_of_cell? w0 _ a6) a6
  have gb0 := fun n os => cell_grown (n := n) (os := os) (World.block_lt_of_cell? w0 _ b0) b0
  have gb1 := fun n os => cell_grown (n := n) (os := os) (World.block_lt_of_cell? w0 _ b1) b1
  have gb2 := fun n os => cell_grown (n := n) (os := os) (World.block_lt_of_cell? w0 _ b2) b2
  have gb3 := fun n os => cell_grown (n := n) (os := os) (World.block_lt_of_cell? w0 _ b3) b3
  have gb4 := fun n os => cell_grown (n := n) (os := os) (World.block_lt_of_cell? w0 _ b4) b4
  have gb5 := fun n os => cell_grown (n := n) (os := os) (World.block_lt_of_cell? w0 _ b5) b5
  have gb6 := fun n os => cell_grown (n := n) (os := os) (World.block_lt_of_cell? w0 _ b6) b6
  clear a0 a1 a2 a3 a4 a5 a6 b0 b1 b2 b3 b4 b5 b6
  unfold keyH at p3
  dsimp only at p3
  rw [show cmpK ⟨a.kind, a.id, a.adv⟩ ⟨b.kind, b.id, b.adv⟩ = cmpH a b from rfl] at p3
  obtain ⟨r, hr⟩ : ∃ r, cmpH a b = r := ⟨_, rfl⟩
  rw [hr] at p3
  have HR := Lib.hid hr
  clear hr
  go_quiet_grown (first | (go_at_call 51; first | with_reducible exact p1 _ _ | with_reducible exact p2 _ _) | (go_at_call 53; with_reducible exact p3 _ _))
  obtain ⟨os, hos⟩ := HG.out
  go_wp2_with fail
  go_ret
  exact ⟨by rw [HR.out]; rfl, nq, os ++ osq, by rw [hos, ← grow_grow]; rfl⟩
theorem flat_hd (K : List Hd) : flatK encHd 7 K.toArray = (cellsBy encHd K).toArray := by
  refine ext_get! (by simp [by_length encHd_len]) fun t ht => ?_
  have ht' : t < K.toArray.size * 7 := by simpa using ht
  have ht2 : t < K.length * 7 := by simpa using ht'
  rw [get_flatK _ _ _ t ht']
  have hd : t / 7 < K.length := by omega
  have hK : K[t / 7]? = some (K[t / 7]'hd) := List.getElem?_eq_getElem hd
  have h1 : (cellsBy encHd K)[t / 7 * 7 + t % 7]? = (encHd _)[t % 7]? := by_at encHd_len K (t / 7) _ hK (t % 7) (by omega)
  rw [show t / 7 * 7 + t % 7 = t by omega] at h1
  have h2 : K.toArray[t / 7]! = K[t / 7]'hd := by
    rw [getElem!_pos K.toArray (t / 7) (by simpa using hd)]
    simp
  rw [h2]
  have hl : t < (cellsBy encHd K).toArray.size := by simp [by_length encHd_len]; omega
  have h3 : t % 7 < (encHd (K[t / 7]'hd)).length := by simp [encHd]; omega
  rw [getElem!_pos (cellsBy encHd K).toArray t hl, getElem!_pos _ (t % 7) h3]
  rw [List.getElem?_eq_getElem (by simpa using hl), List.getElem?_eq_getElem h3] at h1
  injection h1 with h1
  simpa using h1.symm
theorem enters_cmpH : ∀ args w, (callFunc 43 args).run Try.prog w = .ok (.enter 43 args) w := enters_of Try.func43 (by kernel_rfl) rfl
set_option maxHeartbeats 2000000 in
theorem top_sort {A : Option Addr} {n c g : Nat} {w : World} {R : World → Prop} (h : Calls Try.prog 68 #[.slice A n c, .int .i64 (n : Int), .func (.func g) #[] #[]] w fun e w' => e = .returned (.tuple #[]) ∧ R w') :
    Calls Try.prog 42 #[.slice A n c, .func (.func g) #[] #[]] w fun e w' => e = .returned (.tuple #[]) ∧ R w' := by
  have H := Lib.hid h
  clear h
  go_enter Try.func42, Try.ntmps42
  go_wp2_with (go_at_call 68; refine H.out.mono ?_; rintro e w' ⟨rfl, hr⟩)
  go_end0
  exact ⟨rfl, hr⟩
set_option maxHeartbeats 2000000 in
theorem stable_none (g : Nat) (w : World) : Calls Try.prog 68 #[.slice none 0 0, .int .i64 ((0 : Nat) : Int), .func (.func g) #[] #[]] w fun e w' => e = .returned (.tuple #[]) ∧ w' = w := by
  have hi := fun W => AnyF.insertionSortCmpFunc_none insHd7 none 0 (.func (.func g) #[] #[]) W
  rw [show ((0 : Nat) : Int) = 0 from rfl]
  go_enter Try.func68, Try.ntmps68
  go_wp2
  refine wp_loop_rounds 1 ?_
  rw [rounds_succ]
  go_wp2_with (go_at_call 88; refine (hi _).mono ?_; rintro e w' ⟨rfl, rfl⟩)
  refine wp_loop_rounds 1 ?_
  rw [rounds_succ]
  go_wp2
  go_end0
  exact ⟨rfl, rfl⟩
set_option maxHeartbeats 4000000 in
/-- The library's stable sort of a row of the call's own. -/
theorem sort_heads {w : World} {base n c : Nat} {A : Option Addr} {K : List Hd} (ho : w.ownsRow base 43 7 (.slice A n c) n (cellsBy encHd K)) (hn : n ≤ 1000) :
    Calls Try.prog 42 #[.slice A n c, .func (.func 43) #[] #[]] w
      fun e w' => e = .returned (.tuple #[]) ∧ (∃ K', Ord lessH K' ∧ Stab lessH K K' ∧ w'.ownsRow base 43 7 (.slice A n c) n (cellsBy encHd K')) ∧ w.grownBy w' (Value.slice A n c).ownBlock := by
  have hlK := own_lenH encHd_len (by omega) ho
  refine top_sort (R := fun w' => (∃ K', Ord lessH K' ∧ Stab lessH K K' ∧ w'.ownsRow base 43 7 (.slice A n c) n (cellsBy encHd K')) ∧ w.grownBy w' (Value.slice A n c).ownBlock) ?_
  rcases ho.2 with ⟨hv, hn0⟩ | ⟨g, cap, cur, hv, hbase, hb, h1, h2, h3, h4⟩
  · injection hv with e1 e2 e3
    subst e1 e2 e3
    obtain rfl : K = [] := List.eq_nil_of_length_eq_zero hlK
    refine (stable_none _ w).mono ?_
    rintro e w' ⟨rfl, rfl⟩
    exact ⟨rfl, ⟨[], List.Pairwise.nil, Stab.refl _, ho⟩, rfl, rfl, rfl, Nat.le_refl _, fun _ _ _ => rfl⟩
  · cases hv
    obtain ⟨d, hd⟩ : ∃ d, d = K.toArray := ⟨_, rfl⟩
    have hdz : d.size = n := by rw [hd, List.size_toArray, hlK]
    have hcmp : CmpLays Try.prog 43 #[] encHd 7 cmpH g 0 d.size w := fun m os dk _ x y => by
      rw [Array.append_empty]
      exact compareH x y _
    have hH : HoldsK encHd 7 w g 0 d := by
      unfold HoldsK
      rw [hd, flat_hd]
      refine holds7 hb ?_
      rw [List.size_toArray, by_length encHd_len, hlK, h4]
    have hblk : g < w.heap.size := (Array.getElem?_eq_some_iff.1 hb).1
    have R : RowK encHd 7 w g 0 d := ⟨encHd_len, encHd_ones, hH, hblk⟩
    have F : StabFam Try.prog 43 7 encHd cmpH 43 #[] g 0 d w := ⟨Try.isAgg43, Try.sizeOf43, enters_cmpH, hcmp, swo_cmpH, R⟩
    have hc := stable_any stabLays F c d w rfl (SWK.start hH) (by omega) (fun a b dj W' hj S' hab hb' => by
      have h := AnyQ.insertionSortCmpFunc_w insHd7 7 Try.isAgg43 Try.sizeOf43 encHd cmpH 43 #[] g 0 c a b d dj w W' enters_cmpH hcmp R hj.symm S' swo_cmpH hab (by omega) (by omega)
      rw [hj] at h
      refine Calls.mono h ?_
      rintro e w' ⟨rfl, h'⟩
      have hm := mix_ins swo_cmpH dj hab (by omega)
      exact ⟨rfl, _, h', hm.1, hm.2⟩)
    rw [hdz] at hc
    refine Calls.mono hc ?_
    rintro e w' ⟨rfl, d', ⟨m, os, rfl⟩, hm, hs⟩
    have hz : d'.size = n := by rw [hm.size, hdz]
    have hl : d'.toList.length = n := by rw [Array.length_toList, hz]
    have hfl : flatK encHd 7 d' = (cellsBy encHd d'.toList).toArray := by rw [← flat_hd]
    have hls : (cellsBy encHd d'.toList).length = n * 7 := by rw [by_length encHd_len, hl]
    refine ⟨rfl, ⟨d'.toList, ?_, ?_, ?_⟩, ?_⟩
    · rw [← ltOf_cmpH]
      exact ord_of_sorted (by rw [hz]; exact hs)
    · have := hm.2
      rw [hd, ltOf_cmpH] at this
      exact this
    · unfold sortWorldK putRowK
      rw [hfl]
      refine ⟨hls, .inr ⟨g, c, _, rfl, hbase, heap_sorted7 _ hb, h1, h2, by simp [putCells, h3], ?_⟩⟩
      have h5 := take_putCells7 (cur := cur) (F := (cellsBy encHd d'.toList).toArray) (by
        rw [List.size_toArray, hls, h3]
        omega)
      rw [List.size_toArray, hls] at h5
      exact h5
    · unfold sortWorldK putRowK
      exact grownBy_sorted7 _
end Go.Proofs.Ytfdfdmbnggpnbaa
namespace Go.Proofs.Ytfdfdmbnggpnbaa
open Go.ChangeShapes Go.WideShapes Go.RowKit Go.Deep
set_option maxRecDepth 20000

/-- An act on a database. -/
structure Ac where
  kind : Int
  x : La
/-- From place p of block b on there lies an act. -/
def AcAt (w : World) (B b p : Nat) (a : Ac) : Prop :=
  wfKy (kyL a.x) ∧ ∃ (A : Option Addr) (n c : Nat) (A' : Option Addr) (n' c' : Nat), w.rangeAt b p [.int .i64 a.kind, .int .i64 a.x.h.age, .int .i64 a.x.h.kind, .int .i64 a.x.h.id, .int .i64 a.x.h.adv, .int .i64 a.x.h.seq, .int .i64 a.x.h.sum, .int .i64 a.x.h.long, .slice A n c, .slice A' n' c'] ∧ Lnk w B A n a.x.L ∧ Row .i64 w B A' n' a.x.M ∧ n ≤ maxLen ∧ n' ≤ maxLen
theorem range_move {w w' : World} {b p : Nat} {cs : List Value} (h : w.rangeAt b p cs) (hk : ∀ o, w'.cell? ⟨b, o, none⟩ = w.cell? ⟨b, o, none⟩) : w'.rangeAt b p cs := fun j v hj => (hk _).trans (h j v hj)
theorem AcAt.move {w w' : World} {B B' b p : Nat} {a : Ac} (hk : ∀ q : Addr, q.block < B → w'.cell? q = w.cell? q) (hB : B ≤ B') (hb : b < B) (h : AcAt w B b p a) : AcAt w' B' b p a := by
  obtain ⟨h0, A, n, c, A', n', c', h1, h2, h3, h4⟩ := h
  exact ⟨h0, A, n, c, A', n', c', range_move h1 (fun o => hk ⟨b, o, none⟩ hb), (h2.keep hk).more hB, (h3.keep hk).more hB, h4⟩
def Acs (w : World) (B : Nat) (A : Option Addr) (n : Nat) (L : List Ac) : Prop := Arr 10 AcAt w B A n L
theorem Acs.below {w w' : World} {B n : Nat} {A : Option Addr} {L : List Ac} (h : Acs w B A n L) (hb : Below B w w') : Acs w' B A n L := Arr.move (fun _ _ _ hlt h => AcAt.move (fun _ hp => hb.cell hp) (Nat.le_refl _) hlt h) (Nat.le_refl _) h

section
variable {H : Type} {enc : TypeId × Value → H} {w : World} {base : Nat} {held : Bool} {fuel : Nat}
end

end Go.Proofs.Ytfdfdmbnggpnbaa
