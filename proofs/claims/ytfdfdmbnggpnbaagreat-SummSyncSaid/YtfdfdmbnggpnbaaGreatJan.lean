/- Keys of the call's own, sorted. No conditions. · Keys of the call's own, sorted by the library's sort under the program's compare. Conditions: at most 1000 keys. · The program's keys: the keys of all that a database holds, in order. Conditions: what the words say. · The program's keys. Conditions: what the words say. · The program's New, Len and Drop. Conditions: what the words say. · The program's Drop. Conditions: what the words say. -/
import Derived.StillTailTactics
import Derived.Sort.Grow
import Derived.Deep.DeepCutAuto
import Derived.Test.YtfdfdmbnggpnbaaGreatJam
namespace Go.Proofs.YtfdfdmbnggpnbaaGreat
open Go.RowKit Go.Shelf Go.Lib Go.Sort

set_option maxRecDepth 20000 in
set_option maxHeartbeats 8000000 in
/-- The program's compare. -/
theorem compare7 (a b : Ky) (w : World) : Calls Tryz.prog 39 #[.agg #[.int .i64 a.kind, .int .i64 a.id, .int .i64 a.adv], .agg #[.int .i64 b.kind, .int .i64 b.id, .int .i64 b.adv]] w
    fun e w' => e = .returned (.int .i64 (cmpK a b)) ∧ ∃ q os', w' = grow (w.drewN q) os' := by
  obtain ⟨a0, a1, a2⟩ := Blk.three (blk_new07 w #[.int .i64 a.kind, .int .i64 a.id, .int .i64 a.adv] 48 (.cells #[.int .i64 b.kind, .int .i64 b.id, .int .i64 b.adv] 48))
  obtain ⟨b0, b1, b2⟩ := Blk.three (blk_new1 w (.cells #[.int .i64 a.kind, .int .i64 a.id, .int .i64 a.adv] 48) 48 #[.int .i64 b.kind, .int .i64 b.id, .int .i64 b.adv])
  have HG := Lib.hid (show ∃ os, (w.alloc (.cells #[.int .i64 a.kind, .int .i64 a.id, .int .i64 a.adv] 48)).alloc (.cells #[.int .i64 b.kind, .int .i64 b.id, .int .i64 b.adv] 48) = grow w os from ⟨_, by rw [alloc_eq_grow, alloc_eq_grow, grow_grow]⟩)
  have p1 := fun W => cmp7 a.kind b.kind W
  have p2 := fun W => cmp7 a.id b.id W
  have p3 := fun W => cmp7 a.adv b.adv W
  unfold cmpK
  generalize Lib.compareInt a.kind b.kind = x1 at *
  generalize Lib.compareInt a.id b.id = x2 at *
  generalize Lib.compareInt a.adv b.adv = x3 at *
  go_enter Tryz.func39, Tryz.ntmps39
  go_wp2_with fail
  generalize (w.alloc (.cells #[.int .i64 a.kind, .int .i64 a.id, .int .i64 a.adv] 48)).alloc (.cells #[.int .i64 b.kind, .int .i64 b.id, .int .i64 b.adv] 48) = w0 at *
  refine wp_region_still_tail 15 (by kernel_rfl) (by kernel_rfl) ?_
  simp only [List.take_succ_cons, List.take_zero, List.drop_succ_cons, List.drop_zero]
  repeat still_step
  still_call (p1 _)
  repeat still_step
  still_call (p2 _)
  repeat still_step
  still_call (p3 _)
  refine wpStill_nil ?_
  change wpList _ _ _ _ _ w0.drew
  obtain ⟨os, hos⟩ := HG.out
  have HW := Lib.hid (show w0.drew = grow (w.drewN 1) os by rw [hos]; rfl)
  clear HG hos a0 a1 a2 b0 b1 b2
  generalize w0.drew = w2 at *
  obtain ⟨c0, c1, c2⟩ := Blk.three (Blk.new w2 3 #[.int .i64 x1, .int .i64 x2, .int .i64 x3])
  go_wp2_with (go_at_call 61; refine (or7 x1 x2 x3 _ _ c0 c1 c2).mono ?_; rintro e w' ⟨rfl, rfl⟩)
  go_ret
  exact ⟨rfl, 1, _, by rw [HW.out, alloc_eq_grow, grow_grow]⟩
end Go.Proofs.YtfdfdmbnggpnbaaGreat
namespace Go.Proofs.YtfdfdmbnggpnbaaGreat
open Go.RowKit Go.Shelf Go.Lib Go.Sort

instance : Inhabited Ky := ⟨⟨0, 0, 0⟩⟩
def encKy (k : Ky) : List Value := [.int .i64 k.kind, .int .i64 k.id, .int .i64 k.adv]
theorem flat_ky (K : List Ky) : flatK encKy 3 K.toArray = (kyCells K).toArray := by
  refine ext_get! (by simp [kyCells_length]) fun t ht => ?_
  have ht' : t < K.toArray.size * 3 := by simpa using ht
  have ht2 : t < K.length * 3 := by simpa using ht'
  rw [get_flatK _ _ _ t ht']
  have hd : t / 3 < K.length := by omega
  have hK : K[t / 3]? = some (K[t / 3]'hd) := List.getElem?_eq_getElem hd
  have h1 : (kyCells K)[t / 3 * 3 + t % 3]? = (encKy _)[t % 3]? := kyCells_at K (t / 3) _ hK (t % 3) (by omega)
  rw [show t / 3 * 3 + t % 3 = t by omega] at h1
  have h2 : K.toArray[t / 3]! = K[t / 3]'hd := by
    rw [getElem!_pos K.toArray (t / 3) (by simpa using hd)]
    simp
  rw [h2]
  have hl : t < (kyCells K).toArray.size := by simp [kyCells_length]; omega
  have h3 : t % 3 < (encKy (K[t / 3]'hd)).length := by simp [encKy]; omega
  rw [getElem!_pos (kyCells K).toArray t hl, getElem!_pos _ (t % 3) h3]
  rw [List.getElem?_eq_getElem (by simpa using hl), List.getElem?_eq_getElem h3] at h1
  injection h1 with h1
  simpa using h1.symm
section
variable {w : World} {g : Nat} {e : TypeId} {cur : Array Value} {F : Array Value}
theorem holds7 (hb : w.heap[g]? = some (.cells cur e (0, 0))) (ht : cur.toList.take F.size = F.toList) : Holds id w g 0 F := by
  intro j hj
  refine ⟨?_, by simp [World.frozen?, hb]⟩
  have h1 : (cur.toList.take F.size)[j]? = F.toList[j]? := by rw [ht]
  rw [List.getElem?_take_of_lt hj] at h1
  simp only [World.cell?, hb, Nat.zero_add]
  simp only [Option.isSome_none, Bool.false_eq_true, if_false]
  rw [← Array.getElem?_toList, h1]
  simp [hj]
theorem heap_sorted7 {n : Nat} {os : Array Obj} {fr : Nat × Nat} (F : Array Value) (hb : w.heap[g]? = some (.cells cur e fr)) :
    (grow (putRow id (Sort.ahead w n) g 0 F) os).heap[g]? = some (.cells (putCells id 0 F cur) e fr) := by
  have hg : g < w.heap.size := (Array.getElem?_eq_some_iff.1 hb).1
  rw [heap_grow_old _ _ (by simpa using hg)]
  simp [putRow, mapBlock, Sort.ahead, Array.getElem?_modify, hb, onCells]
theorem grownBy_sorted7 {n : Nat} {os : Array Obj} (F : Array Value) : w.grownBy (grow (putRow id (Sort.ahead w n) g 0 F) os) (some g) := by
  refine ⟨rfl, rfl, rfl, by simp, fun k hk hne => ?_⟩
  rw [heap_grow_old _ _ (by simpa using hk)]
  have : g ≠ k := fun e => hne (by rw [e])
  simp [putRow, mapBlock, Sort.ahead, Array.getElem?_modify, this]
theorem take_putCells7 (h : F.size ≤ cur.size) : (putCells id 0 F cur).toList.take F.size = F.toList := by
  apply List.ext_getElem?
  intro j
  by_cases hj : j < F.size
  · rw [List.getElem?_take_of_lt hj, Array.getElem?_toList]
    simp [putCells, hj, show j < cur.size by omega]
  · rw [List.getElem?_take_eq_none (by omega), List.getElem?_eq_none (by simp; omega)]
end
/-- In order, equals let. -/
def leKy (a b : Ky) : Bool := !lessKy b a
theorem ltOf_cmpK (x y : Ky) : ltOf cmpK x y = lessKy x y := cmpK_less x y
theorem swo_cmpK : SWO (ltOf cmpK) where
  irrefl x := by rw [ltOf_cmpK]; exact lessKy_irrefl x
  trans x y z h1 h2 := by rw [ltOf_cmpK] at *; exact lessKy_trans h1 h2
  ntrans x y z h1 h2 := by
    rw [ltOf_cmpK] at *
    cases h : lessKy x z
    · rfl
    · have n1 : ¬ lessKy x y = true := by rw [h1]; decide
      have n2 : ¬ lessKy y z = true := by rw [h2]; decide
      rw [lessKy_iff] at n1 n2 h
      omega
theorem enters_cmp7 : ∀ args w, (callFunc 39 args).run Tryz.prog w = .ok (.enter 39 args) w := enters_of Tryz.func39 (by kernel_rfl) rfl
set_option maxHeartbeats 2000000 in
theorem sort_keys7 {w : World} {base n c : Nat} {A : Option Addr} {K : List Ky} (ho : w.ownsRow base 48 3 (.slice A n c) n (kyCells K)) (hn : n ≤ 1000) :
    Calls Tryz.prog 38 #[.slice A n c, .func (.func 39) #[] #[]] w
      fun e w' => e = .returned (.tuple #[]) ∧ w'.ownsRow base 48 3 (.slice A n c) n (kyCells (K.mergeSort leKy)) ∧ w.grownBy w' (Value.slice A n c).ownBlock := by
  have hl := ho.1
  rw [kyCells_length] at hl
  have hlK : K.length = n := by omega
  rcases ho.2 with ⟨hv, hn0⟩ | ⟨g, cap, cur, hv, hbase, hb, h1, h2, h3, h4⟩
  · injection hv with e1 e2 e3
    subst e1 e2 e3
    have hK : K = [] := List.eq_nil_of_length_eq_zero hlK
    subst hK
    refine (AnyF.slices_SortFunc_none { sortKy7 with } none 0 (.func (.func 39) #[] #[]) w).mono ?_
    rintro e w' ⟨rfl, rfl⟩
    exact ⟨rfl, by simpa using ho, ⟨rfl, rfl, rfl, Nat.le_refl _, fun _ _ _ => rfl⟩⟩
  · cases hv
    have hF : (flatK encKy 3 K.toArray) = (kyCells K).toArray := flat_ky K
    have hH : HoldsK encKy 3 w g 0 K.toArray := by
      unfold HoldsK
      rw [hF]
      refine holds7 hb ?_
      rw [List.size_toArray, kyCells_length, hlK, h4]
    have hcon := AnyQ.slices_SortFunc_total sortKy7 3 Tryz.isAgg48 Tryz.sizeOf48 encKy (fun _ => rfl) (fun x v hv => by simp [encKy] at hv; rcases hv with rfl | rfl | rfl <;> rfl) cmpK swo_cmpK 39 #[] g 0 c K.toArray w enters_cmp7 (fun _ _ _ _ x y => compare7 x y _) hH (Array.getElem?_eq_some_iff.1 hb).1 (by simp; omega) (fun x y h1 h2 => by
      rw [ltOf_cmpK] at h1 h2
      refine Classical.byContradiction fun h => ?_
      exact absurd (lessKy_total h1 h) (by rw [h2]; decide))
    have hle : (fun x y => !(ltOf cmpK) y x) = leKy := by
      funext x y
      rw [ltOf_cmpK]
      rfl
    rw [hle] at hcon
    simp only [List.size_toArray, hlK] at hcon
    refine Calls.mono hcon ?_
    rintro e w' ⟨rfl, m, os, rfl⟩
    unfold sortWorldK putRowK
    rw [flat_ky]
    have hls : (kyCells (K.mergeSort leKy)).length = n * 3 := by rw [kyCells_length, List.length_mergeSort, hlK]
    refine ⟨rfl, ⟨hls, .inr ⟨g, c, _, rfl, hbase, heap_sorted7 _ hb, h1, h2, by simp [putCells, h3], ?_⟩⟩, grownBy_sorted7 _⟩
    have h5 := take_putCells7 (cur := cur) (F := (kyCells (K.mergeSort leKy)).toArray) (by
      simp [hls, h3]
      omega)
    simpa [hls] using h5
end Go.Proofs.YtfdfdmbnggpnbaaGreat
namespace Go.Proofs.YtfdfdmbnggpnbaaGreat
open Go.RowKit
open Go.Maps (Keyed)

/-- Keys collected so far. -/
def Coll (D : DataW Value) (left : Lit → Bool) (ks : List Ky) : Prop :=
  (∀ k ∈ ks, wfKy k) ∧ ks.Pairwise (· ≠ ·) ∧ ∀ k, wfKy k → (k ∈ ks ↔ Maps.has D (kyLit k) = true ∧ left (kyLit k) = false)
theorem Coll.start (D : DataW Value) : Coll D (Maps.has D) [] :=
  ⟨fun k h => (by cases h), List.Pairwise.nil, fun k _ => ⟨fun h => (by cases h), fun h => by rw [h.1] at h; exact absurd h.2 (by decide)⟩⟩
theorem Coll.step {D : DataW Value} {left : Lit → Bool} {ks : List Ky} (h : Coll D left ks) {x : Ky} (hx : wfKy x) (hl : left (kyLit x) = true) {y : DataW Value} (hat : ∀ zd, D.atKey (kyLit x) zd = y) :
    Coll D (fun z => left z && !z.sameKey (kyLit x)) (ks ++ [x]) := by
  obtain ⟨h1, h2, h3⟩ := h
  have hh : Maps.has D (kyLit x) = true := Maps.has_true_of_atKey hat
  have hnx : x ∉ ks := fun hm => by
    have := ((h3 x hx).1 hm).2
    rw [hl] at this
    cases this
  refine ⟨fun k hk => ?_, ?_, fun k hk => ?_⟩
  · rcases List.mem_append.1 hk with hk | hk
    · exact h1 k hk
    · rw [List.mem_singleton.1 hk]
      exact hx
  · rw [List.pairwise_append]
    refine ⟨h2, List.pairwise_singleton _ _, fun a ha b hb e => ?_⟩
    rw [List.mem_singleton.1 hb] at e
    exact hnx (e ▸ ha)
  · rw [List.mem_append, List.mem_singleton]
    show k ∈ ks ∨ k = x ↔ _ ∧ (left (kyLit k) && !(kyLit k).sameKey (kyLit x)) = false
    rw [sameKey_ky hk hx]
    constructor
    · rintro (hk' | rfl)
      · obtain ⟨e1, e2⟩ := (h3 k hk).1 hk'
        exact ⟨e1, by rw [e2]; rfl⟩
      · exact ⟨hh, by rw [(sameKy_iff k k).2 rfl, hl]; rfl⟩
    · rintro ⟨e1, e2⟩
      cases hs : sameKy k x
      · rw [hs] at e2
        simp at e2
        exact .inl ((h3 k hk).2 ⟨e1, e2⟩)
      · exact .inr ((sameKy_iff _ _).1 hs)
theorem ky_ext : ∀ {A B : List Ky}, A.Pairwise (fun a b => lessKy a b = true) → B.Pairwise (fun a b => lessKy a b = true) → (∀ x, x ∈ A ↔ x ∈ B) → A = B
  | [], B, _, _, h => by
    cases B with
    | nil => rfl
    | cons y T => exact absurd ((h y).2 (by simp)) (by simp)
  | x :: S, [], _, _, h => absurd ((h x).1 (by simp)) (by simp)
  | x :: S, y :: T, hs, ht, h => by
    obtain ⟨hs1, hs2⟩ := List.pairwise_cons.1 hs
    obtain ⟨ht1, ht2⟩ := List.pairwise_cons.1 ht
    have hxy : x = y := by
      rcases List.mem_cons.1 ((h x).1 (by simp)) with e | hx
      · exact e
      · rcases List.mem_cons.1 ((h y).2 (by simp)) with e | hy
        · exact e.symm
        · have := lessKy_trans (ht1 x hx) (hs1 y hy)
          rw [lessKy_irrefl] at this
          cases this
    subst hxy
    congr 1
    refine ky_ext hs2 ht2 (fun z => ?_)
    constructor
    · intro hz
      rcases List.mem_cons.1 ((h z).1 (by simp [hz])) with e | hz'
      · subst e
        have := hs1 z hz
        rw [lessKy_irrefl] at this
        cases this
      · exact hz'
    · intro hz
      rcases List.mem_cons.1 ((h z).2 (by simp [hz])) with e | hz'
      · subst e
        have := ht1 z hz
        rw [lessKy_irrefl] at this
        cases this
      · exact hz'
/-- What was collected, sorted, is the keys of the database. -/
theorem coll_sorted {ks : List Ky} {S : List La} (hn : ks.Pairwise (· ≠ ·)) (hm : ∀ k, k ∈ ks ↔ k ∈ S.map kyL) (hs : SortL S) : ks.mergeSort leKy = S.map kyL := by
  have hp := List.mergeSort_perm ks leKy
  have h1 : (ks.mergeSort leKy).Pairwise (fun a b => leKy a b = true) := List.pairwise_mergeSort (fun a b c h1 h2 => by
    unfold leKy at *
    simp at *
    cases h : lessKy c a
    · rfl
    · have n1 : ¬ lessKy b a = true := by rw [h1]; decide
      have n2 : ¬ lessKy c b = true := by rw [h2]; decide
      rw [lessKy_iff] at n1 n2 h
      omega) (fun a b => by
    unfold leKy
    cases h : lessKy b a
    · rfl
    · cases h2 : lessKy a b
      · rfl
      · have := lessKy_trans h h2
        rw [lessKy_irrefl] at this
        cases this) ks
  have h2 : (ks.mergeSort leKy).Pairwise (· ≠ ·) := (hp.pairwise_iff (fun {_ _} hne => Ne.symm hne)).2 hn
  refine ky_ext (h1.imp₂ (fun a b e1 e2 => ?_) h2) ?_ (fun k => (hp.mem_iff).trans (hm k))
  · unfold leKy at e1
    simp at e1
    exact lessKy_total e1 (Ne.symm e2)
  · rw [List.pairwise_map]
    exact hs
theorem coll_end {w : World} {b n : Nat} {R : List Rc} {T S : List La} {l : List (Lit × DataW Value)} {left : Lit → Bool} {ks : List Ky} {lo : Nat} (hM : MapIs w b R) (hp : l.Perm (R.map rcE)) (hA : All2 (RcIs w lo) R T) (hT : T.Perm S) (hC : Coll (.map l) left ks) (hl0 : ∀ kl, left kl = false) (hs : SortL S) (hn : ks.length + n ≤ R.length) :
    ks.mergeSort leKy = S.map kyL ∧ ks.length ≤ S.length := by
  obtain ⟨h1, h2, h3⟩ := hC
  have hl : R.length = S.length := hA.1.trans hT.length_eq
  refine ⟨coll_sorted h2 (fun k => ?_) hs, by omega⟩
  have mem : (∃ r ∈ R, keyH r.h = k) ↔ k ∈ S.map kyL := by
    rw [List.mem_map]
    constructor
    · rintro ⟨r, hr, rfl⟩
      obtain ⟨x, hx, hq⟩ := all2_mem hA hr
      exact ⟨x, hT.mem_iff.1 hx, by unfold kyL; rw [hq.1]⟩
    · rintro ⟨x, hx, rfl⟩
      obtain ⟨j, hj⟩ := List.getElem?_of_mem (hT.mem_iff.2 hx)
      obtain ⟨r, hr, hq⟩ := hA.at' hj
      exact ⟨r, List.mem_of_getElem? hr, by unfold kyL; rw [hq.1]⟩
  rw [← mem]
  constructor
  · intro hk
    have hw := h1 k hk
    have hh := ((h3 k hw).1 hk).1
    cases hg : getR R k with
    | none =>
      have := ((map_at hM.1 hM.nodup hp hw).1 .nil hg).2
      rw [hh] at this
      cases this
    | some r => exact ⟨r, getR_some hg⟩
  · rintro ⟨r, hr, rfl⟩
    have hw := hM.1 r hr
    refine (h3 _ hw).2 ⟨?_, hl0 _⟩
    cases hg : getR R (keyH r.h) with
    | none => exact absurd rfl (getR_none hg r hr)
    | some r' => exact ((map_at hM.1 hM.nodup hp hw).2 r' .nil hg).2
end Go.Proofs.YtfdfdmbnggpnbaaGreat
namespace Go.Proofs.YtfdfdmbnggpnbaaGreat
open Go.RowKit
open Go.Maps (Keyed)

set_option maxRecDepth 20000 in
set_option maxHeartbeats 8000000 in
theorem keys_db {w : World} {lo p : Nat} {room : Int} {S : List La} {F : Nat → Prop} (h : PDb w lo p room S F) (hs : SortL S) : Calls Tryz.prog 32 #[.pointer (some ⟨p, 0, none⟩)] w
    fun e w' => ∃ (A : Option Addr) (n c : Nat), e = .returned (.slice A n c) ∧ Below w.heap.size w w' ∧ w'.ownsRow w.heap.size 48 3 (.slice A n c) n (kyCells (S.map kyL)) := by
  obtain ⟨b, R, T, hB, h1, h2, hM, hA, hp, h3, h4, h5, hF⟩ := h
  generalize hQ : (fun (e : Ending) (w' : World) => ∃ (A : Option Addr) (n c : Nat), e = .returned (.slice A n c) ∧ Below w.heap.size w w' ∧ w'.ownsRow w.heap.size 48 3 (.slice A n c) n (kyCells (S.map kyL))) = Q
  have HQ := Lib.hid hQ
  clear hQ
  have HE := Lib.hid (show ∀ (l : List (Lit × DataW Value)) (left : Lit → Bool) (ks : List Ky) (n : Nat), l.Perm (R.map rcE) → Coll (.map l) left ks → (∀ kl, left kl = false) → ks.length + n ≤ R.length → ks.mergeSort leKy = S.map kyL ∧ ks.length ≤ S.length from fun l left ks n e1 e2 e3 e4 => coll_end hM e1 hA hp e2 e3 hs e4)
  have HRL := Lib.hid (show R.length ≤ 40 by have := hA.1.trans hp.length_eq; omega)
  have hbl := hM.lt
  have HBLT := Lib.hid hbl
  obtain ⟨hw, l, ho, hpm⟩ := hM
  have HPM := Lib.hid hpm
  have HO := Lib.hid ho
  have c1 := hB.cell 1
  simp at c1
  clear hw hpm ho hB h1 h2 hA hp h3 h4 h5 hF hbl
  go_enter Tryz.func32, Tryz.ntmps32
  go_wp2_with (first
    | (at_range; refine wpList_range_own _ rfl _ 72 rfl 48 44 keyed7 Tryz.underlying72 asIs b R.length _ rfl HO.out ?_; intro w0 hrg0 hg0 hs0)
    | go_in)
  go_frame
  have HG0 := Lib.hid hg0
  have HS0 := Lib.hid hs0
  clear hg0 hs0
  go_loopw [3] (fun s3 wr => ∃ (A : Option Addr) (n c : Nat) (ks : List Ky) (left : Lit → Bool) (cnt : Nat), s3 = .slice A n c ∧ Hid (wr.ranges Tryz.prog 48 asIs b w.heap.size R.length (.map l) left cnt) ∧ Hid (wr.ownsRow (w.heap.size + 1) 48 3 (.slice A n c) n (kyCells ks)) ∧ Hid (Below w.heap.size w wr) ∧ Hid (Coll (.map l) left ks) ∧ Hid (ks.length + cnt ≤ R.length) ∧ Hid (w.heap.size + 1 ≤ wr.heap.size))
    (fun _ wr => wr.rangeLeft b w.heap.size)
  case atStart =>
    have hsz : Maps.size (DataW.map l) = R.length := by
      rw [Maps.size_eq, HPM.out.length_eq, List.length_map]
    refine ⟨none, 0, 0, [], _, _, rfl, Lib.hid hrg0, Lib.hid (World.ownsRow_nil _ _ _ _), Lib.hid ?_, Lib.hid (Coll.start _), Lib.hid (by rw [hsz]; simp), Lib.hid (by have := HS0.out; omega)⟩
    exact ⟨HG0.out.os, HG0.out.tape, HG0.out.output, HG0.out.size, fun k hk => HG0.out.block k hk (by simp)⟩
  case round =>
    obtain ⟨A, n, c, ks, left, cnt, rfl, HRG, HOW, HBW, HC, HN, HZ⟩ := hrel
    go_wp2_with (first
      | (at_next; refine wpList_next_ranges _ rfl _ rfl 48 keyed7 asIs (fun k : Ky => .agg #[.int .i64 k.kind, .int .i64 k.id, .int .i64 k.adv]) (fun v : Value => v) (fun key kl hk => by obtain ⟨k, _, e, _⟩ := keyOf_ky_inv hk; exact ⟨k, e⟩) (fun v y _ => ⟨v, rfl⟩) b w.heap.size R.length _ _ _ rfl HRG.out ?_ ?_)
      | go_in)
    · intro _ hl0
      have HL0 := Lib.hid hl0
      clear hl0
      obtain ⟨e1, e2⟩ := HE.out l left ks cnt HPM.out HC.out HL0.out HN.out
      have hnk := HOW.out.1
      rw [kyCells_length] at hnk
      have HN1 := Lib.hid (show n ≤ 1000 by have := HRL.out; have := HN.out; omega)
      have HE1 := Lib.hid e1
      clear e1 e2 hnk
      go_wp2_with fail
      refine (sort_keys7 HOW.out HN1.out).mono ?_
      rintro e ws ⟨rfl, hos, hgs⟩
      rw [HE1.out] at hos
      have HOS := Lib.hid (own_low hos (Nat.le_succ _))
      have HBS := Lib.hid (HBW.out.grown hgs HBW.out.size (fun j hj => by have := (HOW.out.lt j hj).1; omega))
      clear hos hgs
      go_wp2
      show Q (.returned (.slice A n c)) ws
      rw [← HQ.out]
      exact ⟨A, n, c, rfl, HBS.out, HOS.out⟩
    · intro x cv kl yd yp w1 cnt1 hkey hlk hv hat hrg1 hlt hg1 hs1 hen
      obtain ⟨x', wx, ex, rfl⟩ := keyOf_ky_inv hkey
      obtain rfl : x = x' := by
        obtain ⟨a1, a2, a3⟩ := x
        obtain ⟨b1, b2, b3⟩ := x'
        simp at ex
        simp [ex]
      have HC2 := Lib.hid (HC.out.step wx hlk hat)
      have hnk := HOW.out.1
      rw [kyCells_length] at hnk
      have HN1 := Lib.hid (show n ≤ 1000 ∧ ks.length + 1 + cnt1 ≤ R.length ∧ ks.length = n by have := HRL.out; have := HN.out; omega)
      have HR1 := Lib.hid hrg1
      have HO1 := Lib.hid (HOW.out.kept hg1 (.inr (own_not HOW.out (.inl (Nat.lt_succ_self _)))))
      have HB1 := Lib.hid (HBW.out.grown hg1 HBW.out.size (fun j hj => by cases hj; exact Nat.le_refl _))
      have HZ1 := Lib.hid (show w.heap.size + 1 ≤ w1.heap.size by rw [hs1]; exact HZ.out)
      have HLT := Lib.hid hlt
      clear hkey hlk hv hat hrg1 hlt hg1 hs1 hnk ex
      go_wp2_with (first
        | (at_builtin; refine wpList_append_any rfl (.tmp 16) (.tmp 18) 53 48 (.agg #[.int .i64 0, .int .i64 0, .int .i64 0]) 3 24 Tryz.underlying53 Tryz.infoKey rfl (by decide) (by decide) rfl (w.heap.size + 1) (.slice A n c) n (kyCells ks) (by rfl) ((HO1.out.alloc _).alloc _) (some ⟨w1.heap.size + 1, 0, none⟩) 1 1 [.int .i64 x.kind, .int .i64 x.id, .int .i64 x.adv] (by rfl) (by rfl) (fun h => by cases h) (by have hn := news_new (w1.alloc (.cells #[.int .i64 x.kind, .int .i64 x.id, .int .i64 x.adv] 48)) 48 [.int .i64 x.kind, .int .i64 x.id, .int .i64 x.adv]; rwa [World.size_alloc] at hn) (fun u hu => kyCells_ones [x] u (by rw [kyCells_cons, List.mem_append]; exact .inl hu)) (by have := HN1.out; omega) (by have := HZ1.out; simp; omega) ?_; intro v2 w2 ho2 hg2)
        | go_in)
      obtain ⟨A2, c2, rfl⟩ := own_slice ho2.out
      have hg3 := hg2.out
      have ne1 : some b ≠ (Value.slice A n c).ownBlock := Ne.symm (own_not HO1.out (.inl (by have := HBLT.out; omega)))
      have ne2 : some w.heap.size ≠ (Value.slice A n c).ownBlock := Ne.symm (own_not HO1.out (.inl (Nat.lt_succ_self _)))
      have HR2 := Lib.hid (((HR1.out.alloc (.cells #[.int .i64 x.kind, .int .i64 x.id, .int .i64 x.adv] 48)).alloc (.cells #[.int .i64 x.kind, .int .i64 x.id, .int .i64 x.adv] 48)).kept hg3 ne1 ne2)
      have HB2 := Lib.hid (((HB1.out.alloc HB1.out.size (.cells #[.int .i64 x.kind, .int .i64 x.id, .int .i64 x.adv] 48)).alloc (by have := HB1.out.size; simp; omega) (.cells #[.int .i64 x.kind, .int .i64 x.id, .int .i64 x.adv] 48)).grown hg3 (by have := HB1.out.size; simp; omega) (fun j hj => by have := (HO1.out.lt j hj).1; omega))
      have HZ2 := Lib.hid (show w.heap.size + 1 ≤ w2.heap.size by have := hg3.size; have := HZ1.out; simp at *; omega)
      have HO2 := Lib.hid (show w2.ownsRow (w.heap.size + 1) 48 3 (.slice A2 (n + 1) c2) (n + 1) (kyCells (ks ++ [x])) by rw [kyCells_append]; exact ho2.out)
      clear hg3 ne1 ne2 ho2 hg2
      refine ⟨⟨A2, n + 1, c2, ks ++ [x], _, cnt1, rfl, HR2, HO2, HB2, HC2, Lib.hid (by have := HN1.out; simp; omega), HZ2⟩, ?_⟩
      rw [HR2.out.left_eq, HRG.out.left_eq]
      exact HLT.out
end Go.Proofs.YtfdfdmbnggpnbaaGreat
namespace Go.Proofs.YtfdfdmbnggpnbaaGreat
open Go.RowKit

/-- 'len(m)' as the next operation of a plain region's list. -/
theorem wpList_len7 {ops : Array Oper} {rest : List Oper} {o : Oper} {a : Act} {w : World} {Q : Exit → Act → World → Prop} {b : Nat} {R : List Rc} (hg : o.guard = none) (m : Operand) (hop : o.op = Op.call { callee := Callee.builtin Builtin.len, args := #[m], argTypes := #[72] })
    (hm : a.eval m = .map (some b)) (h : MapIs w b R) (hK : wpList Tryz.prog ops Q rest (a.put o.dst (.int .i64 (R.length : Int))) w) : wpList Tryz.prog ops Q (o :: rest) a w := by
  refine wpList_plain hg fun K' hK' => ?_
  unfold Oper.wp
  simp [execOp, hop, resolve, invoke, builtin, hm, h.len o.type, Result.andThen]
  exact hK' _ _ hK
set_option maxHeartbeats 2000000 in
theorem len_db {w : World} {lo p : Nat} {room : Int} {S : List La} {F : Nat → Prop} (h : PDb w lo p room S F) : Calls Tryz.prog 19 #[.pointer (some ⟨p, 0, none⟩)] w
    fun e w' => e = .returned (.int .i64 (S.length : Int)) ∧ Below w.heap.size w w' := by
  obtain ⟨b, R, T, hB, h1, h2, hM, hA, hp, -⟩ := h
  have c0 := hB.cell 0
  have c1 := hB.cell 1
  simp at c0 c1
  have hl : R.length = S.length := hA.1.trans hp.length_eq
  rw [← hl]
  have HM := Lib.hid hM
  clear hM hA hB hl
  go_enter Tryz.func19, Tryz.ntmps19
  go_wp2_with (at_len; refine wpList_len7 rfl _ rfl rfl HM.out ?_)
  go_ret
  exact ⟨rfl, Below.refl _ _⟩
set_option maxHeartbeats 2000000 in
theorem new_db (r : Int) (w : World) : Calls Tryz.prog 21 #[.int .i64 r] w fun e w' => ∃ (p : Nat) (F : Nat → Prop), e = .returned (.pointer (some ⟨p, 0, none⟩)) ∧ Below w.heap.size w w' ∧ PDb w' w.heap.size p (roomOf r) [] F := by
  have hmm := @run_makeMap Tryz.prog
  go_enter Tryz.func21, Tryz.ntmps21
  go_wp2
  have hr : min (max r 1) 40 = roomOf r := by
    unfold roomOf
    repeat' split
    all_goals omega
  rw [hr]
  go_ret
  refine ⟨w.heap.size + 1, fun q => q = w.heap.size + 1 ∨ q = w.heap.size, rfl, below_new2 _ _ _, w.heap.size, [], [], blk_new1 _ _ _ _, Nat.le_succ _, Nat.le_refl _, (MapIs.made w).alloc _, All2.nil, List.Perm.refl _, ?_, (roomOf_bd r).2, fun x hx => (by cases hx), fun q => ?_⟩
  · have := roomOf_bd r
    simp
    omega
  · simp
end Go.Proofs.YtfdfdmbnggpnbaaGreat
namespace Go.Proofs.YtfdfdmbnggpnbaaGreat
open Go.RowKit

/-- What a look-up answers, in whatever world has the map. -/
theorem look_both {w : World} {b : Nat} {R : List Rc} {T S : List La} {lo : Nat} (hA : All2 (RcIs w lo) R T) (hp : T.Perm S) (hs : SortL S) {k : Ky} (hk : wfKy k) :
    ∃ r0 : Rc, (∀ W, MapIs W b R → (Instr.lookup 72 (.map (some b)) (.agg #[.int .i64 k.kind, .int .i64 k.id, .int .i64 k.adv]) true).run Tryz.prog W = .ok (.tuple #[.agg #[.int .i64 r0.h.age, .int .i64 r0.h.kind, .int .i64 r0.h.id, .int .i64 r0.h.adv, .int .i64 r0.h.seq, .int .i64 r0.h.sum, .int .i64 r0.h.long, .slice r0.p.a r0.p.n r0.p.c, .slice r0.q.a r0.q.n r0.q.c], .bool (getL S k).isSome]) W) ∧
      ((getL S k = none ∧ r0 = ⟨⟨0, 0, 0, 0, 0, 0, 0⟩, ⟨none, 0, 0⟩, ⟨none, 0, 0⟩⟩) ∨ ∃ x, getL S k = some x ∧ RcIs w lo r0 x ∧ r0 ∈ R ∧ x ∈ S) := by
  rcases get_both (fun r x h => h.1) hA hp hs k with ⟨h1, h2⟩ | ⟨r, x, h1, h2, h3, h4, h5⟩
  · exact ⟨⟨⟨0, 0, 0, 0, 0, 0, 0⟩, ⟨none, 0, 0⟩, ⟨none, 0, 0⟩⟩, fun W hW => by rw [h2]; exact hW.look_none hk h1, .inl ⟨h2, rfl⟩⟩
  · exact ⟨r, fun W hW => by rw [h2]; exact (hW.look_some hk h1).1, .inr ⟨x, h2, h3, h4, h5⟩⟩
theorem keepDb {w0 w' : World} {b : Nat} {R : List Rc} (hM : MapIs w0 b R) (hb : Below w0.heap.size w0 w') : Below w0.heap.size w0 w' ∧ MapIs w' b R ∧ (∀ b o, b < w0.heap.size → w'.cell? ⟨b, o, none⟩ = w0.cell? ⟨b, o, none⟩) :=
  ⟨hb, hM.below hb hM.lt, fun _ _ hl => hb.cell (p := ⟨_, _, none⟩) hl⟩
end Go.Proofs.YtfdfdmbnggpnbaaGreat
