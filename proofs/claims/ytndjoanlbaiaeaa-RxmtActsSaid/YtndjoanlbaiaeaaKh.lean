/- Ranges over a set of keys, and over the map of neighbors; keys sorted; the program's Next. Conditions: at most 100000 keys, numbers of 64 bits. -/
import Derived.Test.YtndjoanlbaiaeaaGe
import Derived.Test.YtndjoanlbaiaeaaKg
import Derived.Test.YtndjoanlbaiaeaaJak
import Derived.Laws.IdiomRangeMap
namespace Go.Proofs.Ytndjoanlbaiaeaa
open Go.RowKit Go.Shelf Go.Lib Go.Sort Go.Deep
open Go.Maps (Keyed)

section
variable {w : World} {b m : Nat} {K : List Ky} {R : List Nb} {ops : Array Oper} {rest : List Oper} {o : Oper} {a : Act} {Q : Exit → Act → World → Prop}
theorem wpList_range_ky (h : InIs w b K) (hg : o.guard = none) (x : Operand) (hop : o.op = Op.range 55 x) (hm : a.eval x = .map (some b))
    (hK : ∀ D left w', w'.ranges Try.prog 34 asIs b w.heap.size K.length D left K.length → (∀ k ∈ K, left (kyLit k) = true) → w.grownBy w' none → w'.heap.size = w.heap.size + 1 → wpList Try.prog ops Q rest (a.put o.dst (.pointer (some ⟨w.heap.size, 0, none⟩))) w') : wpList Try.prog ops Q (o :: rest) a w := by
  have h0 : kyM.holds w b (K.map fun k => (k, Value.agg #[])) := h
  have ht : Try.prog.underlying 55 = some (.map kyM.kt 59) := Try.underlying55
  refine wpList_range_M kyM hg x 55 59 hop ht hm h0 fun D left cnt w' h1 h2 h3 h4 h5 => ?_
  rw [List.length_map] at h1 h3
  rw [h3] at h1
  exact hK D left w' h1 (fun k hk => h2 (k, .agg #[]) (List.mem_map.2 ⟨k, hk, rfl⟩)) h4 h5
theorem wpList_next_ky {r n cnt : Nat} {D : DataW Value} {left : Lit → Bool} (h : w.ranges Try.prog 34 asIs b r n D left cnt) (hE : InIs w b K) (hg : o.guard = none) (it : Operand) (hop : o.op = Op.next it false) (hit : a.eval it = .pointer (some ⟨r, 0, none⟩))
    (hDone : cnt = 0 → (∀ kl, left kl = false) → wpList Try.prog ops Q rest (a.put o.dst (.tuple #[.bool false])) w)
    (hMore : ∀ k ∈ K, ∀ w' cnt', left (kyLit k) = true → w'.ranges Try.prog 34 asIs b r n D (fun z => left z && !z.sameKey (kyLit k)) cnt' → cnt' < cnt → w.grownBy w' (some r) → w'.heap.size = w.heap.size → (Instr.entry (.pointer (some ⟨r, 0, none⟩))).run Try.prog w' = .ok (.tuple #[.agg #[.int .i64 k.kind, .int .i64 k.id, .int .i64 k.adv], .agg #[]]) w' → wpList Try.prog ops Q rest (a.put o.dst (.tuple #[.bool true, .agg #[.int .i64 k.kind, .int .i64 k.id, .int .i64 k.adv], .agg #[]])) w') : wpList Try.prog ops Q (o :: rest) a w := by
  refine wpList_next_M kyM hg it hop h hE hit hDone fun x hx => ?_
  obtain ⟨k, hk, rfl⟩ := List.mem_map.1 hx
  exact hMore k hk
theorem wpList_range_nb (h : OutIs w m R) (hg : o.guard = none) (x : Operand) (hop : o.op = Op.range 51 x) (hm : a.eval x = .map (some m))
    (hK : ∀ D left w', w'.ranges Try.prog 58 asIs m w.heap.size R.length D left R.length → (∀ r ∈ R, left (nbLit r.n) = true) → w.grownBy w' none → w'.heap.size = w.heap.size + 1 → wpList Try.prog ops Q rest (a.put o.dst (.pointer (some ⟨w.heap.size, 0, none⟩))) w') : wpList Try.prog ops Q (o :: rest) a w := by
  have h0 : nbM.holds w m (R.map fun r => (r.n, Value.map (some r.b))) := h
  have ht : Try.prog.underlying 51 = some (.map nbM.kt 55) := Try.underlying51
  refine wpList_range_M nbM hg x 51 55 hop ht hm h0 fun D left cnt w' h1 h2 h3 h4 h5 => ?_
  rw [List.length_map] at h1 h3
  rw [h3] at h1
  exact hK D left w' h1 (fun r hr => h2 (r.n, .map (some r.b)) (List.mem_map.2 ⟨r, hr, rfl⟩)) h4 h5
theorem wpList_next_nb {r n cnt : Nat} {D : DataW Value} {left : Lit → Bool} (h : w.ranges Try.prog 58 asIs m r n D left cnt) (hE : OutIs w m R) (hg : o.guard = none) (it : Operand) (hop : o.op = Op.next it false) (hit : a.eval it = .pointer (some ⟨r, 0, none⟩))
    (hDone : cnt = 0 → (∀ kl, left kl = false) → wpList Try.prog ops Q rest (a.put o.dst (.tuple #[.bool false])) w)
    (hMore : ∀ s ∈ R, ∀ w' cnt', left (nbLit s.n) = true → w'.ranges Try.prog 58 asIs m r n D (fun z => left z && !z.sameKey (nbLit s.n)) cnt' → cnt' < cnt → w.grownBy w' (some r) → w'.heap.size = w.heap.size → (Instr.entry (.pointer (some ⟨r, 0, none⟩))).run Try.prog w' = .ok (.tuple #[.agg #[.int .i64 s.n.1, .int .i64 s.n.2], .map (some s.b)]) w' → wpList Try.prog ops Q rest (a.put o.dst (.tuple #[.bool true, .agg #[.int .i64 s.n.1, .int .i64 s.n.2], .map (some s.b)])) w') : wpList Try.prog ops Q (o :: rest) a w := by
  refine wpList_next_M nbM hg it hop h hE hit hDone fun x hx => ?_
  obtain ⟨s, hs, rfl⟩ := List.mem_map.1 hx
  exact hMore s hs
end
theorem wpList_app_ky3 {wb : World} {ops : Array Oper} {rest : List Oper} {o : Oper} {a : Act} {Q : Exit → Act → World → Prop} (hgd : o.guard = none) (s x : Operand) (ho : o.op = .call { callee := .builtin .append, args := #[s, x], argTypes := #[30, 30] })
    {base n c : Nat} {A : Option Addr} {L : List Ky} (y : Ky) {g : Nat} (hgz : wb.heap.size = g) (hs : a.eval s = .slice A n c) (hx : a.eval x = .slice (some ⟨g, 0, none⟩) 1 1) (hown : wb.ownsRow base 34 3 (.slice A n c) n (kyCells L)) (hn : n ≤ 100000) (hbase : base ≤ wb.heap.size)
    (h : ∀ A' c' w', Hid (w'.ownsRow base 34 3 (.slice A' (n + 1) c') (n + 1) (kyCells (L ++ [y]))) → Hid (Chg (fun q => (Value.slice A n c).ownBlock = some q) wb w') → wpList Try.prog ops Q rest (a.put o.dst (.slice A' (n + 1) c')) w') : wpList Try.prog ops Q (o :: rest) a (wb.alloc (.cells #[.int .i64 y.kind, .int .i64 y.id, .int .i64 y.adv] 34)) := by
  subst hgz
  refine wpList_append_any hgd s x 30 34 (.agg #[.int .i64 0, .int .i64 0, .int .i64 0]) 3 24 Try.underlying30 infoKy rfl (by decide) (by decide) ho base (.slice A n c) n (kyCells L) hs (hown.alloc _) (some ⟨wb.heap.size, 0, none⟩) 1 1 [.int .i64 y.kind, .int .i64 y.id, .int .i64 y.adv] hx rfl (fun h => by cases h) (news_new wb 34 [.int .i64 y.kind, .int .i64 y.id, .int .i64 y.adv]) (fun u hu => kyCells_ones [y] u (by simpa [kyCells] using hu)) (by omega) (by simp; omega) ?_
  intro v2 w2 ho2 hg2
  obtain ⟨A2, c2, rfl⟩ := own_slice ho2.out
  refine h A2 c2 w2 (Lib.hid ?_) (Lib.hid ?_)
  · rw [kyCells_append, show kyCells [y] = [.int .i64 y.kind, .int .i64 y.id, .int .i64 y.adv] by simp [kyCells]]
    exact ho2.out
  · exact (Chg.of_below (F := fun q => (Value.slice A n c).ownBlock = some q) ((Below.refl wb.heap.size wb).alloc (Nat.le_refl _) (.cells #[.int .i64 y.kind, .int .i64 y.id, .int .i64 y.adv] 34))).trans (Chg.of_grown hg2.out (fun q hq => hq)) (fun q hq => .inl hq)
set_option maxHeartbeats 2000000 in
theorem sort_keysX {w : World} {base n c : Nat} {A : Option Addr} {K : List Ky} (ho : w.ownsRow base 34 3 (.slice A n c) n (kyCells K)) (hn : n ≤ 100000) :
    Calls Try.prog 30 #[.slice A n c, .func (.func 31) #[] #[]] w
      fun e w' => e = .returned (.tuple #[]) ∧ w'.ownsRow base 34 3 (.slice A n c) n (kyCells (K.mergeSort leKy)) ∧ w.grownBy w' (Value.slice A n c).ownBlock := by
  have hl := ho.1
  rw [kyCells_length] at hl
  have hlK : K.length = n := by omega
  rcases ho.2 with ⟨hv, hn0⟩ | ⟨g, cap, cur, hv, hbase, hb, h1, h2, h3, h4⟩
  · injection hv with e1 e2 e3
    subst e1 e2 e3
    have hK : K = [] := List.eq_nil_of_length_eq_zero hlK
    subst hK
    refine (AnyF.slices_SortFunc_none { sortKy7 with } none 0 (.func (.func 31) #[] #[]) w).mono ?_
    rintro e w' ⟨rfl, rfl⟩
    exact ⟨rfl, by simpa using ho, ⟨rfl, rfl, rfl, Nat.le_refl _, fun _ _ _ => rfl⟩⟩
  · cases hv
    have hF : (flatK encKy 3 K.toArray) = (kyCells K).toArray := flat_ky K
    have hH : HoldsK encKy 3 w g 0 K.toArray := by
      unfold HoldsK
      rw [hF]
      refine holds7 hb ?_
      rw [List.size_toArray, kyCells_length, hlK, h4]
    have hcon := AnyQ.slices_SortFunc_total sortKy7 3 Try.isAgg34 Try.sizeOf34 encKy (fun _ => rfl) (fun x v hv => by simp [encKy] at hv; rcases hv with rfl | rfl | rfl <;> rfl) cmpK swo_cmpK 31 #[] g 0 c K.toArray w enters_cmp7 (fun _ _ _ _ x y => compare7 x y _) hH (Array.getElem?_eq_some_iff.1 hb).1 (by simp; omega) (fun x y h1 h2 => by
      rw [ltOf_cmpK] at h1 h2
      refine Classical.byContradiction fun h => ?_
      exact absurd (lessKy_total h1 h) (by rw [h2]; decide))
    have hle : (fun x y => !(ltOf cmpK) y x) = leKy := by
      funext x y
      rw [ltOf_cmpK]
      rfl
    rw [hle] at hcon
    simp only [List.size_toArray, hlK] at hcon
    refine Calls.mono hcon ?_
    rintro e w' ⟨rfl, m, os, rfl⟩
    unfold sortWorldK putRowK
    rw [flat_ky]
    have hls : (kyCells (K.mergeSort leKy)).length = n * 3 := by rw [kyCells_length, List.length_mergeSort, hlK]
    refine ⟨rfl, ⟨hls, .inr ⟨g, c, _, rfl, hbase, heap_sorted7 _ hb, h1, h2, by simp [putCells, h3], ?_⟩⟩, grownBy_sorted7 _⟩
    have h5 := take_putCells7 (cur := cur) (F := (kyCells (K.mergeSort leKy)).toArray) (by
      simp [hls, h3]
      omega)
    simpa [hls] using h5
theorem sort_srt {ks : List Ky} (hn : ks.Nodup) : ks.mergeSort leKy = srtK ks := by
  have hp := List.mergeSort_perm ks leKy
  have h1 : (ks.mergeSort leKy).Pairwise (fun a b => leKy a b = true) := List.pairwise_mergeSort (fun a b c h1 h2 => by
    unfold leKy at *
    simp at *
    cases h : lessKy c a
    · rfl
    · have n1 : ¬ lessKy b a = true := by rw [h1]; decide
      have n2 : ¬ lessKy c b = true := by rw [h2]; decide
      rw [lessKy_iff] at n1 n2 h
      omega) (fun a b => by
    unfold leKy
    cases h : lessKy b a
    · rfl
    · cases h2 : lessKy a b
      · rfl
      · have := lessKy_trans h h2
        rw [lessKy_irrefl] at this
        cases this) ks
  have h2 : (ks.mergeSort leKy).Pairwise (· ≠ ·) := (hp.pairwise_iff (fun {_ _} hne => Ne.symm hne)).2 hn
  refine ky_ext (h1.imp₂ (fun a b e1 e2 => ?_) h2) (srt_all ks).1 (fun k => hp.mem_iff.trans ((srt_all ks).2 k).symm)
  unfold leKy at e1
  simp at e1
  exact lessKy_total e1 (Ne.symm e2)
/-- Keys collected so far. -/
def CollK (K : List Ky) (left : Lit → Bool) (ks : List Ky) : Prop := (∀ k ∈ ks, k ∈ K) ∧ ks.Nodup ∧ ∀ k ∈ K, (k ∈ ks ↔ left (kyLit k) = false)
theorem CollK.step {K ks : List Ky} {left : Lit → Bool} {w : World} {b : Nat} (hI : InIs w b K) (h : CollK K left ks) {x : Ky} (hx : x ∈ K) (hl : left (kyLit x) = true) : CollK K (fun z => left z && !z.sameKey (kyLit x)) (ks ++ [x]) := by
  have hw : ∀ k ∈ K, wfKy k := fun k hk => hI.1 (k, .agg #[]) (List.mem_map.2 ⟨k, hk, rfl⟩)
  obtain ⟨h1, h2, h3⟩ := h
  have hn : x ∉ ks := fun hm => by
    have := (h3 x hx).1 hm
    rw [hl] at this
    cases this
  refine ⟨fun k hk => ?_, List.nodup_append.2 ⟨h2, List.pairwise_singleton _ _, fun y hy z hz e => hn (by rw [← List.mem_singleton.1 hz, ← e]; exact hy)⟩, fun k hk => ?_⟩
  · rcases List.mem_append.1 hk with hk | hk
    · exact h1 k hk
    · rw [List.mem_singleton.1 hk]
      exact hx
  · rw [List.mem_append, List.mem_singleton]
    show k ∈ ks ∨ k = x ↔ (left (kyLit k) && !(kyLit k).sameKey (kyLit x)) = false
    rw [sameKey_ky (hw k hk) (hw x hx)]
    constructor
    · rintro (hk' | rfl)
      · rw [(h3 k hk).1 hk']
        rfl
      · rw [(sameKy_iff _ _).2 rfl, hl]
        rfl
    · intro e
      cases hs : sameKy k x
      · rw [hs] at e
        simp at e
        exact .inl ((h3 k hk).2 e)
      · exact .inr ((sameKy_iff _ _).1 hs)
/-- What Next answers. -/
def NextQ (K : List Ky) (w : World) (e : Ending) (w' : World) : Prop := ∃ (A : Option Addr) (m c : Nat), e = .returned (.slice A m c) ∧ Below w.heap.size w w' ∧ w'.ownsRow w.heap.size 34 3 (.slice A m c) m (kyCells ((srtK K).take 3))
theorem next_cut {w w' : World} {g : Nat} {A : Option Addr} {nn c m : Nat} {K : List Ky} (hb : Below g w w') (ho : w'.ownsRow g 34 3 (.slice A nn c) nn (kyCells (srtK K))) (hm : m ≤ nn) (hmd : m = 3 ∨ m = nn) (hm3 : m ≤ 3) (hg : g = w.heap.size) : NextQ K w (.returned (.slice A m c)) w' := by
  subst hg
  have hl := ho.1
  rw [kyCells_length] at hl
  refine ⟨A, m, c, rfl, hb, ?_⟩
  have e : (srtK K).take 3 = (srtK K).take m := by
    rcases hmd with e | e
    · rw [e]
    · rw [List.take_of_length_le (by omega), List.take_of_length_le (by omega)]
  rw [e, ← kyCells_take]
  rcases own_addr7 ho with ⟨rfl, rfl, rfl⟩ | ⟨g, rfl⟩
  · obtain rfl : m = 0 := by omega
    simpa using World.ownsRow_nil _ _ _ _
  · exact own_cutK ho hm
end Go.Proofs.Ytndjoanlbaiaeaa
