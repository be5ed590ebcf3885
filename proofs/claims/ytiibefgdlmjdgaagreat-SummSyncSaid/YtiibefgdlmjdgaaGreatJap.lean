/- The program's keys: the keys of all that a database holds, in order. Conditions: what the words say. · The program's keys. Conditions: what the words say. · The program's New, Len and Drop. Conditions: what the words say. · The program's Drop. Conditions: what the words say. · The program's All. Conditions: what the words say. · A tick, as what it makes of the list that a database holds, one by one: plain facts. No conditions. -/
import Derived.Deep.DeepCutAuto
import Derived.StillTailTactics
import Derived.Test.YtiibefgdlmjdgaaGreatJao
namespace Go.Proofs.YtiibefgdlmjdgaaGreat
open Go.RowKit
open Go.Maps (Keyed)

/-- Keys collected so far. -/
def Coll (D : DataW Value) (left : Lit → Bool) (ks : List Ky) : Prop :=
  (∀ k ∈ ks, wfKy k) ∧ ks.Pairwise (· ≠ ·) ∧ ∀ k, wfKy k → (k ∈ ks ↔ Maps.has D (kyLit k) = true ∧ left (kyLit k) = false)
theorem Coll.start (D : DataW Value) : Coll D (Maps.has D) [] :=
  ⟨fun k h => (by cases h), List.Pairwise.nil, fun k _ => ⟨fun h => (by cases h), fun h => by rw [h.1] at h; exact absurd h.2 (by decide)⟩⟩
theorem Coll.step {D : DataW Value} {left : Lit → Bool} {ks : List Ky} (h : Coll D left ks) {x : Ky} (hx : wfKy x) (hl : left (kyLit x) = true) {y : DataW Value} (hat : ∀ zd, D.atKey (kyLit x) zd = y) :
    Coll D (fun z => left z && !z.sameKey (kyLit x)) (ks ++ [x]) := by
  obtain ⟨h1, h2, h3⟩ := h
  have hh : Maps.has D (kyLit x) = true := Maps.has_true_of_atKey hat
  have hnx : x ∉ ks := fun hm => by
    have := ((h3 x hx).1 hm).2
    rw [hl] at this
    cases this
  refine ⟨fun k hk => ?_, ?_, fun k hk => ?_⟩
  · rcases List.mem_append.1 hk with hk | hk
    · exact h1 k hk
    · rw [List.mem_singleton.1 hk]
      exact hx
  · rw [List.pairwise_append]
    refine ⟨h2, List.pairwise_singleton _ _, fun a ha b hb e => ?_⟩
    rw [List.mem_singleton.1 hb] at e
    exact hnx (e ▸ ha)
  · rw [List.mem_append, List.mem_singleton]
    show k ∈ ks ∨ k = x ↔ _ ∧ (left (kyLit k) && !(kyLit k).sameKey (kyLit x)) = false
    rw [sameKey_ky hk hx]
    constructor
    · rintro (hk' | rfl)
      · obtain ⟨e1, e2⟩ := (h3 k hk).1 hk'
        exact ⟨e1, by rw [e2]; rfl⟩
      · exact ⟨hh, by rw [(sameKy_iff k k).2 rfl, hl]; rfl⟩
    · rintro ⟨e1, e2⟩
      cases hs : sameKy k x
      · rw [hs] at e2
        simp at e2
        exact .inl ((h3 k hk).2 ⟨e1, e2⟩)
      · exact .inr ((sameKy_iff _ _).1 hs)
theorem ky_ext : ∀ {A B : List Ky}, A.Pairwise (fun a b => lessKy a b = true) → B.Pairwise (fun a b => lessKy a b = true) → (∀ x, x ∈ A ↔ x ∈ B) → A = B
  | [], B, _, _, h => by
    cases B with
    | nil => rfl
    | cons y T => exact absurd ((h y).2 (by simp)) (by simp)
  | x :: S, [], _, _, h => absurd ((h x).1 (by simp)) (by simp)
  | x :: S, y :: T, hs, ht, h => by
    obtain ⟨hs1, hs2⟩ := List.pairwise_cons.1 hs
    obtain ⟨ht1, ht2⟩ := List.pairwise_cons.1 ht
    have hxy : x = y := by
      rcases List.mem_cons.1 ((h x).1 (by simp)) with e | hx
      · exact e
      · rcases List.mem_cons.1 ((h y).2 (by simp)) with e | hy
        · exact e.symm
        · have := lessKy_trans (ht1 x hx) (hs1 y hy)
          rw [lessKy_irrefl] at this
          cases this
    subst hxy
    congr 1
    refine ky_ext hs2 ht2 (fun z => ?_)
    constructor
    · intro hz
      rcases List.mem_cons.1 ((h z).1 (by simp [hz])) with e | hz'
      · subst e
        have := hs1 z hz
        rw [lessKy_irrefl] at this
        cases this
      · exact hz'
    · intro hz
      rcases List.mem_cons.1 ((h z).2 (by simp [hz])) with e | hz'
      · subst e
        have := ht1 z hz
        rw [lessKy_irrefl] at this
        cases this
      · exact hz'
/-- What was collected, sorted, is the keys of the database. -/
theorem coll_sorted {ks : List Ky} {S : List La} (hn : ks.Pairwise (· ≠ ·)) (hm : ∀ k, k ∈ ks ↔ k ∈ S.map kyL) (hs : SortL S) : ks.mergeSort leKy = S.map kyL := by
  have hp := List.mergeSort_perm ks leKy
  have h1 : (ks.mergeSort leKy).Pairwise (fun a b => leKy a b = true) := List.pairwise_mergeSort (fun a b c h1 h2 => by
    unfold leKy at *
    simp at *
    cases h : lessKy c a
    · rfl
    · have n1 : ¬ lessKy b a = true := by rw [h1]; decide
      have n2 : ¬ lessKy c b = true := by rw [h2]; decide
      rw [lessKy_iff] at n1 n2 h
      omega) (fun a b => by
    unfold leKy
    cases h : lessKy b a
    · rfl
    · cases h2 : lessKy a b
      · rfl
      · have := lessKy_trans h h2
        rw [lessKy_irrefl] at this
        cases this) ks
  have h2 : (ks.mergeSort leKy).Pairwise (· ≠ ·) := (hp.pairwise_iff (fun {_ _} hne => Ne.symm hne)).2 hn
  refine ky_ext (h1.imp₂ (fun a b e1 e2 => ?_) h2) ?_ (fun k => (hp.mem_iff).trans (hm k))
  · unfold leKy at e1
    simp at e1
    exact lessKy_total e1 (Ne.symm e2)
  · rw [List.pairwise_map]
    exact hs
theorem coll_end {w : World} {b n : Nat} {R : List Rc} {T S : List La} {l : List (Lit × DataW Value)} {left : Lit → Bool} {ks : List Ky} {lo : Nat} (hM : MapIs w b R) (hp : l.Perm (R.map rcE)) (hA : All2 (RcIs w lo) R T) (hT : T.Perm S) (hC : Coll (.map l) left ks) (hl0 : ∀ kl, left kl = false) (hs : SortL S) (hn : ks.length + n ≤ R.length) :
    ks.mergeSort leKy = S.map kyL ∧ ks.length ≤ S.length := by
  obtain ⟨h1, h2, h3⟩ := hC
  have hl : R.length = S.length := hA.1.trans hT.length_eq
  refine ⟨coll_sorted h2 (fun k => ?_) hs, by omega⟩
  have mem : (∃ r ∈ R, keyH r.h = k) ↔ k ∈ S.map kyL := by
    rw [List.mem_map]
    constructor
    · rintro ⟨r, hr, rfl⟩
      obtain ⟨x, hx, hq⟩ := all2_mem hA hr
      exact ⟨x, hT.mem_iff.1 hx, by unfold kyL; rw [hq.1]⟩
    · rintro ⟨x, hx, rfl⟩
      obtain ⟨j, hj⟩ := List.getElem?_of_mem (hT.mem_iff.2 hx)
      obtain ⟨r, hr, hq⟩ := hA.at' hj
      exact ⟨r, List.mem_of_getElem? hr, by unfold kyL; rw [hq.1]⟩
  rw [← mem]
  constructor
  · intro hk
    have hw := h1 k hk
    have hh := ((h3 k hw).1 hk).1
    cases hg : getR R k with
    | none =>
      have := ((map_at hM.1 hM.nodup hp hw).1 .nil hg).2
      rw [hh] at this
      cases this
    | some r => exact ⟨r, getR_some hg⟩
  · rintro ⟨r, hr, rfl⟩
    have hw := hM.1 r hr
    refine (h3 _ hw).2 ⟨?_, hl0 _⟩
    cases hg : getR R (keyH r.h) with
    | none => exact absurd rfl (getR_none hg r hr)
    | some r' => exact ((map_at hM.1 hM.nodup hp hw).2 r' .nil hg).2
end Go.Proofs.YtiibefgdlmjdgaaGreat
namespace Go.Proofs.YtiibefgdlmjdgaaGreat
open Go.RowKit
open Go.Maps (Keyed)

set_option maxRecDepth 20000 in
set_option maxHeartbeats 8000000 in
theorem keys_db {w : World} {lo p : Nat} {room : Int} {S : List La} {F : Nat → Prop} (h : PDb w lo p room S F) (hs : SortL S) : Calls Tryz.prog 33 #[.pointer (some ⟨p, 0, none⟩)] w
    fun e w' => ∃ (A : Option Addr) (n c : Nat), e = .returned (.slice A n c) ∧ Below w.heap.size w w' ∧ w'.ownsRow w.heap.size 48 3 (.slice A n c) n (kyCells (S.map kyL)) := by
  obtain ⟨b, R, T, hB, h1, h2, hM, hA, hp, h3, h4, h5, hF⟩ := h
  generalize hQ : (fun (e : Ending) (w' : World) => ∃ (A : Option Addr) (n c : Nat), e = .returned (.slice A n c) ∧ Below w.heap.size w w' ∧ w'.ownsRow w.heap.size 48 3 (.slice A n c) n (kyCells (S.map kyL))) = Q
  have HQ := Lib.hid hQ
  clear hQ
  have HE := Lib.hid (show ∀ (l : List (Lit × DataW Value)) (left : Lit → Bool) (ks : List Ky) (n : Nat), l.Perm (R.map rcE) → Coll (.map l) left ks → (∀ kl, left kl = false) → ks.length + n ≤ R.length → ks.mergeSort leKy = S.map kyL ∧ ks.length ≤ S.length from fun l left ks n e1 e2 e3 e4 => coll_end hM e1 hA hp e2 e3 hs e4)
  have HRL := Lib.hid (show R.length ≤ 40 by have := hA.1.trans hp.length_eq; omega)
  have hbl := hM.lt
  have HBLT := Lib.hid hbl
  obtain ⟨hw, l, ho, hpm⟩ := hM
  have HPM := Lib.hid hpm
  have HO := Lib.hid ho
  have c1 := hB.cell 1
  simp at c1
  clear hw hpm ho hB h1 h2 hA hp h3 h4 h5 hF hbl
  go_enter Tryz.func33, Tryz.ntmps33
  go_wp2_with (first
    | (at_range; refine wpList_range_own _ rfl _ 73 rfl 48 44 keyed7 Tryz.underlying73 asIs b R.length _ rfl HO.out ?_; intro w0 hrg0 hg0 hs0)
    | go_in)
  go_frame
  have HG0 := Lib.hid hg0
  have HS0 := Lib.hid hs0
  clear hg0 hs0
  go_loopw [3] (fun s3 wr => ∃ (A : Option Addr) (n c : Nat) (ks : List Ky) (left : Lit → Bool) (cnt : Nat), s3 = .slice A n c ∧ Hid (wr.ranges Tryz.prog 48 asIs b w.heap.size R.length (.map l) left cnt) ∧ Hid (wr.ownsRow (w.heap.size + 1) 48 3 (.slice A n c) n (kyCells ks)) ∧ Hid (Below w.heap.size w wr) ∧ Hid (Coll (.map l) left ks) ∧ Hid (ks.length + cnt ≤ R.length) ∧ Hid (w.heap.size + 1 ≤ wr.heap.size))
    (fun _ wr => wr.rangeLeft b w.heap.size)
  case atStart =>
    have hsz : Maps.size (DataW.map l) = R.length := by
      rw [Maps.size_eq, HPM.out.length_eq, List.length_map]
    refine ⟨none, 0, 0, [], _, _, rfl, Lib.hid hrg0, Lib.hid (World.ownsRow_nil _ _ _ _), Lib.hid ?_, Lib.hid (Coll.start _), Lib.hid (by rw [hsz]; simp), Lib.hid (by have := HS0.out; omega)⟩
    exact ⟨HG0.out.os, HG0.out.tape, HG0.out.output, HG0.out.size, fun k hk => HG0.out.block k hk (by simp)⟩
  case round =>
    obtain ⟨A, n, c, ks, left, cnt, rfl, HRG, HOW, HBW, HC, HN, HZ⟩ := hrel
    go_wp2_with (first
      | (at_next; refine wpList_next_ranges _ rfl _ rfl 48 keyed7 asIs (fun k : Ky => .agg #[.int .i64 k.kind, .int .i64 k.id, .int .i64 k.adv]) (fun v : Value => v) (fun key kl hk => by obtain ⟨k, _, e, _⟩ := keyOf_ky_inv hk; exact ⟨k, e⟩) (fun v y _ => ⟨v, rfl⟩) b w.heap.size R.length _ _ _ rfl HRG.out ?_ ?_)
      | go_in)
    · intro _ hl0
      have HL0 := Lib.hid hl0
      clear hl0
      obtain ⟨e1, e2⟩ := HE.out l left ks cnt HPM.out HC.out HL0.out HN.out
      have hnk := HOW.out.1
      rw [kyCells_length] at hnk
      have HN1 := Lib.hid (show n ≤ 1000 by have := HRL.out; have := HN.out; omega)
      have HE1 := Lib.hid e1
      clear e1 e2 hnk
      go_wp2_with fail
      refine (sort_keys7 HOW.out HN1.out).mono ?_
      rintro e ws ⟨rfl, hos, hgs⟩
      rw [HE1.out] at hos
      have HOS := Lib.hid (own_low hos (Nat.le_succ _))
      have HBS := Lib.hid (HBW.out.grown hgs HBW.out.size (fun j hj => by have := (HOW.out.lt j hj).1; omega))
      clear hos hgs
      go_wp2
      show Q (.returned (.slice A n c)) ws
      rw [← HQ.out]
      exact ⟨A, n, c, rfl, HBS.out, HOS.out⟩
    · intro x cv kl yd yp w1 cnt1 hkey hlk hv hat hrg1 hlt hg1 hs1 hen
      obtain ⟨x', wx, ex, rfl⟩ := keyOf_ky_inv hkey
      obtain rfl : x = x' := by
        obtain ⟨a1, a2, a3⟩ := x
        obtain ⟨b1, b2, b3⟩ := x'
        simp at ex
        simp [ex]
      have HC2 := Lib.hid (HC.out.step wx hlk hat)
      have hnk := HOW.out.1
      rw [kyCells_length] at hnk
      have HN1 := Lib.hid (show n ≤ 1000 ∧ ks.length + 1 + cnt1 ≤ R.length ∧ ks.length = n by have := HRL.out; have := HN.out; omega)
      have HR1 := Lib.hid hrg1
      have HO1 := Lib.hid (HOW.out.kept hg1 (.inr (own_not HOW.out (.inl (Nat.lt_succ_self _)))))
      have HB1 := Lib.hid (HBW.out.grown hg1 HBW.out.size (fun j hj => by cases hj; exact Nat.le_refl _))
      have HZ1 := Lib.hid (show w.heap.size + 1 ≤ w1.heap.size by rw [hs1]; exact HZ.out)
      have HLT := Lib.hid hlt
      clear hkey hlk hv hat hrg1 hlt hg1 hs1 hnk ex
      go_wp2_with (first
        | (at_builtin; refine wpList_append_any rfl (.tmp 16) (.tmp 18) 53 48 (.agg #[.int .i64 0, .int .i64 0, .int .i64 0]) 3 24 Tryz.underlying53 Tryz.infoKey rfl (by decide) (by decide) rfl (w.heap.size + 1) (.slice A n c) n (kyCells ks) (by rfl) ((HO1.out.alloc _).alloc _) (some ⟨w1.heap.size + 1, 0, none⟩) 1 1 [.int .i64 x.kind, .int .i64 x.id, .int .i64 x.adv] (by rfl) (by rfl) (fun h => by cases h) (by have hn := news_new (w1.alloc (.cells #[.int .i64 x.kind, .int .i64 x.id, .int .i64 x.adv] 48)) 48 [.int .i64 x.kind, .int .i64 x.id, .int .i64 x.adv]; rwa [World.size_alloc] at hn) (fun u hu => kyCells_ones [x] u (by rw [kyCells_cons, List.mem_append]; exact .inl hu)) (by have := HN1.out; omega) (by have := HZ1.out; simp; omega) ?_; intro v2 w2 ho2 hg2)
        | go_in)
      obtain ⟨A2, c2, rfl⟩ := own_slice ho2.out
      have hg3 := hg2.out
      have ne1 : some b ≠ (Value.slice A n c).ownBlock := Ne.symm (own_not HO1.out (.inl (by have := HBLT.out; omega)))
      have ne2 : some w.heap.size ≠ (Value.slice A n c).ownBlock := Ne.symm (own_not HO1.out (.inl (Nat.lt_succ_self _)))
      have HR2 := Lib.hid (((HR1.out.alloc (.cells #[.int .i64 x.kind, .int .i64 x.id, .int .i64 x.adv] 48)).alloc (.cells #[.int .i64 x.kind, .int .i64 x.id, .int .i64 x.adv] 48)).kept hg3 ne1 ne2)
      have HB2 := Lib.hid (((HB1.out.alloc HB1.out.size (.cells #[.int .i64 x.kind, .int .i64 x.id, .int .i64 x.adv] 48)).alloc (by have := HB1.out.size; simp; omega) (.cells #[.int .i64 x.kind, .int .i64 x.id, .int .i64 x.adv] 48)).grown hg3 (by have := HB1.out.size; simp; omega) (fun j hj => by have := (HO1.out.lt j hj).1; omega))
      have HZ2 := Lib.hid (show w.heap.size + 1 ≤ w2.heap.size by have := hg3.size; have := HZ1.out; simp at *; omega)
      have HO2 := Lib.hid (show w2.ownsRow (w.heap.size + 1) 48 3 (.slice A2 (n + 1) c2) (n + 1) (kyCells (ks ++ [x])) by rw [kyCells_append]; exact ho2.out)
      clear hg3 ne1 ne2 ho2 hg2
      refine ⟨⟨A2, n + 1, c2, ks ++ [x], _, cnt1, rfl, HR2, HO2, HB2, HC2, Lib.hid (by have := HN1.out; simp; omega), HZ2⟩, ?_⟩
      rw [HR2.out.left_eq, HRG.out.left_eq]
      exact HLT.out
end Go.Proofs.YtiibefgdlmjdgaaGreat
namespace Go.Proofs.YtiibefgdlmjdgaaGreat
open Go.RowKit

/-- 'len(m)' as the next operation of a plain region's list. -/
theorem wpList_len7 {ops : Array Oper} {rest : List Oper} {o : Oper} {a : Act} {w : World} {Q : Exit → Act → World → Prop} {b : Nat} {R : List Rc} (hg : o.guard = none) (m : Operand) (hop : o.op = Op.call { callee := Callee.builtin Builtin.len, args := #[m], argTypes := #[73] })
    (hm : a.eval m = .map (some b)) (h : MapIs w b R) (hK : wpList Tryz.prog ops Q rest (a.put o.dst (.int .i64 (R.length : Int))) w) : wpList Tryz.prog ops Q (o :: rest) a w := by
  refine wpList_plain hg fun K' hK' => ?_
  unfold Oper.wp
  simp [execOp, hop, resolve, invoke, builtin, hm, h.len o.type, Result.andThen]
  exact hK' _ _ hK
set_option maxHeartbeats 2000000 in
theorem len_db {w : World} {lo p : Nat} {room : Int} {S : List La} {F : Nat → Prop} (h : PDb w lo p room S F) : Calls Tryz.prog 19 #[.pointer (some ⟨p, 0, none⟩)] w
    fun e w' => e = .returned (.int .i64 (S.length : Int)) ∧ Below w.heap.size w w' := by
  obtain ⟨b, R, T, hB, h1, h2, hM, hA, hp, -⟩ := h
  have c0 := hB.cell 0
  have c1 := hB.cell 1
  simp at c0 c1
  have hl : R.length = S.length := hA.1.trans hp.length_eq
  rw [← hl]
  have HM := Lib.hid hM
  clear hM hA hB hl
  go_enter Tryz.func19, Tryz.ntmps19
  go_wp2_with (at_len; refine wpList_len7 rfl _ rfl rfl HM.out ?_)
  go_ret
  exact ⟨rfl, Below.refl _ _⟩
set_option maxHeartbeats 2000000 in
theorem new_db (r : Int) (w : World) : Calls Tryz.prog 21 #[.int .i64 r] w fun e w' => ∃ (p : Nat) (F : Nat → Prop), e = .returned (.pointer (some ⟨p, 0, none⟩)) ∧ Below w.heap.size w w' ∧ PDb w' w.heap.size p (roomOf r) [] F := by
  have hmm := @run_makeMap Tryz.prog
  go_enter Tryz.func21, Tryz.ntmps21
  go_wp2
  have hr : min (max r 1) 40 = roomOf r := by
    unfold roomOf
    repeat' split
    all_goals omega
  rw [hr]
  go_ret
  refine ⟨w.heap.size + 1, fun q => q = w.heap.size + 1 ∨ q = w.heap.size, rfl, below_new2 _ _ _, w.heap.size, [], [], blk_new1 _ _ _ _, Nat.le_succ _, Nat.le_refl _, (MapIs.made w).alloc _, All2.nil, List.Perm.refl _, ?_, (roomOf_bd r).2, fun x hx => (by cases hx), fun q => ?_⟩
  · have := roomOf_bd r
    simp
    omega
  · simp
end Go.Proofs.YtiibefgdlmjdgaaGreat
namespace Go.Proofs.YtiibefgdlmjdgaaGreat
open Go.RowKit

/-- 'delete(m, k)' as the next operation of a plain region's list. -/
theorem wpList_delete7 {ops : Array Oper} {rest : List Oper} {o : Oper} {a : Act} {w : World} {Q : Exit → Act → World → Prop} {b : Nat} {R : List Rc} {k : Ky} (hg : o.guard = none) (m x : Operand) (hop : o.op = Op.call { callee := Callee.builtin Builtin.delete, args := #[m, x], argTypes := #[73, 48] })
    (hm : a.eval m = .map (some b)) (hx : a.eval x = .agg #[.int .i64 k.kind, .int .i64 k.id, .int .i64 k.adv]) (h : MapIs w b R) (hk : wfKy k) (hK : ∀ w', MapIs w' b (restR R k) → w.mapTurned w' b → wpList Tryz.prog ops Q rest (a.put o.dst (.tuple #[])) w') : wpList Tryz.prog ops Q (o :: rest) a w := by
  refine wpList_plain hg fun K' hK' => ?_
  obtain ⟨w', hrun, r1, r2⟩ := h.drop hk o.type
  unfold Oper.wp
  simp [execOp, hop, resolve, invoke, builtin, hm, hx, hrun, Result.andThen]
  exact hK' _ _ (hK w' r1 r2)
/-- What a look-up answers, in whatever world has the map. -/
theorem look_both {w : World} {b : Nat} {R : List Rc} {T S : List La} {lo : Nat} (hA : All2 (RcIs w lo) R T) (hp : T.Perm S) (hs : SortL S) {k : Ky} (hk : wfKy k) :
    ∃ r0 : Rc, (∀ W, MapIs W b R → (Instr.lookup 73 (.map (some b)) (.agg #[.int .i64 k.kind, .int .i64 k.id, .int .i64 k.adv]) true).run Tryz.prog W = .ok (.tuple #[.agg #[.int .i64 r0.h.age, .int .i64 r0.h.kind, .int .i64 r0.h.id, .int .i64 r0.h.adv, .int .i64 r0.h.seq, .int .i64 r0.h.sum, .int .i64 r0.h.long, .slice r0.p.a r0.p.n r0.p.c, .slice r0.q.a r0.q.n r0.q.c], .bool (getL S k).isSome]) W) ∧
      ((getL S k = none ∧ r0 = ⟨⟨0, 0, 0, 0, 0, 0, 0⟩, ⟨none, 0, 0⟩, ⟨none, 0, 0⟩⟩) ∨ ∃ x, getL S k = some x ∧ RcIs w lo r0 x ∧ r0 ∈ R ∧ x ∈ S) := by
  rcases get_both (fun r x h => h.1) hA hp hs k with ⟨h1, h2⟩ | ⟨r, x, h1, h2, h3, h4, h5⟩
  · exact ⟨⟨⟨0, 0, 0, 0, 0, 0, 0⟩, ⟨none, 0, 0⟩, ⟨none, 0, 0⟩⟩, fun W hW => by rw [h2]; exact hW.look_none hk h1, .inl ⟨h2, rfl⟩⟩
  · exact ⟨r, fun W hW => by rw [h2]; exact (hW.look_some hk h1).1, .inr ⟨x, h2, h3, h4, h5⟩⟩
theorem keepDb {w0 w' : World} {b : Nat} {R : List Rc} (hM : MapIs w0 b R) (hb : Below w0.heap.size w0 w') : Below w0.heap.size w0 w' ∧ MapIs w' b R ∧ (∀ b o, b < w0.heap.size → w'.cell? ⟨b, o, none⟩ = w0.cell? ⟨b, o, none⟩) :=
  ⟨hb, hM.below hb hM.lt, fun _ _ hl => hb.cell (p := ⟨_, _, none⟩) hl⟩
end Go.Proofs.YtiibefgdlmjdgaaGreat
namespace Go.Proofs.YtiibefgdlmjdgaaGreat
open Go.RowKit

/-- A list of keys of the call's own, item j of it. -/
theorem own_ky {w : World} {base n : Nat} {A : Option Addr} {c : Nat} {K : List Ky} (h : w.ownsRow base 48 3 (.slice A n c) n (kyCells K)) {j : Nat} {k : Ky} (hj : K[j]? = some k) :
    ∃ g, A = some ⟨g, 0, none⟩ ∧ base ≤ g ∧ g < w.heap.size ∧ n ≤ c ∧ c ≤ maxLen ∧ w.cell? ⟨g, j * 3, none⟩ = some (.int .i64 k.kind) ∧ w.cell? ⟨g, j * 3 + 1, none⟩ = some (.int .i64 k.id) ∧ w.cell? ⟨g, j * 3 + 2, none⟩ = some (.int .i64 k.adv) := by
  have hl := h.1
  rw [kyCells_length] at hl
  have hjl := (List.getElem?_eq_some_iff.1 hj).1
  rcases h.2 with ⟨_, hn⟩ | ⟨g, cap, cur, hv, hb, hg, h1, h2, h3, h4⟩
  · omega
  · cases hv
    have hat : ∀ i, i < 3 → w.cell? ⟨g, j * 3 + i, none⟩ = (encKy k)[i]? := fun i hi => by
      have hB : Blk w g 48 cur := hg
      have e := kyCells_at K j k hj i hi
      rw [hB.cell]
      rw [show (encKy k)[i]? = (kyCells K)[j * 3 + i]? from e.symm, ← h4, List.getElem?_take, if_pos (by omega)]
      simp
    exact ⟨g, rfl, hb, (Array.getElem?_eq_some_iff.1 hg).1, h1, h2, hat 0 (by omega), hat 1 (by omega), hat 2 (by omega)⟩
theorem all2_snoc {α β : Type} {P : α → β → Prop} {R : List α} {S : List β} (h : All2 P R S) {r : α} {x : β} (hx : P r x) : All2 P (R ++ [r]) (S ++ [x]) := by
  induction R generalizing S with
  | nil =>
    cases S with
    | nil => exact All2.cons hx All2.nil
    | cons y S => have := h.1; simp at this
  | cons r' R ih =>
    cases S with
    | nil => have := h.1; simp at this
    | cons y S => exact All2.cons h.head.1 (ih h.head.2)
/-- The one of item j. -/
theorem item_db {w : World} {lo : Nat} {R : List Rc} {T S : List La} (hA : All2 (RcIs w lo) R T) (hp : T.Perm S) (hs : SortL S) (h5 : ∀ x ∈ S, rightB x.h x.L x.M = true) {x : La} (hx : x ∈ S) :
    ∃ r0, getR R (kyL x) = some r0 ∧ RcIs w lo r0 x ∧ r0.p.n ≤ 1000 ∧ r0.q.n ≤ 1000 ∧ wfKy (kyL x) := by
  rcases get_both (fun r y h => h.1) hA hp hs (kyL x) with ⟨h1, h2⟩ | ⟨r, y, h1, h2, h3, h4, h6⟩
  · rw [getL_mem hs hx] at h2
    cases h2
  · rw [getL_mem hs hx] at h2
    cases h2
    obtain ⟨e1, e2⟩ := rc_short h3 (h5 x hx)
    exact ⟨r, h1, h3, e1, e2, wfKy_right (h5 x hx)⟩
theorem step_append_g8 {ops : Array Oper} {o : Oper} {a : Act} {w : World} {K : Act → World → Prop} {Q : Exit → Act → World → Prop} {E : Prop} (hgd : o.guard = none) (s x : Operand) (t e : TypeId) (z : Value) (size bytes : Nat)
    (ht : Tryz.prog.underlying t = some (.slice e)) (hinfo : (Tryz.prog.info? e).map (fun i => (i.zero, i.size, i.bytes)) = some (some z, size, bytes)) (hzs : z.cells.size = size) (hsz : 0 < size) (hby : bytes ≤ 1024)
    (ho : o.op = .call { callee := .builtin .append, args := #[s, x], argTypes := #[t, t] }) (base : Nat) (v : Value) (n : Nat) (xs : List Value) (hs : a.eval s = v) (hown : w.ownsRow base e size v n xs)
    (b : Nat) (news : List Value) (hx : a.eval x = .slice (some ⟨b, 0, none⟩) 1 1) (hl : news.length = size) (hb : Blk w b e news.toArray) (h1 : ∀ u ∈ news, u.oneCell' = true) (hn : n ≤ 1048576) (hbase : base ≤ w.heap.size)
    (hK : ∀ v' w', Hid (w'.ownsRow base e size v' (n + 1) (xs ++ news)) → Hid (w.grownBy w' v.ownBlock) → Hid (v'.ownBlock = v.ownBlock ∨ v'.ownBlock = some w.heap.size) → K (a.put o.dst v') w') : if Region.wanted o (yielded ops a.tmps) = true then Oper.wp Tryz.prog o a w K Q else E := by
  have hw : Region.wanted o (yielded ops a.tmps) = true := by simp [Region.wanted, hgd]
  rw [if_pos hw]
  obtain ⟨i0, hi, hz0, hz1, hz2⟩ := info_parts hinfo
  have hnews : ∀ j u, news[j]? = some u → w.cell? ((⟨b, 0, none⟩ : Addr).add j) = some u := by
    intro j u hu
    rw [addr_add, hb.cell, Nat.zero_add, List.getElem?_toArray]
    exact hu
  have hbb : (n + 1) * bytes ≤ 1048577 * 1024 := Nat.mul_le_mul (by omega) hby
  obtain ⟨v', w', hrun, h2, h3, h4⟩ := run_append_own_at (P := Tryz.prog) w base t o.type e i0 z size bytes ht hi hz0 hz1 hz2 hzs hsz v n xs hown ⟨b, 0, none⟩ 1 1 news (by omega) hnews h1 (by unfold maxLen; omega) (by omega) hbase
  unfold Oper.wp execOp
  simp only [ho, resolve, invoke, builtin, Sem.run_bind, Sem.run_pure, Result.andThen_ok, List.map_toArray, List.map_cons, List.map_nil, hs, hx, hrun]
  exact hK v' w' h2 h3 h4.2


theorem fresh8 {w : World} {lo : Nat} {r : Rc} {x : La} (h : RcIs w lo r x) (hp : r.p.n ≤ 1000) (hq : r.q.n ≤ 1000) : Calls Tryz.prog 34 #[.agg #[.int .i64 r.h.age, .int .i64 r.h.kind, .int .i64 r.h.id, .int .i64 r.h.adv, .int .i64 r.h.seq, .int .i64 r.h.sum, .int .i64 r.h.long, .slice r.p.a r.p.n r.p.c, .slice r.q.a r.q.n r.q.c]] w
    fun e w' => ∃ r3 : Rc, e = .returned (.agg #[.int .i64 r3.h.age, .int .i64 r3.h.kind, .int .i64 r3.h.id, .int .i64 r3.h.adv, .int .i64 r3.h.seq, .int .i64 r3.h.sum, .int .i64 r3.h.long, .slice r3.p.a r3.p.n r3.p.c, .slice r3.q.a r3.q.n r3.q.c]) ∧ Below w.heap.size w w' ∧ RcIs w' w.heap.size r3 x :=
  (fresh7 h hp hq).mono fun _ _ ⟨r', h1, h2, h3, _⟩ => ⟨r', h1, h2, h3⟩
theorem keepAll {w0 w' : World} {b p gk : Nat} {R : List Rc} {F : Nat → Prop} {t t2 : TypeId} {v0 v1 k0 k1 k2 : Value} (hM : MapIs w0 b R) (hB : Blk w0 p t #[v0, v1]) (hk : Blk w0 gk t2 #[k0, k1, k2]) (nb : ¬ F b) (np : ¬ F p) (nk : ¬ F gk) (hc : Chg F w0 w') :
    Chg F w0 w' ∧ MapIs w' b R ∧ w'.cell? ⟨p, 1, none⟩ = some v1 ∧ w'.cell? ⟨gk, 0, none⟩ = some k0 ∧ w'.cell? ⟨gk, 1, none⟩ = some k1 ∧ w'.cell? ⟨gk, 2, none⟩ = some k2 := by
  obtain ⟨e0, e1, e2⟩ := (hk.chg hc nk).three
  exact ⟨hc, hM.chg hc nb, (hB.chg hc np).cell 1, e0, e1, e2⟩
theorem rcCells_ones1 (r : Rc) : ∀ u ∈ r.cells, u.oneCell' = true := fun u hu => rcCells_ones [r] u (by rw [rcCells_cons, List.mem_append]; exact .inl hu)
/-- A round's end: one more in the list. -/
theorem all_end {w1 wr w2 w3 w4 : World} {A A2 : Option Addr} {j c c2 : Nat} {R' : List Rc} {S : List La} {r3 : Rc} {x : La} {o : Obj} (hO : wr.ownsRow w1.heap.size 44 9 (.slice A j c) j (rcCells R')) (hA : All2 (RcIs wr w1.heap.size) R' (S.take j)) (hB : Below w1.heap.size w1 wr) (h2 : Below wr.heap.size wr w2) (h3 : Below w2.heap.size w2 w3) (hr : RcIs w3 w2.heap.size r3 x) (hg : (w3.alloc o).grownBy w4 (Value.slice A j c).ownBlock) (hx : S[j]? = some x)
    (ho4 : w4.ownsRow w1.heap.size 44 9 (.slice A2 (j + 1) c2) (j + 1) (rcCells R' ++ r3.cells)) :
    Hid (w4.ownsRow w1.heap.size 44 9 (.slice A2 (j + 1) c2) (j + 1) (rcCells (R' ++ [r3]))) ∧ Hid (All2 (RcIs w4 w1.heap.size) (R' ++ [r3]) (S.take (j + 1))) ∧ Hid (Below w1.heap.size w1 w4) := by
  have hz1 := hB.size
  have hz2 := h2.size
  have b23 : Below wr.heap.size wr w3 := h2.trans (h3.mono hz2)
  have b3 : Below wr.heap.size wr (w3.alloc o) := b23.alloc b23.size o
  have hlt : ∀ q, (Value.slice A j c).ownBlock = some q → w1.heap.size ≤ q ∧ q < wr.heap.size := fun q hq => hO.lt q hq
  have hc : Chg (fun q => (Value.slice A j c).ownBlock = some q) wr w4 := (Chg.of_below (F := fun q => (Value.slice A j c).ownBlock = some q) b3).trans (Chg.of_grown hg (fun q hq => hq)) (fun q hq => .inl hq)
  have hc3 : Chg (fun q => (Value.slice A j c).ownBlock = some q) w3 w4 := (Chg.of_below (F := fun q => (Value.slice A j c).ownBlock = some q) ((Below.refl w3.heap.size w3).alloc (Nat.le_refl _) o)).trans (Chg.of_grown hg (fun q hq => hq)) (fun q hq => .inl hq)
  refine ⟨Lib.hid ?_, Lib.hid ?_, Lib.hid ?_⟩
  · rw [rcCells_append]
    have e : rcCells [r3] = r3.cells := by simp [rcCells]
    rw [e]
    exact ho4
  · have ht : S.take (j + 1) = S.take j ++ [x] := by
      rw [List.take_add_one, hx]
      rfl
    rw [ht]
    refine all2_snoc (all2_imp hA (fun r _ y hy => hy.chg hc (fun q hq => hy.apart hO hq))) ((hr.chg hc3 (fun q hq he => ?_)).mono (by omega))
    have h6 := (hr.foot hq).1
    have h7 := (hlt q he).2
    omega
  · exact hB.trans (b3.mono hz1) |>.grown hg (by have := b3.size; omega) (fun q hq => (hlt q hq).1)
set_option maxRecDepth 8000 in
set_option maxHeartbeats 8000000 in
theorem all_db {w : World} {lo p : Nat} {room : Int} {S : List La} {F : Nat → Prop} (h : PDb w lo p room S F) (hs : SortL S) : Calls Tryz.prog 13 #[.pointer (some ⟨p, 0, none⟩)] w
    fun e w' => ∃ (A : Option Addr) (n c : Nat) (R : List Rc), e = .returned (.slice A n c) ∧ Below w.heap.size w w' ∧ w'.ownsRow w.heap.size 44 9 (.slice A n c) n (rcCells R) ∧ All2 (RcIs w' w.heap.size) R S := by
  have HK := Lib.hid (keys_db h hs)
  obtain ⟨b, R, T, hB, h1, h2, hM, hA, hp, h3, h4, h5, hF⟩ := h
  generalize hQ : (fun (e : Ending) (w' : World) => ∃ (A : Option Addr) (n c : Nat) (R : List Rc), e = .returned (.slice A n c) ∧ Below w.heap.size w w' ∧ w'.ownsRow w.heap.size 44 9 (.slice A n c) n (rcCells R) ∧ All2 (RcIs w' w.heap.size) R S) = Q
  have HQ := Lib.hid hQ
  clear hQ
  have HI := Lib.hid (show ∀ x ∈ S, ∃ r0, getR R (kyL x) = some r0 ∧ RcIs w lo r0 x ∧ r0.p.n ≤ 1000 ∧ r0.q.n ≤ 1000 ∧ wfKy (kyL x) from fun x hx => item_db hA hp hs h5 hx)
  have HS40 := Lib.hid (show S.length ≤ 40 by omega)
  have HB := Lib.hid hB
  have HM := Lib.hid hM
  have hpl := hB.lt
  clear hB hM hA hp h1 h2 h3 h4 h5 hF
  go_enter Tryz.func13, Tryz.ntmps13
  go_wp2_with fail
  refine HK.out.mono ?_
  rintro e1 w1 ⟨A1, n1, cc1, rfl, hb1, ho1⟩
  have hn1 := ho1.1
  rw [kyCells_length, List.length_map] at hn1
  have HN1 := Lib.hid (show n1 = S.length by omega)
  have HO1 := Lib.hid ho1
  have HB1 := Lib.hid hb1
  clear ho1 hb1 hn1 HK
  go_wp2_with fail
  go_loopw [3, 9] (fun s3 s9 wr => ∃ (j c : Nat) (A : Option Addr) (R' : List Rc), j ≤ n1 ∧ s9 = .int .i64 j ∧ s3 = .slice A j c ∧ Hid (wr.ownsRow w1.heap.size 44 9 (.slice A j c) j (rcCells R')) ∧ Hid (All2 (RcIs wr w1.heap.size) R' (S.take j)) ∧ Hid (Below w1.heap.size w1 wr)) (fun _ i _ => n1 - (intOf i).toNat)
  case atStart => exact ⟨0, 0, none, [], Nat.zero_le _, rfl, rfl, Lib.hid (by exact World.ownsRow_nil _ _ _ _), Lib.hid All2.nil, Lib.hid (Below.refl _ _)⟩
  case round =>
    obtain ⟨j, c, A, R', hj, rfl, rfl, HO, HAL, HB2⟩ := hrel
    by_cases hlt : j < n1
    · have hlt' : (j : Int) < n1 := by omega
      obtain ⟨x, hx⟩ : ∃ x, S[j]? = some x := ⟨S[j]'(by have := HN1.out; omega), List.getElem?_eq_getElem (by have := HN1.out; omega)⟩
      have HX := Lib.hid hx
      obtain ⟨r0, hg0, hrc, hs1, hs2, hwf⟩ := HI.out x (List.mem_of_getElem? hx)
      have HWR := Lib.hid (HB1.out.trans (HB2.out.mono HB1.out.size))
      have hkj : (S.map kyL)[j]? = some (kyL x) := by rw [List.getElem?_map, hx]; rfl
      obtain ⟨g, rfl, -, hgl, hnc, hcm, y0, y1, y2⟩ := own_ky (own_below2 HO1.out HB2.out) hkj
      unfold maxLen at hcm
      have HRC := Lib.hid hrc
      have HG0 := Lib.hid hg0
      have HWF := Lib.hid hwf
      clear hx hrc hg0 hwf hkj
      generalize kyL x = k at *
      go_wp2_with fail
      have J2 := Lib.hid (Blk.new wr 48 #[.int .i64 k.kind, .int .i64 k.id, .int .i64 k.adv])
      have BW2 := Lib.hid ((Below.refl wr.heap.size wr).alloc (Nat.le_refl _) (.cells #[.int .i64 k.kind, .int .i64 k.id, .int .i64 k.adv] 48))
      clear y0 y1 y2
      generalize wr.alloc (.cells #[.int .i64 k.kind, .int .i64 k.id, .int .i64 k.adv] 48) = w2 at *
      have HW2 := Lib.hid (HWR.out.trans (BW2.out.mono HWR.out.size))
      have D2 := Lib.hid (HB.out.below HW2.out HB.out.lt)
      have M2 := Lib.hid (HM.out.below HW2.out HM.out.lt)
      have RC2 := Lib.hid (HRC.out.chg (Chg.of_below (F := fun _ => False) HW2.out) (fun _ _ hf => hf))
      have hlook : ∀ W : World, MapIs W b R → (Instr.lookup 73 (.map (some b)) (.agg #[.int .i64 k.kind, .int .i64 k.id, .int .i64 k.adv]) false).run Tryz.prog W = .ok (.agg #[.int .i64 r0.h.age, .int .i64 r0.h.kind, .int .i64 r0.h.id, .int .i64 r0.h.adv, .int .i64 r0.h.seq, .int .i64 r0.h.sum, .int .i64 r0.h.long, .slice r0.p.a r0.p.n r0.p.c, .slice r0.q.a r0.q.n r0.q.c]) W := fun W hW => (hW.look_some HWF.out HG0.out).2
      obtain ⟨k0, k1, k2⟩ := J2.out.three
      have c1 := D2.out.cell 1
      simp at c1
      have C0 : Chg (fun q => (Value.slice A j c).ownBlock = some q) w2 w2.drew := ⟨rfl, rfl, rfl, Nat.le_refl _, fun _ _ _ => rfl⟩
      have NB := Lib.hid (own_not HO.out (.inl (by have := HM.out.lt; have := HB1.out.size; omega) : b < w1.heap.size ∨ wr.heap.size ≤ b))
      have NP := Lib.hid (own_not HO.out (.inl (by have := HB1.out.size; omega) : p < w1.heap.size ∨ wr.heap.size ≤ p))
      have NK := Lib.hid (own_not HO.out (.inr (Nat.le_refl _) : wr.heap.size < w1.heap.size ∨ wr.heap.size ≤ wr.heap.size))
      have HO2 := Lib.hid (own_below2 HO.out BW2.out)
      have HZ2 := Lib.hid (Nat.le_trans HB2.out.size BW2.out.size)
      have HJ40 := Lib.hid (show j ≤ 1048576 by have := HN1.out; have := HS40.out; omega)
      go_region_held3 (fun w' => Chg (fun q => (Value.slice A j c).ownBlock = some q) w2 w' ∧ MapIs w' b R ∧ w'.cell? ⟨p, 1, none⟩ = some (.map (some b)) ∧ w'.cell? ⟨wr.heap.size, 0, none⟩ = some (.int .i64 k.kind) ∧ w'.cell? ⟨wr.heap.size, 1, none⟩ = some (.int .i64 k.id) ∧ w'.cell? ⟨wr.heap.size, 2, none⟩ = some (.int .i64 k.adv)) ((refine keepAll M2.out D2.out J2.out NB.out NP.out NK.out ?_; first | with_reducible exact C0 | with_reducible exact hC3 | with_reducible exact hC3a | with_reducible exact hC4 | with_reducible exact hC3.below ((Below.refl _ _).alloc (Nat.le_refl _) _)))
        (first
          | (go_at_call 34; refine (fresh8 (w := w2.drew) RC2.out hs1 hs2).mono ?_; rintro e3 w3 ⟨r3, rfl, hb3, hr3⟩; have hC3 := C0.below hb3)
          | (refine step_append_g8 (by rfl) (.tmp 13) (.tmp 21) 22 44 (.agg #[.int .i64 0, .int .i64 0, .int .i64 0, .int .i64 0, .int .i64 0, .int .i64 0, .int .i64 0, .slice none 0 0, .slice none 0 0]) 9 _ Tryz.underlying22 Tryz.infoLsa rfl (by decide) (by decide) (by rfl) w1.heap.size (.slice A j c) j (rcCells R') (by rfl) ((own_below2 (own_drew7 HO2.out) hb3).alloc _) w3.heap.size r3.cells (by rfl) rfl (Blk.new w3 44 #[.int .i64 r3.h.age, .int .i64 r3.h.kind, .int .i64 r3.h.id, .int .i64 r3.h.adv, .int .i64 r3.h.seq, .int .i64 r3.h.sum, .int .i64 r3.h.long, .slice r3.p.a r3.p.n r3.p.c, .slice r3.q.a r3.q.n r3.q.c]) (rcCells_ones1 r3) HJ40.out (Nat.le_trans HZ2.out (Nat.le_trans hb3.size (by simp))) ?_; intro v4 w4 ho4 hg4 hl4; obtain ⟨A4, c4, rfl⟩ := own_slice ho4.out; have hC4 := (hC3.below ((Below.refl _ _).alloc (Nat.le_refl _) _)).trans (Chg.of_grown (F := fun q => (Value.slice A j c).ownBlock = some q) hg4.out (fun q hq => hq)) (fun q hq => .inl hq)))
      obtain ⟨E1, E2, E3⟩ := all_end HO.out HAL.out HB2.out BW2.out (⟨hb3.os, hb3.tape, hb3.output, hb3.size, hb3.block⟩ : Below w2.heap.size w2 w3) hr3 hg4.out HX.out ho4.out
      clear hb3 hr3 hC3 ho4 hg4 hl4 hC4 C0 k0 k1 k2 c1 hlook hs1 hs2
      go_wp2
      go_roundw
      case rel => exact ⟨j + 1, c4, A4, R' ++ [r3], by omega, by go_num, rfl, E1, E2, E3⟩
      case measure => simp [intOf]; omega
    · have hjn : j = n1 := by omega
      subst hjn
      have HT := Lib.hid (show S.take j = S by rw [HN1.out]; exact List.take_length)
      go_wp2
      show Q (.returned (.slice A j c)) wr
      rw [← HQ.out]
      have h1 := HAL.out
      rw [HT.out] at h1
      exact ⟨A, j, c, R', rfl, HB1.out.trans (HB2.out.mono HB1.out.size), own_low HO.out HB1.out.size, h1.imp (fun r x h => h.mono HB1.out.size)⟩
end Go.Proofs.YtiibefgdlmjdgaaGreat
namespace Go.Proofs.YtiibefgdlmjdgaaGreat

/-- The first j are a tick on. -/
def tickUp (S : List La) (j : Nat) : List La := (S.take j).map tickL ++ S.drop j
theorem tickUp_zero (S : List La) : tickUp S 0 = S := by simp [tickUp]
theorem tickUp_all (S : List La) : tickUp S S.length = S.map tickL := by simp [tickUp]
theorem tickUp_length (S : List La) (j : Nat) : (tickUp S j).length = S.length := by
  simp [tickUp]
  omega
theorem tickUp_keys (S : List La) (j : Nat) : (tickUp S j).map kyL = S.map kyL := by
  unfold tickUp
  rw [List.map_append, List.map_map]
  have : kyL ∘ tickL = kyL := funext fun x => key_tick x
  rw [this, ← List.map_append, List.take_append_drop]
theorem sortL_keys {S T : List La} (h : SortL S) (e : T.map kyL = S.map kyL) : SortL T := by
  unfold SortL at *
  have h1 : (S.map kyL).Pairwise (fun a b => lessKy a b = true) := List.pairwise_map.2 h
  rw [← e] at h1
  exact List.pairwise_map.1 h1
theorem tickUp_sort {S : List La} (h : SortL S) (j : Nat) : SortL (tickUp S j) := sortL_keys h (tickUp_keys S j)
theorem tickUp_right {S : List La} (h : ∀ x ∈ S, rightB x.h x.L x.M = true) (j : Nat) : ∀ x ∈ tickUp S j, rightB x.h x.L x.M = true := by
  intro x hx
  unfold tickUp at hx
  rcases List.mem_append.1 hx with hx | hx
  · obtain ⟨y, hy, rfl⟩ := List.mem_map.1 hx
    exact right_tick (h y (List.mem_of_mem_take hy))
  · exact h x (List.mem_of_mem_drop hx)
/-- The round's item, and the rest. -/
theorem tickUp_split {S : List La} {j : Nat} {x : La} (hx : S[j]? = some x) : tickUp S j = (S.take j).map tickL ++ x :: S.drop (j + 1) ∧ tickUp S (j + 1) = (S.take j).map tickL ++ tickL x :: S.drop (j + 1) := by
  have hj := (List.getElem?_eq_some_iff.1 hx).1
  have e1 : S.drop j = x :: S.drop (j + 1) := by
    rw [List.drop_eq_getElem_cons hj]
    congr 1
    exact (List.getElem?_eq_some_iff.1 hx).2
  have e2 : S.take (j + 1) = S.take j ++ [x] := by
    rw [List.take_add_one, hx]
    rfl
  unfold tickUp
  refine ⟨by rw [e1], ?_⟩
  rw [e2, List.map_append, List.append_assoc]
  rfl
theorem tickUp_mem {S : List La} {j : Nat} {x : La} (hx : S[j]? = some x) : x ∈ tickUp S j := by
  rw [(tickUp_split hx).1]
  simp
/-- One that is of the greatest age stays. -/
theorem tickUp_old {S : List La} {j : Nat} {x : La} (hx : S[j]? = some x) (h : ¬ x.h.age < 60) : tickUp S (j + 1) = tickUp S j := by
  obtain ⟨e1, e2⟩ := tickUp_split hx
  rw [e1, e2]
  unfold tickL
  rw [if_neg h]
theorem dropL_split {A B : List La} {x : La} (h : SortL (A ++ x :: B)) : dropL (A ++ x :: B) (kyL x) = A ++ B := by
  have hp := (List.pairwise_append.1 h)
  have h1 : ∀ y ∈ A, kyL y ≠ kyL x := fun y hy e => by
    have := hp.2.2 y hy x (by simp)
    rw [e, lessKy_irrefl] at this
    cases this
  have h2 : ∀ y ∈ B, kyL y ≠ kyL x := fun y hy e => by
    have := (List.pairwise_cons.1 hp.2.1).1 y hy
    rw [e, lessKy_irrefl] at this
    cases this
  have e1 := dropL_none h1
  have e2 := dropL_none h2
  have e3 : (!sameKy (kyL x) (kyL x)) = false := by rw [(sameKy_iff _ _).2 rfl]; rfl
  unfold dropL at *
  rw [List.filter_append, List.filter_cons, e3, e1]
  simpa using e2
/-- One that is younger is laid anew. -/
theorem tickUp_perm {S T : List La} {j : Nat} {x : La} (hs : SortL S) (hx : S[j]? = some x) (hp : T.Perm (tickUp S j)) : (tickL x :: dropL T (kyL x)).Perm (tickUp S (j + 1)) := by
  obtain ⟨e1, e2⟩ := tickUp_split hx
  have hs2 := tickUp_sort hs j
  rw [e1] at hs2
  have h1 : (dropL T (kyL x)).Perm ((S.take j).map tickL ++ S.drop (j + 1)) := by
    rw [← dropL_split hs2, ← e1]
    exact hp.filter _
  rw [e2]
  exact (h1.cons _).trans List.perm_middle.symm
theorem tickKeysL_next {S : List La} {j : Nat} {x : La} (hx : S[j]? = some x) : tickKeysL (S.take (j + 1)) = tickKeysL (S.take j) ++ (if x.h.age = 59 then [kyL x] else []) := by
  have e2 : S.take (j + 1) = S.take j ++ [x] := by
    rw [List.take_add_one, hx]
    rfl
  rw [e2]
  unfold tickKeysL
  rw [List.filter_append, List.map_append]
  congr 1
  by_cases h : x.h.age = 59
  · rw [if_pos h, List.filter_cons, if_pos (by simpa using h)]
    rfl
  · rw [if_neg h, List.filter_cons, if_neg (by simpa using h)]
    rfl
end Go.Proofs.YtiibefgdlmjdgaaGreat
