/- The program's All. Conditions: what the words say. · Plain facts on stable orders: lists and arrays of anything, under a strict weak order. No program, no conditions but that order. · Plain facts on merging two rows in order by a rotation. No program, no conditions but a strict weak order. · Heads in memory; the order of two of them, as the program's function literal tells it; the library's stable sort of a row of them. Conditions: at most 1000 heads. · A head, and a description, that came in, opened. No conditions. · Integers with their bounds, and slices of structs, that came in. No conditions. -/
import Derived.Sort.Lot0
import Derived.Sort.LotA
import Derived.StillTail
import Derived.Shelf.SlSortCmp.QuietGrown
import Derived.Shelf.SlSortCmp.KitK
import Derived.Test.YtnnkcgbnhjkahaaChecked
import Derived.Lib.Hide
import Derived.BigRegion
import Derived.Deep.LoopGhost
import Derived.Deep.CutBlock
import Derived.Deep.DeepCutAuto
import Derived.Deep.Slices
import Derived.Deep.Fields
import Derived.OpenShut
import Derived.Test.YtnnkcgbnhjkahaaJao
import Derived.Test.YtnnkcgbnhjkahaaJan
import Derived.Test.YtnnkcgbnhjkahaaJai
import Derived.Test.YtnnkcgbnhjkahaaJaj
import Derived.Test.YtnnkcgbnhjkahaaJah
import Derived.Test.YtnnkcgbnhjkahaaJaa
namespace Go.Proofs.Ytnnkcgbnhjkahaa
open Go.RowKit

/-- A list of keys of the call's own, item j of it. -/
theorem own_ky {w : World} {base n : Nat} {A : Option Addr} {c : Nat} {K : List Ky} (h : w.ownsRow base 47 3 (.slice A n c) n (kyCells K)) {j : Nat} {k : Ky} (hj : K[j]? = some k) :
    ∃ g, A = some ⟨g, 0, none⟩ ∧ base ≤ g ∧ g < w.heap.size ∧ n ≤ c ∧ c ≤ maxLen ∧ w.cell? ⟨g, j * 3, none⟩ = some (.int .i64 k.kind) ∧ w.cell? ⟨g, j * 3 + 1, none⟩ = some (.int .i64 k.id) ∧ w.cell? ⟨g, j * 3 + 2, none⟩ = some (.int .i64 k.adv) := by
  have hl := h.1
  rw [kyCells_length] at hl
  have hjl := (List.getElem?_eq_some_iff.1 hj).1
  rcases h.2 with ⟨_, hn⟩ | ⟨g, cap, cur, hv, hb, hg, h1, h2, h3, h4⟩
  · omega
  · cases hv
    have hat : ∀ i, i < 3 → w.cell? ⟨g, j * 3 + i, none⟩ = (encKy k)[i]? := fun i hi => by
      have hB : Blk w g 47 cur := hg
      have e := kyCells_at K j k hj i hi
      rw [hB.cell]
      rw [show (encKy k)[i]? = (kyCells K)[j * 3 + i]? from e.symm, ← h4, List.getElem?_take, if_pos (by omega)]
      simp
    exact ⟨g, rfl, hb, (Array.getElem?_eq_some_iff.1 hg).1, h1, h2, hat 0 (by omega), hat 1 (by omega), hat 2 (by omega)⟩
theorem all2_snoc {α β : Type} {P : α → β → Prop} {R : List α} {S : List β} (h : All2 P R S) {r : α} {x : β} (hx : P r x) : All2 P (R ++ [r]) (S ++ [x]) := by
  induction R generalizing S with
  | nil =>
    cases S with
    | nil => exact All2.cons hx All2.nil
    | cons y S => have := h.1; simp at this
  | cons r' R ih =>
    cases S with
    | nil => have := h.1; simp at this
    | cons y S => exact All2.cons h.head.1 (ih h.head.2)
/-- The one of item j. -/
theorem item_db {w : World} {lo : Nat} {R : List Rc} {T S : List La} (hA : All2 (RcIs w lo) R T) (hp : T.Perm S) (hs : SortL S) (h5 : ∀ x ∈ S, rightB x.h x.L x.M = true) {x : La} (hx : x ∈ S) :
    ∃ r0, getR R (kyL x) = some r0 ∧ RcIs w lo r0 x ∧ r0.p.n ≤ 1000 ∧ r0.q.n ≤ 1000 ∧ wfKy (kyL x) := by
  rcases get_both (fun r y h => h.1) hA hp hs (kyL x) with ⟨h1, h2⟩ | ⟨r, y, h1, h2, h3, h4, h6⟩
  · rw [getL_mem hs hx] at h2
    cases h2
  · rw [getL_mem hs hx] at h2
    cases h2
    obtain ⟨e1, e2⟩ := rc_short h3 (h5 x hx)
    exact ⟨r, h1, h3, e1, e2, wfKy_right (h5 x hx)⟩
theorem step_append_g8 {ops : Array Oper} {o : Oper} {a : Act} {w : World} {K : Act → World → Prop} {Q : Exit → Act → World → Prop} {E : Prop} (hgd : o.guard = none) (s x : Operand) (t e : TypeId) (z : Value) (size bytes : Nat)
    (ht : Try.prog.underlying t = some (.slice e)) (hinfo : (Try.prog.info? e).map (fun i => (i.zero, i.size, i.bytes)) = some (some z, size, bytes)) (hzs : z.cells.size = size) (hsz : 0 < size) (hby : bytes ≤ 1024)
    (ho : o.op = .call { callee := .builtin .append, args := #[s, x], argTypes := #[t, t] }) (base : Nat) (v : Value) (n : Nat) (xs : List Value) (hs : a.eval s = v) (hown : w.ownsRow base e size v n xs)
    (b : Nat) (news : List Value) (hx : a.eval x = .slice (some ⟨b, 0, none⟩) 1 1) (hl : news.length = size) (hb : Blk w b e news.toArray) (h1 : ∀ u ∈ news, u.oneCell' = true) (hn : n ≤ 1048576) (hbase : base ≤ w.heap.size)
    (hK : ∀ v' w', Hid (w'.ownsRow base e size v' (n + 1) (xs ++ news)) → Hid (w.grownBy w' v.ownBlock) → Hid (v'.ownBlock = v.ownBlock ∨ v'.ownBlock = some w.heap.size) → K (a.put o.dst v') w') : if Region.wanted o (yielded ops a.tmps) = true then Oper.wp Try.prog o a w K Q else E := by
  have hw : Region.wanted o (yielded ops a.tmps) = true := by simp [Region.wanted, hgd]
  rw [if_pos hw]
  obtain ⟨i0, hi, hz0, hz1, hz2⟩ := info_parts hinfo
  have hnews : ∀ j u, news[j]? = some u → w.cell? ((⟨b, 0, none⟩ : Addr).add j) = some u := by
    intro j u hu
    rw [addr_add, hb.cell, Nat.zero_add, List.getElem?_toArray]
    exact hu
  have hbb : (n + 1) * bytes ≤ 1048577 * 1024 := Nat.mul_le_mul (by omega) hby
  obtain ⟨v', w', hrun, h2, h3, h4⟩ := run_append_own_at (P := Try.prog) w base t o.type e i0 z size bytes ht hi hz0 hz1 hz2 hzs hsz v n xs hown ⟨b, 0, none⟩ 1 1 news (by omega) hnews h1 (by unfold maxLen; omega) (by omega) hbase
  unfold Oper.wp execOp
  simp only [ho, resolve, invoke, builtin, Sem.run_bind, Sem.run_pure, Result.andThen_ok, List.map_toArray, List.map_cons, List.map_nil, hs, hx, hrun]
  exact hK v' w' h2 h3 h4.2


theorem fresh8 {w : World} {lo : Nat} {r : Rc} {x : La} (h : RcIs w lo r x) (hp : r.p.n ≤ 1000) (hq : r.q.n ≤ 1000) : Calls Try.prog 52 #[.agg #[.int .i64 r.h.age, .int .i64 r.h.kind, .int .i64 r.h.id, .int .i64 r.h.adv, .int .i64 r.h.seq, .int .i64 r.h.sum, .int .i64 r.h.long, .slice r.p.a r.p.n r.p.c, .slice r.q.a r.q.n r.q.c]] w
    fun e w' => ∃ r3 : Rc, e = .returned (.agg #[.int .i64 r3.h.age, .int .i64 r3.h.kind, .int .i64 r3.h.id, .int .i64 r3.h.adv, .int .i64 r3.h.seq, .int .i64 r3.h.sum, .int .i64 r3.h.long, .slice r3.p.a r3.p.n r3.p.c, .slice r3.q.a r3.q.n r3.q.c]) ∧ Below w.heap.size w w' ∧ RcIs w' w.heap.size r3 x :=
  (fresh7 h hp hq).mono fun _ _ ⟨r', h1, h2, h3, _⟩ => ⟨r', h1, h2, h3⟩
theorem keepAll {w0 w' : World} {b p gk : Nat} {R : List Rc} {F : Nat → Prop} {t t2 : TypeId} {v0 v1 k0 k1 k2 : Value} (hM : MapIs w0 b R) (hB : Blk w0 p t #[v0, v1]) (hk : Blk w0 gk t2 #[k0, k1, k2]) (nb : ¬ F b) (np : ¬ F p) (nk : ¬ F gk) (hc : Chg F w0 w') :
    Chg F w0 w' ∧ MapIs w' b R ∧ w'.cell? ⟨p, 1, none⟩ = some v1 ∧ w'.cell? ⟨gk, 0, none⟩ = some k0 ∧ w'.cell? ⟨gk, 1, none⟩ = some k1 ∧ w'.cell? ⟨gk, 2, none⟩ = some k2 := by
  obtain ⟨e0, e1, e2⟩ := (hk.chg hc nk).three
  exact ⟨hc, hM.chg hc nb, (hB.chg hc np).cell 1, e0, e1, e2⟩
theorem rcCells_ones1 (r : Rc) : ∀ u ∈ r.cells, u.oneCell' = true := fun u hu => rcCells_ones [r] u (by rw [rcCells_cons, List.mem_append]; exact .inl hu)
/-- A round's end: one more in the list. -/
theorem all_end {w1 wr w2 w3 w4 : World} {A A2 : Option Addr} {j c c2 : Nat} {R' : List Rc} {S : List La} {r3 : Rc} {x : La} {o : Obj} (hO : wr.ownsRow w1.heap.size 62 9 (.slice A j c) j (rcCells R')) (hA : All2 (RcIs wr w1.heap.size) R' (S.take j)) (hB : Below w1.heap.size w1 wr) (h2 : Below wr.heap.size wr w2) (h3 : Below w2.heap.size w2 w3) (hr : RcIs w3 w2.heap.size r3 x) (hg : (w3.alloc o).grownBy w4 (Value.slice A j c).ownBlock) (hx : S[j]? = some x)
    (ho4 : w4.ownsRow w1.heap.size 62 9 (.slice A2 (j + 1) c2) (j + 1) (rcCells R' ++ r3.cells)) :
    Hid (w4.ownsRow w1.heap.size 62 9 (.slice A2 (j + 1) c2) (j + 1) (rcCells (R' ++ [r3]))) ∧ Hid (All2 (RcIs w4 w1.heap.size) (R' ++ [r3]) (S.take (j + 1))) ∧ Hid (Below w1.heap.size w1 w4) := by
  have hz1 := hB.size
  have hz2 := h2.size
  have b23 : Below wr.heap.size wr w3 := h2.trans (h3.mono hz2)
  have b3 : Below wr.heap.size wr (w3.alloc o) := b23.alloc b23.size o
  have hlt : ∀ q, (Value.slice A j c).ownBlock = some q → w1.heap.size ≤ q ∧ q < wr.heap.size := fun q hq => hO.lt q hq
  have hc : Chg (fun q => (Value.slice A j c).ownBlock = some q) wr w4 := (Chg.of_below (F := fun q => (Value.slice A j c).ownBlock = some q) b3).trans (Chg.of_grown hg (fun q hq => hq)) (fun q hq => .inl hq)
  have hc3 : Chg (fun q => (Value.slice A j c).ownBlock = some q) w3 w4 := (Chg.of_below (F := fun q => (Value.slice A j c).ownBlock = some q) ((Below.refl w3.heap.size w3).alloc (Nat.le_refl _) o)).trans (Chg.of_grown hg (fun q hq => hq)) (fun q hq => .inl hq)
  refine ⟨Lib.hid ?_, Lib.hid ?_, Lib.hid ?_⟩
  · rw [rcCells_append]
    have e : rcCells [r3] = r3.cells := by simp [rcCells]
    rw [e]
    exact ho4
  · have ht : S.take (j + 1) = S.take j ++ [x] := by
      rw [List.take_add_one, hx]
      rfl
    rw [ht]
    refine all2_snoc (all2_imp hA (fun r _ y hy => hy.chg hc (fun q hq => hy.apart hO hq))) ((hr.chg hc3 (fun q hq he => ?_)).mono (by omega))
    have h6 := (hr.foot hq).1
    have h7 := (hlt q he).2
    omega
  · exact hB.trans (b3.mono hz1) |>.grown hg (by have := b3.size; omega) (fun q hq => (hlt q hq).1)
set_option maxRecDepth 8000 in
set_option maxHeartbeats 8000000 in
theorem all_db {w : World} {lo p : Nat} {room : Int} {S : List La} {F : Nat → Prop} (h : PDb w lo p room S F) (hs : SortL S) : Calls Try.prog 33 #[.pointer (some ⟨p, 0, none⟩)] w
    fun e w' => ∃ (A : Option Addr) (n c : Nat) (R : List Rc), e = .returned (.slice A n c) ∧ Below w.heap.size w w' ∧ w'.ownsRow w.heap.size 62 9 (.slice A n c) n (rcCells R) ∧ All2 (RcIs w' w.heap.size) R S := by
  have HK := Lib.hid (keys_db h hs)
  obtain ⟨b, R, T, hB, h1, h2, hM, hA, hp, h3, h4, h5, hF⟩ := h
  generalize hQ : (fun (e : Ending) (w' : World) => ∃ (A : Option Addr) (n c : Nat) (R : List Rc), e = .returned (.slice A n c) ∧ Below w.heap.size w w' ∧ w'.ownsRow w.heap.size 62 9 (.slice A n c) n (rcCells R) ∧ All2 (RcIs w' w.heap.size) R S) = Q
  have HQ := Lib.hid hQ
  clear hQ
  have HI := Lib.hid (show ∀ x ∈ S, ∃ r0, getR R (kyL x) = some r0 ∧ RcIs w lo r0 x ∧ r0.p.n ≤ 1000 ∧ r0.q.n ≤ 1000 ∧ wfKy (kyL x) from fun x hx => item_db hA hp hs h5 hx)
  have HS40 := Lib.hid (show S.length ≤ 40 by omega)
  have HB := Lib.hid hB
  have HM := Lib.hid hM
  have hpl := hB.lt
  clear hB hM hA hp h1 h2 h3 h4 h5 hF
  go_enter Try.func33, Try.ntmps33
  go_wp2_with fail
  refine HK.out.mono ?_
  rintro e1 w1 ⟨A1, n1, cc1, rfl, hb1, ho1⟩
  have hn1 := ho1.1
  rw [kyCells_length, List.length_map] at hn1
  have HN1 := Lib.hid (show n1 = S.length by omega)
  have HO1 := Lib.hid ho1
  have HB1 := Lib.hid hb1
  clear ho1 hb1 hn1 HK
  go_wp2_with fail
  go_loopw [3, 9] (fun s3 s9 wr => ∃ (j c : Nat) (A : Option Addr) (R' : List Rc), j ≤ n1 ∧ s9 = .int .i64 j ∧ s3 = .slice A j c ∧ Hid (wr.ownsRow w1.heap.size 62 9 (.slice A j c) j (rcCells R')) ∧ Hid (All2 (RcIs wr w1.heap.size) R' (S.take j)) ∧ Hid (Below w1.heap.size w1 wr)) (fun _ i _ => n1 - (intOf i).toNat)
  case atStart => exact ⟨0, 0, none, [], Nat.zero_le _, rfl, rfl, Lib.hid (by exact World.ownsRow_nil _ _ _ _), Lib.hid All2.nil, Lib.hid (Below.refl _ _)⟩
  case round =>
    obtain ⟨j, c, A, R', hj, rfl, rfl, HO, HAL, HB2⟩ := hrel
    by_cases hlt : j < n1
    · have hlt' : (j : Int) < n1 := by omega
      obtain ⟨x, hx⟩ : ∃ x, S[j]? = some x := ⟨S[j]'(by have := HN1.out; omega), List.getElem?_eq_getElem (by have := HN1.out; omega)⟩
      have HX := Lib.hid hx
      obtain ⟨r0, hg0, hrc, hs1, hs2, hwf⟩ := HI.out x (List.mem_of_getElem? hx)
      have HWR := Lib.hid (HB1.out.trans (HB2.out.mono HB1.out.size))
      have hkj : (S.map kyL)[j]? = some (kyL x) := by rw [List.getElem?_map, hx]; rfl
      obtain ⟨g, rfl, -, hgl, hnc, hcm, y0, y1, y2⟩ := own_ky (own_below2 HO1.out HB2.out) hkj
      unfold maxLen at hcm
      have HRC := Lib.hid hrc
      have HG0 := Lib.hid hg0
      have HWF := Lib.hid hwf
      clear hx hrc hg0 hwf hkj
      generalize kyL x = k at *
      go_wp2_with fail
      have J2 := Lib.hid (Blk.new wr 47 #[.int .i64 k.kind, .int .i64 k.id, .int .i64 k.adv])
      have BW2 := Lib.hid ((Below.refl wr.heap.size wr).alloc (Nat.le_refl _) (.cells #[.int .i64 k.kind, .int .i64 k.id, .int .i64 k.adv] 47))
      clear y0 y1 y2
      generalize wr.alloc (.cells #[.int .i64 k.kind, .int .i64 k.id, .int .i64 k.adv] 47) = w2 at *
      have HW2 := Lib.hid (HWR.out.trans (BW2.out.mono HWR.out.size))
      have D2 := Lib.hid (HB.out.below HW2.out HB.out.lt)
      have M2 := Lib.hid (HM.out.below HW2.out HM.out.lt)
      have RC2 := Lib.hid (HRC.out.chg (Chg.of_below (F := fun _ => False) HW2.out) (fun _ _ hf => hf))
      have hlook : ∀ W : World, MapIs W b R → (Instr.lookup 83 (.map (some b)) (.agg #[.int .i64 k.kind, .int .i64 k.id, .int .i64 k.adv]) false).run Try.prog W = .ok (.agg #[.int .i64 r0.h.age, .int .i64 r0.h.kind, .int .i64 r0.h.id, .int .i64 r0.h.adv, .int .i64 r0.h.seq, .int .i64 r0.h.sum, .int .i64 r0.h.long, .slice r0.p.a r0.p.n r0.p.c, .slice r0.q.a r0.q.n r0.q.c]) W := fun W hW => (hW.look_some HWF.out HG0.out).2
      obtain ⟨k0, k1, k2⟩ := J2.out.three
      have c1 := D2.out.cell 1
      simp at c1
      have C0 : Chg (fun q => (Value.slice A j c).ownBlock = some q) w2 w2.drew := ⟨rfl, rfl, rfl, Nat.le_refl _, fun _ _ _ => rfl⟩
      have NB := Lib.hid (own_not HO.out (.inl (by have := HM.out.lt; have := HB1.out.size; omega) : b < w1.heap.size ∨ wr.heap.size ≤ b))
      have NP := Lib.hid (own_not HO.out (.inl (by have := HB1.out.size; omega) : p < w1.heap.size ∨ wr.heap.size ≤ p))
      have NK := Lib.hid (own_not HO.out (.inr (Nat.le_refl _) : wr.heap.size < w1.heap.size ∨ wr.heap.size ≤ wr.heap.size))
      have HO2 := Lib.hid (own_below2 HO.out BW2.out)
      have HZ2 := Lib.hid (Nat.le_trans HB2.out.size BW2.out.size)
      have HJ40 := Lib.hid (show j ≤ 1048576 by have := HN1.out; have := HS40.out; omega)
      go_region_held3 (fun w' => Chg (fun q => (Value.slice A j c).ownBlock = some q) w2 w' ∧ MapIs w' b R ∧ w'.cell? ⟨p, 1, none⟩ = some (.map (some b)) ∧ w'.cell? ⟨wr.heap.size, 0, none⟩ = some (.int .i64 k.kind) ∧ w'.cell? ⟨wr.heap.size, 1, none⟩ = some (.int .i64 k.id) ∧ w'.cell? ⟨wr.heap.size, 2, none⟩ = some (.int .i64 k.adv)) ((refine keepAll M2.out D2.out J2.out NB.out NP.out NK.out ?_; first | with_reducible exact C0 | with_reducible exact hC3 | with_reducible exact hC3a | with_reducible exact hC4 | with_reducible exact hC3.below ((Below.refl _ _).alloc (Nat.le_refl _) _)))
        (first
          | (go_at_call 52; refine (fresh8 (w := w2.drew) RC2.out hs1 hs2).mono ?_; rintro e3 w3 ⟨r3, rfl, hb3, hr3⟩; have hC3 := C0.below hb3)
          | (refine step_append_g8 (by rfl) (.tmp 13) (.tmp 21) 53 62 (.agg #[.int .i64 0, .int .i64 0, .int .i64 0, .int .i64 0, .int .i64 0, .int .i64 0, .int .i64 0, .slice none 0 0, .slice none 0 0]) 9 _ Try.underlying53 Try.infoLsa rfl (by decide) (by decide) (by rfl) w1.heap.size (.slice A j c) j (rcCells R') (by rfl) ((own_below2 (own_drew7 HO2.out) hb3).alloc _) w3.heap.size r3.cells (by rfl) rfl (Blk.new w3 62 #[.int .i64 r3.h.age, .int .i64 r3.h.kind, .int .i64 r3.h.id, .int .i64 r3.h.adv, .int .i64 r3.h.seq, .int .i64 r3.h.sum, .int .i64 r3.h.long, .slice r3.p.a r3.p.n r3.p.c, .slice r3.q.a r3.q.n r3.q.c]) (rcCells_ones1 r3) HJ40.out (Nat.le_trans HZ2.out (Nat.le_trans hb3.size (by simp))) ?_; intro v4 w4 ho4 hg4 hl4; obtain ⟨A4, c4, rfl⟩ := own_slice ho4.out; have hC4 := (hC3.below ((Below.refl _ _).alloc (Nat.le_refl _) _)).trans (Chg.of_grown (F := fun q => (Value.slice A j c).ownBlock = some q) hg4.out (fun q hq => hq)) (fun q hq => .inl hq)))
      obtain ⟨E1, E2, E3⟩ := all_end HO.out HAL.out HB2.out BW2.out (⟨hb3.os, hb3.tape, hb3.output, hb3.size, hb3.block⟩ : Below w2.heap.size w2 w3) hr3 hg4.out HX.out ho4.out
      clear hb3 hr3 hC3 ho4 hg4 hl4 hC4 C0 k0 k1 k2 c1 hlook hs1 hs2
      go_wp2
      go_roundw
      case rel => exact ⟨j + 1, c4, A4, R' ++ [r3], by omega, by go_num, rfl, E1, E2, E3⟩
      case measure => simp [intOf]; omega
    · have hjn : j = n1 := by omega
      subst hjn
      have HT := Lib.hid (show S.take j = S by rw [HN1.out]; exact List.take_length)
      go_wp2
      show Q (.returned (.slice A j c)) wr
      rw [← HQ.out]
      have h1 := HAL.out
      rw [HT.out] at h1
      exact ⟨A, j, c, R', rfl, HB1.out.trans (HB2.out.mono HB1.out.size), own_low HO.out HB1.out.size, h1.imp (fun r x h => h.mono HB1.out.size)⟩
end Go.Proofs.Ytnnkcgbnhjkahaa
namespace Go.Proofs.Ytnnkcgbnhjkahaa
open Go.Sort

section
variable {α : Type} (lt : α → α → Bool)
/-- Neither is ahead of the other. -/
def eqv (x y : α) : Bool := !lt x y && !lt y x
/-- The same things, those of each class in the same order. -/
def Stab (L L' : List α) : Prop := L'.length = L.length ∧ ∀ x, L'.filter (eqv lt x) = L.filter (eqv lt x)
/-- In order: none is less than one ahead of it. -/
def Ord (L : List α) : Prop := L.Pairwise fun x y => lt y x = false
end

section
variable {α : Type} {lt : α → α → Bool}
theorem eqv_iff {x y : α} : eqv lt x y = true ↔ lt x y = false ∧ lt y x = false := by
  unfold eqv
  cases lt x y <;> cases lt y x <;> simp
theorem Stab.refl (L : List α) : Stab lt L L := ⟨rfl, fun _ => rfl⟩
theorem Stab.trans {A B C : List α} (h : Stab lt A B) (h' : Stab lt B C) : Stab lt A C := ⟨h'.1.trans h.1, fun x => (h'.2 x).trans (h.2 x)⟩
theorem Stab.symm {A B : List α} (h : Stab lt A B) : Stab lt B A := ⟨h.1.symm, fun x => (h.2 x).symm⟩
theorem Stab.app {A A' B B' : List α} (h : Stab lt A A') (h' : Stab lt B B') : Stab lt (A ++ B) (A' ++ B') :=
  ⟨by rw [List.length_append, List.length_append, h.1, h'.1], fun x => by rw [List.filter_append, List.filter_append, h.2, h'.2]⟩
theorem Stab.mem (hS : SWO lt) {A B : List α} (h : Stab lt A B) {x : α} : x ∈ B ↔ x ∈ A := by
  have hx : eqv lt x x = true := eqv_iff.2 ⟨hS.irrefl x, hS.irrefl x⟩
  have e := h.2 x
  constructor
  · intro hb
    have : x ∈ B.filter (eqv lt x) := List.mem_filter.2 ⟨hb, hx⟩
    rw [e] at this
    exact (List.mem_filter.1 this).1
  · intro hb
    have : x ∈ A.filter (eqv lt x) := List.mem_filter.2 ⟨hb, hx⟩
    rw [← e] at this
    exact (List.mem_filter.1 this).1
/-- Two rows change places, of which one is all ahead of the other. -/
theorem stab_swap (hS : SWO lt) {U V : List α} (h : ∀ x ∈ U, ∀ y ∈ V, lt y x = true) : Stab lt (U ++ V) (V ++ U) := by
  refine ⟨by rw [List.length_append, List.length_append, Nat.add_comm], fun z => ?_⟩
  rw [List.filter_append, List.filter_append]
  by_cases hu : ∃ x ∈ U, eqv lt z x = true
  · obtain ⟨x, hx, hz⟩ := hu
    have : V.filter (eqv lt z) = [] := by
      rw [List.filter_eq_nil_iff]
      intro y hy hzy
      have h1 := h x hx y hy
      have e1 := eqv_iff.1 hz
      have e2 := eqv_iff.1 hzy
      have := hS.ntrans y z x e2.2 e1.1
      rw [h1] at this
      cases this
    rw [this, List.nil_append, List.append_nil]
  · have : U.filter (eqv lt z) = [] := by
      rw [List.filter_eq_nil_iff]
      intro y hy hzy
      exact hu ⟨y, hy, hzy⟩
    rw [this, List.nil_append, List.append_nil]
/-- There is one stable order. -/
theorem stab_unique (hS : SWO lt) : ∀ {A B : List α}, Ord lt A → Ord lt B → Stab lt A B → A = B
  | [], B, _, _, h => (List.eq_nil_of_length_eq_zero h.1).symm
  | x :: A, [], _, _, h => by have := h.1; simp at this
  | x :: A, y :: B, ha, hb, h => by
    obtain ⟨a1, a2⟩ := List.pairwise_cons.1 ha
    obtain ⟨b1, b2⟩ := List.pairwise_cons.1 hb
    have hxy : lt x y = false := by
      rcases List.mem_cons.1 ((h.mem hS).2 (List.mem_cons_self (a := x) (l := A))) with e | e
      · rw [e]; exact hS.irrefl _
      · exact b1 x e
    have hyx : lt y x = false := by
      rcases List.mem_cons.1 ((h.mem hS).1 (List.mem_cons_self (a := y) (l := B))) with e | e
      · rw [e]; exact hS.irrefl _
      · exact a1 y e
    have hx : eqv lt x x = true := eqv_iff.2 ⟨hS.irrefl x, hS.irrefl x⟩
    have hx2 : eqv lt x y = true := eqv_iff.2 ⟨hxy, hyx⟩
    have e := h.2 x
    rw [List.filter_cons_of_pos hx, List.filter_cons_of_pos hx2] at e
    injection e with e1 e2
    subst e1
    congr 1
    refine stab_unique hS a2 b2 ⟨by have := h.1; simp at this; exact this, fun z => ?_⟩
    have ez := h.2 z
    by_cases hz : eqv lt z y = true
    · rw [List.filter_cons_of_pos hz, List.filter_cons_of_pos hz] at ez
      injection ez
    · rw [List.filter_cons_of_neg hz, List.filter_cons_of_neg hz] at ez
      exact ez
theorem swo_asymm (hS : SWO lt) {x y : α} (h : lt x y = true) : lt y x = false := by
  cases e : lt y x
  · rfl
  · have := hS.trans x y x h e
    rw [hS.irrefl] at this
    cases this
end

section
variable {α : Type} [Inhabited α] {lt : α → α → Bool}
/-- Places i to j of an array. -/
def seg (d : Array α) (i j : Nat) : List α := (d.toList.drop i).take (j - i)
theorem get_toList (d : Array α) (t : Nat) (h : t < d.size) : d.toList[t]? = some d[t]! := by
  rw [Array.getElem?_toList, getElem!_pos d t h]
  simp [h]
omit [Inhabited α] in
theorem seg_length (d : Array α) (i j : Nat) (h : j ≤ d.size) : (seg d i j).length = j - i := by
  unfold seg
  rw [List.length_take, List.length_drop, Array.length_toList]
  omega
theorem seg_get (d : Array α) (i j t : Nat) (h : j ≤ d.size) (ht : t < j - i) : (seg d i j)[t]? = some d[i + t]! := by
  unfold seg
  rw [List.getElem?_take_of_lt ht, List.getElem?_drop]
  exact get_toList d _ (by omega)
theorem seg_mem (d : Array α) (i j : Nat) (h : j ≤ d.size) {x : α} (hx : x ∈ seg d i j) : ∃ t, i ≤ t ∧ t < j ∧ x = d[t]! := by
  obtain ⟨t, ht⟩ := List.getElem?_of_mem hx
  have hl := (List.getElem?_eq_some_iff.1 ht).1
  rw [seg_length d i j h] at hl
  rw [seg_get d i j t h hl] at ht
  injection ht with ht
  exact ⟨i + t, by omega, by omega, ht.symm⟩
omit [Inhabited α] in
theorem seg_four (d : Array α) (s m e : Nat) (h1 : s ≤ m) (h2 : m ≤ e) : d.toList = d.toList.take s ++ (seg d s m ++ (seg d m e ++ d.toList.drop e)) := by
  unfold seg
  conv => lhs; rw [← List.take_append_drop s d.toList]
  congr 1
  conv => lhs; rw [← List.take_append_drop (m - s) (d.toList.drop s)]
  congr 1
  rw [List.drop_drop, show s + (m - s) = m by omega]
  conv => lhs; rw [← List.take_append_drop (e - m) (d.toList.drop m)]
  congr 1
  rw [List.drop_drop, show m + (e - m) = e by omega]
/-- Places s to m and m to e have changed places. -/
def RotOk (d : Array α) (s m e : Nat) (d' : Array α) : Prop :=
  d'.size = d.size ∧ (∀ t, t < s ∨ e ≤ t → d'[t]! = d[t]!) ∧ (∀ t, t < e - m → d'[s + t]! = d[m + t]!) ∧ (∀ t, t < m - s → d'[s + (e - m) + t]! = d[s + t]!)
theorem rot_list {d d' : Array α} {s m e : Nat} (h : RotOk d s m e d') (h1 : s ≤ m) (h2 : m ≤ e) (h3 : e ≤ d.size) :
    d'.toList = d.toList.take s ++ (seg d m e ++ (seg d s m ++ d.toList.drop e)) := by
  obtain ⟨hs, ho, ha, hb⟩ := h
  refine List.ext_getElem? fun t => ?_
  by_cases ht : t < d.size
  · rw [get_toList d' t (by omega)]
    by_cases c1 : t < s
    · rw [List.getElem?_append_left (by rw [List.length_take, Array.length_toList]; omega), List.getElem?_take_of_lt c1, get_toList d t ht, ho t (.inl c1)]
    · rw [List.getElem?_append_right (by rw [List.length_take, Array.length_toList]; omega), List.length_take, Array.length_toList, show min s d.size = s by omega]
      by_cases c2 : t - s < e - m
      · rw [List.getElem?_append_left (by rw [seg_length d m e h3]; exact c2), seg_get d m e _ h3 c2, ← ha _ c2, show s + (t - s) = t by omega]
      · rw [List.getElem?_append_right (by rw [seg_length d m e h3]; omega), seg_length d m e h3]
        by_cases c3 : t - s - (e - m) < m - s
        · rw [List.getElem?_append_left (by rw [seg_length d s m (by omega)]; exact c3), seg_get d s m _ (by omega) c3, ← hb _ c3, show s + (e - m) + (t - s - (e - m)) = t by omega]
        · rw [List.getElem?_append_right (by rw [seg_length d s m (by omega)]; omega), seg_length d s m (by omega), List.getElem?_drop, get_toList d _ (by omega), ho t (.inr (by omega)), show e + (t - s - (e - m) - (m - s)) = t by omega]
  · rw [List.getElem?_eq_none (by rw [Array.length_toList]; omega), List.getElem?_eq_none]
    simp only [List.length_append, List.length_take, List.length_drop, Array.length_toList]
    rw [seg_length d m e h3, seg_length d s m (by omega)]
    omega
theorem rot_stab (hS : SWO lt) {d d' : Array α} {s m e : Nat} (h : RotOk d s m e d') (h1 : s ≤ m) (h2 : m ≤ e) (h3 : e ≤ d.size) (hl : ∀ i j, s ≤ i → i < m → m ≤ j → j < e → lt d[j]! d[i]! = true) : Stab lt d.toList d'.toList := by
  rw [rot_list h h1 h2 h3]
  conv => lhs; rw [seg_four d s m e h1 h2]
  refine (Stab.refl _).app ?_
  rw [← List.append_assoc, ← List.append_assoc]
  refine Stab.app (stab_swap hS fun x hx y hy => ?_) (Stab.refl _)
  obtain ⟨i, i1, i2, rfl⟩ := seg_mem d s m (by omega) hx
  obtain ⟨j, j1, j2, rfl⟩ := seg_mem d m e h3 hy
  exact hl i j i1 i2 j1 j2
/-- Two neighbors change places. -/
theorem swp_rot (d : Array α) (i j : Nat) (hj : j + 1 < d.size) (hi : i = j + 1) : RotOk d j (j + 1) (j + 2) (swp d i j) ∧ RotOk d j (j + 1) (j + 2) (swp d j i) := by
  subst hi
  have e1 : (swp d (j + 1) j)[j]! = d[j + 1]! := swp_right d (j + 1) j (by omega)
  have e2 : (swp d (j + 1) j)[j + 1]! = d[j]! := swp_left d (j + 1) j (by omega) (by omega)
  have e3 : (swp d j (j + 1))[j]! = d[j + 1]! := swp_left d j (j + 1) (by omega) (by omega)
  have e4 : (swp d j (j + 1))[j + 1]! = d[j]! := swp_right d j (j + 1) (by omega)
  have o1 : ∀ t, t ≠ j → t ≠ j + 1 → (swp d (j + 1) j)[t]! = d[t]! := fun t h1 h2 => swp_other d (j + 1) j t h2 h1
  have o2 : ∀ t, t ≠ j → t ≠ j + 1 → (swp d j (j + 1))[t]! = d[t]! := fun t h1 h2 => swp_other d j (j + 1) t h1 h2
  have z1 := size_swp d (j + 1) j
  have z2 := size_swp d j (j + 1)
  generalize swp d (j + 1) j = x at *
  generalize swp d j (j + 1) = y at *
  refine ⟨⟨z1, fun t ht => o1 t (by omega) (by omega), fun t ht => ?_, fun t ht => ?_⟩, z2, fun t ht => o2 t (by omega) (by omega), fun t ht => ?_, fun t ht => ?_⟩
  · rw [show j + t = j by omega, show j + 1 + t = j + 1 by omega, e1]
  · rw [show j + (j + 2 - (j + 1)) + t = j + 1 by omega, show j + t = j by omega, e2]
  · rw [show j + t = j by omega, show j + 1 + t = j + 1 by omega, e3]
  · rw [show j + (j + 2 - (j + 1)) + t = j + 1 by omega, show j + t = j by omega, e4]
/-- Two rows of n places have changed places. -/
def SwpOk (d : Array α) (a b n : Nat) (d' : Array α) : Prop :=
  d'.size = d.size ∧ (∀ t, t < n → d'[a + t]! = d[b + t]! ∧ d'[b + t]! = d[a + t]!) ∧ (∀ t, (t < a ∨ a + n ≤ t) → (t < b ∨ b + n ≤ t) → d'[t]! = d[t]!)
theorem SwpOk.zero (d : Array α) (a b : Nat) : SwpOk d a b 0 d := ⟨rfl, fun t h => absurd h (by omega), fun _ _ _ => rfl⟩
theorem SwpOk.step {d dk : Array α} {a b i : Nat} (h : SwpOk d a b i dk) (n : Nat) (hi : i < n) (hab : a + n ≤ b) (hb : b + n ≤ d.size) : SwpOk d a b (i + 1) (swp dk (a + i) (b + i)) := by
  obtain ⟨hs, h1, h2⟩ := h
  refine ⟨by rw [size_swp, hs], fun t ht => ?_, fun t ha hb' => ?_⟩
  · by_cases e : t = i
    · subst e
      rw [swp_left _ _ _ (by omega) (by omega), swp_right _ _ _ (by omega), h2 (b + t) (by omega) (by omega), h2 (a + t) (by omega) (by omega)]
      exact ⟨rfl, rfl⟩
    · rw [swp_other _ _ _ _ (by omega) (by omega), swp_other _ _ _ _ (by omega) (by omega)]
      exact h1 t (by omega)
  · rw [swp_other _ _ _ _ (by omega) (by omega)]
    exact h2 t (by omega) (by omega)
/-- Places a to b are permuted among themselves, those of each class let in their order. -/
def Mix (lt : α → α → Bool) (a b : Nat) (d d' : Array α) : Prop := PermIn a b d d' ∧ Stab lt d.toList d'.toList
theorem Mix.refl (a b : Nat) (d : Array α) : Mix lt a b d d := ⟨permIn_refl d a b, Stab.refl _⟩
theorem Mix.trans {a b : Nat} {d d' d'' : Array α} (h : Mix lt a b d d') (h' : Mix lt a b d' d'') : Mix lt a b d d'' := ⟨permIn_trans _ _ _ _ _ h.1 h'.1, h.2.trans h'.2⟩
theorem Mix.size {a b : Nat} {d d' : Array α} (h : Mix lt a b d d') : d'.size = d.size := h.1.1
theorem Mix.out {a b : Nat} {d d' : Array α} (h : Mix lt a b d d') (t : Nat) (ht : t < a ∨ b ≤ t) : d'[t]! = d[t]! := h.1.2.1 t ht
theorem Mix.all {a b : Nat} {d d' : Array α} (h : Mix lt a b d d') (hb : b ≤ d.size) (p : α → Prop) (hp : ∀ i, a ≤ i → i < b → p d[i]!) : ∀ i, a ≤ i → i < b → p d'[i]! := permIn_all d d' a b p hb h.1 hp
theorem Mix.swp (hS : SWO lt) (d : Array α) {a b i j : Nat} (hi : i = j + 1) (ha : a ≤ j) (hb : i < b) (hsz : b ≤ d.size) (hl : lt d[i]! d[j]! = true) : Mix lt a b d (swp d i j) := by
  refine ⟨swp_permIn d a b i j (by omega) hb ha (by omega) hsz, rot_stab hS (swp_rot d i j (by omega) hi).1 (by omega) (by omega) (by omega) fun i' j' h1 h2 h3 h4 => ?_⟩
  obtain rfl : i' = j := by omega
  obtain rfl : j' = i := by omega
  exact hl
theorem Mix.inner (hS : SWO lt) {a b : Nat} : ∀ (j : Nat) (d : Array α), j < b → b ≤ d.size → Mix lt a b d (insInner lt a j d)
  | 0, d, _, _ => Mix.refl _ _ _
  | j + 1, d, h, hb => by
    unfold insInner
    split
    · rename_i hc
      simp only [Bool.and_eq_true, decide_eq_true_iff] at hc
      have h1 := Mix.swp hS d (a := a) (b := b) (i := j + 1) (j := j) rfl (by omega) h hb hc.2
      exact h1.trans (Mix.inner hS j _ (by omega) (by rw [size_swp]; exact hb))
    · exact Mix.refl _ _ _
end
end Go.Proofs.Ytnnkcgbnhjkahaa
namespace Go.Proofs.Ytnnkcgbnhjkahaa
open Go.Sort
section
variable {α : Type} [Inhabited α] {lt : α → α → Bool}
theorem RotOk.refl (d : Array α) (s m : Nat) : RotOk d s m m d := ⟨rfl, fun _ _ => rfl, fun t h => absurd h (by omega), fun t h => by
  rw [show s + (m - m) + t = s + t by omega]⟩
end
end Go.Proofs.Ytnnkcgbnhjkahaa
namespace Go.Proofs.Ytnnkcgbnhjkahaa
open Go.RowKit Go.Shelf Go.Lib Go.Sort

section
variable {α : Type} {enc : α → List Value} {k : Nat}
/-- The cells of items, one behind the other. -/
def cellsBy (enc : α → List Value) (L : List α) : List Value := L.flatMap enc
theorem by_cons (x : α) (L : List α) : cellsBy enc (x :: L) = enc x ++ cellsBy enc L := by simp [cellsBy]
theorem by_append (L M : List α) : cellsBy enc (L ++ M) = cellsBy enc L ++ cellsBy enc M := by simp [cellsBy]
theorem by_one (x : α) : cellsBy enc [x] = enc x := by simp [cellsBy]
theorem by_length (hk : ∀ x, (enc x).length = k) (L : List α) : (cellsBy enc L).length = L.length * k := by
  induction L with
  | nil => simp [cellsBy]
  | cons x L ih => rw [by_cons, List.length_append, ih, hk, List.length_cons, Nat.succ_mul, Nat.add_comm]
theorem by_at (hk : ∀ x, (enc x).length = k) : ∀ (L : List α) (j : Nat) (x : α), L[j]? = some x → ∀ i, i < k → (cellsBy enc L)[j * k + i]? = (enc x)[i]?
  | [], j, x, h, i, hi => by simp at h
  | y :: L, 0, x, h, i, hi => by
    simp at h
    subst h
    rw [by_cons, Nat.zero_mul, Nat.zero_add, List.getElem?_append_left (by rw [hk]; exact hi)]
  | y :: L, j + 1, x, h, i, hi => by
    have := by_at hk L j x (by simpa using h) i hi
    rw [by_cons, List.getElem?_append_right (by rw [hk, Nat.succ_mul]; omega), hk, ← this]
    congr 1
    rw [Nat.succ_mul]
    omega
/-- A row of the call's own, item j of it. -/
theorem own_item {w : World} {base n : Nat} {ty : TypeId} {A : Option Addr} {c : Nat} {L : List α} (hk : ∀ x, (enc x).length = k) (hk0 : 0 < k) (h : w.ownsRow base ty k (.slice A n c) n (cellsBy enc L)) {j : Nat} {x : α} (hj : L[j]? = some x) :
    ∃ g, A = some ⟨g, 0, none⟩ ∧ base ≤ g ∧ g < w.heap.size ∧ n ≤ c ∧ c ≤ maxLen ∧ ∀ i, i < k → w.cell? ⟨g, j * k + i, none⟩ = (enc x)[i]? := by
  have hl := h.1
  rw [by_length hk] at hl
  have hln : L.length = n := Nat.eq_of_mul_eq_mul_right hk0 hl
  have hjl := (List.getElem?_eq_some_iff.1 hj).1
  rcases h.2 with ⟨_, hn⟩ | ⟨g, cap, cur, hv, hb, hg, h1, h2, h3, h4⟩
  · omega
  · cases hv
    refine ⟨g, rfl, hb, (Array.getElem?_eq_some_iff.1 hg).1, h1, h2, fun i hi => ?_⟩
    have hB : Blk w g ty cur := hg
    have hlt : j * k + i < n * k := by
      have : (j + 1) * k ≤ n * k := Nat.mul_le_mul_right k (by omega)
      rw [Nat.succ_mul] at this
      omega
    rw [hB.cell, ← by_at hk L j x hj i hi, ← h4, List.getElem?_take, if_pos hlt]
    simp
theorem own_lenH {w : World} {base n : Nat} {ty : TypeId} {v : Value} {L : List α} (hk : ∀ x, (enc x).length = k) (hk0 : 0 < k) (h : w.ownsRow base ty k v n (cellsBy enc L)) : L.length = n := by
  have hl := h.1
  rw [by_length hk] at hl
  exact Nat.eq_of_mul_eq_mul_right hk0 hl
end

instance : Inhabited Hd := ⟨⟨0, 0, 0, 0, 0, 0, 0⟩⟩
def encHd (h : Hd) : List Value := [.int .i64 h.age, .int .i64 h.kind, .int .i64 h.id, .int .i64 h.adv, .int .i64 h.seq, .int .i64 h.sum, .int .i64 h.long]
theorem encHd_len (h : Hd) : (encHd h).length = 7 := rfl
theorem encHd_ones (h : Hd) : ∀ v ∈ encHd h, v.oneCell' = true := fun v hv => by
  simp only [encHd, List.mem_cons, List.not_mem_nil, or_false] at hv
  rcases hv with rfl | rfl | rfl | rfl | rfl | rfl | rfl <;> rfl
def lessH (a b : Hd) : Bool := lessKy (keyH a) (keyH b)
theorem swo_less : SWO lessH where
  irrefl x := lessKy_irrefl _
  trans x y z h1 h2 := lessKy_trans h1 h2
  ntrans x y z h1 h2 := by
    cases h : lessH x z
    · rfl
    · have n1 : ¬ lessKy (keyH x) (keyH y) = true := by
        show ¬ lessH x y = true
        rw [h1]
        decide
      have n2 : ¬ lessKy (keyH y) (keyH z) = true := by
        show ¬ lessH y z = true
        rw [h2]
        decide
      have h3 : lessKy (keyH x) (keyH z) = true := h
      rw [lessKy_iff] at n1 n2 h3
      omega
theorem Blk.sevenH {w : World} {g : Nat} {t : TypeId} {a0 a1 a2 a3 a4 a5 a6 : Value} (h : Blk w g t #[a0, a1, a2, a3, a4, a5, a6]) : w.cell? ⟨g, 0, none⟩ = some a0 ∧ w.cell? ⟨g, 1, none⟩ = some a1 ∧ w.cell? ⟨g, 2, none⟩ = some a2 ∧ w.cell? ⟨g, 3, none⟩ = some a3 ∧ w.cell? ⟨g, 4, none⟩ = some a4 ∧ w.cell? ⟨g, 5, none⟩ = some a5 ∧ w.cell? ⟨g, 6, none⟩ = some a6 := ⟨h.cell 0, h.cell 1, h.cell 2, h.cell 3, h.cell 4, h.cell 5, h.cell 6⟩
end Go.Proofs.Ytnnkcgbnhjkahaa
namespace Go.Proofs.Ytnnkcgbnhjkahaa
open Go.ChangeShapes Go.WideShapes Go.RowKit Go.Deep
set_option maxRecDepth 20000

theorem Try.cells3 : Try.prog.cellsOf 3 = 1 := by kernel_rfl
theorem Try.cells23 : Try.prog.cellsOf 38 = 7 := by kernel_rfl
theorem Try.cells24 : Try.prog.cellsOf 59 = 1 := by kernel_rfl
theorem Try.cells25 : Try.prog.cellsOf 60 = 1 := by kernel_rfl
theorem Try.cells53 : Try.prog.cellsOf 96 = 4 := by kernel_rfl

section
variable {H : Type} {enc : TypeId × Value → H} {w : World} {base : Nat} {held : Bool} {fuel : Nat}
theorem int_came {c : Value} {y : Option (DataW H × List MemPlace)} {spare : Nat → Bool} (hy : y.isSome = true) (h : DataW.trod enc Try.prog w base spare held fuel 3 [c] = y) : ∃ z, c = .int .i64 z := by
  obtain ⟨x, rfl⟩ := Option.isSome_iff_exists.1 hy
  obtain ⟨z, hz, _⟩ := DataW.trod_int Try.underlying3 h
  simp at hz
  exact ⟨z, hz⟩
/-- Four integers that came in are a link. -/
theorem link_came {cs : List Value} {x : DataW H × List MemPlace} {spare : Nat → Bool} (h : DataW.trod enc Try.prog w base spare held fuel 96 cs = some x) :
    ∃ k : Lk, cs = [.int .i64 k.kind, .int .i64 k.id, .int .i64 k.data, .int .i64 k.cost] := by
  obtain ⟨xs, n, _, _, hcl, hlen, hg⟩ := DataW.trod_struct Try.underlying96 h
  rw [Try.cells53] at hcl
  have g0 : DataW.trod enc Try.prog w base spare held n 3 ((cs.drop 0).take (Try.prog.cellsOf 3)) = xs[0]? := hg 0 _ rfl
  have g1 : DataW.trod enc Try.prog w base spare held n 3 ((cs.drop 1).take (Try.prog.cellsOf 3)) = xs[1]? := hg 1 _ rfl
  have g2 : DataW.trod enc Try.prog w base spare held n 3 ((cs.drop 2).take (Try.prog.cellsOf 3)) = xs[2]? := hg 2 _ rfl
  have g3 : DataW.trod enc Try.prog w base spare held n 3 ((cs.drop 3).take (Try.prog.cellsOf 3)) = xs[3]? := hg 3 _ rfl
  rw [Try.cells3] at g0 g1 g2 g3
  match cs, hcl, xs, hlen with
  | [c0, c1, c2, c3], _, [y0, y1, y2, y3], _ =>
    obtain ⟨z0, rfl⟩ := int_came rfl g0
    obtain ⟨z1, rfl⟩ := int_came rfl g1
    obtain ⟨z2, rfl⟩ := int_came rfl g2
    obtain ⟨z3, rfl⟩ := int_came rfl g3
    exact ⟨⟨z0, z1, z2, z3⟩, rfl⟩
/-- A slice of links that came in. -/
theorem lnk_came {v : Value} {x : DataW H × List MemPlace} (h : DataW.trod enc Try.prog w base (fun _ => true) held fuel 59 [v] = some x) :
    ∃ A n c L, v = .slice A n c ∧ Lnk w w.heap.size A n L ∧ n ≤ c ∧ c ≤ maxLen := by
  rcases open_slice Try.underlying59 h with ⟨hcs, _⟩ | ⟨a, len, cap, m, n, D, Pl, hcs, _, hl, hm, hmm, _, hi⟩
  · simp at hcs
    subst hcs
    exact ⟨none, 0, 0, [], rfl, Lnk.nil, Nat.le_refl _, by unfold maxLen; omega⟩
  · simp at hcs
    subst hcs
    simp at hmm
    subst hmm
    rw [Try.cells53] at hi
    have hk : ∀ i, i < m → ∃ k : Lk, w.cell? (a.add (i * 4)) = some (.int .i64 k.kind) ∧ w.cell? ((a.add (i * 4)).add 1) = some (.int .i64 k.id) ∧ w.cell? ((a.add (i * 4)).add 2) = some (.int .i64 k.data) ∧ w.cell? ((a.add (i * 4)).add 3) = some (.int .i64 k.cost) := by
      intro i him
      obtain ⟨cs', hc, ht⟩ := hi i him
      obtain ⟨_, hcl, hat⟩ := World.cells?_some hc
      obtain ⟨k, rfl⟩ := link_came ht
      refine ⟨k, ?_, hat 1 (by omega), hat 2 (by omega), hat 3 (by omega)⟩
      have h0 := hat 0 (by omega)
      have e : (a.add (i * 4)).add 0 = a.add (i * 4) := by
        unfold Addr.add
        split <;> simp_all
      rw [e] at h0
      exact h0
    obtain ⟨F, hF⟩ : ∃ F : Nat → Lk, ∀ i, i < m → w.cell? (a.add (i * 4)) = some (.int .i64 (F i).kind) ∧ w.cell? ((a.add (i * 4)).add 1) = some (.int .i64 (F i).id) ∧ w.cell? ((a.add (i * 4)).add 2) = some (.int .i64 (F i).data) ∧ w.cell? ((a.add (i * 4)).add 3) = some (.int .i64 (F i).cost) := by
      refine ⟨fun i => if hi : i < m then Classical.choose (hk i hi) else ⟨0, 0, 0, 0⟩, fun i him => ?_⟩
      simp only [him, dif_pos]
      exact Classical.choose_spec (hk i him)
    refine ⟨some a, len, m, (List.range len).map F, rfl, ⟨by simp, fun hn => ?_⟩, hl, hm⟩
    obtain ⟨b, o, spot⟩ := a
    have hspot : spot = none := by simpa [Addr.add] using World.cell?_spot (hF 0 (by omega)).1
    subst hspot
    refine ⟨b, o, rfl, World.block_lt_of_cell? w _ (hF 0 (by omega)).1, fun j hj => ?_⟩
    have e : ((List.range len).map F).getD j ⟨0, 0, 0, 0⟩ = F j := by
      rw [List.getD_eq_getElem?_getD, List.getElem?_map, List.getElem?_range hj]; rfl
    rw [e]
    obtain ⟨h0, h1, h2, h3⟩ := hF j (by omega)
    simp only [addr_add] at h0 h1 h2 h3
    exact ⟨h0, h1, h2, h3⟩
/-- A slice of integers that came in. -/
theorem ints_came {v : Value} {x : DataW H × List MemPlace} (h : DataW.trod enc Try.prog w base (fun _ => true) held fuel 60 [v] = some x) :
    ∃ A n c M, v = .slice A n c ∧ Row .i64 w w.heap.size A n M ∧ n ≤ c ∧ c ≤ maxLen := by
  rcases open_ints Try.underlying60 Try.underlying3 Try.cells3 h with ⟨hcs, _⟩ | ⟨x', l, c, zs, hcs, _, hl, hm, hz, _, hcell, hwz⟩
  · simp at hcs
    subst hcs
    exact ⟨none, 0, 0, [], rfl, Row.nil, Nat.le_refl _, by unfold maxLen; omega⟩
  · simp at hcs
    subst hcs
    obtain ⟨M, h1, _, h3, _⟩ := row_of_is (k := .i64) (w := w) (a := some x') (len := l) (cap := c) (zs := zs) (.inr ⟨x', rfl, hl, hm, by simpa using hz, hcell, hwz⟩)
    exact ⟨some x', l, c, M, rfl, h1, hl, hm⟩
end
end Go.Proofs.Ytnnkcgbnhjkahaa
namespace Go.Proofs.Ytnnkcgbnhjkahaa
open Go.ChangeShapes Go.WideShapes Go.RowKit Go.Deep
set_option maxRecDepth 20000

section
variable {H : Type} {enc : TypeId × Value → H} {w : World} {base : Nat} {held : Bool} {fuel : Nat}
theorem int_cameB {c : Value} {y : Option (DataW H × List MemPlace)} {spare : Nat → Bool} (hy : y.isSome = true) (h : DataW.trod enc Try.prog w base spare held fuel 3 [c] = y) : ∃ z, c = .int .i64 z ∧ -9223372036854775808 ≤ z ∧ z ≤ 9223372036854775807 := by
  obtain ⟨x, rfl⟩ := Option.isSome_iff_exists.1 hy
  obtain ⟨z, hz, _, hw⟩ := DataW.trod_int Try.underlying3 h
  simp at hz
  have := bounds_i64 hw
  exact ⟨z, hz, by omega, by omega⟩
/-- A slice of structs that came in. -/
theorem arr_came {α : Type} {sz t te : Nat} {P : World → Nat → Nat → Nat → α → Prop} {v : Value} {x : DataW H × List MemPlace} (d0 : α) (ht : Try.prog.underlying t = some (.slice te)) (hsz : Try.prog.cellsOf te = sz) (hpos : 0 < sz)
    (hP : ∀ (n : Nat) (a : Addr) (cs : List Value) (y : DataW H × List MemPlace), (∀ i, i < sz → w.cell? (a.add i) = cs[i]?) → DataW.trod enc Try.prog w base (fun _ => true) held n te cs = some y → a.spot = none → ∃ k, P w w.heap.size a.block a.off k)
    (h : DataW.trod enc Try.prog w base (fun _ => true) held fuel t [v] = some x) :
    ∃ A n c L, v = .slice A n c ∧ Arr sz P w w.heap.size A n L ∧ n ≤ c ∧ c ≤ maxLen := by
  rcases open_slice ht h with ⟨hcs, _⟩ | ⟨a, len, cap, m, n, D, Pl, hcs, _, hl, hm, hmm, _, hi⟩
  · simp at hcs
    subst hcs
    exact ⟨none, 0, 0, [], rfl, Arr.nil, Nat.le_refl _, by unfold maxLen; omega⟩
  · simp at hcs
    subst hcs
    simp at hmm
    subst hmm
    rw [hsz] at hi
    have hk : ∀ i, i < m → (a.add (i * sz)).spot = none ∧ (a.add (i * sz)).block < w.heap.size ∧ ∃ k, P w w.heap.size (a.add (i * sz)).block (a.add (i * sz)).off k := by
      intro i him
      obtain ⟨cs', hc, htr⟩ := hi i him
      obtain ⟨_, hcl, hat⟩ := World.cells?_some hc
      have h0 := hat 0 hpos
      have e : (a.add (i * sz)).add 0 = a.add (i * sz) := by
        unfold Addr.add
        split <;> simp_all
      rw [e] at h0
      rw [List.getElem?_eq_getElem (by omega)] at h0
      have hsp := World.cell?_spot h0
      exact ⟨hsp, World.block_lt_of_cell? w _ h0, hP _ _ _ _ hat htr hsp⟩
    have hsp : 0 < m → a.spot = none := fun h0 => by simpa [Addr.add] using (hk 0 h0).1
    obtain ⟨F, hF⟩ : ∃ F : Nat → α, ∀ i, i < m → P w w.heap.size (a.add (i * sz)).block (a.add (i * sz)).off (F i) := by
      refine ⟨fun i => if hi : i < m then Classical.choose (hk i hi).2.2 else d0, fun i him => ?_⟩
      simp only [him, dif_pos]
      exact Classical.choose_spec (hk i him).2.2
    refine ⟨some a, len, m, (List.range len).map F, rfl, ⟨by simp, fun hn => ?_⟩, hl, hm⟩
    obtain ⟨b, o, spot⟩ := a
    have hspot : spot = none := hsp (by omega)
    subst hspot
    have hb := (hk 0 (by omega)).2.1
    simp only [addr_add] at hb hF
    refine ⟨b, o, rfl, hb, fun j y hy => ?_⟩
    rw [List.getElem?_map] at hy
    have hj : j < len := by
      rcases Nat.lt_or_ge j len with h | h
      · exact h
      · rw [List.getElem?_eq_none (by simpa using h)] at hy
        cases hy
    rw [List.getElem?_range hj] at hy
    obtain rfl : F j = y := by simpa using hy
    exact hF j (by omega)
end
end Go.Proofs.Ytnnkcgbnhjkahaa
