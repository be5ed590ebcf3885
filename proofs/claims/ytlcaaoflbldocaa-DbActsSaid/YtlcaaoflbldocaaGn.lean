/- The program's All. Conditions: what the words say. -/
import Derived.Test.YtlcaaoflbldocaaGm
import Derived.Test.YtlcaaoflbldocaaGi
namespace Go.Proofs.Ytlcaaoflbldocaa
open Go.RowKit

/-- A list of keys of the call's own, item j of it. -/
theorem own_ky {w : World} {base n : Nat} {A : Option Addr} {c : Nat} {K : List Ky} (h : w.ownsRow base 38 3 (.slice A n c) n (kyCells K)) {j : Nat} {k : Ky} (hj : K[j]? = some k) :
    ∃ g, A = some ⟨g, 0, none⟩ ∧ base ≤ g ∧ g < w.heap.size ∧ n ≤ c ∧ c ≤ maxLen ∧ w.cell? ⟨g, j * 3, none⟩ = some (.int .i64 k.kind) ∧ w.cell? ⟨g, j * 3 + 1, none⟩ = some (.int .i64 k.id) ∧ w.cell? ⟨g, j * 3 + 2, none⟩ = some (.int .i64 k.adv) := by
  have hl := h.1
  rw [kyCells_length] at hl
  have hjl := (List.getElem?_eq_some_iff.1 hj).1
  rcases h.2 with ⟨_, hn⟩ | ⟨g, cap, cur, hv, hb, hg, h1, h2, h3, h4⟩
  · omega
  · cases hv
    have hat : ∀ i, i < 3 → w.cell? ⟨g, j * 3 + i, none⟩ = (encKy k)[i]? := fun i hi => by
      have hB : Blk w g 38 cur := hg
      have e := kyCells_at K j k hj i hi
      rw [hB.cell]
      rw [show (encKy k)[i]? = (kyCells K)[j * 3 + i]? from e.symm, ← h4, List.getElem?_take, if_pos (by omega)]
      simp
    exact ⟨g, rfl, hb, (Array.getElem?_eq_some_iff.1 hg).1, h1, h2, hat 0 (by omega), hat 1 (by omega), hat 2 (by omega)⟩
theorem all2_snoc {α β : Type} {P : α → β → Prop} {R : List α} {S : List β} (h : All2 P R S) {r : α} {x : β} (hx : P r x) : All2 P (R ++ [r]) (S ++ [x]) := by
  induction R generalizing S with
  | nil =>
    cases S with
    | nil => exact All2.cons hx All2.nil
    | cons y S => have := h.1; simp at this
  | cons r' R ih =>
    cases S with
    | nil => have := h.1; simp at this
    | cons y S => exact All2.cons h.head.1 (ih h.head.2)
/-- The one of item j. -/
theorem item_db {w : World} {lo : Nat} {R : List Rc} {T S : List La} (hA : All2 (RcIs w lo) R T) (hp : T.Perm S) (hs : SortL S) (h5 : ∀ x ∈ S, rightB x.h x.L x.M = true) {x : La} (hx : x ∈ S) :
    ∃ r0, getR R (kyL x) = some r0 ∧ RcIs w lo r0 x ∧ r0.p.n ≤ 1000 ∧ r0.q.n ≤ 1000 ∧ wfKy (kyL x) := by
  rcases get_both (fun r y h => h.1) hA hp hs (kyL x) with ⟨h1, h2⟩ | ⟨r, y, h1, h2, h3, h4, h6⟩
  · rw [getL_mem hs hx] at h2
    cases h2
  · rw [getL_mem hs hx] at h2
    cases h2
    obtain ⟨e1, e2⟩ := rc_short h3 (h5 x hx)
    exact ⟨r, h1, h3, e1, e2, wfKy_right (h5 x hx)⟩
theorem step_append_g8 {ops : Array Oper} {o : Oper} {a : Act} {w : World} {K : Act → World → Prop} {Q : Exit → Act → World → Prop} {E : Prop} (hgd : o.guard = none) (s x : Operand) (t e : TypeId) (z : Value) (size bytes : Nat)
    (ht : Try.prog.underlying t = some (.slice e)) (hinfo : (Try.prog.info? e).map (fun i => (i.zero, i.size, i.bytes)) = some (some z, size, bytes)) (hzs : z.cells.size = size) (hsz : 0 < size) (hby : bytes ≤ 1024)
    (ho : o.op = .call { callee := .builtin .append, args := #[s, x], argTypes := #[t, t] }) (base : Nat) (v : Value) (n : Nat) (xs : List Value) (hs : a.eval s = v) (hown : w.ownsRow base e size v n xs)
    (b : Nat) (news : List Value) (hx : a.eval x = .slice (some ⟨b, 0, none⟩) 1 1) (hl : news.length = size) (hb : Blk w b e news.toArray) (h1 : ∀ u ∈ news, u.oneCell' = true) (hn : n ≤ 1048576) (hbase : base ≤ w.heap.size)
    (hK : ∀ v' w', Hid (w'.ownsRow base e size v' (n + 1) (xs ++ news)) → Hid (w.grownBy w' v.ownBlock) → Hid (v'.ownBlock = v.ownBlock ∨ v'.ownBlock = some w.heap.size) → K (a.put o.dst v') w') : if Region.wanted o (yielded ops a.tmps) = true then Oper.wp Try.prog o a w K Q else E := by
  have hw : Region.wanted o (yielded ops a.tmps) = true := by simp [Region.wanted, hgd]
  rw [if_pos hw]
  obtain ⟨i0, hi, hz0, hz1, hz2⟩ := info_parts hinfo
  have hnews : ∀ j u, news[j]? = some u → w.cell? ((⟨b, 0, none⟩ : Addr).add j) = some u := by
    intro j u hu
    rw [addr_add, hb.cell, Nat.zero_add, List.getElem?_toArray]
    exact hu
  have hbb : (n + 1) * bytes ≤ 1048577 * 1024 := Nat.mul_le_mul (by omega) hby
  obtain ⟨v', w', hrun, h2, h3, h4⟩ := run_append_own_at (P := Try.prog) w base t o.type e i0 z size bytes ht hi hz0 hz1 hz2 hzs hsz v n xs hown ⟨b, 0, none⟩ 1 1 news (by omega) hnews h1 (by unfold maxLen; omega) (by omega) hbase
  unfold Oper.wp execOp
  simp only [ho, resolve, invoke, builtin, Sem.run_bind, Sem.run_pure, Result.andThen_ok, List.map_toArray, List.map_cons, List.map_nil, hs, hx, hrun]
  exact hK v' w' h2 h3 h4.2


theorem fresh8 {w : World} {lo : Nat} {r : Rc} {x : La} (h : RcIs w lo r x) (hp : r.p.n ≤ 1000) (hq : r.q.n ≤ 1000) : Calls Try.prog 31 #[.agg #[.int .i64 r.h.age, .int .i64 r.h.kind, .int .i64 r.h.id, .int .i64 r.h.adv, .int .i64 r.h.seq, .int .i64 r.h.sum, .int .i64 r.h.long, .slice r.p.a r.p.n r.p.c, .slice r.q.a r.q.n r.q.c]] w
    fun e w' => ∃ r3 : Rc, e = .returned (.agg #[.int .i64 r3.h.age, .int .i64 r3.h.kind, .int .i64 r3.h.id, .int .i64 r3.h.adv, .int .i64 r3.h.seq, .int .i64 r3.h.sum, .int .i64 r3.h.long, .slice r3.p.a r3.p.n r3.p.c, .slice r3.q.a r3.q.n r3.q.c]) ∧ Below w.heap.size w w' ∧ RcIs w' w.heap.size r3 x :=
  (fresh7 h hp hq).mono fun _ _ ⟨r', h1, h2, h3, _⟩ => ⟨r', h1, h2, h3⟩
theorem keepAll {w0 w' : World} {b p gk : Nat} {R : List Rc} {F : Nat → Prop} {t t2 : TypeId} {v0 v1 k0 k1 k2 : Value} (hM : MapIs w0 b R) (hB : Blk w0 p t #[v0, v1]) (hk : Blk w0 gk t2 #[k0, k1, k2]) (nb : ¬ F b) (np : ¬ F p) (nk : ¬ F gk) (hc : Chg F w0 w') :
    Chg F w0 w' ∧ MapIs w' b R ∧ w'.cell? ⟨p, 1, none⟩ = some v1 ∧ w'.cell? ⟨gk, 0, none⟩ = some k0 ∧ w'.cell? ⟨gk, 1, none⟩ = some k1 ∧ w'.cell? ⟨gk, 2, none⟩ = some k2 := by
  obtain ⟨e0, e1, e2⟩ := (hk.chg hc nk).three
  exact ⟨hc, hM.chg hc nb, (hB.chg hc np).cell 1, e0, e1, e2⟩
theorem rcCells_ones1 (r : Rc) : ∀ u ∈ r.cells, u.oneCell' = true := fun u hu => rcCells_ones [r] u (by rw [rcCells_cons, List.mem_append]; exact .inl hu)
/-- A round's end: one more in the list. -/
theorem all_end {w1 wr w2 w3 w4 : World} {A A2 : Option Addr} {j c c2 : Nat} {R' : List Rc} {S : List La} {r3 : Rc} {x : La} {o : Obj} (hO : wr.ownsRow w1.heap.size 34 9 (.slice A j c) j (rcCells R')) (hA : All2 (RcIs wr w1.heap.size) R' (S.take j)) (hB : Below w1.heap.size w1 wr) (h2 : Below wr.heap.size wr w2) (h3 : Below w2.heap.size w2 w3) (hr : RcIs w3 w2.heap.size r3 x) (hg : (w3.alloc o).grownBy w4 (Value.slice A j c).ownBlock) (hx : S[j]? = some x)
    (ho4 : w4.ownsRow w1.heap.size 34 9 (.slice A2 (j + 1) c2) (j + 1) (rcCells R' ++ r3.cells)) :
    Hid (w4.ownsRow w1.heap.size 34 9 (.slice A2 (j + 1) c2) (j + 1) (rcCells (R' ++ [r3]))) ∧ Hid (All2 (RcIs w4 w1.heap.size) (R' ++ [r3]) (S.take (j + 1))) ∧ Hid (Below w1.heap.size w1 w4) := by
  have hz1 := hB.size
  have hz2 := h2.size
  have b23 : Below wr.heap.size wr w3 := h2.trans (h3.mono hz2)
  have b3 : Below wr.heap.size wr (w3.alloc o) := b23.alloc b23.size o
  have hlt : ∀ q, (Value.slice A j c).ownBlock = some q → w1.heap.size ≤ q ∧ q < wr.heap.size := fun q hq => hO.lt q hq
  have hc : Chg (fun q => (Value.slice A j c).ownBlock = some q) wr w4 := (Chg.of_below (F := fun q => (Value.slice A j c).ownBlock = some q) b3).trans (Chg.of_grown hg (fun q hq => hq)) (fun q hq => .inl hq)
  have hc3 : Chg (fun q => (Value.slice A j c).ownBlock = some q) w3 w4 := (Chg.of_below (F := fun q => (Value.slice A j c).ownBlock = some q) ((Below.refl w3.heap.size w3).alloc (Nat.le_refl _) o)).trans (Chg.of_grown hg (fun q hq => hq)) (fun q hq => .inl hq)
  refine ⟨Lib.hid ?_, Lib.hid ?_, Lib.hid ?_⟩
  · rw [rcCells_append]
    have e : rcCells [r3] = r3.cells := by simp [rcCells]
    rw [e]
    exact ho4
  · have ht : S.take (j + 1) = S.take j ++ [x] := by
      rw [List.take_add_one, hx]
      rfl
    rw [ht]
    refine all2_snoc (all2_imp hA (fun r _ y hy => hy.chg hc (fun q hq => hy.apart hO hq))) ((hr.chg hc3 (fun q hq he => ?_)).mono (by omega))
    have h6 := (hr.foot hq).1
    have h7 := (hlt q he).2
    omega
  · exact hB.trans (b3.mono hz1) |>.grown hg (by have := b3.size; omega) (fun q hq => (hlt q hq).1)
set_option maxRecDepth 8000 in
set_option maxHeartbeats 8000000 in
theorem all_db {w : World} {lo p : Nat} {room : Int} {S : List La} {F : Nat → Prop} (h : PDb w lo p room S F) (hs : SortL S) : Calls Try.prog 22 #[.pointer (some ⟨p, 0, none⟩)] w
    fun e w' => ∃ (A : Option Addr) (n c : Nat) (R : List Rc), e = .returned (.slice A n c) ∧ Below w.heap.size w w' ∧ w'.ownsRow w.heap.size 34 9 (.slice A n c) n (rcCells R) ∧ All2 (RcIs w' w.heap.size) R S := by
  have HK := Lib.hid (keys_db h hs)
  obtain ⟨b, R, T, hB, h1, h2, hM, hA, hp, h3, h4, h5, hF⟩ := h
  generalize hQ : (fun (e : Ending) (w' : World) => ∃ (A : Option Addr) (n c : Nat) (R : List Rc), e = .returned (.slice A n c) ∧ Below w.heap.size w w' ∧ w'.ownsRow w.heap.size 34 9 (.slice A n c) n (rcCells R) ∧ All2 (RcIs w' w.heap.size) R S) = Q
  have HQ := Lib.hid hQ
  clear hQ
  have HI := Lib.hid (show ∀ x ∈ S, ∃ r0, getR R (kyL x) = some r0 ∧ RcIs w lo r0 x ∧ r0.p.n ≤ 1000 ∧ r0.q.n ≤ 1000 ∧ wfKy (kyL x) from fun x hx => item_db hA hp hs h5 hx)
  have HS40 := Lib.hid (show S.length ≤ 40 by omega)
  have HB := Lib.hid hB
  have HM := Lib.hid hM
  have hpl := hB.lt
  clear hB hM hA hp h1 h2 h3 h4 h5 hF
  go_enter Try.func22, Try.ntmps22
  go_wp2_with fail
  refine HK.out.mono ?_
  rintro e1 w1 ⟨A1, n1, cc1, rfl, hb1, ho1⟩
  have hn1 := ho1.1
  rw [kyCells_length, List.length_map] at hn1
  have HN1 := Lib.hid (show n1 = S.length by omega)
  have HO1 := Lib.hid ho1
  have HB1 := Lib.hid hb1
  clear ho1 hb1 hn1 HK
  go_wp2_with fail
  go_loopw [3, 9] (fun s3 s9 wr => ∃ (j c : Nat) (A : Option Addr) (R' : List Rc), j ≤ n1 ∧ s9 = .int .i64 j ∧ s3 = .slice A j c ∧ Hid (wr.ownsRow w1.heap.size 34 9 (.slice A j c) j (rcCells R')) ∧ Hid (All2 (RcIs wr w1.heap.size) R' (S.take j)) ∧ Hid (Below w1.heap.size w1 wr)) (fun _ i _ => n1 - (intOf i).toNat)
  case atStart => exact ⟨0, 0, none, [], Nat.zero_le _, rfl, rfl, Lib.hid (by exact World.ownsRow_nil _ _ _ _), Lib.hid All2.nil, Lib.hid (Below.refl _ _)⟩
  case round =>
    obtain ⟨j, c, A, R', hj, rfl, rfl, HO, HAL, HB2⟩ := hrel
    by_cases hlt : j < n1
    · have hlt' : (j : Int) < n1 := by omega
      obtain ⟨x, hx⟩ : ∃ x, S[j]? = some x := ⟨S[j]'(by have := HN1.out; omega), List.getElem?_eq_getElem (by have := HN1.out; omega)⟩
      have HX := Lib.hid hx
      obtain ⟨r0, hg0, hrc, hs1, hs2, hwf⟩ := HI.out x (List.mem_of_getElem? hx)
      have HWR := Lib.hid (HB1.out.trans (HB2.out.mono HB1.out.size))
      have hkj : (S.map kyL)[j]? = some (kyL x) := by rw [List.getElem?_map, hx]; rfl
      obtain ⟨g, rfl, -, hgl, hnc, hcm, y0, y1, y2⟩ := own_ky (own_below2 HO1.out HB2.out) hkj
      unfold maxLen at hcm
      have HRC := Lib.hid hrc
      have HG0 := Lib.hid hg0
      have HWF := Lib.hid hwf
      clear hx hrc hg0 hwf hkj
      generalize kyL x = k at *
      go_wp2_with fail
      have J2 := Lib.hid (Blk.new wr 38 #[.int .i64 k.kind, .int .i64 k.id, .int .i64 k.adv])
      have BW2 := Lib.hid ((Below.refl wr.heap.size wr).alloc (Nat.le_refl _) (.cells #[.int .i64 k.kind, .int .i64 k.id, .int .i64 k.adv] 38))
      clear y0 y1 y2
      generalize wr.alloc (.cells #[.int .i64 k.kind, .int .i64 k.id, .int .i64 k.adv] 38) = w2 at *
      have HW2 := Lib.hid (HWR.out.trans (BW2.out.mono HWR.out.size))
      have D2 := Lib.hid (HB.out.below HW2.out HB.out.lt)
      have M2 := Lib.hid (HM.out.below HW2.out HM.out.lt)
      have RC2 := Lib.hid (HRC.out.chg (Chg.of_below (F := fun _ => False) HW2.out) (fun _ _ hf => hf))
      have hlook : ∀ W : World, MapIs W b R → (Instr.lookup 63 (.map (some b)) (.agg #[.int .i64 k.kind, .int .i64 k.id, .int .i64 k.adv]) false).run Try.prog W = .ok (.agg #[.int .i64 r0.h.age, .int .i64 r0.h.kind, .int .i64 r0.h.id, .int .i64 r0.h.adv, .int .i64 r0.h.seq, .int .i64 r0.h.sum, .int .i64 r0.h.long, .slice r0.p.a r0.p.n r0.p.c, .slice r0.q.a r0.q.n r0.q.c]) W := fun W hW => (hW.look_some HWF.out HG0.out).2
      obtain ⟨k0, k1, k2⟩ := J2.out.three
      have c1 := D2.out.cell 1
      simp at c1
      have C0 : Chg (fun q => (Value.slice A j c).ownBlock = some q) w2 w2.drew := ⟨rfl, rfl, rfl, Nat.le_refl _, fun _ _ _ => rfl⟩
      have NB := Lib.hid (own_not HO.out (.inl (by have := HM.out.lt; have := HB1.out.size; omega) : b < w1.heap.size ∨ wr.heap.size ≤ b))
      have NP := Lib.hid (own_not HO.out (.inl (by have := HB1.out.size; omega) : p < w1.heap.size ∨ wr.heap.size ≤ p))
      have NK := Lib.hid (own_not HO.out (.inr (Nat.le_refl _) : wr.heap.size < w1.heap.size ∨ wr.heap.size ≤ wr.heap.size))
      have HO2 := Lib.hid (own_below2 HO.out BW2.out)
      have HZ2 := Lib.hid (Nat.le_trans HB2.out.size BW2.out.size)
      have HJ40 := Lib.hid (show j ≤ 1048576 by have := HN1.out; have := HS40.out; omega)
      go_region_held3 (fun w' => Chg (fun q => (Value.slice A j c).ownBlock = some q) w2 w' ∧ MapIs w' b R ∧ w'.cell? ⟨p, 1, none⟩ = some (.map (some b)) ∧ w'.cell? ⟨wr.heap.size, 0, none⟩ = some (.int .i64 k.kind) ∧ w'.cell? ⟨wr.heap.size, 1, none⟩ = some (.int .i64 k.id) ∧ w'.cell? ⟨wr.heap.size, 2, none⟩ = some (.int .i64 k.adv)) ((refine keepAll M2.out D2.out J2.out NB.out NP.out NK.out ?_; first | with_reducible exact C0 | with_reducible exact hC3 | with_reducible exact hC3a | with_reducible exact hC4 | with_reducible exact hC3.below ((Below.refl _ _).alloc (Nat.le_refl _) _)))
        (first
          | (go_at_call 31; refine (fresh8 (w := w2.drew) RC2.out hs1 hs2).mono ?_; rintro e3 w3 ⟨r3, rfl, hb3, hr3⟩; have hC3 := C0.below hb3)
          | (refine step_append_g8 (by rfl) (.tmp 13) (.tmp 21) 51 34 (.agg #[.int .i64 0, .int .i64 0, .int .i64 0, .int .i64 0, .int .i64 0, .int .i64 0, .int .i64 0, .slice none 0 0, .slice none 0 0]) 9 _ Try.underlying51 Try.infoLsa rfl (by decide) (by decide) (by rfl) w1.heap.size (.slice A j c) j (rcCells R') (by rfl) ((own_below2 (own_drew7 HO2.out) hb3).alloc _) w3.heap.size r3.cells (by rfl) rfl (Blk.new w3 34 #[.int .i64 r3.h.age, .int .i64 r3.h.kind, .int .i64 r3.h.id, .int .i64 r3.h.adv, .int .i64 r3.h.seq, .int .i64 r3.h.sum, .int .i64 r3.h.long, .slice r3.p.a r3.p.n r3.p.c, .slice r3.q.a r3.q.n r3.q.c]) (rcCells_ones1 r3) HJ40.out (Nat.le_trans HZ2.out (Nat.le_trans hb3.size (by simp))) ?_; intro v4 w4 ho4 hg4 hl4; obtain ⟨A4, c4, rfl⟩ := own_slice ho4.out; have hC4 := (hC3.below ((Below.refl _ _).alloc (Nat.le_refl _) _)).trans (Chg.of_grown (F := fun q => (Value.slice A j c).ownBlock = some q) hg4.out (fun q hq => hq)) (fun q hq => .inl hq)))
      obtain ⟨E1, E2, E3⟩ := all_end HO.out HAL.out HB2.out BW2.out (⟨hb3.os, hb3.tape, hb3.output, hb3.size, hb3.block⟩ : Below w2.heap.size w2 w3) hr3 hg4.out HX.out ho4.out
      clear hb3 hr3 hC3 ho4 hg4 hl4 hC4 C0 k0 k1 k2 c1 hlook hs1 hs2
      go_wp2
      go_roundw
      case rel => exact ⟨j + 1, c4, A4, R' ++ [r3], by omega, by go_num, rfl, E1, E2, E3⟩
      case measure => simp [intOf]; omega
    · have hjn : j = n1 := by omega
      subst hjn
      have HT := Lib.hid (show S.take j = S by rw [HN1.out]; exact List.take_length)
      go_wp2
      show Q (.returned (.slice A j c)) wr
      rw [← HQ.out]
      have h1 := HAL.out
      rw [HT.out] at h1
      exact ⟨A, j, c, R', rfl, HB1.out.trans (HB2.out.mono HB1.out.size), own_low HO.out HB1.out.size, h1.imp (fun r x h => h.mono HB1.out.size)⟩
end Go.Proofs.Ytlcaaoflbldocaa
