/- The program's All. Conditions: what the words say. · A tick, as what it makes of the list that a database holds, one by one: plain facts. No conditions. · The program's Tick. Conditions: what the words say. · The program's Get. Conditions: what the words say. · The program's Put. Conditions: what the words say; at most 50 links and 50 members. · A map of the places at which keys stand: what it holds, and what its operations make of that. Conditions: keys of 64 bits. -/
import Derived.Test.YtfdfdmbnggpnbaaGreatJan
import Derived.Test.YtfdfdmbnggpnbaaGreatJam
namespace Go.Proofs.YtfdfdmbnggpnbaaGreat
open Go.RowKit

/-- A list of keys of the call's own, item j of it. -/
theorem own_ky {w : World} {base n : Nat} {A : Option Addr} {c : Nat} {K : List Ky} (h : w.ownsRow base 48 3 (.slice A n c) n (kyCells K)) {j : Nat} {k : Ky} (hj : K[j]? = some k) :
    ∃ g, A = some ⟨g, 0, none⟩ ∧ base ≤ g ∧ g < w.heap.size ∧ n ≤ c ∧ c ≤ maxLen ∧ w.cell? ⟨g, j * 3, none⟩ = some (.int .i64 k.kind) ∧ w.cell? ⟨g, j * 3 + 1, none⟩ = some (.int .i64 k.id) ∧ w.cell? ⟨g, j * 3 + 2, none⟩ = some (.int .i64 k.adv) := by
  have hl := h.1
  rw [kyCells_length] at hl
  have hjl := (List.getElem?_eq_some_iff.1 hj).1
  rcases h.2 with ⟨_, hn⟩ | ⟨g, cap, cur, hv, hb, hg, h1, h2, h3, h4⟩
  · omega
  · cases hv
    have hat : ∀ i, i < 3 → w.cell? ⟨g, j * 3 + i, none⟩ = (encKy k)[i]? := fun i hi => by
      have hB : Blk w g 48 cur := hg
      have e := kyCells_at K j k hj i hi
      rw [hB.cell]
      rw [show (encKy k)[i]? = (kyCells K)[j * 3 + i]? from e.symm, ← h4, List.getElem?_take, if_pos (by omega)]
      simp
    exact ⟨g, rfl, hb, (Array.getElem?_eq_some_iff.1 hg).1, h1, h2, hat 0 (by omega), hat 1 (by omega), hat 2 (by omega)⟩
theorem all2_snoc {α β : Type} {P : α → β → Prop} {R : List α} {S : List β} (h : All2 P R S) {r : α} {x : β} (hx : P r x) : All2 P (R ++ [r]) (S ++ [x]) := by
  induction R generalizing S with
  | nil =>
    cases S with
    | nil => exact All2.cons hx All2.nil
    | cons y S => have := h.1; simp at this
  | cons r' R ih =>
    cases S with
    | nil => have := h.1; simp at this
    | cons y S => exact All2.cons h.head.1 (ih h.head.2)
/-- The one of item j. -/
theorem item_db {w : World} {lo : Nat} {R : List Rc} {T S : List La} (hA : All2 (RcIs w lo) R T) (hp : T.Perm S) (hs : SortL S) (h5 : ∀ x ∈ S, rightB x.h x.L x.M = true) {x : La} (hx : x ∈ S) :
    ∃ r0, getR R (kyL x) = some r0 ∧ RcIs w lo r0 x ∧ r0.p.n ≤ 1000 ∧ r0.q.n ≤ 1000 ∧ wfKy (kyL x) := by
  rcases get_both (fun r y h => h.1) hA hp hs (kyL x) with ⟨h1, h2⟩ | ⟨r, y, h1, h2, h3, h4, h6⟩
  · rw [getL_mem hs hx] at h2
    cases h2
  · rw [getL_mem hs hx] at h2
    cases h2
    obtain ⟨e1, e2⟩ := rc_short h3 (h5 x hx)
    exact ⟨r, h1, h3, e1, e2, wfKy_right (h5 x hx)⟩
theorem step_append_g8 {ops : Array Oper} {o : Oper} {a : Act} {w : World} {K : Act → World → Prop} {Q : Exit → Act → World → Prop} {E : Prop} (hgd : o.guard = none) (s x : Operand) (t e : TypeId) (z : Value) (size bytes : Nat)
    (ht : Tryz.prog.underlying t = some (.slice e)) (hinfo : (Tryz.prog.info? e).map (fun i => (i.zero, i.size, i.bytes)) = some (some z, size, bytes)) (hzs : z.cells.size = size) (hsz : 0 < size) (hby : bytes ≤ 1024)
    (ho : o.op = .call { callee := .builtin .append, args := #[s, x], argTypes := #[t, t] }) (base : Nat) (v : Value) (n : Nat) (xs : List Value) (hs : a.eval s = v) (hown : w.ownsRow base e size v n xs)
    (b : Nat) (news : List Value) (hx : a.eval x = .slice (some ⟨b, 0, none⟩) 1 1) (hl : news.length = size) (hb : Blk w b e news.toArray) (h1 : ∀ u ∈ news, u.oneCell' = true) (hn : n ≤ 1048576) (hbase : base ≤ w.heap.size)
    (hK : ∀ v' w', Hid (w'.ownsRow base e size v' (n + 1) (xs ++ news)) → Hid (w.grownBy w' v.ownBlock) → Hid (v'.ownBlock = v.ownBlock ∨ v'.ownBlock = some w.heap.size) → K (a.put o.dst v') w') : if Region.wanted o (yielded ops a.tmps) = true then Oper.wp Tryz.prog o a w K Q else E := by
  have hw : Region.wanted o (yielded ops a.tmps) = true := by simp [Region.wanted, hgd]
  rw [if_pos hw]
  obtain ⟨i0, hi, hz0, hz1, hz2⟩ := info_parts hinfo
  have hnews : ∀ j u, news[j]? = some u → w.cell? ((⟨b, 0, none⟩ : Addr).add j) = some u := by
    intro j u hu
    rw [addr_add, hb.cell, Nat.zero_add, List.getElem?_toArray]
    exact hu
  have hbb : (n + 1) * bytes ≤ 1048577 * 1024 := Nat.mul_le_mul (by omega) hby
  obtain ⟨v', w', hrun, h2, h3, h4⟩ := run_append_own_at (P := Tryz.prog) w base t o.type e i0 z size bytes ht hi hz0 hz1 hz2 hzs hsz v n xs hown ⟨b, 0, none⟩ 1 1 news (by omega) hnews h1 (by unfold maxLen; omega) (by omega) hbase
  unfold Oper.wp execOp
  simp only [ho, resolve, invoke, builtin, Sem.run_bind, Sem.run_pure, Result.andThen_ok, List.map_toArray, List.map_cons, List.map_nil, hs, hx, hrun]
  exact hK v' w' h2 h3 h4.2


theorem fresh8 {w : World} {lo : Nat} {r : Rc} {x : La} (h : RcIs w lo r x) (hp : r.p.n ≤ 1000) (hq : r.q.n ≤ 1000) : Calls Tryz.prog 33 #[.agg #[.int .i64 r.h.age, .int .i64 r.h.kind, .int .i64 r.h.id, .int .i64 r.h.adv, .int .i64 r.h.seq, .int .i64 r.h.sum, .int .i64 r.h.long, .slice r.p.a r.p.n r.p.c, .slice r.q.a r.q.n r.q.c]] w
    fun e w' => ∃ r3 : Rc, e = .returned (.agg #[.int .i64 r3.h.age, .int .i64 r3.h.kind, .int .i64 r3.h.id, .int .i64 r3.h.adv, .int .i64 r3.h.seq, .int .i64 r3.h.sum, .int .i64 r3.h.long, .slice r3.p.a r3.p.n r3.p.c, .slice r3.q.a r3.q.n r3.q.c]) ∧ Below w.heap.size w w' ∧ RcIs w' w.heap.size r3 x :=
  (fresh7 h hp hq).mono fun _ _ ⟨r', h1, h2, h3, _⟩ => ⟨r', h1, h2, h3⟩
theorem keepAll {w0 w' : World} {b p gk : Nat} {R : List Rc} {F : Nat → Prop} {t t2 : TypeId} {v0 v1 k0 k1 k2 : Value} (hM : MapIs w0 b R) (hB : Blk w0 p t #[v0, v1]) (hk : Blk w0 gk t2 #[k0, k1, k2]) (nb : ¬ F b) (np : ¬ F p) (nk : ¬ F gk) (hc : Chg F w0 w') :
    Chg F w0 w' ∧ MapIs w' b R ∧ w'.cell? ⟨p, 1, none⟩ = some v1 ∧ w'.cell? ⟨gk, 0, none⟩ = some k0 ∧ w'.cell? ⟨gk, 1, none⟩ = some k1 ∧ w'.cell? ⟨gk, 2, none⟩ = some k2 := by
  obtain ⟨e0, e1, e2⟩ := (hk.chg hc nk).three
  exact ⟨hc, hM.chg hc nb, (hB.chg hc np).cell 1, e0, e1, e2⟩
theorem rcCells_ones1 (r : Rc) : ∀ u ∈ r.cells, u.oneCell' = true := fun u hu => rcCells_ones [r] u (by rw [rcCells_cons, List.mem_append]; exact .inl hu)
/-- A round's end: one more in the list. -/
theorem all_end {w1 wr w2 w3 w4 : World} {A A2 : Option Addr} {j c c2 : Nat} {R' : List Rc} {S : List La} {r3 : Rc} {x : La} {o : Obj} (hO : wr.ownsRow w1.heap.size 44 9 (.slice A j c) j (rcCells R')) (hA : All2 (RcIs wr w1.heap.size) R' (S.take j)) (hB : Below w1.heap.size w1 wr) (h2 : Below wr.heap.size wr w2) (h3 : Below w2.heap.size w2 w3) (hr : RcIs w3 w2.heap.size r3 x) (hg : (w3.alloc o).grownBy w4 (Value.slice A j c).ownBlock) (hx : S[j]? = some x)
    (ho4 : w4.ownsRow w1.heap.size 44 9 (.slice A2 (j + 1) c2) (j + 1) (rcCells R' ++ r3.cells)) :
    Hid (w4.ownsRow w1.heap.size 44 9 (.slice A2 (j + 1) c2) (j + 1) (rcCells (R' ++ [r3]))) ∧ Hid (All2 (RcIs w4 w1.heap.size) (R' ++ [r3]) (S.take (j + 1))) ∧ Hid (Below w1.heap.size w1 w4) := by
  have hz1 := hB.size
  have hz2 := h2.size
  have b23 : Below wr.heap.size wr w3 := h2.trans (h3.mono hz2)
  have b3 : Below wr.heap.size wr (w3.alloc o) := b23.alloc b23.size o
  have hlt : ∀ q, (Value.slice A j c).ownBlock = some q → w1.heap.size ≤ q ∧ q < wr.heap.size := fun q hq => hO.lt q hq
  have hc : Chg (fun q => (Value.slice A j c).ownBlock = some q) wr w4 := (Chg.of_below (F := fun q => (Value.slice A j c).ownBlock = some q) b3).trans (Chg.of_grown hg (fun q hq => hq)) (fun q hq => .inl hq)
  have hc3 : Chg (fun q => (Value.slice A j c).ownBlock = some q) w3 w4 := (Chg.of_below (F := fun q => (Value.slice A j c).ownBlock = some q) ((Below.refl w3.heap.size w3).alloc (Nat.le_refl _) o)).trans (Chg.of_grown hg (fun q hq => hq)) (fun q hq => .inl hq)
  refine ⟨Lib.hid ?_, Lib.hid ?_, Lib.hid ?_⟩
  · rw [rcCells_append]
    have e : rcCells [r3] = r3.cells := by simp [rcCells]
    rw [e]
    exact ho4
  · have ht : S.take (j + 1) = S.take j ++ [x] := by
      rw [List.take_add_one, hx]
      rfl
    rw [ht]
    refine all2_snoc (all2_imp hA (fun r _ y hy => hy.chg hc (fun q hq => hy.apart hO hq))) ((hr.chg hc3 (fun q hq he => ?_)).mono (by omega))
    have h6 := (hr.foot hq).1
    have h7 := (hlt q he).2
    omega
  · exact hB.trans (b3.mono hz1) |>.grown hg (by have := b3.size; omega) (fun q hq => (hlt q hq).1)
set_option maxRecDepth 8000 in
set_option maxHeartbeats 8000000 in
theorem all_db {w : World} {lo p : Nat} {room : Int} {S : List La} {F : Nat → Prop} (h : PDb w lo p room S F) (hs : SortL S) : Calls Tryz.prog 13 #[.pointer (some ⟨p, 0, none⟩)] w
    fun e w' => ∃ (A : Option Addr) (n c : Nat) (R : List Rc), e = .returned (.slice A n c) ∧ Below w.heap.size w w' ∧ w'.ownsRow w.heap.size 44 9 (.slice A n c) n (rcCells R) ∧ All2 (RcIs w' w.heap.size) R S := by
  have HK := Lib.hid (keys_db h hs)
  obtain ⟨b, R, T, hB, h1, h2, hM, hA, hp, h3, h4, h5, hF⟩ := h
  generalize hQ : (fun (e : Ending) (w' : World) => ∃ (A : Option Addr) (n c : Nat) (R : List Rc), e = .returned (.slice A n c) ∧ Below w.heap.size w w' ∧ w'.ownsRow w.heap.size 44 9 (.slice A n c) n (rcCells R) ∧ All2 (RcIs w' w.heap.size) R S) = Q
  have HQ := Lib.hid hQ
  clear hQ
  have HI := Lib.hid (show ∀ x ∈ S, ∃ r0, getR R (kyL x) = some r0 ∧ RcIs w lo r0 x ∧ r0.p.n ≤ 1000 ∧ r0.q.n ≤ 1000 ∧ wfKy (kyL x) from fun x hx => item_db hA hp hs h5 hx)
  have HS40 := Lib.hid (show S.length ≤ 40 by omega)
  have HB := Lib.hid hB
  have HM := Lib.hid hM
  have hpl := hB.lt
  clear hB hM hA hp h1 h2 h3 h4 h5 hF
  go_enter Tryz.func13, Tryz.ntmps13
  go_wp2_with fail
  refine HK.out.mono ?_
  rintro e1 w1 ⟨A1, n1, cc1, rfl, hb1, ho1⟩
  have hn1 := ho1.1
  rw [kyCells_length, List.length_map] at hn1
  have HN1 := Lib.hid (show n1 = S.length by omega)
  have HO1 := Lib.hid ho1
  have HB1 := Lib.hid hb1
  clear ho1 hb1 hn1 HK
  go_wp2_with fail
  go_loopw [3, 9] (fun s3 s9 wr => ∃ (j c : Nat) (A : Option Addr) (R' : List Rc), j ≤ n1 ∧ s9 = .int .i64 j ∧ s3 = .slice A j c ∧ Hid (wr.ownsRow w1.heap.size 44 9 (.slice A j c) j (rcCells R')) ∧ Hid (All2 (RcIs wr w1.heap.size) R' (S.take j)) ∧ Hid (Below w1.heap.size w1 wr)) (fun _ i _ => n1 - (intOf i).toNat)
  case atStart => exact ⟨0, 0, none, [], Nat.zero_le _, rfl, rfl, Lib.hid (by exact World.ownsRow_nil _ _ _ _), Lib.hid All2.nil, Lib.hid (Below.refl _ _)⟩
  case round =>
    obtain ⟨j, c, A, R', hj, rfl, rfl, HO, HAL, HB2⟩ := hrel
    by_cases hlt : j < n1
    · have hlt' : (j : Int) < n1 := by omega
      obtain ⟨x, hx⟩ : ∃ x, S[j]? = some x := ⟨S[j]'(by have := HN1.out; omega), List.getElem?_eq_getElem (by have := HN1.out; omega)⟩
      have HX := Lib.hid hx
      obtain ⟨r0, hg0, hrc, hs1, hs2, hwf⟩ := HI.out x (List.mem_of_getElem? hx)
      have HWR := Lib.hid (HB1.out.trans (HB2.out.mono HB1.out.size))
      have hkj : (S.map kyL)[j]? = some (kyL x) := by rw [List.getElem?_map, hx]; rfl
      obtain ⟨g, rfl, -, hgl, hnc, hcm, y0, y1, y2⟩ := own_ky (own_below2 HO1.out HB2.out) hkj
      unfold maxLen at hcm
      have HRC := Lib.hid hrc
      have HG0 := Lib.hid hg0
      have HWF := Lib.hid hwf
      clear hx hrc hg0 hwf hkj
      generalize kyL x = k at *
      go_wp2_with fail
      have J2 := Lib.hid (Blk.new wr 48 #[.int .i64 k.kind, .int .i64 k.id, .int .i64 k.adv])
      have BW2 := Lib.hid ((Below.refl wr.heap.size wr).alloc (Nat.le_refl _) (.cells #[.int .i64 k.kind, .int .i64 k.id, .int .i64 k.adv] 48))
      clear y0 y1 y2
      generalize wr.alloc (.cells #[.int .i64 k.kind, .int .i64 k.id, .int .i64 k.adv] 48) = w2 at *
      have HW2 := Lib.hid (HWR.out.trans (BW2.out.mono HWR.out.size))
      have D2 := Lib.hid (HB.out.below HW2.out HB.out.lt)
      have M2 := Lib.hid (HM.out.below HW2.out HM.out.lt)
      have RC2 := Lib.hid (HRC.out.chg (Chg.of_below (F := fun _ => False) HW2.out) (fun _ _ hf => hf))
      have hlook : ∀ W : World, MapIs W b R → (Instr.lookup 72 (.map (some b)) (.agg #[.int .i64 k.kind, .int .i64 k.id, .int .i64 k.adv]) false).run Tryz.prog W = .ok (.agg #[.int .i64 r0.h.age, .int .i64 r0.h.kind, .int .i64 r0.h.id, .int .i64 r0.h.adv, .int .i64 r0.h.seq, .int .i64 r0.h.sum, .int .i64 r0.h.long, .slice r0.p.a r0.p.n r0.p.c, .slice r0.q.a r0.q.n r0.q.c]) W := fun W hW => (hW.look_some HWF.out HG0.out).2
      obtain ⟨k0, k1, k2⟩ := J2.out.three
      have c1 := D2.out.cell 1
      simp at c1
      have C0 : Chg (fun q => (Value.slice A j c).ownBlock = some q) w2 w2.drew := ⟨rfl, rfl, rfl, Nat.le_refl _, fun _ _ _ => rfl⟩
      have NB := Lib.hid (own_not HO.out (.inl (by have := HM.out.lt; have := HB1.out.size; omega) : b < w1.heap.size ∨ wr.heap.size ≤ b))
      have NP := Lib.hid (own_not HO.out (.inl (by have := HB1.out.size; omega) : p < w1.heap.size ∨ wr.heap.size ≤ p))
      have NK := Lib.hid (own_not HO.out (.inr (Nat.le_refl _) : wr.heap.size < w1.heap.size ∨ wr.heap.size ≤ wr.heap.size))
      have HO2 := Lib.hid (own_below2 HO.out BW2.out)
      have HZ2 := Lib.hid (Nat.le_trans HB2.out.size BW2.out.size)
      have HJ40 := Lib.hid (show j ≤ 1048576 by have := HN1.out; have := HS40.out; omega)
      go_region_held3 (fun w' => Chg (fun q => (Value.slice A j c).ownBlock = some q) w2 w' ∧ MapIs w' b R ∧ w'.cell? ⟨p, 1, none⟩ = some (.map (some b)) ∧ w'.cell? ⟨wr.heap.size, 0, none⟩ = some (.int .i64 k.kind) ∧ w'.cell? ⟨wr.heap.size, 1, none⟩ = some (.int .i64 k.id) ∧ w'.cell? ⟨wr.heap.size, 2, none⟩ = some (.int .i64 k.adv)) ((refine keepAll M2.out D2.out J2.out NB.out NP.out NK.out ?_; first | with_reducible exact C0 | with_reducible exact hC3 | with_reducible exact hC3a | with_reducible exact hC4 | with_reducible exact hC3.below ((Below.refl _ _).alloc (Nat.le_refl _) _)))
        (first
          | (go_at_call 33; refine (fresh8 (w := w2.drew) RC2.out hs1 hs2).mono ?_; rintro e3 w3 ⟨r3, rfl, hb3, hr3⟩; have hC3 := C0.below hb3)
          | (refine step_append_g8 (by rfl) (.tmp 13) (.tmp 21) 22 44 (.agg #[.int .i64 0, .int .i64 0, .int .i64 0, .int .i64 0, .int .i64 0, .int .i64 0, .int .i64 0, .slice none 0 0, .slice none 0 0]) 9 _ Tryz.underlying22 Tryz.infoLsa rfl (by decide) (by decide) (by rfl) w1.heap.size (.slice A j c) j (rcCells R') (by rfl) ((own_below2 (own_drew7 HO2.out) hb3).alloc _) w3.heap.size r3.cells (by rfl) rfl (Blk.new w3 44 #[.int .i64 r3.h.age, .int .i64 r3.h.kind, .int .i64 r3.h.id, .int .i64 r3.h.adv, .int .i64 r3.h.seq, .int .i64 r3.h.sum, .int .i64 r3.h.long, .slice r3.p.a r3.p.n r3.p.c, .slice r3.q.a r3.q.n r3.q.c]) (rcCells_ones1 r3) HJ40.out (Nat.le_trans HZ2.out (Nat.le_trans hb3.size (by simp))) ?_; intro v4 w4 ho4 hg4 hl4; obtain ⟨A4, c4, rfl⟩ := own_slice ho4.out; have hC4 := (hC3.below ((Below.refl _ _).alloc (Nat.le_refl _) _)).trans (Chg.of_grown (F := fun q => (Value.slice A j c).ownBlock = some q) hg4.out (fun q hq => hq)) (fun q hq => .inl hq)))
      obtain ⟨E1, E2, E3⟩ := all_end HO.out HAL.out HB2.out BW2.out (⟨hb3.os, hb3.tape, hb3.output, hb3.size, hb3.block⟩ : Below w2.heap.size w2 w3) hr3 hg4.out HX.out ho4.out
      clear hb3 hr3 hC3 ho4 hg4 hl4 hC4 C0 k0 k1 k2 c1 hlook hs1 hs2
      go_wp2
      go_roundw
      case rel => exact ⟨j + 1, c4, A4, R' ++ [r3], by omega, by go_num, rfl, E1, E2, E3⟩
      case measure => simp [intOf]; omega
    · have hjn : j = n1 := by omega
      subst hjn
      have HT := Lib.hid (show S.take j = S by rw [HN1.out]; exact List.take_length)
      go_wp2
      show Q (.returned (.slice A j c)) wr
      rw [← HQ.out]
      have h1 := HAL.out
      rw [HT.out] at h1
      exact ⟨A, j, c, R', rfl, HB1.out.trans (HB2.out.mono HB1.out.size), own_low HO.out HB1.out.size, h1.imp (fun r x h => h.mono HB1.out.size)⟩
end Go.Proofs.YtfdfdmbnggpnbaaGreat
namespace Go.Proofs.YtfdfdmbnggpnbaaGreat

/-- The first j are a tick on. -/
def tickUp (S : List La) (j : Nat) : List La := (S.take j).map tickL ++ S.drop j
/-- The round's item, and the rest. -/
theorem tickUp_split {S : List La} {j : Nat} {x : La} (hx : S[j]? = some x) : tickUp S j = (S.take j).map tickL ++ x :: S.drop (j + 1) ∧ tickUp S (j + 1) = (S.take j).map tickL ++ tickL x :: S.drop (j + 1) := by
  have hj := (List.getElem?_eq_some_iff.1 hx).1
  have e1 : S.drop j = x :: S.drop (j + 1) := by
    rw [List.drop_eq_getElem_cons hj]
    congr 1
    exact (List.getElem?_eq_some_iff.1 hx).2
  have e2 : S.take (j + 1) = S.take j ++ [x] := by
    rw [List.take_add_one, hx]
    rfl
  unfold tickUp
  refine ⟨by rw [e1], ?_⟩
  rw [e2, List.map_append, List.append_assoc]
  rfl
/-- One that is of the greatest age stays. -/
theorem tickUp_old {S : List La} {j : Nat} {x : La} (hx : S[j]? = some x) (h : ¬ x.h.age < 60) : tickUp S (j + 1) = tickUp S j := by
  obtain ⟨e1, e2⟩ := tickUp_split hx
  rw [e1, e2]
  unfold tickL
  rw [if_neg h]
end Go.Proofs.YtfdfdmbnggpnbaaGreat
namespace Go.Proofs.YtfdfdmbnggpnbaaGreat
open Go.RowKit

/-- How far a tick is: behind j keys. -/
def TickIs (w w1 wr : World) (lo b : Nat) (S : List La) (F : Nat → Prop) (j : Nat) : Prop :=
  ∃ (R : List Rc) (T : List La), MapIs wr b R ∧ All2 (RcIs w lo) R T ∧ T.Perm (tickUp S j) ∧ (∀ r ∈ R, ∀ q, rcFoot r q → F q) ∧ Chg (fun q => q = b) w1 wr
theorem TickIs.below {w w1 wr w2 : World} {lo b : Nat} {S : List La} {F : Nat → Prop} {j : Nat} (h : TickIs w w1 wr lo b S F j) (hb : Below wr.heap.size wr w2) : TickIs w w1 w2 lo b S F j := by
  obtain ⟨R, T, h1, h2, h3, h4, h5⟩ := h
  exact ⟨R, T, h1.below hb h1.lt, h2, h3, h4, h5.below hb⟩
/-- An append to the list of keys leaves it. -/
theorem TickIs.grown {w w1 w5 w6 : World} {lo b base m : Nat} {S : List La} {F : Nat → Prop} {j : Nat} {t : TypeId} {size : Nat} {v : Value} {xs : List Value} {o : Obj} (h : TickIs w w1 w5 lo b S F j) (ho : w5.ownsRow base t size v m xs) (hb : w1.heap.size ≤ base) (hg : (w5.alloc o).grownBy w6 v.ownBlock) : TickIs w w1 w6 lo b S F j := by
  obtain ⟨R, T, h1, h2, h3, h4, h5⟩ := h
  have hc : Chg (fun q => v.ownBlock = some q) w5 w6 := (Chg.of_below (F := fun q => v.ownBlock = some q) ((Below.refl w5.heap.size w5).alloc (Nat.le_refl _) o)).trans (Chg.of_grown hg (fun q hq => hq)) (fun q hq => .inl hq)
  exact ⟨R, T, h1.chg hc (own_ne_map h1 ho), h2, h3, h4, h5.trans hc (fun q hq => .inr (Nat.le_trans hb (ho.lt q hq).1))⟩
/-- A round that lays none anew. -/
theorem TickIs.old {w w1 wr : World} {lo b : Nat} {S : List La} {F : Nat → Prop} {j : Nat} {x : La} (h : TickIs w w1 wr lo b S F j) (hx : S[j]? = some x) (ha : ¬ x.h.age < 60) : TickIs w w1 wr lo b S F (j + 1) := by
  obtain ⟨R, T, h1, h2, h3, h4, h5⟩ := h
  exact ⟨R, T, h1, h2, by rw [tickUp_old hx ha]; exact h3, h4, h5⟩
end Go.Proofs.YtfdfdmbnggpnbaaGreat
namespace Go.Proofs.YtfdfdmbnggpnbaaGreat
open Go.RowKit

/-- What a look-up finds, as a description in memory. -/
theorem look_rc {w : World} {S : List La} {k : Ky} {lo : Nat} {R : List Rc} {r0 : Rc} (hr : ∀ x ∈ S, rightB x.h x.L x.M = true) (h : (getL S k = none ∧ r0 = ⟨⟨0, 0, 0, 0, 0, 0, 0⟩, ⟨none, 0, 0⟩, ⟨none, 0, 0⟩⟩) ∨ ∃ x, getL S k = some x ∧ RcIs w lo r0 x ∧ r0 ∈ R ∧ x ∈ S) :
    ∃ x0, RcIs w lo r0 x0 ∧ r0.p.n ≤ 1000 ∧ r0.q.n ≤ 1000 ∧ ((getL S k = none ∧ r0 = ⟨⟨0, 0, 0, 0, 0, 0, 0⟩, ⟨none, 0, 0⟩, ⟨none, 0, 0⟩⟩) ∨ getL S k = some x0) := by
  rcases h with ⟨h1, rfl⟩ | ⟨x, h1, h2, -, h3⟩
  · exact ⟨⟨⟨0, 0, 0, 0, 0, 0, 0⟩, [], []⟩, ⟨rfl, World.ownsRow_nil _ _ _ _, rfl, World.ownsRow_nil _ _ _ _, rfl⟩, Nat.zero_le _, Nat.zero_le _, .inl ⟨h1, rfl⟩⟩
  · obtain ⟨h4, h5⟩ := rc_short h2 (hr x h3)
    exact ⟨x, h2, h4, h5, .inr h1⟩
/-- What Get answers, from what fresh answers. -/
theorem getOk_of {w w1 w2 : World} {S : List La} {k : Ky} {r0 r2 : Rc} {x0 : La} {g : Nat} (h : (getL S k = none ∧ r0 = ⟨⟨0, 0, 0, 0, 0, 0, 0⟩, ⟨none, 0, 0⟩, ⟨none, 0, 0⟩⟩) ∨ getL S k = some x0) (h0 : r0.h = x0.h) (h1 : RcIs w2 w1.heap.size r2 x0) (hn : r2.p.n = r0.p.n) (hn' : r2.q.n = r0.q.n) (hp : r0.p.a = none → r2.p = ⟨none, r0.p.n, 0⟩) (hq : r0.q.a = none → r2.q = ⟨none, r0.q.n, 0⟩) (hl : w.heap.size ≤ w1.heap.size) (hg : g < w1.heap.size) (u0 u1 u2 u3 u4 u5 u6 u7 u8 : Value) :
    GetOk w S k (.returned (.tuple #[.agg #[.int .i64 r2.h.age, .int .i64 r2.h.kind, .int .i64 r2.h.id, .int .i64 r2.h.adv, .int .i64 r2.h.seq, .int .i64 r2.h.sum, .int .i64 r2.h.long, .slice r2.p.a r2.p.n r2.p.c, .slice r2.q.a r2.q.n r2.q.c], .bool (getL S k).isSome])) (((((((((w2.setCell ⟨g, 0, none⟩ u0).setCell ⟨g, 1, none⟩ u1).setCell ⟨g, 2, none⟩ u2).setCell ⟨g, 3, none⟩ u3).setCell ⟨g, 4, none⟩ u4).setCell ⟨g, 5, none⟩ u5).setCell ⟨g, 6, none⟩ u6).setCell ⟨g, 7, none⟩ u7).setCell ⟨g, 8, none⟩ u8) := by
  rcases h with ⟨e1, rfl⟩ | e1
  · refine .inl ⟨e1, ?_⟩
    have e2 := h1.1
    rw [← h0] at e2
    rw [e1, e2, hp rfl, hq rfl]
    rfl
  · refine .inr ⟨x0, r2.p.a, r2.p.n, r2.p.c, r2.q.a, r2.q.n, r2.q.c, e1, ?_, own_low (own_nine7 h1.2.1 (own_not h1.2.1 (.inl hg)) u0 u1 u2 u3 u4 u5 u6 u7 u8) hl, h1.2.2.1, own_low (own_nine7 h1.2.2.2.1 (own_not h1.2.2.2.1 (.inl hg)) u0 u1 u2 u3 u4 u5 u6 u7 u8) hl, h1.2.2.2.2⟩
    rw [e1, h1.1]
    rfl
set_option maxRecDepth 8000 in
set_option maxHeartbeats 8000000 in
theorem get_db {w : World} {lo p : Nat} {room : Int} {S : List La} {F : Nat → Prop} (h : PDb w lo p room S F) (hs : SortL S) (k : Ky) (hk : wfKy k) :
    Calls Tryz.prog 16 #[.pointer (some ⟨p, 0, none⟩), .agg #[.int .i64 k.kind, .int .i64 k.id, .int .i64 k.adv]] w fun e w' => Below w.heap.size w w' ∧ GetOk w S k e w' := by
  obtain ⟨b, R, T, hB, h1, h2, hM, hA, hp, h3, h4, h5, hF⟩ := h
  obtain ⟨r0, hlook, hwho⟩ := look_both (b := b) hA hp hs hk
  obtain ⟨x0, hrc, hn1, hn2, hcase⟩ := look_rc h5 hwho
  generalize hQ : (fun (e : Ending) (w' : World) => Below w.heap.size w w' ∧ GetOk w S k e w') = Q
  have HQ := Lib.hid hQ
  clear hQ hwho
  have HC := Lib.hid hcase
  clear hcase
  obtain ⟨fd, hfd⟩ : ∃ fd, fd = (getL S k).isSome := ⟨_, rfl⟩
  rw [← hfd] at hlook
  have HFD := Lib.hid hfd
  clear hfd
  have B0 := Lib.hid (below_new2 w (.cells #[.int .i64 k.kind, .int .i64 k.id, .int .i64 k.adv] 48) (.cells #[.int .i64 0, .int .i64 0, .int .i64 0, .int .i64 0, .int .i64 0, .int .i64 0, .int .i64 0, .slice none 0 0, .slice none 0 0] 44))
  have K0 := Lib.hid (blk_new07 w #[.int .i64 k.kind, .int .i64 k.id, .int .i64 k.adv] 48 (.cells #[.int .i64 0, .int .i64 0, .int .i64 0, .int .i64 0, .int .i64 0, .int .i64 0, .int .i64 0, .slice none 0 0, .slice none 0 0] 44))
  have Z0 := Lib.hid (blk_new1 w (.cells #[.int .i64 k.kind, .int .i64 k.id, .int .i64 k.adv] 48) 44 #[.int .i64 0, .int .i64 0, .int .i64 0, .int .i64 0, .int .i64 0, .int .i64 0, .int .i64 0, .slice none 0 0, .slice none 0 0])
  have D0 := Lib.hid (hB.below B0.out hB.lt)
  have M0 := Lib.hid (hM.below B0.out hM.lt)
  have hpl := hB.lt
  go_enter Tryz.func16, Tryz.ntmps16
  go_wp2_with fail
  generalize (w.alloc (.cells #[.int .i64 k.kind, .int .i64 k.id, .int .i64 k.adv] 48)).alloc (.cells #[.int .i64 0, .int .i64 0, .int .i64 0, .int .i64 0, .int .i64 0, .int .i64 0, .int .i64 0, .slice none 0 0, .slice none 0 0] 44) = w0 at *
  have hlt := Z0.out.lt
  have hpl0 : p < w0.heap.size := by omega
  obtain ⟨k0, k1, k2⟩ := K0.out.three
  have c0 := D0.out.cell 0
  have c1 := D0.out.cell 1
  simp at c0 c1
  have hlt0 : w.heap.size < w0.heap.size := by omega
  have BR : Below w0.heap.size w0 w0.drew := ⟨rfl, rfl, rfl, Nat.le_refl _, fun _ _ => rfl⟩
  have BR2 : ∀ o, Below w0.heap.size w0 (w0.alloc o).drew := fun o => below_drewN ((Below.refl _ _).alloc (Nat.le_refl _) o) 1
  go_cut [6, 7] (fun s6 s7 wx => ∃ ob, s6 = .pointer (some ⟨ob, 0, none⟩) ∧ s7 = .bool fd ∧ Hid (Below w0.heap.size w0 wx ∧ Blk wx ob 44 #[.int .i64 r0.h.age, .int .i64 r0.h.kind, .int .i64 r0.h.id, .int .i64 r0.h.adv, .int .i64 r0.h.seq, .int .i64 r0.h.sum, .int .i64 r0.h.long, .slice r0.p.a r0.p.n r0.p.c, .slice r0.q.a r0.q.n r0.q.c]))
  case first =>
    go_region_held3 (fun w' => Below w0.heap.size w0 w' ∧ MapIs w' b R ∧ (∀ b o, b < w0.heap.size → w'.cell? ⟨b, o, none⟩ = w0.cell? ⟨b, o, none⟩)) ((refine keepDb M0.out ?_; first | with_reducible exact BR | with_reducible exact BR2 _ | with_reducible exact BR.alloc BR.size _)) (first | fail)
    all_goals (go_wp2_with fail; go_meet; exact ⟨_, rfl, rfl, Lib.hid ⟨And.left ‹Below w0.heap.size w0 _ ∧ _›, Blk.new _ _ _⟩⟩)
  case rest =>
    obtain ⟨ob, rfl, rfl, hbx⟩ := hcut
    have Bx := Lib.hid (B0.out.trans (hbx.out.1.mono B0.out.size))
    have Zx := Lib.hid (Z0.out.below hbx.out.1 hlt)
    have Ox := Lib.hid hbx.out.2
    have hl := hbx.out.1.size
    have RX := Lib.hid (hrc.chg (Chg.of_below (F := fun _ => False) Bx.out) (fun _ _ hf => hf))
    have HH := Lib.hid hrc.1
    clear k0 k1 k2 c0 c1 BR BR2 hbx K0 D0 M0 B0 Z0 hlook hrc
    obtain ⟨o0, o1, o2, o3, o4, o5, o6, o7, o8⟩ := Ox.out.nine
    go_wp2_with fail
    refine (fresh7 RX.out hn1 hn2).mono ?_
    rintro e2 w2 ⟨r2, rfl, hbf, hrf, hf1, hf2, hf3, hf4⟩
    unfold rcVal
    have ZF := Lib.hid (Zx.out.below hbf (by omega))
    have BF := Bx.out.trans (hbf.mono Bx.out.size)
    have BB := Lib.hid (((((((((BF.setCell (p := ⟨w.heap.size + 1, 0, none⟩) (Nat.le_succ _) (.int .i64 r2.h.age)).setCell (p := ⟨w.heap.size + 1, 1, none⟩) (Nat.le_succ _) (.int .i64 r2.h.kind)).setCell (p := ⟨w.heap.size + 1, 2, none⟩) (Nat.le_succ _) (.int .i64 r2.h.id)).setCell (p := ⟨w.heap.size + 1, 3, none⟩) (Nat.le_succ _) (.int .i64 r2.h.adv)).setCell (p := ⟨w.heap.size + 1, 4, none⟩) (Nat.le_succ _) (.int .i64 r2.h.seq)).setCell (p := ⟨w.heap.size + 1, 5, none⟩) (Nat.le_succ _) (.int .i64 r2.h.sum)).setCell (p := ⟨w.heap.size + 1, 6, none⟩) (Nat.le_succ _) (.int .i64 r2.h.long)).setCell (p := ⟨w.heap.size + 1, 7, none⟩) (Nat.le_succ _) (.slice r2.p.a r2.p.n r2.p.c)).setCell (p := ⟨w.heap.size + 1, 8, none⟩) (Nat.le_succ _) (.slice r2.q.a r2.q.n r2.q.c))
    have GG := Lib.hid (getOk_of (g := w.heap.size + 1) HC.out HH.out hrf hf1 hf2 hf3 hf4 Bx.out.size (by omega) (.int .i64 r2.h.age) (.int .i64 r2.h.kind) (.int .i64 r2.h.id) (.int .i64 r2.h.adv) (.int .i64 r2.h.seq) (.int .i64 r2.h.sum) (.int .i64 r2.h.long) (.slice r2.p.a r2.p.n r2.p.c) (.slice r2.q.a r2.q.n r2.q.c))
    rw [← HFD.out] at GG
    clear BF hbf hrf hf1 hf2 hf3 hf4 HC HFD o0 o1 o2 o3 o4 o5 o6 o7 o8
    obtain ⟨z0, z1, z2, z3, z4, z5, z6, z7, z8⟩ := ZF.out.nine
    obtain ⟨f0, f1, f2, f3, f4, f5, f6, f7, f8⟩ := ZF.out.nineF
    go_wp2_with fail
    refine bodyPost_ret (v := .tuple #[.agg #[.int .i64 r2.h.age, .int .i64 r2.h.kind, .int .i64 r2.h.id, .int .i64 r2.h.adv, .int .i64 r2.h.seq, .int .i64 r2.h.sum, .int .i64 r2.h.long, .slice r2.p.a r2.p.n r2.p.c, .slice r2.q.a r2.q.n r2.q.c], .bool fd]) (by simp [results, Tryz.results16, go_sem, *]) rfl ?_
    rw [← HQ.out]
    exact ⟨BB.out, GG.out⟩
end Go.Proofs.YtfdfdmbnggpnbaaGreat
namespace Go.Proofs.YtfdfdmbnggpnbaaGreat
open Go.RowKit

theorem seal_right {h : Hd} {L : List Lk} {M : List Int} (hr : rightB h L M = true) {A A' : Option Addr} {n c n' c' B : Nat} {w : World} (hL : Lnk w B A n L) (hM : Row .i64 w B A' n' M) (hB : B ≤ w.heap.size) (hn : n ≤ 50) (hn' : n' ≤ 50) :
    Calls Tryz.prog 37 #[.agg #[.int .i64 h.age, .int .i64 h.kind, .int .i64 h.id, .int .i64 h.adv, .int .i64 h.seq, .int .i64 h.sum, .int .i64 h.long, .slice A n c, .slice A' n' c']] w (SealOk w (sealHd h L M) L M) := by
  have h1 := seal_any h L M A A' n c n' c' B w hL hM hB hn hn'
  rwa [hr] at h1
/-- A database with one more. -/
theorem put_fin {w wS w3 : World} {lo p b : Nat} {room : Int} {S T : List La} {R : List Rc} {F : Nat → Prop} {x : La} {rS : Rc} (hB : Blk w p 74 #[.int .i64 room, .map (some b)]) (h1 : lo ≤ p) (h2 : lo ≤ b) (hM : MapIs w b R) (hA : All2 (RcIs w lo) R T) (hp : T.Perm S) (h3 : (S.length : Int) ≤ room) (h4 : room ≤ 40) (h5 : ∀ x ∈ S, rightB x.h x.L x.M = true) (hF : ∀ q, F q ↔ q = p ∨ q = b ∨ ∃ r ∈ R, rcFoot r q)
    (hs : SortL S) (hlo : lo ≤ w.heap.size) (hr : rightB x.h x.L x.M = true) (hfit : getL S (kyL x) = none → (S.length : Int) < room) (hbS : Below w.heap.size w wS) (hR : RcIs wS w.heap.size rS (sealL x)) (hM3 : MapIs w3 b (rS :: restR R (kyL x))) (ht : wS.mapTurned w3 b) :
    ∃ F', PDb w3 lo p room (insL (sealL x) (dropL S (kyL x))) F' ∧ Chg F w w3 ∧ ∀ q, F' q → F q ∨ w.heap.size ≤ q := by
  have hcS : Chg (fun q => q = b) w wS := Chg.of_below hbS
  have hct := chg_of_turned ht
  have hc : Chg (fun q => q = b) w w3 := hcS.trans hct (fun q hq => .inl hq)
  have hMS : MapIs wS b R := hM.below hbS hM.lt
  have hR3 : RcIs w3 lo rS (sealL x) := (hR.chg hct (fun q hq => hR.ne_map hMS hq)).mono hlo
  have hA2 : All2 (RcIs w3 lo) R T := all2_imp hA (fun r _ y hy => hy.chg hc (fun q hq => hy.ne_map hM hq))
  refine ⟨fun q => q = p ∨ q = b ∨ ∃ r ∈ rS :: restR R (kyL x), rcFoot r q, ⟨b, rS :: restR R (kyL x), sealL x :: dropL T (kyL x), hB.chg hc (hM.ne_blk hB), h1, h2, hM3, All2.cons hR3 (all2_rest (fun r x h => h.1) hA2 _), ?_, ?_, h4, fun y hy => ?_, fun q => Iff.rfl⟩, ⟨hc.os, hc.tape, hc.output, hc.size, fun q hq hn => hc.block q hq (fun e => hn ((hF q).2 (.inr (.inl e))))⟩, fun q hq => ?_⟩
  · exact ((hp.filter _).cons _).trans (insL_perm _ _).symm
  · rw [insL_length]
    cases hg : getL S (kyL x) with
    | none =>
      rw [dropL_none (getL_none.1 hg)]
      have := hfit hg
      omega
    | some y =>
      have := dropL_less hs hg
      omega
  · rcases mem_insL.1 hy with rfl | hy
    · show rightB (sealHd x.h x.L x.M) x.L x.M = true
      rw [right_seal]
      exact hr
    · exact h5 y (mem_drop.1 hy).1
  · rcases hq with hq | hq | ⟨r, hr', hq⟩
    · exact .inl ((hF q).2 (.inl hq))
    · exact .inl ((hF q).2 (.inr (.inl hq)))
    · rcases List.mem_cons.1 hr' with rfl | hr'
      · exact .inr (hR.foot hq).1
      · exact .inl ((hF q).2 (.inr (.inr ⟨r, (mem_restR.1 hr').1, hq⟩)))
theorem keepPut {w0 w' : World} {b p g gk : Nat} {t t2 t3 : TypeId} {v0 v1 k0 k1 k2 a0 a1 a2 a3 a4 a5 a6 a7 a8 : Value} (hB : Blk w0 p t #[v0, v1]) (hk : Blk w0 gk t2 #[k0, k1, k2]) (hg : Blk w0 g t3 #[a0, a1, a2, a3, a4, a5, a6, a7, a8]) (n1 : p ≠ b) (n2 : gk ≠ b) (n3 : g ≠ b) (hc : Chg (fun q => q = b) w0 w') :
    Chg (fun q => q = b) w0 w' ∧ w'.cell? ⟨p, 1, none⟩ = some v1 ∧ w'.cell? ⟨gk, 0, none⟩ = some k0 ∧ w'.cell? ⟨gk, 1, none⟩ = some k1 ∧ w'.cell? ⟨gk, 2, none⟩ = some k2 ∧ w'.cell? ⟨g, 0, none⟩ = some a0 ∧ w'.cell? ⟨g, 1, none⟩ = some a1 ∧ w'.cell? ⟨g, 2, none⟩ = some a2 ∧ w'.cell? ⟨g, 3, none⟩ = some a3 ∧ w'.cell? ⟨g, 4, none⟩ = some a4 ∧ w'.cell? ⟨g, 5, none⟩ = some a5 ∧ w'.cell? ⟨g, 6, none⟩ = some a6 ∧ w'.cell? ⟨g, 7, none⟩ = some a7 ∧ w'.cell? ⟨g, 8, none⟩ = some a8 := by
  obtain ⟨e0, e1, e2⟩ := (hk.chg hc n2).three
  obtain ⟨f0, f1, f2, f3, f4, f5, f6, f7, f8⟩ := (hg.chg hc n3).nine
  exact ⟨hc, (hB.chg hc n1).cell 1, e0, e1, e2, f0, f1, f2, f3, f4, f5, f6, f7, f8⟩
/-- A store of what is sealed. -/
theorem put_at {w wS : World} {b : Nat} {R : List Rc} (h : Hd) (L : List Lk) (M : List Int) (A A' : Option Addr) (n c n' c' : Nat) (hM : MapIs w b R) (hb : Below w.heap.size w wS) (hk : wfKy (keyH h)) (hn : R.length ≤ 40) :
    ∃ w3, (Instr.mapUpdate 72 (.map (some b)) (.agg #[.int .i64 h.kind, .int .i64 h.id, .int .i64 h.adv]) (.agg #[.int .i64 (sealHd h L M).age, .int .i64 (sealHd h L M).kind, .int .i64 (sealHd h L M).id, .int .i64 (sealHd h L M).adv, .int .i64 (sealHd h L M).seq, .int .i64 (sealHd h L M).sum, .int .i64 (sealHd h L M).long, .slice A n c, .slice A' n' c'])).run Tryz.prog wS = .ok () w3 ∧ MapIs w3 b (⟨sealHd h L M, ⟨A, n, c⟩, ⟨A', n', c'⟩⟩ :: restR R (keyH h)) ∧ wS.mapTurned w3 b :=
  (hM.below hb hM.lt).put ⟨sealHd h L M, ⟨A, n, c⟩, ⟨A', n', c'⟩⟩ hk (by unfold maxLen; omega)
set_option maxRecDepth 8000 in
set_option maxHeartbeats 8000000 in
theorem put_db {w : World} {lo p : Nat} {room : Int} {S : List La} {F : Nat → Prop} (h : PDb w lo p room S F) (hs : SortL S) (hlo : lo ≤ w.heap.size) (h : Hd) (L : List Lk) (M : List Int) (A A' : Option Addr) (n c n' c' B : Nat) (hL : Lnk w B A n L) (hM : Row .i64 w B A' n' M) (hBl : B ≤ w.heap.size) (hn : n ≤ 50) (hn' : n' ≤ 50) :
    Calls Tryz.prog 18 #[.pointer (some ⟨p, 0, none⟩), .agg #[.int .i64 h.age, .int .i64 h.kind, .int .i64 h.id, .int .i64 h.adv, .int .i64 h.seq, .int .i64 h.sum, .int .i64 h.long, .slice A n c, .slice A' n' c']] w fun e w' => e = .returned (.int .i64 (putE room S ⟨h, L, M⟩)) ∧ ∃ F', PDb w' lo p room (putS room S ⟨h, L, M⟩) F' ∧ Chg F w w' ∧ ∀ q, F' q → F q ∨ w.heap.size ≤ q := by
  rename_i hdb
  have HDB := Lib.hid hdb
  obtain ⟨b, R, T, hB, h1, h2, hMp, hA, hp, h3, h4, h5, hF⟩ := hdb
  generalize hQ : (fun (e : Ending) (w' : World) => e = .returned (.int .i64 (putE room S ⟨h, L, M⟩)) ∧ ∃ F', PDb w' lo p room (putS room S ⟨h, L, M⟩) F' ∧ Chg F w w' ∧ ∀ q, F' q → F q ∨ w.heap.size ≤ q) = Q
  have HQ := Lib.hid hQ
  clear hQ
  have HBl := Lib.hid hBl
  have HP := Lib.hid (show lo ≤ p ∧ lo ≤ b ∧ T.Perm S ∧ (S.length : Int) ≤ room ∧ room ≤ 40 ∧ (∀ x ∈ S, rightB x.h x.L x.M = true) ∧ (∀ q, F q ↔ q = p ∨ q = b ∨ ∃ r ∈ R, rcFoot r q) ∧ SortL S ∧ lo ≤ w.heap.size ∧ R.length = S.length ∧ R.length ≤ 40 from ⟨h1, h2, hp, h3, h4, h5, hF, hs, hlo, hA.1.trans hp.length_eq, by have := hA.1.trans hp.length_eq; omega⟩)
  have HA := Lib.hid hA
  have HB := Lib.hid hB
  have HM := Lib.hid hMp
  have hpl := hB.lt
  clear h1 h2 hp h3 h4 h5 hF hs hlo hA hBl hB hMp
  have K0 := Lib.hid (Blk.new w 44 #[.int .i64 h.age, .int .i64 h.kind, .int .i64 h.id, .int .i64 h.adv, .int .i64 h.seq, .int .i64 h.sum, .int .i64 h.long, .slice A n c, .slice A' n' c'])
  have B0 := Lib.hid ((Below.refl w.heap.size w).alloc (Nat.le_refl _) (.cells #[.int .i64 h.age, .int .i64 h.kind, .int .i64 h.id, .int .i64 h.adv, .int .i64 h.seq, .int .i64 h.sum, .int .i64 h.long, .slice A n c, .slice A' n' c'] 44))
  have HL0 := Lib.hid hL
  have HR0 := Lib.hid hM
  have HL := Lib.hid (hL.alloc HBl.out (.cells #[.int .i64 h.age, .int .i64 h.kind, .int .i64 h.id, .int .i64 h.adv, .int .i64 h.seq, .int .i64 h.sum, .int .i64 h.long, .slice A n c, .slice A' n' c'] 44))
  have HR := Lib.hid (hM.alloc HBl.out (.cells #[.int .i64 h.age, .int .i64 h.kind, .int .i64 h.id, .int .i64 h.adv, .int .i64 h.seq, .int .i64 h.sum, .int .i64 h.long, .slice A n c, .slice A' n' c'] 44))
  clear hL hM
  go_enter Tryz.func18, Tryz.ntmps18
  obtain ⟨o0, o1, o2, o3, o4, o5, o6, o7, o8⟩ := K0.out.nine
  go_wp2_with fail
  refine (right_any h L M A A' n c n' c' B _ HL.out HR.out (by have := HBl.out; simp; omega) (by unfold maxLen; omega) (by unfold maxLen; omega)).mono ?_
  rintro e1 w1 ⟨rfl, hb1⟩
  generalize w.alloc (.cells #[.int .i64 h.age, .int .i64 h.kind, .int .i64 h.id, .int .i64 h.adv, .int .i64 h.seq, .int .i64 h.sum, .int .i64 h.long, .slice A n c, .slice A' n' c'] 44) = w0 at *
  have hz0 := B0.out.size
  have B1 := Lib.hid (B0.out.trans (hb1.mono hz0))
  have K1 := Lib.hid (K0.out.below hb1 K0.out.lt)
  have HL1 := Lib.hid (HL.out.below (hb1.mono (Nat.le_trans HBl.out hz0)))
  have HR1 := Lib.hid (HR.out.below (hb1.mono (Nat.le_trans HBl.out hz0)))
  clear o0 o1 o2 o3 o4 o5 o6 o7 o8 K0 B0 HL HR hb1
  cases hr : rightB h L M
  · go_wp2
    show Q (.returned (.int .i64 1)) _
    rw [← HQ.out]
    have e1 : putE room S ⟨h, L, M⟩ = 1 := by unfold putE; rw [if_pos hr]
    have e2 : putS room S ⟨h, L, M⟩ = S := by unfold putS; rw [e1]; rfl
    rw [e1, e2]
    exact ⟨rfl, F, HDB.out.chg (Chg.of_below (F := fun _ => False) B1.out) (fun _ _ hf => hf), Chg.of_below B1.out, fun q hq => .inl hq⟩
  · have HRT := Lib.hid hr
    have HW := Lib.hid (show wfKy (keyH h) from wfKy_right (x := ⟨h, L, M⟩) hr)
    clear hr hz0
    obtain ⟨o0, o1, o2, o3, o4, o5, o6, o7, o8⟩ := K1.out.nine
    go_wp2_with fail
    refine (keyOf_any h _).mono ?_
    rintro e2 w2 ⟨rfl, hb2⟩
    have KL1 := Lib.hid K1.out.lt
    have B2 := Lib.hid ((B1.out.trans (hb2.mono B1.out.size)).alloc (Nat.le_trans B1.out.size hb2.size) (.cells #[.int .i64 h.kind, .int .i64 h.id, .int .i64 h.adv] 48))
    have K2 := Lib.hid ((K1.out.below hb2 K1.out.lt).below ((Below.refl w2.heap.size w2).alloc (Nat.le_refl _) (.cells #[.int .i64 h.kind, .int .i64 h.id, .int .i64 h.adv] 48)) (Nat.lt_of_lt_of_le K1.out.lt hb2.size))
    have J2 := Lib.hid (Blk.new w2 48 #[.int .i64 h.kind, .int .i64 h.id, .int .i64 h.adv])
    clear o0 o1 o2 o3 o4 o5 o6 o7 o8 K1 HL1 HR1 B1
    go_wp2_with fail
    have HGK := Lib.hid (show w.heap.size < w2.heap.size from Nat.lt_of_lt_of_le KL1.out hb2.size)
    clear hb2 KL1
    generalize w2.alloc (.cells #[.int .i64 h.kind, .int .i64 h.id, .int .i64 h.adv] 48) = wa at *
    generalize w2.heap.size = gk at *
    have DA := Lib.hid (HB.out.below B2.out HB.out.lt)
    have MA := Lib.hid (HM.out.below B2.out HM.out.lt)
    obtain ⟨fd, hfd⟩ : ∃ fd, fd = (getL S (keyH h)).isSome := ⟨_, rfl⟩
    obtain ⟨r0, hlook, -⟩ := look_both (b := b) HA.out HP.out.2.2.1 HP.out.2.2.2.2.2.2.2.1 HW.out
    rw [← hfd] at hlook
    have HFD := Lib.hid hfd
    clear hfd
    change ∀ W, MapIs W b R → (Instr.lookup 72 (.map (some b)) (.agg #[.int .i64 h.kind, .int .i64 h.id, .int .i64 h.adv]) true).run Tryz.prog W = _ at hlook
    have hpla : p < wa.heap.size := DA.out.lt
    have hgka : gk < wa.heap.size := J2.out.lt
    have hwa : w.heap.size < wa.heap.size := K2.out.lt
    obtain ⟨k0, k1, k2⟩ := J2.out.three
    have c1 := DA.out.cell 1
    simp at c1
    have BR : Below wa.heap.size wa wa.drew := ⟨rfl, rfl, rfl, Nat.le_refl _, fun _ _ => rfl⟩
    have BR2 : ∀ o, Below wa.heap.size wa (wa.alloc o).drew := fun o => below_drewN ((Below.refl _ _).alloc (Nat.le_refl _) o) 1
    go_cut [7] (fun s7 wx => s7 = .bool fd ∧ Hid (Below wa.heap.size wa wx))
    case first =>
      go_region_held3 (fun w' => Below wa.heap.size wa w' ∧ MapIs w' b R ∧ (∀ b o, b < wa.heap.size → w'.cell? ⟨b, o, none⟩ = wa.cell? ⟨b, o, none⟩)) ((refine keepDb MA.out ?_; first | with_reducible exact BR | with_reducible exact BR2 _ | with_reducible exact BR.alloc BR.size _)) (first | fail)
      all_goals (go_wp2_with fail; go_meet; exact ⟨rfl, Lib.hid (And.left ‹Below wa.heap.size wa _ ∧ _›)⟩)
    case rest =>
      obtain ⟨rfl, hbx⟩ := hcut
      have B3 := Lib.hid (B2.out.trans (hbx.out.mono B2.out.size))
      have K3 := Lib.hid (K2.out.below hbx.out hwa)
      have J3 := Lib.hid (J2.out.below hbx.out hgka)
      have D3 := Lib.hid (DA.out.below hbx.out hpla)
      have M3 := Lib.hid (MA.out.below hbx.out MA.out.lt)
      clear k0 k1 k2 c1 BR BR2 hbx K2 J2 DA MA B2 hlook hpla hgka hwa
      have c0 := D3.out.cell 0
      have c1 := D3.out.cell 1
      simp at c0 c1
      obtain ⟨full, hfull⟩ : ∃ full : Bool, full = (!fd && decide (room ≤ (S.length : Int))) := ⟨_, rfl⟩
      have HFU := Lib.hid hfull
      go_wp2_with fail
      go_cut [38] (fun s38 wx => s38 = .bool full ∧ Hid (∃ q, wx = wc.drewN q))
      case first =>
        have hlen : ∀ ty q, (Builtin.len_ #[72] ty #[.map (some b)]).run Tryz.prog (wc.drewN q) = .ok (.int .i64 (S.length : Int)) (wc.drewN q) := fun ty q => by rw [(M3.out.heap (w' := wc.drewN q) rfl).len ty, HP.out.2.2.2.2.2.2.2.2.2.1]
        cases fd
        · go_quiet (fail)
          go_wp2_with fail
          go_meet
          exact ⟨by rw [HFU.out]; simp, Lib.hid ⟨nq, rfl⟩⟩
        · go_quiet (fail)
          go_wp2_with fail
          go_meet
          exact ⟨by rw [HFU.out]; simp, Lib.hid ⟨nq, rfl⟩⟩
      case rest =>
        obtain ⟨rfl, hq⟩ := hcut
        obtain ⟨q, rfl⟩ := hq.out
        have B4 := Lib.hid (B3.out.trans (⟨rfl, rfl, rfl, Nat.le_refl _, fun _ _ => rfl⟩ : Below w.heap.size wc (wc.drewN q)))
        have K4 := Lib.hid (K3.out.drewN q)
        have J4 := Lib.hid (J3.out.drewN q)
        have D4 := Lib.hid (D3.out.drewN q)
        clear c0 c1 K3 J3 D3 M3 B3 hq hfull
        generalize wc.drewN q = wd at *
        cases full
        · have hfit : getL S (keyH h) = none → (S.length : Int) < room := fun hg => by
            have h1 := HFU.out
            rw [HFD.out, hg] at h1
            simp at h1
            omega
          have HFIT := Lib.hid hfit
          clear hfit
          have HL4 := Lib.hid (HL0.out.below (B4.out.mono HBl.out))
          have HR4 := Lib.hid (HR0.out.below (B4.out.mono HBl.out))
          have N1 := Lib.hid ((HM.out.below B4.out HM.out.lt).ne_blk D4.out)
          have N2 := Lib.hid ((HM.out.below B4.out HM.out.lt).ne_blk J4.out)
          have N3 := Lib.hid ((HM.out.below B4.out HM.out.lt).ne_blk K4.out)
          have M4 := Lib.hid (HM.out.below B4.out HM.out.lt)
          have HZ4 := Lib.hid (Nat.le_trans HBl.out B4.out.size)
          have c1 := D4.out.cell 1
          simp at c1
          obtain ⟨k0, k1, k2⟩ := J4.out.three
          obtain ⟨o0, o1, o2, o3, o4, o5, o6, o7, o8⟩ := K4.out.nine
          have C0 : Chg (fun q => q = b) wd wd.drew := ⟨rfl, rfl, rfl, Nat.le_refl _, fun _ _ _ => rfl⟩
          have BD : Below wd.heap.size wd wd.drew := ⟨rfl, rfl, rfl, Nat.le_refl _, fun _ _ => rfl⟩
          go_wp2_with fail
          go_region_held3 (fun w' => Chg (fun q => q = b) wd w' ∧ w'.cell? ⟨p, 1, none⟩ = some (.map (some b)) ∧ w'.cell? ⟨gk, 0, none⟩ = some (.int .i64 h.kind) ∧ w'.cell? ⟨gk, 1, none⟩ = some (.int .i64 h.id) ∧ w'.cell? ⟨gk, 2, none⟩ = some (.int .i64 h.adv) ∧ w'.cell? ⟨w.heap.size, 0, none⟩ = some (.int .i64 h.age) ∧ w'.cell? ⟨w.heap.size, 1, none⟩ = some (.int .i64 h.kind) ∧ w'.cell? ⟨w.heap.size, 2, none⟩ = some (.int .i64 h.id) ∧ w'.cell? ⟨w.heap.size, 3, none⟩ = some (.int .i64 h.adv) ∧ w'.cell? ⟨w.heap.size, 4, none⟩ = some (.int .i64 h.seq) ∧ w'.cell? ⟨w.heap.size, 5, none⟩ = some (.int .i64 h.sum) ∧ w'.cell? ⟨w.heap.size, 6, none⟩ = some (.int .i64 h.long) ∧ w'.cell? ⟨w.heap.size, 7, none⟩ = some (.slice A n c) ∧ w'.cell? ⟨w.heap.size, 8, none⟩ = some (.slice A' n' c')) ((refine keepPut D4.out J4.out K4.out N1.out N2.out N3.out ?_; first | with_reducible exact C0 | with_reducible exact hCS | with_reducible exact hC3))
            (first
              | (go_at_call 37; refine (seal_right HRT.out (B := B) (w := wd.drew) (HL4.out.below ⟨rfl, rfl, rfl, Nat.le_refl _, fun _ _ => rfl⟩) (HR4.out.below ⟨rfl, rfl, rfl, Nat.le_refl _, fun _ _ => rfl⟩) HZ4.out hn hn').mono ?_; rintro eS wS ⟨AS, nS, cS, AS', nS', cS', rfl, hoS, hlS, hoS', hlS', hbS⟩; have hCS := C0.below hbS; obtain ⟨w3, hput, hM3, hturn⟩ := put_at h L M AS AS' nS cS nS' cS' M4.out (BD.trans hbS) HW.out (HP.out.2.2.2.2.2.2.2.2.2.2); have hC3 := hCS.trans (chg_of_turned hturn) (fun q hq => .inl hq)))
          have HSX := Lib.hid (show RcIs wS w.heap.size ⟨sealHd h L M, ⟨AS, nS, cS⟩, ⟨AS', nS', cS'⟩⟩ (sealL ⟨h, L, M⟩) from ⟨rfl, own_low hoS B4.out.size, hlS, own_low hoS' B4.out.size, hlS'⟩)
          have HM3 := Lib.hid hM3
          have HTU := Lib.hid hturn
          have BS := Lib.hid (B4.out.trans ((BD.trans hbS).mono B4.out.size))
          clear k0 k1 k2 c1 o0 o1 o2 o3 o4 o5 o6 o7 o8 C0 BD hoS hoS' hlS hlS' hbS hCS hput hM3 hturn hC3
          go_wp2
          show Q (.returned (.int .i64 0)) _
          rw [← HQ.out]
          obtain ⟨p1, p2, p3, p4, p5, p6, p7, p8, p9, p10, p11⟩ := HP.out
          have e1 : putE room S ⟨h, L, M⟩ = 0 := by
            unfold putE
            rw [if_neg (by rw [HRT.out]; decide), if_neg (fun hx => by
              have h1 := HFIT.out (Option.isNone_iff_eq_none.1 hx.1)
              omega)]
          have e2 : putS room S ⟨h, L, M⟩ = insL (sealL ⟨h, L, M⟩) (dropL S (kyL ⟨h, L, M⟩)) := by unfold putS; rw [e1]; rfl
          rw [e1, e2]
          exact ⟨rfl, put_fin (x := ⟨h, L, M⟩) HB.out p1 p2 HM.out HA.out p3 p4 p5 p6 p7 p8 p9 HRT.out HFIT.out BS.out HSX.out HM3.out HTU.out⟩
        · go_wp2
          show Q (.returned (.int .i64 7)) _
          rw [← HQ.out]
          have hg : getL S (keyH h) = none ∧ room ≤ (S.length : Int) := by
            have h1 := HFU.out
            rw [HFD.out] at h1
            simpa using h1.symm
          have e1 : putE room S ⟨h, L, M⟩ = 7 := by
            have hn1 : (getL S (kyL ⟨h, L, M⟩)).isNone = true := by
              show (getL S (keyH h)).isNone = true
              rw [hg.1]
              rfl
            unfold putE
            rw [if_neg (by rw [HRT.out]; decide), if_pos ⟨hn1, hg.2⟩]
          have e2 : putS room S ⟨h, L, M⟩ = S := by unfold putS; rw [e1]; rfl
          rw [e1, e2]
          exact ⟨rfl, F, HDB.out.chg (Chg.of_below (F := fun _ => False) B4.out) (fun _ _ hf => hf), Chg.of_below B4.out, fun q hq => .inl hq⟩
end Go.Proofs.YtfdfdmbnggpnbaaGreat
namespace Go.Proofs.YtfdfdmbnggpnbaaGreat
open Go.RowKit
open Go.Maps (Keyed)
open Go.ChangeMaps (notKey putKey delKey)

theorem zero_int13 (w : World) : (zeroValue 3).run Tryz.prog w = .ok (.int .i64 0) w := by kernel_rfl
/-- At which place a key stands. -/
structure Pl where
  k : Ky
  i : Nat
def plVal (r : Pl) : Value := .int .i64 (r.i : Int)
def plE (r : Pl) : Lit × DataW Value := (kyLit (r.k), .held (plVal r))
/-- Block b is a map that holds just the places of R, each under its key. -/
def PlIs (w : World) (b : Nat) (R : List Pl) : Prop :=
  (∀ r ∈ R, wfKy (r.k)) ∧ ∃ l : List (Lit × DataW Value), w.ownsMap Tryz.prog 48 asIs b R.length (.map l) ∧ l.Perm (R.map plE)

section
variable {w w' : World} {b : Nat} {R : List Pl}
theorem PlIs.lt (h : PlIs w b R) : b < w.heap.size := by
  obtain ⟨-, l, ho, -⟩ := h
  exact ho.lt
theorem PlIs.heap (h : PlIs w b R) (he : w'.heap[b]? = w.heap[b]?) : PlIs w' b R := by
  obtain ⟨hw, l, ho, hp⟩ := h
  exact ⟨hw, l, own_heap ho he, hp⟩
theorem PlIs.chg {F : Nat → Prop} (h : PlIs w b R) (hc : Chg F w w') (hF : ¬ F b) : PlIs w' b R := h.heap (hc.block b h.lt hF)
theorem PlIs.below {B : Nat} (h : PlIs w b R) (hb : Below B w w') (hlt : b < B) : PlIs w' b R := h.heap (hb.block b hlt)
theorem PlIs.alloc (h : PlIs w b R) (o : Obj) : PlIs (w.alloc o) b R := h.below ((Below.refl w.heap.size w).alloc (Nat.le_refl _) o) h.lt
theorem PlIs.drew (h : PlIs w b R) : PlIs w.drew b R := h.heap rfl
theorem PlIs.setCell (h : PlIs w b R) {a : Addr} (ha : b ≠ a.block) (u : Value) : PlIs (w.setCell a u) b R := h.heap (RowKit.Below.heap_setCell _ _ _ _ ha)
theorem PlIs.made (w : World) : PlIs (w.alloc (.map #[] 0)) w.heap.size [] := ⟨fun r h => (by cases h), [], World.ownsMap_made _ _ _ _, List.Perm.refl _⟩
/-- No key stands twice. -/
theorem PlIs.nodup (h : PlIs w b R) : R.Pairwise fun r s => r.k ≠ s.k := by
  obtain ⟨hw, l, ho, hp⟩ := h
  obtain ⟨es, he, hpw⟩ := ho.tidy keyed7
  injection he with he
  subst he
  have h1 := (hp.pairwise_iff (fun {_ _} hne => Ne.symm hne)).1 hpw
  rw [List.pairwise_map] at h1
  exact h1.imp (fun hne e => hne (by unfold plE; rw [e]))
end
/-- The one of a key. -/
def getP (R : List Pl) (k : Ky) : Option Pl := R.find? fun r => sameKy (r.k) k
theorem getP_some {R : List Pl} {k : Ky} {r : Pl} (h : getP R k = some r) : r ∈ R ∧ r.k = k := by
  unfold getP at h
  exact ⟨List.mem_of_find?_eq_some h, (sameKy_iff _ _).1 (List.find?_some (p := fun r : Pl => sameKy (r.k) k) h)⟩
theorem getP_none {R : List Pl} {k : Ky} (h : getP R k = none) : ∀ r ∈ R, r.k ≠ k := by
  unfold getP at h
  rw [List.find?_eq_none] at h
  exact fun r hr e => h r hr ((sameKy_iff _ _).2 e)
section
variable {w : World} {b : Nat} {R : List Pl} {k : Ky}
/-- What stands at a key. -/
theorem pl_at (hw : ∀ r ∈ R, wfKy (r.k)) (hn : R.Pairwise fun r s => r.k ≠ s.k) {l : List (Lit × DataW Value)} (hp : l.Perm (R.map plE)) (hk : wfKy k) :
    (∀ z, getP R k = none → (DataW.map l).atKey (kyLit k) z = z ∧ Maps.has (DataW.map l) (kyLit k) = false) ∧ (∀ r z, getP R k = some r → (DataW.map l).atKey (kyLit k) z = .held (plVal r) ∧ Maps.has (DataW.map l) (kyLit k) = true) := by
  have back : ∀ p ∈ l, p.1.sameKey (kyLit k) = true → ∃ r ∈ R, r.k = k ∧ p = plE r := fun p hpl hs => by
    obtain ⟨r, hr, rfl⟩ := List.mem_map.1 (hp.mem_iff.1 hpl)
    refine ⟨r, hr, ?_, rfl⟩
    have h1 : (kyLit (r.k)).sameKey (kyLit k) = true := hs
    rw [sameKey_ky (hw r hr) hk] at h1
    exact (sameKy_iff _ _).1 h1
  constructor
  · intro z hg
    have hno : ∀ p ∈ l, ¬ p.1.sameKey (kyLit k) = true := fun p hpl hs => by
      obtain ⟨r, hr, e, _⟩ := back p hpl hs
      exact getP_none hg r hr e
    refine ⟨?_, ?_⟩
    · simp only [DataW.atKey, List.find?_eq_none.2 hno]
    · unfold Maps.has
      rw [List.any_eq_false]
      exact hno
  · intro r z hg
    obtain ⟨hr, e⟩ := getP_some hg
    have hm : plE r ∈ l := hp.mem_iff.2 (List.mem_map.2 ⟨r, hr, rfl⟩)
    have hs : (plE r).1.sameKey (kyLit k) = true := by
      show (kyLit (r.k)).sameKey (kyLit k) = true
      rw [sameKey_ky (hw r hr) hk]
      exact (sameKy_iff _ _).2 e
    refine ⟨?_, ?_⟩
    · cases hf : l.find? (fun p => p.1.sameKey (kyLit k)) with
      | none => exact absurd hs (List.find?_eq_none.1 hf _ hm)
      | some p =>
        obtain ⟨s, hs1, hs2, rfl⟩ := back p (List.mem_of_find?_eq_some hf) (List.find?_some (p := fun p : Lit × DataW Value => p.1.sameKey (kyLit k)) hf)
        have e2 := pw_eq hn s hs1 r hr (hs2.trans e.symm)
        subst e2
        simp only [DataW.atKey, hf]
        rfl
    · unfold Maps.has
      rw [List.any_eq_true]
      exact ⟨_, hm, hs⟩
/-- 'v, is := m[k]', of a key that is there. -/
theorem PlIs.look_some (h : PlIs w b R) (hk : wfKy k) {r : Pl} (hg : getP R k = some r) :
    (Instr.lookup 59 (.map (some b)) (.agg #[.int .i64 k.kind, .int .i64 k.id, .int .i64 k.adv]) true).run Tryz.prog w = .ok (.tuple #[plVal r, .bool true]) w ∧
    (Instr.lookup 59 (.map (some b)) (.agg #[.int .i64 k.kind, .int .i64 k.id, .int .i64 k.adv]) false).run Tryz.prog w = .ok (plVal r) w := by
  have hn := h.nodup
  obtain ⟨hw, l, ho, hp⟩ := h
  have hat := (pl_at hw hn hp hk).2 r
  obtain ⟨v, ps, h1, h2⟩ := ho.look_ok keyed7 Tryz.underlying59 (zero_int13 w) (zd := .held _) (zp := []) rfl (keyOf_ky hk)
  obtain ⟨v', ps', h1', h2'⟩ := ho.lookup keyed7 Tryz.underlying59 (zero_int13 w) (zd := .held _) (zp := []) rfl (keyOf_ky hk)
  rw [(hat _ hg).1] at h2 h2'
  rw [(hat (.held undef) hg).2, asIs_inj h2] at h1
  rw [asIs_inj h2'] at h1'
  exact ⟨h1, h1'⟩
theorem PlIs.look_none (h : PlIs w b R) (hk : wfKy k) (hg : getP R k = none) :
    (Instr.lookup 59 (.map (some b)) (.agg #[.int .i64 k.kind, .int .i64 k.id, .int .i64 k.adv]) true).run Tryz.prog w = .ok (.tuple #[.int .i64 0, .bool false]) w := by
  have hn := h.nodup
  obtain ⟨hw, l, ho, hp⟩ := h
  have hat := (pl_at hw hn hp hk).1
  obtain ⟨v, ps, h1, h2⟩ := ho.look_ok keyed7 Tryz.underlying59 (zero_int13 w) (zd := .held _) (zp := []) rfl (keyOf_ky hk)
  rw [(hat _ hg).1] at h2
  rw [(hat (.held undef) hg).2, asIs_inj h2] at h1
  exact h1
theorem PlIs.len (h : PlIs w b R) (ty : TypeId) : (Builtin.len_ #[59] ty #[.map (some b)]).run Tryz.prog w = .ok (.int .i64 (R.length : Int)) w := by
  obtain ⟨hw, l, ho, hp⟩ := h
  rw [ho.len Tryz.underlying59 ty, Maps.size_eq, hp.length_eq, List.length_map]
/-- Those of other keys. -/
def restP (R : List Pl) (k : Ky) : List Pl := R.filter fun s => !sameKy (s.k) k
theorem mem_restP {s : Pl} : s ∈ restP R k ↔ s ∈ R ∧ s.k ≠ k := by
  unfold restP
  rw [List.mem_filter]
  have := sameKy_iff (s.k) k
  simp [← this]
theorem filter_plE (hw : ∀ r ∈ R, wfKy (r.k)) (hk : wfKy k) : (R.map plE).filter (notKey (kyLit k)) = (restP R k).map plE := by
  rw [List.filter_map]
  unfold restP
  congr 1
  refine List.filter_congr (fun s hs => ?_)
  show (!(kyLit (s.k)).sameKey (kyLit k)) = _
  rw [sameKey_ky (hw s hs) hk]
/-- 'm[k] = v'. -/
theorem PlIs.put (h : PlIs w b R) (r : Pl) (hk : wfKy (r.k)) (hn : R.length < maxLen) :
    ∃ w', (Instr.mapUpdate 59 (.map (some b)) (.agg #[.int .i64 r.k.kind, .int .i64 r.k.id, .int .i64 r.k.adv]) (plVal r)).run Tryz.prog w = .ok () w' ∧ PlIs w' b (r :: restP R (r.k)) ∧ w.mapTurned w' b := by
  obtain ⟨hw, l, ho, hp⟩ := h
  obtain ⟨w', h1, h2, h3⟩ := ho.store keyed7 Tryz.underlying59 hn (keyOf_ky hk) (val := plVal r) (d := .held (plVal r)) (ps := []) rfl
  rw [DataW.put_eq] at h2
  have hp2 : (putKey (kyLit (r.k)) (.held (plVal r)) l).Perm ((r :: restP R (r.k)).map plE) := by
    refine (WideShapes.insert_perm _ _).trans ?_
    rw [List.map_cons]
    refine List.Perm.cons _ ?_
    rw [← filter_plE hw hk]
    exact hp.filter _
  have h4 := own_tight h2
  rw [hp2.length_eq, List.length_map] at h4
  refine ⟨w', h1, ⟨fun s hs => ?_, _, h4, hp2⟩, h3⟩
  rcases List.mem_cons.1 hs with rfl | hs
  · exact hk
  · exact hw s (mem_restP.1 hs).1
end

theorem PlIs.ne_blk {w : World} {b g : Nat} {R : List Pl} {t : TypeId} {cs : Array Value} (h : PlIs w b R) (hB : Blk w g t cs) : g ≠ b := by
  rintro rfl
  obtain ⟨-, l, ⟨es, clock, hb, -⟩, -⟩ := h
  have h1 : w.heap[g]? = some (.cells cs t (0, 0)) := hB
  rw [hb] at h1
  cases h1
theorem PlIs.ne_own {w : World} {base n size b : Nat} {R : List Pl} {t : TypeId} {v : Value} {xs : List Value} (h : PlIs w b R) (ho : w.ownsRow base t size v n xs) : v.ownBlock ≠ some b := by
  intro e
  obtain ⟨-, l, ⟨es, clock, hb, -⟩, -⟩ := h
  rcases ho.2 with ⟨rfl, _⟩ | ⟨g, cap, cur, rfl, _, hg, _⟩
  · cases e
  · injection e with e
    subst e
    rw [hb] at hg
    cases hg
/-- 'm[k] = i' as the next operation of a plain region's list. -/
theorem wpList_putP {ops : Array Oper} {rest : List Oper} {o : Oper} {a : Act} {w : World} {Q : Exit → Act → World → Prop} {b : Nat} {R : List Pl} (r : Pl) (hg : o.guard = none) (m x v : Operand) (hop : o.op = Op.mapUpdate 59 m x v) (hm : a.eval m = .map (some b)) (hx : a.eval x = .agg #[.int .i64 r.k.kind, .int .i64 r.k.id, .int .i64 r.k.adv]) (hv : a.eval v = .int .i64 (r.i : Int))
    (h : PlIs w b R) (hk : wfKy r.k) (hn : R.length < maxLen) (hK : ∀ w', PlIs w' b (r :: restP R r.k) → w.mapTurned w' b → wpList Tryz.prog ops Q rest (a.put o.dst undef) w') : wpList Tryz.prog ops Q (o :: rest) a w := by
  refine wpList_plain hg fun K' hK' => ?_
  obtain ⟨w', hrun, r1, r2⟩ := h.put r hk hn
  have hv2 : a.eval v = plVal r := hv
  unfold Oper.wp
  simp [execOp, hop, hm, hx, hv2, hrun, Result.andThen]
  exact hK' _ _ (hK w' r1 r2)
end Go.Proofs.YtfdfdmbnggpnbaaGreat
