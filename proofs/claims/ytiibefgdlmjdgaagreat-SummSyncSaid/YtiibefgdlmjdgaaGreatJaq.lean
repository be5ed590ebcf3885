/- The program's Tick. Conditions: what the words say. · The program's Get. Conditions: what the words say. · The program's Put. Conditions: what the words say; at most 50 links and 50 members. · The program's database does what a database must do. No conditions. · The reference's num, signed, headOf and GetHead. Conditions: the slice reads as bytes. · The reference's call Same: two rows of bytes that are alike. Conditions: the slices read as bytes. -/
import Derived.Test.YtiibefgdlmjdgaaGreatJap
import Derived.Test.YtiibefgdlmjdgaaGreatJai
import Derived.Test.YtiibefgdlmjdgaaGreatJaa
namespace Go.Proofs.YtiibefgdlmjdgaaGreat
open Go.RowKit

/-- A description in memory, a tick on. -/
def bump (r : Rc) : Rc := ⟨⟨r.h.age + 1, r.h.kind, r.h.id, r.h.adv, r.h.seq, r.h.sum, r.h.long⟩, r.p, r.q⟩
/-- How far a tick is: behind j keys. -/
def TickIs (w w1 wr : World) (lo b : Nat) (S : List La) (F : Nat → Prop) (j : Nat) : Prop :=
  ∃ (R : List Rc) (T : List La), MapIs wr b R ∧ All2 (RcIs w lo) R T ∧ T.Perm (tickUp S j) ∧ (∀ r ∈ R, ∀ q, rcFoot r q → F q) ∧ Chg (fun q => q = b) w1 wr
theorem TickIs.below {w w1 wr w2 : World} {lo b : Nat} {S : List La} {F : Nat → Prop} {j : Nat} (h : TickIs w w1 wr lo b S F j) (hb : Below wr.heap.size wr w2) : TickIs w w1 w2 lo b S F j := by
  obtain ⟨R, T, h1, h2, h3, h4, h5⟩ := h
  exact ⟨R, T, h1.below hb h1.lt, h2, h3, h4, h5.below hb⟩
theorem bump_is {w : World} {lo : Nat} {r : Rc} {x : La} (h : RcIs w lo r x) (ha : x.h.age < 60) : RcIs w lo (bump r) (tickL x) := by
  obtain ⟨h1, h2, h3, h4, h5⟩ := h
  unfold tickL
  rw [if_pos ha]
  refine ⟨?_, h2, h3, h4, h5⟩
  unfold bump
  rw [h1]
/-- A round that lays one anew. -/
theorem tick_put {w w1 w4 w5 : World} {lo b : Nat} {S T : List La} {F : Nat → Prop} {j : Nat} {R : List Rc} {r0 : Rc} {x : La} (hs : SortL S) (hx : S[j]? = some x) (ha : x.h.age < 60) (hA : All2 (RcIs w lo) R T) (hp : T.Perm (tickUp S j)) (hf : ∀ r ∈ R, ∀ q, rcFoot r q → F q) (hc : Chg (fun q => q = b) w1 w4) (hr : RcIs w lo r0 x) (hm : r0 ∈ R)
    (h5 : MapIs w5 b (bump r0 :: restR R (keyH (bump r0).h))) (ht : w4.mapTurned w5 b) : TickIs w w1 w5 lo b S F (j + 1) := by
  have hk : keyH (bump r0).h = kyL x := by
    show keyH r0.h = kyL x
    unfold kyL
    rw [hr.1]
  rw [hk] at h5
  refine ⟨_, tickL x :: dropL T (kyL x), h5, All2.cons (bump_is hr ha) (all2_rest (fun r x h => h.1) hA _), tickUp_perm hs hx hp, fun r hr' q hq => ?_, hc.trans (chg_of_turned ht) (fun q hq => .inl hq)⟩
  rcases List.mem_cons.1 hr' with rfl | hr'
  · exact hf r0 hm q hq
  · exact hf r (mem_restR.1 hr').1 q hq
/-- The one of the round's key. -/
theorem tick_item {w : World} {lo : Nat} {S T : List La} {R : List Rc} {j : Nat} {x : La} (hs : SortL S) (h5 : ∀ x ∈ S, rightB x.h x.L x.M = true) (hx : S[j]? = some x) (hA : All2 (RcIs w lo) R T) (hp : T.Perm (tickUp S j)) :
    ∃ r0, getR R (kyL x) = some r0 ∧ RcIs w lo r0 x ∧ r0 ∈ R ∧ wfKy (kyL x) ∧ 0 ≤ r0.h.age ∧ r0.h.age ≤ 60 := by
  obtain ⟨r0, h1, h2, -, -, h3⟩ := item_db hA hp (tickUp_sort hs j) (tickUp_right h5 j) (tickUp_mem hx)
  obtain ⟨a1, a2⟩ := right_age (h5 x (List.mem_of_getElem? hx))
  exact ⟨r0, h1, h2, (getR_some h1).1, h3, by rw [h2.1]; exact a1, by rw [h2.1]; exact a2⟩
/-- 'm[k] = v' as the next operation of a plain region's list. -/
theorem wpList_put7 {ops : Array Oper} {rest : List Oper} {o : Oper} {a : Act} {w : World} {Q : Exit → Act → World → Prop} {b : Nat} {R : List Rc} (r : Rc) (k : Ky) (hkk : keyH r.h = k) (hg : o.guard = none) (m x v : Operand) (hop : o.op = Op.mapUpdate 73 m x v) (hm : a.eval m = .map (some b)) (hx : a.eval x = .agg #[.int .i64 k.kind, .int .i64 k.id, .int .i64 k.adv]) (hv : a.eval v = rcVal r)
    (h : MapIs w b R) (hk : wfKy k) (hn : R.length < maxLen) (hK : ∀ w', MapIs w' b (r :: restR R (keyH r.h)) → w.mapTurned w' b → wpList Tryz.prog ops Q rest (a.put o.dst undef) w') : wpList Tryz.prog ops Q (o :: rest) a w := by
  subst hkk
  refine wpList_plain hg fun K' hK' => ?_
  obtain ⟨w', hrun, r1, r2⟩ := h.put r hk hn
  have hx2 : a.eval x = .agg #[.int .i64 r.h.kind, .int .i64 r.h.id, .int .i64 r.h.adv] := hx
  unfold Oper.wp
  simp [execOp, hop, hm, hx2, hv, hrun, Result.andThen]
  exact hK' _ _ (hK w' r1 r2)
/-- An append to the list of keys leaves it. -/
theorem TickIs.grown {w w1 w5 w6 : World} {lo b base m : Nat} {S : List La} {F : Nat → Prop} {j : Nat} {t : TypeId} {size : Nat} {v : Value} {xs : List Value} {o : Obj} (h : TickIs w w1 w5 lo b S F j) (ho : w5.ownsRow base t size v m xs) (hb : w1.heap.size ≤ base) (hg : (w5.alloc o).grownBy w6 v.ownBlock) : TickIs w w1 w6 lo b S F j := by
  obtain ⟨R, T, h1, h2, h3, h4, h5⟩ := h
  have hc : Chg (fun q => v.ownBlock = some q) w5 w6 := (Chg.of_below (F := fun q => v.ownBlock = some q) ((Below.refl w5.heap.size w5).alloc (Nat.le_refl _) o)).trans (Chg.of_grown hg (fun q hq => hq)) (fun q hq => .inl hq)
  exact ⟨R, T, h1.chg hc (own_ne_map h1 ho), h2, h3, h4, h5.trans hc (fun q hq => .inr (Nat.le_trans hb (ho.lt q hq).1))⟩
/-- A round that lays none anew. -/
theorem TickIs.old {w w1 wr : World} {lo b : Nat} {S : List La} {F : Nat → Prop} {j : Nat} {x : La} (h : TickIs w w1 wr lo b S F j) (hx : S[j]? = some x) (ha : ¬ x.h.age < 60) : TickIs w w1 wr lo b S F (j + 1) := by
  obtain ⟨R, T, h1, h2, h3, h4, h5⟩ := h
  exact ⟨R, T, h1, h2, by rw [tickUp_old hx ha]; exact h3, h4, h5⟩
/-- What Tick leaves. -/
theorem tick_fin {w w1 wr : World} {lo p b n : Nat} {room : Int} {S : List La} {F : Nat → Prop} {R0 : List Rc} (hB : Blk w p 75 #[.int .i64 room, .map (some b)]) (hM : MapIs w b R0) (hp : lo ≤ p ∧ lo ≤ b ∧ (S.length : Int) ≤ room ∧ room ≤ 40 ∧ (∀ x ∈ S, rightB x.h x.L x.M = true) ∧ F p ∧ F b ∧ SortL S ∧ S.length ≤ 40) (hb : Below w.heap.size w w1) (hn : n = S.length) (h : TickIs w w1 wr lo b S F n) :
    ∃ F', PDb wr lo p room (S.map tickL) F' ∧ Chg F w wr ∧ ∀ q, F' q → F q ∨ w.heap.size ≤ q := by
  obtain ⟨R, T, h1, h2, h3, h4, h5⟩ := h
  obtain ⟨p1, p2, p3, p4, p5, p6, p7, p8, p9⟩ := hp
  have hc : Chg (fun q => q = b) w wr := (Chg.of_below (F := fun q => q = b) hb).trans h5 (fun q hq => .inl hq)
  rw [hn, tickUp_all] at h3
  refine ⟨fun q => q = p ∨ q = b ∨ ∃ r ∈ R, rcFoot r q, ⟨b, R, T, hB.chg hc (hM.ne_blk hB), p1, p2, h1, all2_imp h2 (fun r _ x hx => hx.chg hc (fun q hq => hx.ne_map hM hq)), h3, by rw [List.length_map]; exact p3, p4, fun x hx => ?_, fun q => Iff.rfl⟩, ⟨hc.os, hc.tape, hc.output, hc.size, fun q hq hn => hc.block q hq (fun e => hn (by rw [e]; exact p7))⟩, fun q hq => .inl ?_⟩
  · obtain ⟨y, hy, rfl⟩ := List.mem_map.1 hx
    exact right_tick (p5 y hy)
  · rcases hq with hq | hq | ⟨r, hr, hq⟩
    · rw [hq]
      exact p6
    · rw [hq]
      exact p7
    · exact h4 r hr q hq
end Go.Proofs.YtiibefgdlmjdgaaGreat
namespace Go.Proofs.YtiibefgdlmjdgaaGreat
open Go.RowKit

/-- What a look-up finds, as a description in memory. -/
theorem look_rc {w : World} {S : List La} {k : Ky} {lo : Nat} {R : List Rc} {r0 : Rc} (hr : ∀ x ∈ S, rightB x.h x.L x.M = true) (h : (getL S k = none ∧ r0 = ⟨⟨0, 0, 0, 0, 0, 0, 0⟩, ⟨none, 0, 0⟩, ⟨none, 0, 0⟩⟩) ∨ ∃ x, getL S k = some x ∧ RcIs w lo r0 x ∧ r0 ∈ R ∧ x ∈ S) :
    ∃ x0, RcIs w lo r0 x0 ∧ r0.p.n ≤ 1000 ∧ r0.q.n ≤ 1000 ∧ ((getL S k = none ∧ r0 = ⟨⟨0, 0, 0, 0, 0, 0, 0⟩, ⟨none, 0, 0⟩, ⟨none, 0, 0⟩⟩) ∨ getL S k = some x0) := by
  rcases h with ⟨h1, rfl⟩ | ⟨x, h1, h2, -, h3⟩
  · exact ⟨⟨⟨0, 0, 0, 0, 0, 0, 0⟩, [], []⟩, ⟨rfl, World.ownsRow_nil _ _ _ _, rfl, World.ownsRow_nil _ _ _ _, rfl⟩, Nat.zero_le _, Nat.zero_le _, .inl ⟨h1, rfl⟩⟩
  · obtain ⟨h4, h5⟩ := rc_short h2 (hr x h3)
    exact ⟨x, h2, h4, h5, .inr h1⟩
/-- What Get answers, from what fresh answers. -/
theorem getOk_of {w w1 w2 : World} {S : List La} {k : Ky} {r0 r2 : Rc} {x0 : La} {g : Nat} (h : (getL S k = none ∧ r0 = ⟨⟨0, 0, 0, 0, 0, 0, 0⟩, ⟨none, 0, 0⟩, ⟨none, 0, 0⟩⟩) ∨ getL S k = some x0) (h0 : r0.h = x0.h) (h1 : RcIs w2 w1.heap.size r2 x0) (hn : r2.p.n = r0.p.n) (hn' : r2.q.n = r0.q.n) (hp : r0.p.a = none → r2.p = ⟨none, r0.p.n, 0⟩) (hq : r0.q.a = none → r2.q = ⟨none, r0.q.n, 0⟩) (hl : w.heap.size ≤ w1.heap.size) (hg : g < w1.heap.size) (u0 u1 u2 u3 u4 u5 u6 u7 u8 : Value) :
    GetOk w S k (.returned (.tuple #[.agg #[.int .i64 r2.h.age, .int .i64 r2.h.kind, .int .i64 r2.h.id, .int .i64 r2.h.adv, .int .i64 r2.h.seq, .int .i64 r2.h.sum, .int .i64 r2.h.long, .slice r2.p.a r2.p.n r2.p.c, .slice r2.q.a r2.q.n r2.q.c], .bool (getL S k).isSome])) (((((((((w2.setCell ⟨g, 0, none⟩ u0).setCell ⟨g, 1, none⟩ u1).setCell ⟨g, 2, none⟩ u2).setCell ⟨g, 3, none⟩ u3).setCell ⟨g, 4, none⟩ u4).setCell ⟨g, 5, none⟩ u5).setCell ⟨g, 6, none⟩ u6).setCell ⟨g, 7, none⟩ u7).setCell ⟨g, 8, none⟩ u8) := by
  rcases h with ⟨e1, rfl⟩ | e1
  · refine .inl ⟨e1, ?_⟩
    have e2 := h1.1
    rw [← h0] at e2
    rw [e1, e2, hp rfl, hq rfl]
    rfl
  · refine .inr ⟨x0, r2.p.a, r2.p.n, r2.p.c, r2.q.a, r2.q.n, r2.q.c, e1, ?_, own_low (own_nine7 h1.2.1 (own_not h1.2.1 (.inl hg)) u0 u1 u2 u3 u4 u5 u6 u7 u8) hl, h1.2.2.1, own_low (own_nine7 h1.2.2.2.1 (own_not h1.2.2.2.1 (.inl hg)) u0 u1 u2 u3 u4 u5 u6 u7 u8) hl, h1.2.2.2.2⟩
    rw [e1, h1.1]
    rfl
set_option maxRecDepth 8000 in
set_option maxHeartbeats 8000000 in
theorem get_db {w : World} {lo p : Nat} {room : Int} {S : List La} {F : Nat → Prop} (h : PDb w lo p room S F) (hs : SortL S) (k : Ky) (hk : wfKy k) :
    Calls Tryz.prog 16 #[.pointer (some ⟨p, 0, none⟩), .agg #[.int .i64 k.kind, .int .i64 k.id, .int .i64 k.adv]] w fun e w' => Below w.heap.size w w' ∧ GetOk w S k e w' := by
  obtain ⟨b, R, T, hB, h1, h2, hM, hA, hp, h3, h4, h5, hF⟩ := h
  obtain ⟨r0, hlook, hwho⟩ := look_both (b := b) hA hp hs hk
  obtain ⟨x0, hrc, hn1, hn2, hcase⟩ := look_rc h5 hwho
  generalize hQ : (fun (e : Ending) (w' : World) => Below w.heap.size w w' ∧ GetOk w S k e w') = Q
  have HQ := Lib.hid hQ
  clear hQ hwho
  have HC := Lib.hid hcase
  clear hcase
  obtain ⟨fd, hfd⟩ : ∃ fd, fd = (getL S k).isSome := ⟨_, rfl⟩
  rw [← hfd] at hlook
  have HFD := Lib.hid hfd
  clear hfd
  have B0 := Lib.hid (below_new2 w (.cells #[.int .i64 k.kind, .int .i64 k.id, .int .i64 k.adv] 48) (.cells #[.int .i64 0, .int .i64 0, .int .i64 0, .int .i64 0, .int .i64 0, .int .i64 0, .int .i64 0, .slice none 0 0, .slice none 0 0] 44))
  have K0 := Lib.hid (blk_new07 w #[.int .i64 k.kind, .int .i64 k.id, .int .i64 k.adv] 48 (.cells #[.int .i64 0, .int .i64 0, .int .i64 0, .int .i64 0, .int .i64 0, .int .i64 0, .int .i64 0, .slice none 0 0, .slice none 0 0] 44))
  have Z0 := Lib.hid (blk_new1 w (.cells #[.int .i64 k.kind, .int .i64 k.id, .int .i64 k.adv] 48) 44 #[.int .i64 0, .int .i64 0, .int .i64 0, .int .i64 0, .int .i64 0, .int .i64 0, .int .i64 0, .slice none 0 0, .slice none 0 0])
  have D0 := Lib.hid (hB.below B0.out hB.lt)
  have M0 := Lib.hid (hM.below B0.out hM.lt)
  have hpl := hB.lt
  go_enter Tryz.func16, Tryz.ntmps16
  go_wp2_with fail
  generalize (w.alloc (.cells #[.int .i64 k.kind, .int .i64 k.id, .int .i64 k.adv] 48)).alloc (.cells #[.int .i64 0, .int .i64 0, .int .i64 0, .int .i64 0, .int .i64 0, .int .i64 0, .int .i64 0, .slice none 0 0, .slice none 0 0] 44) = w0 at *
  have hlt := Z0.out.lt
  have hpl0 : p < w0.heap.size := by omega
  obtain ⟨k0, k1, k2⟩ := K0.out.three
  have c0 := D0.out.cell 0
  have c1 := D0.out.cell 1
  simp at c0 c1
  have hlt0 : w.heap.size < w0.heap.size := by omega
  have BR : Below w0.heap.size w0 w0.drew := ⟨rfl, rfl, rfl, Nat.le_refl _, fun _ _ => rfl⟩
  have BR2 : ∀ o, Below w0.heap.size w0 (w0.alloc o).drew := fun o => below_drewN ((Below.refl _ _).alloc (Nat.le_refl _) o) 1
  go_cut [6, 7] (fun s6 s7 wx => ∃ ob, s6 = .pointer (some ⟨ob, 0, none⟩) ∧ s7 = .bool fd ∧ Hid (Below w0.heap.size w0 wx ∧ Blk wx ob 44 #[.int .i64 r0.h.age, .int .i64 r0.h.kind, .int .i64 r0.h.id, .int .i64 r0.h.adv, .int .i64 r0.h.seq, .int .i64 r0.h.sum, .int .i64 r0.h.long, .slice r0.p.a r0.p.n r0.p.c, .slice r0.q.a r0.q.n r0.q.c]))
  case first =>
    go_region_held3 (fun w' => Below w0.heap.size w0 w' ∧ MapIs w' b R ∧ (∀ b o, b < w0.heap.size → w'.cell? ⟨b, o, none⟩ = w0.cell? ⟨b, o, none⟩)) ((refine keepDb M0.out ?_; first | with_reducible exact BR | with_reducible exact BR2 _ | with_reducible exact BR.alloc BR.size _)) (first | fail)
    all_goals (go_wp2_with fail; go_meet; exact ⟨_, rfl, rfl, Lib.hid ⟨And.left ‹Below w0.heap.size w0 _ ∧ _›, Blk.new _ _ _⟩⟩)
  case rest =>
    obtain ⟨ob, rfl, rfl, hbx⟩ := hcut
    have Bx := Lib.hid (B0.out.trans (hbx.out.1.mono B0.out.size))
    have Zx := Lib.hid (Z0.out.below hbx.out.1 hlt)
    have Ox := Lib.hid hbx.out.2
    have hl := hbx.out.1.size
    have RX := Lib.hid (hrc.chg (Chg.of_below (F := fun _ => False) Bx.out) (fun _ _ hf => hf))
    have HH := Lib.hid hrc.1
    clear k0 k1 k2 c0 c1 BR BR2 hbx K0 D0 M0 B0 Z0 hlook hrc
    obtain ⟨o0, o1, o2, o3, o4, o5, o6, o7, o8⟩ := Ox.out.nine
    go_wp2_with fail
    refine (fresh7 RX.out hn1 hn2).mono ?_
    rintro e2 w2 ⟨r2, rfl, hbf, hrf, hf1, hf2, hf3, hf4⟩
    unfold rcVal
    have ZF := Lib.hid (Zx.out.below hbf (by omega))
    have BF := Bx.out.trans (hbf.mono Bx.out.size)
    have BB := Lib.hid (((((((((BF.setCell (p := ⟨w.heap.size + 1, 0, none⟩) (Nat.le_succ _) (.int .i64 r2.h.age)).setCell (p := ⟨w.heap.size + 1, 1, none⟩) (Nat.le_succ _) (.int .i64 r2.h.kind)).setCell (p := ⟨w.heap.size + 1, 2, none⟩) (Nat.le_succ _) (.int .i64 r2.h.id)).setCell (p := ⟨w.heap.size + 1, 3, none⟩) (Nat.le_succ _) (.int .i64 r2.h.adv)).setCell (p := ⟨w.heap.size + 1, 4, none⟩) (Nat.le_succ _) (.int .i64 r2.h.seq)).setCell (p := ⟨w.heap.size + 1, 5, none⟩) (Nat.le_succ _) (.int .i64 r2.h.sum)).setCell (p := ⟨w.heap.size + 1, 6, none⟩) (Nat.le_succ _) (.int .i64 r2.h.long)).setCell (p := ⟨w.heap.size + 1, 7, none⟩) (Nat.le_succ _) (.slice r2.p.a r2.p.n r2.p.c)).setCell (p := ⟨w.heap.size + 1, 8, none⟩) (Nat.le_succ _) (.slice r2.q.a r2.q.n r2.q.c))
    have GG := Lib.hid (getOk_of (g := w.heap.size + 1) HC.out HH.out hrf hf1 hf2 hf3 hf4 Bx.out.size (by omega) (.int .i64 r2.h.age) (.int .i64 r2.h.kind) (.int .i64 r2.h.id) (.int .i64 r2.h.adv) (.int .i64 r2.h.seq) (.int .i64 r2.h.sum) (.int .i64 r2.h.long) (.slice r2.p.a r2.p.n r2.p.c) (.slice r2.q.a r2.q.n r2.q.c))
    rw [← HFD.out] at GG
    clear BF hbf hrf hf1 hf2 hf3 hf4 HC HFD o0 o1 o2 o3 o4 o5 o6 o7 o8
    obtain ⟨z0, z1, z2, z3, z4, z5, z6, z7, z8⟩ := ZF.out.nine
    obtain ⟨f0, f1, f2, f3, f4, f5, f6, f7, f8⟩ := ZF.out.nineF
    go_wp2_with fail
    refine bodyPost_ret (v := .tuple #[.agg #[.int .i64 r2.h.age, .int .i64 r2.h.kind, .int .i64 r2.h.id, .int .i64 r2.h.adv, .int .i64 r2.h.seq, .int .i64 r2.h.sum, .int .i64 r2.h.long, .slice r2.p.a r2.p.n r2.p.c, .slice r2.q.a r2.q.n r2.q.c], .bool fd]) (by simp [results, Tryz.results16, go_sem, *]) rfl ?_
    rw [← HQ.out]
    exact ⟨BB.out, GG.out⟩
end Go.Proofs.YtiibefgdlmjdgaaGreat
namespace Go.Proofs.YtiibefgdlmjdgaaGreat
open Go.RowKit

theorem seal_right {h : Hd} {L : List Lk} {M : List Int} (hr : rightB h L M = true) {A A' : Option Addr} {n c n' c' B : Nat} {w : World} (hL : Lnk w B A n L) (hM : Row .i64 w B A' n' M) (hB : B ≤ w.heap.size) (hn : n ≤ 50) (hn' : n' ≤ 50) :
    Calls Tryz.prog 38 #[.agg #[.int .i64 h.age, .int .i64 h.kind, .int .i64 h.id, .int .i64 h.adv, .int .i64 h.seq, .int .i64 h.sum, .int .i64 h.long, .slice A n c, .slice A' n' c']] w (SealOk w (sealHd h L M) L M) := by
  have h1 := seal_any h L M A A' n c n' c' B w hL hM hB hn hn'
  rwa [hr] at h1
/-- A database with one more. -/
theorem put_fin {w wS w3 : World} {lo p b : Nat} {room : Int} {S T : List La} {R : List Rc} {F : Nat → Prop} {x : La} {rS : Rc} (hB : Blk w p 75 #[.int .i64 room, .map (some b)]) (h1 : lo ≤ p) (h2 : lo ≤ b) (hM : MapIs w b R) (hA : All2 (RcIs w lo) R T) (hp : T.Perm S) (h3 : (S.length : Int) ≤ room) (h4 : room ≤ 40) (h5 : ∀ x ∈ S, rightB x.h x.L x.M = true) (hF : ∀ q, F q ↔ q = p ∨ q = b ∨ ∃ r ∈ R, rcFoot r q)
    (hs : SortL S) (hlo : lo ≤ w.heap.size) (hr : rightB x.h x.L x.M = true) (hfit : getL S (kyL x) = none → (S.length : Int) < room) (hbS : Below w.heap.size w wS) (hR : RcIs wS w.heap.size rS (sealL x)) (hM3 : MapIs w3 b (rS :: restR R (kyL x))) (ht : wS.mapTurned w3 b) :
    ∃ F', PDb w3 lo p room (insL (sealL x) (dropL S (kyL x))) F' ∧ Chg F w w3 ∧ ∀ q, F' q → F q ∨ w.heap.size ≤ q := by
  have hcS : Chg (fun q => q = b) w wS := Chg.of_below hbS
  have hct := chg_of_turned ht
  have hc : Chg (fun q => q = b) w w3 := hcS.trans hct (fun q hq => .inl hq)
  have hMS : MapIs wS b R := hM.below hbS hM.lt
  have hR3 : RcIs w3 lo rS (sealL x) := (hR.chg hct (fun q hq => hR.ne_map hMS hq)).mono hlo
  have hA2 : All2 (RcIs w3 lo) R T := all2_imp hA (fun r _ y hy => hy.chg hc (fun q hq => hy.ne_map hM hq))
  refine ⟨fun q => q = p ∨ q = b ∨ ∃ r ∈ rS :: restR R (kyL x), rcFoot r q, ⟨b, rS :: restR R (kyL x), sealL x :: dropL T (kyL x), hB.chg hc (hM.ne_blk hB), h1, h2, hM3, All2.cons hR3 (all2_rest (fun r x h => h.1) hA2 _), ?_, ?_, h4, fun y hy => ?_, fun q => Iff.rfl⟩, ⟨hc.os, hc.tape, hc.output, hc.size, fun q hq hn => hc.block q hq (fun e => hn ((hF q).2 (.inr (.inl e))))⟩, fun q hq => ?_⟩
  · exact ((hp.filter _).cons _).trans (insL_perm _ _).symm
  · rw [insL_length]
    cases hg : getL S (kyL x) with
    | none =>
      rw [dropL_none (getL_none.1 hg)]
      have := hfit hg
      omega
    | some y =>
      have := dropL_less hs hg
      omega
  · rcases mem_insL.1 hy with rfl | hy
    · show rightB (sealHd x.h x.L x.M) x.L x.M = true
      rw [right_seal]
      exact hr
    · exact h5 y (mem_drop.1 hy).1
  · rcases hq with hq | hq | ⟨r, hr', hq⟩
    · exact .inl ((hF q).2 (.inl hq))
    · exact .inl ((hF q).2 (.inr (.inl hq)))
    · rcases List.mem_cons.1 hr' with rfl | hr'
      · exact .inr (hR.foot hq).1
      · exact .inl ((hF q).2 (.inr (.inr ⟨r, (mem_restR.1 hr').1, hq⟩)))
theorem keepPut {w0 w' : World} {b p g gk : Nat} {t t2 t3 : TypeId} {v0 v1 k0 k1 k2 a0 a1 a2 a3 a4 a5 a6 a7 a8 : Value} (hB : Blk w0 p t #[v0, v1]) (hk : Blk w0 gk t2 #[k0, k1, k2]) (hg : Blk w0 g t3 #[a0, a1, a2, a3, a4, a5, a6, a7, a8]) (n1 : p ≠ b) (n2 : gk ≠ b) (n3 : g ≠ b) (hc : Chg (fun q => q = b) w0 w') :
    Chg (fun q => q = b) w0 w' ∧ w'.cell? ⟨p, 1, none⟩ = some v1 ∧ w'.cell? ⟨gk, 0, none⟩ = some k0 ∧ w'.cell? ⟨gk, 1, none⟩ = some k1 ∧ w'.cell? ⟨gk, 2, none⟩ = some k2 ∧ w'.cell? ⟨g, 0, none⟩ = some a0 ∧ w'.cell? ⟨g, 1, none⟩ = some a1 ∧ w'.cell? ⟨g, 2, none⟩ = some a2 ∧ w'.cell? ⟨g, 3, none⟩ = some a3 ∧ w'.cell? ⟨g, 4, none⟩ = some a4 ∧ w'.cell? ⟨g, 5, none⟩ = some a5 ∧ w'.cell? ⟨g, 6, none⟩ = some a6 ∧ w'.cell? ⟨g, 7, none⟩ = some a7 ∧ w'.cell? ⟨g, 8, none⟩ = some a8 := by
  obtain ⟨e0, e1, e2⟩ := (hk.chg hc n2).three
  obtain ⟨f0, f1, f2, f3, f4, f5, f6, f7, f8⟩ := (hg.chg hc n3).nine
  exact ⟨hc, (hB.chg hc n1).cell 1, e0, e1, e2, f0, f1, f2, f3, f4, f5, f6, f7, f8⟩
/-- A store of what is sealed. -/
theorem put_at {w wS : World} {b : Nat} {R : List Rc} (h : Hd) (L : List Lk) (M : List Int) (A A' : Option Addr) (n c n' c' : Nat) (hM : MapIs w b R) (hb : Below w.heap.size w wS) (hk : wfKy (keyH h)) (hn : R.length ≤ 40) :
    ∃ w3, (Instr.mapUpdate 73 (.map (some b)) (.agg #[.int .i64 h.kind, .int .i64 h.id, .int .i64 h.adv]) (.agg #[.int .i64 (sealHd h L M).age, .int .i64 (sealHd h L M).kind, .int .i64 (sealHd h L M).id, .int .i64 (sealHd h L M).adv, .int .i64 (sealHd h L M).seq, .int .i64 (sealHd h L M).sum, .int .i64 (sealHd h L M).long, .slice A n c, .slice A' n' c'])).run Tryz.prog wS = .ok () w3 ∧ MapIs w3 b (⟨sealHd h L M, ⟨A, n, c⟩, ⟨A', n', c'⟩⟩ :: restR R (keyH h)) ∧ wS.mapTurned w3 b :=
  (hM.below hb hM.lt).put ⟨sealHd h L M, ⟨A, n, c⟩, ⟨A', n', c'⟩⟩ hk (by unfold maxLen; omega)
set_option maxRecDepth 8000 in
set_option maxHeartbeats 8000000 in
theorem put_db {w : World} {lo p : Nat} {room : Int} {S : List La} {F : Nat → Prop} (h : PDb w lo p room S F) (hs : SortL S) (hlo : lo ≤ w.heap.size) (h : Hd) (L : List Lk) (M : List Int) (A A' : Option Addr) (n c n' c' B : Nat) (hL : Lnk w B A n L) (hM : Row .i64 w B A' n' M) (hBl : B ≤ w.heap.size) (hn : n ≤ 50) (hn' : n' ≤ 50) :
    Calls Tryz.prog 18 #[.pointer (some ⟨p, 0, none⟩), .agg #[.int .i64 h.age, .int .i64 h.kind, .int .i64 h.id, .int .i64 h.adv, .int .i64 h.seq, .int .i64 h.sum, .int .i64 h.long, .slice A n c, .slice A' n' c']] w fun e w' => e = .returned (.int .i64 (putE room S ⟨h, L, M⟩)) ∧ ∃ F', PDb w' lo p room (putS room S ⟨h, L, M⟩) F' ∧ Chg F w w' ∧ ∀ q, F' q → F q ∨ w.heap.size ≤ q := by
  rename_i hdb
  have HDB := Lib.hid hdb
  obtain ⟨b, R, T, hB, h1, h2, hMp, hA, hp, h3, h4, h5, hF⟩ := hdb
  generalize hQ : (fun (e : Ending) (w' : World) => e = .returned (.int .i64 (putE room S ⟨h, L, M⟩)) ∧ ∃ F', PDb w' lo p room (putS room S ⟨h, L, M⟩) F' ∧ Chg F w w' ∧ ∀ q, F' q → F q ∨ w.heap.size ≤ q) = Q
  have HQ := Lib.hid hQ
  clear hQ
  have HBl := Lib.hid hBl
  have HP := Lib.hid (show lo ≤ p ∧ lo ≤ b ∧ T.Perm S ∧ (S.length : Int) ≤ room ∧ room ≤ 40 ∧ (∀ x ∈ S, rightB x.h x.L x.M = true) ∧ (∀ q, F q ↔ q = p ∨ q = b ∨ ∃ r ∈ R, rcFoot r q) ∧ SortL S ∧ lo ≤ w.heap.size ∧ R.length = S.length ∧ R.length ≤ 40 from ⟨h1, h2, hp, h3, h4, h5, hF, hs, hlo, hA.1.trans hp.length_eq, by have := hA.1.trans hp.length_eq; omega⟩)
  have HA := Lib.hid hA
  have HB := Lib.hid hB
  have HM := Lib.hid hMp
  have hpl := hB.lt
  clear h1 h2 hp h3 h4 h5 hF hs hlo hA hBl hB hMp
  have K0 := Lib.hid (Blk.new w 44 #[.int .i64 h.age, .int .i64 h.kind, .int .i64 h.id, .int .i64 h.adv, .int .i64 h.seq, .int .i64 h.sum, .int .i64 h.long, .slice A n c, .slice A' n' c'])
  have B0 := Lib.hid ((Below.refl w.heap.size w).alloc (Nat.le_refl _) (.cells #[.int .i64 h.age, .int .i64 h.kind, .int .i64 h.id, .int .i64 h.adv, .int .i64 h.seq, .int .i64 h.sum, .int .i64 h.long, .slice A n c, .slice A' n' c'] 44))
  have HL0 := Lib.hid hL
  have HR0 := Lib.hid hM
  have HL := Lib.hid (hL.alloc HBl.out (.cells #[.int .i64 h.age, .int .i64 h.kind, .int .i64 h.id, .int .i64 h.adv, .int .i64 h.seq, .int .i64 h.sum, .int .i64 h.long, .slice A n c, .slice A' n' c'] 44))
  have HR := Lib.hid (hM.alloc HBl.out (.cells #[.int .i64 h.age, .int .i64 h.kind, .int .i64 h.id, .int .i64 h.adv, .int .i64 h.seq, .int .i64 h.sum, .int .i64 h.long, .slice A n c, .slice A' n' c'] 44))
  clear hL hM
  go_enter Tryz.func18, Tryz.ntmps18
  obtain ⟨o0, o1, o2, o3, o4, o5, o6, o7, o8⟩ := K0.out.nine
  go_wp2_with fail
  refine (right_any h L M A A' n c n' c' B _ HL.out HR.out (by have := HBl.out; simp; omega) (by unfold maxLen; omega) (by unfold maxLen; omega)).mono ?_
  rintro e1 w1 ⟨rfl, hb1⟩
  generalize w.alloc (.cells #[.int .i64 h.age, .int .i64 h.kind, .int .i64 h.id, .int .i64 h.adv, .int .i64 h.seq, .int .i64 h.sum, .int .i64 h.long, .slice A n c, .slice A' n' c'] 44) = w0 at *
  have hz0 := B0.out.size
  have B1 := Lib.hid (B0.out.trans (hb1.mono hz0))
  have K1 := Lib.hid (K0.out.below hb1 K0.out.lt)
  have HL1 := Lib.hid (HL.out.below (hb1.mono (Nat.le_trans HBl.out hz0)))
  have HR1 := Lib.hid (HR.out.below (hb1.mono (Nat.le_trans HBl.out hz0)))
  clear o0 o1 o2 o3 o4 o5 o6 o7 o8 K0 B0 HL HR hb1
  cases hr : rightB h L M
  · go_wp2
    show Q (.returned (.int .i64 1)) _
    rw [← HQ.out]
    have e1 : putE room S ⟨h, L, M⟩ = 1 := by unfold putE; rw [if_pos hr]
    have e2 : putS room S ⟨h, L, M⟩ = S := by unfold putS; rw [e1]; rfl
    rw [e1, e2]
    exact ⟨rfl, F, HDB.out.chg (Chg.of_below (F := fun _ => False) B1.out) (fun _ _ hf => hf), Chg.of_below B1.out, fun q hq => .inl hq⟩
  · have HRT := Lib.hid hr
    have HW := Lib.hid (show wfKy (keyH h) from wfKy_right (x := ⟨h, L, M⟩) hr)
    clear hr hz0
    obtain ⟨o0, o1, o2, o3, o4, o5, o6, o7, o8⟩ := K1.out.nine
    go_wp2_with fail
    refine (keyOf_any h _).mono ?_
    rintro e2 w2 ⟨rfl, hb2⟩
    have KL1 := Lib.hid K1.out.lt
    have B2 := Lib.hid ((B1.out.trans (hb2.mono B1.out.size)).alloc (Nat.le_trans B1.out.size hb2.size) (.cells #[.int .i64 h.kind, .int .i64 h.id, .int .i64 h.adv] 48))
    have K2 := Lib.hid ((K1.out.below hb2 K1.out.lt).below ((Below.refl w2.heap.size w2).alloc (Nat.le_refl _) (.cells #[.int .i64 h.kind, .int .i64 h.id, .int .i64 h.adv] 48)) (Nat.lt_of_lt_of_le K1.out.lt hb2.size))
    have J2 := Lib.hid (Blk.new w2 48 #[.int .i64 h.kind, .int .i64 h.id, .int .i64 h.adv])
    clear o0 o1 o2 o3 o4 o5 o6 o7 o8 K1 HL1 HR1 B1
    go_wp2_with fail
    have HGK := Lib.hid (show w.heap.size < w2.heap.size from Nat.lt_of_lt_of_le KL1.out hb2.size)
    clear hb2 KL1
    generalize w2.alloc (.cells #[.int .i64 h.kind, .int .i64 h.id, .int .i64 h.adv] 48) = wa at *
    generalize w2.heap.size = gk at *
    have DA := Lib.hid (HB.out.below B2.out HB.out.lt)
    have MA := Lib.hid (HM.out.below B2.out HM.out.lt)
    obtain ⟨fd, hfd⟩ : ∃ fd, fd = (getL S (keyH h)).isSome := ⟨_, rfl⟩
    obtain ⟨r0, hlook, -⟩ := look_both (b := b) HA.out HP.out.2.2.1 HP.out.2.2.2.2.2.2.2.1 HW.out
    rw [← hfd] at hlook
    have HFD := Lib.hid hfd
    clear hfd
    change ∀ W, MapIs W b R → (Instr.lookup 73 (.map (some b)) (.agg #[.int .i64 h.kind, .int .i64 h.id, .int .i64 h.adv]) true).run Tryz.prog W = _ at hlook
    have hpla : p < wa.heap.size := DA.out.lt
    have hgka : gk < wa.heap.size := J2.out.lt
    have hwa : w.heap.size < wa.heap.size := K2.out.lt
    obtain ⟨k0, k1, k2⟩ := J2.out.three
    have c1 := DA.out.cell 1
    simp at c1
    have BR : Below wa.heap.size wa wa.drew := ⟨rfl, rfl, rfl, Nat.le_refl _, fun _ _ => rfl⟩
    have BR2 : ∀ o, Below wa.heap.size wa (wa.alloc o).drew := fun o => below_drewN ((Below.refl _ _).alloc (Nat.le_refl _) o) 1
    go_cut [7] (fun s7 wx => s7 = .bool fd ∧ Hid (Below wa.heap.size wa wx))
    case first =>
      go_region_held3 (fun w' => Below wa.heap.size wa w' ∧ MapIs w' b R ∧ (∀ b o, b < wa.heap.size → w'.cell? ⟨b, o, none⟩ = wa.cell? ⟨b, o, none⟩)) ((refine keepDb MA.out ?_; first | with_reducible exact BR | with_reducible exact BR2 _ | with_reducible exact BR.alloc BR.size _)) (first | fail)
      all_goals (go_wp2_with fail; go_meet; exact ⟨rfl, Lib.hid (And.left ‹Below wa.heap.size wa _ ∧ _›)⟩)
    case rest =>
      obtain ⟨rfl, hbx⟩ := hcut
      have B3 := Lib.hid (B2.out.trans (hbx.out.mono B2.out.size))
      have K3 := Lib.hid (K2.out.below hbx.out hwa)
      have J3 := Lib.hid (J2.out.below hbx.out hgka)
      have D3 := Lib.hid (DA.out.below hbx.out hpla)
      have M3 := Lib.hid (MA.out.below hbx.out MA.out.lt)
      clear k0 k1 k2 c1 BR BR2 hbx K2 J2 DA MA B2 hlook hpla hgka hwa
      have c0 := D3.out.cell 0
      have c1 := D3.out.cell 1
      simp at c0 c1
      obtain ⟨full, hfull⟩ : ∃ full : Bool, full = (!fd && decide (room ≤ (S.length : Int))) := ⟨_, rfl⟩
      have HFU := Lib.hid hfull
      go_wp2_with fail
      go_cut [38] (fun s38 wx => s38 = .bool full ∧ Hid (∃ q, wx = wc.drewN q))
      case first =>
        have hlen : ∀ ty q, (Builtin.len_ #[73] ty #[.map (some b)]).run Tryz.prog (wc.drewN q) = .ok (.int .i64 (S.length : Int)) (wc.drewN q) := fun ty q => by rw [(M3.out.heap (w' := wc.drewN q) rfl).len ty, HP.out.2.2.2.2.2.2.2.2.2.1]
        cases fd
        · go_quiet (fail)
          go_wp2_with fail
          go_meet
          exact ⟨by rw [HFU.out]; simp, Lib.hid ⟨nq, rfl⟩⟩
        · go_quiet (fail)
          go_wp2_with fail
          go_meet
          exact ⟨by rw [HFU.out]; simp, Lib.hid ⟨nq, rfl⟩⟩
      case rest =>
        obtain ⟨rfl, hq⟩ := hcut
        obtain ⟨q, rfl⟩ := hq.out
        have B4 := Lib.hid (B3.out.trans (⟨rfl, rfl, rfl, Nat.le_refl _, fun _ _ => rfl⟩ : Below w.heap.size wc (wc.drewN q)))
        have K4 := Lib.hid (K3.out.drewN q)
        have J4 := Lib.hid (J3.out.drewN q)
        have D4 := Lib.hid (D3.out.drewN q)
        clear c0 c1 K3 J3 D3 M3 B3 hq hfull
        generalize wc.drewN q = wd at *
        cases full
        · have hfit : getL S (keyH h) = none → (S.length : Int) < room := fun hg => by
            have h1 := HFU.out
            rw [HFD.out, hg] at h1
            simp at h1
            omega
          have HFIT := Lib.hid hfit
          clear hfit
          have HL4 := Lib.hid (HL0.out.below (B4.out.mono HBl.out))
          have HR4 := Lib.hid (HR0.out.below (B4.out.mono HBl.out))
          have N1 := Lib.hid ((HM.out.below B4.out HM.out.lt).ne_blk D4.out)
          have N2 := Lib.hid ((HM.out.below B4.out HM.out.lt).ne_blk J4.out)
          have N3 := Lib.hid ((HM.out.below B4.out HM.out.lt).ne_blk K4.out)
          have M4 := Lib.hid (HM.out.below B4.out HM.out.lt)
          have HZ4 := Lib.hid (Nat.le_trans HBl.out B4.out.size)
          have c1 := D4.out.cell 1
          simp at c1
          obtain ⟨k0, k1, k2⟩ := J4.out.three
          obtain ⟨o0, o1, o2, o3, o4, o5, o6, o7, o8⟩ := K4.out.nine
          have C0 : Chg (fun q => q = b) wd wd.drew := ⟨rfl, rfl, rfl, Nat.le_refl _, fun _ _ _ => rfl⟩
          have BD : Below wd.heap.size wd wd.drew := ⟨rfl, rfl, rfl, Nat.le_refl _, fun _ _ => rfl⟩
          go_wp2_with fail
          go_region_held3 (fun w' => Chg (fun q => q = b) wd w' ∧ w'.cell? ⟨p, 1, none⟩ = some (.map (some b)) ∧ w'.cell? ⟨gk, 0, none⟩ = some (.int .i64 h.kind) ∧ w'.cell? ⟨gk, 1, none⟩ = some (.int .i64 h.id) ∧ w'.cell? ⟨gk, 2, none⟩ = some (.int .i64 h.adv) ∧ w'.cell? ⟨w.heap.size, 0, none⟩ = some (.int .i64 h.age) ∧ w'.cell? ⟨w.heap.size, 1, none⟩ = some (.int .i64 h.kind) ∧ w'.cell? ⟨w.heap.size, 2, none⟩ = some (.int .i64 h.id) ∧ w'.cell? ⟨w.heap.size, 3, none⟩ = some (.int .i64 h.adv) ∧ w'.cell? ⟨w.heap.size, 4, none⟩ = some (.int .i64 h.seq) ∧ w'.cell? ⟨w.heap.size, 5, none⟩ = some (.int .i64 h.sum) ∧ w'.cell? ⟨w.heap.size, 6, none⟩ = some (.int .i64 h.long) ∧ w'.cell? ⟨w.heap.size, 7, none⟩ = some (.slice A n c) ∧ w'.cell? ⟨w.heap.size, 8, none⟩ = some (.slice A' n' c')) ((refine keepPut D4.out J4.out K4.out N1.out N2.out N3.out ?_; first | with_reducible exact C0 | with_reducible exact hCS | with_reducible exact hC3))
            (first
              | (go_at_call 38; refine (seal_right HRT.out (B := B) (w := wd.drew) (HL4.out.below ⟨rfl, rfl, rfl, Nat.le_refl _, fun _ _ => rfl⟩) (HR4.out.below ⟨rfl, rfl, rfl, Nat.le_refl _, fun _ _ => rfl⟩) HZ4.out hn hn').mono ?_; rintro eS wS ⟨AS, nS, cS, AS', nS', cS', rfl, hoS, hlS, hoS', hlS', hbS⟩; have hCS := C0.below hbS; obtain ⟨w3, hput, hM3, hturn⟩ := put_at h L M AS AS' nS cS nS' cS' M4.out (BD.trans hbS) HW.out (HP.out.2.2.2.2.2.2.2.2.2.2); have hC3 := hCS.trans (chg_of_turned hturn) (fun q hq => .inl hq)))
          have HSX := Lib.hid (show RcIs wS w.heap.size ⟨sealHd h L M, ⟨AS, nS, cS⟩, ⟨AS', nS', cS'⟩⟩ (sealL ⟨h, L, M⟩) from ⟨rfl, own_low hoS B4.out.size, hlS, own_low hoS' B4.out.size, hlS'⟩)
          have HM3 := Lib.hid hM3
          have HTU := Lib.hid hturn
          have BS := Lib.hid (B4.out.trans ((BD.trans hbS).mono B4.out.size))
          clear k0 k1 k2 c1 o0 o1 o2 o3 o4 o5 o6 o7 o8 C0 BD hoS hoS' hlS hlS' hbS hCS hput hM3 hturn hC3
          go_wp2
          show Q (.returned (.int .i64 0)) _
          rw [← HQ.out]
          obtain ⟨p1, p2, p3, p4, p5, p6, p7, p8, p9, p10, p11⟩ := HP.out
          have e1 : putE room S ⟨h, L, M⟩ = 0 := by
            unfold putE
            rw [if_neg (by rw [HRT.out]; decide), if_neg (fun hx => by
              have h1 := HFIT.out (Option.isNone_iff_eq_none.1 hx.1)
              omega)]
          have e2 : putS room S ⟨h, L, M⟩ = insL (sealL ⟨h, L, M⟩) (dropL S (kyL ⟨h, L, M⟩)) := by unfold putS; rw [e1]; rfl
          rw [e1, e2]
          exact ⟨rfl, put_fin (x := ⟨h, L, M⟩) HB.out p1 p2 HM.out HA.out p3 p4 p5 p6 p7 p8 p9 HRT.out HFIT.out BS.out HSX.out HM3.out HTU.out⟩
        · go_wp2
          show Q (.returned (.int .i64 7)) _
          rw [← HQ.out]
          have hg : getL S (keyH h) = none ∧ room ≤ (S.length : Int) := by
            have h1 := HFU.out
            rw [HFD.out] at h1
            simpa using h1.symm
          have e1 : putE room S ⟨h, L, M⟩ = 7 := by
            have hn1 : (getL S (kyL ⟨h, L, M⟩)).isNone = true := by
              show (getL S (keyH h)).isNone = true
              rw [hg.1]
              rfl
            unfold putE
            rw [if_neg (by rw [HRT.out]; decide), if_pos ⟨hn1, hg.2⟩]
          have e2 : putS room S ⟨h, L, M⟩ = S := by unfold putS; rw [e1]; rfl
          rw [e1, e2]
          exact ⟨rfl, F, HDB.out.chg (Chg.of_below (F := fun _ => False) B4.out) (fun _ _ hf => hf), Chg.of_below B4.out, fun q hq => .inl hq⟩
end Go.Proofs.YtiibefgdlmjdgaaGreat
namespace Go.Proofs.YtiibefgdlmjdgaaGreat
open Go.RowKit

end Go.Proofs.YtiibefgdlmjdgaaGreat
namespace Go.Proofs.YtiibefgdlmjdgaaGreat
open Go.RowKit

/-- What the reference's Get and GetHead answer. -/
def GotR (w : World) (h : Hd) (L : List Lk) (M : List Int) (e : Int) (x : Ending) (w' : World) : Prop :=
  ∃ A n c A' n' c', x = .returned (.agg #[.int .i64 h.age, .int .i64 h.kind, .int .i64 h.id, .int .i64 h.adv, .int .i64 h.seq, .int .i64 h.sum, .int .i64 h.long, .slice A n c, .slice A' n' c', .int .i64 e]) ∧ w'.ownsRow w.heap.size 87 4 (.slice A n c) n (lkCells L) ∧ L.length = n ∧ w'.ownsRow w.heap.size 3 1 (.slice A' n' c') n' (M.map (Value.int .i64)) ∧ M.length = n' ∧ Below w.heap.size w w'
theorem gotR_head {w w' : World} {h : Hd} {e : Int} (hb : Below w.heap.size w w') : GotR w h [] [] e (.returned (.agg #[.int .i64 h.age, .int .i64 h.kind, .int .i64 h.id, .int .i64 h.adv, .int .i64 h.seq, .int .i64 h.sum, .int .i64 h.long, .slice none 0 0, .slice none 0 0, .int .i64 e])) w' :=
  ⟨none, 0, 0, none, 0, 0, rfl, World.ownsRow_nil _ _ _ _, rfl, World.ownsRow_nil _ _ _ _, rfl, hb⟩

theorem Blk.ten {w : World} {g : Nat} {t : TypeId} {a0 a1 a2 a3 a4 a5 a6 a7 a8 a9 : Value} (h : Blk w g t #[a0, a1, a2, a3, a4, a5, a6, a7, a8, a9]) :
    w.cell? ⟨g, 0, none⟩ = some a0 ∧ w.cell? ⟨g, 1, none⟩ = some a1 ∧ w.cell? ⟨g, 2, none⟩ = some a2 ∧ w.cell? ⟨g, 3, none⟩ = some a3 ∧ w.cell? ⟨g, 4, none⟩ = some a4 ∧ w.cell? ⟨g, 5, none⟩ = some a5 ∧ w.cell? ⟨g, 6, none⟩ = some a6 ∧ w.cell? ⟨g, 7, none⟩ = some a7 ∧ w.cell? ⟨g, 8, none⟩ = some a8 ∧ w.cell? ⟨g, 9, none⟩ = some a9 :=
  ⟨h.cell 0, h.cell 1, h.cell 2, h.cell 3, h.cell 4, h.cell 5, h.cell 6, h.cell 7, h.cell 8, h.cell 9⟩
theorem Blk.tenF {w : World} {g : Nat} {t : TypeId} {cs : Array Value} (h : Blk w g t cs) :
    w.frozen? ⟨g, 0, none⟩ = false ∧ w.frozen? ⟨g, 1, none⟩ = false ∧ w.frozen? ⟨g, 2, none⟩ = false ∧ w.frozen? ⟨g, 3, none⟩ = false ∧ w.frozen? ⟨g, 4, none⟩ = false ∧ w.frozen? ⟨g, 5, none⟩ = false ∧ w.frozen? ⟨g, 6, none⟩ = false ∧ w.frozen? ⟨g, 7, none⟩ = false ∧ w.frozen? ⟨g, 8, none⟩ = false ∧ w.frozen? ⟨g, 9, none⟩ = false :=
  ⟨h.frozen 0, h.frozen 1, h.frozen 2, h.frozen 3, h.frozen 4, h.frozen 5, h.frozen 6, h.frozen 7, h.frozen 8, h.frozen 9⟩

end Go.Proofs.YtiibefgdlmjdgaaGreat
namespace Go.Proofs.YtiibefgdlmjdgaaGreat
open Go.RowKit

end Go.Proofs.YtiibefgdlmjdgaaGreat
