/- The program's Tick. Conditions: what the words say. -/
import Derived.Test.YtlcaaoflbldocaaGo
namespace Go.Proofs.Ytlcaaoflbldocaa
open Go.RowKit

/-- A description in memory, a tick on. -/
def bump (r : Rc) : Rc := ⟨⟨r.h.age + 1, r.h.kind, r.h.id, r.h.adv, r.h.seq, r.h.sum, r.h.long⟩, r.p, r.q⟩
/-- How far a tick is: behind j keys. -/
def TickIs (w w1 wr : World) (lo b : Nat) (S : List La) (F : Nat → Prop) (j : Nat) : Prop :=
  ∃ (R : List Rc) (T : List La), MapIs wr b R ∧ All2 (RcIs w lo) R T ∧ T.Perm (tickUp S j) ∧ (∀ r ∈ R, ∀ q, rcFoot r q → F q) ∧ Chg (fun q => q = b) w1 wr
theorem TickIs.below {w w1 wr w2 : World} {lo b : Nat} {S : List La} {F : Nat → Prop} {j : Nat} (h : TickIs w w1 wr lo b S F j) (hb : Below wr.heap.size wr w2) : TickIs w w1 w2 lo b S F j := by
  obtain ⟨R, T, h1, h2, h3, h4, h5⟩ := h
  exact ⟨R, T, h1.below hb h1.lt, h2, h3, h4, h5.below hb⟩
theorem bump_is {w : World} {lo : Nat} {r : Rc} {x : La} (h : RcIs w lo r x) (ha : x.h.age < 60) : RcIs w lo (bump r) (tickL x) := by
  obtain ⟨h1, h2, h3, h4, h5⟩ := h
  unfold tickL
  rw [if_pos ha]
  refine ⟨?_, h2, h3, h4, h5⟩
  unfold bump
  rw [h1]
/-- A round that lays one anew. -/
theorem tick_put {w w1 w4 w5 : World} {lo b : Nat} {S T : List La} {F : Nat → Prop} {j : Nat} {R : List Rc} {r0 : Rc} {x : La} (hs : SortL S) (hx : S[j]? = some x) (ha : x.h.age < 60) (hA : All2 (RcIs w lo) R T) (hp : T.Perm (tickUp S j)) (hf : ∀ r ∈ R, ∀ q, rcFoot r q → F q) (hc : Chg (fun q => q = b) w1 w4) (hr : RcIs w lo r0 x) (hm : r0 ∈ R)
    (h5 : MapIs w5 b (bump r0 :: restR R (keyH (bump r0).h))) (ht : w4.mapTurned w5 b) : TickIs w w1 w5 lo b S F (j + 1) := by
  have hk : keyH (bump r0).h = kyL x := by
    show keyH r0.h = kyL x
    unfold kyL
    rw [hr.1]
  rw [hk] at h5
  refine ⟨_, tickL x :: dropL T (kyL x), h5, All2.cons (bump_is hr ha) (all2_rest (fun r x h => h.1) hA _), tickUp_perm hs hx hp, fun r hr' q hq => ?_, hc.trans (chg_of_turned ht) (fun q hq => .inl hq)⟩
  rcases List.mem_cons.1 hr' with rfl | hr'
  · exact hf r0 hm q hq
  · exact hf r (mem_restR.1 hr').1 q hq
/-- The one of the round's key. -/
theorem tick_item {w : World} {lo : Nat} {S T : List La} {R : List Rc} {j : Nat} {x : La} (hs : SortL S) (h5 : ∀ x ∈ S, rightB x.h x.L x.M = true) (hx : S[j]? = some x) (hA : All2 (RcIs w lo) R T) (hp : T.Perm (tickUp S j)) :
    ∃ r0, getR R (kyL x) = some r0 ∧ RcIs w lo r0 x ∧ r0 ∈ R ∧ wfKy (kyL x) ∧ 0 ≤ r0.h.age ∧ r0.h.age ≤ 60 := by
  obtain ⟨r0, h1, h2, -, -, h3⟩ := item_db hA hp (tickUp_sort hs j) (tickUp_right h5 j) (tickUp_mem hx)
  obtain ⟨a1, a2⟩ := right_age (h5 x (List.mem_of_getElem? hx))
  exact ⟨r0, h1, h2, (getR_some h1).1, h3, by rw [h2.1]; exact a1, by rw [h2.1]; exact a2⟩
/-- 'm[k] = v' as the next operation of a plain region's list. -/
theorem wpList_put7 {ops : Array Oper} {rest : List Oper} {o : Oper} {a : Act} {w : World} {Q : Exit → Act → World → Prop} {b : Nat} {R : List Rc} (r : Rc) (k : Ky) (hkk : keyH r.h = k) (hg : o.guard = none) (m x v : Operand) (hop : o.op = Op.mapUpdate 63 m x v) (hm : a.eval m = .map (some b)) (hx : a.eval x = .agg #[.int .i64 k.kind, .int .i64 k.id, .int .i64 k.adv]) (hv : a.eval v = rcVal r)
    (h : MapIs w b R) (hk : wfKy k) (hn : R.length < maxLen) (hK : ∀ w', MapIs w' b (r :: restR R (keyH r.h)) → w.mapTurned w' b → wpList Try.prog ops Q rest (a.put o.dst undef) w') : wpList Try.prog ops Q (o :: rest) a w := by
  subst hkk
  refine wpList_plain hg fun K' hK' => ?_
  obtain ⟨w', hrun, r1, r2⟩ := h.put r hk hn
  have hx2 : a.eval x = .agg #[.int .i64 r.h.kind, .int .i64 r.h.id, .int .i64 r.h.adv] := hx
  unfold Oper.wp
  simp [execOp, hop, hm, hx2, hv, hrun, Result.andThen]
  exact hK' _ _ (hK w' r1 r2)
/-- An append to the list of keys leaves it. -/
theorem TickIs.grown {w w1 w5 w6 : World} {lo b base m : Nat} {S : List La} {F : Nat → Prop} {j : Nat} {t : TypeId} {size : Nat} {v : Value} {xs : List Value} {o : Obj} (h : TickIs w w1 w5 lo b S F j) (ho : w5.ownsRow base t size v m xs) (hb : w1.heap.size ≤ base) (hg : (w5.alloc o).grownBy w6 v.ownBlock) : TickIs w w1 w6 lo b S F j := by
  obtain ⟨R, T, h1, h2, h3, h4, h5⟩ := h
  have hc : Chg (fun q => v.ownBlock = some q) w5 w6 := (Chg.of_below (F := fun q => v.ownBlock = some q) ((Below.refl w5.heap.size w5).alloc (Nat.le_refl _) o)).trans (Chg.of_grown hg (fun q hq => hq)) (fun q hq => .inl hq)
  exact ⟨R, T, h1.chg hc (own_ne_map h1 ho), h2, h3, h4, h5.trans hc (fun q hq => .inr (Nat.le_trans hb (ho.lt q hq).1))⟩
/-- A round that lays none anew. -/
theorem TickIs.old {w w1 wr : World} {lo b : Nat} {S : List La} {F : Nat → Prop} {j : Nat} {x : La} (h : TickIs w w1 wr lo b S F j) (hx : S[j]? = some x) (ha : ¬ x.h.age < 60) : TickIs w w1 wr lo b S F (j + 1) := by
  obtain ⟨R, T, h1, h2, h3, h4, h5⟩ := h
  exact ⟨R, T, h1, h2, by rw [tickUp_old hx ha]; exact h3, h4, h5⟩
/-- What Tick leaves. -/
theorem tick_fin {w w1 wr : World} {lo p b n : Nat} {room : Int} {S : List La} {F : Nat → Prop} {R0 : List Rc} (hB : Blk w p 65 #[.int .i64 room, .map (some b)]) (hM : MapIs w b R0) (hp : lo ≤ p ∧ lo ≤ b ∧ (S.length : Int) ≤ room ∧ room ≤ 40 ∧ (∀ x ∈ S, rightB x.h x.L x.M = true) ∧ F p ∧ F b ∧ SortL S ∧ S.length ≤ 40) (hb : Below w.heap.size w w1) (hn : n = S.length) (h : TickIs w w1 wr lo b S F n) :
    ∃ F', PDb wr lo p room (S.map tickL) F' ∧ Chg F w wr ∧ ∀ q, F' q → F q ∨ w.heap.size ≤ q := by
  obtain ⟨R, T, h1, h2, h3, h4, h5⟩ := h
  obtain ⟨p1, p2, p3, p4, p5, p6, p7, p8, p9⟩ := hp
  have hc : Chg (fun q => q = b) w wr := (Chg.of_below (F := fun q => q = b) hb).trans h5 (fun q hq => .inl hq)
  rw [hn, tickUp_all] at h3
  refine ⟨fun q => q = p ∨ q = b ∨ ∃ r ∈ R, rcFoot r q, ⟨b, R, T, hB.chg hc (hM.ne_blk hB), p1, p2, h1, all2_imp h2 (fun r _ x hx => hx.chg hc (fun q hq => hx.ne_map hM hq)), h3, by rw [List.length_map]; exact p3, p4, fun x hx => ?_, fun q => Iff.rfl⟩, ⟨hc.os, hc.tape, hc.output, hc.size, fun q hq hn => hc.block q hq (fun e => hn (by rw [e]; exact p7))⟩, fun q hq => .inl ?_⟩
  · obtain ⟨y, hy, rfl⟩ := List.mem_map.1 hx
    exact right_tick (p5 y hy)
  · rcases hq with hq | hq | ⟨r, hr, hq⟩
    · rw [hq]
      exact p6
    · rw [hq]
      exact p7
    · exact h4 r hr q hq
set_option maxRecDepth 8000 in
set_option maxHeartbeats 8000000 in
theorem tick_db {w : World} {lo p : Nat} {room : Int} {S : List La} {F : Nat → Prop} (h : PDb w lo p room S F) (hs : SortL S) :
    Calls Try.prog 16 #[.pointer (some ⟨p, 0, none⟩)] w fun e w' => ∃ (A' : Option Addr) (m c' : Nat), e = .returned (.slice A' m c') ∧ w'.ownsRow w.heap.size 38 3 (.slice A' m c') m (kyCells (tickKeysL S)) ∧ ∃ F', PDb w' lo p room (S.map tickL) F' ∧ Chg F w w' ∧ ∀ q, F' q → F q ∨ w.heap.size ≤ q := by
  have HK := Lib.hid (keys_db h hs)
  obtain ⟨b, R, T, hB, h1, h2, hM, hA, hp, h3, h4, h5, hF⟩ := h
  generalize hQ : (fun (e : Ending) (w' : World) => ∃ (A' : Option Addr) (m c' : Nat), e = .returned (.slice A' m c') ∧ w'.ownsRow w.heap.size 38 3 (.slice A' m c') m (kyCells (tickKeysL S)) ∧ ∃ F', PDb w' lo p room (S.map tickL) F' ∧ Chg F w w' ∧ ∀ q, F' q → F q ∨ w.heap.size ≤ q) = Q
  have HQ := Lib.hid hQ
  clear hQ
  have HP := Lib.hid (show lo ≤ p ∧ lo ≤ b ∧ (S.length : Int) ≤ room ∧ room ≤ 40 ∧ (∀ x ∈ S, rightB x.h x.L x.M = true) ∧ F p ∧ F b ∧ SortL S ∧ S.length ≤ 40 from ⟨h1, h2, h3, h4, h5, (hF p).2 (.inl rfl), (hF b).2 (.inr (.inl rfl)), hs, by omega⟩)
  have HT0 := Lib.hid (show TickIs w w w lo b S F 0 from ⟨R, T, hM, hA, by rw [tickUp_zero]; exact hp, fun r hr q hq => (hF q).2 (.inr (.inr ⟨r, hr, hq⟩)), Chg.refl _ _⟩)
  have HB := Lib.hid hB
  have HM := Lib.hid hM
  have HNB := Lib.hid (hM.ne_blk hB)
  have hpl := hB.lt
  clear hB hM hA hp h1 h2 h3 h4 h5 hF
  go_enter Try.func16, Try.ntmps16
  go_wp2_with fail
  refine HK.out.mono ?_
  rintro e1 w1 ⟨A1, n1, cc1, rfl, hb1, ho1⟩
  have hn1 := ho1.1
  rw [kyCells_length, List.length_map] at hn1
  have HN1 := Lib.hid (show n1 = S.length by omega)
  have HO1 := Lib.hid ho1
  have HB1 := Lib.hid hb1
  have HT1 := Lib.hid (show TickIs w w1 w1 lo b S F 0 by
    obtain ⟨R', T', g1, g2, g3, g4, g5⟩ := HT0.out
    exact ⟨R', T', g1.below hb1 g1.lt, g2, g3, g4, Chg.refl _ _⟩)
  have HM1 := Lib.hid (HM.out.below hb1 HM.out.lt)
  clear ho1 hb1 hn1 HK HT0
  go_wp2_with fail
  go_loopw [3, 10] (fun s3 s10 wr => ∃ (j m c' : Nat) (A' : Option Addr), j ≤ n1 ∧ s10 = .int .i64 j ∧ s3 = .slice A' m c' ∧ Hid (m ≤ j) ∧ Hid (wr.ownsRow w1.heap.size 38 3 (.slice A' m c') m (kyCells (tickKeysL (S.take j)))) ∧ Hid (TickIs w w1 wr lo b S F j)) (fun _ i _ => n1 - (intOf i).toNat)
  case atStart => exact ⟨0, 0, 0, none, Nat.zero_le _, rfl, rfl, Lib.hid (Nat.le_refl _), Lib.hid (by exact World.ownsRow_nil _ _ _ _), HT1⟩
  case round =>
    obtain ⟨j, m, c', A', hj, rfl, rfl, HMJ, HO, HTI⟩ := hrel
    by_cases hlt : j < n1
    · have hlt' : (j : Int) < n1 := by omega
      obtain ⟨x, hx⟩ : ∃ x, S[j]? = some x := ⟨S[j]'(by have := HN1.out; omega), List.getElem?_eq_getElem (by have := HN1.out; omega)⟩
      have HX := Lib.hid hx
      obtain ⟨Rj, Tj, g1, g2, g3, g4, g5⟩ := HTI.out
      obtain ⟨r0, hg0, hrc, hmem, hwf, ha1, ha2⟩ := tick_item HP.out.2.2.2.2.2.2.2.1 HP.out.2.2.2.2.1 hx g2 g3
      have hkj : (S.map kyL)[j]? = some (kyL x) := by rw [List.getElem?_map, hx]; rfl
      obtain ⟨g, rfl, -, hgl, hnc, hcm, y0, y1, y2⟩ := own_ky (own_chg HO1.out g5 (fun q hq e => own_ne_map HM1.out HO1.out (by rw [hq, e]))) hkj
      unfold maxLen at hcm
      have HRC := Lib.hid hrc
      have HG0 := Lib.hid hg0
      have HWF := Lib.hid hwf
      have HME := Lib.hid hmem
      have G1 := Lib.hid g1
      have G2 := Lib.hid g2
      have G3 := Lib.hid g3
      have G4 := Lib.hid g4
      have G5 := Lib.hid g5
      have HKX := Lib.hid (show keyH r0.h = kyL x by unfold kyL; rw [hrc.1])
      have HAX := Lib.hid (show r0.h.age = x.h.age by rw [hrc.1])
      have HRL := Lib.hid (show Rj.length ≤ 40 by have e1 := g2.1; have e2 := g3.length_eq; rw [tickUp_length] at e2; have := HP.out.2.2.2.2.2.2.2.2; omega)
      clear hx hrc hg0 hwf hmem hkj g1 g2 g3 g4 g5
      generalize hk : kyL x = k at *
      have HKE := Lib.hid hk
      clear hk
      have hzr : w1.heap.size ≤ wr.heap.size := G5.out.size
      go_wp2_with fail
      have J2 := Lib.hid (Blk.new wr 38 #[.int .i64 k.kind, .int .i64 k.id, .int .i64 k.adv])
      have BW2 := Lib.hid ((Below.refl wr.heap.size wr).alloc (Nat.le_refl _) (.cells #[.int .i64 k.kind, .int .i64 k.id, .int .i64 k.adv] 38))
      clear y0 y1 y2
      generalize wr.alloc (.cells #[.int .i64 k.kind, .int .i64 k.id, .int .i64 k.adv] 38) = w2 at *
      have D2 := Lib.hid (((HB.out.below HB1.out HB.out.lt).chg G5.out HNB.out).below BW2.out (Nat.lt_of_lt_of_le HB.out.lt (Nat.le_trans HB1.out.size hzr)))
      have M2 := Lib.hid (G1.out.below BW2.out G1.out.lt)
      have hlook : ∀ W : World, MapIs W b Rj → (Instr.lookup 63 (.map (some b)) (.agg #[.int .i64 k.kind, .int .i64 k.id, .int .i64 k.adv]) false).run Try.prog W = .ok (.agg #[.int .i64 r0.h.age, .int .i64 r0.h.kind, .int .i64 r0.h.id, .int .i64 r0.h.adv, .int .i64 r0.h.seq, .int .i64 r0.h.sum, .int .i64 r0.h.long, .slice r0.p.a r0.p.n r0.p.c, .slice r0.q.a r0.q.n r0.q.c]) W := fun W hW => (hW.look_some HWF.out HG0.out).2
      have hgk2 : wr.heap.size < w2.heap.size := J2.out.lt
      have hpl2 : p < w2.heap.size := D2.out.lt
      obtain ⟨k0, k1, k2⟩ := J2.out.three
      have c1 := D2.out.cell 1
      simp at c1
      have BR : Below w2.heap.size w2 w2.drew := ⟨rfl, rfl, rfl, Nat.le_refl _, fun _ _ => rfl⟩
      have BR2 : ∀ o, Below w2.heap.size w2 (w2.alloc o).drew := fun o => below_drewN ((Below.refl _ _).alloc (Nat.le_refl _) o) 1
      go_cut [6] (fun s6 wx => ∃ ob, s6 = .pointer (some ⟨ob, 0, none⟩) ∧ Hid (w2.heap.size ≤ ob ∧ Below w2.heap.size w2 wx ∧ Blk wx ob 34 #[.int .i64 r0.h.age, .int .i64 r0.h.kind, .int .i64 r0.h.id, .int .i64 r0.h.adv, .int .i64 r0.h.seq, .int .i64 r0.h.sum, .int .i64 r0.h.long, .slice r0.p.a r0.p.n r0.p.c, .slice r0.q.a r0.q.n r0.q.c]))
      case first =>
        go_region_held3 (fun w' => Below w2.heap.size w2 w' ∧ MapIs w' b Rj ∧ (∀ b o, b < w2.heap.size → w'.cell? ⟨b, o, none⟩ = w2.cell? ⟨b, o, none⟩)) ((refine keepDb M2.out ?_; first | with_reducible exact BR | with_reducible exact BR2 _ | with_reducible exact BR.alloc BR.size _)) (first | fail)
        all_goals (go_wp2_with fail; go_meet; exact ⟨_, rfl, Lib.hid ⟨Nat.le_refl _, And.left ‹Below w2.heap.size w2 _ ∧ _›, Blk.new _ _ _⟩⟩)
      case rest =>
        obtain ⟨ob, rfl, hcc⟩ := hcut
        have hob := hcc.out.1
        have BWR := Lib.hid (BW2.out.trans (hcc.out.2.1.mono BW2.out.size))
        have Ox := Lib.hid hcc.out.2.2
        have Jx := Lib.hid (J2.out.below hcc.out.2.1 hgk2)
        have Dx := Lib.hid (D2.out.below hcc.out.2.1 hpl2)
        have Mx := Lib.hid (M2.out.below hcc.out.2.1 M2.out.lt)
        have HOx := Lib.hid (own_below2 HO.out BWR.out)
        have HTx := Lib.hid (HTI.out.below BWR.out)
        have HNO := Lib.hid (own_not HO.out (.inr (by omega : wr.heap.size ≤ ob)))
        have hx0 := Ox.out.cell 0
        have hf0 := Ox.out.frozen 0
        simp at hx0
        clear k0 k1 k2 c1 BR BR2 hcc J2 D2 M2 BW2 hlook HTI HO
        by_cases h60 : r0.h.age = 60
        · have d1 : (r0.h.age == 60) = true := by simp [h60]
          have H60 := Lib.hid h60
          clear h60
          go_wp2
          go_roundw
          case rel =>
            refine ⟨j + 1, m, c', A', by omega, by go_num, rfl, Lib.hid (by have := HMJ.out; omega), Lib.hid ?_, Lib.hid (HTx.out.old HX.out (by have h1 := HAX.out; have h2 := H60.out; omega))⟩
            rw [tickKeysL_next HX.out, if_neg (by have h1 := HAX.out; have h2 := H60.out; omega), List.append_nil]
            exact HOx.out
          case measure => simp [intOf]; omega
        · have d1 : (r0.h.age == 60) = false := by simp [h60]
          have H60 := Lib.hid h60
          clear h60
          have HNJ := Lib.hid (show wr.heap.size ≠ ob by omega)
          have HND := Lib.hid (show p ≠ ob by omega)
          have HNM := Lib.hid (show b ≠ ob from fun e => Mx.out.ne_blk Ox.out e.symm)
          go_wp2_with fail
          have O4 := Lib.hid (show Blk (wc.setCell ⟨ob, 0, none⟩ (.int .i64 (r0.h.age + 1))) ob 34 #[.int .i64 (r0.h.age + 1), .int .i64 r0.h.kind, .int .i64 r0.h.id, .int .i64 r0.h.adv, .int .i64 r0.h.seq, .int .i64 r0.h.sum, .int .i64 r0.h.long, .slice r0.p.a r0.p.n r0.p.c, .slice r0.q.a r0.q.n r0.q.c] from Ox.out.put 0 _)
          have J4 := Lib.hid (Jx.out.far (p := ⟨ob, 0, none⟩) HNJ.out (.int .i64 (r0.h.age + 1)))
          have D4 := Lib.hid (Dx.out.far (p := ⟨ob, 0, none⟩) HND.out (.int .i64 (r0.h.age + 1)))
          have M4 := Lib.hid (Mx.out.setCell (a := ⟨ob, 0, none⟩) HNM.out (.int .i64 (r0.h.age + 1)))
          have HO4 := Lib.hid (own_ne HOx.out ⟨ob, 0, none⟩ (.int .i64 (r0.h.age + 1)) HNO.out)
          have C4 := Lib.hid ((G5.out.below BWR.out).trans (Chg.of_grown (F := fun q => q = ob) (grown_setCell wc ⟨ob, 0, none⟩ (.int .i64 (r0.h.age + 1))) (fun q hq => by cases hq; rfl)) (fun q hq => .inr (by omega)))
          clear hx0 hf0 Ox Jx Dx Mx HOx HTx
          generalize wc.setCell ⟨ob, 0, none⟩ (.int .i64 (r0.h.age + 1)) = w4 at *
          obtain ⟨k0, k1, k2⟩ := J4.out.three
          obtain ⟨o0, o1, o2, o3, o4, o5, o6, o7, o8⟩ := O4.out.nine
          have c1 := D4.out.cell 1
          simp at c1
          have HA60 := Lib.hid (show x.h.age < 60 by have h1 := HAX.out; have h2 := H60.out; omega)
          by_cases h59 : r0.h.age = 59
          · have d2 : (r0.h.age + 1 == 60) = true := by simp; omega
            have H59 := Lib.hid h59
            clear h59
            go_still_tail 6, (by kernel_rfl)
            change wpList _ _ _ _ _ w4.drew
            go_wp2_with (first
              | (at_mapUpdate; refine wpList_put7 (bump r0) k HKX.out rfl _ _ _ rfl rfl rfl rfl M4.out.drew HWF.out (by have := HRL.out; unfold maxLen; omega) ?_; intro w5 hm5 hturn; have HT5 := Lib.hid (tick_put (w4 := w4.drew) HP.out.2.2.2.2.2.2.2.1 HX.out HA60.out G2.out G3.out G4.out ⟨C4.out.os, C4.out.tape, C4.out.output, C4.out.size, C4.out.block⟩ HRC.out HME.out hm5 hturn); have HO5 := Lib.hid (own_chg (own_drew7 HO4.out) (chg_of_turned hturn) (fun q hq e => own_ne_map M4.out HO4.out (by rw [hq, e]))); have O5 := Lib.hid (Blk.chg (w := w4.drew) O4.out (chg_of_turned hturn) (fun e => HNM.out e.symm)); have J5 := Lib.hid (Blk.chg (w := w4.drew) J4.out (chg_of_turned hturn) (M4.out.ne_blk J4.out)); have HZ5 := Lib.hid (show w1.heap.size ≤ w5.heap.size from Nat.le_trans C4.out.size (chg_of_turned hturn).size); clear hm5 hturn k0 k1 k2 o0 o1 o2 o3 o4 o5 o6 o7 o8 c1 O4 J4 D4 M4 HO4 C4; obtain ⟨k0, k1, k2⟩ := J5.out.three; obtain ⟨o0, -, -, -, -, -, -, -, -⟩ := O5.out.nine)
              | (at_builtin; refine wpList_append_any rfl (.tmp 40) (.tmp 42) 45 38 (.agg #[.int .i64 0, .int .i64 0, .int .i64 0]) 3 24 Try.underlying45 Try.infoKey rfl (by decide) (by decide) rfl w1.heap.size (.slice A' m c') m (kyCells (tickKeysL (S.take j))) (by rfl) (HO5.out.alloc _) (some ⟨w5.heap.size, 0, none⟩) 1 1 [.int .i64 k.kind, .int .i64 k.id, .int .i64 k.adv] (by rfl) (by rfl) (fun h => by cases h) (news_new w5 38 _) (fun u hu => kyCells_ones [k] u (by rw [kyCells_cons, List.mem_append]; exact .inl hu)) (by have := HMJ.out; have := HN1.out; have := HP.out.2.2.2.2.2.2.2.2; omega) (by have := HZ5.out; simp; omega) ?_; intro v6 w6 ho6 hg6))
            obtain ⟨A6, c6, rfl⟩ := own_slice ho6.out
            have HT6 := Lib.hid (HT5.out.grown HO5.out (Nat.le_refl _) hg6.out)
            have HO6 := Lib.hid (show w6.ownsRow w1.heap.size 38 3 (.slice A6 (m + 1) c6) (m + 1) (kyCells (tickKeysL (S.take (j + 1)))) by
              rw [tickKeysL_next HX.out, if_pos (by have h1 := HAX.out; have h2 := H59.out; omega), kyCells_append, HKE.out]
              simpa [kyCells] using ho6.out)
            clear ho6 hg6 k0 k1 k2 o0
            go_wp2
            go_roundw
            case rel => exact ⟨j + 1, m + 1, c6, A6, by omega, by go_num, rfl, Lib.hid (by have := HMJ.out; omega), HO6, HT6⟩
            case measure => simp [intOf]; omega
          · have d2 : (r0.h.age + 1 == 60) = false := by simp; omega
            have H59 := Lib.hid h59
            clear h59
            go_still_tail 6, (by kernel_rfl)
            change wpList _ _ _ _ _ w4.drew
            go_wp2_with (at_mapUpdate; refine wpList_put7 (bump r0) k HKX.out rfl _ _ _ rfl rfl rfl rfl M4.out.drew HWF.out (by have := HRL.out; unfold maxLen; omega) ?_; intro w5 hm5 hturn; have HT5 := Lib.hid (tick_put (w4 := w4.drew) HP.out.2.2.2.2.2.2.2.1 HX.out HA60.out G2.out G3.out G4.out ⟨C4.out.os, C4.out.tape, C4.out.output, C4.out.size, C4.out.block⟩ HRC.out HME.out hm5 hturn); have HO5 := Lib.hid (own_chg (own_drew7 HO4.out) (chg_of_turned hturn) (fun q hq e => own_ne_map M4.out HO4.out (by rw [hq, e]))); have O5 := Lib.hid (Blk.chg (w := w4.drew) O4.out (chg_of_turned hturn) (fun e => HNM.out e.symm)); have J5 := Lib.hid (Blk.chg (w := w4.drew) J4.out (chg_of_turned hturn) (M4.out.ne_blk J4.out)); have HZ5 := Lib.hid (show w1.heap.size ≤ w5.heap.size from Nat.le_trans C4.out.size (chg_of_turned hturn).size); clear hm5 hturn k0 k1 k2 o0 o1 o2 o3 o4 o5 o6 o7 o8 c1 O4 J4 D4 M4 HO4 C4; obtain ⟨k0, k1, k2⟩ := J5.out.three; obtain ⟨o0, -, -, -, -, -, -, -, -⟩ := O5.out.nine)
            go_roundw
            case rel =>
              refine ⟨j + 1, m, c', A', by omega, by go_num, rfl, Lib.hid (by have := HMJ.out; omega), Lib.hid ?_, HT5⟩
              rw [tickKeysL_next HX.out, if_neg (by have h1 := HAX.out; have h2 := H59.out; omega), List.append_nil]
              exact HO5.out
            case measure => simp [intOf]; omega
    · have hjn : j = n1 := by omega
      have HJN := Lib.hid hjn
      clear hjn
      go_wp2
      show Q (.returned (.slice A' m c')) wr
      rw [← HQ.out]
      have hT : S.take j = S := by rw [HJN.out, HN1.out]; exact List.take_length
      have h1 := HO.out
      rw [hT] at h1
      exact ⟨A', m, c', rfl, own_low h1 HB1.out.size, tick_fin HB.out HM.out HP.out HB1.out (HJN.out.trans HN1.out) HTI.out⟩
end Go.Proofs.Ytlcaaoflbldocaa
