/- The program's Drop. Conditions: what the words say. -/
import Derived.Test.YtlcaaoflbldocaaGh
import Derived.StillTailTactics
import Derived.Deep.DeepCutAuto
namespace Go.Proofs.Ytlcaaoflbldocaa
open Go.RowKit

/-- 'delete(m, k)' as the next operation of a plain region's list. -/
theorem wpList_delete7 {ops : Array Oper} {rest : List Oper} {o : Oper} {a : Act} {w : World} {Q : Exit → Act → World → Prop} {b : Nat} {R : List Rc} {k : Ky} (hg : o.guard = none) (m x : Operand) (hop : o.op = Op.call { callee := Callee.builtin Builtin.delete, args := #[m, x], argTypes := #[63, 38] })
    (hm : a.eval m = .map (some b)) (hx : a.eval x = .agg #[.int .i64 k.kind, .int .i64 k.id, .int .i64 k.adv]) (h : MapIs w b R) (hk : wfKy k) (hK : ∀ w', MapIs w' b (restR R k) → w.mapTurned w' b → wpList Try.prog ops Q rest (a.put o.dst (.tuple #[])) w') : wpList Try.prog ops Q (o :: rest) a w := by
  refine wpList_plain hg fun K' hK' => ?_
  obtain ⟨w', hrun, r1, r2⟩ := h.drop hk o.type
  unfold Oper.wp
  simp [execOp, hop, resolve, invoke, builtin, hm, hx, hrun, Result.andThen]
  exact hK' _ _ (hK w' r1 r2)
/-- What a look-up answers, in whatever world has the map. -/
theorem look_both {w : World} {b : Nat} {R : List Rc} {T S : List La} {lo : Nat} (hA : All2 (RcIs w lo) R T) (hp : T.Perm S) (hs : SortL S) {k : Ky} (hk : wfKy k) :
    ∃ r0 : Rc, (∀ W, MapIs W b R → (Instr.lookup 63 (.map (some b)) (.agg #[.int .i64 k.kind, .int .i64 k.id, .int .i64 k.adv]) true).run Try.prog W = .ok (.tuple #[.agg #[.int .i64 r0.h.age, .int .i64 r0.h.kind, .int .i64 r0.h.id, .int .i64 r0.h.adv, .int .i64 r0.h.seq, .int .i64 r0.h.sum, .int .i64 r0.h.long, .slice r0.p.a r0.p.n r0.p.c, .slice r0.q.a r0.q.n r0.q.c], .bool (getL S k).isSome]) W) ∧
      ((getL S k = none ∧ r0 = ⟨⟨0, 0, 0, 0, 0, 0, 0⟩, ⟨none, 0, 0⟩, ⟨none, 0, 0⟩⟩) ∨ ∃ x, getL S k = some x ∧ RcIs w lo r0 x ∧ r0 ∈ R ∧ x ∈ S) := by
  rcases get_both (fun r x h => h.1) hA hp hs k with ⟨h1, h2⟩ | ⟨r, x, h1, h2, h3, h4, h5⟩
  · exact ⟨⟨⟨0, 0, 0, 0, 0, 0, 0⟩, ⟨none, 0, 0⟩, ⟨none, 0, 0⟩⟩, fun W hW => by rw [h2]; exact hW.look_none hk h1, .inl ⟨h2, rfl⟩⟩
  · exact ⟨r, fun W hW => by rw [h2]; exact (hW.look_some hk h1).1, .inr ⟨x, h2, h3, h4, h5⟩⟩
theorem keepDb {w0 w' : World} {b : Nat} {R : List Rc} (hM : MapIs w0 b R) (hb : Below w0.heap.size w0 w') : Below w0.heap.size w0 w' ∧ MapIs w' b R ∧ (∀ b o, b < w0.heap.size → w'.cell? ⟨b, o, none⟩ = w0.cell? ⟨b, o, none⟩) :=
  ⟨hb, hM.below hb hM.lt, fun _ _ hl => hb.cell (p := ⟨_, _, none⟩) hl⟩
set_option maxRecDepth 8000 in
set_option maxHeartbeats 8000000 in
theorem drop_db {w : World} {lo p : Nat} {room : Int} {S : List La} {F : Nat → Prop} (h : PDb w lo p room S F) (hs : SortL S) (k : Ky) (hk : wfKy k) :
    Calls Try.prog 13 #[.pointer (some ⟨p, 0, none⟩), .agg #[.int .i64 k.kind, .int .i64 k.id, .int .i64 k.adv]] w fun e w' => e = .returned (.bool (getL S k).isSome) ∧ ∃ F', PDb w' lo p room (dropL S k) F' ∧ Chg F w w' ∧ ∀ q, F' q → F q ∨ w.heap.size ≤ q := by
  obtain ⟨b, R, T, hB, h1, h2, hM, hA, hp, h3, h4, h5, hF⟩ := h
  obtain ⟨r0, hlook, -⟩ := look_both (b := b) hA hp hs hk
  have HF := Lib.hid (show Chg F w w ∧ PDb w lo p room S F from ⟨Chg.refl _ _, b, R, T, hB, h1, h2, hM, hA, hp, h3, h4, h5, hF⟩)
  generalize hQ : (fun (e : Ending) (w' : World) => e = .returned (.bool (getL S k).isSome) ∧ ∃ F', PDb w' lo p room (dropL S k) F' ∧ Chg F w w' ∧ ∀ q, F' q → F q ∨ w.heap.size ≤ q) = Q
  have HQ := Lib.hid hQ
  clear hQ
  generalize hfd : (getL S k).isSome = fd at *
  have B0 := Lib.hid ((Below.refl w.heap.size w).alloc (Nat.le_refl _) (.cells #[.int .i64 k.kind, .int .i64 k.id, .int .i64 k.adv] 38))
  have K0 := Lib.hid (Blk.new w 38 #[.int .i64 k.kind, .int .i64 k.id, .int .i64 k.adv])
  have D0 := Lib.hid (hB.below B0.out hB.lt)
  have M0 := Lib.hid (hM.alloc (.cells #[.int .i64 k.kind, .int .i64 k.id, .int .i64 k.adv] 38))
  have hpl := hB.lt
  go_enter Try.func13, Try.ntmps13
  go_wp2_with fail
  generalize w.alloc (.cells #[.int .i64 k.kind, .int .i64 k.id, .int .i64 k.adv] 38) = w0 at *
  have hlt := K0.out.lt
  have hpl0 : p < w0.heap.size := by omega
  obtain ⟨k0, k1, k2⟩ := K0.out.three
  have c0 := D0.out.cell 0
  have c1 := D0.out.cell 1
  simp at c0 c1
  have BR : Below w0.heap.size w0 w0.drew := ⟨rfl, rfl, rfl, Nat.le_refl _, fun _ _ => rfl⟩
  have BR2 : ∀ o, Below w0.heap.size w0 (w0.alloc o).drew := fun o => below_drewN ((Below.refl _ _).alloc (Nat.le_refl _) o) 1
  go_cut [6] (fun s6 wx => s6 = .bool fd ∧ Hid (Below w0.heap.size w0 wx))
  case first =>
    go_region_held3 (fun w' => Below w0.heap.size w0 w' ∧ MapIs w' b R ∧ (∀ b o, b < w0.heap.size → w'.cell? ⟨b, o, none⟩ = w0.cell? ⟨b, o, none⟩)) ((refine keepDb M0.out ?_; first | with_reducible exact BR | with_reducible exact BR2 _ | with_reducible exact BR.alloc BR.size _)) (first | fail)
    all_goals (go_wp2_with fail; go_meet; exact ⟨rfl, Lib.hid (And.left ‹Below w0.heap.size w0 _ ∧ _›)⟩)
  case rest =>
    obtain ⟨rfl, hbx⟩ := hcut
    have Kx := Lib.hid (K0.out.below hbx.out hlt)
    have Dx := Lib.hid (D0.out.below hbx.out hpl0)
    have Mx := Lib.hid (M0.out.below hbx.out M0.out.lt)
    have Bx := Lib.hid (B0.out.trans (hbx.out.mono B0.out.size))
    clear k0 k1 k2 c0 c1 BR BR2 hbx K0 D0 M0 B0 hlook
    obtain ⟨k0, k1, k2⟩ := Kx.out.three
    have c0 := Dx.out.cell 0
    have c1 := Dx.out.cell 1
    simp at c0 c1
    go_wp2_with fail
    go_still_tail 5, (by kernel_rfl)
    change wpList _ _ _ _ _ wc.drew
    have M1 := Lib.hid Mx.out.drew
    go_wp2_with (at_delete; refine wpList_delete7 (k := k) rfl _ _ rfl rfl rfl M1.out hk ?_; intro w2 M2 hturn)
    go_wp2
    show Q (.returned (.bool fd)) w2
    rw [← HQ.out]
    have hb2 : Chg (fun _ => False) w wc.drew := Chg.of_below (Bx.out.trans ⟨rfl, rfl, rfl, Nat.le_refl _, fun _ _ => rfl⟩)
    have hc2 : Chg (fun q => q = b) w w2 := Chg.trans ⟨hb2.os, hb2.tape, hb2.output, hb2.size, fun q hq hn => hb2.block q hq (fun hf => hf)⟩ (chg_of_turned hturn) (fun q hq => .inl hq)
    have hA2 : All2 (RcIs w2 lo) R T := all2_imp hA (fun r _ x hx => hx.chg hc2 (fun q hq => hx.ne_map hM hq))
    refine ⟨rfl, fun q => q = p ∨ q = b ∨ ∃ r ∈ restR R k, rcFoot r q, ⟨b, restR R k, dropL T k, hB.chg hc2 (hM.ne_blk hB), h1, h2, M2, all2_rest (fun r x h => h.1) hA2 k, hp.filter _, ?_, h4, fun x hx => h5 x (mem_drop.1 hx).1, fun q => Iff.rfl⟩, ⟨hc2.os, hc2.tape, hc2.output, hc2.size, fun q hq hn => hc2.block q hq (fun e => hn ((hF q).2 (.inr (.inl e))))⟩, fun q hq => .inl ((hF q).2 ?_)⟩
    · have : (dropL S k).length ≤ S.length := List.length_filter_le _ _
      omega
    · rcases hq with hq | hq | ⟨r, hr, hq⟩
      · exact .inl hq
      · exact .inr (.inl hq)
      · exact .inr (.inr ⟨r, (mem_restR.1 hr).1, hq⟩)
end Go.Proofs.Ytlcaaoflbldocaa
