/- The program's Get. Conditions: what the words say. -/
import Derived.Test.YtlcaaoflbldocaaGi
namespace Go.Proofs.Ytlcaaoflbldocaa
open Go.RowKit

/-- What a look-up finds, as a description in memory. -/
theorem look_rc {w : World} {S : List La} {k : Ky} {lo : Nat} {R : List Rc} {r0 : Rc} (hr : ∀ x ∈ S, rightB x.h x.L x.M = true) (h : (getL S k = none ∧ r0 = ⟨⟨0, 0, 0, 0, 0, 0, 0⟩, ⟨none, 0, 0⟩, ⟨none, 0, 0⟩⟩) ∨ ∃ x, getL S k = some x ∧ RcIs w lo r0 x ∧ r0 ∈ R ∧ x ∈ S) :
    ∃ x0, RcIs w lo r0 x0 ∧ r0.p.n ≤ 1000 ∧ r0.q.n ≤ 1000 ∧ ((getL S k = none ∧ r0 = ⟨⟨0, 0, 0, 0, 0, 0, 0⟩, ⟨none, 0, 0⟩, ⟨none, 0, 0⟩⟩) ∨ getL S k = some x0) := by
  rcases h with ⟨h1, rfl⟩ | ⟨x, h1, h2, -, h3⟩
  · exact ⟨⟨⟨0, 0, 0, 0, 0, 0, 0⟩, [], []⟩, ⟨rfl, World.ownsRow_nil _ _ _ _, rfl, World.ownsRow_nil _ _ _ _, rfl⟩, Nat.zero_le _, Nat.zero_le _, .inl ⟨h1, rfl⟩⟩
  · obtain ⟨h4, h5⟩ := rc_short h2 (hr x h3)
    exact ⟨x, h2, h4, h5, .inr h1⟩
/-- What Get answers, from what fresh answers. -/
theorem getOk_of {w w1 w2 : World} {S : List La} {k : Ky} {r0 r2 : Rc} {x0 : La} {g : Nat} (h : (getL S k = none ∧ r0 = ⟨⟨0, 0, 0, 0, 0, 0, 0⟩, ⟨none, 0, 0⟩, ⟨none, 0, 0⟩⟩) ∨ getL S k = some x0) (h0 : r0.h = x0.h) (h1 : RcIs w2 w1.heap.size r2 x0) (hn : r2.p.n = r0.p.n) (hn' : r2.q.n = r0.q.n) (hp : r0.p.a = none → r2.p = ⟨none, r0.p.n, 0⟩) (hq : r0.q.a = none → r2.q = ⟨none, r0.q.n, 0⟩) (hl : w.heap.size ≤ w1.heap.size) (hg : g < w1.heap.size) (u0 u1 u2 u3 u4 u5 u6 u7 u8 : Value) :
    GetOk w S k (.returned (.tuple #[.agg #[.int .i64 r2.h.age, .int .i64 r2.h.kind, .int .i64 r2.h.id, .int .i64 r2.h.adv, .int .i64 r2.h.seq, .int .i64 r2.h.sum, .int .i64 r2.h.long, .slice r2.p.a r2.p.n r2.p.c, .slice r2.q.a r2.q.n r2.q.c], .bool (getL S k).isSome])) (((((((((w2.setCell ⟨g, 0, none⟩ u0).setCell ⟨g, 1, none⟩ u1).setCell ⟨g, 2, none⟩ u2).setCell ⟨g, 3, none⟩ u3).setCell ⟨g, 4, none⟩ u4).setCell ⟨g, 5, none⟩ u5).setCell ⟨g, 6, none⟩ u6).setCell ⟨g, 7, none⟩ u7).setCell ⟨g, 8, none⟩ u8) := by
  rcases h with ⟨e1, rfl⟩ | e1
  · refine .inl ⟨e1, ?_⟩
    have e2 := h1.1
    rw [← h0] at e2
    rw [e1, e2, hp rfl, hq rfl]
    rfl
  · refine .inr ⟨x0, r2.p.a, r2.p.n, r2.p.c, r2.q.a, r2.q.n, r2.q.c, e1, ?_, own_low (own_nine7 h1.2.1 (own_not h1.2.1 (.inl hg)) u0 u1 u2 u3 u4 u5 u6 u7 u8) hl, h1.2.2.1, own_low (own_nine7 h1.2.2.2.1 (own_not h1.2.2.2.1 (.inl hg)) u0 u1 u2 u3 u4 u5 u6 u7 u8) hl, h1.2.2.2.2⟩
    rw [e1, h1.1]
    rfl
set_option maxRecDepth 8000 in
set_option maxHeartbeats 8000000 in
theorem get_db {w : World} {lo p : Nat} {room : Int} {S : List La} {F : Nat → Prop} (h : PDb w lo p room S F) (hs : SortL S) (k : Ky) (hk : wfKy k) :
    Calls Try.prog 18 #[.pointer (some ⟨p, 0, none⟩), .agg #[.int .i64 k.kind, .int .i64 k.id, .int .i64 k.adv]] w fun e w' => Below w.heap.size w w' ∧ GetOk w S k e w' := by
  obtain ⟨b, R, T, hB, h1, h2, hM, hA, hp, h3, h4, h5, hF⟩ := h
  obtain ⟨r0, hlook, hwho⟩ := look_both (b := b) hA hp hs hk
  obtain ⟨x0, hrc, hn1, hn2, hcase⟩ := look_rc h5 hwho
  generalize hQ : (fun (e : Ending) (w' : World) => Below w.heap.size w w' ∧ GetOk w S k e w') = Q
  have HQ := Lib.hid hQ
  clear hQ hwho
  have HC := Lib.hid hcase
  clear hcase
  obtain ⟨fd, hfd⟩ : ∃ fd, fd = (getL S k).isSome := ⟨_, rfl⟩
  rw [← hfd] at hlook
  have HFD := Lib.hid hfd
  clear hfd
  have B0 := Lib.hid (below_new2 w (.cells #[.int .i64 k.kind, .int .i64 k.id, .int .i64 k.adv] 38) (.cells #[.int .i64 0, .int .i64 0, .int .i64 0, .int .i64 0, .int .i64 0, .int .i64 0, .int .i64 0, .slice none 0 0, .slice none 0 0] 34))
  have K0 := Lib.hid (blk_new07 w #[.int .i64 k.kind, .int .i64 k.id, .int .i64 k.adv] 38 (.cells #[.int .i64 0, .int .i64 0, .int .i64 0, .int .i64 0, .int .i64 0, .int .i64 0, .int .i64 0, .slice none 0 0, .slice none 0 0] 34))
  have Z0 := Lib.hid (blk_new1 w (.cells #[.int .i64 k.kind, .int .i64 k.id, .int .i64 k.adv] 38) 34 #[.int .i64 0, .int .i64 0, .int .i64 0, .int .i64 0, .int .i64 0, .int .i64 0, .int .i64 0, .slice none 0 0, .slice none 0 0])
  have D0 := Lib.hid (hB.below B0.out hB.lt)
  have M0 := Lib.hid (hM.below B0.out hM.lt)
  have hpl := hB.lt
  go_enter Try.func18, Try.ntmps18
  go_wp2_with fail
  generalize (w.alloc (.cells #[.int .i64 k.kind, .int .i64 k.id, .int .i64 k.adv] 38)).alloc (.cells #[.int .i64 0, .int .i64 0, .int .i64 0, .int .i64 0, .int .i64 0, .int .i64 0, .int .i64 0, .slice none 0 0, .slice none 0 0] 34) = w0 at *
  have hlt := Z0.out.lt
  have hpl0 : p < w0.heap.size := by omega
  obtain ⟨k0, k1, k2⟩ := K0.out.three
  have c0 := D0.out.cell 0
  have c1 := D0.out.cell 1
  simp at c0 c1
  have hlt0 : w.heap.size < w0.heap.size := by omega
  have BR : Below w0.heap.size w0 w0.drew := ⟨rfl, rfl, rfl, Nat.le_refl _, fun _ _ => rfl⟩
  have BR2 : ∀ o, Below w0.heap.size w0 (w0.alloc o).drew := fun o => below_drewN ((Below.refl _ _).alloc (Nat.le_refl _) o) 1
  go_cut [6, 7] (fun s6 s7 wx => ∃ ob, s6 = .pointer (some ⟨ob, 0, none⟩) ∧ s7 = .bool fd ∧ Hid (Below w0.heap.size w0 wx ∧ Blk wx ob 34 #[.int .i64 r0.h.age, .int .i64 r0.h.kind, .int .i64 r0.h.id, .int .i64 r0.h.adv, .int .i64 r0.h.seq, .int .i64 r0.h.sum, .int .i64 r0.h.long, .slice r0.p.a r0.p.n r0.p.c, .slice r0.q.a r0.q.n r0.q.c]))
  case first =>
    go_region_held3 (fun w' => Below w0.heap.size w0 w' ∧ MapIs w' b R ∧ (∀ b o, b < w0.heap.size → w'.cell? ⟨b, o, none⟩ = w0.cell? ⟨b, o, none⟩)) ((refine keepDb M0.out ?_; first | with_reducible exact BR | with_reducible exact BR2 _ | with_reducible exact BR.alloc BR.size _)) (first | fail)
    all_goals (go_wp2_with fail; go_meet; exact ⟨_, rfl, rfl, Lib.hid ⟨And.left ‹Below w0.heap.size w0 _ ∧ _›, Blk.new _ _ _⟩⟩)
  case rest =>
    obtain ⟨ob, rfl, rfl, hbx⟩ := hcut
    have Bx := Lib.hid (B0.out.trans (hbx.out.1.mono B0.out.size))
    have Zx := Lib.hid (Z0.out.below hbx.out.1 hlt)
    have Ox := Lib.hid hbx.out.2
    have hl := hbx.out.1.size
    have RX := Lib.hid (hrc.chg (Chg.of_below (F := fun _ => False) Bx.out) (fun _ _ hf => hf))
    have HH := Lib.hid hrc.1
    clear k0 k1 k2 c0 c1 BR BR2 hbx K0 D0 M0 B0 Z0 hlook hrc
    obtain ⟨o0, o1, o2, o3, o4, o5, o6, o7, o8⟩ := Ox.out.nine
    go_wp2_with fail
    refine (fresh7 RX.out hn1 hn2).mono ?_
    rintro e2 w2 ⟨r2, rfl, hbf, hrf, hf1, hf2, hf3, hf4⟩
    unfold rcVal
    have ZF := Lib.hid (Zx.out.below hbf (by omega))
    have BF := Bx.out.trans (hbf.mono Bx.out.size)
    have BB := Lib.hid (((((((((BF.setCell (p := ⟨w.heap.size + 1, 0, none⟩) (Nat.le_succ _) (.int .i64 r2.h.age)).setCell (p := ⟨w.heap.size + 1, 1, none⟩) (Nat.le_succ _) (.int .i64 r2.h.kind)).setCell (p := ⟨w.heap.size + 1, 2, none⟩) (Nat.le_succ _) (.int .i64 r2.h.id)).setCell (p := ⟨w.heap.size + 1, 3, none⟩) (Nat.le_succ _) (.int .i64 r2.h.adv)).setCell (p := ⟨w.heap.size + 1, 4, none⟩) (Nat.le_succ _) (.int .i64 r2.h.seq)).setCell (p := ⟨w.heap.size + 1, 5, none⟩) (Nat.le_succ _) (.int .i64 r2.h.sum)).setCell (p := ⟨w.heap.size + 1, 6, none⟩) (Nat.le_succ _) (.int .i64 r2.h.long)).setCell (p := ⟨w.heap.size + 1, 7, none⟩) (Nat.le_succ _) (.slice r2.p.a r2.p.n r2.p.c)).setCell (p := ⟨w.heap.size + 1, 8, none⟩) (Nat.le_succ _) (.slice r2.q.a r2.q.n r2.q.c))
    have GG := Lib.hid (getOk_of (g := w.heap.size + 1) HC.out HH.out hrf hf1 hf2 hf3 hf4 Bx.out.size (by omega) (.int .i64 r2.h.age) (.int .i64 r2.h.kind) (.int .i64 r2.h.id) (.int .i64 r2.h.adv) (.int .i64 r2.h.seq) (.int .i64 r2.h.sum) (.int .i64 r2.h.long) (.slice r2.p.a r2.p.n r2.p.c) (.slice r2.q.a r2.q.n r2.q.c))
    rw [← HFD.out] at GG
    clear BF hbf hrf hf1 hf2 hf3 hf4 HC HFD o0 o1 o2 o3 o4 o5 o6 o7 o8
    obtain ⟨z0, z1, z2, z3, z4, z5, z6, z7, z8⟩ := ZF.out.nine
    obtain ⟨f0, f1, f2, f3, f4, f5, f6, f7, f8⟩ := ZF.out.nineF
    go_wp2_with fail
    refine bodyPost_ret (v := .tuple #[.agg #[.int .i64 r2.h.age, .int .i64 r2.h.kind, .int .i64 r2.h.id, .int .i64 r2.h.adv, .int .i64 r2.h.seq, .int .i64 r2.h.sum, .int .i64 r2.h.long, .slice r2.p.a r2.p.n r2.p.c, .slice r2.q.a r2.q.n r2.q.c], .bool fd]) (by simp [results, Try.results18, go_sem, *]) rfl ?_
    rw [← HQ.out]
    exact ⟨BB.out, GG.out⟩
end Go.Proofs.Ytlcaaoflbldocaa
