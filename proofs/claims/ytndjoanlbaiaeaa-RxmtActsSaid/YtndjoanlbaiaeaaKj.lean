/- The program's Has and Drop. Conditions: at most 100000 rows, numbers of 64 bits. -/
import Derived.Test.YtndjoanlbaiaeaaKi
namespace Go.Proofs.Ytndjoanlbaiaeaa
open Go.RowKit Go.Shelf Go.Lib Go.Sort Go.Deep
open Go.Maps (Keyed)

set_option maxHeartbeats 2000000 in
theorem hasR_nil (k : Ky) (w : World) : Calls Try.prog 25 #[.pointer none, .agg #[.int .i64 k.kind, .int .i64 k.id, .int .i64 k.adv]] w fun e w' => e = .returned (.bool false) ∧ Below w.heap.size w w' := by
  have B0 := Lib.hid ((Below.refl w.heap.size w).alloc (Nat.le_refl _) (.cells #[.int .i64 k.kind, .int .i64 k.id, .int .i64 k.adv] 34))
  go_enter Try.func25, Try.ntmps25
  go_wp2
  go_ret
  exact ⟨rfl, B0.out⟩
set_option maxHeartbeats 2000000 in
theorem drop_nil (k : Ky) (w : World) : Calls Try.prog 16 #[.pointer none, .agg #[.int .i64 k.kind, .int .i64 k.id, .int .i64 k.adv]] w fun e w' => e = .returned (.int .i64 0) ∧ Below w.heap.size w w' := by
  have B0 := Lib.hid ((Below.refl w.heap.size w).alloc (Nat.le_refl _) (.cells #[.int .i64 k.kind, .int .i64 k.id, .int .i64 k.adv] 34))
  go_enter Try.func16, Try.ntmps16
  go_wp2
  go_ret
  exact ⟨rfl, B0.out⟩
theorem RxAt.wf {w : World} {p m : Nat} {R : List Nb} {L : List Rw} {F : Nat → Prop} (h : RxAt w p m R L F) {r : Nb} (hr : r ∈ R) : wfN r.n := h.out.1 (r.n, .map (some r.b)) (List.mem_map.2 ⟨r, hr, rfl⟩)
/-- Of those that have the key all are still to come. -/
theorem left_step {w : World} {p m : Nat} {R : List Nb} {L L' : List Rw} {F : Nat → Prop} {left : Lit → Bool} {k : Ky} {r : Nb} (h : RxAt w p m R L F) (hl : ∀ x ∈ L, x.k = k → left (nbLit x.n) = true) (hr : wfN r.n) (hs : ∀ x ∈ L', x ∈ L) (hn : ∀ x ∈ L', x.k = k → x.n ≠ r.n) : ∀ x ∈ L', x.k = k → (left (nbLit x.n) && !(nbLit x.n).sameKey (nbLit r.n)) = true := by
  intro x hx hk
  rw [hl x (hs x hx) hk]
  obtain ⟨s, hs2, e, -⟩ := (h.rep.mem x).1 (hs x hx)
  have hw : wfN x.n := by rw [← e]; exact h.wf hs2
  have e2 := MKind.same (M := nbM) (a := x.n) (b := r.n) hw hr
  rw [show (nbLit x.n).sameKey (nbLit r.n) = decide (x.n = r.n) from e2, decide_eq_false (hn x hx hk)]
  rfl
set_option maxRecDepth 20000 in
set_option maxHeartbeats 8000000 in
theorem hasR_at {w : World} {p m : Nat} {R : List Nb} {L : List Rw} {F : Nat → Prop} (h : RxAt w p m R L F) (k : Ky) (hk : wfKy k) : Calls Try.prog 25 #[.pointer (some ⟨p, 0, none⟩), .agg #[.int .i64 k.kind, .int .i64 k.id, .int .i64 k.adv]] w fun e w' => e = .returned (.bool (hasK L k)) ∧ Below w.heap.size w w' := by
  generalize hQ : (fun (e : Ending) (w' : World) => e = .returned (.bool (hasK L k)) ∧ Below w.heap.size w w') = Q
  have HQ := Lib.hid hQ
  have HK := Lib.hid hk
  have B0 := Lib.hid ((Below.refl w.heap.size w).alloc (Nat.le_refl _) (.cells #[.int .i64 k.kind, .int .i64 k.id, .int .i64 k.adv] 34))
  have K0 := Lib.hid (Blk.new w 34 #[.int .i64 k.kind, .int .i64 k.id, .int .i64 k.adv])
  have H0 := Lib.hid (h.below B0.out)
  have c0 := H0.out.blk.cell 0
  simp at c0
  have HO := Lib.hid H0.out.out
  clear hQ h hk
  go_enter Try.func25, Try.ntmps25
  go_wp2_with (first
    | (at_range; refine wpList_range_nb HO.out rfl _ rfl rfl ?_; intro D left0 w0 hrg0 hl0 hg0 hs0)
    | go_in)
  go_frame
  generalize w.alloc (.cells #[.int .i64 k.kind, .int .i64 k.id, .int .i64 k.adv] 34) = wa at *
  have HB0 := B0
  have H1 := H0
  have K1 := K0
  have BG := Lib.hid (show Below wa.heap.size wa w0 from ⟨hg0.os, hg0.tape, hg0.output, hg0.size, fun k hk => hg0.block k hk (by simp)⟩)
  have HR0 := Lib.hid hrg0
  have HL0 := Lib.hid (show ∀ x ∈ L, x.k = k → left0 (nbLit x.n) = true from fun x hx _ => by
    obtain ⟨s, hs, e, -⟩ := (H1.out.rep.mem x).1 hx
    rw [← e]
    exact hl0 s hs)
  have HX := Lib.hid (show w.heap.size < wa.heap.size from K1.out.lt)
  clear hg0 hs0 hrg0 hl0 B0 K0 H0 HO c0
  generalize hit : wa.heap.size = it at *
  have HIT := Lib.hid hit
  clear hit
  go_loopw [] (fun wr => ∃ (left : Lit → Bool) (cnt : Nat), Hid (wr.ranges Try.prog 58 asIs m it R.length D left cnt) ∧ Hid (Below it wa wr) ∧ Hid (∀ x ∈ L, x.k = k → left (nbLit x.n) = true))
    (fun wr => wr.rangeLeft m it)
  case atStart => exact ⟨_, _, HR0, BG, HL0⟩
  case round =>
    obtain ⟨left, cnt, HRG, HBW, HLF⟩ := hrel
    have BW := Lib.hid (show Below wa.heap.size wa wr by rw [HIT.out]; exact HBW.out)
    have H2 := Lib.hid (H1.out.below BW.out)
    have HO2 := Lib.hid H2.out.out
    go_wp2_with (first
      | (at_next; refine wpList_next_nb HRG.out HO2.out rfl _ rfl rfl ?_ ?_)
      | go_in)
    · intro _ hl0
      have HN := Lib.hid (show hasK L k = false by
        cases hh : hasK L k with
        | false => rfl
        | true =>
          obtain ⟨n, hn⟩ := hasK_iff.1 hh
          have h1 := HLF.out _ hn rfl
          rw [hl0] at h1
          cases h1)
      have BX := Lib.hid (HB0.out.trans (BW.out.mono HB0.out.size))
      clear hl0
      go_wp2
      show Q (.returned (.bool false)) wr
      rw [← HQ.out]
      exact ⟨by rw [HN.out], BX.out⟩
    · intro s hs w1 cnt1 hlk hrg1 hlt hg1 hs1 hen
      have HS := Lib.hid hs
      have B1 := Lib.hid (show Below it wa w1 from HBW.out.grown hg1 (by have := BW.out.size; have := HIT.out; omega) (fun j hj => by cases hj; exact Nat.le_refl _))
      have B1' := Lib.hid (show Below wa.heap.size wa w1 by rw [HIT.out]; exact B1.out)
      have HI1 := MKind.holds.below (H1.out.ins s hs).1 B1'.out (MKind.holds.lt (H1.out.ins s hs).1)
      have K2 := Lib.hid (K1.out.below B1'.out K1.out.lt)
      have HR1 := Lib.hid hrg1
      have HLT := Lib.hid hlt
      obtain ⟨k0, k1, k2⟩ := K2.out.three
      clear hlk hrg1 hlt hg1 hs1 hs
      go_wp2_with fail
      refine (has_v k (decide (k ∈ s.ks)) fun w' hb => InIs.look (MKind.holds.below HI1 hb (MKind.holds.lt HI1)) HK.out).mono ?_
      rintro e2 w2 ⟨rfl, hgr⟩
      have hb2 := below_grown13 hgr
      have R2 := Lib.hid (ranges_keep HR1.out (Chg.of_below (F := fun _ => False) hb2) (fun h => h) (fun h => h))
      have B2 := Lib.hid (show Below it wa w2 from B1.out.trans (hb2.mono (by have := B1'.out.size; have := HIT.out; omega)))
      clear hgr hb2 hen k0 k1 k2 HI1
      by_cases hm : k ∈ s.ks
      · rw [decide_eq_true hm]
        have HN := Lib.hid (show hasK L k = true from hasK_iff.2 ⟨s.n, (H1.out.rep.mem _).2 ⟨s, HS.out, rfl, hm⟩⟩)
        have BX := Lib.hid (show Below w.heap.size w w2 from HB0.out.trans ((show Below wa.heap.size wa w2 by rw [HIT.out]; exact B2.out).mono HB0.out.size))
        clear hm
        go_wp2
        show Q (.returned (.bool true)) w2
        rw [← HQ.out]
        exact ⟨by rw [HN.out], BX.out⟩
      · rw [decide_eq_false hm]
        have HL2 := Lib.hid (left_step H1.out HLF.out (H1.out.wf HS.out) (fun x hx => hx) (fun x hx hk e => hm (by
          obtain ⟨s', hs', e', hx'⟩ := (H1.out.rep.mem x).1 hx
          have e3 := one_of H1.out.rep.one hs' HS.out (e'.trans e)
          rw [← e3, ← hk]
          exact hx')))
        clear hm
        go_wp2
        refine ⟨⟨_, cnt1, R2, B2, HL2⟩, ?_⟩
        rw [R2.out.left_eq, HRG.out.left_eq]
        exact HLT.out
theorem hasR_x {w : World} {p : Nat} {L : List Rw} {F : Nat → Prop} (h : RxIs w p L F) (k : Ky) (hk : wfKy k) : Calls Try.prog 25 #[.pointer (some ⟨p, 0, none⟩), .agg #[.int .i64 k.kind, .int .i64 k.id, .int .i64 k.adv]] w fun e w' => e = .returned (.bool (hasK L k)) ∧ Below w.heap.size w w' := by
  obtain ⟨m, R, h⟩ := h
  exact hasR_at h k hk
end Go.Proofs.Ytndjoanlbaiaeaa
