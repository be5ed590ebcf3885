/- The program's Next. Conditions: at most 100000 keys, numbers of 64 bits. -/
import Derived.Test.YtndjoanlbaiaeaaKh
namespace Go.Proofs.Ytndjoanlbaiaeaa
open Go.RowKit Go.Shelf Go.Lib Go.Sort Go.Deep
open Go.Maps (Keyed)

theorem min3 (n : Nat) : ∃ m : Nat, min (n : Int) 3 = (m : Int) ∧ m ≤ n ∧ m ≤ 3 ∧ (m = 3 ∨ m = n) := by
  rcases Nat.lt_or_ge n 3 with h3 | h3
  · exact ⟨n, by omega, by omega, by omega, .inr rfl⟩
  · exact ⟨3, by omega, by omega, by omega, .inl rfl⟩
set_option maxRecDepth 20000 in
set_option maxHeartbeats 16000000 in
/-- Of no list. -/
theorem next_none {w : World} {v : Value} (hv : v = .map none) {p : Value} {l i : Int} (HO : Hid (Calls Try.prog 27 #[p, .int .i64 l, .int .i64 i] w fun e w' => e = .returned v ∧ w = w')) : Calls Try.prog 21 #[p, .int .i64 l, .int .i64 i] w (NextQ [] w) := by
  subst hv
  generalize hQ : NextQ [] w = Q
  have HQ := Lib.hid hQ
  clear hQ
  have hrg : ∀ wx : World, (Instr.range 55 (.map none)).run Try.prog wx = _ := fun wx => run_range_nilMap wx 55 34 59 Try.underlying55
  have hnx : ∀ ty, (Instr.next (.pointer (some ⟨w.heap.size, 0, none⟩)) false ty).run Try.prog (w.alloc (.mapIter none 0 #[] 0)) = .ok (.tuple #[.bool false]) (w.alloc (.mapIter none 0 #[] 0)) := fun ty => run_next_nilMap (P := Try.prog) w ty 0 0 #[]
  have B1 := Lib.hid ((Below.refl w.heap.size w).alloc (Nat.le_refl _) (.mapIter none 0 #[] 0))
  go_enter Try.func21, Try.ntmps21
  go_wp2_with fail
  refine HO.out.mono ?_
  rintro e1 w1 ⟨rfl, rfl⟩
  go_wp2_with fail
  refine wp_loop_rounds 1 ?_
  rw [rounds_succ]
  go_wp2_with fail
  clear hrg hnx
  generalize w.alloc (.mapIter none 0 #[] 0) = w2 at *
  refine (sort_keysX (base := w2.heap.size) (K := []) (World.ownsRow_nil _ _ _ _) (by omega)).mono ?_
  rintro e3 w3 ⟨rfl, ho3, hg3⟩
  have B3 := Lib.hid (B1.out.trans (⟨hg3.os, hg3.tape, hg3.output, hg3.size, fun k hk => hg3.block k (by have := B1.out.size; omega) (by simp [Value.ownBlock])⟩ : Below w.heap.size w2 w3))
  clear hg3 ho3
  go_wp2
  show Q (.returned (.slice none 0 0)) w3
  rw [← HQ.out]
  exact ⟨none, 0, 0, rfl, B3.out, by simpa [srtK, kyCells] using World.ownsRow_nil w3 w.heap.size 34 3⟩
set_option maxRecDepth 20000 in
set_option maxHeartbeats 16000000 in
theorem next_at {w : World} {p m : Nat} {R : List Nb} {L : List Rw} {F : Nat → Prop} (h : RxAt w p m R L F) (n : Int × Int) (hn : wfN n) {r : Nb} (hg : getN R n = some r) (hl : L.length ≤ 100000) : Calls Try.prog 21 #[.pointer (some ⟨p, 0, none⟩), .int .i64 n.1, .int .i64 n.2] w (NextQ r.ks w) := by
  generalize hQ : NextQ r.ks w = Q
  have HQ := Lib.hid hQ
  have HO := Lib.hid (of_x h n hn)
  rw [hg] at HO
  have HI := Lib.hid (h.ins r (getN_some hg).1).1
  have HKL := Lib.hid (show r.ks.length ≤ 100000 by
    have h1 := (h.rep.got hg).length_eq
    have h2 := forget_len L n
    omega)
  obtain ⟨b, hb⟩ : ∃ b, r.b = b := ⟨_, rfl⟩
  obtain ⟨K, hK⟩ : ∃ K, r.ks = K := ⟨_, rfl⟩
  rw [show mapOf (some r) = .map (some b) by rw [← hb]; rfl] at HO
  rw [hb, hK] at HI
  rw [hK] at HKL HQ
  have HBLT := Lib.hid (MKind.holds.lt HI.out)
  clear hQ h hn hg hl hb hK
  go_enter Try.func21, Try.ntmps21
  go_wp2_with fail
  refine HO.out.mono ?_
  rintro e1 w1 ⟨rfl, rfl⟩
  clear HO
  go_wp2_with (first
    | (at_range; refine wpList_range_ky HI.out rfl _ rfl rfl ?_; intro D left0 w0 hrg0 hl0 hg0 hs0)
    | go_in)
  go_frame
  have HG0 := Lib.hid hg0
  have HS0 := Lib.hid hs0
  have HR0 := Lib.hid hrg0
  have HC0 := Lib.hid (show CollK K left0 [] from ⟨fun k hk => (by cases hk), List.nodup_nil, fun k hk => ⟨fun h => (by cases h), fun h => by rw [hl0 k hk] at h; cases h⟩⟩)
  clear hg0 hs0 hrg0 hl0
  go_loopw [7] (fun s7 wr => ∃ (A : Option Addr) (nn c : Nat) (ks : List Ky) (left : Lit → Bool) (cnt : Nat), s7 = .slice A nn c ∧ Hid (wr.ranges Try.prog 34 asIs b w.heap.size K.length D left cnt) ∧ Hid (wr.ownsRow (w.heap.size + 1) 34 3 (.slice A nn c) nn (kyCells ks)) ∧ Hid (Below w.heap.size w wr) ∧ Hid (CollK K left ks) ∧ Hid (ks.length + cnt ≤ K.length) ∧ Hid (w.heap.size + 1 ≤ wr.heap.size))
    (fun _ wr => wr.rangeLeft b w.heap.size)
  case atStart =>
    refine ⟨none, 0, 0, [], _, _, rfl, HR0, Lib.hid (World.ownsRow_nil _ _ _ _), Lib.hid ?_, HC0, Lib.hid (by simp), Lib.hid (by have := HS0.out; omega)⟩
    exact ⟨HG0.out.os, HG0.out.tape, HG0.out.output, HG0.out.size, fun k hk => HG0.out.block k hk (by simp)⟩
  case round =>
    obtain ⟨A, nn, c, ks, left, cnt, rfl, HRG, HOW, HBW, HC, HN, HZ⟩ := hrel
    have HIR := Lib.hid (MKind.holds.below HI.out HBW.out HBLT.out)
    go_wp2_with (first
      | (at_next; refine wpList_next_ky HRG.out HIR.out rfl _ rfl rfl ?_ ?_)
      | go_in)
    · intro _ hl0
      have HL0 := Lib.hid hl0
      have hnk := HOW.out.1
      rw [kyCells_length] at hnk
      have HN1 := Lib.hid (show nn ≤ 100000 by have := HKL.out; have := HN.out; omega)
      have HE := Lib.hid (show ks.mergeSort leKy = srtK K from (sort_srt HC.out.2.1).trans (srt_ext fun x => ⟨HC.out.1 x, fun hx => (HC.out.2.2 x hx).2 (HL0.out _)⟩))
      clear hl0 hnk HL0 HIR HRG
      go_wp2_with fail
      refine (sort_keysX HOW.out HN1.out).mono ?_
      rintro e ws ⟨rfl, hos, hgs⟩
      rw [HE.out] at hos
      obtain ⟨hnc, hcm⟩ := own_capA hos
      unfold maxLen at hcm
      have hn5 : nn ≤ 100000 := HN1.out
      have HOS := Lib.hid (own_low hos (Nat.le_succ _))
      have HBS := Lib.hid (HBW.out.grown hgs HBW.out.size (fun j hj => by have := (HOW.out.lt j hj).1; omega))
      obtain ⟨mm, hmin, hmn, hm3, hmd⟩ := min3 nn
      have HX := Lib.hid (next_cut (w := w) (m := mm) HBS.out HOS.out hmn hmd hm3 rfl)
      have mc : (mm : Int) ≤ (c : Int) := by omega
      have m0 : (0 : Int) ≤ (mm : Int) := by omega
      clear hos hgs hmd HE HOW HBW HOS HBS HC HN HZ
      go_wp2
      show Q (.returned (.slice A mm c)) ws
      rw [← HQ.out]
      exact HX.out
    · intro x hx w1 cnt1 hlk hrg1 hlt hg1 hs1 hen
      have HC2 := Lib.hid (CollK.step HI.out HC.out hx hlk)
      have hnk := HOW.out.1
      rw [kyCells_length] at hnk
      have HN1 := Lib.hid (show nn ≤ 100000 ∧ ks.length + 1 + cnt1 ≤ K.length ∧ ks.length = nn by have := HKL.out; have := HN.out; omega)
      have HO1 := Lib.hid (HOW.out.kept hg1 (.inr (own_not HOW.out (.inl (Nat.lt_succ_self _)))))
      have HB1 := Lib.hid (HBW.out.grown hg1 HBW.out.size (fun j hj => by cases hj; exact Nat.le_refl _))
      have HZ1 := Lib.hid (show w.heap.size + 1 ≤ w1.heap.size by rw [hs1]; exact HZ.out)
      have HR2 := Lib.hid (hrg1.alloc (.cells #[.int .i64 x.kind, .int .i64 x.id, .int .i64 x.adv] 34))
      have HLT := Lib.hid hlt
      clear hlk hrg1 hlt hg1 hs1 hnk hx HIR
      have HO2 := Lib.hid (HO1.out.alloc (.cells #[.int .i64 x.kind, .int .i64 x.id, .int .i64 x.adv] 34))
      have HB2 := Lib.hid (HB1.out.alloc HB1.out.size (.cells #[.int .i64 x.kind, .int .i64 x.id, .int .i64 x.adv] 34))
      have HZ2 := Lib.hid (show w.heap.size + 1 ≤ (w1.alloc (.cells #[.int .i64 x.kind, .int .i64 x.id, .int .i64 x.adv] 34)).heap.size by have := HZ1.out; simp; omega)
      obtain ⟨k0, k1, k2⟩ := (Blk.new w1 34 #[.int .i64 x.kind, .int .i64 x.id, .int .i64 x.adv]).three
      go_wp2_with (first
        | (at_builtin; refine wpList_app_ky3 rfl (.tmp 18) (.tmp 20) rfl x (g := w1.heap.size + 1) (by simp) (by rfl) (by rfl) HO2.out (by have := HN1.out; omega) HZ2.out ?_; intro A5 c5 w5 HO5 HC5)
        | go_in)
      have ne1 : ¬ (Value.slice A nn c).ownBlock = some b := own_not HO1.out (.inl (by have := HBLT.out; omega))
      have ne2 : ¬ (Value.slice A nn c).ownBlock = some w.heap.size := own_not HO1.out (.inl (Nat.lt_succ_self _))
      have HR3 := Lib.hid (ranges_keep HR2.out HC5.out ne1 ne2)
      have HB3 := Lib.hid (HB2.out.trans (HC5.out.to_below (fun q hq => by have := (HO1.out.lt q hq).1; omega) HB2.out.size))
      have HZ3 := Lib.hid (Nat.le_trans HZ2.out HC5.out.size)
      clear ne1 ne2 HC5 HO2 HR2 HB2 HZ2
      refine ⟨⟨A5, nn + 1, c5, ks ++ [x], _, cnt1, rfl, HR3, HO5, HB3, HC2, Lib.hid (by have := HN1.out; simp; omega), HZ3⟩, ?_⟩
      rw [HR3.out.left_eq, HRG.out.left_eq]
      exact HLT.out
theorem next_x {w : World} {p : Nat} {L : List Rw} {F : Nat → Prop} (h : RxIs w p L F) (n : Int × Int) (hn : wfN n) (hl : L.length ≤ 100000) : Calls Try.prog 21 #[.pointer (some ⟨p, 0, none⟩), .int .i64 n.1, .int .i64 n.2] w (NextQ (onL L n) w) := by
  obtain ⟨m, R, h⟩ := h
  cases hg : getN R n with
  | none =>
    rw [h.rep.no hg]
    have HO := Lib.hid (of_x h n hn)
    exact next_none (v := mapOf (getN R n)) (by rw [hg]; rfl) HO
  | some r =>
    have e : srtK (onL L n) = srtK r.ks := srt_ext fun x => (h.rep.got hg).mem_iff
    have h1 := next_at h n hn hg hl
    unfold NextQ at *
    rw [e]
    exact h1
theorem next_nil (l i : Int) (w : World) : Calls Try.prog 21 #[.pointer none, .int .i64 l, .int .i64 i] w (NextQ [] w) := next_none rfl (Lib.hid (of_nil l i w))
end Go.Proofs.Ytndjoanlbaiaeaa
