/- The program's Drop. Conditions: at most 100000 rows, numbers of 64 bits. -/
import Derived.Test.YtndjoanlbaiaeaaKj
namespace Go.Proofs.Ytndjoanlbaiaeaa
open Go.RowKit Go.Shelf Go.Lib Go.Sort Go.Deep
open Go.Maps (Keyed)

set_option maxRecDepth 20000 in
set_option maxHeartbeats 8000000 in
theorem drop_x {w : World} {p : Nat} {L : List Rw} {F : Nat → Prop} (h : RxIs w p L F) (k : Ky) (hk : wfKy k) (hl : L.length ≤ 100000) : Calls Try.prog 16 #[.pointer (some ⟨p, 0, none⟩), .agg #[.int .i64 k.kind, .int .i64 k.id, .int .i64 k.adv]] w fun e w' => e = .returned (.int .i64 ((L.length - (dropK L k).length : Nat) : Int)) ∧ RxQ w p (dropK L k) F w' := by
  obtain ⟨m, R, h⟩ := h
  generalize hQ : (fun (e : Ending) (w' : World) => e = .returned (.int .i64 ((L.length - (dropK L k).length : Nat) : Int)) ∧ RxQ w p (dropK L k) F w') = Q
  have HQ := Lib.hid hQ
  have HK := Lib.hid hk
  have HLL := Lib.hid hl
  have B0 := Lib.hid ((Below.refl w.heap.size w).alloc (Nat.le_refl _) (.cells #[.int .i64 k.kind, .int .i64 k.id, .int .i64 k.adv] 34))
  have K0 := Lib.hid (Blk.new w 34 #[.int .i64 k.kind, .int .i64 k.id, .int .i64 k.adv])
  have H0 := Lib.hid (h.below B0.out)
  have c0 := H0.out.blk.cell 0
  simp at c0
  have HO := Lib.hid H0.out.out
  clear hQ h hk hl
  go_enter Try.func16, Try.ntmps16
  go_wp2_with (first
    | (at_range; refine wpList_range_nb HO.out rfl _ rfl rfl ?_; intro D0 left0 w0 hrg0 hl0 hg0 hs0)
    | go_in)
  go_frame
  generalize w.alloc (.cells #[.int .i64 k.kind, .int .i64 k.id, .int .i64 k.adv] 34) = wa at *
  have BG := Lib.hid (show Below wa.heap.size wa w0 from ⟨hg0.os, hg0.tape, hg0.output, hg0.size, fun k hk => hg0.block k hk (by simp)⟩)
  have HR0 := Lib.hid hrg0
  have HA0 := Lib.hid (H0.out.below BG.out)
  have HL0 := Lib.hid (show ∀ x ∈ L, x.k = k → left0 (nbLit x.n) = true from fun x hx _ => by
    obtain ⟨s, hs, e, -⟩ := (H0.out.rep.mem x).1 hx
    rw [← e]
    exact hl0 s hs)
  have HX := Lib.hid (show w.heap.size < wa.heap.size from K0.out.lt)
  have HNX := Lib.hid (show ¬ F w.heap.size from RxIs.no_blk ⟨m, R, H0.out⟩ K0.out)
  have hz0 := hs0
  have HIT := Lib.hid (show wa.heap.size < w0.heap.size by omega)
  clear hg0 hs0 hrg0 hl0 HO c0 hz0
  go_loopw [5] (fun s5 wr => ∃ (c : Nat) (R' : List Nb) (L' : List Rw) (F' : Nat → Prop) (D : DataW Value) (left : Lit → Bool) (cnt : Nat), s5 = .int .i64 c ∧ Hid (wr.ranges Try.prog 58 asIs m wa.heap.size R.length D left cnt) ∧ Hid (RxAt wr p m R' L' F') ∧ Hid (∀ q, F' q → F q) ∧ Hid (Chg F wa wr) ∧ Hid (c + L'.length = L.length ∧ dropK L' k = dropK L k) ∧ Hid (∀ x ∈ L', x.k = k → left (nbLit x.n) = true))
    (fun _ wr => wr.rangeLeft m wa.heap.size)
  case atStart => exact ⟨0, R, L, F, D0, _, _, rfl, HR0, HA0, Lib.hid (fun _ h => h), Lib.hid (Chg.of_below BG.out), Lib.hid ⟨by omega, rfl⟩, HL0⟩
  case round =>
    obtain ⟨c, R', L', F', D, left, cnt, rfl, HRG, HA, HF, HC, HN, HLF⟩ := hrel
    have HO2 := Lib.hid HA.out.out
    go_wp2_with (first
      | (at_next; refine wpList_next_nb HRG.out HO2.out rfl _ rfl rfl ?_ ?_)
      | go_in)
    · intro _ hl0
      have HE := Lib.hid (show L' = dropK L k from by
        rw [← HN.out.2]
        refine (drop_none fun x hx e => ?_).symm
        have h1 := HLF.out x hx e
        rw [hl0] at h1
        cases h1)
      have HCN := Lib.hid (show c = L.length - (dropK L k).length by
        have h1 := HN.out.1
        rw [HE.out] at h1
        omega)
      have X := Lib.hid (show RxQ w p (dropK L k) F wr from ⟨F', ⟨m, R', by rw [← HE.out]; exact HA.out⟩, (Chg.of_below (F := F) B0.out).trans HC.out (fun q hq => .inl hq), fun q hq => .inl (HF.out q hq)⟩)
      clear hl0
      go_wp2
      show Q (.returned (.int .i64 (c : Int))) wr
      rw [← HQ.out]
      exact ⟨by rw [HCN.out], X.out⟩
    · intro s hs w1 cnt1 hlk hrg1 hlt hg1 hs1 hen
      have HWS := Lib.hid (HA.out.wf hs)
      have hits : wa.heap.size < wr.heap.size := HRG.out.lt
      have C1 : Chg (fun q => q = wa.heap.size) wr w1 := Chg.of_grown hg1 (fun q hq => by cases hq; rfl)
      have HNF : ¬ F' wa.heap.size := fun hf => by
        have h1 := ranges_ne HRG.out (HA.out.isMap hf)
        exact h1 rfl
      have A1 : RxAt w1 p m R' L' F' := HA.out.chg C1 (fun e => by
        have h1 := HA.out.blk
        rw [e] at h1
        obtain ⟨es, clock, since, seen, c0, hb, F'', hs', hD, hr, rest⟩ := HRG.out
        have h2 : wr.heap[wa.heap.size]? = some (.cells #[.map (some m)] 53 (0, 0)) := h1
        rw [hr] at h2
        cases h2) (fun q hq e => HNF (e ▸ hq))
      have HC1 : Chg F wa w1 := HC.out.trans C1 (fun q hq => .inr (Nat.le_of_eq hq.symm))
      have A2 := Lib.hid (A1.below ((Below.refl w1.heap.size w1).alloc (Nat.le_refl _) (.cells #[.int .i64 s.n.1, .int .i64 s.n.2] 58)))
      have HC2 := Lib.hid (HC1.below ((Below.refl w1.heap.size w1).alloc (Nat.le_refl _) (.cells #[.int .i64 s.n.1, .int .i64 s.n.2] 58)))
      have HR2 := Lib.hid (hrg1.alloc (.cells #[.int .i64 s.n.1, .int .i64 s.n.2] 58))
      have N2 := Lib.hid (Blk.new w1 58 #[.int .i64 s.n.1, .int .i64 s.n.2])
      have K2 := Lib.hid (K0.out.chg HC2.out HNX.out)
      have HLT := Lib.hid hlt
      have HLK := Lib.hid hlk
      obtain ⟨k0, k1, k2⟩ := K2.out.three
      have n0 := N2.out.cell 0
      have n1 := N2.out.cell 1
      simp at n0 n1
      clear hlk hrg1 hlt hg1 hs1 hs C1 HNF A1 HC1 hits
      go_wp2_with fail
      refine (ack_at A2.out s.n HWS.out k HK.out).mono ?_
      rintro e3 w3 ⟨rfl, ⟨R3, F3, hA3, hF3⟩, hC3, hR3⟩
      obtain ⟨D3, left3, cnt3, hr3, hc3, hl3⟩ := hR3 _ _ _ _ _ HR2.out
      have el3 : left3 = fun z => left z && !z.sameKey (nbLit s.n) := by
        rcases hl3 with e | e
        · exact e
        · rw [e, Maps.strike_twice]
      rw [el3] at hr3
      have R3' := Lib.hid hr3
      have A3 := Lib.hid hA3
      have FF3 := Lib.hid (show ∀ q, F3 q → F q from fun q hq => HF.out q (hF3 q hq))
      have HC3 := Lib.hid (show Chg F wa w3 from HC2.out.trans hC3 (fun q hq => .inl (HF.out q hq)))
      have HL3 := Lib.hid (left_step HA.out HLF.out HWS.out (fun x hx => (mem_ackK.1 hx).1) (fun x hx hk e => (mem_ackK.1 hx).2 (by
        obtain ⟨xn, xk⟩ := x
        simp only at e hk
        rw [e, hk])) : ∀ x ∈ ackK L' s.n k, x.k = k → (left (nbLit x.n) && !(nbLit x.n).sameKey (nbLit s.n)) = true)
      have HCC := Lib.hid hc3
      have HND := HA.out.rep.nodup
      clear hR3 hr3 hA3 hF3 hC3 hl3 el3 hc3 hen k0 k1 k2 n0 n1
      by_cases hm : Rw.mk s.n k ∈ L'
      · rw [decide_eq_true hm]
        have HN3 := Lib.hid (show (c + 1) + (ackK L' s.n k).length = L.length ∧ dropK (ackK L' s.n k) k = dropK L k from ⟨by have := ackK_len HND hm; have := HN.out.1; omega, by rw [drop_ack]; exact HN.out.2⟩)
        have hcb : c ≤ 100000 := by have := HN.out.1; have := HLL.out; omega
        clear hm HND
        go_wp2
        refine ⟨⟨c + 1, R3, ackK L' s.n k, F3, D3, _, cnt3, by go_num, R3', A3, FF3, HC3, HN3, HL3⟩, ?_⟩
        rw [R3'.out.left_eq, HRG.out.left_eq]
        have := HLT.out
        have := HCC.out
        omega
      · rw [decide_eq_false hm]
        have HN3 := Lib.hid (show c + (ackK L' s.n k).length = L.length ∧ dropK (ackK L' s.n k) k = dropK L k from ⟨by rw [ackK_none hm]; exact HN.out.1, by rw [drop_ack]; exact HN.out.2⟩)
        clear hm HND
        go_wp2
        refine ⟨⟨c, R3, ackK L' s.n k, F3, D3, _, cnt3, rfl, R3', A3, FF3, HC3, HN3, HL3⟩, ?_⟩
        rw [R3'.out.left_eq, HRG.out.left_eq]
        have := HLT.out
        have := HCC.out
        omega
end Go.Proofs.Ytndjoanlbaiaeaa
