/- The program's Put. Conditions: at most 100000 keys, numbers of 64 bits. -/
import Derived.Test.YtndjoanlbaiaeaaKf
import Derived.Test.YtndjoanlbaiaeaaJak
import Derived.Maps.AppendAt
namespace Go.Proofs.Ytndjoanlbaiaeaa
open Go.RowKit Go.Lib Go.Deep Go.Sort
open Go.Maps (Keyed)

theorem put_mem {ks K O : List Ky} {j : Nat} {x : Ky} (h : ∀ y, y ∈ ks ↔ y ∈ O ∨ y ∈ K.take j) (hx : K[j]? = some x) : ∀ y, y ∈ x :: lessOne ks x ↔ y ∈ O ∨ y ∈ K.take (j + 1) := by
  intro y
  have hl := (List.getElem?_eq_some_iff.1 hx).1
  have e : K.take (j + 1) = K.take j ++ [x] := by
    rw [List.take_add_one, hx]
    rfl
  rw [e, List.mem_append, List.mem_singleton, List.mem_cons, mem_lessOne, h]
  constructor
  · rintro (rfl | ⟨h1 | h1, -⟩)
    · exact .inr (.inr rfl)
    · exact .inl h1
    · exact .inr (.inl h1)
  · intro h1
    by_cases e : y = x
    · exact .inl e
    · rcases h1 with h1 | h1 | h1
      · exact .inr ⟨.inl h1, e⟩
      · exact .inr ⟨.inr h1, e⟩
      · exact absurd h1 e
/-- A row of keys stays while a set turns. -/
theorem kys_turn {w w' : World} {b B n : Nat} {A : Option Addr} {ks K : List Ky} (hK : Kys w B A n K) (hi : InIs w b ks) (hc : Chg (fun q => q = b) w w') : Kys w' B A n K := by
  refine ⟨hK.1, fun hn => ?_⟩
  obtain ⟨g, o, rfl, hg, hat⟩ := hK.2 hn
  refine ⟨g, o, rfl, hg, fun j x hx => ?_⟩
  have hh := hat j x hx
  have hlt : g < w.heap.size := World.block_lt_of_cell? w _ hh.1
  have hne : g ≠ b := MKind.holds.ne_cell hi hh.1
  have hk : ∀ i, w'.cell? ⟨g, i, none⟩ = w.cell? ⟨g, i, none⟩ := fun i => by
    simp only [World.cell?, hc.block g hlt hne]
  unfold KyAt at hh ⊢
  simp only [hk]
  exact hh
theorem puts_len {R : List Nb} {L : List Rw} (h : Rep R L) {n : Int × Int} {K ks : List Ky} (hn : ks.Nodup) (hk : ∀ x, x ∈ ks ↔ x ∈ onL L n ∨ x ∈ K) : (onL (putsK L n K) n).length = ks.length := by
  obtain ⟨p1, p2⟩ := puts_all (n := n) (K := K) h.nodup
  refine ((List.perm_ext_iff_of_nodup (nodup_onL p1 n) hn).2 fun x => ?_).length_eq
  rw [mem_onL, p2, hk, mem_onL]
  simp
set_option maxRecDepth 20000 in
set_option maxHeartbeats 16000000 in
theorem put_x {w : World} {p : Nat} {L : List Rw} {F : Nat → Prop} (h : RxIs w p L F) (n : Int × Int) (hn : wfN n) {A : Option Addr} {nn c B : Nat} {K : List Ky} (hK : Kys w B A nn K) (hB : B ≤ w.heap.size) (hwf : ∀ k ∈ K, wfKy k) (hl : L.length + nn ≤ 100000) : Calls Try.prog 10 #[.pointer (some ⟨p, 0, none⟩), .int .i64 n.1, .int .i64 n.2, .slice A nn c] w fun e w' => e = .returned (.int .i64 ((onL (putsK L n K) n).length : Int)) ∧ RxQ w p (putsK L n K) F w' := by
  obtain ⟨m, R, h⟩ := h
  generalize hQ : (fun (e : Ending) (w' : World) => e = .returned (.int .i64 ((onL (putsK L n K) n).length : Int)) ∧ RxQ w p (putsK L n K) F w') = Q
  have HQ := Lib.hid hQ
  have H := Lib.hid h
  have HN := Lib.hid hn
  have HO := Lib.hid (of_x h n hn)
  have HWF := Lib.hid hwf
  have HK := Lib.hid hK
  have HLL := Lib.hid hl
  have hmm := @run_makeMap Try.prog
  have c0 := h.blk.cell 0
  simp at c0
  have hnn : nn ≤ 100000 := by omega
  clear hQ h hn hK hl
  go_enter Try.func10, Try.ntmps10
  go_wp2_with fail
  refine HO.out.mono ?_
  rintro e1 w1 ⟨rfl, rfl⟩
  clear HO
  cases hg : getN R n with
  | some r =>
    have HG := Lib.hid hg
    have hrm := (getN_some hg).1
    have hone : ∀ W b, (binOp .eql 55 (.map (some b)) (.map none)).run Try.prog W = .ok (.bool false) W := fun W b => by kernel_rfl
    obtain ⟨b, hb⟩ : ∃ b, b = r.b := ⟨_, rfl⟩
    obtain ⟨wl, hwl⟩ : ∃ wl, wl = w := ⟨_, rfl⟩
    obtain ⟨ks0, hks⟩ : ∃ ks0, ks0 = r.ks := ⟨_, rfl⟩
    have HBW := Lib.hid (show InIs wl b ks0 by rw [hwl, hb, hks]; exact (H.out.ins r hrm).1)
    have HKW := Lib.hid (show Kys wl B A nn K by rw [hwl]; exact HK.out)
    have HM0 := Lib.hid (show ∀ x, x ∈ ks0 ↔ x ∈ onL L n from fun x => by rw [hks]; exact (H.out.rep.got hg).mem_iff.symm)
    have HL0 := Lib.hid (show ks0.length + nn ≤ 100000 by
      have h1 := (H.out.rep.got hg).length_eq
      have h2 := forget_len L n
      have := HLL.out
      rw [hks]
      omega)
    have HFIN := Lib.hid (show ∀ (w' : World) (ks : List Ky), InIs w' b ks → Chg (fun q => q = b) wl w' → (∀ x, x ∈ ks ↔ x ∈ onL L n ∨ x ∈ K) → (Ending.returned (.int .i64 (ks.length : Int)) = .returned (.int .i64 ((onL (putsK L n K) n).length : Int)) ∧ RxQ w p (putsK L n K) F w') from fun w' ks hi hc hm => by
      subst hb hwl
      have hnd := InIs.nodup hi
      refine ⟨by rw [puts_len H.out.rep hnd hm], F, ⟨m, _, H.out.inner HG.out hi hc (H.out.rep.put hnd (fun e => ?_) hm)⟩, hc.more (fun q hq => (H.out.foot q).2 (.inr ⟨r, hrm, hq⟩)), fun q hq => .inl hq⟩
      have h0 := (H.out.rep.each r hrm).2
      obtain ⟨y, hy⟩ := List.exists_mem_of_ne_nil _ h0
      have := (hm y).2 (.inl ((H.out.rep.got HG.out).mem_iff.2 hy))
      rw [e] at this
      cases this)
    have hwl2 := hwl
    clear hg hrm hks HG H HN HLL HK
    rw [show mapOf (some r) = .map (some b) by rw [hb]; rfl]
    clear hb
    rw [← hwl2]
    clear hwl hwl2 c0
    have hb0 : ∀ W, (Instr.build 59 #[]).run Try.prog W = .ok (.agg #[]) W := fun W => by kernel_rfl
    go_wp2_with fail
    go_loopw [36] (fun i wr => ∃ (j : Nat) (ks : List Ky), j ≤ nn ∧ i = .int .i64 j ∧ Hid (InIs wr b ks) ∧ Hid (∀ x, x ∈ ks ↔ x ∈ onL L n ∨ x ∈ K.take j) ∧ Hid (ks.length + nn ≤ 100000 + j) ∧ Hid (Chg (fun q => q = b) wl wr)) (fun i _ => nn - (intOf i).toNat)
    case atStart => exact ⟨0, ks0, Nat.zero_le _, rfl, HBW, Lib.hid (fun x => by rw [HM0.out x, List.take_zero]; simp), Lib.hid (by have := HL0.out; omega), Lib.hid (Chg.refl _ _)⟩
    case round =>
      obtain ⟨j, ks, hj, rfl, HI, HM, HL, HC⟩ := hrel
      have HKR := Lib.hid (kys_turn HKW.out HBW.out HC.out)
      by_cases hlt : j < nn
      · have hlt' : (j : Int) < nn := by omega
        obtain ⟨gb, o, x, rfl, hgl, hx, y0, y1, y2⟩ := kys_item HKR.out hlt
        have HX := Lib.hid hx
        have HWX := Lib.hid (hwf x (List.mem_of_getElem? hx))
        have K4 := Lib.hid (Blk.new wr 34 #[.int .i64 x.kind, .int .i64 x.id, .int .i64 x.adv])
        have C4 := Lib.hid (HC.out.below ((Below.refl wr.heap.size wr).alloc (Nat.le_refl _) (.cells #[.int .i64 x.kind, .int .i64 x.id, .int .i64 x.adv] 34)))
        have I4 : InIs (wr.alloc (.cells #[.int .i64 x.kind, .int .i64 x.id, .int .i64 x.adv] 34)) b ks := MKind.holds.alloc HI.out _
        obtain ⟨k0, k1, k2⟩ := K4.out.three
        obtain ⟨w5, hrun5, hi5, ht5⟩ := I4.put HWX.out (by have := HL.out; unfold maxLen; omega)
        have I5 := Lib.hid hi5
        have C5 := Lib.hid (C4.out.trans (chg_of_turned ht5) (fun q hq => .inl hq))
        have M5 := Lib.hid (show ∀ y, y ∈ x :: lessOne ks x ↔ y ∈ onL L n ∨ y ∈ K.take (j + 1) from put_mem HM.out HX.out)
        have L5 := Lib.hid (show (x :: lessOne ks x).length + nn ≤ 100000 + (j + 1) by
          have h1 : (lessOne ks x).length ≤ ks.length := List.length_filter_le _ _
          have := HL.out
          rw [List.length_cons]
          omega)
        clear hx hi5 ht5 I4 HI HM HL HC
        go_wp2_with (at_mapUpdate; refine wpList_updR hrun5 rfl _ _ _ rfl rfl rfl rfl ?_)
        go_roundw
        case rel => exact ⟨j + 1, x :: lessOne ks x, by omega, by go_num, I5, M5, L5, C5⟩
        case measure => simp [intOf]; omega
      · have hlt' : ¬ (j : Int) < nn := by omega
        have hje : K.take j = K := List.take_of_length_le (by have := HKW.out.1; omega)
        have HF := Lib.hid (HFIN.out wr ks HI.out HC.out (fun x => by rw [HM.out x, hje]))
        have hlen := HI.out.len 3
        obtain ⟨lk, hlk⟩ : ∃ lk, lk = ks.length := ⟨_, rfl⟩
        rw [← hlk] at hlen
        have HLK := Lib.hid hlk
        clear hlk hje HI HM HL HC HKR
        go_wp2_with (at_len; refine wpList_lenR hlen rfl _ rfl rfl ?_)
        show Q (.returned (.int .i64 (lk : Int))) wr
        rw [← HQ.out, HLK.out]
        exact HF.out
  | none =>
    have HG := Lib.hid hg
    have h0n := H.out.rep.no hg
    have hone : ∀ W, (binOp .eql 55 (.map none) (.map none)).run Try.prog W = .ok (.bool true) W := fun W => by kernel_rfl
    rw [show mapOf none = .map none from rfl]
    by_cases hn0 : 0 < nn
    · have hn0' : (0 : Int) < nn := by omega
      have hm1 := MKind.holds.made (M := kyM) w
      have I1 : InIs (w.alloc (.map #[] 0)) w.heap.size [] := hm1
      have O1 : OutIs (w.alloc (.map #[] 0)) m R := MKind.holds.alloc H.out.out _
      obtain ⟨w2, hrun2, ho2, ht2⟩ := O1.put HN.out w.heap.size [] (by have := H.out.rep.short; have := HLL.out; unfold maxLen; omega)
      have c1 : (w.alloc (.map #[] 0)).cell? ⟨p, 0, none⟩ = some (.map (some m)) := (H.out.blk.alloc _).cell 0
      have hml := MKind.holds.lt H.out.out
      have B1 := (Below.refl w.heap.size w).alloc (Nat.le_refl _) (.map #[] 0)
      have HC2 := Lib.hid (show Chg (fun q => q = m) w w2 from (Chg.of_below (F := fun q => q = m) B1).trans (chg_of_turned ht2) (fun q hq => .inl hq))
      have HO2 := Lib.hid ho2
      have I2 : InIs w2 w.heap.size [] := MKind.holds.chg I1 (chg_of_turned ht2) (by omega)
      have HK2 := Lib.hid (show Kys w2 B A nn K from RxIs.kys ⟨m, R, H.out⟩ HK.out (HC2.out.more (fun q hq => (H.out.foot q).2 (.inl hq))))
      have HFIN := Lib.hid (show ∀ (w' : World) (ks : List Ky), InIs w' w.heap.size ks → Chg (fun q => q = w.heap.size) w2 w' → (∀ x, x ∈ ks ↔ x ∈ onL L n ∨ x ∈ K) → (Ending.returned (.int .i64 (ks.length : Int)) = .returned (.int .i64 ((onL (putsK L n K) n).length : Int)) ∧ RxQ w p (putsK L n K) F w') from fun w' ks hi hc hm => by
        have hnd := InIs.nodup hi
        have hC : Chg (fun q => q = m) w w' := HC2.out.trans hc (fun q hq => .inr (by rw [hq]; exact Nat.le_refl _))
        have hne : m ≠ w.heap.size := by omega
        have ho' : OutIs w' m (⟨n, w.heap.size, ks⟩ :: restN R n) := OutIs.as (MKind.holds.chg HO2.out hc hne) rfl
        have hks0 : ks ≠ [] := fun e => by
          obtain ⟨y, hy⟩ : ∃ y, y ∈ K := List.exists_mem_of_ne_nil _ (fun e => by have := HK.out.1; rw [e] at this; simp at this; omega)
          have := (hm y).2 (.inr hy)
          rw [e] at this
          cases this
        obtain ⟨F', h1, h2⟩ := H.out.more (Nat.le_refl _) ho' hi hC (H.out.rep.put hnd hks0 hm)
        exact ⟨by rw [puts_len H.out.rep hnd hm], F', ⟨m, _, h1⟩, hC.more (fun q hq => (H.out.foot q).2 (.inl hq)), h2⟩)
      obtain ⟨wl, hwl⟩ : ∃ wl, wl = w2 := ⟨_, rfl⟩
      obtain ⟨ks0, hks⟩ : ∃ ks0 : List Ky, ks0 = [] := ⟨_, rfl⟩
      have HBW := Lib.hid (show InIs wl w.heap.size ks0 by rw [hwl, hks]; exact I2)
      have HKW := Lib.hid (show Kys wl B A nn K by rw [hwl]; exact HK2.out)
      have HM0 := Lib.hid (show ∀ x, x ∈ ks0 ↔ x ∈ onL L n from fun x => by rw [hks, h0n])
      have HL0 := Lib.hid (show ks0.length + nn ≤ 100000 by rw [hks, List.length_nil]; omega)
      rw [← hwl] at HFIN
      subst hwl
      clear hg h0n ho2 ht2 I1 O1 I2 HC2 HO2 HK2 hks HG H HN HLL HK hm1 B1
      go_upto_region 7 with (at_mapUpdate; refine wpList_updR hrun2 rfl _ _ _ rfl rfl rfl rfl ?_)
      clear hrun2 c1 c0
      generalize w.heap.size = b at *
      have hb0 : ∀ W, (Instr.build 59 #[]).run Try.prog W = .ok (.agg #[]) W := fun W => by kernel_rfl
      go_wp2_with fail
      go_loopw [36] (fun i wr => ∃ (j : Nat) (ks : List Ky), j ≤ nn ∧ i = .int .i64 j ∧ Hid (InIs wr b ks) ∧ Hid (∀ x, x ∈ ks ↔ x ∈ onL L n ∨ x ∈ K.take j) ∧ Hid (ks.length + nn ≤ 100000 + j) ∧ Hid (Chg (fun q => q = b) wl wr)) (fun i _ => nn - (intOf i).toNat)
      case atStart => exact ⟨0, ks0, Nat.zero_le _, rfl, HBW, Lib.hid (fun x => by rw [HM0.out x, List.take_zero]; simp), Lib.hid (by have := HL0.out; omega), Lib.hid (Chg.refl _ _)⟩
      case round =>
        obtain ⟨j, ks, hj, rfl, HI, HM, HL, HC⟩ := hrel
        have HKR := Lib.hid (kys_turn HKW.out HBW.out HC.out)
        by_cases hlt : j < nn
        · have hlt' : (j : Int) < nn := by omega
          obtain ⟨gb, o, x, rfl, hgl, hx, y0, y1, y2⟩ := kys_item HKR.out hlt
          have HX := Lib.hid hx
          have HWX := Lib.hid (hwf x (List.mem_of_getElem? hx))
          have K4 := Lib.hid (Blk.new wr 34 #[.int .i64 x.kind, .int .i64 x.id, .int .i64 x.adv])
          have C4 := Lib.hid (HC.out.below ((Below.refl wr.heap.size wr).alloc (Nat.le_refl _) (.cells #[.int .i64 x.kind, .int .i64 x.id, .int .i64 x.adv] 34)))
          have I4 : InIs (wr.alloc (.cells #[.int .i64 x.kind, .int .i64 x.id, .int .i64 x.adv] 34)) b ks := MKind.holds.alloc HI.out _
          obtain ⟨k0, k1, k2⟩ := K4.out.three
          obtain ⟨w5, hrun5, hi5, ht5⟩ := I4.put HWX.out (by have := HL.out; unfold maxLen; omega)
          have I5 := Lib.hid hi5
          have C5 := Lib.hid (C4.out.trans (chg_of_turned ht5) (fun q hq => .inl hq))
          have M5 := Lib.hid (show ∀ y, y ∈ x :: lessOne ks x ↔ y ∈ onL L n ∨ y ∈ K.take (j + 1) from put_mem HM.out HX.out)
          have L5 := Lib.hid (show (x :: lessOne ks x).length + nn ≤ 100000 + (j + 1) by
            have h1 : (lessOne ks x).length ≤ ks.length := List.length_filter_le _ _
            have := HL.out
            rw [List.length_cons]
            omega)
          clear hx hi5 ht5 I4 HI HM HL HC
          go_wp2_with (at_mapUpdate; refine wpList_updR hrun5 rfl _ _ _ rfl rfl rfl rfl ?_)
          go_roundw
          case rel => exact ⟨j + 1, x :: lessOne ks x, by omega, by go_num, I5, M5, L5, C5⟩
          case measure => simp [intOf]; omega
        · have hlt' : ¬ (j : Int) < nn := by omega
          have hje : K.take j = K := List.take_of_length_le (by have := HKW.out.1; omega)
          have HF := Lib.hid (HFIN.out wr ks HI.out HC.out (fun x => by rw [HM.out x, hje]))
          have hlen := HI.out.len 3
          obtain ⟨lk, hlk⟩ : ∃ lk, lk = ks.length := ⟨_, rfl⟩
          rw [← hlk] at hlen
          have HLK := Lib.hid hlk
          clear hlk hje HI HM HL HC HKR
          go_wp2_with (at_len; refine wpList_lenR hlen rfl _ rfl rfl ?_)
          show Q (.returned (.int .i64 (lk : Int))) wr
          rw [← HQ.out, HLK.out]
          exact HF.out
    · have hn0' : ¬ (0 : Int) < nn := by omega
      obtain rfl : nn = 0 := by omega
      have hK0 : K = [] := List.eq_nil_of_length_eq_zero HK.out.1
      have hlen := in_lenN w 3
      have X := Lib.hid (show Ending.returned (.int .i64 0) = .returned (.int .i64 ((onL (putsK L n K) n).length : Int)) ∧ RxQ w p (putsK L n K) F w from by
        rw [hK0]
        show Ending.returned (.int .i64 0) = .returned (.int .i64 ((onL L n).length : Int)) ∧ RxQ w p L F w
        rw [h0n]
        exact ⟨rfl, RxQ.same ⟨m, R, H.out⟩ (Below.refl _ _)⟩)
      clear hg h0n hK0 H HN HLL HK HG
      go_wp2_with fail
      refine wp_loop_rounds 1 ?_
      rw [rounds_succ]
      go_wp2_with (at_len; refine wpList_lenR hlen rfl _ rfl rfl ?_)
      show Q (.returned (.int .i64 0)) w
      rw [← HQ.out]
      exact X.out
set_option maxHeartbeats 2000000 in
theorem put_nil (l i : Int) (A : Option Addr) (nn c : Nat) (w : World) : Calls Try.prog 10 #[.pointer none, .int .i64 l, .int .i64 i, .slice A nn c] w fun e w' => e = .returned (.int .i64 0) ∧ w = w' := by
  go_enter Try.func10, Try.ntmps10
  go_wp2
  go_ret
  exact ⟨rfl, rfl⟩
end Go.Proofs.Ytndjoanlbaiaeaa
