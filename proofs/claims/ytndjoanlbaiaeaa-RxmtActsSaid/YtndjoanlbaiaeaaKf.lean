/- The program's Ack and Forget. Conditions: numbers of 64 bits. -/
import Derived.Test.YtndjoanlbaiaeaaKe
namespace Go.Proofs.Ytndjoanlbaiaeaa
open Go.RowKit Go.Lib Go.Deep Go.Sort
open Go.Maps (Keyed)

/-- A range over the map of neighbors goes on; at most one neighbor less is to come. -/
def RangeK (w w' : World) (m : Nat) (n : Int × Int) : Prop := ∀ (r nn cnt : Nat) (D : DataW Value) (left : Lit → Bool), w.ranges Try.prog 58 asIs m r nn D left cnt → ∃ (D' : DataW Value) (left' : Lit → Bool) (cnt' : Nat), w'.ranges Try.prog 58 asIs m r nn D' left' cnt' ∧ cnt' ≤ cnt ∧ (left' = left ∨ left' = fun z => left z && !z.sameKey (nbLit n))
/-- What Ack makes. -/
def AckAt (w : World) (p m : Nat) (n : Int × Int) (L' : List Rw) (F : Nat → Prop) (w' : World) : Prop := (∃ R' F', RxAt w' p m R' L' F' ∧ (∀ q, F' q → F q)) ∧ Chg F w w' ∧ RangeK w w' m n
section
variable {w w' : World} {p m : Nat} {R : List Nb} {L L' : List Rw} {F : Nat → Prop} {n : Int × Int} {r : Nb} {k : Ky}
theorem AckAt.same (h : RxAt w p m R L F) (hb : Below w.heap.size w w') : AckAt w p m n L F w' :=
  ⟨⟨R, F, h.below hb, fun _ hq => hq⟩, Chg.of_below hb, fun _ _ cnt D left hr => ⟨D, left, cnt, ranges_keep hr (Chg.of_below (F := fun _ => False) hb) (fun h => h) (fun h => h), Nat.le_refl _, .inl rfl⟩⟩
theorem AckAt.one (h : RxAt w p m R L F) (hg : getN R n = some r) {w1 : World} (hb : Below w.heap.size w w1) (hi : InIs w' r.b (lessOne r.ks k)) (hc : w1.mapTurned w' r.b) (h0 : lessOne r.ks k ≠ []) : AckAt w p m n (ackK L n k) F w' := by
  have hrm := (getN_some hg).1
  have hfb : F r.b := (h.foot _).2 (.inr ⟨r, hrm, rfl⟩)
  have hC : Chg (fun q => q = r.b) w w' := (Chg.of_below (F := fun q => q = r.b) hb).trans (chg_of_turned hc) (fun q hq => .inl hq)
  refine ⟨⟨_, F, h.inner hg hi hC (h.rep.ack hg k h0 r.b), fun _ hq => hq⟩, hC.more (fun q hq => by rw [hq]; exact hfb), fun _ _ cnt D left hr => ⟨D, left, cnt, ranges_keep hr hC (Ne.symm (h.ins r hrm).2) (ranges_ne hr (h.isMap hfb)), Nat.le_refl _, .inl rfl⟩⟩
theorem AckAt.all (h : RxAt w p m R L F) (hg : getN R n = some r) {w1 w2 : World} (hn : wfN n) (hb : Below w.heap.size w w1) (hc : w1.mapTurned w2 r.b) {ty : TypeId} (hrun : (Builtin.delete_ #[51, 58] ty #[.map (some m), .agg #[.int .i64 n.1, .int .i64 n.2]]).run Try.prog w2 = .ok (.tuple #[]) w') (ho : OutIs w' m (restN R n)) (hc2 : w2.mapTurned w' m) (h0 : lessOne r.ks k = []) : AckAt w p m n (ackK L n k) F w' := by
  have hrm := (getN_some hg).1
  have hfb : F r.b := (h.foot _).2 (.inr ⟨r, hrm, rfl⟩)
  have hC : Chg (fun q => q = r.b) w w2 := (Chg.of_below (F := fun q => q = r.b) hb).trans (chg_of_turned hc) (fun q hq => .inl hq)
  have hC2 : Chg (fun q => q = m ∨ q = r.b) w w' := (hC.more (F' := fun q => q = m ∨ q = r.b) (fun q hq => .inr hq)).trans (chg_of_turned hc2) (fun q hq => .inl (.inl hq))
  obtain ⟨F', h1, h2⟩ := h.less hg ho hC2 (h.rep.ackAll hg k h0)
  refine ⟨⟨_, F', h1, h2⟩, hC2.more (fun q hq => by rcases hq with rfl | rfl; exact (h.foot _).2 (.inl rfl); exact hfb), fun _ _ cnt D left hr => ?_⟩
  have hr2 := ranges_keep hr hC (Ne.symm (h.ins r hrm).2) (ranges_ne hr (h.isMap hfb))
  obtain ⟨D', cnt', e1, e2⟩ := ranges_drop (M := nbM) (k := n) hr2 Try.underlying51 hn hrun
  exact ⟨D', _, cnt', e1, e2, .inr rfl⟩
end
set_option maxRecDepth 8000 in
set_option maxHeartbeats 4000000 in
theorem ack_at {w : World} {p m : Nat} {R : List Nb} {L : List Rw} {F : Nat → Prop} (h : RxAt w p m R L F) (n : Int × Int) (hn : wfN n) (k : Ky) (hk : wfKy k) : Calls Try.prog 12 #[.pointer (some ⟨p, 0, none⟩), .int .i64 n.1, .int .i64 n.2, .agg #[.int .i64 k.kind, .int .i64 k.id, .int .i64 k.adv]] w fun e w' => e = .returned (.bool (decide (Rw.mk n k ∈ L))) ∧ AckAt w p m n (ackK L n k) F w' := by
  generalize hQ : (fun (e : Ending) (w' : World) => e = .returned (.bool (decide (Rw.mk n k ∈ L))) ∧ AckAt w p m n (ackK L n k) F w') = Q
  have HQ := Lib.hid hQ
  clear hQ
  have B0 := Lib.hid ((Below.refl w.heap.size w).alloc (Nat.le_refl _) (.cells #[.int .i64 k.kind, .int .i64 k.id, .int .i64 k.adv] 34))
  have H0 := h.below B0.out
  have HO := Lib.hid (of_x H0 n hn)
  have HH := Lib.hid (has_x H0 n k hk)
  have H := Lib.hid h
  have HN := Lib.hid hn
  have HK := Lib.hid hk
  have K0 := Lib.hid (Blk.new w 34 #[.int .i64 k.kind, .int .i64 k.id, .int .i64 k.adv])
  obtain ⟨k0, k1, k2⟩ := K0.out.three
  clear h hn hk H0
  go_enter Try.func12, Try.ntmps12
  go_wp2_with fail
  refine HO.out.mono ?_
  rintro e1 w1 ⟨rfl, rfl⟩
  clear HO
  obtain ⟨v, hv⟩ : ∃ v, mapOf (getN R n) = v := ⟨_, rfl⟩
  rw [hv] at HH ⊢
  have HV := Lib.hid hv
  clear hv
  go_wp2_with fail
  refine HH.out.mono ?_
  rintro e2 w2 ⟨rfl, hg2⟩
  have hb2 := below_grown13 hg2
  have B2 := Lib.hid (B0.out.trans (hb2.mono B0.out.size))
  have K2 := Lib.hid (K0.out.below hb2 K0.out.lt)
  clear hb2 hg2 HH k0 k1 k2
  by_cases hm : Rw.mk n k ∈ L
  · rw [decide_eq_true hm]
    obtain ⟨r, hgr, hkr⟩ := (H.out.rep.on).1 hm
    have HM := Lib.hid hm
    have HG := Lib.hid hgr
    obtain rfl : v = .map (some r.b) := by rw [← HV.out, hgr]; rfl
    have hrm := (getN_some hgr).1
    have hI := (H.out.ins r hrm).1
    obtain ⟨w3, hrun3, hi3, ht3⟩ := InIs.drop (MKind.holds.below hI B2.out hI.lt) HK.out 0
    have I3 := Lib.hid hi3
    have T3 := Lib.hid ht3
    have hC3 := chg_of_turned ht3
    have hlen := hi3.len 3
    obtain ⟨k0, k1, k2⟩ := K2.out.three
    clear hm hgr hkr HV hI hi3 ht3
    by_cases h0 : lessOne r.ks k = []
    · have hl0 : (((lessOne r.ks k).length : Int) == 0) = true := by rw [h0]; rfl
      have O2 := MKind.holds.below H.out.out B2.out (MKind.holds.lt H.out.out)
      have O3 : OutIs w3 m R := MKind.holds.chg O2 hC3 (Ne.symm (H.out.ins r hrm).2)
      obtain ⟨w4, hrun4, ho4, ht4⟩ := O3.drop HN.out 0
      have X := Lib.hid (AckAt.all H.out HG.out HN.out B2.out T3.out hrun4 ho4 ht4 h0)
      have hb := H.out.blk.below B2.out H.out.blk.lt
      have c0 := (hb.chg hC3 (fun e => H.out.np ((H.out.foot p).2 (.inr ⟨r, hrm, e⟩)))).cell 0
      simp at c0
      clear h0 O2 O3 ho4 ht4 hb hC3
      go_wp2_with (first | (at_delete; refine wpList_delR hrun3 rfl _ _ rfl rfl rfl ?_) | (at_delete; refine wpList_delR hrun4 rfl _ _ rfl rfl rfl ?_) | (at_len; refine wpList_lenR hlen rfl _ rfl rfl ?_))
      show Q (.returned (.bool true)) w4
      rw [← HQ.out]
      exact ⟨by rw [decide_eq_true HM.out], X.out⟩
    · have hl0 : (((lessOne r.ks k).length : Int) == 0) = false := by
        have := List.length_pos_iff.2 h0
        simp
        omega
      have X := Lib.hid (AckAt.one (k := k) H.out HG.out B2.out I3.out T3.out h0)
      clear h0 hC3
      go_wp2_with (first | (at_delete; refine wpList_delR hrun3 rfl _ _ rfl rfl rfl ?_) | (at_len; refine wpList_lenR hlen rfl _ rfl rfl ?_))
      show Q (.returned (.bool true)) w3
      rw [← HQ.out]
      exact ⟨by rw [decide_eq_true HM.out], X.out⟩
  · rw [decide_eq_false hm]
    have X := Lib.hid (AckAt.same (n := n) H.out B2.out)
    have HM := Lib.hid hm
    clear hm HV
    go_wp2
    show Q (.returned (.bool false)) w2
    rw [← HQ.out]
    exact ⟨by rw [decide_eq_false HM.out], by rw [ackK_none HM.out]; exact X.out⟩
/-- Ack, told of what the lists say alone. -/
theorem ack_x {w : World} {p : Nat} {L : List Rw} {F : Nat → Prop} (h : RxIs w p L F) (n : Int × Int) (hn : wfN n) (k : Ky) (hk : wfKy k) : Calls Try.prog 12 #[.pointer (some ⟨p, 0, none⟩), .int .i64 n.1, .int .i64 n.2, .agg #[.int .i64 k.kind, .int .i64 k.id, .int .i64 k.adv]] w fun e w' => e = .returned (.bool (decide (Rw.mk n k ∈ L))) ∧ RxQ w p (ackK L n k) F w' := by
  obtain ⟨m, R, h⟩ := h
  refine (ack_at h n hn k hk).mono ?_
  rintro e w' ⟨he, ⟨R', F', h1, h2⟩, h3, -⟩
  exact ⟨he, F', ⟨m, R', h1⟩, h3, fun q hq => .inl (h2 q hq)⟩
set_option maxHeartbeats 2000000 in
theorem ack_nil (l i : Int) (k : Ky) (hk : wfKy k) (w : World) : Calls Try.prog 12 #[.pointer none, .int .i64 l, .int .i64 i, .agg #[.int .i64 k.kind, .int .i64 k.id, .int .i64 k.adv]] w fun e w' => e = .returned (.bool false) ∧ Below w.heap.size w w' := by
  have B0 := Lib.hid ((Below.refl w.heap.size w).alloc (Nat.le_refl _) (.cells #[.int .i64 k.kind, .int .i64 k.id, .int .i64 k.adv] 34))
  have K0 := Blk.new w 34 #[.int .i64 k.kind, .int .i64 k.id, .int .i64 k.adv]
  obtain ⟨k0, k1, k2⟩ := K0.three
  go_enter Try.func12, Try.ntmps12
  go_wp2_with fail
  refine (of_nil l i _).mono ?_
  rintro e1 w1 ⟨rfl, rfl⟩
  go_wp2_with fail
  refine (has_v (v := .map none) k false fun w' _ => in_nil hk w').mono ?_
  rintro e2 w2 ⟨rfl, hg2⟩
  have B2 := Lib.hid (B0.out.trans ((below_grown13 hg2).mono B0.out.size))
  clear hg2 k0 k1 k2
  go_wp2
  go_ret
  exact ⟨rfl, B2.out⟩
set_option maxRecDepth 8000 in
set_option maxHeartbeats 4000000 in
theorem forget_x {w : World} {p : Nat} {L : List Rw} {F : Nat → Prop} (h : RxIs w p L F) (n : Int × Int) (hn : wfN n) : Calls Try.prog 14 #[.pointer (some ⟨p, 0, none⟩), .int .i64 n.1, .int .i64 n.2] w fun e w' => e = .returned (.int .i64 ((onL L n).length : Int)) ∧ RxQ w p (forgetK L n) F w' := by
  obtain ⟨m, R, h⟩ := h
  obtain ⟨v, hv⟩ : ∃ v : Nat, (onL L n).length = v := ⟨_, rfl⟩
  generalize hQ : (fun (e : Ending) (w' : World) => e = .returned (.int .i64 ((onL L n).length : Int)) ∧ RxQ w p (forgetK L n) F w') = Q
  have HQ := Lib.hid hQ
  have HV := Lib.hid hv
  clear hQ
  have H := Lib.hid h
  have HN := Lib.hid hn
  have HL := len_x h n hn
  rw [hv] at HL
  have HLL := Lib.hid HL
  have c0 := h.blk.cell 0
  simp at c0
  clear h hn hv HL
  go_enter Try.func14, Try.ntmps14
  go_wp2_with fail
  refine HLL.out.mono ?_
  rintro e1 w1 ⟨rfl, rfl⟩
  clear HLL
  by_cases h0 : 0 < v
  · have hl0 : (0 : Int) < v := by omega
    obtain ⟨r, hgr⟩ : ∃ r, getN R n = some r := by
      cases hg : getN R n with
      | none =>
        have e := H.out.rep.no hg
        have e2 := HV.out
        rw [e] at e2
        simp at e2
        omega
      | some r => exact ⟨r, rfl⟩
    obtain ⟨w2, hrun2, ho2, ht2⟩ := H.out.out.drop HN.out 0
    obtain ⟨F', h1, h2⟩ := H.out.less hgr ho2 ((chg_of_turned ht2).more (F' := fun q => q = m ∨ q = r.b) (fun q hq => .inl hq)) (H.out.rep.rest n)
    have X := Lib.hid (show RxQ w p (forgetK L n) F w2 from ⟨F', ⟨m, _, h1⟩, (chg_of_turned ht2).more (fun q hq => by rw [hq]; exact (H.out.foot _).2 (.inl rfl)), fun q hq => .inl (h2 q hq)⟩)
    clear h0 hgr ho2 ht2 h1 h2
    go_wp2_with (first | (at_delete; refine wpList_delR hrun2 rfl _ _ rfl rfl rfl ?_))
    show Q (.returned (.int .i64 (v : Int))) w2
    rw [← HQ.out]
    exact ⟨by rw [HV.out], X.out⟩
  · have hl0 : ¬ (0 : Int) < v := by omega
    have e : onL L n = [] := List.eq_nil_of_length_eq_zero (by have := HV.out; omega)
    have X := Lib.hid (show RxQ w p (forgetK L n) F w from by rw [forgetK_none e]; exact RxQ.same ⟨m, R, H.out⟩ (Below.refl _ _))
    clear h0 e c0
    go_wp2
    show Q (.returned (.int .i64 (v : Int))) w
    rw [← HQ.out]
    exact ⟨by rw [HV.out], X.out⟩
theorem forget_nil (l i : Int) (w : World) : Calls Try.prog 14 #[.pointer none, .int .i64 l, .int .i64 i] w fun e w' => e = .returned (.int .i64 0) ∧ w = w' := by
  go_enter Try.func14, Try.ntmps14
  go_wp2_with fail
  refine (len_nil l i _).mono ?_
  rintro e1 w1 ⟨rfl, rfl⟩
  go_wp2
  go_ret
  exact ⟨rfl, rfl⟩
end Go.Proofs.Ytndjoanlbaiaeaa
