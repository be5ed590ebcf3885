/- A description of another age has the same bytes but the first two, the same sum and length, and is got with that age. No conditions. -/
import Derived.Test.YtidncajbedgplaaLtF
import Derived.Test.YtidncajbedgplaaRows
import Derived.Deep.RegionHeld3
import Derived.Deep.DrawnRows
import Derived.RegionTactic
import Derived.WalkKit
import Derived.ProofKit
import Derived.OpenShut
import Derived.ShutString
import Derived.ChangeOld
import Derived.Below
namespace Go.Proofs.Ytidncajbedgplaa.lsaAges
open Go.ChangeShapes Go.WideShapes Go.ChangeAt Go.RowKit
set_option linter.unusedVariables false

theorem own : ownKnob Try.prog.godebug = none := by kernel_rfl
theorem laidOut : laidOutB Try.prog = true := by kernel_rfl

/-- A description of another age. -/
theorem age_right {h : Hd} {L : List Lk} {M : List Int} (hr : rightB h L M = true) (a : Int) (h0 : 0 ≤ a) (h1 : a ≤ 60) : rightB { h with age := a } L M = true := by
  unfold rightB headB at hr ⊢
  simp only [Bool.and_eq_true, inB_iff] at hr ⊢
  exact ⟨⟨⟨h0, h1⟩, hr.1.2⟩, hr.2⟩
theorem age_bytes (h : Hd) (L : List Lk) (M : List Int) (a : Int) : (lsaBytes { h with age := a } L M).drop 2 = (lsaBytes h L M).drop 2 ∧ (lsaBytes { h with age := a } L M).length = (lsaBytes h L M).length ∧ lsaSum { h with age := a } L M = lsaSum h L M := by
  have e : (rawBytes { h with age := a } L M 0).drop 2 = (rawBytes h L M 0).drop 2 := by
    rw [raw_drop, raw_drop]
    rfl
  have d : ∀ k : Hd, (lsaBytes k L M).drop 2 = ffill ((rawBytes k L M 0).drop 2) 14 := fun k => by
    unfold lsaBytes
    exact List.drop_left' (by rw [raw_take, enc_length])
  refine ⟨by rw [d, d, e], by rw [lsaBytes_length, lsaBytes_length]; rfl, ?_⟩
  unfold lsaSum sumBytes
  rw [e]
theorem age_join (h : Hd) (L : List Lk) (M : List Int) (a : Int) : (lsaBytes { h with age := a } L M).take 2 ++ (lsaBytes h L M).drop 2 = lsaBytes { h with age := a } L M := by
  rw [← (age_bytes h L M a).1, List.take_append_drop]

/-- What there is behind the reading: x in block xb, its lists in memory of their own. -/
def AgeMid (w0 : World) (h : Hd) (ag sm : Int) (lg n : Nat) (L : List Lk) (n' : Nat) (M : List Int) (wx : World) (xb : Nat) (A10 : Option Addr) (c10 : Nat) (A11 : Option Addr) (c11 : Nat) : Prop :=
  Blk wx xb 27 #[.int .i64 ag, .int .i64 h.kind, .int .i64 h.id, .int .i64 h.adv, .int .i64 h.seq, .int .i64 sm, .int .i64 lg, .slice A10 n c10, .slice A11 n' c11] ∧ wx.ownsRow w0.heap.size 53 4 (.slice A10 n c10) n (lkCells L) ∧ wx.ownsRow w0.heap.size 3 1 (.slice A11 n' c11) n' (M.map (Value.int .i64)) ∧ Below w0.heap.size w0 wx ∧ w0.heap.size ≤ xb
theorem ageA {w0 w : World} {h : Hd} {ag sm : Int} {lg n n' c10 c11 bs : Nat} {L : List Lk} {M : List Int} {A10 A11 : Option Addr} (ho : w.ownsRow bs 53 4 (.slice A10 n c10) n (lkCells L)) (ho' : w.ownsRow bs 3 1 (.slice A11 n' c11) n' (M.map (Value.int .i64))) (hbs : w0.heap.size ≤ bs) (hb : Below w0.heap.size w0 w) :
    AgeMid w0 h ag sm lg n L n' M (w.alloc (.cells #[.int .i64 ag, .int .i64 h.kind, .int .i64 h.id, .int .i64 h.adv, .int .i64 h.seq, .int .i64 sm, .int .i64 lg, .slice A10 n c10, .slice A11 n' c11] 27)) w.heap.size A10 c10 A11 c11 :=
  ⟨Blk.new w 27 _, own_low (ho.alloc _) hbs, own_low (ho'.alloc _) hbs, hb.alloc hb.size _, hb.size⟩
theorem ageB {w0 w : World} {h : Hd} {ag sm : Int} {lg n n' c10 c11 bs xb : Nat} {L : List Lk} {M : List Int} {A10 A11 : Option Addr} {z0 z1 z2 z3 z4 z5 z6 z7 z8 : Value} (hk : Blk w xb 27 #[z0, z1, z2, z3, z4, z5, z6, z7, z8]) (ho : w.ownsRow bs 53 4 (.slice A10 n c10) n (lkCells L)) (ho' : w.ownsRow bs 3 1 (.slice A11 n' c11) n' (M.map (Value.int .i64))) (hxb : xb < bs) (hge : w0.heap.size ≤ xb) (hb : Below w0.heap.size w0 w) :
    AgeMid w0 h ag sm lg n L n' M (((((((((w.setCell ⟨xb, 0, none⟩ (.int .i64 ag)).setCell ⟨xb, 1, none⟩ (.int .i64 h.kind)).setCell ⟨xb, 2, none⟩ (.int .i64 h.id)).setCell ⟨xb, 3, none⟩ (.int .i64 h.adv)).setCell ⟨xb, 4, none⟩ (.int .i64 h.seq)).setCell ⟨xb, 5, none⟩ (.int .i64 sm)).setCell ⟨xb, 6, none⟩ (.int .i64 lg)).setCell ⟨xb, 7, none⟩ (.slice A10 n c10)).setCell ⟨xb, 8, none⟩ (.slice A11 n' c11)) xb A10 c10 A11 c11 :=
  ⟨(by have h9 := (((((((((hk.put 0 (.int .i64 ag)).put 1 (.int .i64 h.kind)).put 2 (.int .i64 h.id)).put 3 (.int .i64 h.adv)).put 4 (.int .i64 h.seq)).put 5 (.int .i64 sm)).put 6 (.int .i64 lg)).put 7 (.slice A10 n c10)).put 8 (.slice A11 n' c11)); simp only [List.setIfInBounds_toArray, List.set_cons_zero, List.set_cons_succ] at h9; exact h9), own_low (own_set (own_set (own_set (own_set (own_set (own_set (own_set (own_set (own_set ho _ _ hxb) _ _ hxb) _ _ hxb) _ _ hxb) _ _ hxb) _ _ hxb) _ _ hxb) _ _ hxb) _ _ hxb) (by omega), own_low (own_set (own_set (own_set (own_set (own_set (own_set (own_set (own_set (own_set ho' _ _ hxb) _ _ hxb) _ _ hxb) _ _ hxb) _ _ hxb) _ _ hxb) _ _ hxb) _ _ hxb) _ _ hxb) (by omega), (((((((((hb.setCell hge _).setCell hge _).setCell hge _).setCell hge _).setCell hge _).setCell hge _).setCell hge _).setCell hge _).setCell hge _), hge⟩
theorem run_field27 (v0 v1 v2 v3 v4 v5 v6 v7 v8 : Value) (W : World) : (Instr.field 27 (.agg #[v0, v1, v2, v3, v4, v5, v6, v7, v8]) 0).run Try.prog W = .ok (.agg #[v0, v1, v2, v3, v4, v5, v6]) W := by kernel_rfl
theorem run_field23 (v0 v1 v2 v3 v4 v5 v6 : Value) (W : World) : (Instr.field 23 (.agg #[v0, v1, v2, v3, v4, v5, v6]) 5).run Try.prog W = .ok v5 W := by kernel_rfl
attribute [local go_sem ↓] Go.wp_at_zero Go.wp_at_succ
theorem keepW {w0 w' : World} (hb : Below w0.heap.size w0 w') : Below w0.heap.size w0 w' ∧ (∀ b o, b < w0.heap.size → w'.cell? ⟨b, o, none⟩ = w0.cell? ⟨b, o, none⟩) :=
  ⟨hb, fun b o h => hb.cell (p := ⟨b, o, none⟩) h⟩
/-- append of bytes, as one step of a region that draws; another block is kept. -/
theorem step_append_keep {ops : Array Oper} {o : Oper} {a : Act} {w : World} {K : Act → World → Prop} {Q : Exit → Act → World → Prop} {E : Prop} (hg : o.guard = none) (s x : Operand)
    (ho : o.op = .call { callee := .builtin .append, args := #[s, x], argTypes := #[28, 28] }) (w0 : World) (v : Value) (n : Nat) (L : List Int) (hs : a.eval s = v) (hacc : Acc w0 w v n L)
    (xb : Nat) (t : TypeId) (cs : Array Value) (hkeep : Keep w v xb t cs)
    (B : Nat) (A : Option Addr) (m c : Nat) (l : List Int) (hx : a.eval x = .slice A m c) (hr : Row .u8 w B A m l) (n' : Nat) (hn' : n + m = n') (hz : n' ≤ 1099511627776)
    (hK : ∀ v' w', Hid (Acc w0 w' v' n' (L ++ l)) → Hid (Keep w' v' xb t cs) → K (a.put o.dst v') w') : if Region.wanted o (yielded ops a.tmps) = true then Oper.wp Try.prog o a w K Q else E := by
  subst hn'
  have hw : Region.wanted o (yielded ops a.tmps) = true := by simp [Region.wanted, hg]
  rw [if_pos hw]
  obtain ⟨v', w', hrun, h1, h2, h3⟩ := run_append_row w w0.heap.size v n _ hacc.1 B A m c l hr hz hacc.2.size o.type
  unfold Oper.wp execOp
  simp only [ho, resolve, invoke, builtin, Sem.run_bind, Sem.run_pure, Result.andThen_ok, List.map_toArray, List.map_cons, List.map_nil, hs, hx, hrun]
  refine hK v' w' ⟨?_, ?_⟩ ⟨?_, ?_⟩
  · rw [List.map_append]; exact h1
  · exact hacc.2.grown h2 hacc.2.size (fun k hk => (hacc.1.lt k hk).1)
  · exact (h2.block xb hkeep.1.lt (fun e => hkeep.2 e.symm)).trans hkeep.1
  · rcases h3 with e | e
    · rw [e]; exact hkeep.2
    · rw [e]
      intro q
      injection q with q
      have := hkeep.1.lt
      omega
theorem step_append_acc {ops : Array Oper} {o : Oper} {a : Act} {w : World} {K : Act → World → Prop} {Q : Exit → Act → World → Prop} {E : Prop} (hg : o.guard = none) (s x : Operand)
    (ho : o.op = .call { callee := .builtin .append, args := #[s, x], argTypes := #[28, 28] }) (w0 : World) (v : Value) (n : Nat) (L : List Int) (hs : a.eval s = v) (hacc : Acc w0 w v n L)
    (B : Nat) (A : Option Addr) (m c : Nat) (l : List Int) (hx : a.eval x = .slice A m c) (hr : Row .u8 w B A m l) (n' : Nat) (hn' : n + m = n') (hz : n' ≤ 1099511627776)
    (hK : ∀ v' w', Hid (Acc w0 w' v' n' (L ++ l)) → K (a.put o.dst v') w') : if Region.wanted o (yielded ops a.tmps) = true then Oper.wp Try.prog o a w K Q else E := by
  subst hn'
  have hw : Region.wanted o (yielded ops a.tmps) = true := by simp [Region.wanted, hg]
  rw [if_pos hw]
  obtain ⟨v', w', hrun, h1, h2, h3⟩ := run_append_row w w0.heap.size v n _ hacc.1 B A m c l hr hz hacc.2.size o.type
  unfold Oper.wp execOp
  simp only [ho, resolve, invoke, builtin, Sem.run_bind, Sem.run_pure, Result.andThen_ok, List.map_toArray, List.map_cons, List.map_nil, hs, hx, hrun]
  refine hK v' w' ⟨?_, ?_⟩
  · rw [List.map_append]; exact h1
  · exact hacc.2.grown h2 hacc.2.size (fun k hk => (hacc.1.lt k hk).1)
/-- An empty slice that was laid out. -/
theorem acc_of {w0 w : World} {b : Nat} (hb : Below w0.heap.size w0 w) (hk : Blk w b 5 #[]) (hge : w0.heap.size ≤ b) : Acc w0 w (.slice (some ⟨b, 0, none⟩) 0 0) 0 [] :=
  ⟨⟨rfl, .inr ⟨b, 0, #[], rfl, hge, hk, Nat.le_refl _, by unfold maxLen; omega, rfl, rfl⟩⟩, hb⟩
theorem keep_of {w : World} {b xb : Nat} {t : TypeId} {cs : Array Value} (hk : Blk w xb t cs) (hne : b ≠ xb) : Keep w (.slice (some ⟨b, 0, none⟩) 0 0) xb t cs :=
  ⟨hk, fun e => by injection e with e; exact hne e⟩

set_option maxRecDepth 100000 in
set_option maxHeartbeats 8000000 in
theorem walk_yes (h : Hd) (A A' : Option Addr) (n c n' c' : Nat) (L : List Lk) (M : List Int) (ap : Int) (w : World) (hL : Lnk w w.heap.size A n L) (hM : Row .i64 w w.heap.size A' n' M) (hn50 : n ≤ 50) (hn50' : n' ≤ 50) (hr : rightB h L M = true) (ha0 : 0 ≤ ap) (ha1 : ap ≤ 255) :
    Calls Try.prog 7 #[.agg #[.int .i64 h.age, .int .i64 h.kind, .int .i64 h.id, .int .i64 h.adv, .int .i64 h.seq, .int .i64 h.sum, .int .i64 h.long, .slice A n c, .slice A' n' c'], .int .u8 ap] w fun e w' => e = .returned (.bool true) ∧ Below w.heap.size w w' := by
  obtain ⟨ag, hag⟩ : ∃ ag, ap % 61 = ag := ⟨_, rfl⟩
  have hag0 : 0 ≤ ag ∧ ag ≤ 60 := by omega
  have HR := Lib.hid hr
  have HR2 := Lib.hid (age_right hr ag hag0.1 hag0.2)
  obtain ⟨m, hm⟩ : ∃ m, (lsaBytes h L M).length = m := ⟨_, rfl⟩
  have hm20 : 20 ≤ m := by rw [← hm, lsaBytes_length]; omega
  have hm80 : m ≤ 80 := by have := body_small hr; rw [← hm, lsaBytes_length]; omega
  have Hm := Lib.hid hm
  have Hm2 := Lib.hid (show (lsaBytes { h with age := ag } L M).length = m by rw [(age_bytes h L M ag).2.1, hm])
  clear hr hm
  have K0 := Lib.hid (Blk.new w 27 #[.int .i64 h.age, .int .i64 h.kind, .int .i64 h.id, .int .i64 h.adv, .int .i64 h.seq, .int .i64 h.sum, .int .i64 h.long, .slice A n c, .slice A' n' c'])
  have B0 := Lib.hid ((Below.refl w.heap.size w).alloc (Nat.le_refl _) (.cells #[.int .i64 h.age, .int .i64 h.kind, .int .i64 h.id, .int .i64 h.adv, .int .i64 h.seq, .int .i64 h.sum, .int .i64 h.long, .slice A n c, .slice A' n' c'] 27))
  have HL0 := Lib.hid (hL.alloc (Nat.le_refl _) (.cells #[.int .i64 h.age, .int .i64 h.kind, .int .i64 h.id, .int .i64 h.adv, .int .i64 h.seq, .int .i64 h.sum, .int .i64 h.long, .slice A n c, .slice A' n' c'] 27))
  have HM0 := Lib.hid (hM.alloc (Nat.le_refl _) (.cells #[.int .i64 h.age, .int .i64 h.kind, .int .i64 h.id, .int .i64 h.adv, .int .i64 h.seq, .int .i64 h.sum, .int .i64 h.long, .slice A n c, .slice A' n' c'] 27))
  have HLL := Lib.hid hL.1
  have HML := Lib.hid hM.1
  clear hL hM
  go_enter Try.func7, Try.ntmps7
  go_wp2_with fail
  refine (wakes_any _).mono ?_
  rintro e1 w1 ⟨rfl, hbb⟩
  have K1 := Lib.hid (K0.out.below hbb (by simp))
  have B1 := Lib.hid (B0.out.trans (hbb.mono (by simp)))
  have HL1 := Lib.hid (HL0.out.below (hbb.mono (by simp)))
  have HM1 := Lib.hid (HM0.out.below (hbb.mono (by simp)))
  have hs1 := B1.out.size
  clear hbb K0 B0 HL0 HM0
  obtain ⟨k0, k1, k2, k3, k4, k5, k6, k7, k8⟩ := K1.out.nine
  go_wp2_with fail
  refine (long_no h A A' n c n' c' _ hn50 hn50').mono ?_
  rintro e2 w2 ⟨rfl, hb2⟩
  have K2 := Lib.hid (K1.out.below hb2 K1.out.lt)
  have B2 := Lib.hid (B1.out.trans (hb2.mono hs1))
  have HL2 := Lib.hid (HL1.out.below (hb2.mono hs1))
  have HM2 := Lib.hid (HM1.out.below (hb2.mono hs1))
  have hs2 := B2.out.size
  clear hb2 K1 B1 HL1 HM1 k0 k1 k2 k3 k4 k5 k6 k7 k8
  obtain ⟨k0, k1, k2, k3, k4, k5, k6, k7, k8⟩ := K2.out.nine
  go_wp2_with fail
  refine (lput_yes h L M A A' n c n' c' _ m _ HL2.out HM2.out hs2 hn50 hn50' HR.out Hm.out).mono ?_
  rintro e3 w3 ⟨v3, rfl, ha3⟩
  obtain ⟨g, cg, rfl, hcg, hcm, hg3, hg3', hr3⟩ := ha3.some (by omega)
  have hb3 := ha3.2
  have K3 := Lib.hid (K2.out.below hb3 K2.out.lt)
  have B3 := Lib.hid (B2.out.trans (hb3.mono hs2))
  have HL3 := Lib.hid (HL2.out.below (hb3.mono hs2))
  have HM3 := Lib.hid (HM2.out.below (hb3.mono hs2))
  have R3 := Lib.hid hr3
  have hs3 := B3.out.size
  have HCPY := Lib.hid (show w.heap.size < w3.heap.size from K3.out.lt)
  unfold maxLen at hcm
  clear ha3 hr3 hb3 K2 B2 HL2 HM2 k0 k1 k2 k3 k4 k5 k6 k7 k8
  obtain ⟨k0, k1, k2, k3, k4, k5, k6, k7, k8⟩ := K3.out.nine
  go_wp2_with fail
  have KM3 := Lib.hid (Blk.new w3 27 #[.int .i64 ag, .int .i64 h.kind, .int .i64 h.id, .int .i64 h.adv, .int .i64 h.seq, .int .i64 h.sum, .int .i64 h.long, .slice A n c, .slice A' n' c'])
  refine (lput_yes { h with age := ag } L M A A' n c n' c' _ m _ (HL3.out.alloc hs3 _) (HM3.out.alloc hs3 _) (by simp; omega) hn50 hn50' HR2.out Hm2.out).mono ?_
  rintro e4 w4 ⟨v4, rfl, ha4⟩
  obtain ⟨gc, cc, rfl, hcc, hccm, hg4, hg4', hr4⟩ := ha4.some (by omega)
  have hb4 := ha4.2
  have K4 := Lib.hid ((K3.out.alloc _).below hb4 (by have := K3.out.lt; simp; omega))
  have KM4 := Lib.hid (KM3.out.below hb4 (by simp))
  have B4 := Lib.hid ((B3.out.alloc hs3 _).trans (hb4.mono (by simp; omega)))
  have HL4 := Lib.hid ((HL3.out.alloc hs3 _).below (hb4.mono (by simp; omega)))
  have HM4 := Lib.hid ((HM3.out.alloc hs3 _).below (hb4.mono (by simp; omega)))
  have R4 := Lib.hid ((R3.out.alloc (Nat.le_refl _) _).below (hb4.mono (by simp)))
  have RC4 := Lib.hid hr4
  have hs4 := B4.out.size
  have hs34 : w3.heap.size < w4.heap.size := KM4.out.lt
  have hcpy := HCPY.out
  unfold maxLen at hccm
  clear ha4 hr4 hb4 K3 KM3 B3 HL3 HM3 R3 k0 k1 k2 k3 k4 k5 k6 k7 k8 hag
  go_upto_region 11 with fail
  have i1 : (2 : Int) ≤ (m : Int) := by omega
  have i2 : (m : Int) ≤ (cg : Int) := by omega
  have i3 : (m : Int) ≤ (cc : Int) := by omega
  have i6 : (2 : Int) ≤ (cc : Int) := by omega
  have i7 : (2 : Int) ≤ (cg : Int) := by omega
  have i4 : ¬ cg = 2 := by omega
  have i5 : ¬ cc = 2 := by omega
  have hF : (lsaBytes { h with age := ag } L M).drop 2 = (lsaBytes h L M).drop 2 := (age_bytes h L M ag).1
  have RB2 := Lib.hid (show Row .u8 w4 w4.heap.size (some ⟨g, 2, none⟩) (m - 2) ((lsaBytes h L M).drop 2) by
    have h1 := cut_some _ _ 2 (m - 2) (by omega) _ _ _ _ (R4.out.more (B' := w4.heap.size) (by omega))
    rw [List.take_of_length_le (by rw [List.length_drop, Hm.out]; omega)] at h1
    exact h1)
  have RC2 := Lib.hid (show Row .u8 w4 w4.heap.size (some ⟨gc, 2, none⟩) (m - 2) ((lsaBytes h L M).drop 2) by
    have h1 := cut_some _ _ 2 (m - 2) (by omega) _ _ _ _ RC4.out
    rw [List.take_of_length_le (by rw [List.length_drop, Hm2.out]; omega), hF] at h1
    exact h1)
  have RC1 := Lib.hid (RC4.out.head 2 (by omega))
  clear hF R4 RC4
  go_quiet ((go_at_call 16; exact Calls.quiet_of (same_yes _ _ (m - 2) _ _ _ _ _ _ (RB2.out.drewN _) (RC2.out.drewN _) (by unfold maxLen; omega))))
  have K5 := Lib.hid (K4.out.drewN nq)
  have KM5 := Lib.hid (KM4.out.drewN nq)
  have B5 := Lib.hid (below_drewN B4.out nq)
  have HL5 := Lib.hid (show Lnk (w4.drewN nq) w.heap.size A n L from HL4.out)
  have HM5 := Lib.hid (show Row .i64 (w4.drewN nq) w.heap.size A' n' M from HM4.out)
  have RB5 := Lib.hid (show Row .u8 (w4.drewN nq) (w4.drewN nq).heap.size (some ⟨g, 2, none⟩) (m - 2) ((lsaBytes h L M).drop 2) from RB2.out)
  have RC5 := Lib.hid (show Row .u8 (w4.drewN nq) (w4.drewN nq).heap.size (some ⟨gc, 0, none⟩) 2 ((lsaBytes { h with age := ag } L M).take 2) from RC1.out)
  have hlt5 : w3.heap.size < (w4.drewN nq).heap.size := hs34
  have hs5 : w.heap.size ≤ (w4.drewN nq).heap.size := hs4
  clear K4 KM4 B4 HL4 HM4 RB2 RC2 RC1 hs34 hs4
  generalize w4.drewN nq = w0 at *
  go_upto_region 13 with fail
  have BR : Below w0.heap.size w0 w0.drew := ⟨rfl, rfl, rfl, Nat.le_refl _, fun _ _ => rfl⟩
  have BR2 : ∀ o, Below w0.heap.size w0 (w0.alloc o).drew := fun o => below_drewN ((Below.refl _ _).alloc (Nat.le_refl _) o) 1
  have BR3 : ∀ o o', Below w0.heap.size w0 ((w0.alloc o).alloc o').drew := fun o o' => below_drewN (((Below.refl _ _).alloc (Nat.le_refl _) o).alloc (by simp) o') 1
  have hz80 : m ≤ 1099511627776 := by omega
  have hz2 : (2 : Nat) ≤ 1099511627776 := by omega
  have hmz : m ≤ 1048576 := by omega
  have h2m : 2 + (m - 2) = m := by omega
  have HGT := Lib.hid (show gErr (lsaBytes { h with age := ag } L M) = 0 ∧ gHead (lsaBytes { h with age := ag } L M) = ⟨ag, h.kind, h.id, h.adv, h.seq, lsaSum h L M, (m : Int)⟩ ∧ gLinks (lsaBytes { h with age := ag } L M) = L ∧ gMembers (lsaBytes { h with age := ag } L M) = M by
    have h1 := get_put HR2.out []
    rw [List.append_nil] at h1
    refine ⟨h1.1, ?_, h1.2.2⟩
    rw [h1.2.1]
    unfold sealHd
    rw [(age_bytes h L M ag).2.2]
    have h2 := lsaBytes_length { h with age := ag } L M
    rw [Hm2.out] at h2
    congr 1
    omega)
  have HJ := Lib.hid (age_join h L M ag)
  have HYB := Lib.hid (lsaBytes_byt { h with age := ag } L M)
  go_cut [10, 11] (fun s10 s11 wx => ∃ (xb : Nat) (A10 A11 : Option Addr) (c10 c11 : Nat), s10 = .pointer (some ⟨xb, 0, none⟩) ∧ s11 = .int .i64 0 ∧ Hid (AgeMid w0 h ag (lsaSum h L M) m n L n' M wx xb A10 c10 A11 c11))
  case first =>
    go_region_held3 (fun w' => Below w0.heap.size w0 w' ∧ (∀ b o, b < w0.heap.size → w'.cell? ⟨b, o, none⟩ = w0.cell? ⟨b, o, none⟩)) ((refine keepW ?_; first | with_reducible exact BR | with_reducible exact BR2 _ | with_reducible exact BR3 _ _ | with_reducible exact hB3 | with_reducible exact hA2 | with_reducible exact hA1 | with_reducible exact hB3.alloc hB3.size _ | with_reducible exact hA2.alloc hA2.size _ | with_reducible exact hA1.alloc hA1.size _ | with_reducible exact (((((((((hB3.setCell (Nat.le_refl _) _).setCell (Nat.le_refl _) _).setCell (Nat.le_refl _) _).setCell (Nat.le_refl _) _).setCell (Nat.le_refl _) _).setCell (Nat.le_refl _) _).setCell (Nat.le_refl _) _).setCell (Nat.le_refl _) _).setCell (Nat.le_refl _) _) | with_reducible exact (((((((((hB3.setCell (Nat.le_succ _) _).setCell (Nat.le_succ _) _).setCell (Nat.le_succ _) _).setCell (Nat.le_succ _) _).setCell (Nat.le_succ _) _).setCell (Nat.le_succ _) _).setCell (Nat.le_succ _) _).setCell (Nat.le_succ _) _).setCell (Nat.le_succ _) _) | with_reducible exact (((((((((hB3.setCell hA1.size _).setCell hA1.size _).setCell hA1.size _).setCell hA1.size _).setCell hA1.size _).setCell hA1.size _).setCell hA1.size _).setCell hA1.size _).setCell hA1.size _) | with_reducible exact (((((((((hB3.setCell hA2.size _).setCell hA2.size _).setCell hA2.size _).setCell hA2.size _).setCell hA2.size _).setCell hA2.size _).setCell hA2.size _).setCell hA2.size _).setCell hA2.size _)))
      (first
        | (refine step_append_keep (by rfl) (.tmp 55) (.tmp 57) (by rfl) w0 _ 0 [] (by rfl) (acc_of (And.left ‹_›) (blk_new1 w0 (.cells #[.int .i64 0, .int .i64 0, .int .i64 0, .int .i64 0, .int .i64 0, .int .i64 0, .int .i64 0, .slice none 0 0, .slice none 0 0] 27) 5 #[]) (Nat.le_succ _)) w0.heap.size 27 #[.int .i64 0, .int .i64 0, .int .i64 0, .int .i64 0, .int .i64 0, .int .i64 0, .int .i64 0, .slice none 0 0, .slice none 0 0] (keep_of ((Blk.new w0 27 #[.int .i64 0, .int .i64 0, .int .i64 0, .int .i64 0, .int .i64 0, .int .i64 0, .int .i64 0, .slice none 0 0, .slice none 0 0]).alloc (.cells #[] 5)) (Nat.succ_ne_self _)) _ (some ⟨gc, 0, none⟩) 2 cc _ (by rfl) (RC5.out.below (And.left ‹_›)) 2 rfl hz2 ?_; intro v1 w1 ha1 hk1; have hA1 := ha1.out.2)
        | (refine step_append_keep (by rfl) (.tmp 55) (.tmp 57) (by rfl) w0 _ 0 [] (by rfl) (acc_of (And.left ‹_›) ((Blk.new w0 5 #[]).alloc (.cells #[.int .i64 0, .int .i64 0, .int .i64 0, .int .i64 0, .int .i64 0, .int .i64 0, .int .i64 0, .slice none 0 0, .slice none 0 0] 27)) (Nat.le_refl _)) (w0.heap.size + 1) 27 #[.int .i64 0, .int .i64 0, .int .i64 0, .int .i64 0, .int .i64 0, .int .i64 0, .int .i64 0, .slice none 0 0, .slice none 0 0] (keep_of (blk_new1 w0 (.cells #[] 5) 27 #[.int .i64 0, .int .i64 0, .int .i64 0, .int .i64 0, .int .i64 0, .int .i64 0, .int .i64 0, .slice none 0 0, .slice none 0 0]) (Nat.ne_of_lt (Nat.lt_succ_self _))) _ (some ⟨gc, 0, none⟩) 2 cc _ (by rfl) (RC5.out.below (And.left ‹_›)) 2 rfl hz2 ?_; intro v1 w1 ha1 hk1; have hA1 := ha1.out.2)
        | (refine step_append_acc (by rfl) (.tmp 55) (.tmp 57) (by rfl) w0 _ 0 [] (by rfl) (acc_of (And.left ‹_›) (Blk.new w0 5 #[]) (Nat.le_refl _)) _ (some ⟨gc, 0, none⟩) 2 cc _ (by rfl) (RC5.out.below (And.left ‹_›)) 2 rfl hz2 ?_; intro v1 w1 ha1; have hA1 := ha1.out.2)
        | (refine step_append_keep (by rfl) (.tmp 58) (.tmp 60) (by rfl) w0 v1 2 _ (by rfl) ha1.out _ 27 #[.int .i64 0, .int .i64 0, .int .i64 0, .int .i64 0, .int .i64 0, .int .i64 0, .int .i64 0, .slice none 0 0, .slice none 0 0] hk1.out _ (some ⟨g, 2, none⟩) (m - 2) (cg - 2) _ (by rfl) (RB5.out.below (And.left ‹_›)) m h2m hz80 ?_; intro v2 w2 ha2 hk2; have hA2 := ha2.out.2; obtain ⟨A2, c2, rfl, hc2, hm2, hr2⟩ := ha2.out.form; rw [List.nil_append, HJ.out] at hr2)
        | (refine step_append_keep (by rfl) (.tmp 58) (.tmp 60) (by rfl) w0 v1 2 _ (by rfl) (ha1.out.alloc (.cells #[.int .i64 0, .int .i64 0, .int .i64 0, .int .i64 0, .int .i64 0, .int .i64 0, .int .i64 0, .slice none 0 0, .slice none 0 0] 27)) w1.heap.size 27 #[.int .i64 0, .int .i64 0, .int .i64 0, .int .i64 0, .int .i64 0, .int .i64 0, .int .i64 0, .slice none 0 0, .slice none 0 0] (keep_new ha1.out 27 #[.int .i64 0, .int .i64 0, .int .i64 0, .int .i64 0, .int .i64 0, .int .i64 0, .int .i64 0, .slice none 0 0, .slice none 0 0]) _ (some ⟨g, 2, none⟩) (m - 2) (cg - 2) _ (by rfl) (RB5.out.below (And.left ‹_›)) m h2m hz80 ?_; intro v2 w2 ha2 hk2; have hA2 := ha2.out.2; obtain ⟨A2, c2, rfl, hc2, hm2, hr2⟩ := ha2.out.form; rw [List.nil_append, HJ.out] at hr2)
        | (refine step_append_acc (by rfl) (.tmp 58) (.tmp 60) (by rfl) w0 v1 2 _ (by rfl) ha1.out _ (some ⟨g, 2, none⟩) (m - 2) (cg - 2) _ (by rfl) (RB5.out.below (And.left ‹_›)) m h2m hz80 ?_; intro v2 w2 ha2; have hA2 := ha2.out.2; obtain ⟨A2, c2, rfl, hc2, hm2, hr2⟩ := ha2.out.form; rw [List.nil_append, HJ.out] at hr2)
        | (go_at_call 15; (with_reducible refine (get_any A2 m c2 _ (lsaBytes { h with age := ag } L M) w2 hr2 HYB.out (Nat.le_refl _) hmz hc2 hm2).mono ?_); rintro e3 w3' ⟨A10, n10, c10, A11, n11, c11, rfl, hoA, hqA, hoB, hqB, hb3⟩; have hB3 := Below.trans (And.left ‹_›) (hb3.mono (Below.size (And.left ‹_›))); rw [HGT.out.1, HGT.out.2.1]; rw [HGT.out.2.2.1] at hoA hqA; rw [HGT.out.2.2.2] at hoB hqB; obtain rfl : n = n10 := HLL.out.symm.trans hqA; obtain rfl : n' = n11 := HML.out.symm.trans hqB; have hkx := hk2.out.1.below hb3 hk2.out.1.lt; obtain ⟨a0, a1, a2, a3, a4, a5, a6, a7, a8⟩ := hkx.nine; obtain ⟨g0, g1, g2, g3, g4, g5, g6, g7, g8⟩ := hkx.nineF)
        | (go_at_call 15; (with_reducible refine (get_any A2 m c2 _ (lsaBytes { h with age := ag } L M) (w2.alloc (.cells #[.int .i64 0, .int .i64 0, .int .i64 0, .int .i64 0, .int .i64 0, .int .i64 0, .int .i64 0, .slice none 0 0, .slice none 0 0] 27)) (hr2.alloc (Nat.le_refl _) _) HYB.out (Below.size ((Below.refl _ _).alloc (Nat.le_refl _) _)) hmz hc2 hm2).mono ?_); rintro e3 w3' ⟨A10, n10, c10, A11, n11, c11, rfl, hoA, hqA, hoB, hqB, hb3⟩; have hB3 := Below.trans (And.left ‹_›) (hb3.mono (Below.size (And.left ‹_›))); rw [HGT.out.1, HGT.out.2.1]; rw [HGT.out.2.2.1] at hoA hqA; rw [HGT.out.2.2.2] at hoB hqB; obtain rfl : n = n10 := HLL.out.symm.trans hqA; obtain rfl : n' = n11 := HML.out.symm.trans hqB; have hkx := (Blk.new w2 27 #[.int .i64 0, .int .i64 0, .int .i64 0, .int .i64 0, .int .i64 0, .int .i64 0, .int .i64 0, .slice none 0 0, .slice none 0 0]).below hb3 (Blk.new w2 27 #[.int .i64 0, .int .i64 0, .int .i64 0, .int .i64 0, .int .i64 0, .int .i64 0, .int .i64 0, .slice none 0 0, .slice none 0 0]).lt; obtain ⟨a0, a1, a2, a3, a4, a5, a6, a7, a8⟩ := hkx.nine; obtain ⟨g0, g1, g2, g3, g4, g5, g6, g7, g8⟩ := hkx.nineF)
        | (go_at_call 15; (with_reducible refine (get_any A2 m c2 _ (lsaBytes { h with age := ag } L M) w2 hr2 HYB.out (Nat.le_refl _) hmz hc2 hm2).mono ?_); rintro e3 w3' ⟨A10, n10, c10, A11, n11, c11, rfl, hoA, hqA, hoB, hqB, hb3⟩; have hB3 := Below.trans (And.left ‹_›) (hb3.mono (Below.size (And.left ‹_›))); rw [HGT.out.1, HGT.out.2.1]; rw [HGT.out.2.2.1] at hoA hqA; rw [HGT.out.2.2.2] at hoB hqB; obtain rfl : n = n10 := HLL.out.symm.trans hqA; obtain rfl : n' = n11 := HML.out.symm.trans hqB))
    · have H1 := Lib.hid (ageA (w0 := w0) (h := h) (ag := ag) (sm := lsaSum h L M) (lg := m) hoA hoB hA2.size hB3)
      clear hoA hoB hb3
      go_wp2_with fail
      go_meet
      exact ⟨_, _, _, _, _, rfl, rfl, H1⟩
    · have H1 := Lib.hid (ageB (w0 := w0) (h := h) (ag := ag) (sm := lsaSum h L M) (lg := m) hkx hoA hoB (Blk.new w2 27 #[.int .i64 0, .int .i64 0, .int .i64 0, .int .i64 0, .int .i64 0, .int .i64 0, .int .i64 0, .slice none 0 0, .slice none 0 0]).lt hA2.size hB3)
      clear hoA hoB hb3 hkx a0 a1 a2 a3 a4 a5 a6 a7 a8 g0 g1 g2 g3 g4 g5 g6 g7 g8
      go_wp2_with fail
      go_meet
      exact ⟨_, _, _, _, _, rfl, rfl, H1⟩
    · have H1 := Lib.hid (ageB (w0 := w0) (h := h) (ag := ag) (sm := lsaSum h L M) (lg := m) hkx hoA hoB hk2.out.1.lt hA1.size hB3)
      clear hoA hoB hb3 hkx a0 a1 a2 a3 a4 a5 a6 a7 a8 g0 g1 g2 g3 g4 g5 g6 g7 g8
      go_wp2_with fail
      go_meet
      exact ⟨_, _, _, _, _, rfl, rfl, H1⟩
    · have H1 := Lib.hid (ageB (w0 := w0) (h := h) (ag := ag) (sm := lsaSum h L M) (lg := m) hkx hoA hoB hk2.out.1.lt (Nat.le_succ _) hB3)
      clear hoA hoB hb3 hkx a0 a1 a2 a3 a4 a5 a6 a7 a8 g0 g1 g2 g3 g4 g5 g6 g7 g8
      go_wp2_with fail
      go_meet
      exact ⟨_, _, _, _, _, rfl, rfl, H1⟩
    · have H1 := Lib.hid (ageB (w0 := w0) (h := h) (ag := ag) (sm := lsaSum h L M) (lg := m) hkx hoA hoB hk2.out.1.lt (Nat.le_refl _) hB3)
      clear hoA hoB hb3 hkx a0 a1 a2 a3 a4 a5 a6 a7 a8 g0 g1 g2 g3 g4 g5 g6 g7 g8
      go_wp2_with fail
      go_meet
      exact ⟨_, _, _, _, _, rfl, rfl, H1⟩
  case rest =>
    obtain ⟨xb, A10, A11, c10, c11, rfl, rfl, hmid⟩ := hcut
    obtain ⟨q1, q2, q3, q4, q5⟩ := hmid.out
    obtain ⟨sm, hsm⟩ : ∃ sm, lsaSum h L M = sm := ⟨_, rfl⟩
    rw [hsm] at q1
    have HSH := Lib.hid (show sealHd h L M = ⟨h.age, h.kind, h.id, h.adv, h.seq, sm, (m : Int)⟩ by
      unfold sealHd
      rw [hsm]
      have h2 := lsaBytes_length h L M
      rw [Hm.out] at h2
      congr 1
      omega)
    have hsz := q4.size
    have hw3 : w3.heap.size < wc.heap.size := by omega
    have hw3' : w.heap.size ≤ w3.heap.size := hs3
    have hxne : xb ≠ w3.heap.size := by omega
    have KXc := Lib.hid q1
    have KPc := Lib.hid (K5.out.below q4 K5.out.lt)
    have KMc := Lib.hid (KM5.out.below q4 KM5.out.lt)
    have BPc := Lib.hid (B5.out.trans (q4.mono hs5))
    have HLc := Lib.hid (HL5.out.below (q4.mono hs5))
    have HMc := Lib.hid (HM5.out.below (q4.mono hs5))
    have OAc := Lib.hid q2
    have OBc := Lib.hid q3
    have hpne : w.heap.size ≠ w3.heap.size := by
      intro e
      have := hcpy
      omega
    clear hmid q1 q2 q3 q4 q5 hsm K5 KM5 B5 HL5 HM5 RB5 RC5 BR BR2 BR3 HGT HJ HYB
    obtain ⟨-, -, -, -, -, x5, -, -, -⟩ := KXc.out.nine
    obtain ⟨-, -, -, -, -, t5, t6, -, -⟩ := KMc.out.nine
    have f5 := KMc.out.frozen 5
    have f6 := KMc.out.frozen 6
    go_upto_region 15 with fail
    have KX := Lib.hid (show Blk ((wc.setCell ⟨w3.heap.size, 5, none⟩ (.int .i64 sm)).setCell ⟨w3.heap.size, 6, none⟩ (.int .i64 (m : Int))) xb 27 #[.int .i64 ag, .int .i64 h.kind, .int .i64 h.id, .int .i64 h.adv, .int .i64 h.seq, .int .i64 sm, .int .i64 (m : Int), .slice A10 n c10, .slice A11 n' c11] from (KXc.out.far hxne _).far hxne _)
    have KP := Lib.hid (show Blk ((wc.setCell ⟨w3.heap.size, 5, none⟩ (.int .i64 sm)).setCell ⟨w3.heap.size, 6, none⟩ (.int .i64 (m : Int))) w.heap.size 27 #[.int .i64 h.age, .int .i64 h.kind, .int .i64 h.id, .int .i64 h.adv, .int .i64 h.seq, .int .i64 h.sum, .int .i64 h.long, .slice A n c, .slice A' n' c'] from (KPc.out.far hpne _).far hpne _)
    have KM := Lib.hid (show Blk ((wc.setCell ⟨w3.heap.size, 5, none⟩ (.int .i64 sm)).setCell ⟨w3.heap.size, 6, none⟩ (.int .i64 (m : Int))) w3.heap.size 27 #[.int .i64 ag, .int .i64 h.kind, .int .i64 h.id, .int .i64 h.adv, .int .i64 h.seq, .int .i64 sm, .int .i64 (m : Int), .slice A n c, .slice A' n' c'] from (KMc.out.put 5 _).put 6 _)
    have BP := Lib.hid (show Below w.heap.size w ((wc.setCell ⟨w3.heap.size, 5, none⟩ (.int .i64 sm)).setCell ⟨w3.heap.size, 6, none⟩ (.int .i64 (m : Int))) from (BPc.out.setCell hw3' _).setCell hw3' _)
    have BS := ((Below.refl w.heap.size wc).setCell (p := ⟨w3.heap.size, 5, none⟩) hw3' (.int .i64 sm)).setCell (p := ⟨w3.heap.size, 6, none⟩) hw3' (.int .i64 (m : Int))
    have HLP := Lib.hid ((HLc.out.below BS).more (B' := (((wc.setCell ⟨w3.heap.size, 5, none⟩ (.int .i64 sm)).setCell ⟨w3.heap.size, 6, none⟩ (.int .i64 (m : Int)))).heap.size) BP.out.size)
    have HMP := Lib.hid ((HMc.out.below BS).more (B' := (((wc.setCell ⟨w3.heap.size, 5, none⟩ (.int .i64 sm)).setCell ⟨w3.heap.size, 6, none⟩ (.int .i64 (m : Int)))).heap.size) BP.out.size)
    obtain ⟨_, _, e1, -, -, hlx⟩ := lnk_of_own (own_set (own_set OAc.out ⟨w3.heap.size, 5, none⟩ (.int .i64 sm) hlt5) ⟨w3.heap.size, 6, none⟩ (.int .i64 (m : Int)) hlt5) HLL.out
    obtain ⟨_, _, e2, -, -, hmx⟩ := row_of_ints (own_set (own_set OBc.out ⟨w3.heap.size, 5, none⟩ (.int .i64 sm) hlt5) ⟨w3.heap.size, 6, none⟩ (.int .i64 (m : Int)) hlt5) HML.out
    injection e1 with e1 _ e1'
    injection e2 with e2 _ e2'
    subst e1 e1' e2 e2'
    have HLX := Lib.hid hlx
    have HMX := Lib.hid hmx
    clear hlx hmx BS KXc KPc KMc BPc HLc HMc OAc OBc x5 t5 t6 f5 f6
    generalize ((wc.setCell ⟨w3.heap.size, 5, none⟩ (.int .i64 sm)).setCell ⟨w3.heap.size, 6, none⟩ (.int .i64 (m : Int))) = wz at *
    have hxlt := KX.out.lt
    have hplt := KP.out.lt
    have hmlt := KM.out.lt
    obtain ⟨p0, p1, p2, p3, p4, p5, p6, p7, p8⟩ := KP.out.nine
    obtain ⟨t0, t1, t2, t3, t4, t5, t6, t7, t8⟩ := KM.out.nine
    obtain ⟨x0, x1, x2, x3, x4, x5, x6, x7, x8⟩ := KX.out.nine
    have hsz' := BP.out.size
    have hf27 := run_field27
    have hf23 := run_field23
    have BRz : Below wz.heap.size wz wz.drew := ⟨rfl, rfl, rfl, Nat.le_refl _, fun _ _ => rfl⟩
    clear KX KP KM
    go_region_held3  (fun w' => Below wz.heap.size wz w' ∧ (∀ b o, b < wz.heap.size → w'.cell? ⟨b, o, none⟩ = wz.cell? ⟨b, o, none⟩)) ((refine keepW ?_; first | with_reducible exact BRz | with_reducible exact hB2 | with_reducible exact hB1))
      (first
        | (go_at_call 18; (with_reducible refine (refSame_yes ⟨ag, h.kind, h.id, h.adv, h.seq, sm, (m : Int)⟩ L M A10 A11 A A' n c10 n' c11 c c' _ _ _ (HLX.out.below (And.left ‹_›)) (HMX.out.below (And.left ‹_›)) (HLP.out.below (And.left ‹_›)) (HMP.out.below (And.left ‹_›)) (Below.size (And.left ‹_›)) (Below.size (And.left ‹_›)) (by unfold maxLen; omega) (by unfold maxLen; omega)).mono ?_); rintro ed wd ⟨rfl, hbd⟩; have hB1 := Below.trans (And.left ‹_›) (hbd.mono (Below.size (And.left ‹_›))))
        | (go_at_call 14; (with_reducible refine (seal_any h L M A A' n c n' c' _ _ (HLP.out.below (And.left ‹_›)) (HMP.out.below (And.left ‹_›)) (Below.size (And.left ‹_›)) hn50 hn50').mono ?_); rintro eb wb ⟨AL, nL, cL, AI, nI, cI, rfl, hoL, hqL, hoI, hqI, hbb⟩; have hB2 := Below.trans (And.left ‹_›) (hbb.mono (Below.size (And.left ‹_›))); rw [HR.out, if_pos rfl, HSH.out]))
    all_goals
      go_wp2
      go_ret
      exact ⟨rfl, BP.out.trans (hB2.mono hsz')⟩
set_option maxRecDepth 100000 in
set_option maxHeartbeats 8000000 in
theorem walk (h : Hd) (A A' : Option Addr) (n c n' c' : Nat) (L : List Lk) (M : List Int) (ap : Int) (w : World) (hL : Lnk w w.heap.size A n L) (hM : Row .i64 w w.heap.size A' n' M) (hn : n ≤ maxLen) (hn' : n' ≤ maxLen) (ha0 : 0 ≤ ap) (ha1 : ap ≤ 255) :
    Calls Try.prog 7 #[.agg #[.int .i64 h.age, .int .i64 h.kind, .int .i64 h.id, .int .i64 h.adv, .int .i64 h.seq, .int .i64 h.sum, .int .i64 h.long, .slice A n c, .slice A' n' c'], .int .u8 ap] w fun e w' => e = .returned (.bool true) ∧ Below w.heap.size w w' := by
  by_cases hlg : 50 < n ∨ 50 < n'
  · have HN := Lib.hid hn
    have HN' := Lib.hid hn'
    unfold maxLen at hn hn'
    have K0 := Lib.hid (Blk.new w 27 #[.int .i64 h.age, .int .i64 h.kind, .int .i64 h.id, .int .i64 h.adv, .int .i64 h.seq, .int .i64 h.sum, .int .i64 h.long, .slice A n c, .slice A' n' c'])
    have B0 := Lib.hid ((Below.refl w.heap.size w).alloc (Nat.le_refl _) (.cells #[.int .i64 h.age, .int .i64 h.kind, .int .i64 h.id, .int .i64 h.adv, .int .i64 h.seq, .int .i64 h.sum, .int .i64 h.long, .slice A n c, .slice A' n' c'] 27))
    have HL0 := Lib.hid (hL.alloc (Nat.le_refl _) (.cells #[.int .i64 h.age, .int .i64 h.kind, .int .i64 h.id, .int .i64 h.adv, .int .i64 h.seq, .int .i64 h.sum, .int .i64 h.long, .slice A n c, .slice A' n' c'] 27))
    have HM0 := Lib.hid (hM.alloc (Nat.le_refl _) (.cells #[.int .i64 h.age, .int .i64 h.kind, .int .i64 h.id, .int .i64 h.adv, .int .i64 h.seq, .int .i64 h.sum, .int .i64 h.long, .slice A n c, .slice A' n' c'] 27))
    have HLL := Lib.hid hL.1
    have HML := Lib.hid hM.1
    clear hL hM
    go_enter Try.func7, Try.ntmps7
    go_wp2_with fail
    refine (wakes_any _).mono ?_
    rintro e1 w1 ⟨rfl, hbb⟩
    have K1 := Lib.hid (K0.out.below hbb (by simp))
    have B1 := Lib.hid (B0.out.trans (hbb.mono (by simp)))
    have HL1 := Lib.hid (HL0.out.below (hbb.mono (by simp)))
    have HM1 := Lib.hid (HM0.out.below (hbb.mono (by simp)))
    have hs1 := B1.out.size
    clear hbb K0 B0 HL0 HM0
    obtain ⟨k0, k1, k2, k3, k4, k5, k6, k7, k8⟩ := K1.out.nine
    go_wp2_with fail
    refine (long_yes h A A' n c n' c' _ HN.out HN'.out hlg).mono ?_
    rintro e2 w2 ⟨rfl, hb2⟩
    have B2 := Lib.hid (B1.out.trans (hb2.mono hs1))
    clear hb2 hlg
    go_wp2
    go_ret
    exact ⟨rfl, B2.out⟩
  · have hn50 : n ≤ 50 := by omega
    have hn50' : n' ≤ 50 := by omega
    clear hlg hn hn'
    cases hr : rightB h L M
    · have HR := Lib.hid hr
      clear hr
      have K0 := Lib.hid (Blk.new w 27 #[.int .i64 h.age, .int .i64 h.kind, .int .i64 h.id, .int .i64 h.adv, .int .i64 h.seq, .int .i64 h.sum, .int .i64 h.long, .slice A n c, .slice A' n' c'])
      have B0 := Lib.hid ((Below.refl w.heap.size w).alloc (Nat.le_refl _) (.cells #[.int .i64 h.age, .int .i64 h.kind, .int .i64 h.id, .int .i64 h.adv, .int .i64 h.seq, .int .i64 h.sum, .int .i64 h.long, .slice A n c, .slice A' n' c'] 27))
      have HL0 := Lib.hid (hL.alloc (Nat.le_refl _) (.cells #[.int .i64 h.age, .int .i64 h.kind, .int .i64 h.id, .int .i64 h.adv, .int .i64 h.seq, .int .i64 h.sum, .int .i64 h.long, .slice A n c, .slice A' n' c'] 27))
      have HM0 := Lib.hid (hM.alloc (Nat.le_refl _) (.cells #[.int .i64 h.age, .int .i64 h.kind, .int .i64 h.id, .int .i64 h.adv, .int .i64 h.seq, .int .i64 h.sum, .int .i64 h.long, .slice A n c, .slice A' n' c'] 27))
      have HLL := Lib.hid hL.1
      have HML := Lib.hid hM.1
      clear hL hM
      go_enter Try.func7, Try.ntmps7
      go_wp2_with fail
      refine (wakes_any _).mono ?_
      rintro e1 w1 ⟨rfl, hbb⟩
      have K1 := Lib.hid (K0.out.below hbb (by simp))
      have B1 := Lib.hid (B0.out.trans (hbb.mono (by simp)))
      have HL1 := Lib.hid (HL0.out.below (hbb.mono (by simp)))
      have HM1 := Lib.hid (HM0.out.below (hbb.mono (by simp)))
      have hs1 := B1.out.size
      clear hbb K0 B0 HL0 HM0
      obtain ⟨k0, k1, k2, k3, k4, k5, k6, k7, k8⟩ := K1.out.nine
      go_wp2_with fail
      refine (long_no h A A' n c n' c' _ hn50 hn50').mono ?_
      rintro e2 w2 ⟨rfl, hb2⟩
      have K2 := Lib.hid (K1.out.below hb2 K1.out.lt)
      have B2 := Lib.hid (B1.out.trans (hb2.mono hs1))
      have HL2 := Lib.hid (HL1.out.below (hb2.mono hs1))
      have HM2 := Lib.hid (HM1.out.below (hb2.mono hs1))
      have hs2 := B2.out.size
      clear hb2 K1 B1 HL1 HM1 k0 k1 k2 k3 k4 k5 k6 k7 k8
      obtain ⟨k0, k1, k2, k3, k4, k5, k6, k7, k8⟩ := K2.out.nine
      go_wp2_with fail
      refine (lput_no h L M A A' n c n' c' _ _ HL2.out HM2.out hs2 hn50 hn50' HR.out).mono ?_
      rintro e3 w3 ⟨rfl, hb3⟩
      have B3 := Lib.hid (B2.out.trans (hb3.mono hs2))
      clear hb3 k0 k1 k2 k3 k4 k5 k6 k7 k8
      go_wp2
      go_ret
      exact ⟨rfl, B3.out⟩
    · exact walk_yes h A A' n c n' c' L M ap w hL hM hn50 hn50' hr ha0 ha1

set_option maxRecDepth 100000 in
theorem lifted (os : Os) (started : os.Started) (H : Type) (enc : TypeId × Value → H) :
    ReturnsInHanded {} Try.checked os 7 .any (Rows.lsaAgesSpec.pre6 enc Try.prog Try.f7 Rows.lsaAgesRow.domain false) (Rows.lsaAgesSpec.post enc Try.prog Try.f7 false true false false) := by
  refine returnsInHanded_of_change (C := Try.checked) own started (by kernel_rfl) Try.func7
    (ChangeSpec.witness6 (enc := enc) (C := Try.checked) false ⟨#[], #[.agg #[.int .i64 0, .int .i64 0, .int .i64 0, .int .i64 0, .int .i64 0, .int .i64 0, .int .i64 0, .slice none 0 0, .slice none 0 0], .int .u8 0], []⟩ 8 (by kernel_rfl) (by kernel_rfl) (by kernel_rfl) (by kernel_rfl)) ?_
  intro W base args ds gs before hval0 hW hcnd _
  have hval : ∀ (j : Nat) t v, Try.f7.params[j]? = some t → args[j]? = some v → Value.okWide Try.prog W .any base t v := hval0
  have hW' := hW
  obtain ⟨p, q, hA0, hV, rfl, hfz, hnd⟩ := hW
  have hA : DataW.TrodAll enc Try.prog W 0 (fun _ => true) true Try.f7.params.toList args.toList ds p := hA0
  rw [Try.params7] at hA hval
  obtain ⟨v0, vs0, d0, ds0, p0, q0, hargs, rfl, rfl, h0, r0⟩ := trodAll_cons hA
  obtain ⟨v1, vs1, d1, ds1, p1, q1, rfl, rfl, rfl, h1, r1⟩ := trodAll_cons r0
  obtain ⟨rfl, rfl, rfl⟩ := trodAll_nil r1
  obtain rfl : args = #[v0, v1] := by cases args; simp_all
  obtain ⟨rfl, rfl⟩ := trodVars_none hV
  have k0 := h0
  have lt0 : ∀ x ∈ p0, x.block < W.heap.size := by obtain ⟨m, hm⟩ := k0; exact DataW.trod_lt m _ _ _ hm
  have k1 := h1
  have lt1 : ∀ x ∈ p1, x.block < W.heap.size := by obtain ⟨m, hm⟩ := k1; exact DataW.trod_lt m _ _ _ hm
  obtain ⟨h, A, A', n, c, n', c', L, M, rfl, hL, hn, hM, hn'⟩ := lsa_came (hval 0 27 v0 rfl rfl) h0
  obtain ⟨z1, rfl, hz1⟩ : ∃ z, v1 = .int .u8 z ∧ (0 ≤ z ∧ z ≤ 255) := by
    obtain ⟨z, rfl⟩ := okWide_int Try.underlying5 (hval 1 5 v1 rfl rfl)
    obtain ⟨fuel, hf⟩ := h1
    obtain ⟨z', hz, _, hw⟩ := DataW.trod_int Try.underlying5 hf
    simp [Value.cells] at hz
    subst hz
    have := bounds_u8 hw
    exact ⟨z, rfl, by omega⟩
  clear hA0 hval0
  refine (walk h A A' n c n' c' L M z1 W hL hM hn hn' hz1.1 hz1.2).mono fun e W' ⟨he, bel⟩ => ?_
  subst he
  exact ⟨_, rfl, _, _, _, [], _, [], hW', trodAll_mk1 (shut_bool Try.underlying4 _), (trodAll_cons_mk (Below.trod laidOut (by kernel_rfl) (of_decide_eq_true (by kernel_rfl)) k0 bel lt0) (trodAll_cons_mk (Below.trod laidOut (by kernel_rfl) (of_decide_eq_true (by kernel_rfl)) k1 bel lt1) trodAll_mk0)), rfl, bel.frame _, fun h => by cases h⟩

theorem over : Rows.lsaAgesRow.holds Try.pinned (OpenSpec.ofChange Rows.lsaAgesSpec) :=
  OpenClaim.holds_of_wide 7 Try.f7 rfl rfl rfl rfl rfl rfl rfl ⟨rfl, rfl, rfl, rfl, rfl⟩ rfl rfl rfl rfl rfl (by kernel_rfl) Try.func7 (by kernel_rfl)
    (of_decide_eq_true (by kernel_rfl)) (by unfold Func.isWrapper; first | (rw [if_pos (by decide +kernel)]; kernel_rfl) | (rw [if_neg (by decide +kernel)]; exact ⟨rfl, rfl⟩))
    (fun os started H enc _ => lifted os started H enc)

/-- The statement. -/
theorem proved : Rows.LsaAgesSaid := over
end Go.Proofs.Ytidncajbedgplaa.lsaAges
