/- The program's Cancel. Conditions: what the words say; at most 1000 timers a call. -/
import Derived.Test.YtaghophkfogdgaaTd
import Derived.Maps.OwnSet
namespace Go.Proofs.Ytaghophkfogdgaa
open Go.RowKit

/-- 'delete(m, t)' as the next operation of a plain region's list. -/
theorem wpList_delete8 {ops : Array Oper} {rest : List Oper} {o : Oper} {a : Act} {w : World} {Q : Exit → Act → World → Prop} {b : Nat} {R : List En} {t : Tm} (hg : o.guard = none) (m x : Operand) (hop : o.op = Op.call { callee := Callee.builtin Builtin.delete, args := #[m, x], argTypes := #[54, 33] })
    (hm : a.eval m = .map (some b)) (hx : a.eval x = .agg #[.int .i64 t.kind, .int .i64 t.lan, .int .i64 t.id, .int .i64 t.kk, .int .i64 t.ki, .int .i64 t.ka]) (h : MapIs w b R) (ht : wfTm t) (hK : ∀ w', MapIs w' b (restR R t) → w.mapTurned w' b → wpList Try.prog ops Q rest (a.put o.dst (.tuple #[])) w') : wpList Try.prog ops Q (o :: rest) a w := by
  refine wpList_plain hg fun K' hK' => ?_
  obtain ⟨w', hrun, r1, r2⟩ := h.drop ht o.type
  have hrun' : (Builtin.delete_ #[54, 33] o.type #[.map (some b), .agg #[.int .i64 t.kind, .int .i64 t.lan, .int .i64 t.id, .int .i64 t.kk, .int .i64 t.ki, .int .i64 t.ka]]).run Try.prog w = .ok (.tuple #[]) w' := hrun
  unfold Oper.wp
  simp [execOp, hop, resolve, invoke, builtin, hm, hx, hrun', Result.andThen]
  exact hK' _ _ (hK w' r1 r2)
theorem canAll_len : ∀ (L : List Tm) (R : List En), (canAll R L).length ≤ R.length
  | [], _ => Nat.le_refl _
  | t :: L, R => Nat.le_trans (canAll_len L (restR R t)) (restR_len R t)
set_option maxRecDepth 8000 in
set_option maxHeartbeats 8000000 in
theorem cancel_wh {w : World} {p b lo n c : Nat} {R : List En} {A : Option Addr} {L : List Tm} (h : PWh w p b R) (hs : w.ownsRow lo 33 6 (.slice A n c) n (cellsBy encTm L)) (hw : ∀ t ∈ L, wfTm t) (hn : n ≤ 1000) (hR : R.length ≤ 1000000) :
    Calls Try.prog 10 #[.pointer (some ⟨p, 0, none⟩), .slice A n c] w fun e w' => e = .returned (.int .i64 ((R.length : Int) - (canAll R L).length)) ∧ PWh w' p b (canAll R L) ∧ Chg (fun q => q = b) w w' := by
  have hln := own_len encTm_len (by omega) hs
  generalize hQ : (fun (e : Ending) (w' : World) => e = .returned (.int .i64 ((R.length : Int) - (canAll R L).length)) ∧ PWh w' p b (canAll R L) ∧ Chg (fun q => q = b) w w') = Q
  have HQ := Lib.hid hQ
  clear hQ
  have c0 := h.1.one
  have H := Lib.hid h
  have HS := Lib.hid hs
  have HW := Lib.hid hw
  have HNE := Lib.hid (h.2.ne_blk h.1)
  have HNS := Lib.hid (own_ne_map h.2 hs)
  have HLEN := Lib.hid hln
  have HRL := Lib.hid hR
  clear h hs hw hln hR
  go_enter Try.func10, Try.ntmps10
  go_wp2_with (at_len; refine wpList_len8 rfl _ rfl rfl H.out.2 ?_)
  clear c0
  go_loopw [17] (fun s12 wr => ∃ j : Nat, j ≤ n ∧ s12 = .int .i64 j ∧ Hid (PWh wr p b (canAll R (L.take j))) ∧ Hid (Chg (fun q => q = b) w wr)) (fun i _ => n - (intOf i).toNat)
  case atStart => exact ⟨0, Nat.zero_le _, rfl, H, Lib.hid (Chg.refl _ _)⟩
  case round =>
    obtain ⟨j, hj, rfl, HP, HC⟩ := hrel
    by_cases hlt : j < n
    · have hlt' : (j : Int) < n := by omega
      obtain ⟨x, hx⟩ : ∃ x, L[j]? = some x := ⟨L[j]'(by have := HLEN.out; omega), List.getElem?_eq_getElem (by have := HLEN.out; omega)⟩
      have HX := Lib.hid hx
      have HWX := Lib.hid (HW.out x (List.mem_of_getElem? hx))
      obtain ⟨g, rfl, -, hgl, hnc, hcm, y0, y1, y2, y3, y4, y5⟩ := own_tm (own_chg HS.out HC.out (fun q hq e => HNS.out (by rw [hq, e]))) hx
      unfold maxLen at hcm
      clear hx
      go_wp2_with fail
      have J2 := Lib.hid (Blk.new wr 33 #[.int .i64 x.kind, .int .i64 x.lan, .int .i64 x.id, .int .i64 x.kk, .int .i64 x.ki, .int .i64 x.ka])
      have BW2 := Lib.hid ((Below.refl wr.heap.size wr).alloc (Nat.le_refl _) (.cells #[.int .i64 x.kind, .int .i64 x.lan, .int .i64 x.id, .int .i64 x.kk, .int .i64 x.ki, .int .i64 x.ka] 33))
      clear y0 y1 y2 y3 y4 y5
      generalize wr.alloc (.cells #[.int .i64 x.kind, .int .i64 x.lan, .int .i64 x.id, .int .i64 x.kk, .int .i64 x.ki, .int .i64 x.ka] 33) = w2 at *
      have P2 := Lib.hid (HP.out.below BW2.out)
      have hpl := P2.out.1.lt
      have hgl2 := J2.out.lt
      obtain ⟨k0, k1, k2, k3, k4, k5⟩ := J2.out.six
      have c0 := P2.out.1.one
      go_still_tail 5, (by kernel_rfl)
      change wpList _ _ _ _ _ w2.drew
      go_wp2_with (at_delete; refine wpList_delete8 (t := x) rfl _ _ rfl rfl rfl P2.out.2.drew HWX.out ?_; intro w3 hm3 hturn; have HC3 := Lib.hid (chg_of_turned hturn); have HM3 := Lib.hid hm3; clear hm3 hturn k0 k1 k2 k3 k4 k5 c0)
      go_roundw
      case rel =>
        have hc2 : Chg (fun q => q = b) w w2.drew := HC.out.below ⟨BW2.out.os, BW2.out.tape, BW2.out.output, BW2.out.size, BW2.out.block⟩
        refine ⟨j + 1, by omega, by go_num, Lib.hid ⟨?_, ?_⟩, Lib.hid (hc2.trans HC3.out (fun q hq => .inl hq))⟩
        · exact Blk.chg (w := w2.drew) P2.out.1.drew HC3.out HNE.out
        · rw [canAll_next HX.out]
          exact HM3.out
      case measure => simp [intOf]; omega
    · have hjn : j = n := by omega
      have HJN := Lib.hid hjn
      clear hjn
      have HT : L.take j = L := by rw [HJN.out, ← HLEN.out, List.take_length]
      rw [HT] at HP
      have c0 := HP.out.1.one
      have hpl := HP.out.1.lt
      have hcl := canAll_len L R
      have hrl := HRL.out
      go_wp2_with (at_len; refine wpList_len8 rfl _ rfl rfl HP.out.2 ?_)
      show Q (.returned (.int .i64 ((R.length : Int) - (canAll R L).length))) wr
      rw [← HQ.out]
      exact ⟨rfl, HP.out, HC.out⟩
end Go.Proofs.Ytaghophkfogdgaa
