/- A step of a neighbor, the program's. No conditions. -/
import Derived.Test.YtohfoopagbajnaaDoorNb
namespace Go.Proofs.YtohfoopagbajnaaDoor
open Go.RowKit Go.Deep
theorem idx0 : ∀ W, (Instr.index 35 (.agg tblL.toArray) (.int .i64 0)).run Tryd.prog W = .ok (.agg #[.int .i64 0, .int .i64 0, .int .i64 0, .int .i64 1, .int .i64 1]) W := fun _ => by kernel_rfl
theorem idx1 : ∀ W, (Instr.index 35 (.agg tblL.toArray) (.int .i64 1)).run Tryd.prog W = .ok (.agg #[.int .i64 1, .int .i64 1, .int .i64 1, .int .i64 3, .int .i64 2]) W := fun _ => by kernel_rfl
theorem idx2 : ∀ W, (Instr.index 35 (.agg tblL.toArray) (.int .i64 2)).run Tryd.prog W = .ok (.agg #[.int .i64 2, .int .i64 6, .int .i64 2, .int .i64 1, .int .i64 1]) W := fun _ => by kernel_rfl
theorem idx3 : ∀ W, (Instr.index 35 (.agg tblL.toArray) (.int .i64 3)).run Tryd.prog W = .ok (.agg #[.int .i64 2, .int .i64 2, .int .i64 3, .int .i64 3, .int .i64 (-1)]) W := fun _ => by kernel_rfl
theorem idx4 : ∀ W, (Instr.index 35 (.agg tblL.toArray) (.int .i64 4)).run Tryd.prog W = .ok (.agg #[.int .i64 3, .int .i64 6, .int .i64 3, .int .i64 (-1), .int .i64 2]) W := fun _ => by kernel_rfl
theorem idx5 : ∀ W, (Instr.index 35 (.agg tblL.toArray) (.int .i64 5)).run Tryd.prog W = .ok (.agg #[.int .i64 3, .int .i64 3, .int .i64 4, .int .i64 4, .int .i64 4]) W := fun _ => by kernel_rfl
theorem idx6 : ∀ W, (Instr.index 35 (.agg tblL.toArray) (.int .i64 6)).run Tryd.prog W = .ok (.agg #[.int .i64 4, .int .i64 4, .int .i64 5, .int .i64 5, .int .i64 5]) W := fun _ => by kernel_rfl
theorem idx7 : ∀ W, (Instr.index 35 (.agg tblL.toArray) (.int .i64 7)).run Tryd.prog W = .ok (.agg #[.int .i64 4, .int .i64 5, .int .i64 6, .int .i64 6, .int .i64 6]) W := fun _ => by kernel_rfl
theorem idx8 : ∀ W, (Instr.index 35 (.agg tblL.toArray) (.int .i64 8)).run Tryd.prog W = .ok (.agg #[.int .i64 4, .int .i64 6, .int .i64 7, .int .i64 3, .int .i64 3]) W := fun _ => by kernel_rfl
theorem idx9 : ∀ W, (Instr.index 35 (.agg tblL.toArray) (.int .i64 9)).run Tryd.prog W = .ok (.agg #[.int .i64 0, .int .i64 6, .int .i64 8, .int .i64 0, .int .i64 0]) W := fun _ => by kernel_rfl
theorem index_tbl {k : Nat} {m : Mv} (h : mvs[k]? = some m) (W : World) : (Instr.index 35 (.agg tblL.toArray) (.int .i64 k)).run Tryd.prog W = .ok (.agg #[.int .i64 m.least, .int .i64 m.most, .int .i64 m.event, .int .i64 m.adj, .int .i64 m.apart]) W := by
  have hk : k < 10 := by simpa [mvs] using (List.getElem?_eq_some_iff.1 h).1
  match k, hk, h with
  | 0, _, h => cases h; exact idx0 W
  | 1, _, h => cases h; exact idx1 W
  | 2, _, h => cases h; exact idx2 W
  | 3, _, h => cases h; exact idx3 W
  | 4, _, h => cases h; exact idx4 W
  | 5, _, h => cases h; exact idx5 W
  | 6, _, h => cases h; exact idx6 W
  | 7, _, h => cases h; exact idx7 W
  | 8, _, h => cases h; exact idx8 W
  | 9, _, h => cases h; exact idx9 W

theorem hit_cases (m : Mv) (s e : Int) : (m.hit s e = false ∧ (m.event == e) = false) ∨ (m.hit s e = false ∧ (m.event == e) = true ∧ decide (m.least ≤ s) = false) ∨ (m.hit s e = false ∧ (m.event == e) = true ∧ decide (m.least ≤ s) = true ∧ decide (s ≤ m.most) = false) ∨ (m.hit s e = true ∧ (m.event == e) = true ∧ decide (m.least ≤ s) = true ∧ decide (s ≤ m.most) = true) := by
  unfold Mv.hit
  cases m.event == e <;> cases decide (m.least ≤ s) <;> cases decide (s ≤ m.most) <;> simp

set_option maxRecDepth 8000 in
set_option maxHeartbeats 4000000 in
theorem step_any (s e : Int) (a : Bool) (w : World) (hT : Tab w) :
    Calls Tryd.prog 8 #[.int .i64 s, .int .i64 e, .bool a] w fun x w' => x = .returned (.tuple #[.int .i64 (stepF s e a), .bool (stepF s e a != s)]) ∧ Below w.heap.size w w' := by
  have HT := Lib.hid hT.1
  clear hT
  obtain ⟨v, hv⟩ : ∃ v, v = stepF s e a := ⟨_, rfl⟩
  rw [← hv]
  have HV := Lib.hid hv
  clear hv
  obtain ⟨T, hTe⟩ : ∃ T : Value, T = .agg tblL.toArray := ⟨_, rfl⟩
  have HI := Lib.hid (show ∀ (k : Nat) (m : Mv), mvs[k]? = some m → ∀ W, (Instr.index 35 T (.int .i64 k)).run Tryd.prog W = .ok (.agg #[.int .i64 m.least, .int .i64 m.most, .int .i64 m.event, .int .i64 m.adj, .int .i64 m.apart]) W from fun k m h W => by rw [hTe]; exact index_tbl h W)
  go_enter Tryd.func8, Tryd.ntmps8
  go_wp2_with (refine wpList_load_row 35 tblL _ (by rfl) (.global 0) rfl (by rfl) HT.out Tryd.underlying35 rfl (by kernel_rfl) ?_; rw [← hTe]; clear hTe)
  go_loopw [12] (fun i wr => ∃ k : Nat, k ≤ 10 ∧ i = .int .i64 k ∧ Hid (∀ j x, j < k → mvs[j]? = some x → x.hit s e = false) ∧ Hid (Below w.heap.size w wr)) (fun i _ => 10 - (intOf i).toNat)
  case atStart => exact ⟨0, Nat.zero_le _, rfl, Lib.hid (fun _ _ h => absurd h (by omega)), Lib.hid (Below.refl _ _)⟩
  case round =>
    obtain ⟨k, hk, rfl, HNO, hb⟩ := hrel
    have hsz := hb.out.size
    by_cases hlt : k < 10
    · have hlt' : (k : Int) < 10 := by omega
      obtain ⟨m, hm⟩ : ∃ m, mvs[k]? = some m := ⟨mvs[k]'(by simpa [mvs] using hlt), List.getElem?_eq_getElem _⟩
      have hidx := HI.out k m hm
      have HNX := Lib.hid (show m.hit s e = false → ∀ j x, j < k + 1 → mvs[j]? = some x → x.hit s e = false from fun hne j x hj hx => by
        by_cases hjk : j = k
        · subst hjk
          rw [hm] at hx
          injection hx with hx
          exact hx ▸ hne
        · exact HNO.out j x (by omega) hx)
      have HL := Lib.hid (show m.hit s e = true → m.leads s a = v from fun hh => by rw [HV.out]; exact (stepF_hit hm hh HNO.out).symm)
      have B1 := Lib.hid ((Below.refl wr.heap.size wr).alloc (Nat.le_refl _) (.cells #[.int .i64 m.least, .int .i64 m.most, .int .i64 m.event, .int .i64 m.adj, .int .i64 m.apart] 34))
      have K1 := Lib.hid (Blk.new wr 34 #[.int .i64 m.least, .int .i64 m.most, .int .i64 m.event, .int .i64 m.adj, .int .i64 m.apart])
      clear hm HNO
      rcases hit_cases m s e with ⟨h0, d1⟩ | ⟨h0, d1, d2⟩ | ⟨h0, d1, d2, d3⟩ | ⟨h0, d1, d2, d3⟩
      · have HNX := Lib.hid (HNX.out h0)
        clear h0
        go_wp2_with fail
        go_roundw
        case rel => exact ⟨k + 1, by omega, by go_num, HNX, Lib.hid (hb.out.trans (B1.out.mono hsz))⟩
        case measure => simp [intOf]; omega
      · have HNX := Lib.hid (HNX.out h0)
        clear h0
        go_wp2_with fail
        go_roundw
        case rel => exact ⟨k + 1, by omega, by go_num, HNX, Lib.hid (hb.out.trans (B1.out.mono hsz))⟩
        case measure => simp [intOf]; omega
      · have HNX := Lib.hid (HNX.out h0)
        clear h0
        go_wp2_with fail
        go_roundw
        case rel => exact ⟨k + 1, by omega, by go_num, HNX, Lib.hid (hb.out.trans (B1.out.mono hsz))⟩
        case measure => simp [intOf]; omega
      · have HL := Lib.hid (HL.out h0)
        clear h0
        go_wp2_with fail
        refine (leads_any m s a _).mono ?_
        rintro x2 w2 ⟨rfl, hb2⟩
        rw [HL.out]
        have B2 := Lib.hid (B1.out.trans (hb2.mono (by simp)))
        clear hb2
        go_wp2
        refine bodyPost_ret (v := .tuple #[.int .i64 v, .bool (v != s)]) (by simp [results, Tryd.results8, go_sem, *]) rfl ?_
        exact ⟨rfl, hb.out.trans (B2.out.mono hsz)⟩
    · obtain rfl : k = 10 := by omega
      have HE := Lib.hid (show s = v by rw [HV.out]; exact (stepF_none HNO.out).symm)
      go_wp2
      refine bodyPost_ret (v := .tuple #[.int .i64 s, .bool false]) (by simp [results, Tryd.results8, go_sem, *]) rfl ?_
      exact ⟨by rw [← HE.out]; simp, hb.out⟩
end Go.Proofs.YtohfoopagbajnaaDoor
