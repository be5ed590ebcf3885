/- The reference's Right. Conditions: the two lists read as links and as integers. -/
import Derived.Test.YtidncajbedgplaaLsB
namespace Go.Proofs.Ytidncajbedgplaa
open Go.RowKit

theorem quiet_left {P : Program} {f : FuncId} {args : Array Value} {w : World} {n : Nat} {v : Value}
    (h : Calls P f args (w.drewN n) fun e w' => e = .returned v ∧ w.drewN n = w') : Calls P f args (w.drewN n) fun e w'' => e = .returned v ∧ ∃ m, w'' = w.drewN m :=
  h.mono fun _ _ ⟨he, hm⟩ => ⟨he, n, hm.symm⟩
theorem refIn_is (n a b : Int) (x : Bool) (w : World) (h : inB n a b = x) : Calls Try.prog 26 #[.int .i64 n, .int .i64 a, .int .i64 b] w fun e w' => e = .returned (.bool x) ∧ w = w' := by
  rw [← h]; exact refIn_any n a b w

set_option maxRecDepth 100000 in
set_option maxHeartbeats 4000000 in
theorem refRight_router (h : Hd) (L : List Lk) (M : List Int) (A A' : Option Addr) (n c n' c' B : Nat) (w : World) (hL : Lnk w B A n L) (hM : M.length = n') (hB : B ≤ w.heap.size) (hn : n ≤ maxLen) (hn' : n' ≤ maxLen) (hh : headB h = true) (hk1 : (h.kind == 1) = true) :
    Calls Try.prog 11 #[.agg #[.int .i64 h.age, .int .i64 h.kind, .int .i64 h.id, .int .i64 h.adv, .int .i64 h.seq, .int .i64 h.sum, .int .i64 h.long, .slice A n c, .slice A' n' c']] w
    fun e w' => e = .returned (.bool (routerB h L M)) ∧ Below w.heap.size w w' := by
  unfold maxLen at hn hn'
  have HL := Lib.hid hL
  have HN := Lib.hid hL.1
  have HM := Lib.hid hM
  have HH := Lib.hid hh
  clear hL hM hh
  go_enter Try.func11, Try.ntmps11
  go_wp2_with fail
  refine (refHead_any h _).mono ?_
  rintro e1 w1 ⟨rfl, hb1⟩
  rw [HH.out]
  have HB1 := Lib.hid (((Below.refl w.heap.size w).alloc (Nat.le_refl _) _).trans (hb1.mono (by simp)))
  obtain ⟨hc, hf⟩ := bcell hb1
  have hz := hb1.size
  simp only [World.size_alloc] at hz
  have e7 := hc w.heap.size 7 (by simp)
  have e8 := hc w.heap.size 8 (by simp)
  simp at e7 e8
  clear hb1
  by_cases hid : h.id = h.adv ∧ n' = 0 ∧ n ≤ 4
  · obtain ⟨h1, rfl, h3⟩ := hid
    have HR := Lib.hid (show routerB h L M = L.all linkB by simp [routerB, h1, HM.out, HN.out, h3])
    have hd1 : (h.id != h.adv) = false := by simp [h1]
    clear h1
    go_wp2_with fail
    clear hc hf
    go_loopw [3] (fun i wr => ∃ k : Nat, k ≤ n ∧ i = .int .i64 k ∧ Hid (Below w1.heap.size w1 wr) ∧ Hid ((L.take k).all linkB = true)) (fun i _ => n - (intOf i).toNat)
    case atStart => exact ⟨0, Nat.zero_le _, rfl, Lib.hid (Below.refl _ _), Lib.hid rfl⟩
    case round =>
      obtain ⟨k, hk, rfl, hb, hall⟩ := hrel
      have e7' := (hb.out.cell (p := ⟨w.heap.size, 7, none⟩) (by simp; omega)).trans e7
      clear e8
      by_cases hlt : k < n
      · obtain ⟨b, o, rfl, hbb, hc⟩ := ((HL.out.below (HB1.out.mono hB)).below (hb.out.mono (by omega))).2 (by omega)
        obtain ⟨c0, c1, c2, c3⟩ := hc k hlt
        clear hc
        generalize hk2 : L.getD k ⟨0, 0, 0, 0⟩ = kk at c0 c1 c2 c3
        have HK := Lib.hid hk2
        have HB2 := fun o => Lib.hid (hb.out.alloc hb.out.size o)
        clear hk2
        have HNO : Hid (linkB kk = false → routerB h L M = false) := fun hl => by rw [HR.out, all_falseL _ _ k (by rw [HN.out]; exact hlt) (by rw [HK.out]; exact hl)]
        have HYES : Hid (linkB kk = true → (L.take (k + 1)).all linkB = true) := fun hl => all_snocL _ _ _ (by rw [HN.out]; exact hlt) hall.out (by rw [HK.out]; exact hl)
        by_cases hq : kk.kind = 2 ∨ kk.kind = 3
        · have hin : inB kk.kind 2 3 = true := by rw [inB_iff]; omega
          have hd : (kk.kind != 2) = false ∨ ((kk.kind != 2) = true ∧ (kk.kind != 3) = false) := by
            rcases hq with hq | hq <;> simp [hq]
          clear hq
          rcases hd with d2 | ⟨d2, d3⟩
          all_goals
            have HIN := Lib.hid hin
            clear hin
            go_wp2_with fail
            refine (refIn_any _ _ _ _).mono ?_
            rintro e2 w2 ⟨rfl, rfl⟩
            cases h1 : inB kk.id 0 63
            · go_wp2
              go_ret
              exact ⟨ret_bool (HNO.out (by simp [linkB, h1])).symm, HB1.out.trans ((HB2 _).out.mono HB1.out.size)⟩
            · go_wp2_with fail
              refine (refIn_any _ _ _ _).mono ?_
              rintro e2 w2 ⟨rfl, rfl⟩
              cases h2 : inB kk.data 0 63
              · go_wp2
                go_ret
                exact ⟨ret_bool (HNO.out (by simp [linkB, h2])).symm, HB1.out.trans ((HB2 _).out.mono HB1.out.size)⟩
              · go_wp2_with fail
                refine (refIn_any _ _ _ _).mono ?_
                rintro e2 w2 ⟨rfl, rfl⟩
                cases h4 : inB kk.cost 1 100
                · go_wp2
                  go_ret
                  exact ⟨ret_bool (HNO.out (by simp [linkB, h4])).symm, HB1.out.trans ((HB2 _).out.mono HB1.out.size)⟩
                · go_wp2
                  go_roundw
                  case rel => exact ⟨k + 1, by omega, by go_num, HB2 _, Lib.hid (HYES.out (by simp [linkB, h1, h2, h4, HIN.out]))⟩
                  case measure => simp [intOf]; omega
        · have hin : inB kk.kind 2 3 = false := by rw [Bool.eq_false_iff, ne_eq, inB_iff]; omega
          have d2 : (kk.kind != 2) = true := by simp; omega
          have d3 : (kk.kind != 3) = true := by simp; omega
          have HIN := Lib.hid hin
          clear hq hin
          go_wp2
          go_ret
          exact ⟨ret_bool (HNO.out (by simp [linkB, HIN.out])).symm, HB1.out.trans ((HB2 _).out.mono HB1.out.size)⟩
      · go_wp2
        go_ret
        have h1 := hall.out
        rw [List.take_of_length_le (by rw [HN.out]; omega)] at h1
        exact ⟨ret_bool (by rw [HR.out, h1]), HB1.out.trans (hb.out.mono HB1.out.size)⟩
  · have HR := Lib.hid (show routerB h L M = false by
      simp only [routerB, Bool.and_eq_false_iff, decide_eq_false_iff_not, HM.out, HN.out]
      by_cases h1 : h.id = h.adv <;> by_cases h2 : n' = 0 <;> by_cases h3 : n ≤ 4 <;> simp_all)
    by_cases h1 : h.id = h.adv
    · have hd1 : (h.id != h.adv) = false := by simp [h1]
      by_cases h2 : n' = 0
      · subst h2
        have h3 : 4 < n := by omega
        clear hid h1
        go_wp2
        go_ret
        exact ⟨ret_bool HR.out.symm, HB1.out⟩
      · have h3 : 0 < n' := by omega
        clear hid h1 h2
        go_wp2
        go_ret
        exact ⟨ret_bool HR.out.symm, HB1.out⟩
    · have hd1 : (h.id != h.adv) = true := by simp [h1]
      clear hid h1
      go_wp2
      go_ret
      exact ⟨ret_bool HR.out.symm, HB1.out⟩
end Go.Proofs.Ytidncajbedgplaa
