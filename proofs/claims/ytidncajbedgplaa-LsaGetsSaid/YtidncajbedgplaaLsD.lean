/- The reference's Right, of a network and of any description. Conditions: the two lists read as links and as integers. -/
import Derived.Test.YtidncajbedgplaaLsC
import Derived.IntWalk
namespace Go.Proofs.Ytidncajbedgplaa
open Go.RowKit

theorem below_drewN {b : Nat} {w w' : World} (h : Below b w w') (n : Nat) : Below b w (w'.drewN n) := ⟨h.os, h.tape, h.output, h.size, h.block⟩

set_option maxRecDepth 100000 in
set_option maxHeartbeats 4000000 in
theorem refRight_network (h : Hd) (L : List Lk) (M : List Int) (A A' : Option Addr) (n c n' c' B : Nat) (w : World) (hL : L.length = n) (hM : Row .i64 w B A' n' M) (hB : B ≤ w.heap.size) (hn : n ≤ maxLen) (hn' : n' ≤ maxLen) (hh : headB h = true) (hk1 : (h.kind == 1) = false) :
    Calls Try.prog 11 #[.agg #[.int .i64 h.age, .int .i64 h.kind, .int .i64 h.id, .int .i64 h.adv, .int .i64 h.seq, .int .i64 h.sum, .int .i64 h.long, .slice A n c, .slice A' n' c']] w
    fun e w' => e = .returned (.bool (networkB h L M)) ∧ Below w.heap.size w w' := by
  unfold maxLen at hn hn'
  have HL := Lib.hid hL
  have HN := Lib.hid hM.1
  have HM := Lib.hid hM
  have HH := Lib.hid hh
  clear hL hM hh
  go_enter Try.func11, Try.ntmps11
  go_wp2_with fail
  refine (refHead_any h _).mono ?_
  rintro e1 w1 ⟨rfl, hb1⟩
  rw [HH.out]
  have HB1 := Lib.hid (((Below.refl w.heap.size w).alloc (Nat.le_refl _) _).trans (hb1.mono (by simp)))
  obtain ⟨hc, hf⟩ := bcell hb1
  have hz := hb1.size
  simp only [World.size_alloc] at hz
  have e7 := hc w.heap.size 7 (by simp)
  have e8 := hc w.heap.size 8 (by simp)
  simp at e7 e8
  clear hb1
  go_wp2_with fail
  refine (refIn_any _ _ _ _).mono ?_
  rintro e1 w2 ⟨rfl, rfl⟩
  cases h1 : inB h.id 0 63
  · have HR := Lib.hid (show networkB h L M = false by simp [networkB, h1])
    go_wp2
    go_ret
    exact ⟨ret_bool HR.out.symm, HB1.out⟩
  · by_cases h2 : n = 0
    · subst h2
      by_cases h3 : n' = 0
      · subst h3
        have HR := Lib.hid (show networkB h L M = false by simp [networkB, HN.out])
        go_wp2
        go_ret
        exact ⟨ret_bool HR.out.symm, HB1.out⟩
      · have hp : 0 < n' := by omega
        have hd : ((n' : Int) == 0) = false := by simp; omega
        have HR := Lib.hid (show networkB h L M = riseB 0 M by simp [networkB, HL.out, HN.out, h1, hp])
        clear h3
        go_wp2_with fail
        clear hc hf e7
        go_loopw [5] (fun i wr => ∃ (k : Nat) (x : Int), k ≤ n' ∧ i = .int .i64 k ∧ 0 ≤ x ∧ x ≤ 15 ∧ Hid (Below w1.heap.size w1 wr) ∧ Hid (x = (if k = 0 then 0 else M.getD (k - 1) 0)) ∧ Hid (riseB 0 M = riseB x (M.drop k))) (fun i _ => n' - (intOf i).toNat)
        case atStart => exact ⟨0, 0, Nat.zero_le _, rfl, by omega, by omega, Lib.hid (Below.refl _ _), Lib.hid rfl, Lib.hid rfl⟩
        case round =>
          obtain ⟨k, x, hk, rfl, hx0, hx1, hb, hx, hall⟩ := hrel
          have e8' := (hb.out.cell (p := ⟨w.heap.size, 8, none⟩) (by simp; omega)).trans e8
          by_cases hlt : k < n'
          · obtain ⟨b, o, rfl, hbb, hc⟩ := ((HM.out.below (HB1.out.mono hB)).below (hb.out.mono (by omega))).2 (by omega)
            have c0 := hc k hlt
            have hr := rise_drop M x k (by rw [HN.out]; exact hlt)
            have HY := Lib.hid (show M.getD (k + 1 - 1) 0 = M.getD k 0 from rfl)
            have hpr : 0 < k → wr.cell? ⟨b, o + (k - 1), none⟩ = some (.int .i64 x) := fun h0 => by
              have := hc (k - 1) (by omega)
              rw [hx.out, if_neg (by omega)]
              exact this
            clear hc
            generalize hy : M.getD k 0 = y at *
            have HQ := Lib.hid (hall.out.trans hr)
            clear hall hr hy
            have hk0 : (0 : Int) ≤ (k : Int) := by omega
            have hkn : (k : Int) < (n' : Int) := by omega
            cases hl : inB y 1 15
            · have HQ2 := Lib.hid (show riseB 0 M = false by
                rw [HQ.out]
                have : inB y (x + 1) 15 = false := by
                  rw [Bool.eq_false_iff, ne_eq, inB_iff]
                  intro hh
                  have : inB y 1 15 = true := by rw [inB_iff]; omega
                  rw [hl] at this
                  cases this
                rw [this]; rfl)
              clear hpr hx
              go_wp2_with fail
              go_quiet ((go_at_call 26; exact quiet_left (refIn_is _ _ _ _ _ hl)))
              go_wp2
              go_ret
              exact ⟨ret_bool (by rw [HR.out, HQ2.out]), below_drewN (HB1.out.trans (hb.out.mono HB1.out.size)) _⟩
            · have hy1 := (inB_iff _ _ _).1 hl
              by_cases hk1 : k = 0
              · have hkd : decide ((0 : Int) < (k : Int)) = false := by simp; omega
                have hkd2 : decide (0 < k) = false := by simp; omega
                clear hpr
                have HQ2 := Lib.hid (show riseB 0 M = riseB y (M.drop (k + 1)) by
                  rw [HQ.out]
                  have : inB y (x + 1) 15 = true := by
                    rw [inB_iff]
                    have := hx.out
                    rw [if_pos hk1] at this
                    omega
                  rw [this]; rfl)
                clear hx hk1
                go_wp2_with fail
                go_quiet ((go_at_call 26; exact quiet_left (refIn_is _ _ _ _ _ hl)))
                go_wp2
                go_roundw
                case rel => exact ⟨k + 1, y, by omega, by go_num, by omega, by omega, Lib.hid (below_drewN hb.out _), Lib.hid (by rw [if_neg (by omega)]; exact HY.out.symm), HQ2⟩
                case measure => simp [intOf]; omega
              · have c1 := hpr (by omega)
                have hkd : decide ((0 : Int) < (k : Int)) = true := by simp; omega
                have hkd2 : decide (0 < k) = true := by simp; omega
                have hk2 : (0 : Int) ≤ (k : Int) - 1 := by omega
                have hk3 : (k : Int) - 1 < (n' : Int) := by omega
                have hk4 : IntKind.i64.wrap ((k : Int) - 1) = (k : Int) - 1 := IntWalk.i64_in _ (by omega)
                have hk5 : ((k : Int) - 1).toNat = k - 1 := by omega
                clear hpr hk1 hx
                by_cases hyx : y ≤ x
                · have HQ2 := Lib.hid (show riseB 0 M = false by
                    rw [HQ.out]
                    have : inB y (x + 1) 15 = false := by
                      rw [Bool.eq_false_iff, ne_eq, inB_iff]
                      omega
                    rw [this]; rfl)
                  go_wp2_with fail
                  go_quiet ((go_at_call 26; exact quiet_left (refIn_is _ _ _ _ _ hl)))
                  go_wp2
                  go_ret
                  exact ⟨ret_bool (by rw [HR.out, HQ2.out]), below_drewN (HB1.out.trans (hb.out.mono HB1.out.size)) _⟩
                · have HQ2 := Lib.hid (show riseB 0 M = riseB y (M.drop (k + 1)) by
                    rw [HQ.out]
                    have : inB y (x + 1) 15 = true := by rw [inB_iff]; omega
                    rw [this]; rfl)
                  have hyd : decide (y ≤ x) = false := by simpa using hyx
                  go_wp2_with fail
                  go_quiet ((go_at_call 26; exact quiet_left (refIn_is _ _ _ _ _ hl)))
                  clear hk4
                  go_wp2
                  go_roundw
                  case rel => exact ⟨k + 1, y, by omega, by go_num, by omega, by omega, Lib.hid (below_drewN hb.out _), Lib.hid (by rw [if_neg (by omega)]; exact HY.out.symm), HQ2⟩
                  case measure => simp [intOf]; omega
          · go_wp2
            go_ret
            have h1 := hall.out
            rw [List.drop_of_length_le (by rw [HN.out]; omega)] at h1
            exact ⟨ret_bool (by rw [HR.out, h1]; rfl), HB1.out.trans (hb.out.mono HB1.out.size)⟩
    · have h3 : 0 < n := by omega
      have HR := Lib.hid (show networkB h L M = false by simp [networkB, HL.out]; omega)
      clear h2
      go_wp2
      go_ret
      exact ⟨ret_bool HR.out.symm, HB1.out⟩

set_option maxRecDepth 100000 in
set_option maxHeartbeats 4000000 in
theorem refRight_any (h : Hd) (L : List Lk) (M : List Int) (A A' : Option Addr) (n c n' c' B : Nat) (w : World) (hL : Lnk w B A n L) (hM : Row .i64 w B A' n' M) (hB : B ≤ w.heap.size) (hn : n ≤ maxLen) (hn' : n' ≤ maxLen) :
    Calls Try.prog 11 #[.agg #[.int .i64 h.age, .int .i64 h.kind, .int .i64 h.id, .int .i64 h.adv, .int .i64 h.seq, .int .i64 h.sum, .int .i64 h.long, .slice A n c, .slice A' n' c']] w
    fun e w' => e = .returned (.bool (rightB h L M)) ∧ Below w.heap.size w w' := by
  cases hh : headB h
  · have HR := Lib.hid (show rightB h L M = false by simp [rightB, hh])
    have HH := Lib.hid hh
    clear hh hL hM
    go_enter Try.func11, Try.ntmps11
    go_wp2_with fail
    refine (refHead_any h _).mono ?_
    rintro e1 w1 ⟨rfl, hb1⟩
    rw [HH.out]
    have HB1 := Lib.hid (((Below.refl w.heap.size w).alloc (Nat.le_refl _) _).trans (hb1.mono (by simp)))
    go_wp2
    go_ret
    exact ⟨ret_bool HR.out.symm, HB1.out⟩
  · by_cases hk : h.kind = 1
    · have e : rightB h L M = routerB h L M := by simp [rightB, hh, hk]
      rw [e]
      exact refRight_router h L M A A' n c n' c' B w hL hM.1 hB hn hn' hh (by simp [hk])
    · have e : rightB h L M = networkB h L M := by simp [rightB, hh, hk]
      rw [e]
      exact refRight_network h L M A A' n c n' c' B w hL.1 hM hB hn hn' hh (by simp [hk])
end Go.Proofs.Ytidncajbedgplaa
