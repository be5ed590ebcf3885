/- The walk of the statement WheelOnce, of any sort that does what a sort must. Conditions: what the words say. -/
import Derived.Test.YtaghophkfogdgaaTr
import Derived.Test.YtaghophkfogdgaaTs
namespace Go.Proofs.Ytaghophkfogdgaa
open Go.RowKit

/-- A byte of a row. -/
def ByteAt (w : World) (B b o : Nat) (x : Int) : Prop := b < B ∧ 0 ≤ x ∧ x ≤ 255 ∧ w.cell? ⟨b, o, none⟩ = some (.int .u8 x)
def Byts (w : World) (B : Nat) (A : Option Addr) (n : Nat) (L : List Int) : Prop := Arr 1 ByteAt w B A n L
theorem Byts.below {w w' : World} {B n : Nat} {A : Option Addr} {L : List Int} (h : Byts w B A n L) (hb : Below B w w') : Byts w' B A n L := Arr.move (fun _ _ _ _ h => ⟨h.1, h.2.1, h.2.2.1, (hb.cell (p := ⟨_, _, none⟩) h.1).trans h.2.2.2⟩) (Nat.le_refl _) h
def tmO (i : Nat) : Tm := ⟨1, 0, (i : Int), 0, 0, 0⟩
/-- What the wheel holds: timers each of its tick, none of them ahead of lo. -/
def InvO (T : List Int) (R : List En) (lo : Int) : Prop := ∀ e ∈ R, ∃ i a, T[i]? = some a ∧ e.t = tmO i ∧ e.tick = a ∧ lo ≤ a ∧ a ≤ 255
theorem InvO.arm {T : List Int} {R : List En} {j : Nat} {a : Int} (h : InvO T R 0) (hj : T[j]? = some a) (h0 : 0 ≤ a) (h1 : a ≤ 255) : InvO T (armAll a R [tmO j]) 0 := by
  intro e he
  rcases List.mem_cons.1 he with rfl | he
  · exact ⟨j, a, hj, rfl, rfl, h0, h1⟩
  · exact h e (mem_restR.1 he).1
theorem InvO.later {T : List Int} {R : List En} {now : Int} (h : InvO T R now) : InvO T (laterR R now) (now + 1) := by
  intro e he
  obtain ⟨h1, h2⟩ := List.mem_filter.1 he
  obtain ⟨i, a, q1, q2, q3, q4, q5⟩ := h e h1
  have : ¬ e.tick ≤ now := by simpa using h2
  exact ⟨i, a, q1, q2, q3, by omega, q5⟩
theorem InvO.due {T : List Int} {R : List En} {now : Int} {D : List Tm} (h : InvO T R now) (hD : D.Perm ((R.filter fun e => decide (e.tick ≤ now)).map (·.t))) : ∀ t ∈ D, ∃ i, T[i]? = some now ∧ t = tmO i := by
  intro t ht
  obtain ⟨e, he, rfl⟩ := List.mem_map.1 (hD.mem_iff.1 ht)
  obtain ⟨h1, h2⟩ := List.mem_filter.1 he
  obtain ⟨i, a, q1, q2, q3, q4, q5⟩ := h e h1
  have := of_decide_eq_true h2
  exact ⟨i, by rw [q1]; congr 1; omega, q2⟩
theorem InvO.none {T : List Int} {R : List En} (h : InvO T R 256) : R = [] := by
  cases R with
  | nil => rfl
  | cons e R =>
    obtain ⟨i, a, _, _, _, q4, q5⟩ := h e (by simp)
    omega
theorem laterR_len (R : List En) (z : Int) : (laterR R z).length ≤ R.length := List.length_filter_le _ _
theorem tmO_wf {i : Nat} (h : i ≤ 100) : wfTm (tmO i) := by
  unfold wfTm inI tmO
  dsimp only
  omega
set_option maxRecDepth 8000 in
set_option maxHeartbeats 8000000 in
theorem once_walk {k : Nat} (hS : SortUpto k) (hk : 100 ≤ k) (hk2 : k ≤ 1000) (A : Option Addr) (n c : Nat) (T : List Int) (w : World) (hT : Byts w w.heap.size A n T) (hnc : n ≤ maxLen) :
    Calls Try.prog 4 #[.slice A n c] w fun e w' => e = .returned (.bool true) ∧ Below w.heap.size w w' := by
  unfold maxLen at hnc
  have HT := Lib.hid hT
  have HLT := Lib.hid hT.1
  have HS := Lib.hid hS
  clear hT hS
  go_enter Try.func4, Try.ntmps4
  go_wp2_with fail
  refine (wakes_any HS.out (by omega) hk2 w).mono ?_
  rintro e1 w1 ⟨rfl, hb1⟩
  have B1 := Lib.hid hb1
  clear hb1
  by_cases hn : 100 < n
  · have hn' : (100 : Int) < n := by omega
    go_wp2
    go_ret
    exact ⟨rfl, B1.out⟩
  · have hn' : ¬ (100 : Int) < n := by omega
    go_wp2_with fail
    refine (new_wh w1).mono ?_
    rintro e2 w2 ⟨p, b, rfl, hb2, hp2, hpl, hbl⟩
    have B2 := Lib.hid (B1.out.trans (hb2.mono B1.out.size))
    have HP2 := Lib.hid hp2
    have hbw := Lib.hid (show w.heap.size ≤ b by have := B1.out.size; omega)
    clear hb2 hp2
    go_wp2_with fail
    go_loopw [17] (fun s17 wr => ∃ (j : Nat) (R : List En), j ≤ n ∧ s17 = .int .i64 j ∧ Hid (PWh wr p b R) ∧ Hid (InvO T R 0) ∧ Hid (R.length ≤ j) ∧ Hid (Below w.heap.size w wr)) (fun i _ => n - (intOf i).toNat)
    case atStart => exact ⟨0, [], Nat.zero_le _, rfl, HP2, Lib.hid (fun e he => by cases he), Lib.hid (Nat.le_refl _), B2⟩
    case round =>
      obtain ⟨j, R, hj, rfl, HP, HI, HL, hb⟩ := hrel
      by_cases hlt : j < n
      · have hlt' : (j : Int) < n := by omega
        obtain ⟨g, o, a, rfl, hgl, hx, -, ha0, ha1, hy⟩ := Arr.at (HT.out.below hb.out) hlt
        have HX := Lib.hid hx
        have b1 : ∀ W, (Instr.build 33 #[(0, .int .i64 1), (2, .int .i64 (j : Int))]).run Try.prog W = .ok (.agg #[.int .i64 1, .int .i64 0, .int .i64 (j : Int), .int .i64 0, .int .i64 0, .int .i64 0]) W := fun W => by kernel_rfl
        have BA := Lib.hid ((Below.refl wr.heap.size wr).alloc (Nat.le_refl _) (.cells (cellsBy encTm [tmO j]).toArray 33))
        have HPA := Lib.hid (HP.out.below BA.out)
        have HOA := Lib.hid (own_blk (n := 1) (size := 6) (base := 0) (Blk.new wr 33 (cellsBy encTm [tmO j]).toArray) rfl (by decide) (Nat.zero_le _))
        have HWA := Lib.hid (show ∀ t ∈ [tmO j], wfTm t from fun t ht => by rw [List.mem_singleton.1 ht]; exact tmO_wf (by omega))
        clear hx
        rw [Nat.mul_one] at hy
        go_wp2_with (go_at_call 8; refine (arm_wh a HPA.out HOA.out HWA.out (by omega) (by have := HL.out; omega)).mono ?_; rintro e3 w3 ⟨rfl, hp3, hc3⟩; have HP3 := Lib.hid hp3; have B3 := Lib.hid (Chg.to_below (B := w.heap.size) ((Chg.of_below (F := fun q => q = b) hb.out).trans ((Chg.of_below (F := fun q => q = b) BA.out).trans hc3 (fun q hq => .inl hq)) (fun q hq => .inl hq)) (fun q hq => by rw [hq]; exact hbw.out) (Nat.le_refl _)); clear hp3 hc3 hy b1)
        go_roundw
        case rel => exact ⟨j + 1, armAll a R [tmO j], by omega, by go_num, HP3, Lib.hid (HI.out.arm HX.out ha0 ha1), Lib.hid (by have h1 := armAll_len a [tmO j] R; have h2 := HL.out; simp only [List.length_cons, List.length_nil] at h1; omega), B3⟩
        case measure => simp [intOf]; omega
      · have hjn : j = n := by omega
        have HL0 := Lib.hid (show R.length ≤ 100 by have := HL.out; omega)
        clear hjn HL
        go_wp2_with fail
        go_loopw [30] (fun s30 wl => ∃ (now : Nat) (R : List En), now ≤ 256 ∧ s30 = .int .i64 now ∧ Hid (PWh wl p b R) ∧ Hid (InvO T R now) ∧ Hid (R.length ≤ 100) ∧ Hid (Below w.heap.size w wl)) (fun i _ => 256 - (intOf i).toNat)
        case atStart => exact ⟨0, R, Nat.zero_le _, rfl, HP, HI, HL0, hb⟩
        case round =>
          clear HP HI HL0 hb hbl hpl HP2 B2
          obtain ⟨now, R, hnow, rfl, HP, HI, HL, hb⟩ := hrel
          by_cases hlt2 : now < 256
          · have hlt2' : (now : Int) < 256 := by omega
            go_wp2_with fail
            refine (due_wh HS.out (now : Int) HP.out (by have := HL.out; omega) hk2).mono ?_
            rintro e3 w3 ⟨⟨A3, n3, c3, D, rfl, ho3, hd3, -⟩, hp3, hc3⟩
            have HO3 := Lib.hid ho3
            have HD3 := Lib.hid (HI.out.due hd3)
            have HDL := Lib.hid (own_len encTm_len (by omega) ho3)
            have HP3 := Lib.hid hp3
            have HI3 := Lib.hid (HI.out.later (now := now))
            have HL3 := Lib.hid (Nat.le_trans (laterR_len R now) HL.out)
            have B3 := Lib.hid (hb.out.trans (Chg.to_below (B := w.heap.size) hc3 (fun q hq => by rw [hq]; exact hbw.out) hb.out.size))
            clear ho3 hd3 hp3 hc3 HP HI HL hb
            generalize laterR R now = R3 at *
            go_wp2_with fail
            go_loopw [37] (fun s37 wi => ∃ j : Nat, j ≤ n3 ∧ s37 = .int .i64 j ∧ Hid (Below w3.heap.size w3 wi)) (fun i _ => n3 - (intOf i).toNat)
            case atStart => exact ⟨0, Nat.zero_le _, rfl, Lib.hid (Below.refl _ _)⟩
            case round =>
              obtain ⟨j, hj, rfl, hb4⟩ := hrel
              by_cases hlt4 : j < n3
              · have hlt4' : (j : Int) < n3 := by omega
                obtain ⟨x, hx⟩ : ∃ x, D[j]? = some x := ⟨D[j]'(by have := HDL.out; omega), List.getElem?_eq_getElem (by have := HDL.out; omega)⟩
                obtain ⟨i, hi, rfl⟩ := HD3.out x (List.mem_of_getElem? hx)
                have hil : i < n := by have := (List.getElem?_eq_some_iff.1 hi).1; have := HLT.out; omega
                obtain ⟨g, rfl, -, hgl, hnc3, hcm3, y0, y1, y2, y3, y4, y5⟩ := own_tm (own_below2 HO3.out hb4.out) hx
                have BB := Lib.hid (B3.out.trans (hb4.out.mono B3.out.size))
                obtain ⟨g', o', a', rfl, hgl', hx', -, ha0, ha1, hy⟩ := Arr.at (HT.out.below BB.out) hil
                have ea : a' = (now : Int) := by rw [hi] at hx'; injection hx' with hx'; exact hx'.symm
                subst ea
                rw [Nat.mul_one] at hy
                have hgw := Nat.lt_of_lt_of_le hgl' BB.out.size
                have i1 : ¬ ((i : Int) < 0) := by omega
                have i2 : ((i : Int) < n) := by omega
                have hne : ((now : Int) != (now : Int)) = false := by simp
                have B5 := Lib.hid ((hb4.out).alloc hb4.out.size (.cells (encTm (tmO i)).toArray 33))
                unfold maxLen at hcm3
                unfold tmO at y0 y1 y2 y3 y4 y5
                dsimp only at y0 y1 y2 y3 y4 y5
                clear hx hi hx'
                go_wp2
                go_roundw
                case rel => exact ⟨j + 1, by omega, by go_num, B5⟩
                case measure => simp [intOf]; omega
              · have B5 := Lib.hid (B3.out.trans (hb4.out.mono B3.out.size))
                have P5 := Lib.hid (HP3.out.below hb4.out)
                go_wp2
                refine ⟨⟨now + 1, R3, by omega, by go_num, P5, Lib.hid (by have := HI3.out; simpa using this), HL3, B5⟩, by simp [intOf]; omega⟩
          · have hn256 : now = 256 := by omega
            subst hn256
            have hR : R = [] := InvO.none HI.out
            subst hR
            go_wp2_with (go_at_call 19; refine (len_wh HP.out).mono ?_; rintro e6 w6 ⟨rfl, rfl⟩)
            go_ret
            exact ⟨rfl, hb.out⟩
end Go.Proofs.Ytaghophkfogdgaa
