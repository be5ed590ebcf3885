/- The walk of the statement SummGone. Conditions: what the words say. -/
import Derived.Test.YtiibefgdlmjdgaaYc
import Derived.Test.YtiibefgdlmjdgaaYb
import Derived.Test.YtiibefgdlmjdgaaUx
import Derived.Test.YtiibefgdlmjdgaaUp
namespace Go.Proofs.Ytiibefgdlmjdgaa
open Go.RowKit Go.Lib Go.Sort Go.Deep

set_option maxRecDepth 8000 in
set_option maxHeartbeats 4000000 in
theorem keys13_yes {w : World} {base base' : Nat} {A A' : Option Addr} {n c n' c' : Nat} {K : List Ky} (hK : w.ownsRow base 38 3 (.slice A n c) n (kyCells K)) (hK' : w.ownsRow base' 38 3 (.slice A' n' c') n' (kyCells K)) :
    Calls Try.prog 18 #[.slice A n c, .slice A' n' c'] w fun e w' => e = .returned (.bool true) ∧ ∃ d, w' = w.drewN d := by
  have HR := Lib.hid hK
  have HR' := Lib.hid hK'
  obtain rfl : n = n' := (own_lenK hK).symm.trans (own_lenK hK')
  have HL := Lib.hid (own_lenK hK)
  clear hK hK'
  have hnn : ((n : Int) != n) = false := by simp
  go_enter Try.func18, Try.ntmps18
  go_wp2
  go_loopw [5] (fun i wr => ∃ k d : Nat, k ≤ n ∧ i = .int .i64 k ∧ Hid (wr = w.drewN d)) (fun i _ => n - (intOf i).toNat)
  case atStart => exact ⟨0, 0, Nat.zero_le _, rfl, Lib.hid rfl⟩
  case round =>
    obtain ⟨k, d, hk, rfl, HW⟩ := hrel
    by_cases hlt : k < n
    · obtain ⟨x, hx⟩ : ∃ x, K[k]? = some x := ⟨_, List.getElem?_eq_getElem (by have := HL.out; omega)⟩
      have O1 : wr.ownsRow base 38 3 (.slice A n c) n (kyCells K) := by rw [HW.out]; exact HR.out
      have O2 : wr.ownsRow base' 38 3 (.slice A' n c') n (kyCells K) := by rw [HW.out]; exact HR'.out
      obtain ⟨b, rfl, -, hbl, hc1, hc2, x0, x1, x2⟩ := own_kyH O1 hx
      obtain ⟨b', rfl, -, hbl', hc1', hc2', y0, y1, y2⟩ := own_kyH O2 hx
      unfold maxLen at hc2 hc2'
      have hlt' : (k : Int) < n := by omega
      have eK := fun W => equalKy x x W
      rw [show sameKy x x = true from (sameKy_iff _ _).2 rfl] at eK
      clear hx O1 O2
      go_wp2_with fail
      go_quiet (fail)
      have HW2 := Lib.hid (show wr.drewN nq = w.drewN (d + nq) by rw [HW.out, World.drewN_drewN])
      clear x0 x1 x2 y0 y1 y2 eK HW
      go_wp2
      go_roundw
      case rel => exact ⟨k + 1, _, by omega, by go_num, HW2⟩
      case measure => simp [intOf]; omega
    · go_wp2
      go_ret
      exact ⟨rfl, _, HW.out⟩
/-- What All answers, read. -/
theorem all_las {w : World} {lo p : Nat} {room : Int} {S : List La} {F : Nat → Prop} (h : PDb w lo p room S F) (hs : SortL S) : Calls Try.prog 25 #[.pointer (some ⟨p, 0, none⟩)] w
    fun e w' => ∃ (A : Option Addr) (n c : Nat), e = .returned (.slice A n c) ∧ Below w.heap.size w w' ∧ Las w' w'.heap.size A n S ∧ n ≤ 40 := by
  have h0 := h
  obtain ⟨b, R, T, hB, h1, h2, hM, hA, hp, h3, h4, h5, hF⟩ := h
  refine (all_db h0 hs).mono ?_
  rintro e w' ⟨A, n, c, R', rfl, hb, ho, ha⟩
  have hL := las_of_own ho ha (fun x hx => right_short (h5 x hx))
  exact ⟨A, n, c, rfl, hb, hL, by have := hL.1; omega⟩
set_option maxRecDepth 20000 in
set_option maxHeartbeats 16000000 in
theorem gone_walk {w : World} {A : Option Addr} {n c : Nat} {T : List La} (hT : Las w w.heap.size A n T) (hn : n ≤ maxLen) : Calls Try.prog 7 #[.slice A n c] w fun e w' => e = .returned (.bool true) ∧ Below w.heap.size w w' := by
  have HT := Lib.hid hT
  have HN := Lib.hid hn
  clear hT hn
  go_enter Try.func7, Try.ntmps7
  go_wp2_with fail
  refine (wakes_any _).mono ?_
  rintro e1 w1 ⟨rfl, hb1⟩
  have B1 := Lib.hid hb1
  clear hb1
  go_wp2_with fail
  refine (many_any A n c T w.heap.size w1 (HT.out.below B1.out) B1.out.size HN.out).mono ?_
  rintro e2 w2 ⟨⟨t, rfl, ht⟩, hb2⟩
  have B2 := Lib.hid (B1.out.trans (hb2.mono B1.out.size))
  clear hb2 B1
  cases t
  case true =>
    go_wp2
    go_ret
    exact ⟨rfl, B2.out⟩
  obtain ⟨hn60, h20⟩ := ht rfl
  have H20 := Lib.hid h20
  clear ht HN h20
  go_wp2_with fail
  refine (both13_any (HT.out.below B2.out) B2.out.size (by omega) H20.out).mono ?_
  rintro e3 w3 ⟨lo2, p, g, S, F, F', rfl, hb3, hlo2, hD⟩
  have B3 := Lib.hid (B2.out.trans (hb3.mono B2.out.size))
  have HS := Lib.hid hD.sort
  have PD := Lib.hid hD.1
  obtain ⟨Ax, nx, cx, hbx, hLx, hnx⟩ := hD.2.1.list
  have HSL := Lib.hid hLx.1
  have T3 := Lib.hid (HT.out.below B3.out)
  have hzw := B3.out.size
  clear hb3 hD hLx B2 H20 hlo2
  generalize w2.heap.size = lo at *
  have hTl := HT.out.1
  have hgT := gone_len T
  have x0 : w3.cell? ⟨g, 0, none⟩ = some (.slice Ax nx cx) := hbx.cell 0
  have hgl := hbx.lt
  clear hbx
  go_wp2_with fail
  have BR : Below w3.heap.size w3 w3.drew := ⟨rfl, rfl, rfl, Nat.le_refl _, fun _ _ => rfl⟩
  go_region_held3 (fun w' => Below w3.heap.size w3 w' ∧ (∀ b o, b < w3.heap.size → w'.cell? ⟨b, o, none⟩ = w3.cell? ⟨b, o, none⟩)) ((refine keepW ?_; first | with_reducible exact BR11 | with_reducible exact BR10 | with_reducible exact BR9 | with_reducible exact BR8 | with_reducible exact BR7 | with_reducible exact BR6 | with_reducible exact BR5 | with_reducible exact BR)) (first
    | (go_at_call 39; refine (rgone_any (T3.out.below (BR5.mono hzw)) (Nat.le_trans hzw BR5.size) (by omega)).mono ?_; rintro e6 w6 ⟨A6, m6, c6, rfl, hb6, hO6⟩; have BR6 := BR5.trans (hb6.mono BR5.size); have O56 := own_chg hO5 (Chg.of_below (F := fun _ => False) hb6) (fun _ _ hf => hf))
    | (go_at_call 18; refine (keys13_yes O56 hO6).mono ?_; rintro e7 w7 ⟨rfl, q7, rfl⟩; have BR7 := BR6.trans (⟨rfl, rfl, rfl, Nat.le_refl _, fun _ _ => rfl⟩ : Below w3.heap.size w6 (w6.drewN q7)); have D7 : PDb (w6.drewN q7) lo p 40 S F := PD.out.chg (F' := fun _ => False) (Chg.of_below BR7) (fun _ _ hf => hf))
    | (go_at_call 32; refine (heads_any hL10 (Nat.le_refl _) (by omega)).mono ?_; rintro e11 w11 ⟨A11, m11, c11, K11, rfl, hb11, hO11, -, hst⟩; have BR11 := BR10.trans (hb11.mono BR10.size); have hsum : m9 + m11 = nx := (by have h1 := own_lenK hO9; have h2 := own_lenH encHd_len (by omega) hO11; have h3 := hst.1; have h4 := gone_told HS.out; have h5 := HSL.out; omega); have e_s : (m9 : Int) + (m11 : Int) = (nx : Int) := (by omega); have w_s : IntKind.i64.wrap (nx : Int) = (nx : Int) := (by rw [IntKind.wrap_i64]; omega))
    | (go_at_call 38; refine (goneS_any hL8 (Nat.le_refl _) (by omega)).mono ?_; rintro e9 w9 ⟨A9, m9, c9, rfl, hb9, hO9⟩; have BR9 := BR8.trans (hb9.mono BR8.size); have D9 : PDb w9 lo p 40 S F := D8.chg (F' := fun _ => False) (Chg.of_below hb9) (fun _ _ hf => hf))
    | (go_at_call 38; refine (goneS_any (T3.out.below (BR.mono hzw)) (Nat.le_trans hzw BR.size) (by omega)).mono ?_; rintro e5 w5 ⟨A5, m5, c5, rfl, hb5, hO5⟩; have BR5 := BR.trans (show Below w3.heap.size w3.drew w5 from hb5))
    | (go_at_call 25; refine (all_las D9 HS.out).mono ?_; rintro e10 w10 ⟨A10, m10, c10, rfl, hb10, hL10, hm10⟩; have BR10 := BR9.trans (hb10.mono BR9.size))
    | (go_at_call 25; refine (all_las D7 HS.out).mono ?_; rintro e8 w8 ⟨A8, m8, c8, rfl, hb8, hL8, hm8⟩; have BR8 := BR7.trans (hb8.mono BR7.size); have D8 : PDb w8 lo p 40 S F := D7.chg (F' := fun _ => False) (Chg.of_below hb8) (fun _ _ hf => hf)))
  all_goals (go_wp2; go_ret; exact ⟨rfl, B3.out.trans (BR11.mono hzw)⟩)
end Go.Proofs.Ytiibefgdlmjdgaa
