/- The document's example, of any sort that does what a sort must of two timers. Conditions: what the words say. -/
import Derived.Test.YtaghophkfogdgaaTq
import Derived.Test.YtaghophkfogdgaaTe
import Derived.Test.YtaghophkfogdgaaTf
namespace Go.Proofs.Ytaghophkfogdgaa
open Go.RowKit

def exA : Tm := ⟨2, 0, 0, 0, 0, 0⟩
def exB : Tm := ⟨1, 0, 0, 0, 0, 0⟩
theorem ex_arm : armAll 5 [] [exA, exB] = [⟨5, exB⟩, ⟨5, exA⟩] := by decide
theorem ex_due {D : List Tm} (hp : D.Perm (([⟨5, exB⟩, ⟨5, exA⟩] : List En).filter (fun e => decide (e.tick ≤ 5)) |>.map (·.t))) (hs : D.Pairwise (fun a b => leT [⟨5, exB⟩, ⟨5, exA⟩] a b = true)) : D = [exB, exA] := by
  have e : (([⟨5, exB⟩, ⟨5, exA⟩] : List En).filter (fun e => decide (e.tick ≤ 5)) |>.map (·.t)) = [exB, exA] := by decide
  rw [e] at hp
  have hl := hp.length_eq
  obtain ⟨x, y, rfl⟩ : ∃ x y, D = [x, y] := by
    match D, hl with
    | [x, y], _ => exact ⟨x, y, rfl⟩
  have hx := hp.mem_iff.1 (List.mem_cons_self (a := x) (l := [y]))
  have hxy := List.pairwise_cons.1 hs
  have h1 := hxy.1 y (by simp)
  simp only [List.mem_cons, List.not_mem_nil, or_false] at hx
  rcases hx with rfl | rfl
  · have := (List.perm_cons _).1 hp
    have := List.perm_singleton.1 this
    rw [this]
  · have h2 : [exA, y].Perm [exA, exB] := hp.trans (List.Perm.swap _ _ _)
    have := List.perm_singleton.1 ((List.perm_cons _).1 h2)
    injection this with this _
    subst this
    exact absurd h1 (by decide)
theorem ex_wf : ∀ t ∈ [exA, exB], wfTm t := by
  intro t ht
  simp only [List.mem_cons, List.not_mem_nil, or_false] at ht
  rcases ht with rfl | rfl
  · unfold wfTm inI exA; decide
  · unfold wfTm inI exB; decide
set_option maxRecDepth 8000 in
set_option maxHeartbeats 8000000 in
theorem wakes_any {k : Nat} (hS : SortUpto k) (hk : 2 ≤ k) (hk2 : k ≤ 1000) (w : World) : Calls Try.prog 6 #[] w fun e w' => e = .returned (.bool true) ∧ Below w.heap.size w w' := by
  go_enter Try.func6, Try.ntmps6
  go_wp2_with fail
  refine (new_wh w).mono ?_
  rintro e1 w1 ⟨p, b, rfl, hb1, hp1, hpl, hbl⟩
  have HP1 := Lib.hid hp1
  have HB1 := Lib.hid hb1
  clear hp1 hb1
  go_upto_region 2 with fail
  have b1 : ∀ W, (Instr.build 33 #[(0, .int .i64 2)]).run Try.prog W = .ok (.agg #[.int .i64 2, .int .i64 0, .int .i64 0, .int .i64 0, .int .i64 0, .int .i64 0]) W := fun W => by kernel_rfl
  have b2 : ∀ W, (Instr.build 33 #[(0, .int .i64 1)]).run Try.prog W = .ok (.agg #[.int .i64 1, .int .i64 0, .int .i64 0, .int .i64 0, .int .i64 0, .int .i64 0]) W := fun W => by kernel_rfl
  have BA := Lib.hid ((Below.refl w1.heap.size w1).alloc (Nat.le_refl _) (.cells (cellsBy encTm [exA, exB]).toArray 33))
  have HPA := Lib.hid (HP1.out.below BA.out)
  have HOA := Lib.hid (own_blk (n := 2) (size := 6) (base := 0) (Blk.new w1 33 (cellsBy encTm [exA, exB]).toArray) rfl (by decide) (Nat.zero_le _))
  go_wp2_with (go_at_call 8; refine (arm_wh 5 HPA.out HOA.out ex_wf (by omega) (Nat.zero_le _)).mono ?_; rintro e2 w2 ⟨rfl, hp2, hc2⟩)
  rw [ex_arm] at hp2
  have HC2 := Lib.hid hc2
  have B2 := Lib.hid (Chg.to_below (B := w.heap.size) ((Chg.of_below (F := fun q => q = b) HB1.out).trans ((Chg.of_below (F := fun q => q = b) BA.out).trans hc2 (fun q hq => .inl hq)) (fun q hq => .inl hq)) (fun q hq => by rw [hq]; exact hbl) (Nat.le_refl _))
  refine (due_wh hS 5 hp2 hk hk2).mono ?_
  rintro e3 w3 ⟨⟨A, n, c, D, rfl, ho3, hd3, hs3⟩, hp3, hc3⟩
  have hD := ex_due hd3 hs3
  subst hD
  have hn := own_len encTm_len (by omega) ho3
  simp only [List.length_cons, List.length_nil] at hn
  subst hn
  have hl3 : laterR [⟨5, exB⟩, ⟨5, exA⟩] 5 = [] := by decide
  rw [hl3] at hp3
  have B3 := Lib.hid (B2.out.trans (Chg.to_below (B := w.heap.size) hc3 (fun q hq => by rw [hq]; exact hbl) B2.out.size))
  obtain ⟨g, rfl, -, hgl, hnc, hcm, y0, -, -, -, -, -⟩ := own_tm ho3 (j := 0) (x := exB) rfl
  have y0' : w3.cell? ⟨g, 0, none⟩ = some (.int .i64 1) := y0
  have HP3 := Lib.hid hp3
  unfold maxLen at hcm
  clear hd3 hs3 ho3 hp3 hc3 hp2 hc2 y0 hl3 b1 b2 HOA HPA
  go_wp2_with (go_at_call 13; refine (due_wh hS 6 HP3.out (Nat.zero_le _) hk2).mono ?_; rintro e4 w4 ⟨⟨A4, n4, c4, D4, rfl, ho4, hd4, hs4⟩, hp4, hc4⟩; have hD4 := hd4.length_eq; have hn4 := own_len encTm_len (by omega) ho4; have hn0 : n4 = 0 := (by rw [← hn4, hD4]; rfl); subst hn0; have B4 := Lib.hid (B3.out.trans (Chg.to_below (B := w.heap.size) hc4 (fun q hq => by rw [hq]; exact hbl) B3.out.size)); clear hD4 hn4 hd4 hs4 ho4 hp4 hc4)
  go_ret
  exact ⟨rfl, B4.out⟩
end Go.Proofs.Ytaghophkfogdgaa
