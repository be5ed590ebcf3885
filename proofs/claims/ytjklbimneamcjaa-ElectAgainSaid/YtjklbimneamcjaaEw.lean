/- The walk of the statement ElectAgain. Conditions: what the words say. -/
import Derived.Test.YtjklbimneamcjaaEr
import Derived.Test.YtjklbimneamcjaaEx
namespace Go.Proofs.Ytjklbimneamcjaa
open Go.RowKit

set_option maxRecDepth 8000 in
set_option maxHeartbeats 8000000 in
theorem again_walk (A : Option Addr) (n c : Nat) (L : List Cd) (zn : Nat) (w : World) (hs : Cds w w.heap.size A n L) (hn : n ≤ maxLen) (hz : zn ≤ 255) :
    Calls Try.prog 7 #[.slice A n c, .int .u8 (zn : Int)] w fun e w' => e = .returned (.bool true) ∧ Below w.heap.size w w' := by
  have HP := Lib.hid hs
  have HLEN := Lib.hid hs.1
  have HN := Lib.hid hn
  clear hs hn
  go_enter Try.func7, Try.ntmps7
  go_wp2_with fail
  refine (wakes_any w).mono ?_
  rintro e1 w1 ⟨rfl, hb1⟩
  have B1 := Lib.hid hb1
  have P1 := Lib.hid ((HP.out.below hb1).more hb1.size)
  clear hb1
  by_cases hn : 30 < n
  · have d1 : decide ((30 : Int) < (n : Int)) = true := by simp; omega
    go_wp2
    go_ret
    exact ⟨rfl, B1.out⟩
  have d1 : decide ((30 : Int) < (n : Int)) = false := by simp; omega
  go_wp2_with fail
  refine (apart_any P1.out (Nat.le_refl _) HN.out).mono ?_
  rintro e2 w2 ⟨⟨r, rfl, hr⟩, hb2⟩
  have B2 := Lib.hid (B1.out.trans (hb2.mono B1.out.size))
  have P2 := Lib.hid ((P1.out.below hb2).more hb2.size)
  clear hb2 P1 B1
  cases r
  · clear hr
    go_wp2
    go_ret
    exact ⟨rfl, B2.out⟩
  have HAP := Lib.hid (hr.1 rfl)
  clear hr
  by_cases hn0 : n = 0
  · subst hn0
    go_wp2
    go_ret
    exact ⟨rfl, B2.out⟩
  have hn1 : ((n : Int) == 0) = false := by simp; omega
  have hn4 : n ≤ 1048576 := by omega
  have hnp : (0 : Int) < (n : Int) := by omega
  obtain ⟨k, hk⟩ : ∃ k : Nat, (zn : Int) % (n : Int) = (k : Int) := ⟨((zn : Int) % (n : Int)).toNat, by have := Int.emod_nonneg (zn : Int) (show (n : Int) ≠ 0 by omega); omega⟩
  have hkn : (k : Int) < (n : Int) := by rw [← hk]; exact Int.emod_lt_of_pos _ hnp
  have hkn' : k < n := by omega
  obtain ⟨x, hx⟩ : ∃ x, L[k]? = some x := ⟨L[k]'(by have := HLEN.out; omega), List.getElem?_eq_getElem (by have := HLEN.out; omega)⟩
  obtain ⟨td, htd⟩ : ∃ r, r = (elecC L x.id).1 := ⟨_, rfl⟩
  obtain ⟨tb, htb⟩ : ∃ r, r = (elecC L x.id).2 := ⟨_, rfl⟩
  have HT := Lib.hid (show elecC L x.id = (td, tb) by rw [htd, htb])
  have HAG := Lib.hid (elecC_again HAP.out hx HT.out)
  have HX := Lib.hid hx
  clear htd htb hx

  have BE := Lib.hid ((Below.refl w2.heap.size w2).alloc (Nat.le_refl _) (.cells #[] 33))
  have OE := Lib.hid (own_empty w2)
  have PE := Lib.hid (P2.out.below BE.out)
  have hse : w2.heap.size ≤ (w2.alloc (.cells #[] 33)).heap.size := by simp

  go_upto_region 6 with (at_builtin; refine wpList_append_any rfl (.tmp 26) (.tmp 27) 22 33 (.agg #[.int .i64 0, .int .i64 0, .int .i64 0, .int .i64 0]) 4 32 Try.underlying22 Try.infoCand rfl (by decide) (by decide) rfl w2.heap.size (.slice (some ⟨w2.heap.size, 0, none⟩) 0 0) 0 [] (by rfl) OE.out A n c (cellsBy encCd L) (by rfl) (by rw [by_length encCd_len, P2.out.1]) PE.out.cells.1 PE.out.cells.2 (by_ones encCd_ones L) (by omega) hse ?_; intro v3 w3 ho3 hg3; obtain ⟨A3, c3, rfl⟩ := own_slice ho3.out)
  rw [Nat.zero_add, List.nil_append] at ho3
  have B3 := Lib.hid (B2.out.trans ((BE.out.trans (own_keeps7 OE.out hg3.out hse)).mono B2.out.size))
  have hw2 := B2.out.size
  clear hg3 OE PE BE hse P2 HP B2
  obtain ⟨g, rfl, hg2, hgl, hnc, hcm, y0, y1, y2, y3⟩ := own_cd ho3.out HX.out
  unfold maxLen at hcm
  have hcn : (n : Int) ≤ c3 := by omega
  go_wp2_with fail
  refine (elect_any x.id (own_cds ho3.out) (Nat.le_refl _) HAP.out hn4).mono ?_
  rintro e4 w4 ⟨rfl, hb4⟩
  rw [HT.out]
  dsimp only
  have O4 := Lib.hid (own_below2 ho3.out hb4)
  have B4 := Lib.hid (B3.out.trans (hb4.mono B3.out.size))
  clear hb4 ho3 B3 y0 y1 y2 y3
  obtain ⟨g', eg, _, hgl4, _, _, y0, y1, y2, y3⟩ := own_cd O4.out HX.out
  injection eg with eg
  injection eg with eg
  subst eg
  have z2 := own_frozen O4.out (k * 4 + 2)
  have z3 := own_frozen O4.out (k * 4 + 3)
  have O5 := Lib.hid (own_put1 (own_put1 O4.out HX.out ⟨x.id, x.prio, td, x.bdr⟩ 2 (.int .i64 td) (by omega) rfl) (x := ⟨x.id, x.prio, td, x.bdr⟩) (by rw [List.getElem?_set, if_pos rfl, if_pos (List.getElem?_eq_some_iff.1 HX.out).1]) ⟨x.id, x.prio, td, tb⟩ 3 (.int .i64 tb) (by omega) rfl)
  have hwg : w.heap.size ≤ g := by omega
  have B5 := Lib.hid ((B4.out.setCell (p := ⟨g, k * 4 + 2, none⟩) hwg (.int .i64 td)).setCell (p := ⟨g, k * 4 + 3, none⟩) hwg (.int .i64 tb))
  go_upto_region 9 with fail
  rw [List.set_set] at O5
  generalize (w4.setCell ⟨g, k * 4 + 2, none⟩ (.int .i64 td)).setCell ⟨g, k * 4 + 3, none⟩ (.int .i64 tb) = w5 at *
  clear y0 y1 y2 y3 z2 z3 O4 B4 hgl4 hgl
  have HX5 := Lib.hid (show (L.set k ⟨x.id, x.prio, td, tb⟩)[k]? = some ⟨x.id, x.prio, td, tb⟩ by rw [List.getElem?_set, if_pos rfl, if_pos (List.getElem?_eq_some_iff.1 HX.out).1])
  have HAP5 := Lib.hid (HAP.out.keys (set_keys (c' := ⟨x.id, x.prio, td, tb⟩) HX.out rfl))
  obtain ⟨g', eg, _, hgl5, _, _, y0, y1, y2, y3⟩ := own_cd O5.out HX5.out
  injection eg with eg
  injection eg with eg
  subst eg
  dsimp only at y0 y1 y2 y3
  go_wp2_with fail
  refine (elect_any x.id (own_cds O5.out) (Nat.le_refl _) HAP5.out hn4).mono ?_
  rintro e6 w6 ⟨rfl, hb6⟩
  rw [HAG.out.1]
  dsimp only
  have O6 := Lib.hid (own_below2 O5.out hb6)
  have B6 := Lib.hid (B5.out.trans (hb6.mono B5.out.size))
  clear hb6 y0 y1 y2 y3 hgl5 O5 B5
  obtain ⟨g', eg, _, hgl6, _, _, y0, y1, y2, y3⟩ := own_cd O6.out HX5.out
  injection eg with eg
  injection eg with eg
  subst eg
  dsimp only at y0 y1 y2 y3
  have q1 : (td == td) = true := by simp
  have q2 : (tb == tb) = true := by simp
  by_cases h1 : td = tb
  · have d2 : (td != tb) = false := by simp [h1]
    by_cases h2 : td = 0
    · have d3 : (td == 0) = true := by simp [h2]
      clear h1 h2
      go_wp2
      go_ret
      exact ⟨rfl, B6.out⟩
    · have d3 : (td == 0) = false := by simp [h2]
      have d4 : (td != x.id) = true := by
        rcases HAG.out.2 with h | h | h
        · exact absurd h1 h
        · exact absurd h h2
        · simpa using h
      clear h1 h2
      go_wp2
      go_ret
      exact ⟨rfl, B6.out⟩
  · have d2 : (td != tb) = true := by simp [h1]
    clear h1
    go_wp2
    go_ret
    exact ⟨rfl, B6.out⟩

end Go.Proofs.Ytjklbimneamcjaa
