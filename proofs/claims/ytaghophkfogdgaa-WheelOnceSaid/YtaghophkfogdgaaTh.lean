/- The document's wheel: numbers and less. No conditions. -/
import Derived.Test.YtaghophkfogdgaaTd
namespace Go.Proofs.Ytaghophkfogdgaa
open Go.RowKit

/-- An entry's cells, and its numbers. -/
def encEn (e : En) : List Value := [.int .i64 e.tick, .int .i64 e.t.kind, .int .i64 e.t.lan, .int .i64 e.t.id, .int .i64 e.t.kk, .int .i64 e.t.ki, .int .i64 e.t.ka]
def numsE (e : En) : List Int := [e.tick, e.t.kind, e.t.lan, e.t.id, e.t.kk, e.t.ki, e.t.ka]
theorem encEn_len (e : En) : (encEn e).length = 7 := rfl
theorem encEn_ones (e : En) : ∀ v ∈ encEn e, v.oneCell' = true := by
  intro v hv
  simp only [encEn, List.mem_cons, List.not_mem_nil, or_false] at hv
  rcases hv with rfl | rfl | rfl | rfl | rfl | rfl | rfl <;> rfl
/-- The first unlike number tells. -/
def lessL : List Int → List Int → Bool
  | a :: x, b :: y => if a = b then lessL x y else decide (a < b)
  | _, _ => false
def lessE (a b : En) : Bool := lessL (numsE a) (numsE b)
theorem numbers_ok (e : En) (w : World) : Calls Try.prog 23 #[.agg #[.int .i64 e.tick, .int .i64 e.t.kind, .int .i64 e.t.lan, .int .i64 e.t.id, .int .i64 e.t.kk, .int .i64 e.t.ki, .int .i64 e.t.ka]] w
    fun x w' => ∃ g, x = .returned (.slice (some ⟨g, 0, none⟩) 7 7) ∧ Blk w' g 3 ((numsE e).map (Value.int .i64)).toArray ∧ Below w.heap.size w w' := by
  have B0 := Lib.hid (below_new2 w (.cells #[.int .i64 e.tick, .int .i64 e.t.kind, .int .i64 e.t.lan, .int .i64 e.t.id, .int .i64 e.t.kk, .int .i64 e.t.ki, .int .i64 e.t.ka] 48) (.cells #[.int .i64 e.tick, .int .i64 e.t.kind, .int .i64 e.t.lan, .int .i64 e.t.id, .int .i64 e.t.kk, .int .i64 e.t.ki, .int .i64 e.t.ka] 3))
  have K1 := Lib.hid (blk_new1 w (.cells #[.int .i64 e.tick, .int .i64 e.t.kind, .int .i64 e.t.lan, .int .i64 e.t.id, .int .i64 e.t.kk, .int .i64 e.t.ki, .int .i64 e.t.ka] 48) 3 #[.int .i64 e.tick, .int .i64 e.t.kind, .int .i64 e.t.lan, .int .i64 e.t.id, .int .i64 e.t.kk, .int .i64 e.t.ki, .int .i64 e.t.ka])
  go_enter Try.func23, Try.ntmps23
  go_wp2
  go_ret
  exact ⟨_, rfl, K1.out, B0.out⟩
theorem lessL_next {x y : List Int} {i : Nat} {a b : Int} (ha : x[i]? = some a) (hb : y[i]? = some b) : lessL (x.drop i) (y.drop i) = if a = b then lessL (x.drop (i + 1)) (y.drop (i + 1)) else decide (a < b) := by
  obtain ⟨h1, h2⟩ := List.getElem?_eq_some_iff.1 ha
  obtain ⟨h3, h4⟩ := List.getElem?_eq_some_iff.1 hb
  rw [List.drop_eq_getElem_cons h1, List.drop_eq_getElem_cons h3, h2, h4]
  rfl
theorem blk_int {w : World} {g : Nat} {x : List Int} (h : Blk w g 3 (x.map (Value.int .i64)).toArray) {i : Nat} {a : Int} (hi : x[i]? = some a) : w.cell? ⟨g, i, none⟩ = some (.int .i64 a) := by
  rw [h.cell]
  simp [hi]
set_option maxRecDepth 4000 in
set_option maxHeartbeats 2000000 in
theorem less_ok (a b : En) (w : World) : Calls Try.prog 20 #[.agg #[.int .i64 a.tick, .int .i64 a.t.kind, .int .i64 a.t.lan, .int .i64 a.t.id, .int .i64 a.t.kk, .int .i64 a.t.ki, .int .i64 a.t.ka], .agg #[.int .i64 b.tick, .int .i64 b.t.kind, .int .i64 b.t.lan, .int .i64 b.t.id, .int .i64 b.t.kk, .int .i64 b.t.ki, .int .i64 b.t.ka]] w
    fun x w' => x = .returned (.bool (lessE a b)) ∧ Below w.heap.size w w' := by
  have B0 := Lib.hid (below_new2 w (.cells #[.int .i64 a.tick, .int .i64 a.t.kind, .int .i64 a.t.lan, .int .i64 a.t.id, .int .i64 a.t.kk, .int .i64 a.t.ki, .int .i64 a.t.ka] 48) (.cells #[.int .i64 b.tick, .int .i64 b.t.kind, .int .i64 b.t.lan, .int .i64 b.t.id, .int .i64 b.t.kk, .int .i64 b.t.ki, .int .i64 b.t.ka] 48))
  have K0 := Lib.hid (blk_new1 w (.cells #[.int .i64 a.tick, .int .i64 a.t.kind, .int .i64 a.t.lan, .int .i64 a.t.id, .int .i64 a.t.kk, .int .i64 a.t.ki, .int .i64 a.t.ka] 48) 48 #[.int .i64 b.tick, .int .i64 b.t.kind, .int .i64 b.t.lan, .int .i64 b.t.id, .int .i64 b.t.kk, .int .i64 b.t.ki, .int .i64 b.t.ka])
  obtain ⟨r, hr⟩ : ∃ r, r = lessE a b := ⟨_, rfl⟩
  rw [← hr]
  have HR := Lib.hid hr
  clear hr
  go_enter Try.func20, Try.ntmps20
  go_wp2_with fail
  generalize (w.alloc (.cells #[.int .i64 a.tick, .int .i64 a.t.kind, .int .i64 a.t.lan, .int .i64 a.t.id, .int .i64 a.t.kk, .int .i64 a.t.ki, .int .i64 a.t.ka] 48)).alloc (.cells #[.int .i64 b.tick, .int .i64 b.t.kind, .int .i64 b.t.lan, .int .i64 b.t.id, .int .i64 b.t.kk, .int .i64 b.t.ki, .int .i64 b.t.ka] 48) = w0 at *
  refine (numbers_ok a _).mono ?_
  rintro e1 w1 ⟨g1, rfl, hx1, hb1⟩
  have hl0 := K0.out.lt
  have K1 := Lib.hid (K0.out.below hb1 hl0)
  have B1 := Lib.hid (B0.out.trans (hb1.mono B0.out.size))
  have X1 := Lib.hid hx1
  have k0 := K1.out.cell 0
  have k1 := K1.out.cell 1
  have k2 := K1.out.cell 2
  have k3 := K1.out.cell 3
  have k4 := K1.out.cell 4
  have k5 := K1.out.cell 5
  have k6 := K1.out.cell 6
  simp at k0 k1 k2 k3 k4 k5 k6
  clear hx1 hb1 hl0
  go_wp2_with fail
  refine (numbers_ok b _).mono ?_
  rintro e2 w2 ⟨g2, rfl, hx2, hb2⟩
  have X2 := Lib.hid hx2
  have X12 := Lib.hid (X1.out.below hb2 X1.out.lt)
  have B2 := Lib.hid (B1.out.trans (hb2.mono B1.out.size))
  have HLA := Lib.hid (show (numsE a).length = 7 from rfl)
  have HLB := Lib.hid (show (numsE b).length = 7 from rfl)
  have HR2 := Lib.hid (show r = lessL (numsE a) (numsE b) from HR.out)
  generalize numsE a = x at *
  generalize numsE b = y at *
  clear hx2 hb2 k0 k1 k2 k3 k4 k5 k6 K1 K0 X1 B0 B1 HR
  go_wp2_with fail
  go_loopw [7] (fun s7 wr => ∃ i d : Nat, i ≤ 7 ∧ s7 = .int .i64 i ∧ wr = w2.drewN d ∧ Hid (lessL (x.drop i) (y.drop i) = r)) (fun s _ => 7 - (intOf s).toNat)
  case atStart => exact ⟨0, 0, Nat.zero_le _, rfl, rfl, Lib.hid HR2.out.symm⟩
  case round =>
    obtain ⟨i, d, hi, rfl, rfl, HI⟩ := hrel
    by_cases hlt : i < 7
    · obtain ⟨u, hu⟩ : ∃ u, x[i]? = some u := ⟨x[i]'(by rw [HLA.out]; exact hlt), List.getElem?_eq_getElem _⟩
      obtain ⟨v, hv⟩ : ∃ v, y[i]? = some v := ⟨y[i]'(by rw [HLB.out]; exact hlt), List.getElem?_eq_getElem _⟩
      have HN := Lib.hid ((lessL_next hu hv).symm.trans HI.out)
      have hcx := blk_int X12.out hu
      have hcy := blk_int X2.out hv
      clear hu hv HI
      have hlt' : (i : Int) < 7 := by omega
      by_cases huv : u = v
      · subst huv
        have HN2 := Lib.hid (show lessL (x.drop (i + 1)) (y.drop (i + 1)) = r by have := HN.out; simpa using this)
        clear HN
        go_wp2_with fail
        go_quiet (fail)
        go_wp2
        go_roundw
        case rel => exact ⟨i + 1, _, by omega, by go_num, rfl, HN2⟩
        case measure => simp [intOf]; omega
      · have h1 : (u != v) = true := by simpa using huv
        have HD := Lib.hid (show decide (u < v) = r by have := HN.out; rw [if_neg huv] at this; exact this)
        clear huv HN
        go_wp2_with fail
        go_quiet (fail)
        go_wp2_with fail
        go_quiet (fail)
        go_wp2
        go_ret
        exact ⟨by rw [← HD.out]; rfl, below_drewN (below_drewN (below_drewN B2.out _) _) _⟩
    · have hi7 : i = 7 := by omega
      have HF := Lib.hid (show false = r by
        have := HI.out
        rw [hi7, List.drop_eq_nil_of_le (by rw [HLA.out]; exact Nat.le_refl _)] at this
        exact this)
      clear hi7
      go_wp2
      go_ret
      exact ⟨by rw [← HF.out]; rfl, below_drewN B2.out _⟩
end Go.Proofs.Ytaghophkfogdgaa
