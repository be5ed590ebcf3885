/- New, router, fits, stands of the program. Conditions: what the words say. -/
import Derived.Test.YtfapphndfgoknaaHd
namespace Go.Proofs.Ytfapphndfgoknaa
open Go.RowKit Go.Deep

def inI (z : Int) : Prop := -9223372036854775808 ≤ z ∧ z ≤ 9223372036854775807
theorem new_any {sf lan : Int} (hs : 1 ≤ sf ∧ sf ≤ 15) (hl : 0 ≤ lan ∧ lan ≤ 3) (w : World) : Calls Try.prog 7 #[.int .i64 sf, .int .i64 lan] w
    fun e w' => e = .returned (.pointer (some ⟨w.heap.size, 0, none⟩)) ∧ PDb w' w.heap.size (fun k => k = w.heap.size) sf lan [] (fun _ => 0) ∧ Below w.heap.size w w' := by
  have B0 := Lib.hid ((Below.refl w.heap.size w).alloc (Nat.le_refl _) (.cells #[.int .i64 sf, .int .i64 lan, .pointer none, .pointer none, .pointer none, .pointer none, .pointer none, .pointer none, .pointer none, .pointer none, .pointer none, .pointer none, .pointer none, .pointer none, .pointer none, .pointer none, .pointer none, .pointer none] 57))
  have K0 := Lib.hid (Blk.new w 57 #[.int .i64 sf, .int .i64 lan, .pointer none, .pointer none, .pointer none, .pointer none, .pointer none, .pointer none, .pointer none, .pointer none, .pointer none, .pointer none, .pointer none, .pointer none, .pointer none, .pointer none, .pointer none, .pointer none])
  have HP := Lib.hid (show PDb (w.alloc (.cells #[.int .i64 sf, .int .i64 lan, .pointer none, .pointer none, .pointer none, .pointer none, .pointer none, .pointer none, .pointer none, .pointer none, .pointer none, .pointer none, .pointer none, .pointer none, .pointer none, .pointer none, .pointer none, .pointer none] 57)) w.heap.size (fun k => k = w.heap.size) sf lan [] (fun _ => 0) from
    ⟨K0.out, fun x hx => absurd hx (by simp), fun x hx => absurd hx (by simp), Srt.nil, hs, hl, rfl, fun x hx => absurd hx (by simp), fun k hk => by rw [hk]; exact K0.out.lt⟩)
  clear hs hl
  go_enter Try.func7, Try.ntmps7
  go_wp2
  go_ret
  exact ⟨rfl, HP.out, B0.out⟩
theorem wrap_on {l a : Int} (hl : 0 ≤ l ∧ l ≤ 3) (ha : inI a) (h0 : a ≠ 0) : rtB (wrap64 (a - l * 16)) = onB l a ∧ (onB l a = true → wrap64 (a - l * 16) = whoI a) := by
  unfold inI at ha
  unfold wrap64
  have e0 : (a == 0) = false := by simp [h0]
  unfold onB rtB whoI
  rw [e0, Bool.false_or]
  by_cases h : 1 ≤ a - l * 16 ∧ a - l * 16 ≤ 15
  · have e1 : (a - l * 16 + 9223372036854775808) % 18446744073709551616 - 9223372036854775808 = a - l * 16 := by omega
    rw [e1]
    refine ⟨rfl, fun _ => ?_⟩
    rw [Int.tmod_eq_emod_of_nonneg (by omega)]
    omega
  · have e2 : (decide (1 ≤ a - l * 16) && decide (a - l * 16 ≤ 15)) = false := by simp; omega
    rw [e2]
    refine ⟨?_, fun h => by cases h⟩
    simp
    omega
set_option maxRecDepth 8000 in
theorem router_any {w : World} {p : Nat} {F : Nat → Prop} {sf lan : Int} {X : List Pe} {bk : Int → Nat} (a : Int) (ha : inI a) (h : PDb w p F sf lan X bk) :
    Calls Try.prog 38 #[.pointer (some ⟨p, 0, none⟩), .int .i64 a] w fun e w' => (∃ z, e = .returned (.tuple #[.int .i64 z, .bool (onB lan a)]) ∧ (onB lan a = true → z = whoI a)) ∧ w' = w := by
  obtain ⟨-, c1, hpl⟩ := h.cells
  have hl := h.net
  clear h
  by_cases h0 : a = 0
  · subst h0
    go_enter Try.func38, Try.ntmps38
    go_wp2
    refine bodyPost_ret (v := .tuple #[.int .i64 0, .bool true]) (by simp [results, Try.results38, go_sem, *]) rfl ?_
    exact ⟨⟨0, rfl, fun _ => rfl⟩, rfl⟩
  · have d0 : (a == 0) = false := by simp [h0]
    obtain ⟨hw1, hw2⟩ := wrap_on hl ha h0
    have HW2 := Lib.hid hw2
    clear ha h0 hw2
    generalize onB lan a = o at *
    go_enter Try.func38, Try.ntmps38
    go_wp2_with fail
    refine (addr_any lan hl _).mono ?_
    rintro e1 w1 ⟨rfl, rfl⟩
    go_wp2_with fail
    refine (isLan_any lan hl _).mono ?_
    rintro e2 w2 ⟨rfl, rfl⟩
    go_wp2_with fail
    generalize wrap64 (a - lan * 16) = z at *
    refine (isRouter_any z _).mono ?_
    rintro e3 w3 ⟨rfl, rfl⟩
    rw [hw1]
    clear hw1
    go_wp2
    refine bodyPost_ret (v := .tuple #[.int .i64 z, .bool o]) (by simp [results, Try.results38, go_sem, *]) rfl ?_
    exact ⟨⟨z, rfl, HW2.out⟩, rfl⟩
/-- A Hello whose integers are ones. -/
structure wfHl (h : Hl) : Prop where
  p : inI h.prio
  d : inI h.dr
  b : inI h.bdr
set_option maxRecDepth 8000 in
set_option maxHeartbeats 4000000 in
theorem fits_any {w : World} {p : Nat} {F : Nat → Prop} {sf lan : Int} {X : List Pe} {bk : Int → Nat} (i : Int) (h : Hl) (A : Option Addr) (n c : Nat) (hh : wfHl h) (hD : PDb w p F sf lan X bk) :
    Calls Try.prog 22 #[.pointer (some ⟨p, 0, none⟩), .int .i64 i, .agg #[.int .i64 h.every, .int .i64 h.dead, .int .i64 h.prio, .int .i64 h.dr, .int .i64 h.bdr, .slice A n c]] w fun e w' => e = .returned (.bool (takesB sf lan i h)) ∧ Below w.heap.size w w' := by
  have B0 := Lib.hid ((Below.refl w.heap.size w).alloc (Nat.le_refl _) (.cells #[.int .i64 h.every, .int .i64 h.dead, .int .i64 h.prio, .int .i64 h.dr, .int .i64 h.bdr, .slice A n c] 32))
  have D0 := Lib.hid (hD.below B0.out)
  have K0 := Lib.hid (Blk.new w 32 #[.int .i64 h.every, .int .i64 h.dead, .int .i64 h.prio, .int .i64 h.dr, .int .i64 h.bdr, .slice A n c])
  obtain ⟨v, hv⟩ : ∃ v, takesB sf lan i h = v := ⟨_, rfl⟩
  rw [hv]
  have HV := Lib.hid hv
  have HH := Lib.hid hh
  clear hD hv hh
  go_enter Try.func22, Try.ntmps22
  by_cases h1 : h.every = 2
  · by_cases h2 : h.dead = 8
    · have d1 : (h.every != 2) = false := by simp [h1]
      have d2 : (h.dead != 8) = false := by simp [h2]
      have HE1 := Lib.hid h1
      have HE2 := Lib.hid h2
      clear h1 h2
      cases h3 : rtB i
      · have HC := Lib.hid (show false = v by rw [← HV.out]; simp [takesB, rtB] at h3 ⊢; omega)
        go_wp2_with fail
        generalize w.alloc (.cells #[.int .i64 h.every, .int .i64 h.dead, .int .i64 h.prio, .int .i64 h.dr, .int .i64 h.bdr, .slice A n c] 32) = w0 at *
        obtain ⟨k0, k1, k2, k3, k4, k5⟩ := K0.out.six
        have hkl := K0.out.lt
        go_wp2_with fail
        refine (isRouter_any i _).mono ?_
        rintro e1 w1 ⟨rfl, rfl⟩
        rw [h3]
        go_wp2
        go_ret
        exact ⟨by rw [← HC.out]; rfl, B0.out⟩
      · go_wp2_with fail
        generalize w.alloc (.cells #[.int .i64 h.every, .int .i64 h.dead, .int .i64 h.prio, .int .i64 h.dr, .int .i64 h.bdr, .slice A n c] 32) = w0 at *
        obtain ⟨k0, k1, k2, k3, k4, k5⟩ := K0.out.six
        have hkl := K0.out.lt
        go_wp2_with fail
        refine (isRouter_any i _).mono ?_
        rintro e1 w1 ⟨rfl, rfl⟩
        rw [h3]
        obtain ⟨c0, c1, hpl⟩ := D0.out.cells
        by_cases h4 : i = sf
        · have HC := Lib.hid (show false = v by rw [← HV.out]; simp [takesB, h4])
          subst h4
          go_wp2
          go_ret
          exact ⟨by rw [← HC.out]; rfl, B0.out⟩
        · have HC := Lib.hid (show (onB lan h.dr && onB lan h.bdr) = v by
            rw [← HV.out]
            simp [rtB] at h3
            have e4 : (i != sf) = true := by simp [h4]
            simp [takesB, HE1.out, HE2.out, h3.1, h3.2, e4])
          have d4 : (i == sf) = false := by simp [h4]
          clear h4
          go_wp2_with fail
          refine (router_any h.dr HH.out.d D0.out).mono ?_
          rintro e2 w2 ⟨⟨z2, rfl, -⟩, rfl⟩
          go_wp2_with fail
          refine (router_any h.bdr HH.out.b D0.out).mono ?_
          rintro e3 w3 ⟨⟨z3, rfl, -⟩, rfl⟩
          generalize onB lan h.dr = o1 at *
          generalize onB lan h.bdr = o2 at *
          cases o1
          · have HC2 := HC.out
            clear d1 d2 d4
            go_wp2
            go_ret
            exact ⟨by rw [← HC.out]; rfl, B0.out⟩
          · clear d1 d2 d4
            go_wp2
            go_ret
            exact ⟨by rw [← HC.out]; rfl, B0.out⟩
    · have d1 : (h.every != 2) = false := by simp [h1]
      have d2 : (h.dead != 8) = true := by simp [h2]
      have HC := Lib.hid (show false = v by rw [← HV.out]; simp [takesB, h2])
      clear h1 h2
      go_wp2_with fail
      generalize w.alloc (.cells #[.int .i64 h.every, .int .i64 h.dead, .int .i64 h.prio, .int .i64 h.dr, .int .i64 h.bdr, .slice A n c] 32) = w0 at *
      obtain ⟨k0, k1, k2, k3, k4, k5⟩ := K0.out.six
      have hkl := K0.out.lt
      go_wp2
      go_ret
      exact ⟨by rw [← HC.out]; rfl, B0.out⟩
  · have d1 : (h.every != 2) = true := by simp [h1]
    have HC := Lib.hid (show false = v by rw [← HV.out]; simp [takesB, h1])
    clear h1
    go_wp2_with fail
    generalize w.alloc (.cells #[.int .i64 h.every, .int .i64 h.dead, .int .i64 h.prio, .int .i64 h.dr, .int .i64 h.bdr, .slice A n c] 32) = w0 at *
    obtain ⟨k0, k1, k2, k3, k4, k5⟩ := K0.out.six
    have hkl := K0.out.lt
    go_wp2
    go_ret
    exact ⟨by rw [← HC.out]; rfl, B0.out⟩
end Go.Proofs.Ytfapphndfgoknaa
