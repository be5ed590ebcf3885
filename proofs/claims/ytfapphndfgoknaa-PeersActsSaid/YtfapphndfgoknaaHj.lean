/- Set, Drop of the program; of no list. Conditions: what the words say. -/
import Derived.Test.YtfapphndfgoknaaHi
namespace Go.Proofs.Ytfapphndfgoknaa
open Go.RowKit Go.Deep

theorem chg_put {F : Nat → Prop} (w : World) {a : Addr} (u : Value) (h : F a.block) : Chg F w (w.setCell a u) := Chg.of_grown (grown_setCell w a u) (fun k hk => by injection hk with hk; rw [← hk]; exact h)
set_option maxRecDepth 8000 in
set_option maxHeartbeats 2000000 in
theorem set_any {w : World} {p : Nat} {F : Nat → Prop} {sf lan : Int} {X : List Pe} {bk : Int → Nat} (i s : Int) (hD : PDb w p F sf lan X bk) :
    Calls Try.prog 15 #[.pointer (some ⟨p, 0, none⟩), .int .i64 i, .int .i64 s] w fun e w' => e = .returned (.bool (setB X i s)) ∧ PDb w' p F sf lan (setX X i s) bk ∧ Chg F w w' := by
  generalize hQ : (fun (e : Ending) (w' : World) => e = .returned (.bool (setB X i s)) ∧ PDb w' p F sf lan (setX X i s) bk ∧ Chg F w w') = Q
  have HQ := Lib.hid hQ
  have HD := Lib.hid hD
  clear hQ hD
  cases hf : findP X i with
  | none =>
    have HE := Lib.hid (ptrP_none (bk := bk) hf)
    have HS := Lib.hid (show setB X i s = false by unfold setB; rw [hf]; rfl)
    clear hf
    go_enter Try.func15, Try.ntmps15
    go_wp2_with fail
    refine (at_any i HD.out).mono ?_
    rintro e1 w1 ⟨rfl, hq⟩
    rw [hq, HE.out]
    clear hq w1
    go_wp2
    show Q (.returned (.bool false)) w
    rw [← HQ.out]
    refine ⟨by rw [HS.out], ?_, Chg.refl _ _⟩
    unfold setX
    rw [HS.out]
    exact HD.out
  | some x =>
    have HF := Lib.hid hf
    have HE := Lib.hid (ptrP_some (bk := bk) hf)
    have hnn : ((some (⟨bk i, 0, none⟩ : Addr)) == none) = false := rfl
    have HWX := Lib.hid (show wasP X i = x by unfold wasP; rw [hf]; rfl)
    have HK := Lib.hid (HD.out.found hf)
    have HFB := Lib.hid (show F (bk i) by obtain ⟨hm, hi⟩ := findP_is hf; rw [← hi]; exact HD.out.fb x hm)
    by_cases h1 : s < 0
    · have HS := Lib.hid (show setB X i s = false by unfold setB; simp; omega)
      have d1 : decide (s < 0) = true := by simpa using h1
      clear hf h1
      go_enter Try.func15, Try.ntmps15
      go_wp2_with fail
      refine (at_any i HD.out).mono ?_
      rintro e1 w1 ⟨rfl, hq⟩
      rw [hq, HE.out]
      clear hq w1
      generalize bk i = gb at *
      go_wp2
      show Q (.returned (.bool false)) w
      rw [← HQ.out]
      refine ⟨by rw [HS.out], ?_, Chg.refl _ _⟩
      unfold setX
      rw [HS.out]
      exact HD.out
    · have d1 : decide (s < 0) = false := by simpa using h1
      by_cases h2 : 6 < s
      · have HS := Lib.hid (show setB X i s = false by unfold setB; simp; omega)
        have d2 : decide (6 < s) = true := by simpa using h2
        clear hf h1 h2
        go_enter Try.func15, Try.ntmps15
        go_wp2_with fail
        refine (at_any i HD.out).mono ?_
        rintro e1 w1 ⟨rfl, hq⟩
        rw [hq, HE.out]
        clear hq w1
        generalize bk i = gb at *
        go_wp2
        show Q (.returned (.bool false)) w
        rw [← HQ.out]
        refine ⟨by rw [HS.out], ?_, Chg.refl _ _⟩
        unfold setX
        rw [HS.out]
        exact HD.out
      · have d2 : decide (6 < s) = false := by simpa using h2
        have HS := Lib.hid (show setB X i s = true by unfold setB; rw [hf]; simp; omega)
        have HW := Lib.hid (HD.out.write hf s)
        have HC := Lib.hid (chg_put (F := F) w (a := ⟨bk i, 4, none⟩) (.int .i64 s) HFB.out)
        clear hf h1 h2
        have hgl := HK.out.lt
        have z4 := HK.out.frozen 4
        have k4 := HK.out.seven.2.2.2.2.1
        generalize hgb : bk i = gb at *
        have HGB := Lib.hid hgb
        clear hgb
        go_enter Try.func15, Try.ntmps15
        go_wp2_with fail
        refine (at_any i HD.out).mono ?_
        rintro e1 w1 ⟨rfl, hq⟩
        rw [hq, HE.out]
        clear hq w1
        go_wp2
        show Q (.returned (.bool true)) (w.setCell ⟨gb, 4, none⟩ (.int .i64 s))
        rw [← HQ.out]
        refine ⟨by rw [HS.out], ?_, HC.out⟩
        unfold setX
        rw [HS.out, if_pos rfl, HWX.out]
        exact HW.out
set_option maxRecDepth 8000 in
set_option maxHeartbeats 2000000 in
theorem drop_any {w : World} {p : Nat} {F : Nat → Prop} {sf lan : Int} {X : List Pe} {bk : Int → Nat} (i : Int) (hD : PDb w p F sf lan X bk) :
    Calls Try.prog 13 #[.pointer (some ⟨p, 0, none⟩), .int .i64 i] w fun e w' => e = .returned (.bool (findP X i).isSome) ∧ PDb w' p F sf lan (dropX X i) bk ∧ Chg F w w' := by
  generalize hQ : (fun (e : Ending) (w' : World) => e = .returned (.bool (findP X i).isSome) ∧ PDb w' p F sf lan (dropX X i) bk ∧ Chg F w w') = Q
  have HQ := Lib.hid hQ
  have HD := Lib.hid hD
  clear hQ hD
  cases hf : findP X i with
  | none =>
    have HE := Lib.hid (ptrP_none (bk := bk) hf)
    have HF := Lib.hid hf
    clear hf
    go_enter Try.func13, Try.ntmps13
    go_wp2_with fail
    refine (at_any i HD.out).mono ?_
    rintro e1 w1 ⟨rfl, hq⟩
    rw [hq, HE.out]
    clear hq w1
    go_wp2
    show Q (.returned (.bool false)) w
    rw [← HQ.out, HF.out, drop_no HF.out]
    exact ⟨rfl, HD.out, Chg.refl _ _⟩
  | some x =>
    have HF := Lib.hid hf
    have HE := Lib.hid (ptrP_some (bk := bk) hf)
    have hnn : ((some (⟨bk i, 0, none⟩ : Addr)) == none) = false := rfl
    have hr := HD.out.srt.find_range hf
    obtain ⟨k, rfl⟩ : ∃ k : Nat, i = (k : Int) := ⟨i.toNat, by omega⟩
    have hk : k < 16 := by omega
    have hk' : (k : Int) < 16 := by omega
    have hk0 : (0 : Int) ≤ (k : Int) := by omega
    have HW := Lib.hid (HD.out.drop hr)
    rw [Int.toNat_natCast] at HW
    have HC := Lib.hid (chg_put (F := F) w (a := ⟨p, 2 + k, none⟩) (.pointer none) HD.out.fp)
    have c2 := HD.out.at k hk
    rw [HE.out] at c2
    have z2 := HD.out.obj.frozen (2 + k)
    obtain ⟨-, -, hpl⟩ := HD.out.cells
    clear hf hr
    generalize hgb : bk (k : Int) = gb at *
    have HGB := Lib.hid hgb
    clear hgb
    go_enter Try.func13, Try.ntmps13
    go_wp2_with fail
    refine (at_any (k : Int) HD.out).mono ?_
    rintro e1 w1 ⟨rfl, hq⟩
    rw [hq, HE.out]
    clear hq w1
    go_wp2
    show Q (.returned (.bool true)) (w.setCell ⟨p, 2 + k, none⟩ (.pointer none))
    rw [← HQ.out, HF.out]
    exact ⟨rfl, HW.out, HC.out⟩
theorem drop_nil (i : Int) (w : World) : Calls Try.prog 13 #[.pointer none, .int .i64 i] w fun e w' => e = .returned (.bool false) ∧ w' = w := by
  go_enter Try.func13, Try.ntmps13
  go_wp2_with fail
  refine (at_no i w).mono ?_
  rintro e1 w1 ⟨rfl, rfl⟩
  go_wp2
  go_ret
  exact ⟨rfl, rfl⟩
theorem set_nil (i s : Int) (w : World) : Calls Try.prog 15 #[.pointer none, .int .i64 i, .int .i64 s] w fun e w' => e = .returned (.bool false) ∧ w' = w := by
  go_enter Try.func15, Try.ntmps15
  go_wp2_with fail
  refine (at_no i w).mono ?_
  rintro e1 w1 ⟨rfl, rfl⟩
  go_wp2
  go_ret
  exact ⟨rfl, rfl⟩
theorem which_nil (v : Value) (w : World) : Calls Try.prog 30 #[.pointer none, v] w fun e w' => e = .returned (.slice none 0 0) ∧ w' = w := by
  go_enter Try.func30, Try.ntmps30
  go_wp2
  go_ret
  exact ⟨rfl, rfl⟩
theorem numbers_nil (w : World) : Calls Try.prog 29 #[.slice none 0 0] w fun e w' => (∃ A c, e = .returned (.slice A 0 c)) ∧ Below w.heap.size w w' := by
  refine (numbers_any (L := []) (World.ownsRow_nil w 0 47 7) (by omega)).mono ?_
  rintro e w' ⟨⟨A, n, c, rfl, ho⟩, hb⟩
  have hl := own_len encI_len (by omega) ho
  simp at hl
  subst hl
  exact ⟨⟨A, c, rfl⟩, hb⟩
end Go.Proofs.Ytfapphndfgoknaa
