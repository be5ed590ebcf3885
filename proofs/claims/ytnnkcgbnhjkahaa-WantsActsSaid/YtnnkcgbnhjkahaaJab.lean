/- The calls rightRouter, rightNetwork and Right of package lsa. Conditions: the two lists read as links and as integers. · The reference's Right. Conditions: the two lists read as links and as integers. · The reference's Right, of a network and of any description. Conditions: the two lists read as links and as integers. · The small calls of package quad: held and Wide answer the width held within 1 to 4, and what a nil Reader answers. No conditions. · The Reader's inner call take: it moves on by k bytes if they are there and there was no error, else it sets the error. Conditions: the reader's three fields as they stand. · The reference's calls over bytes: Number answers the number that bytes are, the highest first; Same answers whether two rows of bytes are alike. Conditions: the slices read as bytes; of Number at most 200 of them. -/
import Derived.IntWalk
import Derived.Test.YtnnkcgbnhjkahaaJaa
namespace Go.Proofs.Ytnnkcgbnhjkahaa
open Go.RowKit

set_option maxRecDepth 4000 in
set_option maxHeartbeats 2000000 in
theorem rightRouter_any (h : Hd) (L : List Lk) (M : List Int) (A A' : Option Addr) (n c n' c' B : Nat) (w : World) (hL : Lnk w B A n L) (hM : M.length = n') (hB : B ≤ w.heap.size) (hn : n ≤ maxLen) (hn' : n' ≤ maxLen) :
    Calls Try.prog 65 #[.agg #[.int .i64 h.age, .int .i64 h.kind, .int .i64 h.id, .int .i64 h.adv, .int .i64 h.seq, .int .i64 h.sum, .int .i64 h.long, .slice A n c, .slice A' n' c']] w
    fun e w' => e = .returned (.bool (routerB h L M)) ∧ Below w.heap.size w w' := by
  unfold maxLen at hn hn'
  have HL := Lib.hid hL
  have HN := Lib.hid hL.1
  have HM := Lib.hid hM
  clear hL hM
  by_cases hid : h.id = h.adv ∧ n' = 0 ∧ n ≤ 4
  · obtain ⟨h1, rfl, h3⟩ := hid
    have HR := Lib.hid (show routerB h L M = L.all linkB by simp [routerB, h1, HM.out, HN.out, h3])
    have hd1 : (h.id != h.adv) = false := by simp [h1]
    clear h1
    go_enter Try.func65, Try.ntmps65
    go_wp2_with fail
    go_loopw [27] (fun i wr => ∃ k : Nat, k ≤ n ∧ i = .int .i64 k ∧ Hid (Below w.heap.size w wr) ∧ Hid ((L.take k).all linkB = true)) (fun i _ => n - (intOf i).toNat)
    case atStart => exact ⟨0, Nat.zero_le _, rfl, Lib.hid ((Below.refl _ _).alloc (Nat.le_refl _) _), Lib.hid rfl⟩
    case round =>
      obtain ⟨k, hk, rfl, hb, hall⟩ := hrel
      by_cases hlt : k < n
      · obtain ⟨b, o, rfl, hbb, hc⟩ := (HL.out.below (hb.out.mono hB)).2 (by omega)
        obtain ⟨c0, c1, c2, c3⟩ := hc k hlt
        clear hc
        have HG := Lib.hid (show L.getD k ⟨0, 0, 0, 0⟩ = L.getD k ⟨0, 0, 0, 0⟩ from rfl)
        generalize hk2 : L.getD k ⟨0, 0, 0, 0⟩ = kk at c0 c1 c2 c3
        have HK := Lib.hid hk2
        clear hk2 HG
        go_wp2_with fail
        refine (rightLink_any kk _).mono ?_
        rintro e1 w1 ⟨rfl, hb1⟩
        have HB1 := Lib.hid ((hb.out.alloc hb.out.size _).trans (hb1.mono (by have := hb.out.size; simp; omega)))
        clear c0 c1 c2 c3 hb1
        cases hl : linkB kk
        · go_wp2
          go_ret
          exact ⟨ret_bool (by rw [HR.out, all_falseL _ _ k (by rw [HN.out]; exact hlt) (by rw [HK.out]; exact hl)]), HB1.out⟩
        · go_wp2
          go_roundw
          case rel => exact ⟨k + 1, by omega, by go_num, HB1, Lib.hid (all_snocL _ _ _ (by rw [HN.out]; exact hlt) hall.out (by rw [HK.out]; exact hl))⟩
          case measure => simp [intOf]; omega
      · go_wp2
        go_ret
        have h1 := hall.out
        rw [List.take_of_length_le (by rw [HN.out]; omega)] at h1
        exact ⟨ret_bool (by rw [HR.out, h1]), hb.out⟩
  · have HR := Lib.hid (show routerB h L M = false by
      simp only [routerB, Bool.and_eq_false_iff, decide_eq_false_iff_not, HM.out, HN.out]
      by_cases h1 : h.id = h.adv <;> by_cases h2 : n' = 0 <;> by_cases h3 : n ≤ 4 <;> simp_all)
    by_cases h1 : h.id = h.adv
    · have hd1 : (h.id != h.adv) = false := by simp [h1]
      by_cases h2 : n' = 0
      · subst h2
        have h3 : 4 < n := by omega
        clear hid h1
        go_enter Try.func65, Try.ntmps65
        go_wp2
        go_ret
        exact ⟨ret_bool HR.out.symm, (Below.refl _ _).alloc (Nat.le_refl _) _⟩
      · have h3 : 0 < n' := by omega
        clear hid h1 h2
        go_enter Try.func65, Try.ntmps65
        go_wp2
        go_ret
        exact ⟨ret_bool HR.out.symm, (Below.refl _ _).alloc (Nat.le_refl _) _⟩
    · have hd1 : (h.id != h.adv) = true := by simp [h1]
      clear hid h1
      go_enter Try.func65, Try.ntmps65
      go_wp2
      go_ret
      exact ⟨ret_bool HR.out.symm, (Below.refl _ _).alloc (Nat.le_refl _) _⟩
theorem rise_drop (M : List Int) (a : Int) (k : Nat) (h : k < M.length) : riseB a (M.drop k) = (inB (M.getD k 0) (a + 1) 15 && riseB (M.getD k 0) (M.drop (k + 1))) := by
  have e : M.drop k = M.getD k 0 :: M.drop (k + 1) := by
    rw [List.drop_eq_getElem_cons h, List.getD_eq_getElem?_getD, List.getElem?_eq_getElem h]; rfl
  rw [e]; rfl

set_option maxRecDepth 4000 in
set_option maxHeartbeats 2000000 in
theorem rightNetwork_any (h : Hd) (L : List Lk) (M : List Int) (A A' : Option Addr) (n c n' c' B : Nat) (w : World) (hL : L.length = n) (hM : Row .i64 w B A' n' M) (hB : B ≤ w.heap.size) (hn : n ≤ maxLen) (hn' : n' ≤ maxLen) :
    Calls Try.prog 66 #[.agg #[.int .i64 h.age, .int .i64 h.kind, .int .i64 h.id, .int .i64 h.adv, .int .i64 h.seq, .int .i64 h.sum, .int .i64 h.long, .slice A n c, .slice A' n' c']] w
    fun e w' => e = .returned (.bool (networkB h L M)) ∧ Below w.heap.size w w' := by
  unfold maxLen at hn hn'
  have HL := Lib.hid hL
  have HN := Lib.hid hM.1
  have HM := Lib.hid hM
  clear hL hM
  go_enter Try.func66, Try.ntmps66
  go_wp2_with fail
  refine (within_any _ _ _ _).mono ?_
  rintro e1 w1 ⟨rfl, rfl⟩
  cases h1 : inB h.id 0 63
  · have HR := Lib.hid (show networkB h L M = false by simp [networkB, h1])
    go_wp2
    go_ret
    exact ⟨ret_bool HR.out.symm, (Below.refl _ _).alloc (Nat.le_refl _) _⟩
  · by_cases h2 : n = 0
    · subst h2
      by_cases h3 : n' = 0
      · subst h3
        have HR := Lib.hid (show networkB h L M = false by simp [networkB, HN.out])
        go_wp2
        go_ret
        exact ⟨ret_bool HR.out.symm, (Below.refl _ _).alloc (Nat.le_refl _) _⟩
      · have hp : 0 < n' := by omega
        have hd : ((n' : Int) == 0) = false := by simp; omega
        have HR := Lib.hid (show networkB h L M = riseB 0 M by simp [networkB, HL.out, HN.out, h1, hp])
        clear h3
        go_wp2_with fail
        go_loopw [3, 26] (fun a i wr => ∃ (k : Nat) (x : Int), k ≤ n' ∧ i = .int .i64 k ∧ a = .int .i64 x ∧ 0 ≤ x ∧ x ≤ 15 ∧ Hid (Below w.heap.size w wr) ∧ Hid (riseB 0 M = riseB x (M.drop k))) (fun _ i _ => n' - (intOf i).toNat)
        case atStart => exact ⟨0, 0, Nat.zero_le _, rfl, rfl, by omega, by omega, Lib.hid ((Below.refl _ _).alloc (Nat.le_refl _) _), Lib.hid rfl⟩
        case round =>
          obtain ⟨k, x, hk, rfl, rfl, hx0, hx1, hb, hall⟩ := hrel
          by_cases hlt : k < n'
          · obtain ⟨b, o, rfl, hbb, hc⟩ := (HM.out.below (hb.out.mono hB)).2 (by omega)
            have c0 := hc k hlt
            clear hc
            have hr := rise_drop M x k (by rw [HN.out]; exact hlt)
            generalize M.getD k 0 = y at *
            have HQ := Lib.hid (hall.out.trans hr)
            clear hall hr
            go_wp2_with fail
            refine (within_any _ _ _ _).mono ?_
            rintro e1 w1 ⟨rfl, rfl⟩
            cases hl : inB y (x + 1) 15
            · have HQ2 := Lib.hid (show riseB 0 M = false by rw [HQ.out, hl]; rfl)
              go_wp2
              go_ret
              exact ⟨ret_bool (by rw [HR.out, HQ2.out]), hb.out⟩
            · have HQ2 := Lib.hid (show riseB 0 M = riseB y (M.drop (k + 1)) by rw [HQ.out, hl]; rfl)
              have hy := (inB_iff _ _ _).1 hl
              go_wp2
              go_roundw
              case rel => exact ⟨k + 1, y, by omega, by go_num, rfl, by omega, by omega, hb, HQ2⟩
              case measure => simp [intOf]; omega
          · go_wp2
            go_ret
            have h1 := hall.out
            rw [List.drop_of_length_le (by rw [HN.out]; omega)] at h1
            exact ⟨ret_bool (by rw [HR.out, h1]; rfl), hb.out⟩
    · have h3 : 0 < n := by omega
      have HR := Lib.hid (show networkB h L M = false by simp [networkB, HL.out]; omega)
      clear h2
      go_wp2
      go_ret
      exact ⟨ret_bool HR.out.symm, (Below.refl _ _).alloc (Nat.le_refl _) _⟩

set_option maxRecDepth 4000 in
set_option maxHeartbeats 2000000 in
theorem right_any (h : Hd) (L : List Lk) (M : List Int) (A A' : Option Addr) (n c n' c' B : Nat) (w : World) (hL : Lnk w B A n L) (hM : Row .i64 w B A' n' M) (hB : B ≤ w.heap.size) (hn : n ≤ maxLen) (hn' : n' ≤ maxLen) :
    Calls Try.prog 44 #[.agg #[.int .i64 h.age, .int .i64 h.kind, .int .i64 h.id, .int .i64 h.adv, .int .i64 h.seq, .int .i64 h.sum, .int .i64 h.long, .slice A n c, .slice A' n' c']] w
    fun e w' => e = .returned (.bool (rightB h L M)) ∧ Below w.heap.size w w' := by
  have HL := Lib.hid hL
  have HM := Lib.hid hM
  clear hL hM
  go_enter Try.func44, Try.ntmps44
  go_wp2_with fail
  refine (mayBe_any h _).mono ?_
  rintro e1 w1 ⟨rfl, hb1⟩
  have HB1 := Lib.hid (((Below.refl w.heap.size w).alloc (Nat.le_refl _) _).trans (hb1.mono (by simp)))
  obtain ⟨hc, hf⟩ := bcell hb1
  have hz := hb1.size
  simp only [World.size_alloc] at hz
  clear hb1
  cases h1 : headB h
  · have HR := Lib.hid (show rightB h L M = false by simp [rightB, h1])
    go_wp2
    go_ret
    exact ⟨ret_bool HR.out.symm, HB1.out⟩
  · by_cases h2 : h.kind = 1
    · have HR := Lib.hid (show rightB h L M = routerB h L M by simp [rightB, h1, h2])
      have hd : (h.kind == 1) = true := by simp [h2]
      clear h2
      go_wp2_with fail
      refine (rightRouter_any h L M A A' n c n' c' B _ (HL.out.below (HB1.out.mono hB)) HM.out.1 (by omega) hn hn').mono ?_
      rintro e2 w2 ⟨rfl, hb2⟩
      go_wp2
      go_ret
      exact ⟨ret_bool HR.out.symm, HB1.out.trans (hb2.mono HB1.out.size)⟩
    · have HR := Lib.hid (show rightB h L M = networkB h L M by simp [rightB, h1, h2])
      have hd : (h.kind == 1) = false := by simp [h2]
      clear h2
      go_wp2_with fail
      refine (rightNetwork_any h L M A A' n c n' c' B _ HL.out.1 (HM.out.below (HB1.out.mono hB)) (by omega) hn hn').mono ?_
      rintro e2 w2 ⟨rfl, hb2⟩
      go_wp2
      go_ret
      exact ⟨ret_bool HR.out.symm, HB1.out.trans (hb2.mono HB1.out.size)⟩
end Go.Proofs.Ytnnkcgbnhjkahaa
namespace Go.Proofs.Ytnnkcgbnhjkahaa
open Go.RowKit

theorem quiet_left {P : Program} {f : FuncId} {args : Array Value} {w : World} {n : Nat} {v : Value}
    (h : Calls P f args (w.drewN n) fun e w' => e = .returned v ∧ w.drewN n = w') : Calls P f args (w.drewN n) fun e w'' => e = .returned v ∧ ∃ m, w'' = w.drewN m :=
  h.mono fun _ _ ⟨he, hm⟩ => ⟨he, n, hm.symm⟩
theorem refIn_is (n a b : Int) (x : Bool) (w : World) (h : inB n a b = x) : Calls Try.prog 55 #[.int .i64 n, .int .i64 a, .int .i64 b] w fun e w' => e = .returned (.bool x) ∧ w = w' := by
  rw [← h]; exact refIn_any n a b w

set_option maxRecDepth 100000 in
set_option maxRecDepth 4000 in
set_option maxHeartbeats 4000000 in
theorem refRight_router (h : Hd) (L : List Lk) (M : List Int) (A A' : Option Addr) (n c n' c' B : Nat) (w : World) (hL : Lnk w B A n L) (hM : M.length = n') (hB : B ≤ w.heap.size) (hn : n ≤ maxLen) (hn' : n' ≤ maxLen) (hh : headB h = true) (hk1 : (h.kind == 1) = true) :
    Calls Try.prog 36 #[.agg #[.int .i64 h.age, .int .i64 h.kind, .int .i64 h.id, .int .i64 h.adv, .int .i64 h.seq, .int .i64 h.sum, .int .i64 h.long, .slice A n c, .slice A' n' c']] w
    fun e w' => e = .returned (.bool (routerB h L M)) ∧ Below w.heap.size w w' := by
  unfold maxLen at hn hn'
  have HL := Lib.hid hL
  have HN := Lib.hid hL.1
  have HM := Lib.hid hM
  have HH := Lib.hid hh
  clear hL hM hh
  go_enter Try.func36, Try.ntmps36
  go_wp2_with fail
  refine (refHead_any h _).mono ?_
  rintro e1 w1 ⟨rfl, hb1⟩
  rw [HH.out]
  have HB1 := Lib.hid (((Below.refl w.heap.size w).alloc (Nat.le_refl _) _).trans (hb1.mono (by simp)))
  obtain ⟨hc, hf⟩ := bcell hb1
  have hz := hb1.size
  simp only [World.size_alloc] at hz
  have e7 := hc w.heap.size 7 (by simp)
  have e8 := hc w.heap.size 8 (by simp)
  simp at e7 e8
  clear hb1
  by_cases hid : h.id = h.adv ∧ n' = 0 ∧ n ≤ 4
  · obtain ⟨h1, rfl, h3⟩ := hid
    have HR := Lib.hid (show routerB h L M = L.all linkB by simp [routerB, h1, HM.out, HN.out, h3])
    have hd1 : (h.id != h.adv) = false := by simp [h1]
    clear h1
    go_wp2_with fail
    clear hc hf
    go_loopw [3] (fun i wr => ∃ k : Nat, k ≤ n ∧ i = .int .i64 k ∧ Hid (Below w1.heap.size w1 wr) ∧ Hid ((L.take k).all linkB = true)) (fun i _ => n - (intOf i).toNat)
    case atStart => exact ⟨0, Nat.zero_le _, rfl, Lib.hid (Below.refl _ _), Lib.hid rfl⟩
    case round =>
      obtain ⟨k, hk, rfl, hb, hall⟩ := hrel
      have e7' := (hb.out.cell (p := ⟨w.heap.size, 7, none⟩) (by simp; omega)).trans e7
      clear e8
      by_cases hlt : k < n
      · obtain ⟨b, o, rfl, hbb, hc⟩ := ((HL.out.below (HB1.out.mono hB)).below (hb.out.mono (by omega))).2 (by omega)
        obtain ⟨c0, c1, c2, c3⟩ := hc k hlt
        clear hc
        generalize hk2 : L.getD k ⟨0, 0, 0, 0⟩ = kk at c0 c1 c2 c3
        have HK := Lib.hid hk2
        have HB2 := fun o => Lib.hid (hb.out.alloc hb.out.size o)
        clear hk2
        have HNO : Hid (linkB kk = false → routerB h L M = false) := fun hl => by rw [HR.out, all_falseL _ _ k (by rw [HN.out]; exact hlt) (by rw [HK.out]; exact hl)]
        have HYES : Hid (linkB kk = true → (L.take (k + 1)).all linkB = true) := fun hl => all_snocL _ _ _ (by rw [HN.out]; exact hlt) hall.out (by rw [HK.out]; exact hl)
        by_cases hq : kk.kind = 2 ∨ kk.kind = 3
        · have hin : inB kk.kind 2 3 = true := by rw [inB_iff]; omega
          have hd : (kk.kind != 2) = false ∨ ((kk.kind != 2) = true ∧ (kk.kind != 3) = false) := by
            rcases hq with hq | hq <;> simp [hq]
          clear hq
          rcases hd with d2 | ⟨d2, d3⟩
          all_goals
            have HIN := Lib.hid hin
            clear hin
            go_wp2_with fail
            refine (refIn_any _ _ _ _).mono ?_
            rintro e2 w2 ⟨rfl, rfl⟩
            cases h1 : inB kk.id 0 63
            · go_wp2
              go_ret
              exact ⟨ret_bool (HNO.out (by simp [linkB, h1])).symm, HB1.out.trans ((HB2 _).out.mono HB1.out.size)⟩
            · go_wp2_with fail
              refine (refIn_any _ _ _ _).mono ?_
              rintro e2 w2 ⟨rfl, rfl⟩
              cases h2 : inB kk.data 0 63
              · go_wp2
                go_ret
                exact ⟨ret_bool (HNO.out (by simp [linkB, h2])).symm, HB1.out.trans ((HB2 _).out.mono HB1.out.size)⟩
              · go_wp2_with fail
                refine (refIn_any _ _ _ _).mono ?_
                rintro e2 w2 ⟨rfl, rfl⟩
                cases h4 : inB kk.cost 1 100
                · go_wp2
                  go_ret
                  exact ⟨ret_bool (HNO.out (by simp [linkB, h4])).symm, HB1.out.trans ((HB2 _).out.mono HB1.out.size)⟩
                · go_wp2
                  go_roundw
                  case rel => exact ⟨k + 1, by omega, by go_num, HB2 _, Lib.hid (HYES.out (by simp [linkB, h1, h2, h4, HIN.out]))⟩
                  case measure => simp [intOf]; omega
        · have hin : inB kk.kind 2 3 = false := by rw [Bool.eq_false_iff, ne_eq, inB_iff]; omega
          have d2 : (kk.kind != 2) = true := by simp; omega
          have d3 : (kk.kind != 3) = true := by simp; omega
          have HIN := Lib.hid hin
          clear hq hin
          go_wp2
          go_ret
          exact ⟨ret_bool (HNO.out (by simp [linkB, HIN.out])).symm, HB1.out.trans ((HB2 _).out.mono HB1.out.size)⟩
      · go_wp2
        go_ret
        have h1 := hall.out
        rw [List.take_of_length_le (by rw [HN.out]; omega)] at h1
        exact ⟨ret_bool (by rw [HR.out, h1]), HB1.out.trans (hb.out.mono HB1.out.size)⟩
  · have HR := Lib.hid (show routerB h L M = false by
      simp only [routerB, Bool.and_eq_false_iff, decide_eq_false_iff_not, HM.out, HN.out]
      by_cases h1 : h.id = h.adv <;> by_cases h2 : n' = 0 <;> by_cases h3 : n ≤ 4 <;> simp_all)
    by_cases h1 : h.id = h.adv
    · have hd1 : (h.id != h.adv) = false := by simp [h1]
      by_cases h2 : n' = 0
      · subst h2
        have h3 : 4 < n := by omega
        clear hid h1
        go_wp2
        go_ret
        exact ⟨ret_bool HR.out.symm, HB1.out⟩
      · have h3 : 0 < n' := by omega
        clear hid h1 h2
        go_wp2
        go_ret
        exact ⟨ret_bool HR.out.symm, HB1.out⟩
    · have hd1 : (h.id != h.adv) = true := by simp [h1]
      clear hid h1
      go_wp2
      go_ret
      exact ⟨ret_bool HR.out.symm, HB1.out⟩
end Go.Proofs.Ytnnkcgbnhjkahaa
namespace Go.Proofs.Ytnnkcgbnhjkahaa
open Go.RowKit

theorem below_drewN {b : Nat} {w w' : World} (h : Below b w w') (n : Nat) : Below b w (w'.drewN n) := ⟨h.os, h.tape, h.output, h.size, h.block⟩

set_option maxRecDepth 100000 in
set_option maxRecDepth 4000 in
set_option maxHeartbeats 4000000 in
theorem refRight_network (h : Hd) (L : List Lk) (M : List Int) (A A' : Option Addr) (n c n' c' B : Nat) (w : World) (hL : L.length = n) (hM : Row .i64 w B A' n' M) (hB : B ≤ w.heap.size) (hn : n ≤ maxLen) (hn' : n' ≤ maxLen) (hh : headB h = true) (hk1 : (h.kind == 1) = false) :
    Calls Try.prog 36 #[.agg #[.int .i64 h.age, .int .i64 h.kind, .int .i64 h.id, .int .i64 h.adv, .int .i64 h.seq, .int .i64 h.sum, .int .i64 h.long, .slice A n c, .slice A' n' c']] w
    fun e w' => e = .returned (.bool (networkB h L M)) ∧ Below w.heap.size w w' := by
  unfold maxLen at hn hn'
  have HL := Lib.hid hL
  have HN := Lib.hid hM.1
  have HM := Lib.hid hM
  have HH := Lib.hid hh
  clear hL hM hh
  go_enter Try.func36, Try.ntmps36
  go_wp2_with fail
  refine (refHead_any h _).mono ?_
  rintro e1 w1 ⟨rfl, hb1⟩
  rw [HH.out]
  have HB1 := Lib.hid (((Below.refl w.heap.size w).alloc (Nat.le_refl _) _).trans (hb1.mono (by simp)))
  obtain ⟨hc, hf⟩ := bcell hb1
  have hz := hb1.size
  simp only [World.size_alloc] at hz
  have e7 := hc w.heap.size 7 (by simp)
  have e8 := hc w.heap.size 8 (by simp)
  simp at e7 e8
  clear hb1
  go_wp2_with fail
  refine (refIn_any _ _ _ _).mono ?_
  rintro e1 w2 ⟨rfl, rfl⟩
  cases h1 : inB h.id 0 63
  · have HR := Lib.hid (show networkB h L M = false by simp [networkB, h1])
    go_wp2
    go_ret
    exact ⟨ret_bool HR.out.symm, HB1.out⟩
  · by_cases h2 : n = 0
    · subst h2
      by_cases h3 : n' = 0
      · subst h3
        have HR := Lib.hid (show networkB h L M = false by simp [networkB, HN.out])
        go_wp2
        go_ret
        exact ⟨ret_bool HR.out.symm, HB1.out⟩
      · have hp : 0 < n' := by omega
        have hd : ((n' : Int) == 0) = false := by simp; omega
        have HR := Lib.hid (show networkB h L M = riseB 0 M by simp [networkB, HL.out, HN.out, h1, hp])
        clear h3
        go_wp2_with fail
        clear hc hf e7
        go_loopw [5] (fun i wr => ∃ (k : Nat) (x : Int), k ≤ n' ∧ i = .int .i64 k ∧ 0 ≤ x ∧ x ≤ 15 ∧ Hid (Below w1.heap.size w1 wr) ∧ Hid (x = (if k = 0 then 0 else M.getD (k - 1) 0)) ∧ Hid (riseB 0 M = riseB x (M.drop k))) (fun i _ => n' - (intOf i).toNat)
        case atStart => exact ⟨0, 0, Nat.zero_le _, rfl, by omega, by omega, Lib.hid (Below.refl _ _), Lib.hid rfl, Lib.hid rfl⟩
        case round =>
          obtain ⟨k, x, hk, rfl, hx0, hx1, hb, hx, hall⟩ := hrel
          have e8' := (hb.out.cell (p := ⟨w.heap.size, 8, none⟩) (by simp; omega)).trans e8
          by_cases hlt : k < n'
          · obtain ⟨b, o, rfl, hbb, hc⟩ := ((HM.out.below (HB1.out.mono hB)).below (hb.out.mono (by omega))).2 (by omega)
            have c0 := hc k hlt
            have hr := rise_drop M x k (by rw [HN.out]; exact hlt)
            have HY := Lib.hid (show M.getD (k + 1 - 1) 0 = M.getD k 0 from rfl)
            have hpr : 0 < k → wr.cell? ⟨b, o + (k - 1), none⟩ = some (.int .i64 x) := fun h0 => by
              have := hc (k - 1) (by omega)
              rw [hx.out, if_neg (by omega)]
              exact this
            clear hc
            generalize hy : M.getD k 0 = y at *
            have HQ := Lib.hid (hall.out.trans hr)
            clear hall hr hy
            have hk0 : (0 : Int) ≤ (k : Int) := by omega
            have hkn : (k : Int) < (n' : Int) := by omega
            cases hl : inB y 1 15
            · have HQ2 := Lib.hid (show riseB 0 M = false by
                rw [HQ.out]
                have : inB y (x + 1) 15 = false := by
                  rw [Bool.eq_false_iff, ne_eq, inB_iff]
                  intro hh
                  have : inB y 1 15 = true := by rw [inB_iff]; omega
                  rw [hl] at this
                  cases this
                rw [this]; rfl)
              clear hpr hx
              go_wp2_with fail
              go_quiet ((go_at_call 55; exact quiet_left (refIn_is _ _ _ _ _ hl)))
              go_wp2
              go_ret
              exact ⟨ret_bool (by rw [HR.out, HQ2.out]), below_drewN (HB1.out.trans (hb.out.mono HB1.out.size)) _⟩
            · have hy1 := (inB_iff _ _ _).1 hl
              by_cases hk1 : k = 0
              · have hkd : decide ((0 : Int) < (k : Int)) = false := by simp; omega
                have hkd2 : decide (0 < k) = false := by simp; omega
                clear hpr
                have HQ2 := Lib.hid (show riseB 0 M = riseB y (M.drop (k + 1)) by
                  rw [HQ.out]
                  have : inB y (x + 1) 15 = true := by
                    rw [inB_iff]
                    have := hx.out
                    rw [if_pos hk1] at this
                    omega
                  rw [this]; rfl)
                clear hx hk1
                go_wp2_with fail
                go_quiet ((go_at_call 55; exact quiet_left (refIn_is _ _ _ _ _ hl)))
                go_wp2
                go_roundw
                case rel => exact ⟨k + 1, y, by omega, by go_num, by omega, by omega, Lib.hid (below_drewN hb.out _), Lib.hid (by rw [if_neg (by omega)]; exact HY.out.symm), HQ2⟩
                case measure => simp [intOf]; omega
              · have c1 := hpr (by omega)
                have hkd : decide ((0 : Int) < (k : Int)) = true := by simp; omega
                have hkd2 : decide (0 < k) = true := by simp; omega
                have hk2 : (0 : Int) ≤ (k : Int) - 1 := by omega
                have hk3 : (k : Int) - 1 < (n' : Int) := by omega
                have hk4 : IntKind.i64.wrap ((k : Int) - 1) = (k : Int) - 1 := IntWalk.i64_in _ (by omega)
                have hk5 : ((k : Int) - 1).toNat = k - 1 := by omega
                clear hpr hk1 hx
                by_cases hyx : y ≤ x
                · have HQ2 := Lib.hid (show riseB 0 M = false by
                    rw [HQ.out]
                    have : inB y (x + 1) 15 = false := by
                      rw [Bool.eq_false_iff, ne_eq, inB_iff]
                      omega
                    rw [this]; rfl)
                  go_wp2_with fail
                  go_quiet ((go_at_call 55; exact quiet_left (refIn_is _ _ _ _ _ hl)))
                  go_wp2
                  go_ret
                  exact ⟨ret_bool (by rw [HR.out, HQ2.out]), below_drewN (HB1.out.trans (hb.out.mono HB1.out.size)) _⟩
                · have HQ2 := Lib.hid (show riseB 0 M = riseB y (M.drop (k + 1)) by
                    rw [HQ.out]
                    have : inB y (x + 1) 15 = true := by rw [inB_iff]; omega
                    rw [this]; rfl)
                  have hyd : decide (y ≤ x) = false := by simpa using hyx
                  go_wp2_with fail
                  go_quiet ((go_at_call 55; exact quiet_left (refIn_is _ _ _ _ _ hl)))
                  clear hk4
                  go_wp2
                  go_roundw
                  case rel => exact ⟨k + 1, y, by omega, by go_num, by omega, by omega, Lib.hid (below_drewN hb.out _), Lib.hid (by rw [if_neg (by omega)]; exact HY.out.symm), HQ2⟩
                  case measure => simp [intOf]; omega
          · go_wp2
            go_ret
            have h1 := hall.out
            rw [List.drop_of_length_le (by rw [HN.out]; omega)] at h1
            exact ⟨ret_bool (by rw [HR.out, h1]; rfl), HB1.out.trans (hb.out.mono HB1.out.size)⟩
    · have h3 : 0 < n := by omega
      have HR := Lib.hid (show networkB h L M = false by simp [networkB, HL.out]; omega)
      clear h2
      go_wp2
      go_ret
      exact ⟨ret_bool HR.out.symm, HB1.out⟩

set_option maxRecDepth 100000 in
set_option maxRecDepth 4000 in
set_option maxHeartbeats 4000000 in
theorem refRight_any (h : Hd) (L : List Lk) (M : List Int) (A A' : Option Addr) (n c n' c' B : Nat) (w : World) (hL : Lnk w B A n L) (hM : Row .i64 w B A' n' M) (hB : B ≤ w.heap.size) (hn : n ≤ maxLen) (hn' : n' ≤ maxLen) :
    Calls Try.prog 36 #[.agg #[.int .i64 h.age, .int .i64 h.kind, .int .i64 h.id, .int .i64 h.adv, .int .i64 h.seq, .int .i64 h.sum, .int .i64 h.long, .slice A n c, .slice A' n' c']] w
    fun e w' => e = .returned (.bool (rightB h L M)) ∧ Below w.heap.size w w' := by
  cases hh : headB h
  · have HR := Lib.hid (show rightB h L M = false by simp [rightB, hh])
    have HH := Lib.hid hh
    clear hh hL hM
    go_enter Try.func36, Try.ntmps36
    go_wp2_with fail
    refine (refHead_any h _).mono ?_
    rintro e1 w1 ⟨rfl, hb1⟩
    rw [HH.out]
    have HB1 := Lib.hid (((Below.refl w.heap.size w).alloc (Nat.le_refl _) _).trans (hb1.mono (by simp)))
    go_wp2
    go_ret
    exact ⟨ret_bool HR.out.symm, HB1.out⟩
  · by_cases hk : h.kind = 1
    · have e : rightB h L M = routerB h L M := by simp [rightB, hh, hk]
      rw [e]
      exact refRight_router h L M A A' n c n' c' B w hL hM.1 hB hn hn' hh (by simp [hk])
    · have e : rightB h L M = networkB h L M := by simp [rightB, hh, hk]
      rw [e]
      exact refRight_network h L M A A' n c n' c' B w hL.1 hM hB hn hn' hh (by simp [hk])
end Go.Proofs.Ytnnkcgbnhjkahaa
namespace Go.Proofs.Ytnnkcgbnhjkahaa
open Go.RowKit

theorem wide_any (n : Int) (w : World) : Calls Try.prog 99 #[.int .i64 n] w fun e w' => e = .returned (.int .i64 (hold n)) ∧ w = w' := by
  unfold hold
  by_cases h1 : n < 1
  · rw [if_pos h1]
    go_enter Try.func99, Try.ntmps99
    go_wp2
    go_ret
    exact ⟨rfl, rfl⟩
  · rw [if_neg h1]
    by_cases h2 : 4 < n
    · rw [if_pos h2]
      go_enter Try.func99, Try.ntmps99
      go_wp2
      go_ret
      exact ⟨rfl, rfl⟩
    · rw [if_neg h2]
      go_enter Try.func99, Try.ntmps99
      go_wp2
      go_ret
      exact ⟨rfl, rfl⟩

theorem held_any (n : Int) (w : World) : Calls Try.prog 108 #[.int .i64 n] w fun e w' => e = .returned (.int .i64 (hold n)) ∧ w = w' := by
  unfold hold
  by_cases h1 : n < 1
  · rw [if_pos h1]
    go_enter Try.func108, Try.ntmps108
    go_wp2
    go_ret
    exact ⟨rfl, rfl⟩
  · rw [if_neg h1]
    by_cases h2 : 4 < n
    · rw [if_pos h2]
      go_enter Try.func108, Try.ntmps108
      go_wp2
      go_ret
      exact ⟨rfl, rfl⟩
    · rw [if_neg h2]
      go_enter Try.func108, Try.ntmps108
      go_wp2
      go_ret
      exact ⟨rfl, rfl⟩

set_option maxRecDepth 4000 in
set_option maxHeartbeats 400000 in
theorem left_any (g : Nat) (A : Option Addr) (n c : Nat) (a e : Int) (w : World) (hb : Blk w g 144 #[.slice A n c, .int .i64 a, .int .i64 e]) (h0 : 0 ≤ a) (h1 : a ≤ n) (h2 : n ≤ maxLen) :
    Calls Try.prog 122 #[.pointer (some ⟨g, 0, none⟩)] w fun e w' => e = .returned (.int .i64 (n - a)) ∧ ∃ d, w' = w.drewN d := by
  unfold maxLen at h2
  have c0 : w.cell? ⟨g, 0, none⟩ = some (.slice A n c) := hb.cell 0
  have c1 : w.cell? ⟨g, 1, none⟩ = some (.int .i64 a) := hb.cell 1
  clear hb
  go_enter Try.func122, Try.ntmps122
  go_wp2
  go_quiet (fail)
  go_wp2
  go_ret
  exact ⟨rfl, _, rfl⟩
end Go.Proofs.Ytnnkcgbnhjkahaa
namespace Go.Proofs.Ytnnkcgbnhjkahaa
open Go.RowKit

/-- What take answers, and leaves, where all is there. -/
def TakeOk (w : World) (g : Nat) (A : Option Addr) (n : Nat) (a k : Int) (e : Ending) (w' : World) : Prop :=
  ∃ A' c' d, e = .returned (.slice A' k.toNat c') ∧ k.toNat ≤ c' ∧ c' ≤ maxLen ∧ Cut A n a.toNat k.toNat A' ∧ w' = (w.setCell ⟨g, 1, none⟩ (.int .i64 (a + k))).drewN d

set_option maxRecDepth 4000 in
set_option maxHeartbeats 400000 in
theorem take_ok (g : Nat) (A : Option Addr) (n c : Nat) (a k : Int) (w : World) (hb : Blk w g 144 #[.slice A n c, .int .i64 a, .int .i64 0]) (h0 : 0 ≤ a) (h1 : a ≤ n) (h2 : n ≤ c) (h3 : c ≤ maxLen) (hk0 : 0 ≤ k) (hk : k ≤ n - a) :
    Calls Try.prog 107 #[.pointer (some ⟨g, 0, none⟩), .int .i64 k] (w) (TakeOk w g A n a k) := by
  have hz := h3
  unfold maxLen at hz
  have b2 := (hb.put 1 (.int .i64 (a + k)))
  have c0 : w.cell? ⟨g, 0, none⟩ = some (.slice A n c) := hb.cell 0
  have c1 : w.cell? ⟨g, 1, none⟩ = some (.int .i64 a) := hb.cell 1
  have c2 : w.cell? ⟨g, 2, none⟩ = some (.int .i64 0) := hb.cell 2
  have f2 := hb.frozen 1
  have HB := Lib.hid hb
  clear hb
  go_enter Try.func107, Try.ntmps107
  go_wp2
  go_step3
  go_wp2_with fail
  refine (left_any g A n c a 0 _ HB.out h0 h1 (by omega)).mono ?_
  rintro e w' ⟨rfl, d, rfl⟩
  go_wp2
  have b3 : Blk ((w.drewN d).setCell ⟨g, 1, none⟩ (.int .i64 (a + k))) g 144 #[.slice A n c, .int .i64 (a + k), .int .i64 0] := (HB.out.drewN d).put 1 _
  have c0' := b3.cell 0
  have c1' := b3.cell 1
  simp only [List.getElem?_toArray, List.getElem?_cons_zero, List.getElem?_cons_succ] at c0' c1'
  clear c0 c1 c2 f2 b3 HB
  generalize hw2 : (w.drewN d).setCell ⟨g, 1, none⟩ (.int .i64 (a + k)) = w2 at *
  have HW := Lib.hid hw2
  clear hw2
  have hs : IntKind.i64.wrap (a + k - k) = a := by rw [IntKind.wrap_i64]; omega
  go_quiet (fail)
  clear hs
  go_wp2
  all_goals
    go_ret
    rw [← HW.out]
    have e1 : (a + k).toNat - a.toNat = k.toNat := by omega
    rw [e1]
    refine ⟨_, _, d + nq, rfl, by omega, by omega, ?_, by rw [← World.drewN_drewN]; rfl⟩
  · have e2 : k.toNat = 0 := by omega
    rw [e2]
    exact cut_none _ _ _ _
  · exact cut_some A n a.toNat k.toNat (by omega)
end Go.Proofs.Ytnnkcgbnhjkahaa
namespace Go.Proofs.Ytnnkcgbnhjkahaa
open Go.RowKit

set_option maxRecDepth 4000 in
set_option maxHeartbeats 400000 in
theorem number_any (A : Option Addr) (n c B : Nat) (l : List Int) (w : World) (hr : Row .u8 w B A n l) (hby : Byt l) (hn : n ≤ 4) :
    Calls Try.prog 57 #[.slice A n c] w fun e w' => e = .returned (.int .i64 (num l)) ∧ w = w' := by
  have HR := Lib.hid hr
  clear hr
  have HY := Lib.hid hby
  clear hby
  go_enter Try.func57, Try.ntmps57
  go_wp2
  go_loop [3, 4] (fun v i => ∃ k : Nat, k ≤ n ∧ i = .int .i64 k ∧ v = .int .i64 (num (l.take k))) (fun _ i => n - (intOf i).toNat)
  case atStart => exact ⟨0, Nat.zero_le _, rfl, rfl⟩
  case round =>
    obtain ⟨k, hk, rfl, rfl⟩ := hrel
    have hlen := HR.out.1
    by_cases hlt : k < n
    · have HS := Lib.hid (num_take l k (by omega))
      have hb1 := num_bd3 l HY.out k (by omega) (by omega)
      have hb2 := HY.out.getD k
      rw [List.getD_eq_getElem?_getD] at hb2
      obtain ⟨b, o, rfl, hb, hc⟩ := HR.out.2 (by omega)
      have hc' := hc k hlt
      clear hc hlen
      go_wp2
      go_round
      case rel => exact ⟨k + 1, by omega, by go_num, by rw [HS.out, List.getD_eq_getElem?_getD]⟩
      case measure => simp [intOf]; omega
    · clear hlen
      go_wp2
      go_ret
      exact ⟨ret_int (by rw [List.take_of_length_le (by have := HR.out.1; omega)]), rfl⟩
end Go.Proofs.Ytnnkcgbnhjkahaa
