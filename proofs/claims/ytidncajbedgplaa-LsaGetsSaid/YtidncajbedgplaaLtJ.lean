/- The reference's Get as a whole, and its GetHead; GetHead of package lsa as a whole. Conditions: the slice reads as bytes, at most 500 of them. -/
import Derived.Test.YtidncajbedgplaaLtI
import Derived.Test.YtidncajbedgplaaLsY
namespace Go.Proofs.Ytidncajbedgplaa
open Go.RowKit

set_option maxHeartbeats 4000000 in
theorem refGet_short (A : Option Addr) (n c : Nat) (w : World) (hn : n < 20) : Calls Try.prog 19 #[.slice A n c] w (GotR w zeroHd [] [] 3) := by
  generalize hQ : GotR w zeroHd [] [] 3 = Q
  have HQ := Lib.hid hQ
  clear hQ
  go_enter Try.func19, Try.ntmps19
  go_wp2
  refine bodyPost_ret (v := .agg #[.int .i64 0, .int .i64 0, .int .i64 0, .int .i64 0, .int .i64 0, .int .i64 0, .int .i64 0, .slice none 0 0, .slice none 0 0, .int .i64 3]) (by simp [results, Try.results19, go_sem]) rfl ?_
  rw [← HQ.out]
  exact gotR_head (h := zeroHd) ((Below.refl _ _).alloc (Nat.le_refl _) _)

theorem refGet_any (A : Option Addr) (n c B : Nat) (l : List Int) (w : World) (hr : Row .u8 w B A n l) (hby : Byt l) (hB : B ≤ w.heap.size) (hn2 : n ≤ 500) (hnc : n ≤ c) (hc : c ≤ maxLen) :
    Calls Try.prog 19 #[.slice A n c] w (GotR w (gHead l) (gLinks l) (gMembers l) (gErr l)) := by
  have hlen := hr.1
  by_cases hn : n < 20
  · have he : gErr l = 3 := by unfold gErr; rw [if_pos (by omega)]
    obtain ⟨q1, q2, q3⟩ := gErr_no he (by decide)
    rw [q1, q2, q3, he]
    exact refGet_short A n c w hn
  · obtain ⟨b0, o0, rfl, hb0, -⟩ := hr.2 (by omega)
    by_cases h1 : longOf l < 20
    · have he : gErr l = 4 := by unfold gErr; rw [if_neg (by omega), if_neg (by omega), if_pos h1]
      obtain ⟨q1, q2, q3⟩ := gErr_no he (by decide)
      rw [q1, q2, q3, he]
      exact refGet_early b0 o0 n c B l w hr hby hB (by omega) hn2 hnc hc 4 (.inl ⟨h1, rfl⟩)
    · by_cases h2 : n < longOf l
      · have he : gErr l = 3 := by unfold gErr; rw [if_neg (by omega), if_pos (by omega)]
        obtain ⟨q1, q2, q3⟩ := gErr_no he (by decide)
        rw [q1, q2, q3, he]
        exact refGet_early b0 o0 n c B l w hr hby hB (by omega) hn2 hnc hc 3 (.inr (.inl ⟨by omega, h2, rfl⟩))
      · cases hw : wholeB ((getT l).drop 2) with
        | false =>
          have he : gErr l = 5 := by unfold gErr; rw [if_neg (by omega), if_neg (by omega), if_neg h1, if_pos hw]
          obtain ⟨q1, q2, q3⟩ := gErr_no he (by decide)
          rw [q1, q2, q3, he]
          exact refGet_early b0 o0 n c B l w hr hby hB (by omega) hn2 hnc hc 5 (.inr (.inr ⟨by omega, by omega, hw, rfl⟩))
        | true =>
          have hE : gErr l = if okTold (getT l) = true then 0 else 4 := by
            unfold gErr
            rw [if_neg (by omega), if_neg (by omega), if_neg h1, hw]
            rfl
          have hT : headOf (getT l) = headOf l := headOf_take l _ (by omega)
          have hO : okHead (getT l) = okHead l := okHead_take l _ (by omega)
          cases hok : okHead l with
          | false =>
            have he : gErr l = 4 := by
              rw [hE]
              unfold okTold
              rw [hO, hok]
              rfl
            obtain ⟨q1, q2, q3⟩ := gErr_no he (by decide)
            rw [q1, q2, q3, he]
            exact refGet_hd b0 o0 n c B l w hr hby hB (by omega) hn2 hnc hc (by omega) (by omega) hw hok
          | true =>
            have hG : ∀ (L : List Lk) (M : List Int), tL (getT l) = L → tM (getT l) = M → GotR w (gHead l) (gLinks l) (gMembers l) (gErr l) = GotR w (if okTold (getT l) = true then headOf l else zeroHd) (if okTold (getT l) = true then L else []) (if okTold (getT l) = true then M else []) (if okTold (getT l) = true then 0 else 4) := by
              intro L M hL hM
              unfold gHead gLinks gMembers
              rw [hE, hT, hL, hM]
              cases okTold (getT l) <;> rfl
            by_cases hk : (headOf l).kind = 1
            · have hM : tM (getT l) = [] := by unfold tM; rw [hT, if_pos hk]
              rw [hG _ _ rfl hM, show (if okTold (getT l) = true then ([] : List Int) else []) = [] by split <;> rfl]
              exact refGet_rt b0 o0 n c B l w hr hby hB (by omega) hn2 hnc hc (by omega) (by omega) hw hok hk
            · have hL : tL (getT l) = [] := by unfold tL; rw [hT, if_neg hk]
              rw [hG _ _ hL rfl, show (if okTold (getT l) = true then ([] : List Lk) else []) = [] by split <;> rfl]
              exact refGet_net b0 o0 n c B l w hr hby hB (by omega) hn2 hnc hc (by omega) (by omega) hw hok hk

theorem getHead_any (A : Option Addr) (n c B : Nat) (l : List Int) (w : World) (hr : Row .u8 w B A n l) (hby : Byt l) (hB : B ≤ w.heap.size) (hnc : n ≤ c) (hc : c ≤ maxLen) :
    Calls Try.prog 20 #[.slice A n c] w (GotH w (hRes l) (hErr l)) := by
  have hlen := hr.1
  unfold hRes hErr
  by_cases hn : n < 20
  · have h3 : l.length < 20 := by omega
    rw [if_pos h3, if_pos h3]
    exact getHead_short A n c w hn
  · have h3 : ¬ l.length < 20 := by omega
    rw [if_neg h3, if_neg h3]
    exact getHead_long A n c B l w hr hby hB (by omega) hnc hc

theorem refGetHead_any (A : Option Addr) (n c B : Nat) (l : List Int) (w : World) (hr : Row .u8 w B A n l) (hby : Byt l) (hB : B ≤ w.heap.size) (hnc : n ≤ c) (hc : c ≤ maxLen) :
    Calls Try.prog 21 #[.slice A n c] w (GotR w (hRes l) [] [] (hErr l)) := by
  have hlen := hr.1
  unfold hRes hErr
  by_cases hn : n < 20
  · have h3 : l.length < 20 := by omega
    rw [if_pos h3, if_pos h3]
    exact refGetHead_short A n c w hn
  · have h3 : ¬ l.length < 20 := by omega
    rw [if_neg h3, if_neg h3]
    obtain ⟨b0, o0, rfl, hb0, -⟩ := hr.2 (by omega)
    exact refGetHead_long b0 o0 n c B l w hr hby hB (by omega) hnc hc

theorem refSame_own (h : Hd) (L : List Lk) (M : List Int) (A A' A2 A2' : Option Addr) (n c n' c' m c2 m' c2' base base' : Nat) (w : World) (hL : w.ownsRow base 53 4 (.slice A n c) n (lkCells L)) (hq : L.length = n) (hM : w.ownsRow base 3 1 (.slice A' n' c') n' (M.map (Value.int .i64))) (hq' : M.length = n')
    (hL2 : w.ownsRow base' 53 4 (.slice A2 m c2) m (lkCells L)) (hp : L.length = m) (hM2 : w.ownsRow base' 3 1 (.slice A2' m' c2') m' (M.map (Value.int .i64))) (hp' : M.length = m') :
    Calls Try.prog 18 #[.agg #[.int .i64 h.age, .int .i64 h.kind, .int .i64 h.id, .int .i64 h.adv, .int .i64 h.seq, .int .i64 h.sum, .int .i64 h.long, .slice A n c, .slice A' n' c'], .agg #[.int .i64 h.age, .int .i64 h.kind, .int .i64 h.id, .int .i64 h.adv, .int .i64 h.seq, .int .i64 h.sum, .int .i64 h.long, .slice A2 m c2, .slice A2' m' c2']] w fun e w' => e = .returned (.bool true) ∧ Below w.heap.size w w' := by
  obtain rfl : n = m := by omega
  obtain rfl : n' = m' := by omega
  obtain ⟨A1, c1, e1, h1, h2, h3⟩ := lnk_of_own hL hq
  injection e1 with e1 _ e2
  subst e1 e2
  obtain ⟨A3, c3, e3, h4, h5, h6⟩ := row_of_ints hM hq'
  injection e3 with e3 _ e4
  subst e3 e4
  obtain ⟨A1, c1, e1, h1', h2', h3'⟩ := lnk_of_own hL2 hq
  injection e1 with e1 _ e2
  subst e1 e2
  obtain ⟨A3, c3, e3, h4', h5', h6'⟩ := row_of_ints hM2 hq'
  injection e3 with e3 _ e4
  subst e3 e4
  exact refSame_yes h L M A A' A2 A2' n c n' c' c2 c2' _ _ w h3 h6 h3' h6' (Nat.le_refl _) (Nat.le_refl _) (by omega) (by omega)
end Go.Proofs.Ytidncajbedgplaa
