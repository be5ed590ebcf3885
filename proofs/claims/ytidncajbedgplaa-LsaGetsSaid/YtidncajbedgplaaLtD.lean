/- The reference's num, signed, headOf and GetHead. Conditions: the slice reads as bytes. -/
import Derived.Test.YtidncajbedgplaaLtA
namespace Go.Proofs.Ytidncajbedgplaa
open Go.RowKit

set_option maxHeartbeats 2000000 in
theorem refNum_any (b0 o0 n c B a m : Nat) (l : List Int) (w : World) (hr : Row .u8 w B (some ⟨b0, o0, none⟩) n l) (hby : Byt l) (hnc : n ≤ c) (hc : c ≤ maxLen) (ha : a + m ≤ n) (hm1 : 1 ≤ m) (hm4 : m ≤ 4) :
    Calls Try.prog 43 #[.slice (some ⟨b0, o0, none⟩) n c, .int .i64 a, .int .i64 m] w fun e w' => e = .returned (.int .i64 (wordAt l a m)) ∧ w = w' := by
  unfold maxLen at hc
  have HR := Lib.hid (show Row .u8 w B (some ⟨b0, o0 + a, none⟩) m ((l.drop a).take m) by have h := cut_some _ _ a m ha _ _ _ _ hr; rw [Option.map_some, addr_add] at h; exact h)
  have HY := Lib.hid ((hby.drop a).take m)
  have hne : ¬ c = a := by omega
  clear hr hby
  go_enter Try.func43, Try.ntmps43
  go_wp2_with fail
  refine (number_any (some ⟨b0, o0 + a, none⟩) m (c - a) B _ _ HR.out HY.out hm4).mono ?_
  rintro e1 w1 ⟨rfl, rfl⟩
  go_wp2
  go_ret
  exact ⟨rfl, rfl⟩
theorem refSigned_any (x : Int) (w : World) (h0 : 0 ≤ x) (h1 : x < 4294967296) : Calls Try.prog 56 #[.int .i64 x] w fun e w' => e = .returned (.int .i64 (sgn x)) ∧ w = w' := by
  unfold sgn
  by_cases h : 2147483648 ≤ x
  · rw [if_pos h]
    go_enter Try.func56, Try.ntmps56
    go_wp2
    go_ret
    exact ⟨rfl, rfl⟩
  · rw [if_neg h]
    go_enter Try.func56, Try.ntmps56
    go_wp2
    go_ret
    exact ⟨rfl, rfl⟩

set_option maxHeartbeats 4000000 in
theorem refHeadOf_any (b0 o0 n c B : Nat) (l : List Int) (w : World) (hr : Row .u8 w B (some ⟨b0, o0, none⟩) n l) (hby : Byt l) (hB : B ≤ w.heap.size) (hn : 20 ≤ n) (hnc : n ≤ c) (hc : c ≤ maxLen) :
    Calls Try.prog 41 #[.slice (some ⟨b0, o0, none⟩) n c] w fun e w' => e = .returned (.agg #[.int .i64 (headOf l).age, .int .i64 (headOf l).kind, .int .i64 (headOf l).id, .int .i64 (headOf l).adv, .int .i64 (headOf l).seq, .int .i64 (headOf l).sum, .int .i64 (headOf l).long]) ∧ Below w.heap.size w w' := by
  generalize hQ : (fun (e : Ending) (w' : World) => e = .returned (.agg #[.int .i64 (headOf l).age, .int .i64 (headOf l).kind, .int .i64 (headOf l).id, .int .i64 (headOf l).adv, .int .i64 (headOf l).seq, .int .i64 (headOf l).sum, .int .i64 (headOf l).long]) ∧ Below w.heap.size w w') = Q
  have HQ := Lib.hid hQ
  have hbd := wordAt_bd l hby 12 4 (by rw [hr.1]; omega)
  rw [show (256 : Int) ^ 4 = 4294967296 by decide] at hbd
  have HBD := Lib.hid hbd
  have HR := Lib.hid (hr.alloc hB (.cells #[.int .i64 0, .int .i64 0, .int .i64 0, .int .i64 0, .int .i64 0, .int .i64 0, .int .i64 0] 23))
  have HY := Lib.hid hby
  have HC := Lib.hid hc
  unfold maxLen at hc
  clear hQ hr hby hbd
  have hh : headOf l = ⟨wordAt l 0 2, wordAt l 3 1, wordAt l 4 4, wordAt l 8 4, sgn (wordAt l 12 4), wordAt l 16 2, wordAt l 18 2⟩ := rfl
  have HH := Lib.hid hh
  clear hh
  go_enter Try.func41, Try.ntmps41
  go_wp2_with fail
  refine (refNum_any b0 o0 n c B 0 2 l _ HR.out HY.out hnc HC.out (by omega) (by omega) (by omega)).mono ?_
  rintro e1 w1 ⟨rfl, rfl⟩
  go_wp2_with fail
  refine (refNum_any b0 o0 n c B 3 1 l _ HR.out HY.out hnc HC.out (by omega) (by omega) (by omega)).mono ?_
  rintro e1 w1 ⟨rfl, rfl⟩
  go_wp2_with fail
  refine (refNum_any b0 o0 n c B 4 4 l _ HR.out HY.out hnc HC.out (by omega) (by omega) (by omega)).mono ?_
  rintro e1 w1 ⟨rfl, rfl⟩
  go_wp2_with fail
  refine (refNum_any b0 o0 n c B 8 4 l _ HR.out HY.out hnc HC.out (by omega) (by omega) (by omega)).mono ?_
  rintro e1 w1 ⟨rfl, rfl⟩
  go_wp2_with fail
  refine (refNum_any b0 o0 n c B 12 4 l _ HR.out HY.out hnc HC.out (by omega) (by omega) (by omega)).mono ?_
  rintro e1 w1 ⟨rfl, rfl⟩
  go_wp2_with fail
  refine (refSigned_any _ _ HBD.out.1 HBD.out.2).mono ?_
  rintro e1 w1 ⟨rfl, rfl⟩
  go_wp2_with fail
  refine (refNum_any b0 o0 n c B 16 2 l _ HR.out HY.out hnc HC.out (by omega) (by omega) (by omega)).mono ?_
  rintro e1 w1 ⟨rfl, rfl⟩
  go_wp2_with fail
  refine (refNum_any b0 o0 n c B 18 2 l _ HR.out HY.out hnc HC.out (by omega) (by omega) (by omega)).mono ?_
  rintro e1 w1 ⟨rfl, rfl⟩
  go_wp2
  refine bodyPost_ret (v := .agg #[.int .i64 (wordAt l 0 2), .int .i64 (wordAt l 3 1), .int .i64 (wordAt l 4 4), .int .i64 (wordAt l 8 4), .int .i64 (sgn (wordAt l 12 4)), .int .i64 (wordAt l 16 2), .int .i64 (wordAt l 18 2)]) (by simp [results, Try.results41, go_sem, *]) rfl ?_
  rw [← HQ.out]
  refine ⟨by rw [HH.out], ?_⟩
  exact (Below.refl _ _).alloc (Nat.le_refl _) _

/-- What the reference's Get and GetHead answer. -/
def GotR (w : World) (h : Hd) (L : List Lk) (M : List Int) (e : Int) (x : Ending) (w' : World) : Prop :=
  ∃ A n c A' n' c', x = .returned (.agg #[.int .i64 h.age, .int .i64 h.kind, .int .i64 h.id, .int .i64 h.adv, .int .i64 h.seq, .int .i64 h.sum, .int .i64 h.long, .slice A n c, .slice A' n' c', .int .i64 e]) ∧ w'.ownsRow w.heap.size 53 4 (.slice A n c) n (lkCells L) ∧ L.length = n ∧ w'.ownsRow w.heap.size 3 1 (.slice A' n' c') n' (M.map (Value.int .i64)) ∧ M.length = n' ∧ Below w.heap.size w w'
theorem gotR_head {w w' : World} {h : Hd} {e : Int} (hb : Below w.heap.size w w') : GotR w h [] [] e (.returned (.agg #[.int .i64 h.age, .int .i64 h.kind, .int .i64 h.id, .int .i64 h.adv, .int .i64 h.seq, .int .i64 h.sum, .int .i64 h.long, .slice none 0 0, .slice none 0 0, .int .i64 e])) w' :=
  ⟨none, 0, 0, none, 0, 0, rfl, World.ownsRow_nil _ _ _ _, rfl, World.ownsRow_nil _ _ _ _, rfl, hb⟩

set_option maxHeartbeats 4000000 in
theorem refGetHead_short (A : Option Addr) (n c : Nat) (w : World) (hn : n < 20) : Calls Try.prog 21 #[.slice A n c] w (GotR w zeroHd [] [] 3) := by
  generalize hQ : GotR w zeroHd [] [] 3 = Q
  have HQ := Lib.hid hQ
  clear hQ
  go_enter Try.func21, Try.ntmps21
  go_wp2
  refine bodyPost_ret (v := .agg #[.int .i64 0, .int .i64 0, .int .i64 0, .int .i64 0, .int .i64 0, .int .i64 0, .int .i64 0, .slice none 0 0, .slice none 0 0, .int .i64 3]) (by simp [results, Try.results21, go_sem]) rfl ?_
  rw [← HQ.out]
  exact gotR_head (h := zeroHd) ((Below.refl _ _).alloc (Nat.le_refl _) _)
theorem Blk.ten {w : World} {g : Nat} {t : TypeId} {a0 a1 a2 a3 a4 a5 a6 a7 a8 a9 : Value} (h : Blk w g t #[a0, a1, a2, a3, a4, a5, a6, a7, a8, a9]) :
    w.cell? ⟨g, 0, none⟩ = some a0 ∧ w.cell? ⟨g, 1, none⟩ = some a1 ∧ w.cell? ⟨g, 2, none⟩ = some a2 ∧ w.cell? ⟨g, 3, none⟩ = some a3 ∧ w.cell? ⟨g, 4, none⟩ = some a4 ∧ w.cell? ⟨g, 5, none⟩ = some a5 ∧ w.cell? ⟨g, 6, none⟩ = some a6 ∧ w.cell? ⟨g, 7, none⟩ = some a7 ∧ w.cell? ⟨g, 8, none⟩ = some a8 ∧ w.cell? ⟨g, 9, none⟩ = some a9 :=
  ⟨h.cell 0, h.cell 1, h.cell 2, h.cell 3, h.cell 4, h.cell 5, h.cell 6, h.cell 7, h.cell 8, h.cell 9⟩
theorem Blk.tenF {w : World} {g : Nat} {t : TypeId} {cs : Array Value} (h : Blk w g t cs) :
    w.frozen? ⟨g, 0, none⟩ = false ∧ w.frozen? ⟨g, 1, none⟩ = false ∧ w.frozen? ⟨g, 2, none⟩ = false ∧ w.frozen? ⟨g, 3, none⟩ = false ∧ w.frozen? ⟨g, 4, none⟩ = false ∧ w.frozen? ⟨g, 5, none⟩ = false ∧ w.frozen? ⟨g, 6, none⟩ = false ∧ w.frozen? ⟨g, 7, none⟩ = false ∧ w.frozen? ⟨g, 8, none⟩ = false ∧ w.frozen? ⟨g, 9, none⟩ = false :=
  ⟨h.frozen 0, h.frozen 1, h.frozen 2, h.frozen 3, h.frozen 4, h.frozen 5, h.frozen 6, h.frozen 7, h.frozen 8, h.frozen 9⟩

set_option maxHeartbeats 8000000 in
theorem refGetHead_long (b0 o0 n c B : Nat) (l : List Int) (w : World) (hr : Row .u8 w B (some ⟨b0, o0, none⟩) n l) (hby : Byt l) (hB : B ≤ w.heap.size) (hn : 20 ≤ n) (hnc : n ≤ c) (hc : c ≤ maxLen) :
    Calls Try.prog 21 #[.slice (some ⟨b0, o0, none⟩) n c] w (GotR w (if okHead l = true then headOf l else zeroHd) [] [] (if okHead l = true then 0 else 4)) := by
  generalize hQ : GotR w (if okHead l = true then headOf l else zeroHd) [] [] (if okHead l = true then 0 else 4) = Q
  have HQ := Lib.hid hQ
  have HR := Lib.hid (hr.alloc hB (.cells #[.int .i64 0, .int .i64 0, .int .i64 0, .int .i64 0, .int .i64 0, .int .i64 0, .int .i64 0, .slice none 0 0, .slice none 0 0, .int .i64 0] 42))
  have HY := Lib.hid hby
  have HC := Lib.hid hc
  have h2 := hby.getD 2
  have HL := Lib.hid hr.1
  unfold maxLen at hc
  have KA := Lib.hid (Blk.new w 42 #[.int .i64 0, .int .i64 0, .int .i64 0, .int .i64 0, .int .i64 0, .int .i64 0, .int .i64 0, .slice none 0 0, .slice none 0 0, .int .i64 0])
  have BW := Lib.hid ((Below.refl w.heap.size w).alloc (Nat.le_refl _) (.cells #[.int .i64 0, .int .i64 0, .int .i64 0, .int .i64 0, .int .i64 0, .int .i64 0, .int .i64 0, .slice none 0 0, .slice none 0 0, .int .i64 0] 42))
  clear hQ hr hby
  go_enter Try.func21, Try.ntmps21
  go_wp2_with fail
  refine (refHeadOf_any b0 o0 n c B l _ HR.out HY.out (by simp; omega) hn hnc HC.out).mono ?_
  rintro e1 w1 ⟨rfl, hb1⟩
  have KA1 := Lib.hid (KA.out.below hb1 (by simp))
  have BW1 := Lib.hid (BW.out.trans (hb1.mono (by simp)))
  have HR1 := Lib.hid (HR.out.below (hb1.mono (by simp; omega)))
  have hsz1 := BW1.out.size
  clear hb1 KA BW HR
  obtain ⟨h, hh⟩ : ∃ h, headOf l = h := ⟨_, rfl⟩
  rw [hh]
  have HH := Lib.hid hh
  obtain ⟨_, _, e, hb0, hcc⟩ := HR1.out.2 (by omega)
  injection e with e
  injection e with ea eb
  subst ea eb
  have hc2 := hcc 2 (by omega)
  have hb0' : b0 < w1.heap.size := by omega
  clear hcc hh
  generalize hx : l.getD 2 0 = x at *
  have HX := Lib.hid hx
  clear hx
  have KBn := Lib.hid (Blk.new w1 23 #[.int .i64 h.age, .int .i64 h.kind, .int .i64 h.id, .int .i64 h.adv, .int .i64 h.seq, .int .i64 h.sum, .int .i64 h.long])
  by_cases hx0 : x = 0
  · subst hx0
    go_wp2_with fail
    refine (refHead_any h _).mono ?_
    rintro e2 w2 ⟨rfl, hb2⟩
    have KA2 := Lib.hid ((KA1.out.alloc _).below hb2 (by simp; have := KA1.out.lt; omega))
    have KB2 := Lib.hid (KBn.out.below hb2 (by simp))
    have BW2 := Lib.hid ((BW1.out.alloc hsz1 _).trans (hb2.mono (by simp; omega)))
    clear hb2 KA1 KBn BW1 hc2
    obtain ⟨a0, a1, a2, a3, a4, a5, a6, a7, a8, a9⟩ := KA2.out.ten
    obtain ⟨g0, g1, g2, g3, g4, g5, g6, g7, g8, g9⟩ := KA2.out.tenF
    obtain ⟨k0, k1, k2, k3, k4, k5, k6⟩ := KB2.out.seven
    cases hk : headB h
    · have HOK := Lib.hid (show okHead l = false by unfold okHead; rw [HH.out, hk]; simp)
      go_wp2
      refine bodyPost_ret (v := .agg #[.int .i64 0, .int .i64 0, .int .i64 0, .int .i64 0, .int .i64 0, .int .i64 0, .int .i64 0, .slice none 0 0, .slice none 0 0, .int .i64 4]) (by simp [results, Try.results21, go_sem, *]) rfl ?_
      rw [← HQ.out, HOK.out]
      exact gotR_head (h := zeroHd) ((((((((((BW2.out.setCell (by simp) _).setCell (by simp) _).setCell (by simp) _).setCell (by simp) _).setCell (by simp) _).setCell (by simp) _).setCell (by simp) _).setCell (by simp) _).setCell (by simp) _).setCell (by simp) _)
    · have HOK := Lib.hid (show okHead l = true by unfold okHead; rw [HH.out, hk, HX.out]; rfl)
      go_wp2
      refine bodyPost_ret (v := .agg #[.int .i64 h.age, .int .i64 h.kind, .int .i64 h.id, .int .i64 h.adv, .int .i64 h.seq, .int .i64 h.sum, .int .i64 h.long, .slice none 0 0, .slice none 0 0, .int .i64 0]) (by simp [results, Try.results21, go_sem, *]) rfl ?_
      rw [← HQ.out, HOK.out, HH.out]
      exact gotR_head ((((((((((BW2.out.setCell (by simp) _).setCell (by simp) _).setCell (by simp) _).setCell (by simp) _).setCell (by simp) _).setCell (by simp) _).setCell (by simp) _).setCell (by simp) _).setCell (by simp) _).setCell (by simp) _)
  · have HOK := Lib.hid (show okHead l = false by unfold okHead; rw [HX.out, decide_eq_false hx0]; rfl)
    have hd : (x != 0) = true := by simp [hx0]
    clear hx0
    go_upto_region 4 with fail
    have KA2 := Lib.hid (KA1.out.alloc (.cells #[.int .i64 h.age, .int .i64 h.kind, .int .i64 h.id, .int .i64 h.adv, .int .i64 h.seq, .int .i64 h.sum, .int .i64 h.long] 23))
    have BW2 := Lib.hid (BW1.out.alloc hsz1 (.cells #[.int .i64 h.age, .int .i64 h.kind, .int .i64 h.id, .int .i64 h.adv, .int .i64 h.seq, .int .i64 h.sum, .int .i64 h.long] 23))
    have hc3 := (World.cell?_alloc_lt w1 (.cells #[.int .i64 h.age, .int .i64 h.kind, .int .i64 h.id, .int .i64 h.adv, .int .i64 h.seq, .int .i64 h.sum, .int .i64 h.long] 23) ⟨b0, o0 + 2, none⟩ hb0').trans hc2
    clear KA1 BW1 hc2 KBn
    generalize w1.alloc (.cells #[.int .i64 h.age, .int .i64 h.kind, .int .i64 h.id, .int .i64 h.adv, .int .i64 h.seq, .int .i64 h.sum, .int .i64 h.long] 23) = w2 at *
    obtain ⟨a0, a1, a2, a3, a4, a5, a6, a7, a8, a9⟩ := KA2.out.ten
    obtain ⟨g0, g1, g2, g3, g4, g5, g6, g7, g8, g9⟩ := KA2.out.tenF
    go_wp2
    refine bodyPost_ret (v := .agg #[.int .i64 0, .int .i64 0, .int .i64 0, .int .i64 0, .int .i64 0, .int .i64 0, .int .i64 0, .slice none 0 0, .slice none 0 0, .int .i64 4]) (by simp [results, Try.results21, go_sem, *]) rfl ?_
    rw [← HQ.out, HOK.out]
    exact gotR_head (h := zeroHd) ((((((((((BW2.out.setCell (by simp) _).setCell (by simp) _).setCell (by simp) _).setCell (by simp) _).setCell (by simp) _).setCell (by simp) _).setCell (by simp) _).setCell (by simp) _).setCell (by simp) _).setCell (by simp) _)
end Go.Proofs.Ytidncajbedgplaa
