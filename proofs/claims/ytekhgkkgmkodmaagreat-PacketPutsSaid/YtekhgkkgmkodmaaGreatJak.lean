/- Lists and descriptions that are alike: slices.Equal, Same, and the reference's Ints and Same. Conditions: the lists read alike. · Plain facts on the Internet checksum: the sum of bytes as numbers of two bytes, and its folding into 16 bits. No program, no conditions. · The small calls of package ipsum: even and folded. Conditions: the argument is one of its kind. · A slice of slices of bytes, read as rows. No conditions. · The call Of of package ipsum. Conditions: what is handed in reads as rows of bytes, at most 2^40 of them in all. · The reference's call Same: two rows of bytes that are alike. Conditions: the slices read as bytes. -/
import Derived.Laws.BitsAllLaws
import Derived.Deep.Matrix
import Derived.Test.YtekhgkkgmkodmaaGreatJai
import Derived.Test.YtekhgkkgmkodmaaGreatJaa
namespace Go.Proofs.YtekhgkkgmkodmaaGreat
open Go.RowKit

set_option maxRecDepth 4000 in
set_option maxHeartbeats 2000000 in
theorem equalI_yes (A A' : Option Addr) (n c c' B B' : Nat) (M : List Int) (w : World) (hr : Row .i64 w B A n M) (hr' : Row .i64 w B' A' n M) (hn : n ≤ maxLen) :
    Calls Tryz.prog 74 #[.slice A n c, .slice A' n c'] w fun e w' => e = .returned (.bool true) ∧ ∃ d, w' = w.drewN d := by
  unfold maxLen at hn
  have HR := Lib.hid hr
  have HR' := Lib.hid hr'
  clear hr hr'
  go_enter Tryz.func74, Tryz.ntmps74
  go_wp2
  go_loopw [13] (fun i wr => ∃ k d : Nat, k ≤ n ∧ i = .int .i64 k ∧ wr = w.drewN d) (fun i _ => n - (intOf i).toNat)
  case atStart => exact ⟨0, 0, Nat.zero_le _, rfl, rfl⟩
  case round =>
    obtain ⟨k, d, hk, rfl, rfl⟩ := hrel
    by_cases hlt : k < n
    · obtain ⟨b, o, rfl, hb, hc⟩ := HR.out.2 (by omega)
      obtain ⟨b', o', rfl, hb', hc'⟩ := HR'.out.2 (by omega)
      have hx := hc k hlt
      have hy := hc' k hlt
      clear hc hc'
      have hlt' : (k : Int) < n := by omega
      go_wp2
      go_quiet (fail)
      go_wp2
      go_roundw
      case rel => exact ⟨k + 1, _, by omega, by go_num, rfl⟩
      case measure => simp [intOf]; omega
    · go_wp2
      go_ret
      exact ⟨rfl, _, rfl⟩
set_option maxRecDepth 4000 in
set_option maxHeartbeats 2000000 in
theorem refInts_yes (A A' : Option Addr) (n c c' B B' : Nat) (M : List Int) (w : World) (hr : Row .i64 w B A n M) (hr' : Row .i64 w B' A' n M) (hn : n ≤ maxLen) :
    Calls Tryz.prog 94 #[.slice A n c, .slice A' n c'] w fun e w' => e = .returned (.bool true) ∧ ∃ d, w' = w.drewN d := by
  unfold maxLen at hn
  have HR := Lib.hid hr
  have HR' := Lib.hid hr'
  clear hr hr'
  go_enter Tryz.func94, Tryz.ntmps94
  go_wp2
  go_loopw [5] (fun i wr => ∃ k d : Nat, k ≤ n ∧ i = .int .i64 k ∧ wr = w.drewN d) (fun i _ => n - (intOf i).toNat)
  case atStart => exact ⟨0, 0, Nat.zero_le _, rfl, rfl⟩
  case round =>
    obtain ⟨k, d, hk, rfl, rfl⟩ := hrel
    by_cases hlt : k < n
    · obtain ⟨b, o, rfl, hb, hc⟩ := HR.out.2 (by omega)
      obtain ⟨b', o', rfl, hb', hc'⟩ := HR'.out.2 (by omega)
      have hx := hc k hlt
      have hy := hc' k hlt
      clear hc hc'
      have hlt' : (k : Int) < n := by omega
      go_wp2
      go_quiet (fail)
      go_wp2
      go_roundw
      case rel => exact ⟨k + 1, _, by omega, by go_num, rfl⟩
      case measure => simp [intOf]; omega
    · go_wp2
      go_ret
      exact ⟨rfl, _, rfl⟩
set_option maxRecDepth 4000 in
set_option maxHeartbeats 2000000 in
theorem equalL_yes (A A' : Option Addr) (n c c' B B' : Nat) (L : List Lk) (w : World) (hr : Lnk w B A n L) (hr' : Lnk w B' A' n L) (hn : n ≤ maxLen) :
    Calls Tryz.prog 75 #[.slice A n c, .slice A' n c'] w fun e w' => e = .returned (.bool true) ∧ ∃ d, w' = w.drewN d := by
  unfold maxLen at hn
  have HR := Lib.hid hr
  have HR' := Lib.hid hr'
  clear hr hr'
  go_enter Tryz.func75, Tryz.ntmps75
  go_wp2
  go_loopw [13] (fun i wr => ∃ k d : Nat, k ≤ n ∧ i = .int .i64 k ∧ wr = w.drewN d) (fun i _ => n - (intOf i).toNat)
  case atStart => exact ⟨0, 0, Nat.zero_le _, rfl, rfl⟩
  case round =>
    obtain ⟨k, d, hk, rfl, rfl⟩ := hrel
    by_cases hlt : k < n
    · obtain ⟨b, o, rfl, hb, hc⟩ := HR.out.2 (by omega)
      obtain ⟨b', o', rfl, hb', hc'⟩ := HR'.out.2 (by omega)
      obtain ⟨x0, x1, x2, x3⟩ := hc k hlt
      obtain ⟨y0, y1, y2, y3⟩ := hc' k hlt
      generalize L.getD k ⟨0, 0, 0, 0⟩ = kk at *
      clear hc hc'
      have hlt' : (k : Int) < n := by omega
      go_wp2
      go_quiet (fail)
      go_wp2

      go_roundw
      case rel => exact ⟨k + 1, _, by omega, by go_num, rfl⟩
      case measure => simp [intOf]; omega
    · go_wp2
      go_ret
      exact ⟨rfl, _, rfl⟩

set_option maxRecDepth 4000 in
set_option maxHeartbeats 4000000 in
theorem same_yesL (h : Hd) (L : List Lk) (M : List Int) (A A' A2 A2' : Option Addr) (n c n' c' c2 c2' B B2 : Nat) (w : World) (hL : Lnk w B A n L) (hM : Row .i64 w B A' n' M) (hL2 : Lnk w B2 A2 n L) (hM2 : Row .i64 w B2 A2' n' M) (hB : B ≤ w.heap.size) (hB2 : B2 ≤ w.heap.size) (hn : n ≤ maxLen) (hn' : n' ≤ maxLen) :
    Calls Tryz.prog 45 #[.agg #[.int .i64 h.age, .int .i64 h.kind, .int .i64 h.id, .int .i64 h.adv, .int .i64 h.seq, .int .i64 h.sum, .int .i64 h.long, .slice A n c, .slice A' n' c'], .agg #[.int .i64 h.age, .int .i64 h.kind, .int .i64 h.id, .int .i64 h.adv, .int .i64 h.seq, .int .i64 h.sum, .int .i64 h.long, .slice A2 n c2, .slice A2' n' c2']] w fun e w' => e = .returned (.bool true) ∧ Below w.heap.size w w' := by
  have HN := Lib.hid hn
  have HN' := Lib.hid hn'
  unfold maxLen at hn hn'
  have HL := Lib.hid ((hL.alloc hB (.cells #[.int .i64 h.age, .int .i64 h.kind, .int .i64 h.id, .int .i64 h.adv, .int .i64 h.seq, .int .i64 h.sum, .int .i64 h.long, .slice A n c, .slice A' n' c'] 47)).alloc (by simp; omega) (.cells #[.int .i64 h.age, .int .i64 h.kind, .int .i64 h.id, .int .i64 h.adv, .int .i64 h.seq, .int .i64 h.sum, .int .i64 h.long, .slice A2 n c2, .slice A2' n' c2'] 47))
  have HM := Lib.hid ((hM.alloc hB (.cells #[.int .i64 h.age, .int .i64 h.kind, .int .i64 h.id, .int .i64 h.adv, .int .i64 h.seq, .int .i64 h.sum, .int .i64 h.long, .slice A n c, .slice A' n' c'] 47)).alloc (by simp; omega) (.cells #[.int .i64 h.age, .int .i64 h.kind, .int .i64 h.id, .int .i64 h.adv, .int .i64 h.seq, .int .i64 h.sum, .int .i64 h.long, .slice A2 n c2, .slice A2' n' c2'] 47))
  have HL2 := Lib.hid ((hL2.alloc hB2 (.cells #[.int .i64 h.age, .int .i64 h.kind, .int .i64 h.id, .int .i64 h.adv, .int .i64 h.seq, .int .i64 h.sum, .int .i64 h.long, .slice A n c, .slice A' n' c'] 47)).alloc (by simp; omega) (.cells #[.int .i64 h.age, .int .i64 h.kind, .int .i64 h.id, .int .i64 h.adv, .int .i64 h.seq, .int .i64 h.sum, .int .i64 h.long, .slice A2 n c2, .slice A2' n' c2'] 47))
  have HM2 := Lib.hid ((hM2.alloc hB2 (.cells #[.int .i64 h.age, .int .i64 h.kind, .int .i64 h.id, .int .i64 h.adv, .int .i64 h.seq, .int .i64 h.sum, .int .i64 h.long, .slice A n c, .slice A' n' c'] 47)).alloc (by simp; omega) (.cells #[.int .i64 h.age, .int .i64 h.kind, .int .i64 h.id, .int .i64 h.adv, .int .i64 h.seq, .int .i64 h.sum, .int .i64 h.long, .slice A2 n c2, .slice A2' n' c2'] 47))
  have BW := Lib.hid (((Below.refl w.heap.size w).alloc (Nat.le_refl _) (.cells #[.int .i64 h.age, .int .i64 h.kind, .int .i64 h.id, .int .i64 h.adv, .int .i64 h.seq, .int .i64 h.sum, .int .i64 h.long, .slice A n c, .slice A' n' c'] 47)).alloc (by simp) (.cells #[.int .i64 h.age, .int .i64 h.kind, .int .i64 h.id, .int .i64 h.adv, .int .i64 h.seq, .int .i64 h.sum, .int .i64 h.long, .slice A2 n c2, .slice A2' n' c2'] 47))
  clear hL hM hL2 hM2
  go_enter Tryz.func45, Tryz.ntmps45
  go_wp2_with fail
  refine (equalL_yes A A2 n c c2 B B2 L _ HL.out HL2.out HN.out).mono ?_
  rintro e1 w1 ⟨rfl, d1, rfl⟩
  go_wp2_with fail
  refine (equalI_yes A' A2' n' c' c2' B B2 M _ (HM.out.drewN d1) (HM2.out.drewN d1) HN'.out).mono ?_
  rintro e2 w2 ⟨rfl, d2, rfl⟩
  go_wp2
  go_ret
  exact ⟨rfl, below_drewN BW.out _⟩

set_option maxRecDepth 4000 in
set_option maxHeartbeats 4000000 in
theorem refSame_yes (h : Hd) (L : List Lk) (M : List Int) (A A' A2 A2' : Option Addr) (n c n' c' c2 c2' B B2 : Nat) (w : World) (hL : Lnk w B A n L) (hM : Row .i64 w B A' n' M) (hL2 : Lnk w B2 A2 n L) (hM2 : Row .i64 w B2 A2' n' M) (hB : B ≤ w.heap.size) (hB2 : B2 ≤ w.heap.size) (hn : n ≤ maxLen) (hn' : n' ≤ maxLen) :
    Calls Tryz.prog 73 #[.agg #[.int .i64 h.age, .int .i64 h.kind, .int .i64 h.id, .int .i64 h.adv, .int .i64 h.seq, .int .i64 h.sum, .int .i64 h.long, .slice A n c, .slice A' n' c'], .agg #[.int .i64 h.age, .int .i64 h.kind, .int .i64 h.id, .int .i64 h.adv, .int .i64 h.seq, .int .i64 h.sum, .int .i64 h.long, .slice A2 n c2, .slice A2' n' c2']] w fun e w' => e = .returned (.bool true) ∧ Below w.heap.size w w' := by
  have HN := Lib.hid hn
  have HN' := Lib.hid hn'
  unfold maxLen at hn hn'
  have HL := Lib.hid ((hL.alloc hB (.cells #[.int .i64 h.age, .int .i64 h.kind, .int .i64 h.id, .int .i64 h.adv, .int .i64 h.seq, .int .i64 h.sum, .int .i64 h.long, .slice A n c, .slice A' n' c'] 47)).alloc (by simp; omega) (.cells #[.int .i64 h.age, .int .i64 h.kind, .int .i64 h.id, .int .i64 h.adv, .int .i64 h.seq, .int .i64 h.sum, .int .i64 h.long, .slice A2 n c2, .slice A2' n' c2'] 47))
  have HM := Lib.hid ((hM.alloc hB (.cells #[.int .i64 h.age, .int .i64 h.kind, .int .i64 h.id, .int .i64 h.adv, .int .i64 h.seq, .int .i64 h.sum, .int .i64 h.long, .slice A n c, .slice A' n' c'] 47)).alloc (by simp; omega) (.cells #[.int .i64 h.age, .int .i64 h.kind, .int .i64 h.id, .int .i64 h.adv, .int .i64 h.seq, .int .i64 h.sum, .int .i64 h.long, .slice A2 n c2, .slice A2' n' c2'] 47))
  have HL2 := Lib.hid ((hL2.alloc hB2 (.cells #[.int .i64 h.age, .int .i64 h.kind, .int .i64 h.id, .int .i64 h.adv, .int .i64 h.seq, .int .i64 h.sum, .int .i64 h.long, .slice A n c, .slice A' n' c'] 47)).alloc (by simp; omega) (.cells #[.int .i64 h.age, .int .i64 h.kind, .int .i64 h.id, .int .i64 h.adv, .int .i64 h.seq, .int .i64 h.sum, .int .i64 h.long, .slice A2 n c2, .slice A2' n' c2'] 47))
  have HM2 := Lib.hid ((hM2.alloc hB2 (.cells #[.int .i64 h.age, .int .i64 h.kind, .int .i64 h.id, .int .i64 h.adv, .int .i64 h.seq, .int .i64 h.sum, .int .i64 h.long, .slice A n c, .slice A' n' c'] 47)).alloc (by simp; omega) (.cells #[.int .i64 h.age, .int .i64 h.kind, .int .i64 h.id, .int .i64 h.adv, .int .i64 h.seq, .int .i64 h.sum, .int .i64 h.long, .slice A2 n c2, .slice A2' n' c2'] 47))
  have BW := Lib.hid (((Below.refl w.heap.size w).alloc (Nat.le_refl _) (.cells #[.int .i64 h.age, .int .i64 h.kind, .int .i64 h.id, .int .i64 h.adv, .int .i64 h.seq, .int .i64 h.sum, .int .i64 h.long, .slice A n c, .slice A' n' c'] 47)).alloc (by simp) (.cells #[.int .i64 h.age, .int .i64 h.kind, .int .i64 h.id, .int .i64 h.adv, .int .i64 h.seq, .int .i64 h.sum, .int .i64 h.long, .slice A2 n c2, .slice A2' n' c2'] 47))
  clear hL hM hL2 hM2
  go_enter Tryz.func73, Tryz.ntmps73
  go_wp2_with fail
  refine (refInts_yes A' A2' n' c' c2' B B2 M _ HM.out HM2.out HN'.out).mono ?_
  rintro e2 w2 ⟨rfl, d2, rfl⟩
  have K1 := Lib.hid ((Blk.new w 47 #[.int .i64 h.age, .int .i64 h.kind, .int .i64 h.id, .int .i64 h.adv, .int .i64 h.seq, .int .i64 h.sum, .int .i64 h.long, .slice A n c, .slice A' n' c']).alloc (.cells #[.int .i64 h.age, .int .i64 h.kind, .int .i64 h.id, .int .i64 h.adv, .int .i64 h.seq, .int .i64 h.sum, .int .i64 h.long, .slice A2 n c2, .slice A2' n' c2'] 47))
  have K2 := Lib.hid (blk_new1 w (.cells #[.int .i64 h.age, .int .i64 h.kind, .int .i64 h.id, .int .i64 h.adv, .int .i64 h.seq, .int .i64 h.sum, .int .i64 h.long, .slice A n c, .slice A' n' c'] 47) 47 #[.int .i64 h.age, .int .i64 h.kind, .int .i64 h.id, .int .i64 h.adv, .int .i64 h.seq, .int .i64 h.sum, .int .i64 h.long, .slice A2 n c2, .slice A2' n' c2'])
  go_wp2_with fail
  generalize (w.alloc (.cells #[.int .i64 h.age, .int .i64 h.kind, .int .i64 h.id, .int .i64 h.adv, .int .i64 h.seq, .int .i64 h.sum, .int .i64 h.long, .slice A n c, .slice A' n' c'] 47)).alloc (.cells #[.int .i64 h.age, .int .i64 h.kind, .int .i64 h.id, .int .i64 h.adv, .int .i64 h.seq, .int .i64 h.sum, .int .i64 h.long, .slice A2 n c2, .slice A2' n' c2'] 47) = w0 at *
  go_loopw [5] (fun i wr => ∃ k d : Nat, k ≤ n ∧ i = .int .i64 k ∧ wr = w0.drewN d) (fun i _ => n - (intOf i).toNat)
  case atStart => exact ⟨0, _, Nat.zero_le _, rfl, rfl⟩
  case round =>
    obtain ⟨k, d, hk, rfl, rfl⟩ := hrel
    obtain ⟨k0, k1, k2, k3, k4, k5, k6, k7, k8⟩ := K1.out.nine
    obtain ⟨j0, j1, j2, j3, j4, j5, j6, j7, j8⟩ := K2.out.nine
    clear k0 k1 k2 k3 k4 k5 k6 k8 j0 j1 j2 j3 j4 j5 j6 j8
    by_cases hlt : k < n
    · obtain ⟨b, o, rfl, hb, hc⟩ := HL.out.2 (by omega)
      obtain ⟨b', o', rfl, hb', hc'⟩ := HL2.out.2 (by omega)
      obtain ⟨x0, x1, x2, x3⟩ := hc k hlt
      obtain ⟨y0, y1, y2, y3⟩ := hc' k hlt
      generalize L.getD k ⟨0, 0, 0, 0⟩ = kk at *
      clear hc hc'
      have hlt' : (k : Int) < n := by omega
      go_wp2
      go_quiet (fail)
      go_wp2
      go_roundw
      case rel => exact ⟨k + 1, _, by omega, by go_num, rfl⟩
      case measure => simp [intOf]; omega
    · go_wp2
      go_ret
      exact ⟨rfl, below_drewN BW.out _⟩
end Go.Proofs.YtekhgkkgmkodmaaGreat
namespace Go.Proofs.YtekhgkkgmkodmaaGreat

/-- What a byte at place i counts. -/
def wgt (i : Nat) : Int := if i % 2 = 0 then 256 else 1
theorem wgt_pos (i : Nat) : 1 ≤ wgt i ∧ wgt i ≤ 256 := by unfold wgt; split <;> omega
/-- The bytes l, the first of them at place i, as numbers of two bytes, added. -/
def totFrom : Nat → List Int → Int
  | _, [] => 0
  | i, x :: l => wgt i * x + totFrom (i + 1) l
def tot (l : List Int) : Int := totFrom 0 l
theorem totFrom_append (a b : List Int) (i : Nat) : totFrom i (a ++ b) = totFrom i a + totFrom (i + a.length) b := by
  induction a generalizing i with
  | nil => simp [totFrom]
  | cons x a ih =>
    have e : i + (a.length + 1) = i + 1 + a.length := by omega
    simp only [List.cons_append, totFrom, ih, List.length_cons, e]
    omega
theorem tot_nil : tot [] = 0 := rfl
theorem tot_snoc (l : List Int) (x : Int) : tot (l ++ [x]) = tot l + wgt l.length * x := by
  simp [tot, totFrom_append, totFrom]
theorem totFrom_bd (l : List Int) (h : Byt l) (i : Nat) : 0 ≤ totFrom i l ∧ totFrom i l ≤ 65536 * l.length := by
  induction l generalizing i with
  | nil => simp [totFrom]
  | cons x l ih =>
    have h1 := ih (fun y hy => h y (List.mem_cons_of_mem _ hy)) (i + 1)
    have h2 := h x (List.mem_cons_self ..)
    simp only [totFrom, List.length_cons]
    unfold wgt
    split <;> omega
theorem tot_bd (l : List Int) (h : Byt l) : 0 ≤ tot l ∧ tot l ≤ 65536 * l.length := totFrom_bd l h 0
theorem totFrom_set (l : List Int) (i k : Nat) (y : Int) (hk : k < l.length) : totFrom i (l.set k y) = totFrom i l + wgt (i + k) * (y - l.getD k 0) := by
  induction l generalizing i k with
  | nil => simp at hk
  | cons x l ih =>
    cases k with
    | zero => simp only [List.set_cons_zero, totFrom, List.getD_cons_zero, Nat.add_zero, Int.mul_sub]; omega
    | succ k =>
      have e : i + 1 + k = i + (k + 1) := by omega
      simp only [List.set_cons_succ, totFrom, List.getD_cons_succ]
      rw [ih (i + 1) k (by simpa using hk), e]
      omega
theorem tot_set (l : List Int) (k : Nat) (y : Int) (hk : k < l.length) : tot (l.set k y) = tot l + wgt k * (y - l.getD k 0) := by
  have := totFrom_set l 0 k y hk
  rwa [Nat.zero_add] at this

/-- A sum folded into 16 bits: what goes beyond them is added again, till nothing does. -/
def fold (t : Int) : Int := if t = 0 then 0 else (t - 1) % 65535 + 1
theorem fold_bd (t : Int) : 0 ≤ fold t ∧ fold t ≤ 65535 := by unfold fold; split <;> omega
theorem fold_small (t : Int) (h0 : 0 ≤ t) (h1 : t ≤ 65535) : fold t = t := by unfold fold; split <;> omega
theorem fold_step (t : Int) (h : 65535 < t) : fold (t / 65536 + t % 65536) = fold t := by
  unfold fold
  rw [if_neg (by omega), if_neg (by omega)]
  omega
theorem fold_add (t v : Int) (h0 : 0 ≤ t) (v0 : 0 ≤ v) (v1 : v ≤ 65535) : fold (t + v) = if 65535 < fold t + v then fold t + v - 65535 else fold t + v := by
  unfold fold
  split <;> split <;> split <;> omega
/-- The sum that the document says. -/
def sumOf (l : List Int) : Int := 65535 - fold (tot l)
theorem sumOf_bd (l : List Int) : 0 ≤ sumOf l ∧ sumOf l ≤ 65535 := by
  have := fold_bd (tot l)
  unfold sumOf; omega
theorem sumOf_zero (l : List Int) (h : 0 ≤ tot l) : sumOf l = 0 ↔ (tot l % 65535 = 0 ∧ 0 < tot l) := by
  unfold sumOf fold
  split <;> omega

theorem and_mask (t : Int) (h0 : 0 ≤ t) (h1 : t < 18446744073709551616) : bits .and .u64 t 65535 = t % 65536 := by
  rw [u64_and t 65535 h0 h1 (by decide) (by decide), show (65535 : Int).toNat = 65535 from rfl, nat_mask16]
  omega
theorem not_mask (r : Int) (h0 : 0 ≤ r) (h1 : r ≤ 65535) : bits .andNot .u64 65535 r = 65535 - r := by
  rw [u64_andNot 65535 r (by decide) (by decide) h0 (by omega), show (65535 : Int).toNat = 65535 from rfl, nat_mask16']
  omega

/-- One byte of good bytes is changed: the sum isn't 0. -/
theorem changed (l : List Int) (hl : Byt l) (k : Nat) (y : Int) (hk : k < l.length) (h : sumOf l = 0) (hy0 : 0 ≤ y) (hy1 : y ≤ 255) (hne : y ≠ l.getD k 0) : sumOf (l.set k y) ≠ 0 := by
  have hb := hl.getD k
  have hbyt : Byt (l.set k y) := fun x hx => by
    rcases List.mem_or_eq_of_mem_set hx with hx | rfl
    · exact hl x hx
    · exact ⟨hy0, hy1⟩
  have h0 := (tot_bd l hl).1
  have h1 := (tot_bd _ hbyt).1
  rw [sumOf_zero l h0] at h
  rw [Ne, sumOf_zero _ h1, tot_set l k y hk]
  unfold wgt
  split <;> omega

/-- The two bytes of a sum, put where zeros are, make it good. -/
theorem filled (l : List Int) (hl : Byt l) (k : Nat) (hk : k + 1 < l.length) (he : k % 2 = 0) (h0 : l.getD k 0 = 0) (h1 : l.getD (k + 1) 0 = 0) :
    sumOf ((l.set k (sumOf l / 256)).set (k + 1) (sumOf l % 256)) = 0 := by
  have hb := sumOf_bd l
  have ht := (tot_bd l hl).1
  have e1 : (l.set k (sumOf l / 256)).getD (k + 1) 0 = 0 := by
    refine Eq.trans ?_ h1
    simp only [List.getD_eq_getElem?_getD]
    rw [List.getElem?_set_ne (by omega)]
  have e2 : tot ((l.set k (sumOf l / 256)).set (k + 1) (sumOf l % 256)) = tot l + sumOf l := by
    rw [tot_set _ _ _ (by simpa using hk), tot_set _ _ _ (by omega), e1, h0]
    unfold wgt
    rw [if_pos he, if_neg (by omega)]
    omega
  rw [sumOf_zero _ (by omega), e2]
  have hf := fold_bd (tot l)
  have hs : sumOf l = 65535 - fold (tot l) := rfl
  unfold fold at hs
  split at hs <;> omega
end Go.Proofs.YtekhgkkgmkodmaaGreat
namespace Go.Proofs.YtekhgkkgmkodmaaGreat
open Go.RowKit

theorem even_any (n : Int) (w : World) : Calls Tryz.prog 53 #[.int .i64 n] w fun e w' => e = .returned (.bool (decide (n % 2 = 0))) ∧ w = w' := by
  have hd : decide (n % 2 = 0) = (Int.tmod n 2 == 0) := by
    have h1 : n.tmod 2 = 0 ↔ n % 2 = 0 := by rw [← Int.dvd_iff_tmod_eq_zero, Int.dvd_iff_emod_eq_zero]
    rw [Bool.eq_iff_iff, decide_eq_true_iff, beq_iff_eq, h1]
  rw [hd]
  go_enter Tryz.func53, Tryz.ntmps53
  go_wp2
  go_ret
  exact ⟨rfl, rfl⟩

set_option maxRecDepth 4000 in
set_option maxHeartbeats 400000 in
theorem folded_any (t : Int) (h0 : 0 ≤ t) (h1 : t < 18446744073709551616) (w : World) : Calls Tryz.prog 77 #[.int .u64 t] w fun e w' => e = .returned (.int .u64 (fold t)) ∧ w = w' := by
  go_enter Tryz.func77, Tryz.ntmps77
  go_wp2_with fail
  go_loop [0] (fun x => ∃ u : Int, 0 ≤ u ∧ u < 18446744073709551616 ∧ x = .int .u64 u ∧ Hid (fold u = fold t)) (fun x => (intOf x).toNat)
  case atStart => exact ⟨t, h0, h1, rfl, Lib.hid rfl⟩
  case round =>
    obtain ⟨u, hu0, hu1, rfl, hf⟩ := hrel
    by_cases hlt : 65535 < u
    · have e1 := and_mask u hu0 hu1
      have HS := Lib.hid (fold_step u hlt)
      go_wp2
      go_round
      case rel => exact ⟨u / 65536 + u % 65536, by omega, by omega, by go_num, Lib.hid (HS.out.trans hf.out)⟩
      case measure => simp [intOf]; omega
    · have e1 := fold_small u hu0 (by omega)
      have HE := Lib.hid (e1.symm.trans hf.out)
      clear e1
      go_wp2
      go_ret
      exact ⟨congrArg (fun x => Ending.returned (.int .u64 x)) HE.out, rfl⟩
end Go.Proofs.YtekhgkkgmkodmaaGreat
namespace Go.Proofs.YtekhgkkgmkodmaaGreat
open Go.RowKit Go.WideShapes Go.Deep

/-- A slice value '.slice A n c' whose elements are slices of bytes, that read as ls; what they lead to lies below block B. -/
def Rows2 (w : World) (B : Nat) (A : Option Addr) (n : Nat) (ls : List (List Int)) : Prop :=
  ls.length = n ∧ (0 < n → ∃ b o, A = some ⟨b, o, none⟩ ∧ b < B ∧ ∀ j, j < n → ∃ A' m c, w.cell? ⟨b, o + j, none⟩ = some (.slice A' m c) ∧ m ≤ c ∧ Row .u8 w B A' m (ls.getD j []))
section
variable {w w' : World} {B B' n : Nat} {A : Option Addr} {ls : List (List Int)}
theorem Rows2.nil : Rows2 w B A 0 [] := ⟨rfl, fun h => absurd h (by omega)⟩
theorem Rows2.below (h : Rows2 w B A n ls) (hb : Below B w w') : Rows2 w' B A n ls :=
  ⟨h.1, fun hn => by
    obtain ⟨b, o, e, hB, hc⟩ := h.2 hn
    refine ⟨b, o, e, hB, fun j hj => ?_⟩
    obtain ⟨A', m, c, h1, h2, h3⟩ := hc j hj
    exact ⟨A', m, c, (hb.cell (p := ⟨b, o + j, none⟩) hB).trans h1, h2, h3.below hb⟩⟩
end
theorem rows2_one {w : World} {A : Option Addr} {n c B : Nat} {l : List Int} (h : Row .u8 w B A n l) (hB : B ≤ w.heap.size) (hc : n ≤ c) (t : TypeId) : Rows2 (w.alloc (.cells #[.slice A n c] t)) (w.heap.size + 1) (some ⟨w.heap.size, 0, none⟩) 1 [l] := by
  refine ⟨rfl, fun _ => ⟨_, _, rfl, by omega, fun j hj => ?_⟩⟩
  obtain rfl : j = 0 := by omega
  refine ⟨A, n, c, ?_, hc, ?_⟩
  · rw [(Blk.new w t #[.slice A n c]).cell]; rfl
  · exact (h.alloc hB _).more (by omega)
theorem flat_snoc (ls : List (List Int)) (q : Nat) (h : q < ls.length) : (ls.take (q + 1)).flatten = (ls.take q).flatten ++ ls.getD q [] := by
  rw [List.take_succ_eq_append_getElem h, List.flatten_append, List.getD_eq_getElem?_getD, List.getElem?_eq_getElem h]; simp
theorem flat_le (ls : List (List Int)) (q : Nat) : (ls.take q).flatten.length ≤ ls.flatten.length := by
  conv => rhs; rw [← List.take_append_drop q ls]
  rw [List.flatten_append, List.length_append]; omega
theorem flat_byt (ls : List (List Int)) (h : Byt ls.flatten) (q : Nat) : Byt (ls.take q).flatten := by
  rw [← List.take_append_drop q ls, List.flatten_append] at h
  exact fun x hx => h x (List.mem_append.2 (.inl hx))

/-- What the walk is told of a slice of slices of bytes that came in. -/
def IsRows (w : World) (a : Option Addr) (len cap : Nat) (ls : List (List Int)) : Prop := Rows2 w w.heap.size a len ls ∧ (∀ l ∈ ls, Byt l) ∧ len ≤ cap ∧ len ≤ maxLen

theorem isRows_of {H : Type} {enc : TypeId × Value → H} {P : Program} {w : World} {base : Nat} {held : Bool} {t e q : TypeId} {fuel : Nat} {a : Option Addr} {len cap : Nat} {x : DataW H × List MemPlace}
    (ht : P.underlying t = some (.slice e)) (he : P.underlying e = some (.slice q)) (hq : P.underlying q = some (.int .u8)) (ce : P.cellsOf e = 1) (cq : P.cellsOf q = 1)
    (h : DataW.trod enc P w base (fun _ => true) held fuel t [.slice a len cap] = some x) : ∃ ls, IsRows w a len cap ls := by
  rcases open_int_rows ht he hq ce cq h with ⟨hcs, _⟩ | ⟨a', len', cap', A, L, C, Z, hcs, _, hl, hm, _, hr⟩
  · simp at hcs
    obtain ⟨rfl, rfl, rfl⟩ := hcs
    exact ⟨[], Rows2.nil, (fun _ h => nomatch h), Nat.le_refl _, Nat.zero_le _⟩
  · simp at hcs
    obtain ⟨rfl, rfl, rfl⟩ := hcs
    refine ⟨(List.range len).map fun r => (Z r).take (L r), ⟨by simp, fun hn => ?_⟩, ?_, hl, Nat.le_trans hl hm⟩
    · obtain ⟨b, off, spot⟩ := a'
      have hspot : spot = none := by simpa [Addr.add] using World.cell?_spot (hr 0 (by omega)).1
      subst hspot
      refine ⟨b, off, rfl, ?_, fun j hj => ?_⟩
      · exact World.block_lt_of_cell? w _ (hr 0 (by omega)).1
      · obtain ⟨h1, h2, h3, h4, h5, h6, h7⟩ := hr j (by omega)
        rw [add_plain] at h1
        refine ⟨A j, L j, C j, h1, h2, ?_⟩
        have e : ((List.range len).map fun r => (Z r).take (L r)).getD j [] = (Z j).take (L j) := by
          rw [List.getD_eq_getElem?_getD, List.getElem?_map, List.getElem?_range hj]; rfl
        rw [e]
        refine ⟨by rw [List.length_take]; omega, fun h0 => ?_⟩
        cases hA : A j with
        | none => have := h6 hA; omega
        | some a'' =>
          obtain ⟨_, hc⟩ := h7 a'' hA
          obtain ⟨b2, off2, spot2⟩ := a''
          have hspot2 : spot2 = none := by simpa [Addr.add] using World.cell?_spot (hc 0 (by omega))
          subst hspot2
          refine ⟨b2, off2, rfl, World.block_lt_of_cell? w _ (hc 0 (by omega)), fun i hi => ?_⟩
          rw [← add_plain, hc i (by omega)]
          simp only [List.getD_eq_getElem?_getD, List.getElem?_take, if_pos hi]
    · intro l hl2
      obtain ⟨r, hr2, rfl⟩ := List.mem_map.1 hl2
      have hr3 := List.mem_range.1 hr2
      exact (byt_of_wf (hr r (by omega)).2.2.2.2.1).take _

theorem byt_flat {ls : List (List Int)} (h : ∀ l ∈ ls, Byt l) : Byt ls.flatten := fun x hx => by
  obtain ⟨l, hl, hx⟩ := List.mem_flatten.1 hx
  exact h l hl x hx
end Go.Proofs.YtekhgkkgmkodmaaGreat
namespace Go.Proofs.YtekhgkkgmkodmaaGreat
open Go.RowKit

/-- Behind the bytes l: their sum, and how far the next one is shifted. -/
def SAcc (l : List Int) (x s : Int) : Prop := x = tot l ∧ s = (if l.length % 2 = 0 then 8 else 0)
theorem SAcc.nil : SAcc [] 0 8 := ⟨rfl, rfl⟩
theorem SAcc.or {l : List Int} {x s : Int} (h : SAcc l x s) : s = 8 ∨ s = 0 := by
  have := h.2
  split at this <;> omega
theorem SAcc.hi {l : List Int} {x : Int} (h : SAcc l x 8) (y : Int) : SAcc (l ++ [y]) (x + y * 256) 0 := by
  have h2 := h.2
  split at h2
  · rename_i he
    refine ⟨?_, ?_⟩
    · rw [tot_snoc, h.1, wgt, if_pos he]; omega
    · rw [if_neg (by simp; omega)]
  · omega
theorem SAcc.lo {l : List Int} {x : Int} (h : SAcc l x 0) (y : Int) : SAcc (l ++ [y]) (x + y) 8 := by
  have h2 := h.2
  split at h2
  · omega
  · rename_i he
    refine ⟨?_, ?_⟩
    · rw [tot_snoc, h.1, wgt, if_neg he]; omega
    · rw [if_pos (by simp; omega)]
theorem SAcc.bd {l : List Int} {x s : Int} (h : SAcc l x s) (hl : Byt l) (hn : l.length ≤ 1099511627776) : 0 ≤ x ∧ x ≤ 72057594037927936 := by
  have := tot_bd l hl
  rw [h.1]; omega

set_option maxRecDepth 4000 in
set_option maxHeartbeats 1000000 in
theorem of_any (A : Option Addr) (n c B : Nat) (ls : List (List Int)) (w : World) (hr : Rows2 w B A n ls) (hb : Byt ls.flatten) (hz : ls.flatten.length ≤ 1099511627776) (hn : n ≤ 1099511627776) :
    Calls Tryz.prog 54 #[.slice A n c] w fun e w' => e = .returned (.int .i64 (sumOf ls.flatten)) ∧ w = w' := by
  have HR := Lib.hid hr
  have HB := Lib.hid hb
  have HZ := Lib.hid hz
  clear hr hb hz
  go_enter Tryz.func54, Tryz.ntmps54
  go_wp2_with fail
  go_loop [3, 4, 11] (fun t s i => ∃ (q : Nat) (x y : Int), q ≤ n ∧ i = .int .i64 q ∧ t = .int .u64 x ∧ s = .int .i64 y ∧ Hid (SAcc (ls.take q).flatten x y)) (fun _ _ i => n - (intOf i).toNat)
  case atStart => exact ⟨0, 0, 8, Nat.zero_le _, rfl, rfl, rfl, Lib.hid SAcc.nil⟩
  case round =>
    obtain ⟨q, x, y, hq, rfl, rfl, rfl, hacc⟩ := hrel
    by_cases hlt : q < n
    · obtain ⟨b, o, rfl, hb, hc⟩ := HR.out.2 (by omega)
      obtain ⟨A', m, c', hcell, hmc, hrow⟩ := hc q hlt
      have HW := Lib.hid hrow
      have hf := flat_snoc ls q (by rw [HR.out.1]; exact hlt)
      have hle := flat_le ls (q + 1)
      have hby := flat_byt ls HB.out (q + 1)
      rw [hf] at hle hby
      generalize ls.getD q [] = r at *
      have hm : m ≤ 1099511627776 := by
        have h1 := hrow.1
        have h2 := HZ.out
        rw [List.length_append] at hle
        omega
      have HF := Lib.hid hf
      have HLE := Lib.hid (Nat.le_trans hle HZ.out)
      have HBY := Lib.hid hby
      clear hc hrow hf hle hby
      go_wp2_with fail
      go_loop [3, 4, 17] (fun t s i => ∃ (p : Nat) (x y : Int), p ≤ m ∧ i = .int .i64 p ∧ t = .int .u64 x ∧ s = .int .i64 y ∧ Hid (SAcc ((ls.take q).flatten ++ r.take p) x y)) (fun _ _ i => m - (intOf i).toNat)
      case atStart => exact ⟨0, x, y, Nat.zero_le _, rfl, rfl, rfl, Lib.hid (by simpa using hacc.out)⟩
      case round =>
        clear hacc
        obtain ⟨p, x, y, hp, rfl, rfl, rfl, hacc⟩ := hrel
        by_cases hlt2 : p < m
        · obtain ⟨b2, o2, rfl, hb2, hc2⟩ := HW.out.2 (by omega)
          have hcx := hc2 p hlt2
          have hbx : 0 ≤ r.getD p 0 ∧ r.getD p 0 ≤ 255 := Byt.getD (fun z hz => HBY.out z (List.mem_append.2 (.inr hz))) p
          have hl1 := HW.out.1
          have HL := Lib.hid (take_snoc r p (by omega))
          have hbd := hacc.out.bd (fun z hz => HBY.out z (by
            rcases List.mem_append.1 hz with h | h
            · exact List.mem_append.2 (.inl h)
            · exact List.mem_append.2 (.inr (List.mem_of_mem_take h)))) (by
            have := HLE.out
            rw [List.length_append] at this ⊢
            rw [List.length_take]
            omega)
          generalize r.getD p 0 = z at *
          clear hc2 hl1
          rcases hacc.out.or with rfl | rfl
          · have HA := Lib.hid (hacc.out.hi z)
            rw [List.append_assoc, ← HL.out] at HA
            go_wp2
            go_round
            case rel => exact ⟨p + 1, x + z * 256, 0, by omega, by go_num, by go_num, rfl, HA⟩
            case measure => simp [intOf]; omega
          · have HA := Lib.hid (hacc.out.lo z)
            rw [List.append_assoc, ← HL.out] at HA
            go_wp2
            go_round
            case rel => exact ⟨p + 1, x + z, 8, by omega, by go_num, by go_num, rfl, HA⟩
            case measure => simp [intOf]; omega
        · obtain rfl : p = m := by omega
          have ha := hacc.out
          rw [List.take_of_length_le (l := r) (by rw [HW.out.1]; exact Nat.le_refl _), ← HF.out] at ha
          have HA := Lib.hid ha
          clear ha
          go_wp2
          go_round
          case rel => exact ⟨q + 1, x, y, by omega, by go_num, rfl, rfl, HA⟩
          case measure => simp [intOf]; omega
    · obtain rfl : q = n := by omega
      have ha := hacc.out
      rw [List.take_of_length_le (by rw [HR.out.1]; exact Nat.le_refl _)] at ha
      have hbd := ha.bd HB.out HZ.out
      have HA := Lib.hid ha.1
      clear ha
      go_wp2_with fail
      refine (folded_any x hbd.1 (by omega) _).mono ?_
      rintro e1 w1 ⟨rfl, rfl⟩
      have hs : sumOf ls.flatten = 65535 - fold x := by rw [HA.out]; rfl
      have HS := Lib.hid hs
      have hf := fold_bd x
      clear hs
      generalize fold x = f at *
      have hnm := not_mask f hf.1 hf.2
      go_wp2
      go_ret
      exact ⟨congrArg (fun x => Ending.returned (.int .i64 x)) HS.out.symm, rfl⟩
end Go.Proofs.YtekhgkkgmkodmaaGreat
namespace Go.Proofs.YtekhgkkgmkodmaaGreat
open Go.RowKit

set_option maxRecDepth 4000 in
set_option maxHeartbeats 400000 in
/-- Two rows of bytes that are alike. -/
theorem same_yes (A A' : Option Addr) (n c c' B B' : Nat) (l : List Int) (w : World) (hr : Row .u8 w B A n l) (hr' : Row .u8 w B' A' n l) (hn : n ≤ maxLen) :
    Calls Tryz.prog 10 #[.slice A n c, .slice A' n c'] w fun e w' => e = .returned (.bool true) ∧ ∃ d, w' = w.drewN d := by
  unfold maxLen at hn
  have HR := Lib.hid hr
  have HR' := Lib.hid hr'
  clear hr hr'
  go_enter Tryz.func10, Tryz.ntmps10
  go_wp2
  go_loopw [5] (fun i wr => ∃ k d : Nat, k ≤ n ∧ i = .int .i64 k ∧ wr = w.drewN d) (fun i _ => n - (intOf i).toNat)
  case atStart => exact ⟨0, 0, Nat.zero_le _, rfl, rfl⟩
  case round =>
    obtain ⟨k, d, hk, rfl, rfl⟩ := hrel
    by_cases hlt : k < n
    · obtain ⟨b, o, rfl, hb, hc⟩ := HR.out.2 (by omega)
      obtain ⟨b', o', rfl, hb', hc'⟩ := HR'.out.2 (by omega)
      have hx := hc k hlt
      have hy := hc' k hlt
      clear hc hc'
      have hlt' : (k : Int) < n := by omega
      go_wp2
      go_quiet (fail)
      go_wp2
      go_roundw
      case rel => exact ⟨k + 1, _, by omega, by go_num, rfl⟩
      case measure => simp [intOf]; omega
    · go_wp2
      go_ret
      exact ⟨rfl, _, rfl⟩
end Go.Proofs.YtekhgkkgmkodmaaGreat
