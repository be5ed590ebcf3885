/- The reference's Of, and the call Good of package ipsum. Conditions: the slices read as bytes, at most 2^40 of them. · The call Fill of package ipsum. Conditions: the slice reads as bytes, at most 2^40 of them. · The call Fits. Conditions: what is handed in reads as integers of 64 bits, at most 100000 of them. · Plain words for packets, and memory of lists of structs: heads, keys and descriptions that a slice leads to. No conditions. · The small calls of package packet that ask whether parts may be: within, rightKey, rightHead, sealed, and rightPiece of each. Conditions: lists read as such. · The calls rightPiece of package packet, of each kind of part, rightHello and rightDd. Conditions: lists read as such. -/
import Derived.Deep.DeepCutAuto
import Derived.Deep.RegionHeld3
import Derived.Test.YtekhgkkgmkodmaaGreatJak
import Derived.Test.YtekhgkkgmkodmaaGreatJac
import Derived.Test.YtekhgkkgmkodmaaGreatJaj
import Derived.Test.YtekhgkkgmkodmaaGreatJai
namespace Go.Proofs.YtekhgkkgmkodmaaGreat
open Go.RowKit

theorem tot_two (l : List Int) (k : Nat) (he : k % 2 = 0) (h : k + 1 < l.length) : tot (l.take (k + 2)) = tot (l.take k) + (256 * l.getD k 0 + l.getD (k + 1) 0) := by
  rw [take_snoc l (k + 1) h, take_snoc l k (by omega), tot_snoc, tot_snoc]
  simp only [List.length_append, List.length_take, List.length_cons, List.length_nil]
  unfold wgt
  rw [if_pos (by omega), if_neg (by omega)]
  omega
theorem tot_one (l : List Int) (k : Nat) (he : k % 2 = 0) (h : k + 1 = l.length) : tot (l.take (k + 2)) = tot (l.take k) + 256 * l.getD k 0 := by
  rw [List.take_of_length_le (by omega), ← List.take_of_length_le (l := l) (i := k + 1) (by omega), take_snoc l k (by omega), tot_snoc]
  simp only [List.length_take]
  unfold wgt
  rw [if_pos (by omega)]
  simp only [List.take_append, List.take_take, List.length_take]
  have e1 : min k k = k := by omega
  rw [e1]
  have e2 : k - min k l.length = 0 := by omega
  rw [e2, List.take_zero, List.append_nil]
  have e3 : (List.take k l ++ [l.getD k 0]).getD k 0 = l.getD k 0 := by
    rw [← take_snoc l k (by omega), List.take_of_length_le (by omega)]
  rw [e3]

set_option maxRecDepth 4000 in
set_option maxHeartbeats 1000000 in
theorem refOf_any (A : Option Addr) (n c B : Nat) (l : List Int) (w : World) (hr : Row .u8 w B A n l) (hby : Byt l) (hn : n ≤ 1099511627776) :
    Calls Tryz.prog 72 #[.slice A n c] w fun e w' => e = .returned (.int .i64 (sumOf l)) ∧ w = w' := by
  have HR := Lib.hid hr
  have HY := Lib.hid hby
  clear hr hby
  go_enter Tryz.func72, Tryz.ntmps72
  go_wp2_with fail
  go_loop [3, 4] (fun v i => ∃ (q : Nat) (f : Int), 2 * q ≤ n + 1 ∧ i = .int .i64 ((2 * q : Nat) : Int) ∧ v = .int .i64 f ∧ Hid (f = fold (tot (l.take (2 * q))))) (fun _ i => n + 1 - (intOf i).toNat)
  case atStart => exact ⟨0, 0, by omega, rfl, rfl, Lib.hid rfl⟩
  case round =>
    obtain ⟨q, f, hq, rfl, rfl, hf⟩ := hrel
    have hlen := HR.out.1
    have hf1 := fold_bd (tot (l.take (2 * q)))
    rw [← hf.out] at hf1
    generalize hk : 2 * q = k at *
    have HK := Lib.hid hk
    clear hk
    by_cases hlt : k < n
    · obtain ⟨b, o, rfl, hb, hc⟩ := HR.out.2 (by omega)
      have hx := hc k hlt
      have hbx := HY.out.getD k
      have ht0 := (tot_bd _ (HY.out.take k)).1
      have he : k % 2 = 0 := by have := HK.out; omega
      by_cases hlt2 : k + 1 < n
      · have hy := hc (k + 1) hlt2
        have hbyy := HY.out.getD (k + 1)
        have e1 := tot_two l k he (by omega)
        generalize l.getD k 0 = x at *
        generalize l.getD (k + 1) 0 = y at *
        have e2 := fold_add (tot (l.take k)) (256 * x + y) ht0 (by omega) (by omega)
        rw [← e1, ← hf.out] at e2
        have HE := Lib.hid e2
        clear e1 e2 hc hlen he ht0 hf
        by_cases hbig : 65535 < f + (256 * x + y)
        · have h2 := HE.out
          rw [if_pos hbig] at h2
          have H2 := Lib.hid h2
          clear h2 HE
          go_wp2
          go_round
          case rel => exact ⟨q + 1, f + (256 * x + y) - 65535, by have := HK.out; omega, by have := HK.out; go_num, by go_num, Lib.hid (by rw [← H2.out, ← HK.out]; rfl)⟩
          case measure => simp [intOf]; omega
        · have h2 := HE.out
          rw [if_neg hbig] at h2
          have H2 := Lib.hid h2
          clear h2 HE
          go_wp2
          go_round
          case rel => exact ⟨q + 1, f + (256 * x + y), by have := HK.out; omega, by have := HK.out; go_num, by go_num, Lib.hid (by rw [← H2.out, ← HK.out]; rfl)⟩
          case measure => simp [intOf]; omega
      · have e1 := tot_one l k he (by omega)
        generalize l.getD k 0 = x at *
        have e2 := fold_add (tot (l.take k)) (256 * x) ht0 (by omega) (by omega)
        rw [← e1, ← hf.out] at e2
        have HE := Lib.hid e2
        clear e1 e2 hc hlen he ht0 hf
        by_cases hbig : 65535 < f + 256 * x
        · have h2 := HE.out
          rw [if_pos hbig] at h2
          have H2 := Lib.hid h2
          clear h2 HE
          go_wp2
          go_round
          case rel => exact ⟨q + 1, f + 256 * x - 65535, by have := HK.out; omega, by have := HK.out; go_num, by go_num, Lib.hid (by rw [← H2.out, ← HK.out]; rfl)⟩
          case measure => simp [intOf]; omega
        · have h2 := HE.out
          rw [if_neg hbig] at h2
          have H2 := Lib.hid h2
          clear h2 HE
          go_wp2
          go_round
          case rel => exact ⟨q + 1, f + 256 * x, by have := HK.out; omega, by have := HK.out; go_num, by go_num, Lib.hid (by rw [← H2.out, ← HK.out]; rfl)⟩
          case measure => simp [intOf]; omega
    · have h2 := hf.out
      rw [List.take_of_length_le (by omega)] at h2
      have HF := Lib.hid (show 65535 - f = sumOf l by rw [h2]; rfl)
      clear h2 hlen hf
      go_wp2
      go_ret
      exact ⟨ret_int HF.out, rfl⟩

/-- Are bytes good? -/
def goodB (l : List Int) : Bool := decide (l.length % 2 = 0 ∧ 2 ≤ l.length ∧ sumOf l = 0)

set_option maxRecDepth 4000 in
set_option maxHeartbeats 1000000 in
theorem good_any (A : Option Addr) (n c B : Nat) (l : List Int) (w : World) (hr : Row .u8 w B A n l) (hby : Byt l) (hn : n ≤ 1099511627776) (hB : B ≤ w.heap.size) (hc : n ≤ c) :
    Calls Tryz.prog 35 #[.slice A n c] w fun e w' => e = .returned (.bool (goodB l)) ∧ Below w.heap.size w w' := by
  have HR := Lib.hid hr
  have HY := Lib.hid hby
  clear hr hby
  have hlen := HR.out.1
  go_enter Tryz.func35, Tryz.ntmps35
  go_wp2_with fail
  refine (even_any _ _).mono ?_
  rintro e1 w1 ⟨rfl, rfl⟩
  by_cases he : n % 2 = 0
  · have hd : decide ((n : Int) % 2 = 0) = true := by simp; omega
    rw [hd]
    clear hd
    by_cases h2 : 2 ≤ n
    · have HG := Lib.hid (show goodB l = decide (sumOf l = 0) by unfold goodB; rw [hlen]; simp [he, h2])
      clear hlen
      go_wp2_with fail
      refine (of_any _ 1 1 (w.heap.size + 1) [l] _ (rows2_one HR.out hB hc _) (by simpa using HY.out) (by simpa [HR.out.1] using hn) (by omega)).mono ?_
      rintro e2 w2 ⟨rfl, rfl⟩
      simp only [List.flatten_cons, List.flatten_nil, List.append_nil]
      go_wp2
      go_ret
      exact ⟨by rw [HG.out]; rfl, (Below.refl _ _).alloc (Nat.le_refl _) _⟩
    · have HG := Lib.hid (show goodB l = false by unfold goodB; rw [hlen]; simp [h2])
      clear hlen
      go_wp2
      go_ret
      exact ⟨by rw [HG.out]; rfl, Below.refl _ _⟩
  · have hd : decide ((n : Int) % 2 = 0) = false := by simp; omega
    rw [hd]
    have HG := Lib.hid (show goodB l = false by unfold goodB; rw [hlen]; simp [he])
    clear hd hlen
    go_wp2
    go_ret
    exact ⟨by rw [HG.out]; rfl, Below.refl _ _⟩
end Go.Proofs.YtekhgkkgmkodmaaGreat
namespace Go.Proofs.YtekhgkkgmkodmaaGreat
open Go.RowKit

/-- May bytes of this number be filled at this place? -/
def fits (n : Nat) (p : Int) : Prop := 0 ≤ p ∧ p % 2 = 0 ∧ n % 2 = 0 ∧ p + 2 ≤ n
/-- Bytes with two zeros from k on. -/
def zeroed (l : List Int) (k : Nat) : List Int := (l.set k 0).set (k + 1) 0
/-- Bytes, filled from k on. -/
def fillL (l : List Int) (k : Nat) : List Int := ((zeroed l k).set k (sumOf (zeroed l k) / 256)).set (k + 1) (sumOf (zeroed l k) % 256)
theorem zeroed_byt {l : List Int} (h : Byt l) (k : Nat) : Byt (zeroed l k) := (h.set k (by omega) (by omega)).set (k + 1) (by omega) (by omega)
theorem zeroed_length (l : List Int) (k : Nat) : (zeroed l k).length = l.length := by simp [zeroed]
theorem fillL_byt {l : List Int} (h : Byt l) (k : Nat) : Byt (fillL l k) := by
  have := sumOf_bd (zeroed l k)
  exact ((zeroed_byt h k).set k (by omega) (by omega)).set (k + 1) (by omega) (by omega)
theorem fillL_length (l : List Int) (k : Nat) : (fillL l k).length = l.length := by simp [fillL, zeroed_length]
theorem fillL_sum {l : List Int} (h : Byt l) (k : Nat) (he : k % 2 = 0) (hk : k + 1 < l.length) : sumOf (fillL l k) = 0 := by
  refine filled (zeroed l k) (zeroed_byt h k) k (by rw [zeroed_length]; exact hk) he ?_ ?_
  · unfold zeroed
    rw [List.getD_eq_getElem?_getD, List.getElem?_set_ne (by omega), List.getElem?_set_self (by omega)]; rfl
  · unfold zeroed
    rw [List.getD_eq_getElem?_getD, List.getElem?_set_self (by simpa using hk)]; rfl

set_option maxRecDepth 4000 in
set_option maxHeartbeats 1000000 in
theorem fill_no (A : Option Addr) (n c : Nat) (p : Int) (w : World) (hn : n ≤ 1099511627776) (h : ¬ fits n p) :
    Calls Tryz.prog 16 #[.slice A n c, .int .i64 p] w fun e w' => e = .returned (.tuple #[.slice none 0 0, .bool false]) ∧ w = w' := by
  unfold fits at h
  go_enter Tryz.func16, Tryz.ntmps16
  go_wp2_with fail
  refine (even_any _ _).mono ?_
  rintro e1 w1 ⟨rfl, rfl⟩
  by_cases h1 : p % 2 = 0
  · rw [decide_eq_true h1]
    by_cases h2 : p < 0
    · go_wp2
      go_ret2
      exact ⟨rfl, rfl⟩
    · by_cases h3 : (n : Int) - 2 < p
      · go_wp2
        go_ret2
        exact ⟨rfl, rfl⟩
      · have h4 : decide ((n : Int) % 2 = 0) = false := by simp; omega
        clear h
        go_wp2_with fail
        refine (even_any _ _).mono ?_
        rintro e1 w1 ⟨rfl, rfl⟩
        rw [h4]
        go_wp2
        go_ret2
        exact ⟨rfl, rfl⟩
  · rw [decide_eq_false h1]
    go_wp2
    go_ret2
    exact ⟨rfl, rfl⟩

set_option maxRecDepth 4000 in
set_option maxHeartbeats 2000000 in
theorem fill_ok (A : Option Addr) (n c B : Nat) (k : Nat) (l : List Int) (w : World) (hr : Row .u8 w B A n l) (hby : Byt l) (hB : B ≤ w.heap.size) (hn : n ≤ 1099511627776) (h : fits n k) :
    Calls Tryz.prog 16 #[.slice A n c, .int .i64 (k : Int)] w fun e w' => e = .returned (.tuple #[.slice (some ⟨w.heap.size, 0, none⟩) n n, .bool true]) ∧ Below w.heap.size w w' ∧ Blk w' w.heap.size 5 ((fillL l k).map (Value.int .u8)).toArray := by
  unfold fits at h
  have HR := Lib.hid hr
  have HY := Lib.hid hby
  clear hr hby
  have hmk := run_make5 n n (Nat.le_refl _) (by omega)
  have h1 : decide ((k : Int) % 2 = 0) = true := by simp; omega
  have h4 : decide ((n : Int) % 2 = 0) = true := by simp; omega
  have hk2 : k + 2 ≤ n := by omega
  have HP := Lib.hid h
  clear h
  go_enter Tryz.func16, Tryz.ntmps16
  go_wp2_with fail
  refine (even_any _ _).mono ?_
  rintro e1 w1 ⟨rfl, rfl⟩
  rw [h1]
  go_wp2_with fail
  refine (even_any _ _).mono ?_
  rintro e1 w1 ⟨rfl, rfl⟩
  rw [h4]
  clear h1 h4
  go_upto_region 5 with (refine wpList_copy_row rfl (.tmp 31) (.tmp 32) rfl w.heap.size n n c A (by rfl) (by rfl) B l (by exact HR.out.alloc hB _) (zeros n) (by simp [zeros]) (by exact Blk.new w 5 (zeros n).toArray) ?_; intro w2 hg2 hb2)
  have hlen := HR.out.1
  have hk := hg2.out
  rw [List.drop_of_length_le (by simp [zeros]), List.append_nil] at hk
  have HB2 := Lib.hid (below_new hb2 (Nat.le_refl _))
  have hc0 := hk.at k (by omega)
  have hc1 := hk.at (k + 1) (by omega)
  have hf0 := hk.frozen k
  have hf1 := hk.frozen (k + 1)
  have hz2 := HB2.out.size
  have HK := Lib.hid (show Blk ((w2.setCell ⟨w.heap.size, k, none⟩ (.int .u8 0)).setCell ⟨w.heap.size, k + 1, none⟩ (.int .u8 0)) w.heap.size 5 ((zeroed l k).map (Value.int .u8)).toArray from (hk.setInt k 0).setInt (k + 1) 0)
  have HL := Lib.hid hlen
  clear hk hlen hb2 hg2
  go_upto_region 6 with fail
  have HB3 := Lib.hid (show Below w.heap.size w ((w2.setCell ⟨w.heap.size, k, none⟩ (.int .u8 0)).setCell ⟨w.heap.size, k + 1, none⟩ (.int .u8 0)) from (HB2.out.setCell (Nat.le_refl _) _).setCell (Nat.le_refl _) _)
  clear hc0 hc1 hf0 hf1 HB2 hz2
  generalize (w2.setCell ⟨w.heap.size, k, none⟩ (.int .u8 0)).setCell ⟨w.heap.size, k + 1, none⟩ (.int .u8 0) = w3 at *
  have hr3 := HK.out.row
  rw [zeroed_length, HL.out] at hr3
  have HR3 := Lib.hid hr3
  have hz3 := HB3.out.size
  clear hr3
  go_wp2_with fail
  refine (of_any _ 1 1 (w3.heap.size + 1) [zeroed l k] _ (rows2_one HR3.out (Nat.le_refl _) (Nat.le_refl _) _) (by simpa using zeroed_byt HY.out k) (by simpa [zeroed_length, HL.out] using hn) (by omega)).mono ?_
  rintro e2 w4 ⟨rfl, hw4⟩
  simp only [List.flatten_cons, List.flatten_nil, List.append_nil]
  have hk4 : Blk w4 w.heap.size 5 ((zeroed l k).map (Value.int .u8)).toArray := by rw [← hw4]; exact HK.out.alloc _
  have HB4 : Hid (Below w.heap.size w w4) := by rw [← hw4]; exact HB3.out.alloc hz3 _
  clear hw4
  have hs := sumOf_bd (zeroed l k)
  have HF : Hid (∀ x, x = sumOf (zeroed l k) → fillL l k = ((zeroed l k).set k (x / 256)).set (k + 1) (x % 256)) := fun x hx => by rw [hx]; rfl
  generalize hx : sumOf (zeroed l k) = x at *
  have HF2 := Lib.hid (HF.out x rfl)
  have hz := zeroed_length l k
  rw [HL.out] at hz
  generalize zeroed l k = z at *
  have hc0 := hk4.at k (by omega)
  have hc1 := hk4.at (k + 1) (by omega)
  have hf0 := hk4.frozen k
  have hf1 := hk4.frozen (k + 1)
  have HK4 := Lib.hid ((hk4.setInt k (x / 256)).setInt (k + 1) (x % 256))
  have HB5 := Lib.hid ((HB4.out.setCell (p := ⟨w.heap.size, k, none⟩) (Nat.le_refl _) (.int .u8 (x / 256))).setCell (p := ⟨w.heap.size, k + 1, none⟩) (Nat.le_refl _) (.int .u8 (x % 256)))
  clear hk4 hz hx HF
  go_wp2
  go_ret2
  refine ⟨rfl, ?_, ?_⟩
  · exact HB5.out
  · rw [HF2.out]
    exact HK4.out
end Go.Proofs.YtekhgkkgmkodmaaGreat
namespace Go.Proofs.YtekhgkkgmkodmaaGreat
open Go.RowKit

set_option maxRecDepth 4000 in
set_option maxHeartbeats 400000 in
theorem fits_any (A2 : Option Addr) (k c2 B2 : Nat) (wd : Int) (zs : List Int) (w : World) (hr2 : Row .i64 w B2 A2 k zs) (h64 : I64 zs) (hk : k ≤ 100000) :
    Calls Tryz.prog 60 #[.int .i64 wd, .slice A2 k c2] w fun x w' => x = .returned (.bool (zs.all (fitB (hold wd).toNat))) ∧ w = w' := by
  have hh1 := hold_lo wd
  have hh4 := hold_hi wd
  obtain ⟨m, hm⟩ := Int.eq_ofNat_of_zero_le (a := hold wd) (by omega)
  have hm1 : 1 ≤ m := by omega
  have hm4 : m ≤ 4 := by omega
  have HM := Lib.hid hm
  rw [hm, Int.toNat_natCast]
  clear hm hh1 hh4
  have HR2 := Lib.hid hr2
  have H64 := Lib.hid h64
  clear hr2 h64
  go_enter Tryz.func60, Tryz.ntmps60
  go_wp2_with fail
  refine (held_any _ _).mono ?_
  rintro e1 w1 ⟨rfl, rfl⟩
  rw [HM.out]
  go_wp2_with fail
  go_loop [13] (fun i => ∃ q : Nat, q ≤ k ∧ i = .int .i64 q ∧ Hid ((zs.take q).all (fitB m) = true)) (fun i => k - (intOf i).toNat)
  case atStart => exact ⟨0, Nat.zero_le _, rfl, Lib.hid rfl⟩
  case round =>
    obtain ⟨q, hq, rfl, hall⟩ := hrel
    by_cases hlt : q < k
    · obtain ⟨b, o, rfl, hb, hc⟩ := HR2.out.2 (by omega)
      have hcx := hc q hlt
      clear hc
      have hf := fit_shift m (zs.getD q 0) (IntKind.u64.wrap (zs.getD q 0)) hm1 hm4 (by rw [IntKind.wrap_u64]) (H64.out.getD q).1 (H64.out.getD q).2
      have HX : Hid (zs.getD q 0 = zs.getD q 0) := rfl
      generalize hx : zs.getD q 0 = x at hcx hf
      have HX2 := Lib.hid hx
      clear HX hx
      by_cases hfit : fitB m x = true
      · have h0 := hf.2 hfit
        have HF := Lib.hid hfit
        have h1 : (IntKind.u64.wrap x / 2 ^ (8 * m) != 0) = false := by simp [h0]
        clear hf hfit h0
        go_wp2
        go_round
        case rel => exact ⟨q + 1, by omega, by go_num, Lib.hid (all_take_snoc _ _ _ (by rw [HR2.out.1]; exact hlt) hall.out (by rw [HX2.out]; exact HF.out))⟩
        case measure => simp [intOf]; omega
      · have h0 : ¬ (IntKind.u64.wrap x / 2 ^ (8 * m) = 0) := fun h => hfit (hf.1 h)
        have h1 : (IntKind.u64.wrap x / 2 ^ (8 * m) != 0) = true := by simp [h0]
        have HF := Lib.hid hfit
        clear hf hfit h0
        go_wp2
        go_ret
        exact ⟨ret_bool (all_false _ _ q (by rw [HR2.out.1]; exact hlt) (by rw [HX2.out]; simpa using HF.out)).symm, rfl⟩
    · go_wp2
      go_ret
      have h1 := hall.out
      rw [List.take_of_length_le (by rw [HR2.out.1]; omega)] at h1
      exact ⟨ret_bool h1.symm, rfl⟩
end Go.Proofs.YtekhgkkgmkodmaaGreat
namespace Go.Proofs.YtekhgkkgmkodmaaGreat
open Go.RowKit

/-- A key. -/
structure Ky where
  kind : Int
  id : Int
  adv : Int
/-- A description. -/
structure La where
  h : Hd
  L : List Lk
  M : List Int

/-- A slice value '.slice A n c' whose elements, of sz cells each, are L, as P tells; what it leads to lies below block B. -/
def Arr {α : Type} (sz : Nat) (P : World → Nat → Nat → Nat → α → Prop) (w : World) (B : Nat) (A : Option Addr) (n : Nat) (L : List α) : Prop :=
  L.length = n ∧ (0 < n → ∃ b o, A = some ⟨b, o, none⟩ ∧ b < B ∧ ∀ j x, L[j]? = some x → P w B b (o + j * sz) x)
/-- From place p of block b on there lies the head h. -/
def HdAt (w : World) (_B b p : Nat) (h : Hd) : Prop :=
  w.cell? ⟨b, p, none⟩ = some (.int .i64 h.age) ∧ w.cell? ⟨b, p + 1, none⟩ = some (.int .i64 h.kind) ∧ w.cell? ⟨b, p + 2, none⟩ = some (.int .i64 h.id) ∧ w.cell? ⟨b, p + 3, none⟩ = some (.int .i64 h.adv) ∧ w.cell? ⟨b, p + 4, none⟩ = some (.int .i64 h.seq) ∧ w.cell? ⟨b, p + 5, none⟩ = some (.int .i64 h.sum) ∧ w.cell? ⟨b, p + 6, none⟩ = some (.int .i64 h.long)
def KyAt (w : World) (_B b p : Nat) (k : Ky) : Prop :=
  w.cell? ⟨b, p, none⟩ = some (.int .i64 k.kind) ∧ w.cell? ⟨b, p + 1, none⟩ = some (.int .i64 k.id) ∧ w.cell? ⟨b, p + 2, none⟩ = some (.int .i64 k.adv) ∧ -9223372036854775808 ≤ k.id ∧ k.id ≤ 9223372036854775807
def LaAt (w : World) (B b p : Nat) (x : La) : Prop :=
  HdAt w B b p x.h ∧ ∃ A n c A' n' c', w.cell? ⟨b, p + 7, none⟩ = some (.slice A n c) ∧ w.cell? ⟨b, p + 8, none⟩ = some (.slice A' n' c') ∧ Lnk w B A n x.L ∧ Row .i64 w B A' n' x.M ∧ n ≤ maxLen ∧ n' ≤ maxLen
section
variable {α : Type} {sz : Nat} {P : World → Nat → Nat → Nat → α → Prop} {w w' : World} {B B' n : Nat} {A : Option Addr} {L : List α}
theorem Arr.nil : Arr sz P w B A 0 [] := ⟨rfl, fun h => absurd h (by omega)⟩
theorem Arr.move (hP : ∀ b p x, b < B → P w B b p x → P w' B' b p x) (hB : B ≤ B') (h : Arr sz P w B A n L) : Arr sz P w' B' A n L :=
  ⟨h.1, fun hn => by
    obtain ⟨b, o, e, hb, hc⟩ := h.2 hn
    exact ⟨b, o, e, by omega, fun j x hx => hP _ _ _ hb (hc j x hx)⟩⟩
theorem Arr.at (h : Arr sz P w B A n L) {j : Nat} (hj : j < n) : ∃ b o x, A = some ⟨b, o, none⟩ ∧ b < B ∧ L[j]? = some x ∧ P w B b (o + j * sz) x := by
  obtain ⟨b, o, e, hb, hc⟩ := h.2 (by omega)
  have hl := h.1
  have hx : L[j]? = some (L[j]'(by omega)) := List.getElem?_eq_getElem (by omega)
  exact ⟨b, o, _, e, hb, hx, hc j _ hx⟩
end
section
variable {w w' : World} {B B' b p : Nat}
theorem HdAt.move {x : Hd} (hk : ∀ q : Addr, q.block < B → w'.cell? q = w.cell? q) (hb : b < B) (h : HdAt w B b p x) : HdAt w' B' b p x :=
  ⟨(hk _ hb).trans h.1, (hk _ hb).trans h.2.1, (hk _ hb).trans h.2.2.1, (hk _ hb).trans h.2.2.2.1, (hk _ hb).trans h.2.2.2.2.1, (hk _ hb).trans h.2.2.2.2.2.1, (hk _ hb).trans h.2.2.2.2.2.2⟩
theorem KyAt.move {x : Ky} (hk : ∀ q : Addr, q.block < B → w'.cell? q = w.cell? q) (hb : b < B) (h : KyAt w B b p x) : KyAt w' B' b p x :=
  ⟨(hk _ hb).trans h.1, (hk _ hb).trans h.2.1, (hk _ hb).trans h.2.2.1, h.2.2.2⟩
theorem LaAt.move {x : La} (hk : ∀ q : Addr, q.block < B → w'.cell? q = w.cell? q) (hB : B ≤ B') (hb : b < B) (h : LaAt w B b p x) : LaAt w' B' b p x := by
  obtain ⟨h1, A, n, c, A', n', c', h2, h3, h4, h5, h6⟩ := h
  exact ⟨h1.move hk hb, A, n, c, A', n', c', (hk _ hb).trans h2, (hk _ hb).trans h3, (h4.keep hk).more hB, (h5.keep hk).more hB, h6⟩
end
/-- Heads, keys, descriptions. -/
def Hds (w : World) (B : Nat) (A : Option Addr) (n : Nat) (L : List Hd) : Prop := Arr 7 HdAt w B A n L
def Kys (w : World) (B : Nat) (A : Option Addr) (n : Nat) (L : List Ky) : Prop := Arr 3 KyAt w B A n L
def Las (w : World) (B : Nat) (A : Option Addr) (n : Nat) (L : List La) : Prop := Arr 9 LaAt w B A n L
section
variable {w w' : World} {B B' n : Nat} {A : Option Addr}
theorem Hds.move {L : List Hd} (h : Hds w B A n L) (hk : ∀ q : Addr, q.block < B → w'.cell? q = w.cell? q) (hB : B ≤ B') : Hds w' B' A n L := Arr.move (fun _ _ _ hb h => HdAt.move hk hb h) hB h
theorem Kys.move {L : List Ky} (h : Kys w B A n L) (hk : ∀ q : Addr, q.block < B → w'.cell? q = w.cell? q) (hB : B ≤ B') : Kys w' B' A n L := Arr.move (fun _ _ _ hb h => KyAt.move hk hb h) hB h
theorem Las.move {L : List La} (h : Las w B A n L) (hk : ∀ q : Addr, q.block < B → w'.cell? q = w.cell? q) (hB : B ≤ B') : Las w' B' A n L := Arr.move (fun _ _ _ hb h => LaAt.move hk hB hb h) hB h
theorem Hds.below {L : List Hd} (h : Hds w B A n L) (hb : Below B w w') : Hds w' B A n L := h.move (fun _ hp => hb.cell hp) (Nat.le_refl _)
theorem Kys.below {L : List Ky} (h : Kys w B A n L) (hb : Below B w w') : Kys w' B A n L := h.move (fun _ hp => hb.cell hp) (Nat.le_refl _)
theorem Las.below {L : List La} (h : Las w B A n L) (hb : Below B w w') : Las w' B A n L := h.move (fun _ hp => hb.cell hp) (Nat.le_refl _)
theorem Hds.alloc {L : List Hd} (h : Hds w B A n L) (hB : B ≤ w.heap.size) (o : Obj) : Hds (w.alloc o) B A n L := h.move (fun p hp => World.cell?_alloc_lt w o p (by omega)) (Nat.le_refl _)
theorem Kys.alloc {L : List Ky} (h : Kys w B A n L) (hB : B ≤ w.heap.size) (o : Obj) : Kys (w.alloc o) B A n L := h.move (fun p hp => World.cell?_alloc_lt w o p (by omega)) (Nat.le_refl _)
theorem Las.alloc {L : List La} (h : Las w B A n L) (hB : B ≤ w.heap.size) (o : Obj) : Las (w.alloc o) B A n L := h.move (fun p hp => World.cell?_alloc_lt w o p (by omega)) (Nat.le_refl _)
theorem Hds.more {L : List Hd} (h : Hds w B A n L) (hB : B ≤ B') : Hds w B' A n L := h.move (fun _ _ => rfl) hB
theorem Kys.more {L : List Ky} (h : Kys w B A n L) (hB : B ≤ B') : Kys w B' A n L := h.move (fun _ _ => rfl) hB
theorem Las.more {L : List La} (h : Las w B A n L) (hB : B ≤ B') : Las w B' A n L := h.move (fun _ _ => rfl) hB
end
/-- All of a list: one further, and one that isn't. -/
theorem allA_snoc {α : Type} (f : α → Bool) (l : List α) (k : Nat) (x : α) (hx : l[k]? = some x) (h1 : (l.take k).all f = true) (h2 : f x = true) : (l.take (k + 1)).all f = true := by
  have hk : k < l.length := (List.getElem?_eq_some_iff.1 hx).1
  have e : l[k] = x := (List.getElem?_eq_some_iff.1 hx).2
  rw [List.take_succ_eq_append_getElem hk, List.all_append, h1, List.all_cons, e, h2]; rfl
theorem allA_false {α : Type} (f : α → Bool) (l : List α) (k : Nat) (x : α) (hx : l[k]? = some x) (h2 : f x = false) : l.all f = false := by
  rw [List.all_eq_false]
  exact ⟨x, List.mem_of_getElem? hx, by rw [h2]; decide⟩
theorem take_snocA {α : Type} (l : List α) (k : Nat) (x : α) (hx : l[k]? = some x) : l.take (k + 1) = l.take k ++ [x] := by
  have hk : k < l.length := (List.getElem?_eq_some_iff.1 hx).1
  have e : l[k] = x := (List.getElem?_eq_some_iff.1 hx).2
  rw [List.take_succ_eq_append_getElem hk, e]

/-- May a key be in a packet? -/
def keyB (k : Ky) : Bool := inB k.kind 1 2 && (fitB 4 k.id && inB k.adv 1 15)
theorem keepW {w0 w' : World} (hb : Below w0.heap.size w0 w') : Below w0.heap.size w0 w' ∧ (∀ b o, b < w0.heap.size → w'.cell? ⟨b, o, none⟩ = w0.cell? ⟨b, o, none⟩) :=
  ⟨hb, fun b o h => hb.cell (p := ⟨b, o, none⟩) h⟩
/-- Are heads alike? -/
def sameHd (a b : Hd) : Bool := decide (a.age = b.age) && (decide (a.kind = b.kind) && (decide (a.id = b.id) && (decide (a.adv = b.adv) && (decide (a.seq = b.seq) && (decide (a.sum = b.sum) && decide (a.long = b.long))))))
theorem sameHd_iff (a b : Hd) : sameHd a b = true ↔ a = b := by
  cases a; cases b
  simp [sameHd]
/-- May a head be in a packet? Its bytes tell it. -/
def hdB (h : Hd) : Bool := okHead (headBytes h) && sameHd (headOf (headBytes h)) h
/-- Is a description right and sealed? -/
def laB (x : La) : Bool := rightB x.h x.L x.M && sameHd x.h (sealHd x.h x.L x.M)
/-- A Hello's numbers. -/
def helloB (e d p dr bdr : Int) (S : List Int) : Bool := inB e 1 65535 && (inB d 1 65535 && (inB p 0 255 && (inB dr 0 63 && (inB bdr 0 63 && riseB 0 S))))
def pieceB {α : Type} (least : Int) (f : α → Bool) (L : List α) : Bool := inB (L.length : Int) least 3 && L.all f
def ddB (i m s : Bool) (q : Int) (L : List Hd) : Bool := (!i || (m && (s && decide (L.length = 0)))) && (fitB 4 q && pieceB 0 hdB L)
end Go.Proofs.YtekhgkkgmkodmaaGreat
namespace Go.Proofs.YtekhgkkgmkodmaaGreat
open Go.RowKit

theorem pwithin_any (n a b : Int) (w : World) : Calls Tryz.prog 25 #[.int .i64 n, .int .i64 a, .int .i64 b] w fun e w' => e = .returned (.bool (inB n a b)) ∧ w = w' := by
  by_cases h : a ≤ n
  · have HI := Lib.hid (show inB n a b = decide (n ≤ b) by simp [inB, h])
    go_enter Tryz.func25, Tryz.ntmps25
    go_wp2
    go_ret
    exact ⟨ret_bool HI.out.symm, rfl⟩
  · have HI := Lib.hid (show inB n a b = false by simp [inB, h])
    have hd : decide (a ≤ n) = false := by simpa using h
    go_enter Tryz.func25, Tryz.ntmps25
    go_wp2
    go_ret
    exact ⟨ret_bool HI.out.symm, rfl⟩

/-- Fits of one number that was laid out for it. -/
theorem fits_new (x : Int) (W : World) (z : Nat) (hz : W.heap.size = z) (h0 : -9223372036854775808 ≤ x) (h1 : x ≤ 9223372036854775807) :
    Calls Tryz.prog 60 #[.int .i64 4, .slice (some ⟨z, 0, none⟩) 1 1] (W.alloc (.cells #[.int .i64 x] 3)) fun e w' => e = .returned (.bool (fitB 4 x)) ∧ w' = W.alloc (.cells #[.int .i64 x] 3) := by
  refine (fits_any (some ⟨z, 0, none⟩) 1 1 (z + 1) (wd := 4) [x] _ (row_at W [x] 3 .i64 z 1 hz rfl) (fun y hy => by simp at hy; subst hy; exact ⟨h0, h1⟩) (by omega)).mono ?_
  rintro e w' ⟨rfl, rfl⟩
  exact ⟨ret_bool (by simp [hold]), rfl⟩

set_option maxRecDepth 4000 in
set_option maxHeartbeats 1000000 in
theorem rightKey_any (k : Ky) (w : World) (h0 : -9223372036854775808 ≤ k.id) (h1 : k.id ≤ 9223372036854775807) : Calls Tryz.prog 30 #[.agg #[.int .i64 k.kind, .int .i64 k.id, .int .i64 k.adv]] w
    fun e w' => e = .returned (.bool (keyB k)) ∧ Below w.heap.size w w' := by
  have HB := Lib.hid ((Below.refl w.heap.size w).alloc (Nat.le_refl _) (.cells #[.int .i64 k.kind, .int .i64 k.id, .int .i64 k.adv] 56))
  go_enter Tryz.func30, Tryz.ntmps30
  go_wp2_with fail
  refine (pwithin_any _ _ _ _).mono ?_
  rintro e1 w1 ⟨rfl, rfl⟩
  cases h2 : inB k.kind 1 2
  · go_wp2
    go_ret
    exact ⟨ret_bool (by simp [keyB, *]), HB.out⟩
  · go_wp2_with fail
    refine (fits_new k.id _ _ (by simp) h0 h1).mono ?_
    rintro e2 w2 ⟨rfl, rfl⟩
    cases h3 : fitB 4 k.id
    · go_wp2
      go_ret
      exact ⟨ret_bool (by simp [keyB, *]), HB.out.alloc (by simp) _⟩
    · go_wp2_with fail
      refine (pwithin_any _ _ _ _).mono ?_
      rintro e3 w3 ⟨rfl, rfl⟩
      go_wp2
      go_ret
      exact ⟨ret_bool (by simp [keyB, *]), HB.out.alloc (by simp) _⟩

set_option maxRecDepth 4000 in
set_option maxHeartbeats 2000000 in
theorem rightHead_any (h : Hd) (w : World) : Calls Tryz.prog 34 #[.agg #[.int .i64 h.age, .int .i64 h.kind, .int .i64 h.id, .int .i64 h.adv, .int .i64 h.seq, .int .i64 h.sum, .int .i64 h.long]] w
    fun e w' => e = .returned (.bool (hdB h)) ∧ Below w.heap.size w w' := by
  have K0 := Lib.hid (Blk.new w 44 #[.int .i64 h.age, .int .i64 h.kind, .int .i64 h.id, .int .i64 h.adv, .int .i64 h.seq, .int .i64 h.sum, .int .i64 h.long])
  have B0 := Lib.hid ((Below.refl w.heap.size w).alloc (Nat.le_refl _) (.cells #[.int .i64 h.age, .int .i64 h.kind, .int .i64 h.id, .int .i64 h.adv, .int .i64 h.seq, .int .i64 h.sum, .int .i64 h.long] 44))
  go_enter Tryz.func34, Tryz.ntmps34
  go_wp2_with fail
  refine (putHead_any h _).mono ?_
  rintro e1 w1 ⟨v1, rfl, ha1⟩
  obtain ⟨A1, c1, rfl, hc1, hm1, hr1⟩ := ha1.form
  have R1 := Lib.hid hr1
  have K1 := Lib.hid (ha1.blk K0.out)
  have B1 := Lib.hid (B0.out.trans (ha1.2.mono (by simp)))
  clear ha1 hr1 K0 B0
  go_wp2_with fail
  refine (getHead_long A1 20 c1 w1.heap.size _ _ R1.out (headBytes_byt h) (Nat.le_refl _) (Nat.le_refl _) hc1 hm1).mono ?_
  rintro e2 w2 ⟨rfl, hb2⟩
  have K2 := Lib.hid (K1.out.below hb2 K1.out.lt)
  have B2 := Lib.hid (B1.out.trans (hb2.mono B1.out.size))
  clear hb2 K1 B1 R1
  obtain ⟨k0, k1, k2, k3, k4, k5, k6⟩ := K2.out.seven
  have hlt := K2.out.lt
  cases ho : okHead (headBytes h)
  · have HE := Lib.hid (show hdB h = false by simp [hdB, ho])
    rw [if_neg Bool.false_ne_true, if_neg Bool.false_ne_true]
    go_wp2
    go_ret
    exact ⟨ret_bool HE.out.symm, B2.out.alloc B2.out.size _⟩
  · have HE := Lib.hid (show hdB h = sameHd (headOf (headBytes h)) h by simp [hdB, ho])
    rw [if_pos rfl, if_pos rfl]
    generalize headOf (headBytes h) = g at *
    go_wp2
    all_goals
      go_ret
      exact ⟨ret_bool (by rw [HE.out]; simp [sameHd, *]), B2.out.alloc B2.out.size _⟩

set_option maxRecDepth 4000 in
set_option maxHeartbeats 4000000 in
theorem same_hdL (h g : Hd) (L : List Lk) (M : List Int) (A A' A2 A2' : Option Addr) (n c n' c' c2 c2' B B2 : Nat) (w : World) (hL : Lnk w B A n L) (hM : Row .i64 w B A' n' M) (hL2 : Lnk w B2 A2 n L) (hM2 : Row .i64 w B2 A2' n' M) (hB : B ≤ w.heap.size) (hB2 : B2 ≤ w.heap.size) (hn : n ≤ maxLen) (hn' : n' ≤ maxLen) :
    Calls Tryz.prog 45 #[.agg #[.int .i64 h.age, .int .i64 h.kind, .int .i64 h.id, .int .i64 h.adv, .int .i64 h.seq, .int .i64 h.sum, .int .i64 h.long, .slice A n c, .slice A' n' c'], .agg #[.int .i64 g.age, .int .i64 g.kind, .int .i64 g.id, .int .i64 g.adv, .int .i64 g.seq, .int .i64 g.sum, .int .i64 g.long, .slice A2 n c2, .slice A2' n' c2']] w fun e w' => e = .returned (.bool (sameHd h g)) ∧ Below w.heap.size w w' := by
  have HN := Lib.hid hn
  have HN' := Lib.hid hn'
  unfold maxLen at hn hn'
  have HL := Lib.hid ((hL.alloc hB (.cells #[.int .i64 h.age, .int .i64 h.kind, .int .i64 h.id, .int .i64 h.adv, .int .i64 h.seq, .int .i64 h.sum, .int .i64 h.long, .slice A n c, .slice A' n' c'] 47)).alloc (by simp; omega) (.cells #[.int .i64 g.age, .int .i64 g.kind, .int .i64 g.id, .int .i64 g.adv, .int .i64 g.seq, .int .i64 g.sum, .int .i64 g.long, .slice A2 n c2, .slice A2' n' c2'] 47))
  have HM := Lib.hid ((hM.alloc hB (.cells #[.int .i64 h.age, .int .i64 h.kind, .int .i64 h.id, .int .i64 h.adv, .int .i64 h.seq, .int .i64 h.sum, .int .i64 h.long, .slice A n c, .slice A' n' c'] 47)).alloc (by simp; omega) (.cells #[.int .i64 g.age, .int .i64 g.kind, .int .i64 g.id, .int .i64 g.adv, .int .i64 g.seq, .int .i64 g.sum, .int .i64 g.long, .slice A2 n c2, .slice A2' n' c2'] 47))
  have HL2 := Lib.hid ((hL2.alloc hB2 (.cells #[.int .i64 h.age, .int .i64 h.kind, .int .i64 h.id, .int .i64 h.adv, .int .i64 h.seq, .int .i64 h.sum, .int .i64 h.long, .slice A n c, .slice A' n' c'] 47)).alloc (by simp; omega) (.cells #[.int .i64 g.age, .int .i64 g.kind, .int .i64 g.id, .int .i64 g.adv, .int .i64 g.seq, .int .i64 g.sum, .int .i64 g.long, .slice A2 n c2, .slice A2' n' c2'] 47))
  have HM2 := Lib.hid ((hM2.alloc hB2 (.cells #[.int .i64 h.age, .int .i64 h.kind, .int .i64 h.id, .int .i64 h.adv, .int .i64 h.seq, .int .i64 h.sum, .int .i64 h.long, .slice A n c, .slice A' n' c'] 47)).alloc (by simp; omega) (.cells #[.int .i64 g.age, .int .i64 g.kind, .int .i64 g.id, .int .i64 g.adv, .int .i64 g.seq, .int .i64 g.sum, .int .i64 g.long, .slice A2 n c2, .slice A2' n' c2'] 47))
  have BW := Lib.hid (((Below.refl w.heap.size w).alloc (Nat.le_refl _) (.cells #[.int .i64 h.age, .int .i64 h.kind, .int .i64 h.id, .int .i64 h.adv, .int .i64 h.seq, .int .i64 h.sum, .int .i64 h.long, .slice A n c, .slice A' n' c'] 47)).alloc (by simp) (.cells #[.int .i64 g.age, .int .i64 g.kind, .int .i64 g.id, .int .i64 g.adv, .int .i64 g.seq, .int .i64 g.sum, .int .i64 g.long, .slice A2 n c2, .slice A2' n' c2'] 47))
  clear hL hM hL2 hM2
  cases hs : sameHd h g
  · have hne : ¬ (h.age = g.age ∧ h.kind = g.kind ∧ h.id = g.id ∧ h.adv = g.adv ∧ h.seq = g.seq ∧ h.sum = g.sum ∧ h.long = g.long) := by
      rintro ⟨q1, q2, q3, q4, q5, q6, q7⟩
      simp [sameHd, *] at hs
    have HNE := Lib.hid hne
    clear hne hs
    go_enter Tryz.func45, Tryz.ntmps45
    go_wp2_with fail
    all_goals first
      | (go_ret; exact ⟨rfl, ((Below.refl _ _).alloc (Nat.le_refl _) _).alloc (by simp) _⟩)
      | exact absurd ⟨by assumption, by assumption, by assumption, by assumption, by assumption, by assumption, by assumption⟩ HNE.out
  · obtain rfl := (sameHd_iff h g).1 hs
    clear hs
    go_enter Tryz.func45, Tryz.ntmps45
    go_wp2_with fail
    refine (equalL_yes A A2 n c c2 B B2 L _ HL.out HL2.out HN.out).mono ?_
    rintro e1 w1 ⟨rfl, d1, rfl⟩
    go_wp2_with fail
    refine (equalI_yes A' A2' n' c' c2' B B2 M _ (HM.out.drewN d1) (HM2.out.drewN d1) HN'.out).mono ?_
    rintro e2 w2 ⟨rfl, d2, rfl⟩
    go_wp2
    go_ret
    exact ⟨rfl, below_drewN BW.out _⟩
theorem same_sealed (h g : Hd) (L : List Lk) (M : List Int) (A A' A2 A2' : Option Addr) (n c n' c' c2 c2' B base : Nat) (w : World) (hL : w.ownsRow base 86 4 (.slice A n c) n (lkCells L)) (hq : L.length = n) (hM : w.ownsRow base 3 1 (.slice A' n' c') n' (M.map (Value.int .i64))) (hq' : M.length = n') (hL2 : Lnk w B A2 n L) (hM2 : Row .i64 w B A2' n' M) (hB : B ≤ w.heap.size) (hn : n ≤ maxLen) (hn' : n' ≤ maxLen) :
    Calls Tryz.prog 45 #[.agg #[.int .i64 h.age, .int .i64 h.kind, .int .i64 h.id, .int .i64 h.adv, .int .i64 h.seq, .int .i64 h.sum, .int .i64 h.long, .slice A2 n c2, .slice A2' n' c2'], .agg #[.int .i64 g.age, .int .i64 g.kind, .int .i64 g.id, .int .i64 g.adv, .int .i64 g.seq, .int .i64 g.sum, .int .i64 g.long, .slice A n c, .slice A' n' c']] w fun e w' => e = .returned (.bool (sameHd h g)) ∧ Below w.heap.size w w' := by
  obtain ⟨A1, c1, e1, h1, h2, h3⟩ := lnk_of_own hL hq
  injection e1 with e1 _ e2
  subst e1 e2
  obtain ⟨A3, c3, e3, h4, h5, h6⟩ := row_of_ints hM hq'
  injection e3 with e3 _ e4
  subst e3 e4
  exact same_hdL h g L M A2 A2' A A' n c2 n' c2' c c' B _ w hL2 hM2 h3 h6 hB (Nat.le_refl _) hn hn'
theorem lists_small {h : Hd} {L : List Lk} {M : List Int} (hr : rightB h L M = true) : L.length ≤ 4 ∧ M.length ≤ 15 := by
  obtain ⟨_, h2, _, _, _, h6, h7⟩ := right_facts hr
  rcases right_kind hr with hk | hk
  · obtain ⟨q1, q2, _⟩ := h6 hk
    rw [q1]
    exact ⟨q2, Nat.zero_le _⟩
  · obtain ⟨q1, q2⟩ := h7 hk
    have := rise_len M 0 q2 (by omega)
    rw [q1]
    simp only [List.length_nil]
    omega

set_option maxRecDepth 4000 in
set_option maxHeartbeats 4000000 in
theorem psealed_any (h : Hd) (L : List Lk) (M : List Int) (A A' : Option Addr) (n c n' c' B : Nat) (w : World) (hL : Lnk w B A n L) (hM : Row .i64 w B A' n' M) (hB : B ≤ w.heap.size) (hn : n ≤ maxLen) (hn' : n' ≤ maxLen) :
    Calls Tryz.prog 32 #[.agg #[.int .i64 h.age, .int .i64 h.kind, .int .i64 h.id, .int .i64 h.adv, .int .i64 h.seq, .int .i64 h.sum, .int .i64 h.long, .slice A n c, .slice A' n' c']] w fun e w' => e = .returned (.bool (laB ⟨h, L, M⟩)) ∧ Below w.heap.size w w' := by
  have HN := Lib.hid hn
  have HN' := Lib.hid hn'
  have HLL := Lib.hid hL.1
  have HML := Lib.hid hM.1
  have K0 := Lib.hid (Blk.new w 47 #[.int .i64 h.age, .int .i64 h.kind, .int .i64 h.id, .int .i64 h.adv, .int .i64 h.seq, .int .i64 h.sum, .int .i64 h.long, .slice A n c, .slice A' n' c'])
  have B0 := Lib.hid ((Below.refl w.heap.size w).alloc (Nat.le_refl _) (.cells #[.int .i64 h.age, .int .i64 h.kind, .int .i64 h.id, .int .i64 h.adv, .int .i64 h.seq, .int .i64 h.sum, .int .i64 h.long, .slice A n c, .slice A' n' c'] 47))
  have HL0 := Lib.hid (hL.alloc hB (.cells #[.int .i64 h.age, .int .i64 h.kind, .int .i64 h.id, .int .i64 h.adv, .int .i64 h.seq, .int .i64 h.sum, .int .i64 h.long, .slice A n c, .slice A' n' c'] 47))
  have HM0 := Lib.hid (hM.alloc hB (.cells #[.int .i64 h.age, .int .i64 h.kind, .int .i64 h.id, .int .i64 h.adv, .int .i64 h.seq, .int .i64 h.sum, .int .i64 h.long, .slice A n c, .slice A' n' c'] 47))
  clear hL hM
  go_enter Tryz.func32, Tryz.ntmps32
  go_upto_region 1 with fail
  have hs0 : B ≤ (w.alloc (.cells #[.int .i64 h.age, .int .i64 h.kind, .int .i64 h.id, .int .i64 h.adv, .int .i64 h.seq, .int .i64 h.sum, .int .i64 h.long, .slice A n c, .slice A' n' c'] 47)).heap.size := by simp; omega
  have hlt0 := K0.out.lt
  have hz0 : w.heap.size ≤ (w.alloc (.cells #[.int .i64 h.age, .int .i64 h.kind, .int .i64 h.id, .int .i64 h.adv, .int .i64 h.seq, .int .i64 h.sum, .int .i64 h.long, .slice A n c, .slice A' n' c'] 47)).heap.size := by simp
  generalize w.alloc (.cells #[.int .i64 h.age, .int .i64 h.kind, .int .i64 h.id, .int .i64 h.adv, .int .i64 h.seq, .int .i64 h.sum, .int .i64 h.long, .slice A n c, .slice A' n' c'] 47) = w0 at *
  obtain ⟨k0, k1, k2, k3, k4, k5, k6, k7, k8⟩ := K0.out.nine
  have BR : Below w0.heap.size w0 w0.drew := ⟨rfl, rfl, rfl, Nat.le_refl _, fun _ _ => rfl⟩
  cases hr : rightB h L M
  · have HR := Lib.hid hr
    have HE := Lib.hid (show laB ⟨h, L, M⟩ = false by simp [laB, hr])
    clear hr
    go_region_with (go_at_call 61; refine (right_any h L M A A' n c n' c' _ _ (HL0.out.drewN 1) (HM0.out.drewN 1) hs0 HN.out HN'.out).mono ?_; rintro ea wa ⟨rfl, hba⟩; have hB1 := BR.trans hba; rw [HR.out])
    all_goals
      go_wp2
      go_ret
      exact ⟨ret_bool HE.out.symm, B0.out.trans (hB1.mono hz0)⟩
  · have HR := Lib.hid hr
    have HE := Lib.hid (show laB ⟨h, L, M⟩ = sameHd h (sealHd h L M) by simp [laB, hr])
    have hsm := lists_small hr
    rw [HLL.out, HML.out] at hsm
    have hn50 : n ≤ 50 := by omega
    have hn50' : n' ≤ 50 := by omega
    clear hr hsm
    go_region_held3 (fun w' => Below w0.heap.size w0 w' ∧ (∀ b o, b < w0.heap.size → w'.cell? ⟨b, o, none⟩ = w0.cell? ⟨b, o, none⟩)) ((refine keepW ?_; first | with_reducible exact BR | with_reducible exact hB3 | with_reducible exact hB2 | with_reducible exact hB1))
      (first
        | (go_at_call 61; refine (right_any h L M A A' n c n' c' _ _ (HL0.out.below (Below.mono (And.left ‹_›) hs0)) (HM0.out.below (Below.mono (And.left ‹_›) hs0)) (Nat.le_trans hs0 (Below.size (And.left ‹_›))) HN.out HN'.out).mono ?_; rintro ea wa ⟨rfl, hba⟩; have hB1 := Below.trans (And.left ‹_›) (hba.mono (Below.size (And.left ‹_›))); rw [HR.out])
        | (go_at_call 62; refine (seal_any h L M A A' n c n' c' _ _ (HL0.out.below (Below.mono (And.left ‹_›) hs0)) (HM0.out.below (Below.mono (And.left ‹_›) hs0)) (Nat.le_trans hs0 (Below.size (And.left ‹_›))) hn50 hn50').mono ?_; rintro eb wb ⟨AL, nL, cL, AI, nI, cI, rfl, hoL, hqL, hoI, hqI, hbb⟩; have hB2 := Below.trans (And.left ‹_›) (hbb.mono (Below.size (And.left ‹_›))); rw [HR.out, if_pos rfl]; obtain rfl : nL = n := hqL.symm.trans HLL.out; obtain rfl : nI = n' := hqI.symm.trans HML.out)
        | (go_at_call 45; refine (same_sealed h (sealHd h L M) L M _ _ A A' _ _ _ _ _ _ _ _ _ hoL hqL hoI hqI (HL0.out.below (Below.mono (And.left ‹_›) hs0)) (HM0.out.below (Below.mono (And.left ‹_›) hs0)) (Nat.le_trans hs0 (Below.size (And.left ‹_›))) HN.out HN'.out).mono ?_; rintro ec wc ⟨rfl, hbc⟩; have hB3 := Below.trans (And.left ‹_›) (hbc.mono (Below.size (And.left ‹_›)))))
    all_goals
      go_wp2
      go_ret
      exact ⟨ret_bool HE.out.symm, B0.out.trans (hB3.mono hz0)⟩
end Go.Proofs.YtekhgkkgmkodmaaGreat
namespace Go.Proofs.YtekhgkkgmkodmaaGreat
open Go.RowKit

set_option maxRecDepth 4000 in
set_option maxHeartbeats 4000000 in
theorem pieceK_any (least : Int) (A : Option Addr) (n c B : Nat) (L : List Ky) (w : World) (hL : Kys w B A n L) (hB : B ≤ w.heap.size) (hn : n ≤ maxLen) :
    Calls Tryz.prog 29 #[.int .i64 least, .slice A n c, .func (.func 30) #[] #[]] w fun e w' => e = .returned (.bool (pieceB least keyB L)) ∧ Below w.heap.size w w' := by
  unfold maxLen at hn
  have HL := Lib.hid hL
  have HN := Lib.hid hL.1
  clear hL
  go_enter Tryz.func29, Tryz.ntmps29
  go_wp2_with fail
  refine (pwithin_any _ _ _ _).mono ?_
  rintro e1 w1 ⟨rfl, rfl⟩
  cases h1 : inB (n : Int) least 3
  · go_wp2
    go_ret
    exact ⟨ret_bool (by simp [pieceB, HN.out, h1]), Below.refl _ _⟩
  · have HE := Lib.hid (show pieceB least keyB L = L.all keyB by simp [pieceB, HN.out, h1])
    go_wp2_with fail
    go_loopw [16] (fun i wr => ∃ k : Nat, k ≤ n ∧ i = .int .i64 k ∧ Hid (Below w.heap.size w wr) ∧ Hid ((L.take k).all keyB = true)) (fun i _ => n - (intOf i).toNat)
    case atStart => exact ⟨0, Nat.zero_le _, rfl, Lib.hid (Below.refl _ _), Lib.hid rfl⟩
    case round =>
      obtain ⟨k, hk, rfl, hb, hall⟩ := hrel
      by_cases hlt : k < n
      · obtain ⟨b, o, x, rfl, hbb, hx, hat⟩ := Arr.at (HL.out.below (hb.out.mono hB)) hlt
        have HX := Lib.hid hx
        obtain ⟨k0, k1, k2, hi0, hi1⟩ := hat
        clear hx
        have hsz := hb.out.size
        go_wp2_with fail
        refine (rightKey_any x _ hi0 hi1).mono ?_
        rintro e2 w2 ⟨rfl, hb2⟩
        have HB2 := Lib.hid ((hb.out.alloc hsz _).trans (hb2.mono (by simp; omega)))
        clear hb2 k0 k1 k2
        cases hl : keyB x
        · go_wp2
          go_ret
          exact ⟨ret_bool (by rw [HE.out, allA_false _ _ k _ HX.out hl]), HB2.out⟩
        · go_wp2
          go_roundw
          case rel => exact ⟨k + 1, by omega, by go_num, HB2, Lib.hid (allA_snoc _ _ _ _ HX.out hall.out hl)⟩
          case measure => simp [intOf]; omega
      · go_wp2
        go_ret
        have h2 := hall.out
        rw [List.take_of_length_le (by rw [HN.out]; omega)] at h2
        exact ⟨ret_bool (by rw [HE.out, h2]), hb.out⟩

set_option maxRecDepth 4000 in
set_option maxHeartbeats 4000000 in
theorem pieceH_any (least : Int) (A : Option Addr) (n c B : Nat) (L : List Hd) (w : World) (hL : Hds w B A n L) (hB : B ≤ w.heap.size) (hn : n ≤ maxLen) :
    Calls Tryz.prog 33 #[.int .i64 least, .slice A n c, .func (.func 34) #[] #[]] w fun e w' => e = .returned (.bool (pieceB least hdB L)) ∧ Below w.heap.size w w' := by
  unfold maxLen at hn
  have HL := Lib.hid hL
  have HN := Lib.hid hL.1
  clear hL
  go_enter Tryz.func33, Tryz.ntmps33
  go_wp2_with fail
  refine (pwithin_any _ _ _ _).mono ?_
  rintro e1 w1 ⟨rfl, rfl⟩
  cases h1 : inB (n : Int) least 3
  · go_wp2
    go_ret
    exact ⟨ret_bool (by simp [pieceB, HN.out, h1]), Below.refl _ _⟩
  · have HE := Lib.hid (show pieceB least hdB L = L.all hdB by simp [pieceB, HN.out, h1])
    go_wp2_with fail
    go_loopw [16] (fun i wr => ∃ k : Nat, k ≤ n ∧ i = .int .i64 k ∧ Hid (Below w.heap.size w wr) ∧ Hid ((L.take k).all hdB = true)) (fun i _ => n - (intOf i).toNat)
    case atStart => exact ⟨0, Nat.zero_le _, rfl, Lib.hid (Below.refl _ _), Lib.hid rfl⟩
    case round =>
      obtain ⟨k, hk, rfl, hb, hall⟩ := hrel
      by_cases hlt : k < n
      · obtain ⟨b, o, x, rfl, hbb, hx, hat⟩ := Arr.at (HL.out.below (hb.out.mono hB)) hlt
        have HX := Lib.hid hx
        obtain ⟨k0, k1, k2, k3, k4, k5, k6⟩ := hat
        clear hx
        have hsz := hb.out.size
        go_wp2_with fail
        refine (rightHead_any x _).mono ?_
        rintro e2 w2 ⟨rfl, hb2⟩
        have HB2 := Lib.hid ((hb.out.alloc hsz _).trans (hb2.mono (by simp; omega)))
        clear hb2 k0 k1 k2 k3 k4 k5 k6
        cases hl : hdB x
        · go_wp2
          go_ret
          exact ⟨ret_bool (by rw [HE.out, allA_false _ _ k _ HX.out hl]), HB2.out⟩
        · go_wp2
          go_roundw
          case rel => exact ⟨k + 1, by omega, by go_num, HB2, Lib.hid (allA_snoc _ _ _ _ HX.out hall.out hl)⟩
          case measure => simp [intOf]; omega
      · go_wp2
        go_ret
        have h2 := hall.out
        rw [List.take_of_length_le (by rw [HN.out]; omega)] at h2
        exact ⟨ret_bool (by rw [HE.out, h2]), hb.out⟩

set_option maxRecDepth 4000 in
set_option maxHeartbeats 4000000 in
theorem pieceL_any (least : Int) (A : Option Addr) (n c B : Nat) (L : List La) (w : World) (hL : Las w B A n L) (hB : B ≤ w.heap.size) (hn : n ≤ maxLen) :
    Calls Tryz.prog 31 #[.int .i64 least, .slice A n c, .func (.func 32) #[] #[]] w fun e w' => e = .returned (.bool (pieceB least laB L)) ∧ Below w.heap.size w w' := by
  unfold maxLen at hn
  have HL := Lib.hid hL
  have HN := Lib.hid hL.1
  clear hL
  go_enter Tryz.func31, Tryz.ntmps31
  go_wp2_with fail
  refine (pwithin_any _ _ _ _).mono ?_
  rintro e1 w1 ⟨rfl, rfl⟩
  cases h1 : inB (n : Int) least 3
  · go_wp2
    go_ret
    exact ⟨ret_bool (by simp [pieceB, HN.out, h1]), Below.refl _ _⟩
  · have HE := Lib.hid (show pieceB least laB L = L.all laB by simp [pieceB, HN.out, h1])
    go_wp2_with fail
    go_loopw [16] (fun i wr => ∃ k : Nat, k ≤ n ∧ i = .int .i64 k ∧ Hid (Below w.heap.size w wr) ∧ Hid ((L.take k).all laB = true)) (fun i _ => n - (intOf i).toNat)
    case atStart => exact ⟨0, Nat.zero_le _, rfl, Lib.hid (Below.refl _ _), Lib.hid rfl⟩
    case round =>
      obtain ⟨k, hk, rfl, hb, hall⟩ := hrel
      by_cases hlt : k < n
      · obtain ⟨b, o, x, rfl, hbb, hx, hat⟩ := Arr.at (HL.out.below (hb.out.mono hB)) hlt
        have HX := Lib.hid hx
        obtain ⟨⟨k0, k1, k2, k3, k4, k5, k6⟩, Ax, nx, cx, Ax', nx', cx', k7, k8, hLx, hMx, hnx, hnx'⟩ := hat
        have HLx := Lib.hid hLx
        have HMx := Lib.hid hMx
        have HNx := Lib.hid hnx
        have HNx' := Lib.hid hnx'
        unfold maxLen at hnx hnx'
        clear hLx hMx
        clear hx
        have hsz := hb.out.size
        go_wp2_with fail
        refine (psealed_any x.h x.L x.M Ax Ax' nx cx nx' cx' B _ (HLx.out.alloc (by omega) _) (HMx.out.alloc (by omega) _) (by simp; omega) HNx.out HNx'.out).mono ?_
        rintro e2 w2 ⟨rfl, hb2⟩
        have HB2 := Lib.hid ((hb.out.alloc hsz _).trans (hb2.mono (by simp; omega)))
        clear hb2 k0 k1 k2 k3 k4 k5 k6 k7 k8
        cases hl : laB x
        · go_wp2
          go_ret
          exact ⟨ret_bool (by rw [HE.out, allA_false _ _ k _ HX.out hl]), HB2.out⟩
        · go_wp2
          go_roundw
          case rel => exact ⟨k + 1, by omega, by go_num, HB2, Lib.hid (allA_snoc _ _ _ _ HX.out hall.out hl)⟩
          case measure => simp [intOf]; omega
      · go_wp2
        go_ret
        have h2 := hall.out
        rw [List.take_of_length_le (by rw [HN.out]; omega)] at h2
        exact ⟨ret_bool (by rw [HE.out, h2]), hb.out⟩

set_option maxRecDepth 4000 in
set_option maxHeartbeats 4000000 in
theorem rightHello_any (e d p dr bdr : Int) (A : Option Addr) (n c B : Nat) (S : List Int) (w : World) (hS : Row .i64 w B A n S) (hB : B ≤ w.heap.size) (hn : n ≤ maxLen) :
    Calls Tryz.prog 27 #[.agg #[.int .i64 e, .int .i64 d, .int .i64 p, .int .i64 dr, .int .i64 bdr, .slice A n c]] w fun x w' => x = .returned (.bool (helloB e d p dr bdr S)) ∧ Below w.heap.size w w' := by
  unfold maxLen at hn
  have HM := Lib.hid hS
  have HN := Lib.hid hS.1
  clear hS
  go_enter Tryz.func27, Tryz.ntmps27
  go_wp2_with fail
  refine (pwithin_any _ _ _ _).mono ?_
  rintro e1 w1 ⟨rfl, rfl⟩
  cases h1 : inB e 1 65535
  · go_wp2
    go_ret
    exact ⟨ret_bool (by simp [helloB, *]), (Below.refl _ _).alloc (Nat.le_refl _) _⟩
  go_wp2_with fail
  refine (pwithin_any _ _ _ _).mono ?_
  rintro e1 w1 ⟨rfl, rfl⟩
  cases h2 : inB d 1 65535
  · go_wp2
    go_ret
    exact ⟨ret_bool (by simp [helloB, *]), (Below.refl _ _).alloc (Nat.le_refl _) _⟩
  go_wp2_with fail
  refine (pwithin_any _ _ _ _).mono ?_
  rintro e1 w1 ⟨rfl, rfl⟩
  cases h3 : inB p 0 255
  · go_wp2
    go_ret
    exact ⟨ret_bool (by simp [helloB, *]), (Below.refl _ _).alloc (Nat.le_refl _) _⟩
  go_wp2_with fail
  refine (pwithin_any _ _ _ _).mono ?_
  rintro e1 w1 ⟨rfl, rfl⟩
  cases h4 : inB dr 0 63
  · go_wp2
    go_ret
    exact ⟨ret_bool (by simp [helloB, *]), (Below.refl _ _).alloc (Nat.le_refl _) _⟩
  go_wp2_with fail
  refine (pwithin_any _ _ _ _).mono ?_
  rintro e1 w1 ⟨rfl, rfl⟩
  cases h5 : inB bdr 0 63
  · go_wp2
    go_ret
    exact ⟨ret_bool (by simp [helloB, *]), (Below.refl _ _).alloc (Nat.le_refl _) _⟩
  have HR := Lib.hid (show helloB e d p dr bdr S = riseB 0 S by simp [helloB, *])
  clear h1 h2 h3 h4 h5
  go_wp2_with fail
  go_loopw [3, 35] (fun a i wr => ∃ (k : Nat) (x : Int), k ≤ n ∧ i = .int .i64 k ∧ a = .int .i64 x ∧ 0 ≤ x ∧ x ≤ 15 ∧ Hid (Below w.heap.size w wr) ∧ Hid (riseB 0 S = riseB x (S.drop k))) (fun _ i _ => n - (intOf i).toNat)
  case atStart => exact ⟨0, 0, Nat.zero_le _, rfl, rfl, by omega, by omega, Lib.hid ((Below.refl _ _).alloc (Nat.le_refl _) _), Lib.hid rfl⟩
  case round =>
    obtain ⟨k, x, hk, rfl, rfl, hx0, hx1, hb, hall⟩ := hrel
    by_cases hlt : k < n
    · obtain ⟨b, o, rfl, hbb, hc⟩ := (HM.out.below (hb.out.mono hB)).2 (by omega)
      have c0 := hc k hlt
      clear hc
      have hr := rise_drop S x k (by rw [HN.out]; exact hlt)
      generalize S.getD k 0 = y at *
      have HQ := Lib.hid (hall.out.trans hr)
      clear hall hr
      go_wp2_with fail
      refine (pwithin_any _ _ _ _).mono ?_
      rintro e1 w1 ⟨rfl, rfl⟩
      cases hl : inB y (x + 1) 15
      · have HQ2 := Lib.hid (show riseB 0 S = false by rw [HQ.out, hl]; rfl)
        go_wp2
        go_ret
        exact ⟨ret_bool (by rw [HR.out, HQ2.out]), hb.out⟩
      · have HQ2 := Lib.hid (show riseB 0 S = riseB y (S.drop (k + 1)) by rw [HQ.out, hl]; rfl)
        have hy := (inB_iff _ _ _).1 hl
        go_wp2
        go_roundw
        case rel => exact ⟨k + 1, y, by omega, by go_num, rfl, by omega, by omega, hb, HQ2⟩
        case measure => simp [intOf]; omega
    · go_wp2
      go_ret
      have h1 := hall.out
      rw [List.drop_of_length_le (by rw [HN.out]; omega)] at h1
      exact ⟨ret_bool (by rw [HR.out, h1]; rfl), hb.out⟩

set_option maxRecDepth 4000 in
set_option maxHeartbeats 4000000 in
theorem rightDd_any (i m s : Bool) (q : Int) (A : Option Addr) (n c B : Nat) (L : List Hd) (w : World) (hL : Hds w B A n L) (hB : B ≤ w.heap.size) (hn : n ≤ maxLen) (h0 : -9223372036854775808 ≤ q) (h1 : q ≤ 9223372036854775807) :
    Calls Tryz.prog 28 #[.agg #[.bool i, .bool m, .bool s, .int .i64 q, .slice A n c]] w fun x w' => x = .returned (.bool (ddB i m s q L)) ∧ Below w.heap.size w w' := by
  have HN0 := Lib.hid hn
  unfold maxLen at hn
  have HL := Lib.hid hL
  have HN := Lib.hid hL.1
  clear hL
  have HB0 := Lib.hid ((Below.refl w.heap.size w).alloc (Nat.le_refl _) (.cells #[.bool i, .bool m, .bool s, .int .i64 q, .slice A n c] 27))
  cases hg : (!i || (m && (s && decide (n = 0))))
  · have HE := Lib.hid (show ddB i m s q L = false by simp only [ddB, HN.out, hg, Bool.false_and])
    cases i
    · simp at hg
    cases m
    · clear hg
      go_enter Tryz.func28, Tryz.ntmps28
      go_wp2
      go_ret
      exact ⟨ret_bool HE.out.symm, HB0.out⟩
    cases s
    · clear hg
      go_enter Tryz.func28, Tryz.ntmps28
      go_wp2
      go_ret
      exact ⟨ret_bool HE.out.symm, HB0.out⟩
    have hn0 : 0 < n := by simp at hg; omega
    clear hg
    go_enter Tryz.func28, Tryz.ntmps28
    go_wp2
    go_ret
    exact ⟨ret_bool HE.out.symm, HB0.out⟩
  · have HE := Lib.hid (show ddB i m s q L = (fitB 4 q && pieceB 0 hdB L) by simp only [ddB, HN.out, hg, Bool.true_and])
    cases i
    · clear hg
      go_enter Tryz.func28, Tryz.ntmps28
      go_wp2_with fail
      refine (fits_new q _ _ (by simp) h0 h1).mono ?_
      rintro e2 w2 ⟨rfl, rfl⟩
      cases h3 : fitB 4 q
      · go_wp2
        go_ret
        exact ⟨ret_bool (by rw [HE.out, h3]; rfl), HB0.out.alloc (by simp) _⟩
      · go_wp2_with fail
        refine (pieceH_any 0 A n c B L _ ((HL.out.alloc hB _).alloc (by simp; omega) _) (by simp; omega) HN0.out).mono ?_
        rintro e3 w3 ⟨rfl, hb3⟩
        have HB3 := Lib.hid ((HB0.out.alloc (by simp) _).trans (hb3.mono (by simp; omega)))
        clear hb3
        go_wp2
        go_ret
        exact ⟨ret_bool (by rw [HE.out, h3]; rfl), HB3.out⟩
    · cases m
      · simp at hg
      cases s
      · simp at hg
      have hn0 : n = 0 := by simpa using hg
      subst hn0
      clear hg
      go_enter Tryz.func28, Tryz.ntmps28
      go_wp2_with fail
      refine (fits_new q _ _ (by simp) h0 h1).mono ?_
      rintro e2 w2 ⟨rfl, rfl⟩
      cases h3 : fitB 4 q
      · go_wp2
        go_ret
        exact ⟨ret_bool (by rw [HE.out, h3]; rfl), HB0.out.alloc (by simp) _⟩
      · go_wp2_with fail
        refine (pieceH_any 0 A 0 c B L _ ((HL.out.alloc hB _).alloc (by simp; omega) _) (by simp; omega) HN0.out).mono ?_
        rintro e3 w3 ⟨rfl, hb3⟩
        have HB3 := Lib.hid ((HB0.out.alloc (by simp) _).trans (hb3.mono (by simp; omega)))
        clear hb3
        go_wp2
        go_ret
        exact ⟨ret_bool (by rw [HE.out, h3]; rfl), HB3.out⟩
end Go.Proofs.YtekhgkkgmkodmaaGreat
