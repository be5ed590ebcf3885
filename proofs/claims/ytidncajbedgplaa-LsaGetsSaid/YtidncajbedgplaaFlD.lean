/- The call Fill of package fletch. Conditions: the slice reads as bytes, at most 2^40 of them. -/
import Derived.Test.YtidncajbedgplaaFlB
import Derived.Deep.DeepCutAuto
namespace Go.Proofs.Ytidncajbedgplaa
open Go.RowKit

set_option maxHeartbeats 1000000 in
theorem ffill_no (A : Option Addr) (n c : Nat) (p : Int) (w : World) (hn : n ≤ 1099511627776) (h : p < 0 ∨ (n : Int) - 2 < p) :
    Calls Try.prog 46 #[.slice A n c, .int .i64 p] w fun e w' => e = .returned (.tuple #[.slice none 0 0, .bool false]) ∧ w = w' := by
  go_enter Try.func46, Try.ntmps46
  by_cases h2 : p < 0
  · go_wp2
    go_ret2
    exact ⟨rfl, rfl⟩
  · have h3 : (n : Int) - 2 < p := by omega
    go_wp2
    go_ret2
    exact ⟨rfl, rfl⟩

set_option maxHeartbeats 2000000 in
theorem ffill_ok (A : Option Addr) (n c B : Nat) (k : Nat) (l : List Int) (w : World) (hr : Row .u8 w B A n l) (hby : Byt l) (hB : B ≤ w.heap.size) (hn : n ≤ 1099511627776) (hk2 : k + 2 ≤ n) :
    Calls Try.prog 46 #[.slice A n c, .int .i64 (k : Int)] w fun e w' => e = .returned (.tuple #[.slice (some ⟨w.heap.size, 0, none⟩) n n, .bool true]) ∧ Below w.heap.size w w' ∧ Blk w' w.heap.size 5 ((ffill l k).map (Value.int .u8)).toArray := by
  have HR := Lib.hid hr
  have HY := Lib.hid hby
  clear hr hby
  have hmk := run_make5 n n (Nat.le_refl _) (by omega)
  go_enter Try.func46, Try.ntmps46
  go_upto_region 5 with (refine wpList_copy_row rfl (.tmp 19) (.tmp 20) rfl w.heap.size n n c A (by rfl) (by rfl) B l (by exact HR.out.alloc hB _) (zeros n) (by simp [zeros]) (by exact Blk.new w 5 (zeros n).toArray) ?_; intro w2 hg2 hb2)
  have hlen := HR.out.1
  have hk := hg2.out
  rw [List.drop_of_length_le (by simp [zeros]), List.append_nil] at hk
  have HB2 := Lib.hid (below_new hb2 (Nat.le_refl _))
  have hc0 := hk.at k (by omega)
  have hc1 := hk.at (k + 1) (by omega)
  have hf0 := hk.frozen k
  have hf1 := hk.frozen (k + 1)
  have hz2 := HB2.out.size
  have HK := Lib.hid (show Blk ((w2.setCell ⟨w.heap.size, k, none⟩ (.int .u8 0)).setCell ⟨w.heap.size, k + 1, none⟩ (.int .u8 0)) w.heap.size 5 ((fzero l k).map (Value.int .u8)).toArray from (hk.setInt k 0).setInt (k + 1) 0)
  have HL := Lib.hid hlen
  clear hk hlen hb2 hg2
  go_upto_region 6 with fail
  have HB3 := Lib.hid (show Below w.heap.size w ((w2.setCell ⟨w.heap.size, k, none⟩ (.int .u8 0)).setCell ⟨w.heap.size, k + 1, none⟩ (.int .u8 0)) from (HB2.out.setCell (Nat.le_refl _) _).setCell (Nat.le_refl _) _)
  clear hc0 hc1 hf0 hf1 HB2 hz2
  generalize (w2.setCell ⟨w.heap.size, k, none⟩ (.int .u8 0)).setCell ⟨w.heap.size, k + 1, none⟩ (.int .u8 0) = w3 at *
  have hfl : (fzero l k).length = n := by rw [fzero_eq, put2_length, HL.out]
  have hr3 := HK.out.row
  rw [hfl] at hr3
  have HR3 := Lib.hid hr3
  have hz3 := HB3.out.size
  have HYz := Lib.hid (show Byt (fzero l k) from put2_byt HY.out k (by omega) (by omega) (by omega) (by omega))
  obtain ⟨x, y, ht⟩ := two_of (fzero l k)
  have HT := Lib.hid ht
  have hlt := ht.lt
  obtain ⟨X, hX⟩ : ∃ X, X = lackX x y ((n : Int) - k - 1) := ⟨_, rfl⟩
  obtain ⟨Y, hY⟩ : ∃ Y, Y = lackY x X := ⟨_, rfl⟩
  have HF := Lib.hid (show ffill l k = ((fzero l k).set k X).set (k + 1) Y by
    have : ffill l k = put2 (fzero l k) k X Y := by
      rw [fzero_eq, put2_put2, hY, hX, ht.1, ht.2, ← HL.out]
      rfl
    exact this)
  have HX := Lib.hid hX
  have HYY := Lib.hid hY
  have hbx := lackX_bd x y ((n : Int) - k - 1)
  have hbY := lackY_bd x X
  rw [← hX] at hbx
  rw [← hY] at hbY
  clear hr3 ht hX hY
  go_wp2_with fail
  refine (both_any _ n n w3.heap.size (fzero l k) _ HR3.out HYz.out (by unfold maxLen; omega) x y HT.out).mono ?_
  rintro e2 w4 ⟨rfl, rfl⟩
  go_wp2_with fail
  refine (lacking_any x y ((n : Int) - k - 1) X Y hlt.1 hlt.2 (by omega) (by omega) HX.out HYY.out _).mono ?_
  rintro e2 w4 ⟨rfl, rfl⟩
  generalize fzero l k = z at *
  have hc0 := HK.out.at k (by omega)
  have hc1 := HK.out.at (k + 1) (by omega)
  have hf0 := HK.out.frozen k
  have hf1 := HK.out.frozen (k + 1)
  have HK4 := Lib.hid ((HK.out.setInt k X).setInt (k + 1) Y)
  have HB5 := Lib.hid ((HB3.out.setCell (p := ⟨w.heap.size, k, none⟩) (Nat.le_refl _) (.int .u8 X)).setCell (p := ⟨w.heap.size, k + 1, none⟩) (Nat.le_refl _) (.int .u8 Y))
  clear hfl
  go_wp2
  go_ret2
  refine ⟨rfl, ?_, ?_⟩
  · exact HB5.out
  · rw [HF.out]
    exact HK4.out
end Go.Proofs.Ytidncajbedgplaa
