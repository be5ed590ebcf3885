/- The call Fill of package ipsum. Conditions: the slice reads as bytes, at most 2^40 of them. -/
import Derived.Test.YtnjboddijdekgaaC
import Derived.Deep.DeepCutAuto
namespace Go.Proofs.Ytnjboddijdekgaa
open Go.RowKit

/-- May bytes of this number be filled at this place? -/
def fits (n : Nat) (p : Int) : Prop := 0 ≤ p ∧ p % 2 = 0 ∧ n % 2 = 0 ∧ p + 2 ≤ n
/-- Bytes with two zeros from k on. -/
def zeroed (l : List Int) (k : Nat) : List Int := (l.set k 0).set (k + 1) 0
/-- Bytes, filled from k on. -/
def fillL (l : List Int) (k : Nat) : List Int := ((zeroed l k).set k (sumOf (zeroed l k) / 256)).set (k + 1) (sumOf (zeroed l k) % 256)
theorem Byt.set {l : List Int} (h : Byt l) (k : Nat) {y : Int} (h0 : 0 ≤ y) (h1 : y ≤ 255) : Byt (l.set k y) := fun x hx => by
  rcases List.mem_or_eq_of_mem_set hx with hx | rfl
  · exact h x hx
  · exact ⟨h0, h1⟩
theorem zeroed_byt {l : List Int} (h : Byt l) (k : Nat) : Byt (zeroed l k) := (h.set k (by omega) (by omega)).set (k + 1) (by omega) (by omega)
theorem zeroed_length (l : List Int) (k : Nat) : (zeroed l k).length = l.length := by simp [zeroed]
theorem fillL_byt {l : List Int} (h : Byt l) (k : Nat) : Byt (fillL l k) := by
  have := sumOf_bd (zeroed l k)
  exact ((zeroed_byt h k).set k (by omega) (by omega)).set (k + 1) (by omega) (by omega)
theorem fillL_length (l : List Int) (k : Nat) : (fillL l k).length = l.length := by simp [fillL, zeroed_length]
theorem fillL_sum {l : List Int} (h : Byt l) (k : Nat) (he : k % 2 = 0) (hk : k + 1 < l.length) : sumOf (fillL l k) = 0 := by
  refine filled (zeroed l k) (zeroed_byt h k) k (by rw [zeroed_length]; exact hk) he ?_ ?_
  · unfold zeroed
    rw [List.getD_eq_getElem?_getD, List.getElem?_set_ne (by omega), List.getElem?_set_self (by omega)]; rfl
  · unfold zeroed
    rw [List.getD_eq_getElem?_getD, List.getElem?_set_self (by simpa using hk)]; rfl

theorem Blk.setInt {w : World} {g : Nat} {t : TypeId} {l : List Int} (h : Blk w g t (l.map (Value.int .u8)).toArray) (k : Nat) (x : Int) : Blk (w.setCell ⟨g, k, none⟩ (.int .u8 x)) g t ((l.set k x).map (Value.int .u8)).toArray := by
  have := h.put k (.int .u8 x)
  rw [List.setIfInBounds_toArray] at this
  rwa [List.map_set]
theorem Blk.at {w : World} {g : Nat} {t : TypeId} {l : List Int} (h : Blk w g t (l.map (Value.int .u8)).toArray) (k : Nat) (hk : k < l.length) : w.cell? ⟨g, k, none⟩ = some (.int .u8 (l.getD k 0)) := by
  rw [h.cell, List.getElem?_toArray, List.getElem?_map, List.getD_eq_getElem?_getD, List.getElem?_eq_getElem hk]; rfl
theorem Blk.row {w : World} {g : Nat} {t : TypeId} {l : List Int} (h : Blk w g t (l.map (Value.int .u8)).toArray) : Row .u8 w w.heap.size (some ⟨g, 0, none⟩) l.length l :=
  ⟨rfl, fun _ => ⟨g, 0, rfl, h.lt, fun j hj => by rw [Nat.zero_add]; exact h.at j hj⟩⟩

set_option maxHeartbeats 1000000 in
theorem fill_no (A : Option Addr) (n c : Nat) (p : Int) (w : World) (hn : n ≤ 1099511627776) (h : ¬ fits n p) :
    Calls Try.prog 10 #[.slice A n c, .int .i64 p] w fun e w' => e = .returned (.tuple #[.slice none 0 0, .bool false]) ∧ w = w' := by
  unfold fits at h
  go_enter Try.func10, Try.ntmps10
  go_wp2_with fail
  refine (even_any _ _).mono ?_
  rintro e1 w1 ⟨rfl, rfl⟩
  by_cases h1 : p % 2 = 0
  · rw [decide_eq_true h1]
    by_cases h2 : p < 0
    · go_wp2
      go_ret2
      exact ⟨rfl, rfl⟩
    · by_cases h3 : (n : Int) - 2 < p
      · go_wp2
        go_ret2
        exact ⟨rfl, rfl⟩
      · have h4 : decide ((n : Int) % 2 = 0) = false := by simp; omega
        clear h
        go_wp2_with fail
        refine (even_any _ _).mono ?_
        rintro e1 w1 ⟨rfl, rfl⟩
        rw [h4]
        go_wp2
        go_ret2
        exact ⟨rfl, rfl⟩
  · rw [decide_eq_false h1]
    go_wp2
    go_ret2
    exact ⟨rfl, rfl⟩

set_option maxHeartbeats 2000000 in
theorem fill_ok (A : Option Addr) (n c B : Nat) (k : Nat) (l : List Int) (w : World) (hr : Row .u8 w B A n l) (hby : Byt l) (hB : B ≤ w.heap.size) (hn : n ≤ 1099511627776) (h : fits n k) :
    Calls Try.prog 10 #[.slice A n c, .int .i64 (k : Int)] w fun e w' => e = .returned (.tuple #[.slice (some ⟨w.heap.size, 0, none⟩) n n, .bool true]) ∧ Below w.heap.size w w' ∧ Blk w' w.heap.size 5 ((fillL l k).map (Value.int .u8)).toArray := by
  unfold fits at h
  have HR := Lib.hid hr
  have HY := Lib.hid hby
  clear hr hby
  have hmk := run_make5 n n (Nat.le_refl _) (by omega)
  have h1 : decide ((k : Int) % 2 = 0) = true := by simp; omega
  have h4 : decide ((n : Int) % 2 = 0) = true := by simp; omega
  have hk2 : k + 2 ≤ n := by omega
  have HP := Lib.hid h
  clear h
  go_enter Try.func10, Try.ntmps10
  go_wp2_with fail
  refine (even_any _ _).mono ?_
  rintro e1 w1 ⟨rfl, rfl⟩
  rw [h1]
  go_wp2_with fail
  refine (even_any _ _).mono ?_
  rintro e1 w1 ⟨rfl, rfl⟩
  rw [h4]
  clear h1 h4
  go_upto_region 5 with (refine wpList_copy_row rfl (.tmp 31) (.tmp 32) rfl w.heap.size n n c A (by rfl) (by rfl) B l (by exact HR.out.alloc hB _) (zeros n) (by simp [zeros]) (by exact Blk.new w 5 (zeros n).toArray) ?_; intro w2 hg2 hb2)
  have hlen := HR.out.1
  have hk := hg2.out
  rw [List.drop_of_length_le (by simp [zeros]), List.append_nil] at hk
  have HB2 := Lib.hid (below_new hb2 (Nat.le_refl _))
  have hc0 := hk.at k (by omega)
  have hc1 := hk.at (k + 1) (by omega)
  have hf0 := hk.frozen k
  have hf1 := hk.frozen (k + 1)
  have hz2 := HB2.out.size
  have HK := Lib.hid (show Blk ((w2.setCell ⟨w.heap.size, k, none⟩ (.int .u8 0)).setCell ⟨w.heap.size, k + 1, none⟩ (.int .u8 0)) w.heap.size 5 ((zeroed l k).map (Value.int .u8)).toArray from (hk.setInt k 0).setInt (k + 1) 0)
  have HL := Lib.hid hlen
  clear hk hlen hb2 hg2
  go_upto_region 6 with fail
  have HB3 := Lib.hid (show Below w.heap.size w ((w2.setCell ⟨w.heap.size, k, none⟩ (.int .u8 0)).setCell ⟨w.heap.size, k + 1, none⟩ (.int .u8 0)) from (HB2.out.setCell (Nat.le_refl _) _).setCell (Nat.le_refl _) _)
  clear hc0 hc1 hf0 hf1 HB2 hz2
  generalize (w2.setCell ⟨w.heap.size, k, none⟩ (.int .u8 0)).setCell ⟨w.heap.size, k + 1, none⟩ (.int .u8 0) = w3 at *
  have hr3 := HK.out.row
  rw [zeroed_length, HL.out] at hr3
  have HR3 := Lib.hid hr3
  have hz3 := HB3.out.size
  clear hr3
  go_wp2_with fail
  refine (of_any _ 1 1 (w3.heap.size + 1) [zeroed l k] _ (rows2_one HR3.out (Nat.le_refl _) (Nat.le_refl _) _) (by simpa using zeroed_byt HY.out k) (by simpa [zeroed_length, HL.out] using hn) (by omega)).mono ?_
  rintro e2 w4 ⟨rfl, hw4⟩
  simp only [List.flatten_cons, List.flatten_nil, List.append_nil]
  have hk4 : Blk w4 w.heap.size 5 ((zeroed l k).map (Value.int .u8)).toArray := by rw [← hw4]; exact HK.out.alloc _
  have HB4 : Hid (Below w.heap.size w w4) := by rw [← hw4]; exact HB3.out.alloc hz3 _
  clear hw4
  have hs := sumOf_bd (zeroed l k)
  have HF : Hid (∀ x, x = sumOf (zeroed l k) → fillL l k = ((zeroed l k).set k (x / 256)).set (k + 1) (x % 256)) := fun x hx => by rw [hx]; rfl
  generalize hx : sumOf (zeroed l k) = x at *
  have HF2 := Lib.hid (HF.out x rfl)
  have hz := zeroed_length l k
  rw [HL.out] at hz
  generalize zeroed l k = z at *
  have hc0 := hk4.at k (by omega)
  have hc1 := hk4.at (k + 1) (by omega)
  have hf0 := hk4.frozen k
  have hf1 := hk4.frozen (k + 1)
  have HK4 := Lib.hid ((hk4.setInt k (x / 256)).setInt (k + 1) (x % 256))
  have HB5 := Lib.hid ((HB4.out.setCell (p := ⟨w.heap.size, k, none⟩) (Nat.le_refl _) (.int .u8 (x / 256))).setCell (p := ⟨w.heap.size, k + 1, none⟩) (Nat.le_refl _) (.int .u8 (x % 256)))
  clear hk4 hz hx HF
  go_wp2
  go_ret2
  refine ⟨rfl, ?_, ?_⟩
  · exact HB5.out
  · rw [HF2.out]
    exact HK4.out
end Go.Proofs.Ytnjboddijdekgaa
