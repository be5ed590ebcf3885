/- The reference's Fill, and the example that each statement asks first. Conditions: the slice reads as bytes, at most 2^40 of them, and the place may be filled. -/
import Derived.Test.YtnjboddijdekgaaD
namespace Go.Proofs.Ytnjboddijdekgaa
open Go.RowKit

section
variable {w : World} {g : Nat} {t : TypeId} {l : List Int} {rest : List Value} {q : IntKind}
theorem Blk.setR (h : Blk w g t (l.map (Value.int q) ++ rest).toArray) (k : Nat) (hk : k < l.length) (x : Int) : Blk (w.setCell ⟨g, k, none⟩ (.int q x)) g t ((l.set k x).map (Value.int q) ++ rest).toArray := by
  have := h.put k (.int q x)
  rw [List.setIfInBounds_toArray, List.set_append_left _ _ (by simpa using hk)] at this
  rwa [List.map_set]
theorem Blk.atR (h : Blk w g t (l.map (Value.int q) ++ rest).toArray) (k : Nat) (hk : k < l.length) : w.cell? ⟨g, k, none⟩ = some (.int q (l.getD k 0)) := by
  rw [h.cell, List.getElem?_toArray, List.getElem?_append_left (by simpa using hk), List.getElem?_map, List.getD_eq_getElem?_getD, List.getElem?_eq_getElem hk]; rfl
theorem Blk.rowR (h : Blk w g t (l.map (Value.int q) ++ rest).toArray) : Row q w w.heap.size (some ⟨g, 0, none⟩) l.length l :=
  ⟨rfl, fun _ => ⟨g, 0, rfl, h.lt, fun j hj => by rw [Nat.zero_add]; exact h.atR j hj⟩⟩
end
/-- A row of the call's own that has elements: its block. -/
theorem own_blk {w : World} {base : Nat} {t : TypeId} {v : Value} {n : Nat} {xs : List Value} (h : w.ownsRow base t 1 v n xs) (hn : 0 < n) : ∃ g c rest, v = .slice (some ⟨g, 0, none⟩) n c ∧ base ≤ g ∧ n ≤ c ∧ Blk w g t (xs ++ rest).toArray := by
  rcases h.2 with ⟨_, h0⟩ | ⟨g, cap, cur, rfl, hg, hh, hc, hm, hs, ht⟩
  · omega
  · refine ⟨g, cap, cur.toList.drop n, rfl, hg, hc, ?_⟩
    rw [Nat.mul_one] at ht
    rw [← ht, List.take_append_drop]
    exact hh

set_option maxHeartbeats 2000000 in
theorem refFill_ok (A : Option Addr) (n c B : Nat) (k : Nat) (l : List Int) (w : World) (hr : Row .u8 w B A n l) (hby : Byt l) (hn : n ≤ 1099511627776) (hk2 : k + 2 ≤ n) :
    Calls Try.prog 12 #[.slice A n c, .int .i64 (k : Int)] w fun e w' => (∃ A' c', e = .returned (.slice A' n c') ∧ Row .u8 w' w'.heap.size A' n (fillL l k)) ∧ Below w.heap.size w w' := by
  generalize hQ : (fun (e : Ending) (w' : World) => (∃ A' c', e = .returned (.slice A' n c') ∧ Row .u8 w' w'.heap.size A' n (fillL l k)) ∧ Below w.heap.size w w') = Q
  have HQ := Lib.hid hQ
  have HR := Lib.hid hr
  have HY := Lib.hid hby
  have HL := Lib.hid hr.1
  clear hr hby hQ
  go_enter Try.func12, Try.ntmps12
  go_upto_region 3 with (at_builtin; refine wpList_append_row rfl (.tmp 7) (.tmp 8) rfl w.heap.size (.slice none 0 0) 0 [] (by rfl) (by exact World.ownsRow_nil w _ _ _) B A n c l (by rfl) (by exact HR.out) (by omega) (by simp) ?_; intro v2 w2 ho2 hg2 hl2)
  have o2 := ho2.out
  rw [Nat.zero_add, List.nil_append] at o2
  obtain ⟨g, c2, rest, rfl, hbg, hnc, hk⟩ := own_blk o2 (by omega)
  have hb2 : Below w.heap.size w w2 := (Below.refl _ _).grown hg2.out (Nat.le_refl _) (fun k hk => by cases hk)
  have hlen := HL.out
  have hc0 := hk.atR k (by omega)
  have hc1 := hk.atR (k + 1) (by omega)
  have hf0 := hk.frozen k
  have hf1 := hk.frozen (k + 1)
  have HK := Lib.hid (show Blk ((w2.setCell ⟨g, k, none⟩ (.int .u8 0)).setCell ⟨g, k + 1, none⟩ (.int .u8 0)) g 5 ((zeroed l k).map (Value.int .u8) ++ rest).toArray from (hk.setR k (by omega) 0).setR (k + 1) (by simp; omega) 0)
  have HB3 := Lib.hid (show Below w.heap.size w ((w2.setCell ⟨g, k, none⟩ (.int .u8 0)).setCell ⟨g, k + 1, none⟩ (.int .u8 0)) from (hb2.setCell hbg _).setCell hbg _)
  clear hk hlen hb2 o2 hl2 hg2 ho2
  go_upto_region 5 with fail
  clear hc0 hc1 hf0 hf1
  generalize (w2.setCell ⟨g, k, none⟩ (.int .u8 0)).setCell ⟨g, k + 1, none⟩ (.int .u8 0) = w3 at *
  have hr3 := HK.out.rowR
  rw [zeroed_length, HL.out] at hr3
  have HR3 := Lib.hid hr3
  clear hr3
  go_wp2_with fail
  refine (refOf_any _ n c2 w3.heap.size (zeroed l k) _ HR3.out (zeroed_byt HY.out k) hn).mono ?_
  rintro e2 w4 ⟨rfl, rfl⟩
  have hs := sumOf_bd (zeroed l k)
  have HF : Hid (∀ x, x = sumOf (zeroed l k) → fillL l k = ((zeroed l k).set k (x / 256)).set (k + 1) (x % 256)) := fun x hx => by rw [hx]; rfl
  generalize hx : sumOf (zeroed l k) = x at *
  have HF2 := Lib.hid (HF.out x rfl)
  have hz := zeroed_length l k
  rw [HL.out] at hz
  generalize zeroed l k = z at *
  have hc0 := HK.out.atR k (by omega)
  have hc1 := HK.out.atR (k + 1) (by omega)
  have hf0 := HK.out.frozen k
  have hf1 := HK.out.frozen (k + 1)
  have HK4 := Lib.hid ((HK.out.setR k (by omega) (x / 256)).setR (k + 1) (by simp; omega) (x % 256))
  have HB5 := Lib.hid ((HB3.out.setCell (p := ⟨g, k, none⟩) hbg (.int .u8 (x / 256))).setCell (p := ⟨g, k + 1, none⟩) hbg (.int .u8 (x % 256)))
  clear hx HF
  have hr5 := HK4.out.rowR
  rw [← HF2.out, fillL_length, HL.out] at hr5
  have HR5 := Lib.hid hr5
  clear hr5 hz
  go_wp2
  rw [← HQ.out]
  exact ⟨⟨_, _, rfl, HR5.out⟩, HB5.out⟩

theorem row_two {w : World} (a b : Int) (t : TypeId) : Row .u8 (w.alloc (.cells #[.int .u8 a, .int .u8 b] t)) (w.heap.size + 1) (some ⟨w.heap.size, 0, none⟩) 2 [a, b] := by
  refine ⟨rfl, fun _ => ⟨_, _, rfl, by omega, fun j hj => ?_⟩⟩
  rw [(Blk.new w t _).cell]
  match j, hj with
  | 0, _ => rfl
  | 1, _ => rfl

set_option maxHeartbeats 1000000 in
theorem wakes_any (w : World) : Calls Try.prog 6 #[] w fun x w' => x = .returned (.bool true) ∧ Below w.heap.size w w' := by
  go_enter Try.func6, Try.ntmps6
  go_wp2_with fail
  refine (of_any none 0 0 0 [] _ Rows2.nil Byt.nil (by simp) (by omega)).mono ?_
  rintro e1 w1 ⟨rfl, rfl⟩
  rw [show sumOf ([] : List (List Int)).flatten = 65535 by decide]
  go_wp2_with fail
  refine (of_any _ 1 1 (w.heap.size + 1 + 1) [[1, 2]] _ (by have h := rows2_one (row_two (w := w) 1 2 5) (by simp) (Nat.le_refl 2) 24; simpa using h) (fun x hx => by simp at hx; omega) (by simp) (by omega)).mono ?_
  rintro e1 w1 ⟨rfl, rfl⟩
  rw [show sumOf ([[1, 2]] : List (List Int)).flatten = 65277 by decide]
  go_wp2
  go_ret
  exact ⟨rfl, ((Below.refl _ _).alloc (Nat.le_refl _) _).alloc (by simp) _⟩
end Go.Proofs.Ytnjboddijdekgaa
