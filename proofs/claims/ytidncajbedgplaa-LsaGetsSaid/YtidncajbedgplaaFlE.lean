/- The reference's Fill, by trying. Conditions: the slice reads as bytes, at most 2^20 of them, and the place is there. -/
import Derived.Test.YtidncajbedgplaaFlC
import Derived.Test.YtidncajbedgplaaFlD
namespace Go.Proofs.Ytidncajbedgplaa
open Go.RowKit

set_option maxRecDepth 4000 in
set_option maxHeartbeats 4000000 in
theorem refFfill_ok (A : Option Addr) (n c B : Nat) (k : Nat) (l : List Int) (w : World) (hr : Row .u8 w B A n l) (hby : Byt l) (hn : n ≤ 1048576) (hk2 : k + 2 ≤ n) :
    Calls Try.prog 39 #[.slice A n c, .int .i64 (k : Int)] w fun e w' => (∃ A' c', e = .returned (.slice A' n c') ∧ Row .u8 w' w'.heap.size A' n (ffill l k)) ∧ Below w.heap.size w w' := by
  generalize hQ : (fun (e : Ending) (w' : World) => (∃ A' c', e = .returned (.slice A' n c') ∧ Row .u8 w' w'.heap.size A' n (ffill l k)) ∧ Below w.heap.size w w') = Q
  have HQ := Lib.hid hQ
  have HR := Lib.hid hr
  have HY := Lib.hid hby
  have HL := Lib.hid hr.1
  clear hr hby hQ
  go_enter Try.func39, Try.ntmps39
  go_upto_region 3 with (at_builtin; refine wpList_append_row rfl (.tmp 8) (.tmp 9) rfl w.heap.size (.slice none 0 0) 0 [] (by rfl) (by exact World.ownsRow_nil w _ _ _) B A n c l (by rfl) (by exact HR.out) (by omega) (by simp) ?_; intro v2 w2 ho2 hg2 hl2)
  have o2 := ho2.out
  rw [Nat.zero_add, List.nil_append] at o2
  obtain ⟨g, c2, rest, rfl, hbg, hnc, hk⟩ := own_blk o2 (by omega)
  have hb2 : Below w.heap.size w w2 := (Below.refl _ _).grown hg2.out (Nat.le_refl _) (fun k hk => by cases hk)
  have hlen := HL.out
  have hc0 := hk.atR k (by omega)
  have hc1 := hk.atR (k + 1) (by omega)
  have hf0 := hk.frozen k
  have hf1 := hk.frozen (k + 1)
  have HK := Lib.hid (show Blk ((w2.setCell ⟨g, k, none⟩ (.int .u8 0)).setCell ⟨g, k + 1, none⟩ (.int .u8 0)) g 5 ((fzero l k).map (Value.int .u8) ++ rest).toArray from (hk.setR k (by omega) 0).setR (k + 1) (by simp; omega) 0)
  have HB3 := Lib.hid (show Below w.heap.size w ((w2.setCell ⟨g, k, none⟩ (.int .u8 0)).setCell ⟨g, k + 1, none⟩ (.int .u8 0)) from (hb2.setCell hbg _).setCell hbg _)
  clear hk hlen hb2 o2 hl2 hg2 ho2
  go_upto_region 5 with fail
  clear hc0 hc1 hf0 hf1
  generalize (w2.setCell ⟨g, k, none⟩ (.int .u8 0)).setCell ⟨g, k + 1, none⟩ (.int .u8 0) = w3 at *
  have hr3 := HK.out.rowR
  rw [fzero_eq, put2_length, HL.out] at hr3
  have HR3 := Lib.hid hr3
  clear hr3
  go_wp2_with fail
  refine (refFirst_any _ n c2 w3.heap.size (fzero l k) _ HR3.out (put2_byt HY.out k (by omega) (by omega) (by omega) (by omega)) hn).mono ?_
  rintro e2 w4 ⟨rfl, rfl⟩
  have HI : Hid (∀ i j : Int, 0 ≤ i → i ≤ 254 → j = (-(ffst (fzero l k) % 255) - i) % 255 → wholeB (put2 l k i j) = decide (i = lackX (ffst (fzero l k) % 255) (fsnd (fzero l k) % 255) ((l.length : Int) - k - 1)) ∧ (i = lackX (ffst (fzero l k) % 255) (fsnd (fzero l k) % 255) ((l.length : Int) - k - 1) → put2 l k i j = ffill l k)) :=
    fun i j h0 h1 hj => ⟨whole_iff l k (by rw [HL.out]; omega) i j h0 h1 hj, fun hi => by rw [hj, hi]; rfl⟩
  have hX := lackX_bd (ffst (fzero l k) % 255) (fsnd (fzero l k) % 255) ((l.length : Int) - k - 1)
  have hx : 0 ≤ ffst (fzero l k) % 255 ∧ ffst (fzero l k) % 255 < 255 := by omega
  have HZ : Hid (∃ a b, Blk w3 g 5 ((put2 l k a b).map (Value.int .u8) ++ rest).toArray) := ⟨0, 0, HK.out⟩
  generalize lackX (ffst (fzero l k) % 255) (fsnd (fzero l k) % 255) ((l.length : Int) - k - 1) = X at *
  generalize ffst (fzero l k) % 255 = x at *
  clear HR3 HK
  go_wp2_with fail
  go_loopw [7] (fun i wr => ∃ q : Nat, (q : Int) ≤ X ∧ i = .int .i64 q ∧ Hid (∃ a b, Blk wr g 5 ((put2 l k a b).map (Value.int .u8) ++ rest).toArray) ∧ Hid (Below w.heap.size w wr)) (fun i _ => 255 - (intOf i).toNat)
  case atStart => exact ⟨0, by omega, rfl, HZ, HB3⟩
  case round =>
    obtain ⟨q, hq, rfl, hz, hb⟩ := hrel
    clear HZ HB3
    obtain ⟨a, b, hk⟩ := hz.out
    have hl1 := put2_length l k a b
    rw [HL.out] at hl1
    have hc0 := hk.atR k (by omega)
    have hc1 := hk.atR (k + 1) (by omega)
    have hf0 := hk.frozen k
    have hf1 := hk.frozen (k + 1)
    have hj0 : 0 ≤ (510 - x - q) % 255 := by omega
    have hj1 : (510 - x - q) % 255 ≤ 254 := by omega
    have hi := HI.out q ((510 - x - q) % 255) (by omega) (by omega) (by omega)
    have hk4 := (hk.setR k (by omega) (q : Int)).setR (k + 1) (by simp; omega) ((510 - x - q) % 255)
    have e4 : ((put2 l k a b).set k (q : Int)).set (k + 1) ((510 - x - q) % 255) = put2 l k q ((510 - x - q) % 255) := put2_put2 l k a b _ _
    rw [e4] at hk4
    have HK4 := Lib.hid hk4
    have HB4 := Lib.hid ((hb.out.setCell (p := ⟨g, k, none⟩) hbg (.int .u8 (q : Int))).setCell (p := ⟨g, k + 1, none⟩) hbg (.int .u8 ((510 - x - q) % 255)))
    have HI2 := Lib.hid hi
    clear hk hz hb hi hk4 e4 hl1
    generalize (put2 l k a b).getD k 0 = u0 at *
    generalize (put2 l k a b).getD (k + 1) 0 = u1 at *
    generalize hj : (510 - x - q) % 255 = j at *
    have HJ := Lib.hid hj
    clear hj
    have hq2 : (q : Int) ≤ 254 := by omega
    have HX := Lib.hid hq
    clear hq hX
    go_wp2_with fail
    rw [HJ.out]
    clear hc0 hc1 hf0 hf1
    generalize (wr.setCell ⟨g, k, none⟩ (.int .u8 (q : Int))).setCell ⟨g, k + 1, none⟩ (.int .u8 j) = w5 at *
    have hr5 := HK4.out.rowR
    rw [put2_length, HL.out] at hr5
    have HR5 := Lib.hid hr5
    have HY5 := Lib.hid (put2_byt HY.out k (x := (q : Int)) (y := j) (by omega) (by omega) hj0 (by omega))
    clear hr5
    refine (refWhole_any _ n c2 w5.heap.size (put2 l k q j) _ HR5.out HY5.out hn).mono ?_
    rintro e6 w6 ⟨rfl, rfl⟩
    rw [HI2.out.1]
    by_cases hqX : (q : Int) = X
    · have hfl := HI2.out.2 hqX
      have hr6 := HR5.out
      rw [hfl] at hr6
      have HR6 := Lib.hid hr6
      rw [decide_eq_true hqX]
      clear hfl hr6 hqX
      go_wp2
      rw [← HQ.out]
      exact ⟨⟨_, _, rfl, HR6.out⟩, HB4.out⟩
    · rw [decide_eq_false hqX]
      have hlt := HX.out
      go_wp2
      go_roundw
      case rel => exact ⟨q + 1, by omega, by go_num, ⟨q, j, HK4.out⟩, HB4⟩
      case measure => simp [intOf]; omega
end Go.Proofs.Ytidncajbedgplaa
