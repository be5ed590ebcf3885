/- The calls Read and the reference's Bytes (a number's lowest bytes). Conditions: what is handed in reads as bytes, at most 2^40 of them. -/
import Derived.Test.YtidncajbedgplaaQuE
namespace Go.Proofs.Ytidncajbedgplaa
open Go.RowKit

/-- What Read answers, and leaves: a reader of its own, at its beginning, over bytes of its own. -/
def Reader0 (w : World) (l : List Int) (x : Ending) (w' : World) : Prop :=
  x = .returned (.pointer (some ⟨w.heap.size + 1, 0, none⟩)) ∧ Below w.heap.size w w' ∧ Row .u8 w' (w.heap.size + 1) (some ⟨w.heap.size, 0, none⟩) l.length l ∧
  Blk w' (w.heap.size + 1) 72 #[.slice (some ⟨w.heap.size, 0, none⟩) l.length l.length, .int .i64 0, .int .i64 0]

set_option maxHeartbeats 400000 in
theorem read_any (A : Option Addr) (n c B : Nat) (l : List Int) (w : World) (hr : Row .u8 w B A n l) (hB : B ≤ w.heap.size) (hn : n ≤ 1099511627776) :
    Calls Try.prog 34 #[.slice A n c] w (Reader0 w l) := by
  have hmk := run_make5 n n (Nat.le_refl _) (by omega)
  have HR := Lib.hid hr
  clear hr
  generalize hQ : Reader0 w l = Q
  have HQ := Lib.hid hQ
  clear hQ
  go_enter Try.func34, Try.ntmps34
  go_wp2_with (refine wpList_copy_row rfl (.tmp 12) (.tmp 13) rfl w.heap.size n n c A (by rfl) (by rfl) B l (by exact (HR.out.alloc hB _).alloc (by simp; omega) _) (zeros n) (by simp [zeros]) (by exact (Blk.new w 5 (zeros n).toArray).alloc _) ?_; intro w2 hg2 hb2)
  rw [← HQ.out]
  have hl := HR.out.1
  refine ⟨rfl, ?_, ?_, ?_⟩
  · exact (((Below.refl _ _).alloc (Nat.le_refl _) _).alloc (by simp) _).grown hb2 (by simp; omega) (fun k hk => by injection hk with hk; omega)
  · refine ⟨rfl, fun h => ?_⟩
    obtain ⟨b, o, e, _, hc⟩ := (row_of_blk hg2.out).2 h
    injection e with e
    injection e with e1 e2
    subst e1 e2
    exact ⟨_, _, rfl, by omega, hc⟩
  · have h1 := Blk.new (w.alloc (.cells (zeros n).toArray 5)) 72 #[.slice (some ⟨w.heap.size, 0, none⟩) n n, .int .i64 0, .int .i64 0]
    rw [World.size_alloc] at h1
    rw [hl]
    exact (hb2.block _ (by simp) (by intro e; injection e with e; omega)).trans h1

theorem zeros_set (r j : Nat) (n : Int) (h : 0 < r) : ((zeros r ++ (enc n j).map (Value.int .u8)).toArray).setIfInBounds (r - 1) (.int .u8 (byteAt n j)) = (zeros (r - 1) ++ (enc n (j + 1)).map (Value.int .u8)).toArray := by
  obtain ⟨q, rfl⟩ : ∃ q, r = q + 1 := ⟨r - 1, by omega⟩
  have e3 : zeros (q + 1) = zeros q ++ [.int .u8 0] := by simp [zeros, List.replicate_succ']
  have e2 : q + 1 - 1 = (zeros q).length := by simp [zeros]
  rw [e3, e2]
  have e4 : zeros (zeros q).length = zeros q := by simp [zeros]
  rw [e4]
  simp [enc, List.append_assoc]

set_option maxHeartbeats 400000 in
theorem refBytes_any (n wd : Int) (w : World) : Calls Try.prog 38 #[.int .i64 n, .int .i64 wd] w fun x w' =>
    x = .returned (.slice (some ⟨w.heap.size, 0, none⟩) (hold wd).toNat (hold wd).toNat) ∧ Below w.heap.size w w' ∧ Blk w' w.heap.size 5 ((enc n (hold wd).toNat).map (Value.int .u8)).toArray := by
  have hh1 := hold_lo wd
  have hh4 := hold_hi wd
  obtain ⟨m, hm⟩ := Int.eq_ofNat_of_zero_le (a := hold wd) (by omega)
  have hm1 : 1 ≤ m := by omega
  have hm4 : m ≤ 4 := by omega
  have HM := Lib.hid hm
  rw [hm, Int.toNat_natCast]
  clear hm hh1 hh4
  have hmk := run_make5 m m (Nat.le_refl _) (by omega)
  go_enter Try.func38, Try.ntmps38
  go_wp2_with fail
  refine (wide_any _ _).mono ?_
  rintro e1 w1 ⟨rfl, rfl⟩
  rw [HM.out]
  go_wp2_with fail
  have H0 := Lib.hid (Blk.new w 5 (zeros m).toArray)
  have u0 : 0 ≤ IntKind.u64.wrap n ∧ IntKind.u64.wrap n ≤ 18446744073709551615 ∧ IntKind.u64.wrap n = n % 18446744073709551616 / 256 ^ 0 := by
    rw [IntKind.wrap_u64]; simp; omega
  have U0 := Lib.hid u0
  clear u0
  generalize IntKind.u64.wrap n = U at *
  go_loopw [6, 7] (fun u i wr => ∃ (r : Nat) (x : Int), r ≤ m ∧ i = .int .i64 ((r : Int) - 1) ∧ u = .int .u64 x ∧ Hid (0 ≤ x ∧ x ≤ 18446744073709551615 ∧ x = n % 18446744073709551616 / 256 ^ (m - r)) ∧ Hid (Below w.heap.size w wr) ∧
      Hid (Blk wr w.heap.size 5 (zeros r ++ (enc n (m - r)).map (Value.int .u8)).toArray)) (fun _ i _ => (intOf i + 1).toNat)
  case atStart => exact ⟨m, U, Nat.le_refl _, rfl, rfl, Lib.hid (by rw [Nat.sub_self]; exact U0.out), Lib.hid ((Below.refl _ _).alloc (Nat.le_refl _) _), Lib.hid (by rw [Nat.sub_self]; simpa [enc] using H0.out)⟩
  case round =>
    obtain ⟨r, x, hr, rfl, rfl, hx, hbel, hblk⟩ := hrel
    have hx0 := hx.out.1
    have hx1 := hx.out.2.1
    by_cases hlt : 0 < r
    · have hc : wr.cell? ⟨w.heap.size, r - 1, none⟩ = some (.int .u8 0) := by
        rw [hblk.out.cell]
        rw [List.getElem?_toArray, List.getElem?_append_left (by simp [zeros]; omega)]
        rw [zeros, List.getElem?_replicate, if_pos (by omega)]
      have hf := hblk.out.frozen (r - 1)
      go_wp2
      go_roundw
      case rel =>
        have ej : m - (r - 1) = (m - r) + 1 := by omega
        refine ⟨r - 1, x / 256, by omega, by rw [show ((r - 1 : Nat) : Int) = (r : Int) - 1 from by omega], rfl, Lib.hid ⟨by omega, by omega, ?_⟩, Lib.hid (hbel.out.setCell (Nat.le_refl _) _), Lib.hid ?_⟩
        · rw [ej, hx.out.2.2, Int.pow_succ, Int.ediv_ediv_of_nonneg (by exact Int.pow_nonneg (by decide))]
        · have hp := hblk.out.put (r - 1) (.int .u8 (x % 256))
          have ex : x % 256 = byteAt n (m - r) := by rw [hx.out.2.2]; exact u64_byte n (m - r) (by omega)
          rw [ex] at hp ⊢
          rw [zeros_set r (m - r) n hlt] at hp
          rw [ej]
          exact hp
      case measure => simp [intOf]; omega
    · obtain rfl : r = 0 := by omega
      go_wp2
      go_ret
      refine ⟨rfl, hbel.out, ?_⟩
      simpa [zeros] using hblk.out
end Go.Proofs.Ytidncajbedgplaa
