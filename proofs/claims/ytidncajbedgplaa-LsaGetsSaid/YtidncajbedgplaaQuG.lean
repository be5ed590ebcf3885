/- The call Put: what was there, and behind it each number's lowest bytes, in memory of its own. Conditions: what is handed in reads as bytes and as integers, at most 100000 of each. -/
import Derived.Test.YtidncajbedgplaaQuF
namespace Go.Proofs.Ytidncajbedgplaa
open Go.RowKit

/-- What Put answers, and leaves: a row of bytes of its own. -/
def Put0 (w : World) (l : List Int) (x : Ending) (w' : World) : Prop :=
  ∃ A c, x = .returned (.slice A l.length c) ∧ l.length ≤ c ∧ c ≤ maxLen ∧ Row .u8 w' w'.heap.size A l.length l ∧ Below w.heap.size w w'

theorem own_of_blk {w : World} {base g cap : Nat} {l : List Int} {rest : List Value} (h : Blk w g 5 (l.map (Value.int .u8) ++ rest).toArray) (hb : base ≤ g) (hc : l.length + rest.length = cap) (hm : cap ≤ maxLen) :
    w.ownsRow base 5 1 (.slice (some ⟨g, 0, none⟩) l.length cap) l.length (l.map (Value.int .u8)) := by
  refine ⟨by simp, .inr ⟨g, cap, _, rfl, hb, h, by omega, hm, by simp; omega, ?_⟩⟩
  simp

theorem put0_of_own {w w' : World} {base : Nat} {v : Value} {L : List Int} (h : w'.ownsRow base 5 1 v L.length (L.map (Value.int .u8))) (hb : Below w.heap.size w w') : Put0 w L (.returned v) w' := by
  rcases h.2 with ⟨rfl, h0⟩ | ⟨g, cap, cur, rfl, hg, hh, hn, hm, hs, ht⟩
  · have : L = [] := List.eq_nil_of_length_eq_zero h0
    subst this
    exact ⟨_, _, rfl, Nat.le_refl _, by unfold maxLen; omega, Row.nil, hb⟩
  · refine ⟨_, _, rfl, hn, hm, ⟨rfl, fun _ => ⟨g, 0, rfl, (Blk.lt hh), fun j hj => ?_⟩⟩, hb⟩
    have hc := h.cells (g := g) rfl j (.int .u8 (L.getD j 0)) (by rw [List.getElem?_map, List.getD_eq_getElem?_getD, List.getElem?_eq_getElem hj]; rfl)
    have e : (⟨g, 0, none⟩ : Addr).add j = ⟨g, 0 + j, none⟩ := by
      unfold Addr.add
      split <;> simp_all
    rw [e] at hc
    exact hc

/-- What Put answers, and leaves: a row of bytes of the call's own. -/
def Put1 (w : World) (l : List Int) (x : Ending) (w' : World) : Prop :=
  ∃ v, x = .returned v ∧ w'.ownsRow w.heap.size 5 1 v l.length (l.map (Value.int .u8)) ∧ Below w.heap.size w w'

set_option maxHeartbeats 1000000 in
theorem put_own (A A2 : Option Addr) (n c k c2 B B2 : Nat) (wd : Int) (l zs : List Int) (w : World) (hr : Row .u8 w B A n l) (hr2 : Row .i64 w B2 A2 k zs) (hB : B ≤ w.heap.size) (hB2 : B2 ≤ w.heap.size) (hn : n ≤ 100000) (hk : k ≤ 100000) :
    Calls Try.prog 44 #[.slice A n c, .int .i64 wd, .slice A2 k c2] w (Put1 w (l ++ encs (hold wd).toNat zs)) := by
  have hh1 := hold_lo wd
  have hh4 := hold_hi wd
  obtain ⟨m, hm⟩ := Int.eq_ofNat_of_zero_le (a := hold wd) (by omega)
  have hm1 : 1 ≤ m := by omega
  have hm4 : m ≤ 4 := by omega
  have HM := Lib.hid hm
  rw [hm, Int.toNat_natCast]
  clear hm hh1 hh4
  have HR := Lib.hid hr
  have HR2 := Lib.hid hr2
  clear hr hr2
  have hmulN : m * k ≤ 4 * 100000 := Nat.mul_le_mul hm4 hk
  have hmul : (m : Int) * k ≤ 400000 := by have : ((m * k : Nat) : Int) ≤ 400000 := by omega
                                           rwa [Int.natCast_mul] at this
  have hmul0 : 0 ≤ (m : Int) * k := by have : (0 : Int) ≤ ((m * k : Nat) : Int) := by omega
                                       rwa [Int.natCast_mul] at this
  have hmk := run_make5 n (n + m * k) (by omega) (by omega)
  rw [Int.natCast_add, Int.natCast_mul] at hmk
  generalize hQ : Put1 w (l ++ encs m zs) = Q
  have HQ := Lib.hid hQ
  clear hQ
  go_enter Try.func44, Try.ntmps44
  go_wp2_with fail
  refine (held_any _ _).mono ?_
  rintro e1 w1 ⟨rfl, rfl⟩
  rw [HM.out]
  go_wp2_with (refine wpList_copy_row rfl (.tmp 23) (.tmp 24) rfl w.heap.size n (n + m * k) c A (by rfl) (by rfl) B l (by exact HR.out.alloc hB _) (zeros (n + m * k)) (by simp [zeros]) (by exact Blk.new w 5 (zeros (n + m * k)).toArray) ?_; intro w2 hg2 hb2)
  obtain ⟨i0, hi, hz0, hz1, hz2⟩ := info_parts Try.info5
  have HI := Lib.hid hi
  have HZ0 := Lib.hid hz0
  have HZ1 := Lib.hid hz1
  have HZ2 := Lib.hid hz2
  have hl := HR.out.1
  have hl2 := HR2.out.1
  have hb3 : Below w.heap.size w w2 := below_new hb2 (Nat.le_refl _)
  have HB3 := Lib.hid hb3
  have own0 := own_of_blk (base := w.heap.size) (cap := n + m * k) hg2.out (Nat.le_refl _) (by simp [zeros]; omega) (by unfold maxLen; omega)
  rw [hl] at own0
  have OWN0 := Lib.hid own0
  have HL := Lib.hid hl
  have HL2 := Lib.hid hl2
  clear hi hz0 hz1 hz2 hb3 hb2 hg2 own0 hl hl2 hmk
  go_loopw [7, 28] (fun v i wr => ∃ q : Nat, q ≤ k ∧ i = .int .i64 q ∧ Hid (wr.ownsRow w.heap.size 5 1 v (n + q * m) ((l ++ encs m (zs.take q)).map (Value.int .u8))) ∧ Hid (Below w.heap.size w wr)) (fun _ i _ => k - (intOf i).toNat)
  case atStart => exact ⟨0, Nat.zero_le _, rfl, Lib.hid (by simpa [encs] using OWN0.out), HB3⟩
  case round =>
    obtain ⟨q, hq, rfl, hown, hbel⟩ := hrel
    by_cases hlt : q < k
    · obtain ⟨b, o, rfl, hb, hc⟩ := HR2.out.2 (by omega)
      have hcx : wr.cell? ⟨b, o + q, none⟩ = some (.int .i64 (zs.getD q 0)) := (hbel.out.cell (p := ⟨b, o + q, none⟩) (Nat.lt_of_lt_of_le hb hB2)).trans (hc q hlt)
      clear hc
      go_wp2_with fail
      generalize hx : zs[q]?.getD 0 = x at *
      have HX := Lib.hid hx
      clear hx hcx
      go_loopw [7, 10] (fun v s wv => ∃ r : Nat, r ≤ m ∧ s = .int .i64 (8 * ((r : Int) - 1)) ∧ Hid (wv.ownsRow w.heap.size 5 1 v (n + q * m + (m - r)) ((l ++ encs m (zs.take q) ++ (enc x m).take (m - r)).map (Value.int .u8))) ∧ Hid (Below w.heap.size w wv)) (fun _ s _ => (intOf s + 8).toNat)
      case atStart => exact ⟨m, Nat.le_refl _, rfl, Lib.hid (by simpa using hown.out), hbel⟩
      case round =>
        obtain ⟨r, hr, rfl, hown2, hbel2⟩ := hrel
        by_cases hr0 : 0 < r
        · have hs0 : 0 ≤ 8 * ((r : Int) - 1) := by omega
          have hs1 : 8 * ((r : Int) - 1) ≤ 24 := by omega
          have hby : IntKind.u64.wrap x / 2 ^ (8 * (r - 1)) % 256 = byteAt x (r - 1) := u64_byte2 x _ (by rw [IntKind.wrap_u64]) r hr0 (by omega)
          have HY := Lib.hid hby
          clear hby
          have hqm : q * m ≤ 100000 * 4 := Nat.mul_le_mul (by omega) hm4
          go_wp2_with (at_builtin; refine wpList_append_own _ rfl _ _ 28 rfl w.heap.size 5 i0 (.int .u8 0) 1 1 Try.underlying28 HI.out HZ0.out HZ1.out HZ2.out rfl (by decide) _ _ _ rfl (hown2.out.alloc _) ⟨wr.heap.size, 0, none⟩ 1 1 [.int .u8 (IntKind.u64.wrap x / 2 ^ (8 * (r - 1)) % 256)] rfl rfl ?c1 ?c2 ?c3 ?c4 ?c5 ?_)
          case c1 =>
            intro j u hj
            match j, hj with
            | 0, hj => simp at hj; subst hj; simp [Addr.add]
          case c2 => intro u hu; simp at hu; subst hu; rfl
          case c3 => unfold maxLen; omega
          case c4 => omega
          case c5 => have := hbel2.out.size; simp; omega
          intro v' w' ho hg _
          have HO := Lib.hid ho
          have hb' : Below w.heap.size w w' := (hbel2.out.alloc hbel2.out.size _).grown hg (by have := hbel2.out.size; simp; omega) (fun k hk => (hown2.out.lt k hk).1)
          have HB' := Lib.hid hb'
          clear ho hg hb'
          go_wp2
          go_roundw
          case rel =>
            refine ⟨r - 1, by omega, by rw [show ((r - 1 : Nat) : Int) = (r : Int) - 1 from by omega]; congr 1; omega, Lib.hid ?_, HB'⟩
            have h1 := HO.out
            rw [HY.out] at h1
            rw [enc_take x m r hr0 hr, show n + q * m + (m - (r - 1)) = n + q * m + (m - r) + 1 from by omega]
            simpa using h1
          case measure => simp [intOf]; omega
        · obtain rfl : r = 0 := by omega
          go_wp2
          go_roundw
          case rel =>
            refine ⟨q + 1, by omega, by go_num, Lib.hid ?_, hbel2⟩
            have h1 := hown2.out
            have et : (enc x m).take m = enc x m := List.take_of_length_le (by rw [enc_length]; exact Nat.le_refl _)
            rw [Nat.sub_zero, et] at h1
            have hq2 := encs_snoc m zs q (by rw [HL2.out]; exact hlt)
            rw [List.getD_eq_getElem?_getD, HX.out] at hq2
            rw [hq2, Nat.succ_mul, ← Nat.add_assoc, ← List.append_assoc]
            exact h1
          case measure => simp [intOf]; omega
    · go_wp2
      obtain rfl : q = k := by omega
      rw [← HQ.out]
      refine ⟨_, rfl, ?_, hbel.out⟩
      have h1 := hown.out
      rw [List.take_of_length_le (by rw [HL2.out]; exact Nat.le_refl _)] at h1
      have e : (l ++ encs m zs).length = n + q * m := by rw [List.length_append, encs_length, HL.out, HL2.out]
      rw [e]
      exact h1
theorem put_any (A A2 : Option Addr) (n c k c2 B B2 : Nat) (wd : Int) (l zs : List Int) (w : World) (hr : Row .u8 w B A n l) (hr2 : Row .i64 w B2 A2 k zs) (hB : B ≤ w.heap.size) (hB2 : B2 ≤ w.heap.size) (hn : n ≤ 100000) (hk : k ≤ 100000) :
    Calls Try.prog 44 #[.slice A n c, .int .i64 wd, .slice A2 k c2] w (Put0 w (l ++ encs (hold wd).toNat zs)) := by
  refine (put_own A A2 n c k c2 B B2 wd l zs w hr hr2 hB hB2 hn hk).mono ?_
  rintro x w' ⟨v, rfl, ho, hb⟩
  exact put0_of_own ho hb
end Go.Proofs.Ytidncajbedgplaa
