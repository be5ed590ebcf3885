/- The Reader's calls Num and Bytes over a reader whose bytes are known. Conditions: the reader's three fields as they stand, and its bytes in another block. · The Reader's call Bytes. Conditions: the reader's three fields as they stand, and its bytes in another block. · The calls Read and the reference's Bytes (a number's lowest bytes). Conditions: what is handed in reads as bytes, at most 2^40 of them. · The call Put: what was there, and behind it each number's lowest bytes, in memory of its own. Conditions: what is handed in reads as bytes and as integers, at most 100000 of each. · The call PutHead of package lsa and the reference's HeadBytes: the twenty bytes of a head. No conditions. · Bytes put together by append, piece by piece, and the reference's HeadBytes. No conditions. -/
import Derived.Deep.DeepCutAuto
import Derived.Test.YtnnkcgbnhjkahaaJab
namespace Go.Proofs.Ytnnkcgbnhjkahaa
open Go.RowKit

theorem ofInt_nat (a : Nat) (ha : a < 9223372036854775808) : (BitVec.ofInt 64 (a : Int)).toNat = a := by
  rw [BitVec.ofInt_natCast, BitVec.toNat_ofNat]; exact Nat.mod_eq_of_lt (by omega)
theorem or_low (x y : Int) (hx : 0 ≤ x) (hx' : x ≤ 16777215) (hy : 0 ≤ y) (hy' : y ≤ 255) : bits .or .i64 (x * 256) y = 256 * x + y := by
  obtain ⟨a, rfl⟩ := Int.eq_ofNat_of_zero_le hx
  obtain ⟨b, rfl⟩ := Int.eq_ofNat_of_zero_le hy
  have e1 : ((a : Int) * 256) = ((a * 256 : Nat) : Int) := by omega
  rw [e1]
  show IntKind.i64.wrap ((BitVec.ofInt 64 ((a * 256 : Nat) : Int) ||| BitVec.ofInt 64 (b : Int)).toNat : Int) = _
  rw [BitVec.toNat_or, ofInt_nat _ (by omega), ofInt_nat _ (by omega), IntKind.wrap_i64]
  have e2 := Nat.shiftLeft_add_eq_or_of_lt (i := 8) (b := b) (by omega) a
  rw [Nat.shiftLeft_eq] at e2
  have e3 : a * 256 ||| b = a * 256 + b := by rw [← e2]
  rw [e3]
  omega

set_option maxRecDepth 4000 in
set_option maxHeartbeats 400000 in
theorem num_ok (g : Nat) (A : Option Addr) (n c B : Nat) (a k : Int) (l : List Int) (w : World) (hb : Blk w g 144 #[.slice A n c, .int .i64 a, .int .i64 0]) (h0 : 0 ≤ a) (h1 : a ≤ n) (h2 : n ≤ c) (h3 : c ≤ maxLen) (hk : hold k ≤ n - a)
    (hr : Row .u8 w B A n l) (hby : Byt l) (hg : B ≤ g) :
    Calls Try.prog 94 #[.pointer (some ⟨g, 0, none⟩), .int .i64 k] w fun e' w' => e' = .returned (.int .i64 (num ((l.drop a.toNat).take (hold k).toNat))) ∧ ∃ d, w' = (w.setCell ⟨g, 1, none⟩ (.int .i64 (a + hold k))).drewN d := by
  have HB := Lib.hid hb
  have HR := Lib.hid hr
  have HY := Lib.hid ((hby.drop a.toNat).take (hold k).toNat)
  clear hb hr hby
  have hk1 := hold_lo k
  have hk4 := hold_hi k
  go_enter Try.func94, Try.ntmps94
  go_wp2_with fail
  refine (held_any _ _).mono ?_
  rintro e1 w1 ⟨rfl, rfl⟩
  go_wp2_with fail
  refine (take_ok g A n c a _ _ HB.out h0 h1 h2 h3 (by omega) hk).mono ?_
  rintro e1 w1 ⟨A', c', d, rfl, hc1, hc2, hcut, rfl⟩
  have hrow := hcut _ _ _ _ ((HR.out.far (p := ⟨g, 1, none⟩) (fun b o e => by
    intro q
    obtain ⟨b', o', e', hlt, _⟩ := HR.out.2 (by omega)
    rw [e'] at e
    injection e with e
    injection e with e
    subst e
    simp at q
    omega) (.int .i64 (a + hold k))).drewN d)
  generalize hl : (l.drop a.toNat).take (hold k).toNat = l' at *
  generalize hm : (hold k).toNat = m at *
  have hm4 : m ≤ 4 := by omega
  clear hcut
  have HR' := Lib.hid hrow
  have HL := Lib.hid hl
  have HM := Lib.hid hm
  clear hrow hl hm
  go_wp2_with fail
  go_loop [5, 13] (fun v i => ∃ j : Nat, j ≤ m ∧ i = .int .i64 j ∧ v = .int .i64 (num (l'.take j))) (fun _ i => m - (intOf i).toNat)
  case atStart => exact ⟨0, Nat.zero_le _, rfl, rfl⟩
  case round =>
    obtain ⟨j, hj, rfl, rfl⟩ := hrel
    have hlen := HR'.out.1
    by_cases hlt : j < m
    · have HS := Lib.hid (num_take l' j (by omega))
      have hb1 := num_bd3 l' HY.out j (by omega) (by omega)
      have hb2 := HY.out.getD j
      rw [List.getD_eq_getElem?_getD] at hb2
      obtain ⟨b, o, rfl, hb, hc⟩ := HR'.out.2 (by omega)
      have hc' := hc j hlt
      clear hc hlen
      go_wp2
      go_round
      case rel => exact ⟨j + 1, by omega, by go_num, by rw [HS.out, List.getD_eq_getElem?_getD, or_low _ _ hb1.1 hb1.2 hb2.1 hb2.2]⟩
      case measure => simp [intOf]; omega
    · clear hlen
      go_wp2
      go_ret
      exact ⟨ret_int (by rw [List.take_of_length_le (by have := HR'.out.1; omega), HM.out, HL.out]), d, rfl⟩

end Go.Proofs.Ytnnkcgbnhjkahaa
namespace Go.Proofs.Ytnnkcgbnhjkahaa
open Go.RowKit

def pos (n : Int) : Int := if n < 0 then 0 else n

/-- Behind a call of the reader in block g: that block holds the three fields as given; no other block that was there has turned. -/
def Step (w : World) (g : Nat) (A : Option Addr) (n c : Nat) (a e : Int) (w' : World) : Prop := w.grownBy w' (some g) ∧ Blk w' g 144 #[.slice A n c, .int .i64 a, .int .i64 e]

section
variable {w w' w2 : World} {g n c : Nat} {A : Option Addr} {a e : Int}
theorem step_at (h : Blk w g 144 #[.slice A n c, .int .i64 a, .int .i64 e]) (a' : Int) (d : Nat) : Step w g A n c a' e ((w.setCell ⟨g, 1, none⟩ (.int .i64 a')).drewN d) :=
  ⟨⟨rfl, rfl, rfl, by simp [World.setCell, World.drewN], fun k _ hk => Below.heap_setCell w _ _ k (fun e => hk (by rw [e]))⟩, h.put 1 _⟩
theorem Step.lt (h : Step w g A n c a e w') (hg : g < w.heap.size) : g < w'.heap.size := Nat.lt_of_lt_of_le hg h.1.size
theorem Step.more (h : Step w g A n c a e w') (hb : Below w'.heap.size w' w2) : Step w g A n c a e w2 :=
  ⟨⟨hb.os.trans h.1.os, hb.tape.trans h.1.tape, hb.output.trans h.1.output, Nat.le_trans h.1.size hb.size, fun k hk hne => (hb.block k (Nat.lt_of_lt_of_le hk h.1.size)).trans (h.1.block k hk hne)⟩, h.2.below hb h.2.lt⟩
theorem Row.step {k : IntKind} {B m : Nat} {l : List Int} {A' : Option Addr} (hr : Row k w B A' m l) (h : Step w g A n c a e w') (hB : B ≤ w.heap.size) (hg : B ≤ g) : Row k w' B A' m l :=
  hr.keep fun p hp => World.cell?_of_block (h.1.block p.block (by omega) (fun q => by injection q with q; omega))
end

end Go.Proofs.Ytnnkcgbnhjkahaa
namespace Go.Proofs.Ytnnkcgbnhjkahaa
open Go.RowKit

/-- What Read answers, and leaves: a reader of its own, at its beginning, over bytes of its own. -/
def Reader0 (w : World) (l : List Int) (x : Ending) (w' : World) : Prop :=
  x = .returned (.pointer (some ⟨w.heap.size + 1, 0, none⟩)) ∧ Below w.heap.size w w' ∧ Row .u8 w' (w.heap.size + 1) (some ⟨w.heap.size, 0, none⟩) l.length l ∧
  Blk w' (w.heap.size + 1) 144 #[.slice (some ⟨w.heap.size, 0, none⟩) l.length l.length, .int .i64 0, .int .i64 0]

set_option maxRecDepth 4000 in
set_option maxHeartbeats 400000 in
theorem read_any (A : Option Addr) (n c B : Nat) (l : List Int) (w : World) (hr : Row .u8 w B A n l) (hB : B ≤ w.heap.size) (hn : n ≤ 1099511627776) :
    Calls Try.prog 93 #[.slice A n c] w (Reader0 w l) := by
  have hmk := run_make5 n n (Nat.le_refl _) (by omega)
  have HR := Lib.hid hr
  clear hr
  generalize hQ : Reader0 w l = Q
  have HQ := Lib.hid hQ
  clear hQ
  go_enter Try.func93, Try.ntmps93
  go_wp2_with (refine wpList_copy_row rfl (.tmp 12) (.tmp 13) rfl w.heap.size n n c A (by rfl) (by rfl) B l (by exact (HR.out.alloc hB _).alloc (by simp; omega) _) (zeros n) (by simp [zeros]) (by exact (Blk.new w 5 (zeros n).toArray).alloc _) ?_; intro w2 hg2 hb2)
  rw [← HQ.out]
  have hl := HR.out.1
  refine ⟨rfl, ?_, ?_, ?_⟩
  · exact (((Below.refl _ _).alloc (Nat.le_refl _) _).alloc (by simp) _).grown hb2 (by simp; omega) (fun k hk => by injection hk with hk; omega)
  · refine ⟨rfl, fun h => ?_⟩
    obtain ⟨b, o, e, _, hc⟩ := (row_of_blk hg2.out).2 h
    injection e with e
    injection e with e1 e2
    subst e1 e2
    exact ⟨_, _, rfl, by omega, hc⟩
  · have h1 := Blk.new (w.alloc (.cells (zeros n).toArray 5)) 144 #[.slice (some ⟨w.heap.size, 0, none⟩) n n, .int .i64 0, .int .i64 0]
    rw [World.size_alloc] at h1
    rw [hl]
    exact (hb2.block _ (by simp) (by intro e; injection e with e; omega)).trans h1

theorem zeros_set (r j : Nat) (n : Int) (h : 0 < r) : ((zeros r ++ (enc n j).map (Value.int .u8)).toArray).setIfInBounds (r - 1) (.int .u8 (byteAt n j)) = (zeros (r - 1) ++ (enc n (j + 1)).map (Value.int .u8)).toArray := by
  obtain ⟨q, rfl⟩ : ∃ q, r = q + 1 := ⟨r - 1, by omega⟩
  have e3 : zeros (q + 1) = zeros q ++ [.int .u8 0] := by simp [zeros, List.replicate_succ']
  have e2 : q + 1 - 1 = (zeros q).length := by simp [zeros]
  rw [e3, e2]
  have e4 : zeros (zeros q).length = zeros q := by simp [zeros]
  rw [e4]
  simp [enc, List.append_assoc]

set_option maxRecDepth 4000 in
set_option maxHeartbeats 400000 in
theorem refBytes_any (n wd : Int) (w : World) : Calls Try.prog 75 #[.int .i64 n, .int .i64 wd] w fun x w' =>
    x = .returned (.slice (some ⟨w.heap.size, 0, none⟩) (hold wd).toNat (hold wd).toNat) ∧ Below w.heap.size w w' ∧ Blk w' w.heap.size 5 ((enc n (hold wd).toNat).map (Value.int .u8)).toArray := by
  have hh1 := hold_lo wd
  have hh4 := hold_hi wd
  obtain ⟨m, hm⟩ := Int.eq_ofNat_of_zero_le (a := hold wd) (by omega)
  have hm1 : 1 ≤ m := by omega
  have hm4 : m ≤ 4 := by omega
  have HM := Lib.hid hm
  rw [hm, Int.toNat_natCast]
  clear hm hh1 hh4
  have hmk := run_make5 m m (Nat.le_refl _) (by omega)
  go_enter Try.func75, Try.ntmps75
  go_wp2_with fail
  refine (wide_any _ _).mono ?_
  rintro e1 w1 ⟨rfl, rfl⟩
  rw [HM.out]
  go_wp2_with fail
  have H0 := Lib.hid (Blk.new w 5 (zeros m).toArray)
  have u0 : 0 ≤ IntKind.u64.wrap n ∧ IntKind.u64.wrap n ≤ 18446744073709551615 ∧ IntKind.u64.wrap n = n % 18446744073709551616 / 256 ^ 0 := by
    rw [IntKind.wrap_u64]; simp; omega
  have U0 := Lib.hid u0
  clear u0
  generalize IntKind.u64.wrap n = U at *
  go_loopw [6, 7] (fun u i wr => ∃ (r : Nat) (x : Int), r ≤ m ∧ i = .int .i64 ((r : Int) - 1) ∧ u = .int .u64 x ∧ Hid (0 ≤ x ∧ x ≤ 18446744073709551615 ∧ x = n % 18446744073709551616 / 256 ^ (m - r)) ∧ Hid (Below w.heap.size w wr) ∧
      Hid (Blk wr w.heap.size 5 (zeros r ++ (enc n (m - r)).map (Value.int .u8)).toArray)) (fun _ i _ => (intOf i + 1).toNat)
  case atStart => exact ⟨m, U, Nat.le_refl _, rfl, rfl, Lib.hid (by rw [Nat.sub_self]; exact U0.out), Lib.hid ((Below.refl _ _).alloc (Nat.le_refl _) _), Lib.hid (by rw [Nat.sub_self]; simpa [enc] using H0.out)⟩
  case round =>
    obtain ⟨r, x, hr, rfl, rfl, hx, hbel, hblk⟩ := hrel
    have hx0 := hx.out.1
    have hx1 := hx.out.2.1
    by_cases hlt : 0 < r
    · have hc : wr.cell? ⟨w.heap.size, r - 1, none⟩ = some (.int .u8 0) := by
        rw [hblk.out.cell]
        rw [List.getElem?_toArray, List.getElem?_append_left (by simp [zeros]; omega)]
        rw [zeros, List.getElem?_replicate, if_pos (by omega)]
      have hf := hblk.out.frozen (r - 1)
      go_wp2
      go_roundw
      case rel =>
        have ej : m - (r - 1) = (m - r) + 1 := by omega
        refine ⟨r - 1, x / 256, by omega, by rw [show ((r - 1 : Nat) : Int) = (r : Int) - 1 from by omega], rfl, Lib.hid ⟨by omega, by omega, ?_⟩, Lib.hid (hbel.out.setCell (Nat.le_refl _) _), Lib.hid ?_⟩
        · rw [ej, hx.out.2.2, Int.pow_succ, Int.ediv_ediv_of_nonneg (by exact Int.pow_nonneg (by decide))]
        · have hp := hblk.out.put (r - 1) (.int .u8 (x % 256))
          have ex : x % 256 = byteAt n (m - r) := by rw [hx.out.2.2]; exact u64_byte n (m - r) (by omega)
          rw [ex] at hp ⊢
          rw [zeros_set r (m - r) n hlt] at hp
          rw [ej]
          exact hp
      case measure => simp [intOf]; omega
    · obtain rfl : r = 0 := by omega
      go_wp2
      go_ret
      refine ⟨rfl, hbel.out, ?_⟩
      simpa [zeros] using hblk.out
end Go.Proofs.Ytnnkcgbnhjkahaa
namespace Go.Proofs.Ytnnkcgbnhjkahaa
open Go.RowKit

/-- What Put answers, and leaves: a row of bytes of its own. -/
def Put0 (w : World) (l : List Int) (x : Ending) (w' : World) : Prop :=
  ∃ A c, x = .returned (.slice A l.length c) ∧ l.length ≤ c ∧ c ≤ maxLen ∧ Row .u8 w' w'.heap.size A l.length l ∧ Below w.heap.size w w'

theorem own_of_blk {w : World} {base g cap : Nat} {l : List Int} {rest : List Value} (h : Blk w g 5 (l.map (Value.int .u8) ++ rest).toArray) (hb : base ≤ g) (hc : l.length + rest.length = cap) (hm : cap ≤ maxLen) :
    w.ownsRow base 5 1 (.slice (some ⟨g, 0, none⟩) l.length cap) l.length (l.map (Value.int .u8)) := by
  refine ⟨by simp, .inr ⟨g, cap, _, rfl, hb, h, by omega, hm, by simp; omega, ?_⟩⟩
  simp

theorem put0_of_own {w w' : World} {base : Nat} {v : Value} {L : List Int} (h : w'.ownsRow base 5 1 v L.length (L.map (Value.int .u8))) (hb : Below w.heap.size w w') : Put0 w L (.returned v) w' := by
  rcases h.2 with ⟨rfl, h0⟩ | ⟨g, cap, cur, rfl, hg, hh, hn, hm, hs, ht⟩
  · have : L = [] := List.eq_nil_of_length_eq_zero h0
    subst this
    exact ⟨_, _, rfl, Nat.le_refl _, by unfold maxLen; omega, Row.nil, hb⟩
  · refine ⟨_, _, rfl, hn, hm, ⟨rfl, fun _ => ⟨g, 0, rfl, (Blk.lt hh), fun j hj => ?_⟩⟩, hb⟩
    have hc := h.cells (g := g) rfl j (.int .u8 (L.getD j 0)) (by rw [List.getElem?_map, List.getD_eq_getElem?_getD, List.getElem?_eq_getElem hj]; rfl)
    have e : (⟨g, 0, none⟩ : Addr).add j = ⟨g, 0 + j, none⟩ := by
      unfold Addr.add
      split <;> simp_all
    rw [e] at hc
    exact hc

/-- What Put answers, and leaves: a row of bytes of the call's own. -/
def Put1 (w : World) (l : List Int) (x : Ending) (w' : World) : Prop :=
  ∃ v, x = .returned v ∧ w'.ownsRow w.heap.size 5 1 v l.length (l.map (Value.int .u8)) ∧ Below w.heap.size w w'

set_option maxRecDepth 4000 in
set_option maxHeartbeats 1000000 in
theorem put_own (A A2 : Option Addr) (n c k c2 B B2 : Nat) (wd : Int) (l zs : List Int) (w : World) (hr : Row .u8 w B A n l) (hr2 : Row .i64 w B2 A2 k zs) (hB : B ≤ w.heap.size) (hB2 : B2 ≤ w.heap.size) (hn : n ≤ 100000) (hk : k ≤ 100000) :
    Calls Try.prog 109 #[.slice A n c, .int .i64 wd, .slice A2 k c2] w (Put1 w (l ++ encs (hold wd).toNat zs)) := by
  have hh1 := hold_lo wd
  have hh4 := hold_hi wd
  obtain ⟨m, hm⟩ := Int.eq_ofNat_of_zero_le (a := hold wd) (by omega)
  have hm1 : 1 ≤ m := by omega
  have hm4 : m ≤ 4 := by omega
  have HM := Lib.hid hm
  rw [hm, Int.toNat_natCast]
  clear hm hh1 hh4
  have HR := Lib.hid hr
  have HR2 := Lib.hid hr2
  clear hr hr2
  have hmulN : m * k ≤ 4 * 100000 := Nat.mul_le_mul hm4 hk
  have hmul : (m : Int) * k ≤ 400000 := by have : ((m * k : Nat) : Int) ≤ 400000 := by omega
                                           rwa [Int.natCast_mul] at this
  have hmul0 : 0 ≤ (m : Int) * k := by have : (0 : Int) ≤ ((m * k : Nat) : Int) := by omega
                                       rwa [Int.natCast_mul] at this
  have hmk := run_make5 n (n + m * k) (by omega) (by omega)
  rw [Int.natCast_add, Int.natCast_mul] at hmk
  generalize hQ : Put1 w (l ++ encs m zs) = Q
  have HQ := Lib.hid hQ
  clear hQ
  go_enter Try.func109, Try.ntmps109
  go_wp2_with fail
  refine (held_any _ _).mono ?_
  rintro e1 w1 ⟨rfl, rfl⟩
  rw [HM.out]
  go_wp2_with (refine wpList_copy_row rfl (.tmp 23) (.tmp 24) rfl w.heap.size n (n + m * k) c A (by rfl) (by rfl) B l (by exact HR.out.alloc hB _) (zeros (n + m * k)) (by simp [zeros]) (by exact Blk.new w 5 (zeros (n + m * k)).toArray) ?_; intro w2 hg2 hb2)
  obtain ⟨i0, hi, hz0, hz1, hz2⟩ := info_parts Try.info5
  have HI := Lib.hid hi
  have HZ0 := Lib.hid hz0
  have HZ1 := Lib.hid hz1
  have HZ2 := Lib.hid hz2
  have hl := HR.out.1
  have hl2 := HR2.out.1
  have hb3 : Below w.heap.size w w2 := below_new hb2 (Nat.le_refl _)
  have HB3 := Lib.hid hb3
  have own0 := own_of_blk (base := w.heap.size) (cap := n + m * k) hg2.out (Nat.le_refl _) (by simp [zeros]; omega) (by unfold maxLen; omega)
  rw [hl] at own0
  have OWN0 := Lib.hid own0
  have HL := Lib.hid hl
  have HL2 := Lib.hid hl2
  clear hi hz0 hz1 hz2 hb3 hb2 hg2 own0 hl hl2 hmk
  go_loopw [7, 28] (fun v i wr => ∃ q : Nat, q ≤ k ∧ i = .int .i64 q ∧ Hid (wr.ownsRow w.heap.size 5 1 v (n + q * m) ((l ++ encs m (zs.take q)).map (Value.int .u8))) ∧ Hid (Below w.heap.size w wr)) (fun _ i _ => k - (intOf i).toNat)
  case atStart => exact ⟨0, Nat.zero_le _, rfl, Lib.hid (by simpa [encs] using OWN0.out), HB3⟩
  case round =>
    obtain ⟨q, hq, rfl, hown, hbel⟩ := hrel
    by_cases hlt : q < k
    · obtain ⟨b, o, rfl, hb, hc⟩ := HR2.out.2 (by omega)
      have hcx : wr.cell? ⟨b, o + q, none⟩ = some (.int .i64 (zs.getD q 0)) := (hbel.out.cell (p := ⟨b, o + q, none⟩) (Nat.lt_of_lt_of_le hb hB2)).trans (hc q hlt)
      clear hc
      go_wp2_with fail
      generalize hx : zs[q]?.getD 0 = x at *
      have HX := Lib.hid hx
      clear hx hcx
      go_loopw [7, 10] (fun v s wv => ∃ r : Nat, r ≤ m ∧ s = .int .i64 (8 * ((r : Int) - 1)) ∧ Hid (wv.ownsRow w.heap.size 5 1 v (n + q * m + (m - r)) ((l ++ encs m (zs.take q) ++ (enc x m).take (m - r)).map (Value.int .u8))) ∧ Hid (Below w.heap.size w wv)) (fun _ s _ => (intOf s + 8).toNat)
      case atStart => exact ⟨m, Nat.le_refl _, rfl, Lib.hid (by simpa using hown.out), hbel⟩
      case round =>
        obtain ⟨r, hr, rfl, hown2, hbel2⟩ := hrel
        by_cases hr0 : 0 < r
        · have hs0 : 0 ≤ 8 * ((r : Int) - 1) := by omega
          have hs1 : 8 * ((r : Int) - 1) ≤ 24 := by omega
          have hby : IntKind.u64.wrap x / 2 ^ (8 * (r - 1)) % 256 = byteAt x (r - 1) := u64_byte2 x _ (by rw [IntKind.wrap_u64]) r hr0 (by omega)
          have HY := Lib.hid hby
          clear hby
          have hqm : q * m ≤ 100000 * 4 := Nat.mul_le_mul (by omega) hm4
          go_wp2_with (at_builtin; refine wpList_append_own _ rfl _ _ 98 rfl w.heap.size 5 i0 (.int .u8 0) 1 1 Try.underlying98 HI.out HZ0.out HZ1.out HZ2.out rfl (by decide) _ _ _ rfl (hown2.out.alloc _) ⟨wr.heap.size, 0, none⟩ 1 1 [.int .u8 (IntKind.u64.wrap x / 2 ^ (8 * (r - 1)) % 256)] rfl rfl ?c1 ?c2 ?c3 ?c4 ?c5 ?_)
          case c1 =>
            intro j u hj
            match j, hj with
            | 0, hj => simp at hj; subst hj; simp [Addr.add]
          case c2 => intro u hu; simp at hu; subst hu; rfl
          case c3 => unfold maxLen; omega
          case c4 => omega
          case c5 => have := hbel2.out.size; simp; omega
          intro v' w' ho hg _
          have HO := Lib.hid ho
          have hb' : Below w.heap.size w w' := (hbel2.out.alloc hbel2.out.size _).grown hg (by have := hbel2.out.size; simp; omega) (fun k hk => (hown2.out.lt k hk).1)
          have HB' := Lib.hid hb'
          clear ho hg hb'
          go_wp2
          go_roundw
          case rel =>
            refine ⟨r - 1, by omega, by rw [show ((r - 1 : Nat) : Int) = (r : Int) - 1 from by omega]; congr 1; omega, Lib.hid ?_, HB'⟩
            have h1 := HO.out
            rw [HY.out] at h1
            rw [enc_take x m r hr0 hr, show n + q * m + (m - (r - 1)) = n + q * m + (m - r) + 1 from by omega]
            simpa using h1
          case measure => simp [intOf]; omega
        · obtain rfl : r = 0 := by omega
          go_wp2
          go_roundw
          case rel =>
            refine ⟨q + 1, by omega, by go_num, Lib.hid ?_, hbel2⟩
            have h1 := hown2.out
            have et : (enc x m).take m = enc x m := List.take_of_length_le (by rw [enc_length]; exact Nat.le_refl _)
            rw [Nat.sub_zero, et] at h1
            have hq2 := encs_snoc m zs q (by rw [HL2.out]; exact hlt)
            rw [List.getD_eq_getElem?_getD, HX.out] at hq2
            rw [hq2, Nat.succ_mul, ← Nat.add_assoc, ← List.append_assoc]
            exact h1
          case measure => simp [intOf]; omega
    · go_wp2
      obtain rfl : q = k := by omega
      rw [← HQ.out]
      refine ⟨_, rfl, ?_, hbel.out⟩
      have h1 := hown.out
      rw [List.take_of_length_le (by rw [HL2.out]; exact Nat.le_refl _)] at h1
      have e : (l ++ encs m zs).length = n + q * m := by rw [List.length_append, encs_length, HL.out, HL2.out]
      rw [e]
      exact h1
theorem put_any (A A2 : Option Addr) (n c k c2 B B2 : Nat) (wd : Int) (l zs : List Int) (w : World) (hr : Row .u8 w B A n l) (hr2 : Row .i64 w B2 A2 k zs) (hB : B ≤ w.heap.size) (hB2 : B2 ≤ w.heap.size) (hn : n ≤ 100000) (hk : k ≤ 100000) :
    Calls Try.prog 109 #[.slice A n c, .int .i64 wd, .slice A2 k c2] w (Put0 w (l ++ encs (hold wd).toNat zs)) := by
  refine (put_own A A2 n c k c2 B B2 wd l zs w hr hr2 hB hB2 hn hk).mono ?_
  rintro x w' ⟨v, rfl, ho, hb⟩
  exact put0_of_own ho hb
end Go.Proofs.Ytnnkcgbnhjkahaa
namespace Go.Proofs.Ytnnkcgbnhjkahaa
open Go.RowKit

/-- The twenty bytes of a head. -/
def headBytes (h : Hd) : List Int := enc h.age 2 ++ (enc 0 1 ++ (enc h.kind 1 ++ (enc h.id 4 ++ (enc h.adv 4 ++ (enc h.seq 4 ++ (enc h.sum 2 ++ enc h.long 2))))))
theorem headBytes_length (h : Hd) : (headBytes h).length = 20 := by simp [headBytes, enc_length]
theorem headBytes_byt (h : Hd) : Byt (headBytes h) := by
  unfold headBytes
  repeat' (first | exact enc_byt _ _ | refine Byt.append ?_ ?_)

theorem row_at (w : World) (zs : List Int) (t : TypeId) (q : IntKind) (z m : Nat) (hz : w.heap.size = z) (hm : zs.length = m) : Row q (w.alloc (.cells (zs.map (Value.int q)).toArray t)) (z + 1) (some ⟨z, 0, none⟩) m zs := by
  subst hz
  refine ⟨hm, fun _ => ⟨_, _, rfl, by omega, fun j hj => ?_⟩⟩
  rw [(Blk.new w t _).cell, Nat.zero_add, List.getElem?_toArray, List.getElem?_map, List.getD_eq_getElem?_getD, List.getElem?_eq_getElem (by omega)]; rfl
/-- A row of n bytes of its own, L, is answered; what was in W is as it was. -/
def PutN (W : World) (L : List Int) (n : Nat) (x : Ending) (w' : World) : Prop :=
  ∃ A c, x = .returned (.slice A n c) ∧ n ≤ c ∧ c ≤ maxLen ∧ Row .u8 w' w'.heap.size A n L ∧ Below W.heap.size W w'
theorem putN_of {W w' : World} {L : List Int} {x : Ending} (n : Nat) (h : Put0 W L x w') (hn : L.length = n) : PutN W L n x w' := by
  subst hn
  exact h
/-- v is a row of n bytes of the call's own, L; what was in w0 is as it was. -/
def Acc (w0 w : World) (v : Value) (n : Nat) (L : List Int) : Prop := w.ownsRow w0.heap.size 5 1 v n (L.map (Value.int .u8)) ∧ Below w0.heap.size w0 w
theorem Acc.nil {w0 w : World} (h : Below w0.heap.size w0 w) : Acc w0 w (.slice none 0 0) 0 [] := ⟨World.ownsRow_nil w _ _ _, h⟩
theorem Acc.below {w0 w w' : World} {v : Value} {n : Nat} {L : List Int} (h : Acc w0 w v n L) (hb : Below w.heap.size w w') : Acc w0 w' v n L :=
  ⟨own_below h.1 hb, h.2.trans (hb.mono h.2.size)⟩
theorem Acc.alloc {w0 w : World} {v : Value} {n : Nat} {L : List Int} (h : Acc w0 w v n L) (o : Obj) : Acc w0 (w.alloc o) v n L :=
  h.below ((Below.refl _ _).alloc (Nat.le_refl _) o)
theorem Acc.putN {w0 w : World} {v : Value} {n : Nat} {L : List Int} (h : Acc w0 w v n L) : PutN w0 L n (.returned v) w := by
  have hl : L.length = n := by have := h.1.1; simpa using this
  subst hl
  exact putN_of _ (put0_of_own h.1 h.2) rfl
theorem Acc.blk {w0 w : World} {v : Value} {n g : Nat} {L : List Int} {t : TypeId} {cs : Array Value} (h : Acc w0 w v n L) (hb : Blk w0 g t cs) : Blk w g t cs := hb.below h.2 hb.lt
theorem own_lower {w : World} {b b' : Nat} {t : TypeId} {v : Value} {n : Nat} {xs : List Value} (h : w.ownsRow b t 1 v n xs) (hb : b' ≤ b) : w.ownsRow b' t 1 v n xs := by
  refine ⟨h.1, ?_⟩
  rcases h.2 with h0 | ⟨g, cap, cur, h1, h2, h3⟩
  · exact .inl h0
  · exact .inr ⟨g, cap, cur, h1, Nat.le_trans hb h2, h3⟩
theorem Acc.lower {w w0 w1 : World} {v : Value} {n : Nat} {L : List Int} (h : Acc w0 w1 v n L) (hb : Below w.heap.size w w0) : Acc w w1 v n L :=
  ⟨own_lower h.1 hb.size, hb.trans (h.2.mono hb.size)⟩
/-- A row of n bytes of the call's own, L, is answered. -/
def PutA (W : World) (L : List Int) (n : Nat) (x : Ending) (w' : World) : Prop := ∃ v, x = .returned v ∧ Acc W w' v n L
/-- Put of numbers that were laid out for it. -/
theorem put_newA (A : Option Addr) (n c m n' k : Nat) (wd : Int) (l zs L : List Int) (W : World) (z : Nat) (hz : W.heap.size = z) (hk : zs.length = k) (hm : (hold wd).toNat = m) (hL : l ++ encs m zs = L) (hr : Row .u8 W W.heap.size A n l) (hn : n ≤ 100000) (hk2 : k ≤ 100000) (hn' : n + k * m = n') :
    Calls Try.prog 109 #[.slice A n c, .int .i64 wd, .slice (some ⟨z, 0, none⟩) k k] (W.alloc (.cells (zs.map (Value.int .i64)).toArray 3)) (PutA W L n') := by
  refine (put_own A (some ⟨z, 0, none⟩) n c k k W.heap.size (z + 1) wd l zs _ (hr.alloc (Nat.le_refl _) _) (row_at W zs 3 .i64 z k hz hk) (by simp) (by simp; omega) hn hk2).mono ?_
  intro x w' h
  rw [hm, hL] at h
  obtain ⟨v, rfl, h1, h2⟩ := h
  have hl : L.length = n' := by rw [← hL, List.length_append, encs_length, hr.1, hk, hn']
  rw [hl] at h1
  exact ⟨v, rfl, Acc.lower ⟨h1, h2⟩ ((Below.refl _ _).alloc (Nat.le_refl _) _)⟩
theorem put_new (A : Option Addr) (n c m n' k : Nat) (wd : Int) (l zs L : List Int) (W : World) (z : Nat) (hz : W.heap.size = z) (hk : zs.length = k) (hm : (hold wd).toNat = m) (hL : l ++ encs m zs = L) (hr : Row .u8 W W.heap.size A n l) (hn : n ≤ 100000) (hk2 : k ≤ 100000) (hn' : n + k * m = n') :
    Calls Try.prog 109 #[.slice A n c, .int .i64 wd, .slice (some ⟨z, 0, none⟩) k k] (W.alloc (.cells (zs.map (Value.int .i64)).toArray 3)) (PutN W L n') := by
  refine (put_newA A n c m n' k wd l zs L W z hz hk hm hL hr hn hk2 hn').mono ?_
  rintro x w' ⟨v, rfl, h⟩
  exact h.putN
theorem Blk.seven {w : World} {g : Nat} {t : TypeId} {a0 a1 a2 a3 a4 a5 a6 : Value} (h : Blk w g t #[a0, a1, a2, a3, a4, a5, a6]) :
    w.cell? ⟨g, 0, none⟩ = some a0 ∧ w.cell? ⟨g, 1, none⟩ = some a1 ∧ w.cell? ⟨g, 2, none⟩ = some a2 ∧ w.cell? ⟨g, 3, none⟩ = some a3 ∧ w.cell? ⟨g, 4, none⟩ = some a4 ∧ w.cell? ⟨g, 5, none⟩ = some a5 ∧ w.cell? ⟨g, 6, none⟩ = some a6 :=
  ⟨h.cell 0, h.cell 1, h.cell 2, h.cell 3, h.cell 4, h.cell 5, h.cell 6⟩

set_option maxRecDepth 4000 in
set_option maxHeartbeats 2000000 in
theorem putHead_any (h : Hd) (w : World) : Calls Try.prog 96 #[.agg #[.int .i64 h.age, .int .i64 h.kind, .int .i64 h.id, .int .i64 h.adv, .int .i64 h.seq, .int .i64 h.sum, .int .i64 h.long]] w (PutA w (headBytes h) 20) := by
  generalize hQ : PutA w (headBytes h) 20 = Q
  have HQ := Lib.hid hQ
  clear hQ
  have K0 := Lib.hid (Blk.new w 38 #[.int .i64 h.age, .int .i64 h.kind, .int .i64 h.id, .int .i64 h.adv, .int .i64 h.seq, .int .i64 h.sum, .int .i64 h.long])
  have B0 := Lib.hid ((Below.refl w.heap.size w).alloc (Nat.le_refl _) (.cells #[.int .i64 h.age, .int .i64 h.kind, .int .i64 h.id, .int .i64 h.adv, .int .i64 h.seq, .int .i64 h.sum, .int .i64 h.long] 38))
  go_enter Try.func96, Try.ntmps96
  go_wp2_with fail
  refine (put_new none 0 0 2 2 1 2 [] [h.age] (enc h.age 2) _ _ (by simp) rfl rfl (by simp [encs]) Row.nil (by omega) (by omega) rfl).mono ?_
  rintro e1 w1 ⟨A1, c1, rfl, hc1, hm1, hr1, hb1⟩
  have R1 := Lib.hid hr1
  have K1 := Lib.hid (K0.out.below hb1 (by simp))
  have B1 := Lib.hid (B0.out.trans (hb1.mono (by simp)))
  have hz1 := hb1.size
  simp only [World.size_alloc] at hz1
  obtain ⟨k0, k1, k2, k3, k4, k5, k6⟩ := K1.out.seven
  clear hr1 hb1 K0 B0
  go_wp2_with fail
  refine (put_new A1 2 c1 1 4 2 1 (enc h.age 2) [0, h.kind] (enc h.age 2 ++ (enc 0 1 ++ enc h.kind 1)) _ _ rfl rfl rfl (by simp [encs]) R1.out (by omega) (by omega) rfl).mono ?_
  rintro e2 w2 ⟨A2, c2, rfl, hc2, hm2, hr2, hb2⟩
  have R2 := Lib.hid hr2
  have K2 := Lib.hid (K1.out.below hb2 (by omega))
  have B2 := Lib.hid (B1.out.trans (hb2.mono B1.out.size))
  have hz2 := hb2.size
  clear hr2 hb2 K1 B1 R1 k0 k1 k2 k3 k4 k5 k6
  obtain ⟨k0, k1, k2, k3, k4, k5, k6⟩ := K2.out.seven
  go_wp2_with fail
  refine (put_new A2 4 c2 4 16 3 4 _ [h.id, h.adv, h.seq] (enc h.age 2 ++ (enc 0 1 ++ (enc h.kind 1 ++ (enc h.id 4 ++ (enc h.adv 4 ++ enc h.seq 4))))) _ _ rfl rfl rfl (by simp [encs]) R2.out (by omega) (by omega) rfl).mono ?_
  rintro e3 w3 ⟨A3, c3, rfl, hc3, hm3, hr3, hb3⟩
  have R3 := Lib.hid hr3
  have K3 := Lib.hid (K2.out.below hb3 (by omega))
  have B3 := Lib.hid (B2.out.trans (hb3.mono B2.out.size))
  have hz3 := hb3.size
  clear hr3 hb3 K2 B2 R2 k0 k1 k2 k3 k4 k5 k6
  obtain ⟨k0, k1, k2, k3, k4, k5, k6⟩ := K3.out.seven
  go_wp2_with fail
  refine (put_newA A3 16 c3 2 20 2 2 _ [h.sum, h.long] (headBytes h) _ _ rfl rfl rfl (by simp [encs, headBytes]) R3.out (by omega) (by omega) rfl).mono ?_
  rintro e4 w4 ⟨v4, rfl, hr4⟩
  have R4 := Lib.hid (hr4.lower B3.out)
  clear hr4 B3 R3 k0 k1 k2 k3 k4 k5 k6
  go_wp2
  rw [← HQ.out]
  exact ⟨_, rfl, R4.out⟩
end Go.Proofs.Ytnnkcgbnhjkahaa
namespace Go.Proofs.Ytnnkcgbnhjkahaa
open Go.RowKit

theorem wpList_append_acc {w : World} {ops : Array Oper} {rest : List Oper} {o : Oper} {a : Act} {Q : Exit → Act → World → Prop} (hgd : o.guard = none) (s x : Operand)
    (ho : o.op = .call { callee := .builtin .append, args := #[s, x], argTypes := #[98, 98] }) (w0 : World) (v : Value) (n : Nat) (L : List Int) (hs : a.eval s = v) (hacc : Acc w0 w v n L)
    (B : Nat) (A : Option Addr) (m c : Nat) (l : List Int) (hx : a.eval x = .slice A m c) (hr : Row .u8 w B A m l) (n' : Nat) (hn' : n + m = n') (hz : n' ≤ 1099511627776)
    (h : ∀ v' w', Hid (Acc w0 w' v' n' (L ++ l)) → wpList Try.prog ops Q rest (a.put o.dst v') w') : wpList Try.prog ops Q (o :: rest) a w := by
  subst hn'
  refine wpList_append_row hgd s x ho w0.heap.size v n _ hs hacc.1 B A m c l hx hr hz hacc.2.size ?_
  intro v' w' h1 h2 _
  refine h v' w' ⟨?_, ?_⟩
  · rw [List.map_append]; exact h1.out
  · exact hacc.2.grown h2.out hacc.2.size (fun k hk => (hacc.1.lt k hk).1)
theorem refBytes_n (n wd : Int) (m : Nat) (hm : (hold wd).toNat = m) (w : World) : Calls Try.prog 75 #[.int .i64 n, .int .i64 wd] w fun x w' =>
    x = .returned (.slice (some ⟨w.heap.size, 0, none⟩) m m) ∧ Below w.heap.size w w' ∧ Row .u8 w' w'.heap.size (some ⟨w.heap.size, 0, none⟩) m (enc n m) := by
  subst hm
  refine (refBytes_any n wd w).mono ?_
  rintro x w' ⟨rfl, hb, hk⟩
  have h1 := hk.row
  rw [enc_length] at h1
  exact ⟨rfl, hb, h1⟩
theorem kind_byte (n : Int) : (IntKind.u64.wrap n).tmod 256 % 256 = n % 256 := by
  rw [IntKind.wrap_u64, Int.tmod_eq_emod_of_nonneg (by omega)]; omega
theorem enc_one (n : Int) : enc n 1 = [n % 256] := by simp [enc, byteAt]

set_option maxRecDepth 4000 in
set_option maxHeartbeats 2000000 in
theorem refHeadBytes_any (h : Hd) (w : World) : Calls Try.prog 76 #[.agg #[.int .i64 h.age, .int .i64 h.kind, .int .i64 h.id, .int .i64 h.adv, .int .i64 h.seq, .int .i64 h.sum, .int .i64 h.long]] w (PutA w (headBytes h) 20) := by
  generalize hQ : PutA w (headBytes h) 20 = Q
  have HQ := Lib.hid hQ
  clear hQ
  have K0 := Lib.hid (Blk.new w 38 #[.int .i64 h.age, .int .i64 h.kind, .int .i64 h.id, .int .i64 h.adv, .int .i64 h.seq, .int .i64 h.sum, .int .i64 h.long])
  have B0 := Lib.hid ((Below.refl w.heap.size w).alloc (Nat.le_refl _) (.cells #[.int .i64 h.age, .int .i64 h.kind, .int .i64 h.id, .int .i64 h.adv, .int .i64 h.seq, .int .i64 h.sum, .int .i64 h.long] 38))
  go_enter Try.func76, Try.ntmps76
  go_wp2_with fail
  have hw0 : ∃ w0, w.alloc (.cells #[.int .i64 h.age, .int .i64 h.kind, .int .i64 h.id, .int .i64 h.adv, .int .i64 h.seq, .int .i64 h.sum, .int .i64 h.long] 38) = w0 := ⟨_, rfl⟩
  obtain ⟨w0, hw0⟩ := hw0
  rw [hw0] at K0 B0 ⊢
  clear hw0
  refine (refBytes_n h.age 2 2 rfl _).mono ?_
  rintro e1 w1 ⟨rfl, hb1, hr1⟩
  have C1 := Lib.hid ((Acc.nil (Below.refl w0.heap.size w0)).below hb1)
  have R1 := Lib.hid hr1
  clear hb1 hr1
  go_upto_region 3 with (at_builtin; refine wpList_append_acc rfl (.tmp 4) (.tmp 7) rfl w0 (.slice none 0 0) 0 [] (by rfl) (by exact C1.out) _ _ 2 2 _ (by rfl) (by exact R1.out) 2 (by rfl) (by omega) ?_; intro v2 w2 ha)
  obtain ⟨k0, k1, k2, k3, k4, k5, k6⟩ := (ha.out.blk K0.out).seven
  clear C1 R1
  have hx : (IntKind.u64.wrap h.kind).tmod 256 % 256 = h.kind % 256 := kind_byte h.kind
  have HX := Lib.hid hx
  clear hx
  go_upto_region 4 with (at_builtin; refine wpList_append_acc rfl (.tmp 9) (.tmp 15) rfl w0 v2 2 ([] ++ enc h.age 2) (by rfl) (by exact ha.out.alloc _) _ _ 2 2 [0, (IntKind.u64.wrap h.kind).tmod 256 % 256] (by rfl) (by exact row_at w2 [0, (IntKind.u64.wrap h.kind).tmod 256 % 256] 5 .u8 _ _ rfl rfl) 4 (by rfl) (by omega) ?_; intro v3 w3 ha3)
  clear k0 k1 k2 k3 k4 k5 k6
  obtain ⟨k0, k1, k2, k3, k4, k5, k6⟩ := (ha3.out.blk K0.out).seven
  clear ha
  go_wp2_with fail
  refine (refBytes_n h.id 4 4 rfl _).mono ?_
  rintro e1 w40 ⟨rfl, hb1, hr1⟩
  have C1 := Lib.hid (ha3.out.below hb1)
  have R1 := Lib.hid hr1
  clear hb1 hr1 ha3 k0 k1 k2 k3 k4 k5 k6
  go_upto_region 5 with (at_builtin; refine wpList_append_acc rfl (.tmp 17) (.tmp 20) rfl w0 v3 4 _ (by rfl) (by exact C1.out) _ _ 4 4 _ (by rfl) (by exact R1.out) 8 (by rfl) (by omega) ?_; intro v4 w4 ha4)
  obtain ⟨k0, k1, k2, k3, k4, k5, k6⟩ := (ha4.out.blk K0.out).seven
  clear C1 R1
  go_wp2_with fail
  refine (refBytes_n h.adv 4 4 rfl _).mono ?_
  rintro e1 w50 ⟨rfl, hb1, hr1⟩
  have C1 := Lib.hid (ha4.out.below hb1)
  have R1 := Lib.hid hr1
  clear hb1 hr1 ha4 k0 k1 k2 k3 k4 k5 k6
  go_upto_region 6 with (at_builtin; refine wpList_append_acc rfl (.tmp 22) (.tmp 25) rfl w0 v4 8 _ (by rfl) (by exact C1.out) _ _ 4 4 _ (by rfl) (by exact R1.out) 12 (by rfl) (by omega) ?_; intro v5 w5 ha5)
  obtain ⟨k0, k1, k2, k3, k4, k5, k6⟩ := (ha5.out.blk K0.out).seven
  clear C1 R1
  go_wp2_with fail
  refine (refBytes_n h.seq 4 4 rfl _).mono ?_
  rintro e1 w60 ⟨rfl, hb1, hr1⟩
  have C1 := Lib.hid (ha5.out.below hb1)
  have R1 := Lib.hid hr1
  clear hb1 hr1 ha5 k0 k1 k2 k3 k4 k5 k6
  go_upto_region 7 with (at_builtin; refine wpList_append_acc rfl (.tmp 27) (.tmp 30) rfl w0 v5 12 _ (by rfl) (by exact C1.out) _ _ 4 4 _ (by rfl) (by exact R1.out) 16 (by rfl) (by omega) ?_; intro v6 w6 ha6)
  obtain ⟨k0, k1, k2, k3, k4, k5, k6⟩ := (ha6.out.blk K0.out).seven
  clear C1 R1
  go_wp2_with fail
  refine (refBytes_n h.sum 2 2 rfl _).mono ?_
  rintro e1 w70 ⟨rfl, hb1, hr1⟩
  have C1 := Lib.hid (ha6.out.below hb1)
  have R1 := Lib.hid hr1
  clear hb1 hr1 ha6 k0 k1 k2 k3 k4 k5 k6
  go_upto_region 8 with (at_builtin; refine wpList_append_acc rfl (.tmp 32) (.tmp 35) rfl w0 v6 16 _ (by rfl) (by exact C1.out) _ _ 2 2 _ (by rfl) (by exact R1.out) 18 (by rfl) (by omega) ?_; intro v7 w7 ha7)
  obtain ⟨k0, k1, k2, k3, k4, k5, k6⟩ := (ha7.out.blk K0.out).seven
  clear C1 R1
  go_wp2_with fail
  refine (refBytes_n h.long 2 2 rfl _).mono ?_
  rintro e1 w80 ⟨rfl, hb1, hr1⟩
  have C1 := Lib.hid (ha7.out.below hb1)
  have R1 := Lib.hid hr1
  clear hb1 hr1 ha7 k0 k1 k2 k3 k4 k5 k6
  go_wp2_with (at_builtin; refine wpList_append_acc rfl (.tmp 37) (.tmp 40) rfl w0 v7 18 _ (by rfl) (by exact C1.out) _ _ 2 2 _ (by rfl) (by exact R1.out) 20 (by rfl) (by omega) ?_; intro v8 w8 ha8)
  rw [← HQ.out]
  have e : [] ++ enc h.age 2 ++ [0, (IntKind.u64.wrap h.kind).tmod 256 % 256] ++ enc h.id 4 ++ enc h.adv 4 ++ enc h.seq 4 ++ enc h.sum 2 ++ enc h.long 2 = headBytes h := by
    rw [HX.out]
    simp [headBytes, enc_one]
  have h8 := ha8.out
  rw [e] at h8
  exact ⟨_, rfl, h8.lower B0.out⟩
end Go.Proofs.Ytnnkcgbnhjkahaa
