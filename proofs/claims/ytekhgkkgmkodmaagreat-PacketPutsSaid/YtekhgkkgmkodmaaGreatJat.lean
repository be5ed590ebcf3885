/- Whether a packet is more than a statement takes. Conditions: lists read as such. · The example that each statement on packet asks first. Conditions: none. · A reader that may have an error, and packet's reader with it: what is lacking is told by the error. Conditions: none but the memory's. · The method heads of packet's reader: heads, to the end. Conditions: at most 2^20 bytes. · Plain facts on bytes in pieces of one size: what is put is told again, and what is told is put as the very bytes. No program, no conditions. -/
import Derived.Test.YtekhgkkgmkodmaaGreatJas
import Derived.Test.YtekhgkkgmkodmaaGreatJar
namespace Go.Proofs.YtekhgkkgmkodmaaGreat
open Go.RowKit

/-- What long answers: yes or no. -/
def LongR (w : World) (x : Ending) (w' : World) : Prop := (∃ b, x = .returned (.bool b)) ∧ Below w.heap.size w w'
set_option maxRecDepth 8000 in
set_option maxHeartbeats 8000000 in
theorem long_core (v : Pv) (A : Option Addr) (n c : Nat) (L : List La) (B : Nat) (w : World) (h : Las w B A n L) (hs : PkSm v) (hn : n ≤ maxLen) (hB : B ≤ w.heap.size) :
    Calls Tryz.prog 5 #[.agg #[.int .i64 v.kind, .int .i64 v.sender, .int .i64 v.every, .int .i64 v.dead, .int .i64 v.prio, .int .i64 v.dr, .int .i64 v.bdr, .slice v.seen.a v.seen.n v.seen.c, .bool v.ini, .bool v.mor, .bool v.mas, .int .i64 v.seq, .slice v.heads.a v.heads.n v.heads.c, .slice v.wants.a v.wants.n v.wants.c, .slice A n c, .slice v.acks.a v.acks.n v.acks.c]] w (LongR w) := by
  generalize hQ : LongR w = Q
  have HQ := Lib.hid hQ
  clear hQ
  have K0 := Lib.hid (Blk.new w 31 #[.int .i64 v.kind, .int .i64 v.sender, .int .i64 v.every, .int .i64 v.dead, .int .i64 v.prio, .int .i64 v.dr, .int .i64 v.bdr, .slice v.seen.a v.seen.n v.seen.c, .bool v.ini, .bool v.mor, .bool v.mas, .int .i64 v.seq, .slice v.heads.a v.heads.n v.heads.c, .slice v.wants.a v.wants.n v.wants.c, .slice A n c, .slice v.acks.a v.acks.n v.acks.c])
  have B0 := Lib.hid ((Below.refl w.heap.size w).alloc (Nat.le_refl _) (.cells #[.int .i64 v.kind, .int .i64 v.sender, .int .i64 v.every, .int .i64 v.dead, .int .i64 v.prio, .int .i64 v.dr, .int .i64 v.bdr, .slice v.seen.a v.seen.n v.seen.c, .bool v.ini, .bool v.mor, .bool v.mas, .int .i64 v.seq, .slice v.heads.a v.heads.n v.heads.c, .slice v.wants.a v.wants.n v.wants.c, .slice A n c, .slice v.acks.a v.acks.n v.acks.c] 31))
  have HP := Lib.hid (h.below (B0.out.mono hB))
  obtain ⟨q1, q2, q3, -, q5, -⟩ := hs
  unfold maxLen at q1 q2 q3 q5 hn
  clear h
  have hs0 : B ≤ (w.alloc (.cells #[.int .i64 v.kind, .int .i64 v.sender, .int .i64 v.every, .int .i64 v.dead, .int .i64 v.prio, .int .i64 v.dr, .int .i64 v.bdr, .slice v.seen.a v.seen.n v.seen.c, .bool v.ini, .bool v.mor, .bool v.mas, .int .i64 v.seq, .slice v.heads.a v.heads.n v.heads.c, .slice v.wants.a v.wants.n v.wants.c, .slice A n c, .slice v.acks.a v.acks.n v.acks.c] 31)).heap.size := by simp; omega
  have hz0 : w.heap.size ≤ (w.alloc (.cells #[.int .i64 v.kind, .int .i64 v.sender, .int .i64 v.every, .int .i64 v.dead, .int .i64 v.prio, .int .i64 v.dr, .int .i64 v.bdr, .slice v.seen.a v.seen.n v.seen.c, .bool v.ini, .bool v.mor, .bool v.mas, .int .i64 v.seq, .slice v.heads.a v.heads.n v.heads.c, .slice v.wants.a v.wants.n v.wants.c, .slice A n c, .slice v.acks.a v.acks.n v.acks.c] 31)).heap.size := by simp
  go_enter Tryz.func5, Tryz.ntmps5
  go_upto_region 1 with fail
  have hlt0 := K0.out.lt
  generalize w.alloc (.cells #[.int .i64 v.kind, .int .i64 v.sender, .int .i64 v.every, .int .i64 v.dead, .int .i64 v.prio, .int .i64 v.dr, .int .i64 v.bdr, .slice v.seen.a v.seen.n v.seen.c, .bool v.ini, .bool v.mor, .bool v.mas, .int .i64 v.seq, .slice v.heads.a v.heads.n v.heads.c, .slice v.wants.a v.wants.n v.wants.c, .slice A n c, .slice v.acks.a v.acks.n v.acks.c] 31) = w0 at *
  obtain ⟨a0, a1, a2, a3, a4, a5, a6, a7, a8, a9, a10, a11, a12, a13, a14, a15⟩ := K0.out.sixteen
  go_wp2_with fail
  clear a0 a1 a2 a3 a4 a5 a6 a7 a8 a9 a10 a11 a12 a13 a14 a15
  go_loopw [8] (fun i wr => ∃ k : Nat, k ≤ n ∧ i = .int .i64 k ∧ Hid (Below w0.heap.size w0 wr)) (fun i _ => n - (intOf i).toNat)
  case atStart => exact ⟨0, Nat.zero_le _, rfl, Lib.hid (Below.refl _ _)⟩
  case round =>
    obtain ⟨k, hk, rfl, hb⟩ := hrel
    have hsz := hb.out.size
    by_cases hlt : k < n
    · obtain ⟨b, o, x, rfl, hbb, hx, hat⟩ := Arr.at (HP.out.below (hb.out.mono hs0)) hlt
      obtain ⟨⟨k0, k1, k2, k3, k4, k5, k6⟩, Ax, nx, cx, Ax', nx', cx', k7, k8, hLx, hMx, hnx, hnx'⟩ := hat
      unfold maxLen at hnx hnx'
      clear hx hLx hMx
      have hlt' : (k : Int) < n := by omega
      by_cases h1 : 20 < nx
      · go_wp2
        rw [← HQ.out]
        exact ⟨⟨_, rfl⟩, B0.out.trans ((hb.out.alloc hsz _).mono hz0)⟩
      · by_cases h2 : 20 < nx'
        · go_wp2
          rw [← HQ.out]
          exact ⟨⟨_, rfl⟩, B0.out.trans ((hb.out.alloc hsz _).mono hz0)⟩
        · go_wp2
          go_roundw
          case rel => exact ⟨k + 1, by omega, by go_num, Lib.hid (hb.out.alloc hsz _)⟩
          case measure => simp [intOf]; omega
    · obtain ⟨a0, a1, a2, a3, a4, a5, a6, a7, a8, a9, a10, a11, a12, a13, a14, a15⟩ := (K0.out.below hb.out hlt0).sixteen
      have BF := Lib.hid (B0.out.trans (hb.out.mono hz0))
      by_cases h1 : 30 < v.seen.n
      · go_wp2
        rw [← HQ.out]
        exact ⟨⟨_, rfl⟩, BF.out⟩
      by_cases h2 : 20 < v.heads.n
      · go_wp2
        rw [← HQ.out]
        exact ⟨⟨_, rfl⟩, BF.out⟩
      by_cases h3 : 20 < v.wants.n
      · go_wp2
        rw [← HQ.out]
        exact ⟨⟨_, rfl⟩, BF.out⟩
      by_cases h4 : 20 < n
      · go_wp2
        rw [← HQ.out]
        exact ⟨⟨_, rfl⟩, BF.out⟩
      go_wp2
      rw [← HQ.out]
      exact ⟨⟨_, rfl⟩, BF.out⟩

theorem long_any (v : Pv) (l : Pl) (B : Nat) (w : World) (h : PkIn w B v l) (hs : PkSm v) (hB : B ≤ w.heap.size) :
    Calls Tryz.prog 5 #[.agg #[.int .i64 v.kind, .int .i64 v.sender, .int .i64 v.every, .int .i64 v.dead, .int .i64 v.prio, .int .i64 v.dr, .int .i64 v.bdr, .slice v.seen.a v.seen.n v.seen.c, .bool v.ini, .bool v.mor, .bool v.mas, .int .i64 v.seq, .slice v.heads.a v.heads.n v.heads.c, .slice v.wants.a v.wants.n v.wants.c, .slice v.lsas.a v.lsas.n v.lsas.c, .slice v.acks.a v.acks.n v.acks.c]] w (LongR w) := long_core v v.lsas.a v.lsas.n v.lsas.c l.lsas B w h.2.2.2.1 hs hs.2.2.2.1 hB

end Go.Proofs.YtekhgkkgmkodmaaGreat
namespace Go.Proofs.YtekhgkkgmkodmaaGreat
open Go.RowKit

/-- The example: a Hello of nobody. -/
def exP : Pv := nobody 1 2 8 0 0 0
def exB : List Int := [2, 1, 0, 40, 0, 0, 0, 1, 0, 0, 0, 0, 253, 203, 0, 0, 0, 0, 0, 0, 0, 0, 0, 0, 0, 2, 0, 0, 0, 0, 0, 8, 0, 0, 0, 0, 0, 0, 0, 0]
theorem exB_is : pktBytes exP noL = exB := by decide
theorem ex_right : rightP exP noL = true := by decide
theorem ex_len : (bodyBs exP noL).length = 16 := by decide
theorem ex_good : goodB exB = true := by decide
theorem exB_byt : Byt exB := by rw [← exB_is]; exact pktBytes_byt _ _

set_option maxRecDepth 8000 in
set_option maxHeartbeats 8000000 in
theorem wakes_any (w : World) : Calls Tryz.prog 4 #[] w fun x w' => x = .returned (.bool true) ∧ Below w.heap.size w w' := by
  go_enter Tryz.func4, Tryz.ntmps4
  go_wp2_with fail
  refine (pput_yes exP noL 0 16 _ (nobody_in _ _ _ _ _ _ _ _) (nobody_sm _ _ _ _ _ _) (Nat.zero_le _) ex_right ex_len).mono ?_
  rintro e1 w1 ⟨g, rfl, hg, hk, hb1⟩
  rw [exB_is] at hk
  have R1 := Lib.hid hk.row
  have B1 := Lib.hid hb1
  clear hk hb1
  go_wp2_with fail
  refine (get_nobody (some ⟨g, 0, none⟩) 40 w1.heap.size exB _ 1 2 8 0 0 0 R1.out exB_byt (Nat.le_refl _) (Nat.le_refl _) (by unfold maxLen; omega) ex_good (by decide) (by decide) (by decide) (by decide) (by decide) (by decide) (by decide) (by decide) (by decide) (by decide) (by decide) ex_right).mono ?_
  rintro e2 w2 ⟨rfl, hb2⟩
  have B2 := Lib.hid (B1.out.trans (hb2.mono B1.out.size))
  clear hb2 R1 B1
  go_wp2_with fail
  refine (get_short none 0 0 _ (by omega)).mono ?_
  rintro e3 w3 ⟨rfl, hb3⟩
  have B3 := Lib.hid ((B2.out.alloc B2.out.size _).trans (hb3.mono (by have := B2.out.size; simp; omega)))
  clear hb3 B2
  go_wp2
  go_ret
  exact ⟨rfl, B3.out.alloc B3.out.size _⟩
end Go.Proofs.YtekhgkkgmkodmaaGreat
namespace Go.Proofs.YtekhgkkgmkodmaaGreat
open Go.RowKit

/-- A reader of the bytes l, at place a, with the error e; if there is one, fewer than four bytes are left. -/
def RdE (w : World) (base g : Nat) (l : List Int) (a : Nat) (e : Int) : Prop :=
  ∃ d c, Blk w g 109 #[.slice (some ⟨d, 0, none⟩) l.length c, .int .i64 a, .int .i64 e] ∧ Row .u8 w (d + 1) (some ⟨d, 0, none⟩) l.length l ∧ base ≤ d ∧ d < g ∧ l.length ≤ c ∧ c ≤ maxLen ∧ a ≤ l.length ∧ Byt l ∧ (e = 0 ∨ (e = 3 ∧ l.length < a + 4))
section
variable {w w' : World} {base b g a : Nat} {l : List Int} {e : Int}
theorem RdE.lt (h : RdE w base g l a e) : g < w.heap.size ∧ base ≤ g := by
  obtain ⟨d, c, h1, _, h3, h4, _⟩ := h
  exact ⟨h1.lt, by omega⟩
theorem RdE.at (h : RdE w base g l a e) : a ≤ l.length := by
  obtain ⟨d, c, h1, _, h3, h4, h5, h6, h7, _⟩ := h
  exact h7
theorem RdE.byt (h : RdE w base g l a e) : Byt l := by
  obtain ⟨d, c, h1, _, h3, h4, h5, h6, h7, h8, _⟩ := h
  exact h8
theorem RdE.is (h : RdE w base g l a e) : e = 0 ∨ (e = 3 ∧ l.length < a + 4) := by
  obtain ⟨d, c, h1, _, h3, h4, h5, h6, h7, h8, h9⟩ := h
  exact h9
theorem RdE.below (h : RdE w base g l a e) (hb : Below b w w') (hg : g < b) : RdE w' base g l a e := by
  obtain ⟨d, c, h1, h2, h3, h4, h5⟩ := h
  exact ⟨d, c, h1.below hb hg, h2.below (hb.mono (by omega)), h3, h4, h5⟩
theorem RdE.alloc (h : RdE w base g l a e) (o : Obj) : RdE (w.alloc o) base g l a e := h.below ((Below.refl _ _).alloc (Nat.le_refl _) o) h.lt.1
theorem RdE.far (h : RdE w base g l a e) {p : Addr} (hp : p.block < base ∨ g < p.block) (u : Value) : RdE (w.setCell p u) base g l a e := by
  obtain ⟨d, c, h1, h2, h3, h4, h5⟩ := h
  refine ⟨d, c, h1.far (by omega) u, h2.far ?_ u, h3, h4, h5⟩
  intro b o e
  injection e with e
  cases e
  omega
theorem RdE.ok (h : RdE w base g l a 0) : Rd w base g l a := by
  obtain ⟨d, c, h1, h2, h3, h4, h5, h6, h7, h8, _⟩ := h
  exact ⟨d, c, h1, h2, h3, h4, h5, h6, h7, h8⟩
theorem Rd.toE (h : Rd w base g l a) : RdE w base g l a 0 := by
  obtain ⟨d, c, h1, h2, h3, h4, h5, h6, h7, h8⟩ := h
  exact ⟨d, c, h1, h2, h3, h4, h5, h6, h7, h8, .inl rfl⟩
end
/-- The next m bytes are taken, as the number y, or there is an error. -/
def NxP (l : List Int) (a : Nat) (e : Int) (m : Nat) (y : Int) (a' : Nat) (e' : Int) : Prop :=
  (e = 0 ∧ a + m ≤ l.length ∧ y = wordAt l a m ∧ a' = a + m ∧ e' = 0) ∨ (e' = 3 ∧ (e = 0 → l.length < a + m) ∧ y = 0)
/-- What Num answers, and leaves. -/
def NumE (w : World) (base g : Nat) (l : List Int) (a : Nat) (e : Int) (m : Nat) (x : Ending) (w' : World) : Prop :=
  ∃ y a' e', x = .returned (.int .i64 y) ∧ RdE w' base g l a' e' ∧ w.grownBy w' (some g) ∧ NxP l a e m y a' e' ∧ 0 ≤ y ∧ y < 256 ^ m
theorem hold_le (k : Int) : hold k ≤ 4 := by
  unfold hold
  split
  · omega
  · split <;> omega
theorem rde_num (base g a m : Nat) (e k : Int) (l : List Int) (w : World) (h : RdE w base g l a e) (hm : (hold k).toNat = m) :
    Calls Tryz.prog 87 #[.pointer (some ⟨g, 0, none⟩), .int .i64 k] w (NumE w base g l a e m) := by
  have hk := hold_lo k
  have hk4 := hold_le k
  have hp : (0 : Int) < 256 ^ m := Int.pow_pos (by omega)
  rcases h.is with rfl | ⟨rfl, hlt⟩
  · by_cases ha : a + m ≤ l.length
    · refine (rd_num base g a m k l w h.ok hm ha).mono ?_
      rintro x w' ⟨rfl, h1, h2⟩
      exact ⟨_, _, _, rfl, h1.toE, h2, .inl ⟨rfl, ha, rfl, rfl, rfl⟩, wordAt_bd l h.byt a m ha⟩
    · obtain ⟨d, c, h1, h2, h3, h4, h5, h6, h7, h8, _⟩ := h
      refine (num_short g (some ⟨d, 0, none⟩) l.length c a k w h1 (by omega) (by omega) (by omega) (by omega)).mono ?_
      rintro x w' ⟨rfl, d', rfl⟩
      have hs := step_err h1 3 d'
      refine ⟨0, a, 3, rfl, ⟨d, c, hs.2, ?_, h3, h4, h5, h6, h7, h8, .inr ⟨rfl, by omega⟩⟩, hs.1, .inr ⟨rfl, fun _ => by omega, rfl⟩, by omega, hp⟩
      refine h2.keep fun p hp => World.cell?_of_block (hs.1.block p.block ?_ ?_)
      · have := h1.lt; omega
      · intro q; injection q with q; omega
  · obtain ⟨d, c, h1, h2, h3, h4, h5, h6, h7, h8, _⟩ := h
    refine (num_bad g (some ⟨d, 0, none⟩) l.length c a k 3 w h1 rfl).mono ?_
    rintro x w' ⟨rfl, rfl⟩
    have hs := step_err h1 3 0
    refine ⟨0, a, 3, rfl, ⟨d, c, hs.2, ?_, h3, h4, h5, h6, h7, h8, .inr ⟨rfl, hlt⟩⟩, hs.1, .inr ⟨rfl, fun h => absurd h (by decide), rfl⟩, by omega, hp⟩
    refine h2.keep fun p hp => World.cell?_of_block (hs.1.block p.block ?_ ?_)
    · have := h1.lt; omega
    · intro q; injection q with q; omega
theorem rde_left (base g a : Nat) (e : Int) (l : List Int) (w : World) (h : RdE w base g l a e) :
    Calls Tryz.prog 70 #[.pointer (some ⟨g, 0, none⟩)] w fun x w' => x = .returned (.int .i64 ((l.length - a : Nat) : Int)) ∧ ∃ d, w' = w.drewN d := by
  obtain ⟨d, c, h1, h2, h3, h4, h5, h6, h7, h8, _⟩ := h
  refine (left_any g (some ⟨d, 0, none⟩) l.length c a e w h1 (by omega) (by omega) (by omega)).mono ?_
  rintro x w' ⟨rfl, h⟩
  exact ⟨ret_int (by omega), h⟩
theorem rde_err (base g a : Nat) (e : Int) (l : List Int) (w : World) (h : RdE w base g l a e) :
    Calls Tryz.prog 69 #[.pointer (some ⟨g, 0, none⟩)] w fun x w' => x = .returned (.int .i64 e) ∧ w = w' := by
  obtain ⟨d, c, h1, _⟩ := h
  exact err_any g _ _ c a e w h1
/-- What Bytes answers, and leaves, where they are there. -/
def BytR (w : World) (base g : Nat) (l : List Int) (a m : Nat) (x : Ending) (w' : World) : Prop :=
  ∃ A c, x = .returned (.slice A m c) ∧ m ≤ c ∧ c ≤ maxLen ∧ Row .u8 w' w'.heap.size A m ((l.drop a).take m) ∧ Rd w' base g l (a + m) ∧ w.grownBy w' (some g)
set_option maxRecDepth 4000 in
set_option maxHeartbeats 1000000 in
theorem rd_bytes (base g a m : Nat) (l : List Int) (w : World) (h : Rd w base g l a) (ha : a + m ≤ l.length) (hl : l.length ≤ 1048576) :
    Calls Tryz.prog 102 #[.pointer (some ⟨g, 0, none⟩), .int .i64 m] w (BytR w base g l a m) := by
  generalize hQ : BytR w base g l a m = Q
  have HQ := Lib.hid hQ
  obtain ⟨d, c, h1, h2, h3, h4, h5, h6, h7, h8⟩ := h
  have hdw := h1.lt
  have HB := Lib.hid h1
  have HR := Lib.hid h2
  have HM := Lib.hid h6
  have HBY := Lib.hid h8
  have HS := fun x d => Lib.hid (step_at h1 x d)
  clear hQ h1 h2 h6 h8
  go_enter Tryz.func102, Tryz.ntmps102
  go_wp2_with fail
  refine (take_ok g (some ⟨d, 0, none⟩) l.length c a m _ HB.out (by omega) (by omega) h5 HM.out (by omega) (by omega)).mono ?_
  rintro e1 w1 ⟨A', c', d1, rfl, hc1, hc2, hcut, rfl⟩
  have HT := Lib.hid (HS ((a : Int) + m) d1).out
  have hrow := hcut _ _ _ _ (HR.out.step HT.out (by omega) (by omega))
  have hmk := run_make5 m m (Nat.le_refl _) (by omega)
  rw [show ((a : Int)).toNat = a by omega, show ((m : Int)).toNat = m by omega] at hrow
  obtain ⟨l', hL⟩ : ∃ l', (l.drop a).take m = l' := ⟨_, rfl⟩
  have hl' : l'.length = m := by rw [← hL]; simp; omega
  have HLL := Lib.hid hL
  rw [hL] at hrow
  clear hcut hL HS
  have HL := Lib.hid hl'
  have HR' := Lib.hid hrow
  clear hl' hrow
  generalize (w.setCell ⟨g, 1, none⟩ (.int .i64 ((a : Int) + m))).drewN d1 = w1 at *
  go_wp2_with (refine wpList_copy_row rfl (.tmp 14) (.tmp 15) rfl w1.heap.size m m c' A' (by rfl) (by rfl) (d + 1) l' (by exact HR'.out.alloc (by have := HT.out.1.size; omega) _) (zeros m) (by simp [zeros]) (by simpa using Blk.new w1 5 _) ?_; intro w2 hg2 hb2)
  rw [← HQ.out]
  have hst := HT.out.more (below_new hb2 (by simp))
  have hrw := row_of_blk hg2.out
  rw [HL.out] at hrw
  refine ⟨_, _, rfl, Nat.le_refl _, by unfold maxLen; omega, ?_, ⟨d, c, ?_, ?_, h3, h4, h5, HM.out, ha, HBY.out⟩, hst.1⟩
  · rw [HLL.out]
    exact hrw
  · have h9 := hst.2
    rw [show ((a : Int) + m) = ((a + m : Nat) : Int) by omega] at h9
    exact h9
  · exact HR.out.step hst (by omega) (by omega)
theorem rd_bytesK (base g a m : Nat) (k : Int) (l : List Int) (w : World) (h : Rd w base g l a) (hk : k = m) (ha : a + m ≤ l.length) (hl : l.length ≤ 1048576) :
    Calls Tryz.prog 102 #[.pointer (some ⟨g, 0, none⟩), .int .i64 k] w (BytR w base g l a m) := by
  subst hk
  exact rd_bytes base g a m l w h ha hl
/-- In block g there is packet's reader, of what was read v, at place a of l, with the error e of numbers. -/
def RSE (w : World) (g q : Nat) (v : Pv) (wr : Bool) (er : Int) (l : List Int) (a : Nat) (e : Int) : Prop :=
  Blk w g 95 #[.pointer (some ⟨q, 0, none⟩), .int .i64 v.kind, .int .i64 v.sender, .int .i64 v.every, .int .i64 v.dead, .int .i64 v.prio, .int .i64 v.dr, .int .i64 v.bdr, .slice v.seen.a v.seen.n v.seen.c, .bool v.ini, .bool v.mor, .bool v.mas, .int .i64 v.seq, .slice v.heads.a v.heads.n v.heads.c, .slice v.wants.a v.wants.n v.wants.c, .slice v.lsas.a v.lsas.n v.lsas.c, .slice v.acks.a v.acks.n v.acks.c, .bool wr, .int .i64 er] ∧ RdE w (g + 1) q l a e
theorem RS.toE {w : World} {g q : Nat} {v : Pv} {wr : Bool} {er : Int} {l : List Int} {a : Nat} (h : RS w g q v wr er l a) : RSE w g q v wr er l a 0 := ⟨h.1, h.2.toE⟩
/-- What zero leaves. -/
def ZerE (w : World) (g q : Nat) (v : Pv) (wr : Bool) (er : Int) (l : List Int) (a : Nat) (e : Int) (m : Nat) (x : Ending) (w' : World) : Prop :=
  ∃ y a' e', x = .returned (.tuple #[]) ∧ RSE w' g q v (wr || decide (y ≠ 0)) er l a' e' ∧ Below g w w' ∧ NxP l a e m y a' e'
set_option maxRecDepth 8000 in
set_option maxHeartbeats 8000000 in
theorem zero_any (v : Pv) (wr : Bool) (er : Int) (g q a m : Nat) (e k : Int) (l : List Int) (w : World) (h : RSE w g q v wr er l a e) (hm : (hold k).toNat = m) :
    Calls Tryz.prog 88 #[.pointer (some ⟨g, 0, none⟩), .int .i64 k] w (ZerE w g q v wr er l a e m) := by
  generalize hQ : ZerE w g q v wr er l a e m = Q
  have HQ := Lib.hid hQ
  obtain ⟨hb, hrd⟩ := h
  have KB := Lib.hid hb
  have RD := Lib.hid hrd
  have hgq : g < q := by have := hrd.lt.2; omega
  have hgw : g < w.heap.size := hb.lt
  clear hQ hb hrd
  obtain ⟨a0, a1, a2, a3, a4, a5, a6, a7, a8, a9, a10, a11, a12, a13, a14, a15, a16, a17, a18⟩ := KB.out.nt
  go_enter Tryz.func88, Tryz.ntmps88
  go_wp2_with fail
  refine (rde_num (g + 1) q a m e k l _ RD.out hm).mono ?_
  rintro e1 w1 ⟨y, a', e', rfl, hrd, hgr, hnx, -, -⟩
  have KB1 := Lib.hid (KB.out.grown hgr (by omega))
  have RD1 := Lib.hid hrd
  have HNX := Lib.hid hnx
  have B1 := Lib.hid (show Below g w w1 from grown_below hgr (by omega) (by omega))
  clear hrd hgr hnx KB RD a0 a1 a2 a3 a4 a5 a6 a7 a8 a9 a10 a11 a12 a13 a14 a15 a16 a17 a18
  by_cases hz : y = 0
  · subst hz
    go_wp2
    refine bodyPost_end (results_none rfl _ _ _) rfl ?_
    rw [← HQ.out]
    refine ⟨0, a', e', rfl, ⟨?_, RD1.out⟩, B1.out, HNX.out⟩
    rw [show (wr || decide ((0 : Int) ≠ 0)) = wr by simp]
    exact KB1.out
  · have hd : (y != 0) = true := by simp [hz]
    have HZ := Lib.hid (show (wr || decide (y ≠ 0)) = true by simp [hz])
    clear hz
    have f17 := KB1.out.frozen 17
    obtain ⟨a0, a1, a2, a3, a4, a5, a6, a7, a8, a9, a10, a11, a12, a13, a14, a15, a16, a17, a18⟩ := KB1.out.nt
    go_wp2
    refine bodyPost_end (results_none rfl _ _ _) rfl ?_
    rw [← HQ.out]
    refine ⟨y, a', e', rfl, ⟨?_, RD1.out.far (.inl (by simp)) _⟩, B1.out.setCell (by simp) _, HNX.out⟩
    rw [HZ.out]
    have h9 := KB1.out.put 17 (.bool true)
    simp only [List.setIfInBounds_toArray, List.set_cons_zero, List.set_cons_succ] at h9
    exact h9
end Go.Proofs.YtekhgkkgmkodmaaGreat
namespace Go.Proofs.YtekhgkkgmkodmaaGreat
open Go.RowKit

theorem Tryz.infoHd : (Tryz.prog.info? 44).map (fun i => (i.zero, i.size, i.bytes)) = some (some (.agg #[.int .i64 0, .int .i64 0, .int .i64 0, .int .i64 0, .int .i64 0, .int .i64 0, .int .i64 0]), 7, 56) := by kernel_rfl
/-- The cells of heads, one behind the other. -/
def hdCells : List Hd → List Value
  | [] => []
  | h :: l => .int .i64 h.age :: .int .i64 h.kind :: .int .i64 h.id :: .int .i64 h.adv :: .int .i64 h.seq :: .int .i64 h.sum :: .int .i64 h.long :: hdCells l
theorem hdCells_one (h : Hd) : ∀ u ∈ [Value.int .i64 h.age, .int .i64 h.kind, .int .i64 h.id, .int .i64 h.adv, .int .i64 h.seq, .int .i64 h.sum, .int .i64 h.long], u.oneCell' = true := by
  intro u hu
  simp at hu
  rcases hu with rfl | rfl | rfl | rfl | rfl | rfl | rfl <;> rfl
theorem hdCells_snoc (l : List Hd) (h : Hd) : hdCells (l ++ [h]) = hdCells l ++ [.int .i64 h.age, .int .i64 h.kind, .int .i64 h.id, .int .i64 h.adv, .int .i64 h.seq, .int .i64 h.sum, .int .i64 h.long] := by
  induction l with
  | nil => rfl
  | cons x l ih => simp [hdCells, ih]
theorem hdCells_get (l : List Hd) (j : Nat) (h : Hd) (hj : l[j]? = some h) : (hdCells l)[j * 7]? = some (.int .i64 h.age) ∧ (hdCells l)[j * 7 + 1]? = some (.int .i64 h.kind) ∧ (hdCells l)[j * 7 + 2]? = some (.int .i64 h.id) ∧ (hdCells l)[j * 7 + 3]? = some (.int .i64 h.adv) ∧ (hdCells l)[j * 7 + 4]? = some (.int .i64 h.seq) ∧ (hdCells l)[j * 7 + 5]? = some (.int .i64 h.sum) ∧ (hdCells l)[j * 7 + 6]? = some (.int .i64 h.long) := by
  induction l generalizing j with
  | nil => simp at hj
  | cons x l ih =>
    cases j with
    | zero =>
      obtain rfl : x = h := by simpa using hj
      simp [hdCells]
    | succ j =>
      have := ih j (by simpa using hj)
      rw [show (j + 1) * 7 = j * 7 + 7 from by omega]
      simpa [hdCells] using this
/-- A row of structs of the call's own reads as such. -/
theorem arr_of_own {α : Type} {sz : Nat} {P : World → Nat → Nat → Nat → α → Prop} {w : World} {base n : Nat} {t : TypeId} {v : Value} {L : List α} {cs : List Value} (h : w.ownsRow base t sz v n cs) (hn : L.length = n)
    (hP : ∀ (g : Nat) (j : Nat) (x : α), g < w.heap.size → L[j]? = some x → (∀ (p : Nat) (u : Value), cs[p]? = some u → w.cell? ⟨g, 0 + p, none⟩ = some u) → P w w.heap.size g (0 + j * sz) x) : ∃ A c, v = .slice A n c ∧ n ≤ c ∧ c ≤ maxLen ∧ Arr sz P w w.heap.size A n L := by
  rcases h.2 with ⟨rfl, rfl⟩ | ⟨g, cap, cur, rfl, hg, hh, hc, hm, hs, ht⟩
  · have : L = [] := List.eq_nil_of_length_eq_zero hn
    subst this
    exact ⟨_, _, rfl, Nat.le_refl _, by unfold maxLen; omega, Arr.nil⟩
  · refine ⟨_, _, rfl, hc, hm, hn, fun _ => ⟨g, 0, rfl, Blk.lt hh, fun j x hx => hP g j x (Blk.lt hh) hx ?_⟩⟩
    intro p u hu
    have h1 := h.cells (g := g) rfl p u hu
    have e : (⟨g, 0, none⟩ : Addr).add p = ⟨g, 0 + p, none⟩ := by
      unfold Addr.add
      split <;> simp_all
    rwa [e] at h1
theorem hds_of_own {w : World} {base n : Nat} {v : Value} {L : List Hd} (h : w.ownsRow base 44 7 v n (hdCells L)) (hn : L.length = n) : ∃ A c, v = .slice A n c ∧ n ≤ c ∧ c ≤ maxLen ∧ Hds w w.heap.size A n L := by
  refine arr_of_own (P := HdAt) h hn fun g j x _ hx hc => ?_
  obtain ⟨h0, h1, h2, h3, h4, h5, h6⟩ := hdCells_get L j x hx
  exact ⟨hc _ _ h0, hc _ _ h1, hc _ _ h2, hc _ _ h3, hc _ _ h4, hc _ _ h5, hc _ _ h6⟩
theorem own_keeps {w w' : World} {b : Nat} {t : TypeId} {size n : Nat} {v : Value} {xs : List Value} (ho : w.ownsRow b t size v n xs) (hg : w.grownBy w' v.ownBlock) (hb : b ≤ w.heap.size) : Below b w w' :=
  (Below.refl b w).grown hg hb (fun k hk => (ho.lt k hk).1)
theorem blk_newS (w : World) (o : Obj) (p : Addr) (u : Value) (t : TypeId) (cs : Array Value) : Blk (((w.alloc o).setCell p u).alloc (.cells cs t)) (w.heap.size + 1) t cs := by
  have := Blk.new ((w.alloc o).setCell p u) t cs
  simpa using this
/-- The head at place p, if it is one. -/
def hdAt (l : List Int) (p : Nat) : Hd := if okHead ((l.drop p).take 20) = true then headOf ((l.drop p).take 20) else zeroHd
/-- k heads from place a on; are they heads? -/
def hdsAt (l : List Int) (a k : Nat) : List Hd := (List.range k).map fun j => hdAt l (a + 20 * j)
def okHds (l : List Int) (a k : Nat) : Bool := (List.range k).all fun j => okHead ((l.drop (a + 20 * j)).take 20)
theorem hdsAt_length (l : List Int) (a k : Nat) : (hdsAt l a k).length = k := by simp [hdsAt]
theorem hdsAt_succ (l : List Int) (a k : Nat) : hdsAt l a (k + 1) = hdsAt l a k ++ [hdAt l (a + 20 * k)] := by simp [hdsAt, List.range_succ]
theorem okHds_succ (l : List Int) (a k : Nat) : okHds l a (k + 1) = (okHds l a k && okHead ((l.drop (a + 20 * k)).take 20)) := by simp [okHds, List.range_succ]
def sliceLen : Value → Nat
  | .slice _ n _ => n
  | _ => 0
/-- What heads answers, and leaves. -/
def HeadsR (w : World) (g q : Nat) (v : Pv) (wr : Bool) (er : Int) (l : List Int) (a : Nat) (e : Int) (x : Ending) (w' : World) : Prop :=
  ∃ A k c, x = .returned (.slice A k c) ∧ k = (l.length - a) / 20 ∧ w'.ownsRow w.heap.size 44 7 (.slice A k c) k (hdCells (hdsAt l a k)) ∧ RSE w' g q v (wr || !okHds l a k) er l (a + 20 * k) e ∧ Below g w w'
set_option maxRecDepth 8000 in
set_option maxHeartbeats 8000000 in
theorem heads_any (v : Pv) (wb : Bool) (er : Int) (g q a : Nat) (e : Int) (l : List Int) (w : World) (h : RSE w g q v wb er l a e) (hl : l.length ≤ 1048576) :
    Calls Tryz.prog 101 #[.pointer (some ⟨g, 0, none⟩)] w (HeadsR w g q v wb er l a e) := by
  generalize hQ : HeadsR w g q v wb er l a e = Q
  have HQ := Lib.hid hQ
  have HRS := Lib.hid h
  have HA := Lib.hid h.2.at
  have HIS := Lib.hid h.2.is
  have HBY := Lib.hid h.2.byt
  have hgq : g < q := by have := h.2.lt.2; omega
  have hqw : q < w.heap.size := h.2.lt.1
  have hgw : g < w.heap.size := by omega
  clear hQ h
  go_enter Tryz.func101, Tryz.ntmps101
  go_wp2_with fail
  go_loopw [3] (fun val W => ∃ k : Nat, Hid (a + 20 * k ≤ l.length) ∧ Hid (RSE W g q v (wb || !okHds l a k) er l (a + 20 * k) e) ∧ Hid (W.ownsRow w.heap.size 44 7 val k (hdCells (hdsAt l a k))) ∧ Hid (Below g w W)) (fun val _ => l.length - sliceLen val)
  case atStart =>
    refine ⟨0, HA, Lib.hid ?_, Lib.hid (World.ownsRow_nil _ _ _ _), Lib.hid (Below.refl _ _)⟩
    rw [show (wb || !okHds l a 0) = wb by simp [okHds]]
    exact HRS.out
  case round =>
    obtain ⟨k, hk, hrs, hown, hbel⟩ := hrel
    obtain ⟨A, c, rfl⟩ := own_slice hown.out
    obtain ⟨y, hy⟩ : ∃ y, (wb || !okHds l a k) = y := ⟨_, rfl⟩
    rw [hy] at hrs
    have HY := Lib.hid hy
    have KB := Lib.hid hrs.out.1
    have RD := Lib.hid hrs.out.2
    clear hy hrs
    obtain ⟨a0, a1, a2, a3, a4, a5, a6, a7, a8, a9, a10, a11, a12, a13, a14, a15, a16, a17, a18⟩ := KB.out.nt
    go_wp2_with fail
    refine (rde_left (g + 1) q _ e l _ RD.out).mono ?_
    rintro e1 w1 ⟨rfl, d1, rfl⟩
    clear a0 a1 a2 a3 a4 a5 a6 a7 a8 a9 a10 a11 a12 a13 a14 a15 a16 a17 a18
    have hb1 := below_drewN hbel.out d1
    have KB1 := Lib.hid (KB.out.drewN d1)
    have RD1 := Lib.hid (show RdE (wr.drewN d1) (g + 1) q l (a + 20 * k) e from RD.out)
    have OW1 := Lib.hid (show (wr.drewN d1).ownsRow w.heap.size 44 7 (.slice A k c) k (hdCells (hdsAt l a k)) from hown.out)
    have B1 := Lib.hid hb1
    have hs1 := hb1.size
    clear hb1 KB RD hown hbel
    generalize wr.drewN d1 = w1 at *
    obtain ⟨r, hr⟩ : ∃ r, l.length - (a + 20 * k) = r := ⟨_, rfl⟩
    rw [hr]
    have hak := hk.out
    obtain ⟨a0, a1, a2, a3, a4, a5, a6, a7, a8, a9, a10, a11, a12, a13, a14, a15, a16, a17, a18⟩ := KB1.out.nt
    by_cases h20 : 20 ≤ r
    · obtain rfl : e = 0 := by
        rcases RD1.out.is with he | ⟨_, hlt⟩
        · exact he
        · omega
      have h20' : (20 : Int) ≤ r := by omega
      go_wp2_with fail
      refine (rd_bytesK (g + 1) q (a + 20 * k) 20 20 l _ RD1.out.ok rfl (by omega) hl).mono ?_
      rintro e2 w2 ⟨A2, c2, rfl, hc2, hm2, hrow, hrd, hgr⟩
      have KB2 := Lib.hid (KB1.out.grown hgr (by omega))
      have RD2 := Lib.hid hrd
      have OW2 := Lib.hid (own_grown OW1.out hgr hqw)
      have B2 := Lib.hid (B1.out.trans (grown_below hgr (by omega) (by omega)))
      have R2 := Lib.hid hrow
      have HM2 := Lib.hid hm2
      have HB20 := Lib.hid ((HBY.out.drop (a + 20 * k)).take 20)
      have hs2 := B2.out.size
      clear hrd hgr hrow hm2 KB1 RD1 OW1 B1 h20' a0 a1 a2 a3 a4 a5 a6 a7 a8 a9 a10 a11 a12 a13 a14 a15 a16 a17 a18
      obtain ⟨s, hs⟩ : ∃ s, (l.drop (a + 20 * k)).take 20 = s := ⟨_, rfl⟩
      rw [hs] at R2 HB20
      have HSS := Lib.hid hs
      clear hs
      go_wp2_with fail
      refine (getHead_long A2 20 c2 w2.heap.size s _ R2.out HB20.out (Nat.le_refl _) (Nat.le_refl _) hc2 HM2.out).mono ?_
      rintro e3 w3 ⟨rfl, hb3⟩
      have KB3 := Lib.hid (KB2.out.below hb3 KB2.out.lt)
      have RD3 := Lib.hid (RD2.out.below hb3 RD2.out.lt.1)
      have OW3 := Lib.hid (own_below2 OW2.out hb3)
      have B3 := Lib.hid (B2.out.trans (hb3.mono (by omega)))
      have hs3 := hb3.size
      clear hb3 KB2 RD2 OW2 B2 R2
      cases hok : okHead s
      · have HOK := Lib.hid (show (wb || !okHds l a (k + 1)) = true by rw [okHds_succ, HSS.out, hok]; simp)
        have HHD := Lib.hid (show hdAt l (a + 20 * k) = zeroHd by unfold hdAt; rw [HSS.out, hok]; rfl)
        rw [if_neg (by simp), if_neg (by simp)]
        clear hok
        have KB4 := Lib.hid (KB3.out.alloc (.cells #[.int .i64 0, .int .i64 0, .int .i64 0, .int .i64 0, .int .i64 0, .int .i64 0, .int .i64 0] 44))
        have KB5 := Lib.hid (KB4.out.put 17 (.bool true))
        have f17 := KB4.out.frozen 17
        obtain ⟨a0, a1, a2, a3, a4, a5, a6, a7, a8, a9, a10, a11, a12, a13, a14, a15, a16, a17, a18⟩ := KB4.out.nt
        have KH := Lib.hid ((Blk.new w3 44 #[.int .i64 0, .int .i64 0, .int .i64 0, .int .i64 0, .int .i64 0, .int .i64 0, .int .i64 0]).far (p := ⟨g, 17, none⟩) (show w3.heap.size ≠ g by omega) (.bool true))
        obtain ⟨z0, z1, z2, z3, z4, z5, z6⟩ := KH.out.seven
        simp only [List.setIfInBounds_toArray, List.set_cons_zero, List.set_cons_succ] at KB5
        have RD5 := Lib.hid (((RD3.out.alloc (.cells #[.int .i64 0, .int .i64 0, .int .i64 0, .int .i64 0, .int .i64 0, .int .i64 0, .int .i64 0] 44)).far (p := ⟨g, 17, none⟩) (.inl (by simp)) (.bool true)))
        have OW5 := Lib.hid (own_set (OW3.out.alloc (.cells #[.int .i64 0, .int .i64 0, .int .i64 0, .int .i64 0, .int .i64 0, .int .i64 0, .int .i64 0] 44)) ⟨g, 17, none⟩ (.bool true) hgw)
        have B5 := Lib.hid ((B3.out.alloc (by omega) (.cells #[.int .i64 0, .int .i64 0, .int .i64 0, .int .i64 0, .int .i64 0, .int .i64 0, .int .i64 0] 44)).setCell (p := ⟨g, 17, none⟩) (by simp) (.bool true))
        unfold zeroHd
        go_upto_region 6 with fail
        clear a0 a1 a2 a3 a4 a5 a6 a7 a8 a9 a10 a11 a12 a13 a14 a15 a16 a17 a18 f17 KB4 KB3 RD3 OW3 B3
        generalize hbk : w3.heap.size = hb at *
        generalize (w3.alloc (.cells #[.int .i64 0, .int .i64 0, .int .i64 0, .int .i64 0, .int .i64 0, .int .i64 0, .int .i64 0] 44)).setCell ⟨g, 17, none⟩ (.bool true) = w4 at *
        obtain ⟨z0, z1, z2, z3, z4, z5, z6⟩ := KH.out.seven
        have hs4 := B5.out.size
        go_wp2_with (at_builtin; refine wpList_append_new rfl (.tmp 26) (.tmp 28) 25 44 (.agg #[.int .i64 0, .int .i64 0, .int .i64 0, .int .i64 0, .int .i64 0, .int .i64 0, .int .i64 0]) 7 56 Tryz.underlying25 Tryz.infoHd rfl (by decide) (by decide) rfl w.heap.size _ k _ (by rfl) (by exact OW5.out.alloc _) w4.heap.size [.int .i64 0, .int .i64 0, .int .i64 0, .int .i64 0, .int .i64 0, .int .i64 0, .int .i64 0] (by rfl) rfl (by exact Blk.new w4 44 _) (by exact hdCells_one zeroHd) (by omega) (by simp; omega) ?_; intro v5 w5 ho5 hg5)
        have BK := Lib.hid (own_keeps (OW5.out.alloc (.cells #[.int .i64 0, .int .i64 0, .int .i64 0, .int .i64 0, .int .i64 0, .int .i64 0, .int .i64 0] 44)) hg5.out (by simp; omega))
        go_roundw
        case rel =>
          refine ⟨k + 1, Lib.hid (by omega), Lib.hid ⟨?_, ?_⟩, Lib.hid ?_, Lib.hid ?_⟩
          · rw [HOK.out]
            exact (KB5.out.alloc _).below BK.out (by omega)
          · have h2 := (RD5.out.alloc (.cells #[.int .i64 0, .int .i64 0, .int .i64 0, .int .i64 0, .int .i64 0, .int .i64 0, .int .i64 0] 44)).below BK.out hqw
            rw [show a + 20 * (k + 1) = a + 20 * k + 20 from by omega]
            exact h2.toE
          · have h1 := ho5.out
            rw [hdsAt_succ, HHD.out, hdCells_snoc]
            exact h1
          · exact (B5.out.alloc (by omega) _).trans (BK.out.mono (by omega))
        case measure =>
          obtain ⟨A5, c5, rfl⟩ := own_slice ho5.out
          simp [sliceLen]; omega
      · have HOK := Lib.hid (show (wb || !okHds l a (k + 1)) = y by rw [okHds_succ, HSS.out, hok, Bool.and_true]; exact HY.out)
        have HHD := Lib.hid (show hdAt l (a + 20 * k) = headOf s by unfold hdAt; rw [HSS.out, hok]; rfl)
        rw [if_pos rfl, if_pos rfl]
        clear hok
        generalize headOf s = h at *
        obtain ⟨a0, a1, a2, a3, a4, a5, a6, a7, a8, a9, a10, a11, a12, a13, a14, a15, a16, a17, a18⟩ := KB3.out.nt
        go_wp2_with (at_builtin; refine wpList_append_new rfl (.tmp 26) (.tmp 28) 25 44 (.agg #[.int .i64 0, .int .i64 0, .int .i64 0, .int .i64 0, .int .i64 0, .int .i64 0, .int .i64 0]) 7 56 Tryz.underlying25 Tryz.infoHd rfl (by decide) (by decide) rfl w.heap.size _ k _ (by rfl) (by exact (OW3.out.alloc _).alloc _) (w3.heap.size + 1) [.int .i64 h.age, .int .i64 h.kind, .int .i64 h.id, .int .i64 h.adv, .int .i64 h.seq, .int .i64 h.sum, .int .i64 h.long] (by rfl) rfl (by exact blk_new1 w3 _ 44 _) (by exact hdCells_one h) (by omega) (by simp; omega) ?_; intro v5 w5 ho5 hg5)
        have BK := Lib.hid (own_keeps ((OW3.out.alloc (.cells #[.int .i64 h.age, .int .i64 h.kind, .int .i64 h.id, .int .i64 h.adv, .int .i64 h.seq, .int .i64 h.sum, .int .i64 h.long] 44)).alloc (.cells #[.int .i64 h.age, .int .i64 h.kind, .int .i64 h.id, .int .i64 h.adv, .int .i64 h.seq, .int .i64 h.sum, .int .i64 h.long] 44)) hg5.out (by simp; omega))
        go_roundw
        case rel =>
          refine ⟨k + 1, Lib.hid (by omega), Lib.hid ⟨?_, ?_⟩, Lib.hid ?_, Lib.hid ?_⟩
          · rw [HOK.out]
            exact ((KB3.out.alloc _).alloc _).below BK.out (by omega)
          · have h2 := ((RD3.out.alloc (.cells #[.int .i64 h.age, .int .i64 h.kind, .int .i64 h.id, .int .i64 h.adv, .int .i64 h.seq, .int .i64 h.sum, .int .i64 h.long] 44)).alloc (.cells #[.int .i64 h.age, .int .i64 h.kind, .int .i64 h.id, .int .i64 h.adv, .int .i64 h.seq, .int .i64 h.sum, .int .i64 h.long] 44)).below BK.out hqw
            rw [show a + 20 * (k + 1) = a + 20 * k + 20 from by omega]
            exact h2.toE
          · have h1 := ho5.out
            rw [hdsAt_succ, HHD.out, hdCells_snoc]
            exact h1
          · exact ((B3.out.alloc (by omega) _).alloc (by simp; omega) _).trans (BK.out.mono (by omega))
        case measure =>
          obtain ⟨A5, c5, rfl⟩ := own_slice ho5.out
          simp [sliceLen]; omega
    · have h20' : ¬ (20 : Int) ≤ r := by omega
      go_wp2
      rw [← HQ.out]
      refine ⟨A, k, c, rfl, by omega, OW1.out, ⟨?_, RD1.out⟩, B1.out⟩
      rw [HY.out]
      exact KB1.out
end Go.Proofs.YtekhgkkgmkodmaaGreat
namespace Go.Proofs.YtekhgkkgmkodmaaGreat

theorem enc_num (m : Nat) (s : List Int) (hs : s.length = m) (hm : m ≤ 4) (hb : Byt s) : enc (num s) m = s := by
  subst hs
  match s, hm, hb with
  | [], _, _ => rfl
  | [a], _, hb =>
    have ha := hb a (by simp)
    simp [enc, byteAt, num]; omega
  | [a, b], _, hb =>
    have ha := hb a (by simp)
    have hb' := hb b (by simp)
    simp [enc, byteAt, num]; omega
  | [a, b, c], _, hb =>
    have ha := hb a (by simp)
    have hb' := hb b (by simp)
    have hc := hb c (by simp)
    simp [enc, byteAt, num]; omega
  | [a, b, c, d], _, hb =>
    have ha := hb a (by simp)
    have hb' := hb b (by simp)
    have hc := hb c (by simp)
    have hd := hb d (by simp)
    simp [enc, byteAt, num]; omega
  | _ :: _ :: _ :: _ :: _ :: _, h, _ => simp only [List.length_cons] at h; omega
theorem enc_word (l : List Int) (a m : Nat) (hb : Byt l) (hm : m ≤ 4) (h : a + m ≤ l.length) : enc (wordAt l a m) m = (l.drop a).take m :=
  enc_num m _ (by simp; omega) hm ((hb.drop a).take m)
theorem cut_join (l : List Int) (a m k c : Nat) (h : a + m = c) : (l.drop a).take m ++ (l.drop c).take k = (l.drop a).take (m + k) := by
  subst h
  rw [List.take_add, List.drop_drop]
theorem enc_sgn (n : Int) : enc (sgn n) 4 = enc n 4 := by
  unfold sgn
  split
  · simp [enc, byteAt]; omega
  · rfl
theorem enc_zero (l : List Int) (a : Nat) (hb : Byt l) (h : a + 1 ≤ l.length) (hz : wordAt l a 1 = 0) : enc 0 1 = (l.drop a).take 1 := by
  rw [← enc_word l a 1 hb (by omega) h, hz]
/-- The head that bytes tell has these bytes. -/
theorem headBytes_of (t : List Int) (hs : 20 ≤ t.length) (hb : Byt t) (h2 : t.getD 2 0 = 0) : headBytes (headOf t) = t.take 20 := by
  have hz : wordAt t 2 1 = 0 := by rw [wordAt_one t 2 (by omega)]; exact h2
  unfold headBytes headOf
  simp only []
  rw [enc_sgn, enc_zero t 2 hb (by omega) hz]
  rw [enc_word t 0 2 hb (by omega) (by omega), enc_word t 3 1 hb (by omega) (by omega), enc_word t 4 4 hb (by omega) (by omega), enc_word t 8 4 hb (by omega) (by omega), enc_word t 12 4 hb (by omega) (by omega), enc_word t 16 2 hb (by omega) (by omega), enc_word t 18 2 hb (by omega) (by omega)]
  rw [cut_join t 16 2 2 18 rfl, cut_join t 12 4 4 16 rfl, cut_join t 8 4 8 12 rfl, cut_join t 4 4 12 8 rfl, cut_join t 3 1 16 4 rfl, cut_join t 2 1 17 3 rfl, cut_join t 0 2 18 2 rfl, List.drop_zero]

/-- The bytes of a list, one behind the other. -/
def cat {α : Type} (f : α → List Int) : List α → List Int
  | [] => []
  | x :: l => f x ++ cat f l
theorem cat_append {α : Type} (f : α → List Int) (a b : List α) : cat f (a ++ b) = cat f a ++ cat f b := by
  induction a with
  | nil => rfl
  | cons x a ih => simp [cat, ih]
theorem cat_length {α : Type} (f : α → List Int) (sz : Nat) (L : List α) (h : ∀ x ∈ L, (f x).length = sz) : (cat f L).length = sz * L.length := by
  induction L with
  | nil => rfl
  | cons x L ih =>
    have h1 := ih fun y hy => h y (List.mem_cons_of_mem _ hy)
    have h2 := h x (List.mem_cons_self ..)
    rw [cat, List.length_append, h1, h2, List.length_cons, Nat.mul_add]
    omega
/-- k pieces of sz bytes each, from place a on, each told by d. -/
def decs {α : Type} (sz : Nat) (d : List Int → α) (l : List Int) (a k : Nat) : List α := (List.range k).map fun j => d ((l.drop (a + sz * j)).take sz)
theorem decs_length {α : Type} (sz : Nat) (d : List Int → α) (l : List Int) (a k : Nat) : (decs sz d l a k).length = k := by simp [decs]
theorem decs_succ {α : Type} (sz : Nat) (d : List Int → α) (l : List Int) (a k : Nat) : decs sz d l a (k + 1) = decs sz d l a k ++ [d ((l.drop (a + sz * k)).take sz)] := by simp [decs, List.range_succ]
/-- What is told is put as the very bytes. -/
theorem cat_decs {α : Type} (sz : Nat) (d : List Int → α) (f : α → List Int) (l : List Int) (a : Nat) : ∀ k, (∀ j, j < k → f (d ((l.drop (a + sz * j)).take sz)) = (l.drop (a + sz * j)).take sz) → cat f (decs sz d l a k) = (l.drop a).take (sz * k)
  | 0, _ => by simp [decs, cat]
  | k + 1, h => by
    rw [decs_succ, cat_append, cat_decs sz d f l a k (fun j hj => h j (by omega)), cat, cat, List.append_nil, h k (by omega), cut_join l a (sz * k) sz _ rfl, Nat.mul_succ]
/-- What is put is told. -/
theorem decs_cat {α : Type} (sz : Nat) (d : List Int → α) (f : α → List Int) : ∀ (L : List α) (pre post : List Int) (p : Nat), pre.length = p → (∀ x ∈ L, (f x).length = sz ∧ d (f x) = x) → decs sz d (pre ++ (cat f L ++ post)) p L.length = L
  | [], _, _, _, _, _ => rfl
  | x :: L, pre, post, p, hp, h => by
    obtain ⟨h1, h2⟩ := h x (List.mem_cons_self ..)
    have ih := decs_cat sz d f L (pre ++ f x) post (p + sz) (by simp [hp, h1]) fun y hy => h y (List.mem_cons_of_mem _ hy)
    have e : pre ++ (cat f (x :: L) ++ post) = (pre ++ f x) ++ (cat f L ++ post) := by simp [cat]
    unfold decs at ih ⊢
    rw [List.length_cons, List.range_succ_eq_map, List.map_cons, List.map_map]
    congr 1
    · rw [Nat.mul_zero, Nat.add_zero, List.drop_left' hp, cat, List.append_assoc, List.take_left' h1, h2]
    · rw [e]
      conv => rhs; rw [← ih]
      apply List.map_congr_left
      intro j _
      show d _ = d _
      rw [show p + sz * (j + 1) = p + sz + sz * j by rw [Nat.mul_add]; omega]

/-- Words of four bytes. -/
def wordsAt (l : List Int) (a k : Nat) : List Int := (List.range k).map fun j => wordAt l (a + 4 * j) 4
theorem wordsAt_eq (l : List Int) (a k : Nat) : wordsAt l a k = decs 4 num l a k := rfl
theorem wordsAt_length (l : List Int) (a k : Nat) : (wordsAt l a k).length = k := by simp [wordsAt]
theorem wordsAt_succ (l : List Int) (a k : Nat) : wordsAt l a (k + 1) = wordsAt l a k ++ [wordAt l (a + 4 * k) 4] := by simp [wordsAt, List.range_succ]
theorem encs_cat (m : Nat) (L : List Int) : encs m L = cat (fun x => enc x m) L := by
  induction L with
  | nil => rfl
  | cons x L ih => rw [cat, ← ih]; rfl
theorem chunk_len (l : List Int) (a sz k j : Nat) (h : a + sz * k ≤ l.length) (hj : j < k) : ((l.drop (a + sz * j)).take sz).length = sz := by
  have : sz * (j + 1) ≤ sz * k := Nat.mul_le_mul_left sz (by omega)
  rw [Nat.mul_add] at this
  rw [List.length_take, List.length_drop]
  omega
theorem encs_wordsAt (l : List Int) (a k : Nat) (hb : Byt l) (h : a + 4 * k ≤ l.length) : encs 4 (wordsAt l a k) = (l.drop a).take (4 * k) := by
  rw [encs_cat, wordsAt_eq]
  exact cat_decs 4 num _ l a k fun j hj => enc_num 4 _ (chunk_len l a 4 k j h hj) (by omega) ((hb.drop _).take 4)
theorem wordsAt_encs (S pre post : List Int) (p : Nat) (hp : pre.length = p) (hS : ∀ x ∈ S, 0 ≤ x ∧ x < 4294967296) : wordsAt (pre ++ (encs 4 S ++ post)) p S.length = S := by
  rw [encs_cat, wordsAt_eq]
  refine decs_cat 4 num _ S pre post p hp fun x hx => ⟨enc_length _ _, ?_⟩
  have := hS x hx
  rw [num_enc _ 4 (by omega) (by omega)]
  omega

/-- A key out of twelve bytes. -/
def kyDec (s : List Int) : Ky := ⟨wordAt s 0 4, wordAt s 4 4, wordAt s 8 4⟩
def kysAt (l : List Int) (a k : Nat) : List Ky := decs 12 kyDec l a k
theorem keysBs_cat (L : List Ky) : keysBs L = cat keyBs L := by
  induction L with
  | nil => rfl
  | cons x L ih => rw [cat, ← ih]; rfl
theorem kyDec_put (s : List Int) (hs : s.length = 12) (hb : Byt s) : keyBs (kyDec s) = s := by
  unfold keyBs kyDec
  simp only []
  rw [enc_word s 0 4 hb (by omega) (by omega), enc_word s 4 4 hb (by omega) (by omega), enc_word s 8 4 hb (by omega) (by omega), cut_join s 4 4 4 8 rfl, cut_join s 0 4 8 4 rfl, List.drop_zero]
  exact List.take_of_length_le (by omega)
theorem kyDec_of (k : Ky) (h : keyB k = true) : kyDec (keyBs k) = k := by
  unfold keyB at h
  simp only [Bool.and_eq_true, inB_iff] at h
  obtain ⟨h1, h2, h3⟩ := h
  rw [fit_iff 4 _ (by omega) (by omega), decide_eq_true_iff, num_enc _ 4 (by omega) (by omega)] at h2
  unfold kyDec keyBs
  rw [wordAt_mid _ [] (enc k.kind 4) (enc k.id 4 ++ enc k.adv 4) 0 4 (by simp) rfl (enc_length _ _),
    wordAt_mid _ (enc k.kind 4) (enc k.id 4) (enc k.adv 4) 4 4 (by simp) (enc_length _ _) (enc_length _ _),
    wordAt_mid _ (enc k.kind 4 ++ enc k.id 4) (enc k.adv 4) [] 8 4 (by simp) (by simp [enc_length]) (enc_length _ _)]
  rw [num_enc _ 4 (by omega) (by omega), num_enc _ 4 (by omega) (by omega), num_enc _ 4 (by omega) (by omega)]
  have e1 : k.kind % 256 ^ 4 = k.kind := by omega
  have e3 : k.adv % 256 ^ 4 = k.adv := by omega
  rw [e1, h2, e3]
theorem keysBs_kysAt (l : List Int) (a k : Nat) (hb : Byt l) (h : a + 12 * k ≤ l.length) : keysBs (kysAt l a k) = (l.drop a).take (12 * k) := by
  rw [keysBs_cat]
  exact cat_decs 12 kyDec _ l a k fun j hj => kyDec_put _ (chunk_len l a 12 k j h hj) ((hb.drop _).take 12)
theorem kysAt_keysBs (L : List Ky) (pre post : List Int) (p : Nat) (hp : pre.length = p) (hL : ∀ x ∈ L, keyB x = true) : kysAt (pre ++ (keysBs L ++ post)) p L.length = L := by
  rw [keysBs_cat]
  exact decs_cat 12 kyDec _ L pre post p hp fun x hx => ⟨keyBs_length x, kyDec_of x (hL x hx)⟩

/-- A head out of twenty bytes. -/
def hdDec (s : List Int) : Hd := if okHead s = true then headOf s else zeroHd
theorem hdsAt_eq (l : List Int) (a k : Nat) : hdsAt l a k = decs 20 hdDec l a k := rfl
theorem headsBs_cat (L : List Hd) : headsBs L = cat headBytes L := by
  induction L with
  | nil => rfl
  | cons x L ih => rw [cat, ← ih]; rfl
theorem headsBs_hdsAt (l : List Int) (a k : Nat) (hb : Byt l) (h : a + 20 * k ≤ l.length) (hok : okHds l a k = true) : headsBs (hdsAt l a k) = (l.drop a).take (20 * k) := by
  rw [headsBs_cat, hdsAt_eq]
  refine cat_decs 20 hdDec _ l a k fun j hj => ?_
  have h1 := chunk_len l a 20 k j h hj
  unfold okHds at hok
  rw [List.all_eq_true] at hok
  have h2 := hok j (List.mem_range.2 hj)
  unfold hdDec
  rw [if_pos h2]
  unfold okHead at h2
  rw [Bool.and_eq_true, decide_eq_true_iff] at h2
  rw [headBytes_of _ (by omega) ((hb.drop _).take 20) h2.1]
  exact List.take_of_length_le (by omega)
theorem hdB_dec (h : Hd) (hh : hdB h = true) : okHead (headBytes h) = true ∧ headOf (headBytes h) = h := by
  unfold hdB at hh
  rw [Bool.and_eq_true, sameHd_iff] at hh
  exact hh
theorem hdsAt_headsBs (L : List Hd) (pre post : List Int) (p : Nat) (hp : pre.length = p) (hL : ∀ x ∈ L, hdB x = true) : hdsAt (pre ++ (headsBs L ++ post)) p L.length = L := by
  rw [headsBs_cat, hdsAt_eq]
  refine decs_cat 20 hdDec _ L pre post p hp fun x hx => ⟨headBytes_length x, ?_⟩
  obtain ⟨h1, h2⟩ := hdB_dec x (hL x hx)
  unfold hdDec
  rw [if_pos h1, h2]
theorem okHds_headsBs (L : List Hd) (pre post : List Int) (p : Nat) (hp : pre.length = p) (hL : ∀ x ∈ L, hdB x = true) : okHds (pre ++ (headsBs L ++ post)) p L.length = true := by
  have h := decs_cat 20 (fun s => s) (fun x => x) (L.map headBytes) pre post p hp (by
    intro x hx
    obtain ⟨y, _, rfl⟩ := List.mem_map.1 hx
    exact ⟨headBytes_length y, rfl⟩)
  have e : cat (fun x => x) (L.map headBytes) = headsBs L := by
    rw [headsBs_cat]
    clear h hL
    induction L with
    | nil => rfl
    | cons x L ih => rw [List.map_cons, cat, cat, ih]
  rw [e, List.length_map] at h
  unfold okHds
  have e2 : ((List.range L.length).all fun j => okHead (((pre ++ (headsBs L ++ post)).drop (p + 20 * j)).take 20)) = (decs 20 (fun s => s) (pre ++ (headsBs L ++ post)) p L.length).all okHead := by
    unfold decs
    rw [List.all_map]
    rfl
  rw [e2, h, List.all_eq_true]
  intro x hx
  obtain ⟨y, hy, rfl⟩ := List.mem_map.1 hx
  exact (hdB_dec y (hL y hy)).1
end Go.Proofs.YtekhgkkgmkodmaaGreat
