/- The call PutHead of package lsa and the reference's HeadBytes: the twenty bytes of a head. No conditions. -/
import Derived.Test.YtidncajbedgplaaLsD
import Derived.Test.YtidncajbedgplaaQuG
namespace Go.Proofs.Ytidncajbedgplaa
open Go.RowKit

/-- The twenty bytes of a head. -/
def headBytes (h : Hd) : List Int := enc h.age 2 ++ (enc 0 1 ++ (enc h.kind 1 ++ (enc h.id 4 ++ (enc h.adv 4 ++ (enc h.seq 4 ++ (enc h.sum 2 ++ enc h.long 2))))))
theorem headBytes_length (h : Hd) : (headBytes h).length = 20 := by simp [headBytes, enc_length]
theorem headBytes_byt (h : Hd) : Byt (headBytes h) := by
  unfold headBytes
  repeat' (first | exact enc_byt _ _ | refine Byt.append ?_ ?_)

theorem row_at (w : World) (zs : List Int) (t : TypeId) (q : IntKind) (z m : Nat) (hz : w.heap.size = z) (hm : zs.length = m) : Row q (w.alloc (.cells (zs.map (Value.int q)).toArray t)) (z + 1) (some ⟨z, 0, none⟩) m zs := by
  subst hz
  refine ⟨hm, fun _ => ⟨_, _, rfl, by omega, fun j hj => ?_⟩⟩
  rw [(Blk.new w t _).cell, Nat.zero_add, List.getElem?_toArray, List.getElem?_map, List.getD_eq_getElem?_getD, List.getElem?_eq_getElem (by omega)]; rfl
/-- A row of n bytes of its own, L, is answered; what was in W is as it was. -/
def PutN (W : World) (L : List Int) (n : Nat) (x : Ending) (w' : World) : Prop :=
  ∃ A c, x = .returned (.slice A n c) ∧ n ≤ c ∧ c ≤ maxLen ∧ Row .u8 w' w'.heap.size A n L ∧ Below W.heap.size W w'
theorem putN_of {W w' : World} {L : List Int} {x : Ending} (n : Nat) (h : Put0 W L x w') (hn : L.length = n) : PutN W L n x w' := by
  subst hn
  exact h
theorem put0_of {W w' : World} {L : List Int} {x : Ending} {n : Nat} (h : PutN W L n x w') (hn : L.length = n) : Put0 W L x w' := by
  subst hn
  exact h
/-- v is a row of n bytes of the call's own, L; what was in w0 is as it was. -/
def Acc (w0 w : World) (v : Value) (n : Nat) (L : List Int) : Prop := w.ownsRow w0.heap.size 5 1 v n (L.map (Value.int .u8)) ∧ Below w0.heap.size w0 w
theorem Acc.nil {w0 w : World} (h : Below w0.heap.size w0 w) : Acc w0 w (.slice none 0 0) 0 [] := ⟨World.ownsRow_nil w _ _ _, h⟩
theorem Acc.below {w0 w w' : World} {v : Value} {n : Nat} {L : List Int} (h : Acc w0 w v n L) (hb : Below w.heap.size w w') : Acc w0 w' v n L :=
  ⟨own_below h.1 hb, h.2.trans (hb.mono h.2.size)⟩
theorem Acc.alloc {w0 w : World} {v : Value} {n : Nat} {L : List Int} (h : Acc w0 w v n L) (o : Obj) : Acc w0 (w.alloc o) v n L :=
  h.below ((Below.refl _ _).alloc (Nat.le_refl _) o)
theorem Acc.putN {w0 w : World} {v : Value} {n : Nat} {L : List Int} (h : Acc w0 w v n L) : PutN w0 L n (.returned v) w := by
  have hl : L.length = n := by have := h.1.1; simpa using this
  subst hl
  exact putN_of _ (put0_of_own h.1 h.2) rfl
theorem Acc.blk {w0 w : World} {v : Value} {n g : Nat} {L : List Int} {t : TypeId} {cs : Array Value} (h : Acc w0 w v n L) (hb : Blk w0 g t cs) : Blk w g t cs := hb.below h.2 hb.lt
theorem own_lower {w : World} {b b' : Nat} {t : TypeId} {v : Value} {n : Nat} {xs : List Value} (h : w.ownsRow b t 1 v n xs) (hb : b' ≤ b) : w.ownsRow b' t 1 v n xs := by
  refine ⟨h.1, ?_⟩
  rcases h.2 with h0 | ⟨g, cap, cur, h1, h2, h3⟩
  · exact .inl h0
  · exact .inr ⟨g, cap, cur, h1, Nat.le_trans hb h2, h3⟩
theorem Acc.lower {w w0 w1 : World} {v : Value} {n : Nat} {L : List Int} (h : Acc w0 w1 v n L) (hb : Below w.heap.size w w0) : Acc w w1 v n L :=
  ⟨own_lower h.1 hb.size, hb.trans (h.2.mono hb.size)⟩
/-- A row of n bytes of the call's own, L, is answered. -/
def PutA (W : World) (L : List Int) (n : Nat) (x : Ending) (w' : World) : Prop := ∃ v, x = .returned v ∧ Acc W w' v n L
/-- Put of numbers that were laid out for it. -/
theorem put_newA (A : Option Addr) (n c m n' k : Nat) (wd : Int) (l zs L : List Int) (W : World) (z : Nat) (hz : W.heap.size = z) (hk : zs.length = k) (hm : (hold wd).toNat = m) (hL : l ++ encs m zs = L) (hr : Row .u8 W W.heap.size A n l) (hn : n ≤ 100000) (hk2 : k ≤ 100000) (hn' : n + k * m = n') :
    Calls Try.prog 44 #[.slice A n c, .int .i64 wd, .slice (some ⟨z, 0, none⟩) k k] (W.alloc (.cells (zs.map (Value.int .i64)).toArray 3)) (PutA W L n') := by
  refine (put_own A (some ⟨z, 0, none⟩) n c k k W.heap.size (z + 1) wd l zs _ (hr.alloc (Nat.le_refl _) _) (row_at W zs 3 .i64 z k hz hk) (by simp) (by simp; omega) hn hk2).mono ?_
  intro x w' h
  rw [hm, hL] at h
  obtain ⟨v, rfl, h1, h2⟩ := h
  have hl : L.length = n' := by rw [← hL, List.length_append, encs_length, hr.1, hk, hn']
  rw [hl] at h1
  exact ⟨v, rfl, Acc.lower ⟨h1, h2⟩ ((Below.refl _ _).alloc (Nat.le_refl _) _)⟩
theorem put_new (A : Option Addr) (n c m n' k : Nat) (wd : Int) (l zs L : List Int) (W : World) (z : Nat) (hz : W.heap.size = z) (hk : zs.length = k) (hm : (hold wd).toNat = m) (hL : l ++ encs m zs = L) (hr : Row .u8 W W.heap.size A n l) (hn : n ≤ 100000) (hk2 : k ≤ 100000) (hn' : n + k * m = n') :
    Calls Try.prog 44 #[.slice A n c, .int .i64 wd, .slice (some ⟨z, 0, none⟩) k k] (W.alloc (.cells (zs.map (Value.int .i64)).toArray 3)) (PutN W L n') := by
  refine (put_newA A n c m n' k wd l zs L W z hz hk hm hL hr hn hk2 hn').mono ?_
  rintro x w' ⟨v, rfl, h⟩
  exact h.putN
theorem Blk.seven {w : World} {g : Nat} {t : TypeId} {a0 a1 a2 a3 a4 a5 a6 : Value} (h : Blk w g t #[a0, a1, a2, a3, a4, a5, a6]) :
    w.cell? ⟨g, 0, none⟩ = some a0 ∧ w.cell? ⟨g, 1, none⟩ = some a1 ∧ w.cell? ⟨g, 2, none⟩ = some a2 ∧ w.cell? ⟨g, 3, none⟩ = some a3 ∧ w.cell? ⟨g, 4, none⟩ = some a4 ∧ w.cell? ⟨g, 5, none⟩ = some a5 ∧ w.cell? ⟨g, 6, none⟩ = some a6 :=
  ⟨h.cell 0, h.cell 1, h.cell 2, h.cell 3, h.cell 4, h.cell 5, h.cell 6⟩

set_option maxHeartbeats 2000000 in
theorem putHead_any (h : Hd) (w : World) : Calls Try.prog 22 #[.agg #[.int .i64 h.age, .int .i64 h.kind, .int .i64 h.id, .int .i64 h.adv, .int .i64 h.seq, .int .i64 h.sum, .int .i64 h.long]] w (PutA w (headBytes h) 20) := by
  generalize hQ : PutA w (headBytes h) 20 = Q
  have HQ := Lib.hid hQ
  clear hQ
  have K0 := Lib.hid (Blk.new w 23 #[.int .i64 h.age, .int .i64 h.kind, .int .i64 h.id, .int .i64 h.adv, .int .i64 h.seq, .int .i64 h.sum, .int .i64 h.long])
  have B0 := Lib.hid ((Below.refl w.heap.size w).alloc (Nat.le_refl _) (.cells #[.int .i64 h.age, .int .i64 h.kind, .int .i64 h.id, .int .i64 h.adv, .int .i64 h.seq, .int .i64 h.sum, .int .i64 h.long] 23))
  go_enter Try.func22, Try.ntmps22
  go_wp2_with fail
  refine (put_new none 0 0 2 2 1 2 [] [h.age] (enc h.age 2) _ _ (by simp) rfl rfl (by simp [encs]) Row.nil (by omega) (by omega) rfl).mono ?_
  rintro e1 w1 ⟨A1, c1, rfl, hc1, hm1, hr1, hb1⟩
  have R1 := Lib.hid hr1
  have K1 := Lib.hid (K0.out.below hb1 (by simp))
  have B1 := Lib.hid (B0.out.trans (hb1.mono (by simp)))
  have hz1 := hb1.size
  simp only [World.size_alloc] at hz1
  obtain ⟨k0, k1, k2, k3, k4, k5, k6⟩ := K1.out.seven
  clear hr1 hb1 K0 B0
  go_wp2_with fail
  refine (put_new A1 2 c1 1 4 2 1 (enc h.age 2) [0, h.kind] (enc h.age 2 ++ (enc 0 1 ++ enc h.kind 1)) _ _ rfl rfl rfl (by simp [encs]) R1.out (by omega) (by omega) rfl).mono ?_
  rintro e2 w2 ⟨A2, c2, rfl, hc2, hm2, hr2, hb2⟩
  have R2 := Lib.hid hr2
  have K2 := Lib.hid (K1.out.below hb2 (by omega))
  have B2 := Lib.hid (B1.out.trans (hb2.mono B1.out.size))
  have hz2 := hb2.size
  clear hr2 hb2 K1 B1 R1 k0 k1 k2 k3 k4 k5 k6
  obtain ⟨k0, k1, k2, k3, k4, k5, k6⟩ := K2.out.seven
  go_wp2_with fail
  refine (put_new A2 4 c2 4 16 3 4 _ [h.id, h.adv, h.seq] (enc h.age 2 ++ (enc 0 1 ++ (enc h.kind 1 ++ (enc h.id 4 ++ (enc h.adv 4 ++ enc h.seq 4))))) _ _ rfl rfl rfl (by simp [encs]) R2.out (by omega) (by omega) rfl).mono ?_
  rintro e3 w3 ⟨A3, c3, rfl, hc3, hm3, hr3, hb3⟩
  have R3 := Lib.hid hr3
  have K3 := Lib.hid (K2.out.below hb3 (by omega))
  have B3 := Lib.hid (B2.out.trans (hb3.mono B2.out.size))
  have hz3 := hb3.size
  clear hr3 hb3 K2 B2 R2 k0 k1 k2 k3 k4 k5 k6
  obtain ⟨k0, k1, k2, k3, k4, k5, k6⟩ := K3.out.seven
  go_wp2_with fail
  refine (put_newA A3 16 c3 2 20 2 2 _ [h.sum, h.long] (headBytes h) _ _ rfl rfl rfl (by simp [encs, headBytes]) R3.out (by omega) (by omega) rfl).mono ?_
  rintro e4 w4 ⟨v4, rfl, hr4⟩
  have R4 := Lib.hid (hr4.lower B3.out)
  clear hr4 B3 R3 k0 k1 k2 k3 k4 k5 k6
  go_wp2
  rw [← HQ.out]
  exact ⟨_, rfl, R4.out⟩
end Go.Proofs.Ytidncajbedgplaa
