/- The method rest of packet's reader, of each kind. Conditions: 24 to 2^20 bytes. -/
import Derived.Laws.EntriesVeiled
import Derived.Test.YtekhgkkgmkodmaaGreatJaw
import Derived.Test.YtekhgkkgmkodmaaGreatJax
import Derived.Test.YtekhgkkgmkodmaaGreatJay
namespace Go.Proofs.YtekhgkkgmkodmaaGreat
open Go.RowKit

/-- What rest leaves. -/
def RestR (w : World) (g q : Nat) (kd sd : Int) (wr0 : Bool) (l : List Int) (x : Ending) (w' : World) : Prop :=
  ∃ v pl wr er a e, x = .returned (.tuple #[]) ∧ RSE w' g q v wr er l a e ∧ (∀ lo w2, lo ≤ g → Above lo w' w2 → PkIn w2 w2.heap.size v pl) ∧ PkSm v ∧ Below g w w' ∧ Outcome l kd sd wr0 v pl wr er a e
theorem nx_small {l : List Int} {a m a' : Nat} {e y e' : Int} (hb : Byt l) (hm : m ≤ 4) (h : NxP l a e m y a' e') : 0 ≤ y ∧ y ≤ 4294967295 := by
  rcases h with ⟨_, h2, h3, _⟩ | ⟨_, _, h3⟩
  · have hbd := wordAt_bd l hb a m h2
    rw [h3]
    have hc : m = 0 ∨ m = 1 ∨ m = 2 ∨ m = 3 ∨ m = 4 := by omega
    generalize wordAt l a m = z at *
    rcases hc with rfl | rfl | rfl | rfl | rfl <;> omega
  · omega
theorem sm_of {s1 s2 s3 s4 s5 : Sl} {k sd e d p r1 r2 q : Int} {i m s : Bool} (h1 : s1.n ≤ maxLen) (h2 : s2.n ≤ maxLen) (h3 : s3.n ≤ maxLen) (h4 : s4.n ≤ maxLen) (h5 : s5.n ≤ maxLen) (hq : 0 ≤ q ∧ q ≤ 4294967295) : PkSm ⟨k, sd, e, d, p, r1, r2, s1, i, m, s, q, s2, s3, s4, s5⟩ :=
  ⟨h1, h2, h3, h4, h5, by show _ ≤ q; omega, by show q ≤ _; omega⟩

theorem kysAt_small (l : List Int) (hb : Byt l) (a k : Nat) (h : a + 12 * k ≤ l.length) : ∀ x ∈ kysAt l a k, 0 ≤ x.id ∧ x.id < 4294967296 := by
  intro x hx
  unfold kysAt decs at hx
  obtain ⟨j, hj, rfl⟩ := List.mem_map.1 hx
  rw [List.mem_range] at hj
  have h1 := chunk_len l a 12 k j h hj
  have h2 := wordAt_bd ((l.drop (a + 12 * j)).take 12) ((hb.drop _).take 12) 4 4 (by omega)
  rw [show (256 : Int) ^ 4 = 4294967296 by decide] at h2
  exact h2
set_option maxRecDepth 8000 in
set_option maxHeartbeats 8000000 in
theorem rest1 (g q : Nat) (sd : Int) (wr0 : Bool) (l : List Int) (w : World) (h : RS w g q (zeroP 1 sd) wr0 0 l 24) (hl : l.length ≤ 1048576) (h24 : 24 ≤ l.length) :
    Calls Tryz.prog 68 #[.pointer (some ⟨g, 0, none⟩)] w (RestR w g q 1 sd wr0 l) := by
  generalize hQ : RestR w g q 1 sd wr0 l = Q
  have HQ := Lib.hid hQ
  obtain ⟨hb, hrd⟩ := h
  have KB0 := Lib.hid (show Blk w g 95 #[.pointer (some ⟨q, 0, none⟩), .int .i64 1, .int .i64 sd, .int .i64 0, .int .i64 0, .int .i64 0, .int .i64 0, .int .i64 0, .slice none 0 0, .bool false, .bool false, .bool false, .int .i64 0, .slice none 0 0, .slice none 0 0, .slice none 0 0, .slice none 0 0, .bool wr0, .int .i64 0] from hb)
  have RD0 := Lib.hid hrd
  have HBY := Lib.hid hrd.toE.byt
  have hgw : g < w.heap.size := hb.lt
  clear hQ hb hrd
  obtain ⟨a0, a1, a2, a3, a4, a5, a6, a7, a8, a9, a10, a11, a12, a13, a14, a15, a16, a17, a18⟩ := KB0.out.nt
  go_enter Tryz.func68, Tryz.ntmps68
  go_wp2_with fail
  refine (hello_any g q 1 sd wr0 l _ ⟨KB0.out.alloc _, RD0.out.alloc _⟩ hl).mono ?_
  rintro e1 w1 ⟨x0, y, x1, x2, x3, x4, a1, a2, a3, a4, a5, a6, z1, z2, z3, z4, z5, z6, A, k, c, rfl, n1, n2, n3, n4, n5, n6, hk, hown, hrs, hb1⟩
  have B1 := Lib.hid (show Below g w w1 from ((Below.refl g w).alloc (by omega) _).trans hb1)
  clear hb1
  go_wp2
  refine bodyPost_end (results_none rfl _ _ _) rfl ?_
  rw [← HQ.out]
  obtain ⟨_, _, e9, hc, hm, _⟩ := row_of_ints hown (wordsAt_length l a6 k)
  injection e9 with e9 _ e9'
  subst e9 e9'
  exact ⟨_, ⟨wordsAt l a6 k, [], [], [], []⟩, _, _, _, _, rfl, hrs, (fun K w2 hK hg => by
    obtain ⟨_, _, e8, _, _, hrow⟩ := row_of_ints (own_above hown hg (by simp; omega)) (wordsAt_length l a6 k)
    injection e8 with e8 _ e8'
    subst e8 e8'
    exact ⟨hrow, Arr.nil, Arr.nil, Arr.nil, Arr.nil⟩), sm_of (Nat.le_trans hc hm) (Nat.zero_le _) (Nat.zero_le _) (Nat.zero_le _) (Nat.zero_le _) (by omega), B1.out, hello_out l HBY.out h24 sd wr0 A k c n1 n2 n3 n4 n5 n6 hk⟩
set_option maxRecDepth 8000 in
set_option maxHeartbeats 8000000 in
theorem rest2 (g q : Nat) (sd : Int) (wr0 : Bool) (l : List Int) (w : World) (h : RS w g q (zeroP 2 sd) wr0 0 l 24) (hl : l.length ≤ 1048576) (h24 : 24 ≤ l.length) :
    Calls Tryz.prog 68 #[.pointer (some ⟨g, 0, none⟩)] w (RestR w g q 2 sd wr0 l) := by
  generalize hQ : RestR w g q 2 sd wr0 l = Q
  have HQ := Lib.hid hQ
  obtain ⟨hb, hrd⟩ := h
  have KB0 := Lib.hid (show Blk w g 95 #[.pointer (some ⟨q, 0, none⟩), .int .i64 2, .int .i64 sd, .int .i64 0, .int .i64 0, .int .i64 0, .int .i64 0, .int .i64 0, .slice none 0 0, .bool false, .bool false, .bool false, .int .i64 0, .slice none 0 0, .slice none 0 0, .slice none 0 0, .slice none 0 0, .bool wr0, .int .i64 0] from hb)
  have RD0 := Lib.hid hrd
  have HBY := Lib.hid hrd.toE.byt
  have hgw : g < w.heap.size := hb.lt
  clear hQ hb hrd
  obtain ⟨a0, a1, a2, a3, a4, a5, a6, a7, a8, a9, a10, a11, a12, a13, a14, a15, a16, a17, a18⟩ := KB0.out.nt
  go_enter Tryz.func68, Tryz.ntmps68
  go_wp2_with fail
  refine (dd_any (zeroP 2 sd) wr0 0 g q 24 0 l _ (show RS _ g q (zeroP 2 sd) wr0 0 l 24 from ⟨KB0.out.alloc _, RD0.out.alloc _⟩).toE hl).mono ?_
  rintro e1 w1 ⟨y1, y2, fl, sq, a1, a2, a3, a4, z1, z2, z3, z4, b1, b2, b3, A, k, c, rfl, n1, n2, n3, n4, rfl, rfl, rfl, hk, hown, hrs, hb1⟩
  have B1 := Lib.hid (show Below g w w1 from ((Below.refl g w).alloc (by omega) _).trans hb1)
  clear hb1
  go_wp2
  refine bodyPost_end (results_none rfl _ _ _) rfl ?_
  rw [← HQ.out]
  obtain ⟨_, _, e9, hc, hm, _⟩ := hds_of_own hown (hdsAt_length l a4 k)
  injection e9 with e9 _ e9'
  subst e9 e9'
  exact ⟨_, ⟨[], hdsAt l a4 k, [], [], []⟩, _, _, _, _, rfl, hrs, (fun K w2 hK hg => by
    obtain ⟨_, _, e8, _, _, hrow⟩ := hds_of_own (own_above hown hg (by simp; omega)) (hdsAt_length l a4 k)
    injection e8 with e8 _ e8'
    subst e8 e8'
    exact ⟨Row.nil, hrow, Arr.nil, Arr.nil, Arr.nil⟩), sm_of (Nat.zero_le _) (Nat.le_trans hc hm) (Nat.zero_le _) (Nat.zero_le _) (Nat.zero_le _) (nx_small HBY.out (Nat.le_refl _) n4), B1.out, dd_out l HBY.out h24 sd wr0 A k c n1 n2 n3 n4 hk⟩
set_option maxRecDepth 8000 in
set_option maxHeartbeats 8000000 in
theorem rest3 (hW : WantOk) (g q : Nat) (sd : Int) (wr0 : Bool) (l : List Int) (w : World) (h : RS w g q (zeroP 3 sd) wr0 0 l 24) (hl : l.length ≤ 1048576) (h24 : 24 ≤ l.length) :
    Calls Tryz.prog 68 #[.pointer (some ⟨g, 0, none⟩)] w (RestR w g q 3 sd wr0 l) := by
  generalize hQ : RestR w g q 3 sd wr0 l = Q
  have HQ := Lib.hid hQ
  obtain ⟨hb, hrd⟩ := h
  have KB0 := Lib.hid (show Blk w g 95 #[.pointer (some ⟨q, 0, none⟩), .int .i64 3, .int .i64 sd, .int .i64 0, .int .i64 0, .int .i64 0, .int .i64 0, .int .i64 0, .slice none 0 0, .bool false, .bool false, .bool false, .int .i64 0, .slice none 0 0, .slice none 0 0, .slice none 0 0, .slice none 0 0, .bool wr0, .int .i64 0] from hb)
  have RD0 := Lib.hid hrd
  have HBY := Lib.hid hrd.toE.byt
  have hgw : g < w.heap.size := hb.lt
  clear hQ hb hrd
  obtain ⟨a0, a1, a2, a3, a4, a5, a6, a7, a8, a9, a10, a11, a12, a13, a14, a15, a16, a17, a18⟩ := KB0.out.nt
  go_enter Tryz.func68, Tryz.ntmps68
  go_wp2_with fail
  refine (hW g q 3 sd wr0 l _ ⟨KB0.out.alloc _, RD0.out.alloc _⟩ hl h24).mono ?_
  rintro e1 w1 ⟨A, k, c, rfl, hk, hown, hrs, hb1⟩
  have B1 := Lib.hid (show Below g w w1 from ((Below.refl g w).alloc (by omega) _).trans hb1)
  clear hb1
  go_wp2
  refine bodyPost_end (results_none rfl _ _ _) rfl ?_
  rw [← HQ.out]
  obtain ⟨_, _, e9, hc, hm, _⟩ := kys_of_own hown (decs_length 12 kyDec l 24 k) (kysAt_small l HBY.out 24 k (by omega))
  injection e9 with e9 _ e9'
  subst e9 e9'
  exact ⟨_, ⟨[], [], kysAt l 24 k, [], []⟩, _, _, _, _, rfl, hrs.toE, (fun K w2 hK hg => by
    obtain ⟨_, _, e8, _, _, hrow⟩ := kys_of_own (own_above hown hg (by simp; omega)) (decs_length 12 kyDec l 24 k) (kysAt_small l HBY.out 24 k (by omega))
    injection e8 with e8 _ e8'
    subst e8 e8'
    exact ⟨Row.nil, Arr.nil, hrow, Arr.nil, Arr.nil⟩), sm_of (Nat.zero_le _) (Nat.zero_le _) (Nat.le_trans hc hm) (Nat.zero_le _) (Nat.zero_le _) (by omega), B1.out, want_out l HBY.out h24 sd wr0 A k c hk⟩
set_option maxRecDepth 8000 in
set_option maxHeartbeats 8000000 in
theorem rest4 (g q : Nat) (sd : Int) (wr0 : Bool) (l : List Int) (w : World) (h : RS w g q (zeroP 4 sd) wr0 0 l 24) (hl : l.length ≤ 1048576) (h24 : 24 ≤ l.length) :
    Calls Tryz.prog 68 #[.pointer (some ⟨g, 0, none⟩)] w (RestR w g q 4 sd wr0 l) := by
  generalize hQ : RestR w g q 4 sd wr0 l = Q
  have HQ := Lib.hid hQ
  obtain ⟨hb, hrd⟩ := h
  have KB0 := Lib.hid (show Blk w g 95 #[.pointer (some ⟨q, 0, none⟩), .int .i64 4, .int .i64 sd, .int .i64 0, .int .i64 0, .int .i64 0, .int .i64 0, .int .i64 0, .slice none 0 0, .bool false, .bool false, .bool false, .int .i64 0, .slice none 0 0, .slice none 0 0, .slice none 0 0, .slice none 0 0, .bool wr0, .int .i64 0] from hb)
  have RD0 := Lib.hid hrd
  have HBY := Lib.hid hrd.toE.byt
  have hgw : g < w.heap.size := hb.lt
  clear hQ hb hrd
  obtain ⟨a0, a1, a2, a3, a4, a5, a6, a7, a8, a9, a10, a11, a12, a13, a14, a15, a16, a17, a18⟩ := KB0.out.nt
  go_enter Tryz.func68, Tryz.ntmps68
  go_wp2_with fail
  refine (update_any g q 4 sd wr0 l _ ⟨KB0.out.alloc _, RD0.out.alloc _⟩ hl).mono ?_
  rintro e1 w1 ⟨m, a1, a2, z1, bs, A, k, c, L, er, wr, rfl, n1, hbs, hL, her, hwr, hk, hlas, hrs, hb1⟩
  have B1 := Lib.hid (show Below g w w1 from ((Below.refl g w).alloc (by omega) _).trans hb1)
  clear hb1
  go_wp2
  refine bodyPost_end (results_none rfl _ _ _) rfl ?_
  rw [← HQ.out]
  exact ⟨_, ⟨[], [], [], L, []⟩, _, _, _, _, rfl, hrs, fun K w2 hK hg => ⟨Row.nil, Arr.nil, Arr.nil, hlas K w2 (by omega) hg, Arr.nil⟩, sm_of (Nat.zero_le _) (Nat.zero_le _) (Nat.zero_le _) hk (Nat.zero_le _) (by omega), B1.out, update_out l HBY.out h24 sd wr0 A k c n1 hbs hL her hwr⟩
set_option maxRecDepth 8000 in
set_option maxHeartbeats 8000000 in
theorem rest5 (g q : Nat) (sd : Int) (wr0 : Bool) (l : List Int) (w : World) (h : RS w g q (zeroP 5 sd) wr0 0 l 24) (hl : l.length ≤ 1048576) (h24 : 24 ≤ l.length) :
    Calls Tryz.prog 68 #[.pointer (some ⟨g, 0, none⟩)] w (RestR w g q 5 sd wr0 l) := by
  generalize hQ : RestR w g q 5 sd wr0 l = Q
  have HQ := Lib.hid hQ
  obtain ⟨hb, hrd⟩ := h
  have KB0 := Lib.hid (show Blk w g 95 #[.pointer (some ⟨q, 0, none⟩), .int .i64 5, .int .i64 sd, .int .i64 0, .int .i64 0, .int .i64 0, .int .i64 0, .int .i64 0, .slice none 0 0, .bool false, .bool false, .bool false, .int .i64 0, .slice none 0 0, .slice none 0 0, .slice none 0 0, .slice none 0 0, .bool wr0, .int .i64 0] from hb)
  have RD0 := Lib.hid hrd
  have HBY := Lib.hid hrd.toE.byt
  have hgw : g < w.heap.size := hb.lt
  clear hQ hb hrd
  obtain ⟨a0, a1, a2, a3, a4, a5, a6, a7, a8, a9, a10, a11, a12, a13, a14, a15, a16, a17, a18⟩ := KB0.out.nt
  go_enter Tryz.func68, Tryz.ntmps68
  go_wp2_with fail
  refine (ack_any (zeroP 5 sd) wr0 0 g q 24 0 l _ (show RS _ g q (zeroP 5 sd) wr0 0 l 24 from ⟨KB0.out.alloc _, RD0.out.alloc _⟩).toE hl).mono ?_
  rintro e1 w1 ⟨A, k, c, rfl, hk, hown, hrs, hb1⟩
  have B1 := Lib.hid (show Below g w w1 from ((Below.refl g w).alloc (by omega) _).trans hb1)
  clear hb1
  go_wp2
  refine bodyPost_end (results_none rfl _ _ _) rfl ?_
  rw [← HQ.out]
  obtain ⟨_, _, e9, hc, hm, _⟩ := hds_of_own hown (hdsAt_length l 24 k)
  injection e9 with e9 _ e9'
  subst e9 e9'
  exact ⟨_, ⟨[], [], [], [], hdsAt l 24 k⟩, _, _, _, _, rfl, hrs, (fun K w2 hK hg => by
    obtain ⟨_, _, e8, _, _, hrow⟩ := hds_of_own (own_above hown hg (by simp; omega)) (hdsAt_length l 24 k)
    injection e8 with e8 _ e8'
    subst e8 e8'
    exact ⟨Row.nil, Arr.nil, Arr.nil, Arr.nil, hrow⟩), sm_of (Nat.zero_le _) (Nat.zero_le _) (Nat.zero_le _) (Nat.zero_le _) (Nat.le_trans hc hm) (show (0 : Int) ≤ 0 ∧ (0 : Int) ≤ 4294967295 by omega), B1.out, ack_out l HBY.out h24 sd wr0 A k c hk⟩
theorem rest_any (hW : WantOk) (g q : Nat) (kd sd : Int) (wr0 : Bool) (l : List Int) (w : World) (hk : 1 ≤ kd ∧ kd ≤ 5) (h : RS w g q (zeroP kd sd) wr0 0 l 24) (hl : l.length ≤ 1048576) (h24 : 24 ≤ l.length) :
    Calls Tryz.prog 68 #[.pointer (some ⟨g, 0, none⟩)] w (RestR w g q kd sd wr0 l) := by
  have : kd = 1 ∨ kd = 2 ∨ kd = 3 ∨ kd = 4 ∨ kd = 5 := by omega
  rcases this with rfl | rfl | rfl | rfl | rfl
  · exact rest1 g q sd wr0 l w h hl h24
  · exact rest2 g q sd wr0 l w h hl h24
  · exact rest3 hW g q sd wr0 l w h hl h24
  · exact rest4 g q sd wr0 l w h hl h24
  · exact rest5 g q sd wr0 l w h hl h24
end Go.Proofs.YtekhgkkgmkodmaaGreat
