/- The reference's Sealed: a copy with its sum and length. Conditions: a right description. · The reference's Put: an error, or the list with it in its place. Conditions: at most 1000 items. -/
import Derived.Test.YtfdfdmbnggpnbaaGreatJaj
import Derived.Test.YtfdfdmbnggpnbaaGreatJai
import Derived.Test.YtfdfdmbnggpnbaaGreatJae
namespace Go.Proofs.YtfdfdmbnggpnbaaGreat
open Go.RowKit

theorem refLsaBytes_any (h : Hd) (L : List Lk) (M : List Int) (A A' : Option Addr) (n c n' c' B m : Nat) (w : World) (hL : Lnk w B A n L) (hM : Row .i64 w B A' n' M) (hB : B ≤ w.heap.size) (hr : rightB h L M = true) (hm : (lsaBytes h L M).length = m) :
    Calls Tryz.prog 64 #[.agg #[.int .i64 h.age, .int .i64 h.kind, .int .i64 h.id, .int .i64 h.adv, .int .i64 h.seq, .int .i64 h.sum, .int .i64 h.long, .slice A n c, .slice A' n' c']] w (PutA w (lsaBytes h L M) m) := by
  obtain ⟨_, h2, _, _, _, h6, h7⟩ := right_facts hr
  by_cases hk : h.kind = 1
  · obtain ⟨e1, e2, _⟩ := h6 hk
    exact refLsaBytes_rt h L M A A' n c n' c' B m w hL hM.1 hB (by have := hL.1; omega) (by rw [← hM.1, e1]; rfl) (by simp [hk]) hm
  · obtain ⟨e1, e2⟩ := h7 (by omega)
    exact refLsaBytes_net h L M A A' n c n' c' B m w hL.1 hM hB (by rw [← hL.1, e1]; rfl) (by have := rise_len M 0 e2 (by omega); have := hM.1; omega) (by simp [hk]) hm
theorem below_grown0 {w w' : World} (h : w.grownBy w' none) : Below w.heap.size w w' := ⟨h.os, h.tape, h.output, h.size, fun k hk => h.block k hk (by simp)⟩
theorem Blk.put7 {w : World} {g : Nat} {t : TypeId} {a0 a1 a2 a3 a4 a5 a6 a7 a8 : Value} (h : Blk w g t #[a0, a1, a2, a3, a4, a5, a6, a7, a8]) (u : Value) : Blk (w.setCell ⟨g, 7, none⟩ u) g t #[a0, a1, a2, a3, a4, a5, a6, u, a8] := by
  have h9 := h.put 7 u
  simpa using h9
theorem Blk.put8 {w : World} {g : Nat} {t : TypeId} {a0 a1 a2 a3 a4 a5 a6 a7 a8 : Value} (h : Blk w g t #[a0, a1, a2, a3, a4, a5, a6, a7, a8]) (u : Value) : Blk (w.setCell ⟨g, 8, none⟩ u) g t #[a0, a1, a2, a3, a4, a5, a6, a7, u] := by
  have h9 := h.put 8 u
  simpa using h9
theorem Blk.put5 {w : World} {g : Nat} {t : TypeId} {a0 a1 a2 a3 a4 a5 a6 a7 a8 : Value} (h : Blk w g t #[a0, a1, a2, a3, a4, a5, a6, a7, a8]) (u : Value) : Blk (w.setCell ⟨g, 5, none⟩ u) g t #[a0, a1, a2, a3, a4, u, a6, a7, a8] := by
  have h9 := h.put 5 u
  simpa using h9
theorem Blk.put6 {w : World} {g : Nat} {t : TypeId} {a0 a1 a2 a3 a4 a5 a6 a7 a8 : Value} (h : Blk w g t #[a0, a1, a2, a3, a4, a5, a6, a7, a8]) (u : Value) : Blk (w.setCell ⟨g, 6, none⟩ u) g t #[a0, a1, a2, a3, a4, a5, u, a7, a8] := by
  have h9 := h.put 6 u
  simpa using h9
theorem sum_piece (h : Hd) (L : List Lk) (M : List Int) : ((lsaBytes h L M).drop 16).take 2 = sumBytes h L M := by
  obtain ⟨X, Y, _, _, _, _, h5, h6⟩ := fill_parts h L M
  have e : lsaBytes h L M = (enc h.age 2 ++ midBytes h) ++ (X :: Y :: (enc (20 + ((bodyBytes h L M).length : Int)) 2 ++ bodyBytes h L M)) := by
    unfold lsaBytes
    rw [raw_take, h6, List.append_assoc]
  have hl : (enc h.age 2 ++ midBytes h).length = 16 := by rw [List.length_append, enc_length, midBytes_length]
  rw [e, List.drop_left' hl, h5]
  rfl

set_option maxRecDepth 8000 in
set_option maxHeartbeats 8000000 in
theorem r7sealed_any (h : Hd) (L : List Lk) (M : List Int) (A A' : Option Addr) (n c n' c' B : Nat) (w : World) (hL : Lnk w B A n L) (hM : Row .i64 w B A' n' M) (hB : B ≤ w.heap.size) (hn : n ≤ 1000) (hn' : n' ≤ 1000) (hr : rightB h L M = true) :
    Calls Tryz.prog 45 #[.agg #[.int .i64 h.age, .int .i64 h.kind, .int .i64 h.id, .int .i64 h.adv, .int .i64 h.seq, .int .i64 h.sum, .int .i64 h.long, .slice A n c, .slice A' n' c']] w (SealOk w (sealHd h L M) L M) := by
  generalize hQ : SealOk w (sealHd h L M) L M = Q
  have HQ := Lib.hid hQ
  clear hQ
  have HL := Lib.hid hL
  have HM := Lib.hid hM
  have HR := Lib.hid hr
  clear hL hM hr
  have K0 := Lib.hid ((Blk.new w 44 #[.int .i64 h.age, .int .i64 h.kind, .int .i64 h.id, .int .i64 h.adv, .int .i64 h.seq, .int .i64 h.sum, .int .i64 h.long, .slice A n c, .slice A' n' c']).alloc (.cells #[.int .i64 0, .int .i64 0, .int .i64 0, .int .i64 0, .int .i64 0, .int .i64 0, .int .i64 0, .slice none 0 0, .slice none 0 0] 44))
  have K1 := Lib.hid (blk_new1 w (.cells #[.int .i64 h.age, .int .i64 h.kind, .int .i64 h.id, .int .i64 h.adv, .int .i64 h.seq, .int .i64 h.sum, .int .i64 h.long, .slice A n c, .slice A' n' c'] 44) 44 #[.int .i64 0, .int .i64 0, .int .i64 0, .int .i64 0, .int .i64 0, .int .i64 0, .int .i64 0, .slice none 0 0, .slice none 0 0])
  have B0 := Lib.hid (below_new2 w (.cells #[.int .i64 h.age, .int .i64 h.kind, .int .i64 h.id, .int .i64 h.adv, .int .i64 h.seq, .int .i64 h.sum, .int .i64 h.long, .slice A n c, .slice A' n' c'] 44) (.cells #[.int .i64 0, .int .i64 0, .int .i64 0, .int .i64 0, .int .i64 0, .int .i64 0, .int .i64 0, .slice none 0 0, .slice none 0 0] 44))
  go_enter Tryz.func45, Tryz.ntmps45
  go_upto_region 1 with fail
  generalize (w.alloc (.cells #[.int .i64 h.age, .int .i64 h.kind, .int .i64 h.id, .int .i64 h.adv, .int .i64 h.seq, .int .i64 h.sum, .int .i64 h.long, .slice A n c, .slice A' n' c'] 44)).alloc (.cells #[.int .i64 0, .int .i64 0, .int .i64 0, .int .i64 0, .int .i64 0, .int .i64 0, .int .i64 0, .slice none 0 0, .slice none 0 0] 44) = w0 at *
  have hs0 := B0.out.size
  have hl0 := K0.out.lt
  have hl1 := K1.out.lt
  obtain ⟨m, hm⟩ : ∃ m, (lsaBytes h L M).length = m := ⟨_, rfl⟩
  have HLN := Lib.hid hm
  have hm20 : 20 ≤ m := by
    have := lsaBytes_length h L M
    omega
  have HML := Lib.hid (show (m : Int) = (sealHd h L M).long by
    have h1 := lsaBytes_length h L M
    have h2 : (sealHd h L M).long = 20 + ((bodyBytes h L M).length : Int) := rfl
    omega)
  clear hm
  go_wp2_with (refine wpList_load_rc (r := ⟨h, ⟨A, n, c⟩, ⟨A', n', c'⟩⟩) (by rfl) (.tmp 1) rfl (by rfl) (rcAt_blk K0.out) ?_)
  refine (refLsaBytes_any h L M A A' n c n' c' B m _ (HL.out.below (B0.out.mono hB)) (HM.out.below (B0.out.mono hB)) (by omega) HR.out HLN.out).mono ?_
  rintro e1 w1 ⟨v1, rfl, ha1⟩
  obtain ⟨A1, c1, rfl, hc1, hm1, hr1⟩ := ha1.form
  have B1 := Lib.hid (B0.out.trans (ha1.2.mono hs0))
  have R1 := Lib.hid hr1
  have C1 := Lib.hid hm1
  have K01 := Lib.hid (K0.out.below ha1.2 hl0)
  have K11 := Lib.hid (K1.out.below ha1.2 hl1)
  have hs1 := B1.out.size
  have hl01 := K01.out.lt
  have hl11 := K11.out.lt
  clear ha1 hr1 hm1 K0 K1 B0
  obtain ⟨k0, k1, k2, k3, k4, k5, k6, k7, k8⟩ := K01.out.nine
  go_upto_region 3 with fail
  have KX := Lib.hid (Blk.new w1 44 #[.int .i64 h.age, .int .i64 h.kind, .int .i64 h.id, .int .i64 h.adv, .int .i64 h.seq, .int .i64 h.sum, .int .i64 h.long, .slice none 0 0, .slice none 0 0])
  have B2 := Lib.hid (B1.out.alloc hs1 (.cells #[.int .i64 h.age, .int .i64 h.kind, .int .i64 h.id, .int .i64 h.adv, .int .i64 h.seq, .int .i64 h.sum, .int .i64 h.long, .slice none 0 0, .slice none 0 0] 44))
  have K02 := Lib.hid (K01.out.alloc (.cells #[.int .i64 h.age, .int .i64 h.kind, .int .i64 h.id, .int .i64 h.adv, .int .i64 h.seq, .int .i64 h.sum, .int .i64 h.long, .slice none 0 0, .slice none 0 0] 44))
  have K12 := Lib.hid (K11.out.alloc (.cells #[.int .i64 h.age, .int .i64 h.kind, .int .i64 h.id, .int .i64 h.adv, .int .i64 h.seq, .int .i64 h.sum, .int .i64 h.long, .slice none 0 0, .slice none 0 0] 44))
  have R2 := Lib.hid (R1.out.alloc (Nat.le_refl _) (.cells #[.int .i64 h.age, .int .i64 h.kind, .int .i64 h.id, .int .i64 h.adv, .int .i64 h.seq, .int .i64 h.sum, .int .i64 h.long, .slice none 0 0, .slice none 0 0] 44))
  generalize hX : w1.heap.size = X at *
  generalize w1.alloc (.cells #[.int .i64 h.age, .int .i64 h.kind, .int .i64 h.id, .int .i64 h.adv, .int .i64 h.seq, .int .i64 h.sum, .int .i64 h.long, .slice none 0 0, .slice none 0 0] 44) = w2 at *
  have hlX := KX.out.lt
  have hs2 := B2.out.size
  have HB2 := Lib.hid (show B ≤ w2.heap.size by omega)
  have HL2 := Lib.hid (HL.out.below (B2.out.mono hB))
  have HM2 := Lib.hid (HM.out.below (B2.out.mono hB))
  clear k0 k1 k2 k3 k4 k5 k6 k7 k8 hX K01 K11 R1 B1
  obtain ⟨k0, k1, k2, k3, k4, k5, k6, k7, k8⟩ := K02.out.nine
  obtain ⟨x0, x1, x2, x3, x4, x5, x6, x7, x8⟩ := KX.out.nine
  have fx := KX.out.frozen 7
  go_upto_region 4 with (at_builtin; refine wpList_append_any rfl (.tmp 11) (.tmp 13) 41 86 (.agg #[.int .i64 0, .int .i64 0, .int .i64 0, .int .i64 0]) 4 32 Tryz.underlying41 Tryz.info53 rfl (by decide) (by decide) rfl w2.heap.size (.slice none 0 0) 0 [] (by rfl) (by exact World.ownsRow_nil _ _ _ _) A n c (lkCells L) (by rfl) (by rw [lkCells_length, HL.out.1]) HL2.out.cells.1 HL2.out.cells.2 (lkCells_ones L) (by omega) (Nat.le_refl _) ?_; intro v2 w3 ho2 hg2; obtain ⟨A2, c2, rfl⟩ := own_slice ho2.out; have KX3 := Lib.hid (show Blk w3 X 44 #[.int .i64 h.age, .int .i64 h.kind, .int .i64 h.id, .int .i64 h.adv, .int .i64 h.seq, .int .i64 h.sum, .int .i64 h.long, .slice none 0 0, .slice none 0 0] from (hg2.out.block X hlX (by simp [Value.ownBlock])).trans KX.out); have fx3 := KX3.out.frozen 7; obtain ⟨y0, y1, y2, y3, y4, y5, y6, y7, y8⟩ := KX3.out.nine)
  have HO4 := Lib.hid (show (w3.setCell ⟨X, 7, none⟩ (.slice A2 n c2)).ownsRow w2.heap.size 86 4 (.slice A2 n c2) n (lkCells L) by
    have h1 := ho2.out
    rw [Nat.zero_add, List.nil_append] at h1
    exact own_set h1 _ _ hlX)
  have KX4 := Lib.hid (show Blk (w3.setCell ⟨X, 7, none⟩ (.slice A2 n c2)) X 44 #[.int .i64 h.age, .int .i64 h.kind, .int .i64 h.id, .int .i64 h.adv, .int .i64 h.seq, .int .i64 h.sum, .int .i64 h.long, .slice A2 n c2, .slice none 0 0] from KX3.out.put7 _)
  have BX := Lib.hid (((below_grown0 hg2.out).mono (Nat.le_of_lt hlX)).setCell (p := ⟨X, 7, none⟩) (Nat.le_refl _) (.slice A2 n c2))
  have hs3 : w2.heap.size ≤ (w3.setCell ⟨X, 7, none⟩ (.slice A2 n c2)).heap.size := BX.out.size
  rw [Nat.zero_add] at *
  clear ho2 hg2 KX3 fx3 y0 y1 y2 y3 y4 y5 y6 y7 y8 x0 x1 x2 x3 x4 x5 x6 x7 x8 fx k0 k1 k2 k3 k4 k5 k6 k7 k8 KX
  generalize w3.setCell ⟨X, 7, none⟩ (.slice A2 n c2) = w4 at *
  have K04 := Lib.hid (K02.out.below BX.out hl01)
  have K14 := Lib.hid (K12.out.below BX.out hl11)
  have R4 := Lib.hid (R2.out.below BX.out)
  have HM4 := Lib.hid (HM2.out.below (BX.out.mono (by omega)))
  have B4 := Lib.hid (B2.out.trans (BX.out.mono (by omega)))
  have hlX4 := KX4.out.lt
  clear K02 K12 R2 HL2 HM2 B2 BX
  obtain ⟨k0, k1, k2, k3, k4, k5, k6, k7, k8⟩ := K04.out.nine
  obtain ⟨x0, x1, x2, x3, x4, x5, x6, x7, x8⟩ := KX4.out.nine
  have fx := KX4.out.frozen 8
  go_upto_region 5 with (at_builtin; refine wpList_append_any rfl (.tmp 17) (.tmp 19) 42 3 (.int .i64 0) 1 8 Tryz.underlying42 Tryz.info3 rfl (by decide) (by decide) rfl w4.heap.size (.slice none 0 0) 0 [] (by rfl) (by exact World.ownsRow_nil _ _ _ _) A' n' c' (M.map (Value.int .i64)) (by rfl) (by rw [List.length_map, HM.out.1, Nat.mul_one]) HM4.out.cells.1 HM4.out.cells.2 (oneCell_ints _ _) (by omega) (Nat.le_refl _) ?_; intro v3 w5 ho3 hg3; obtain ⟨A3, c3, rfl⟩ := own_slice ho3.out; have KX5 := Lib.hid (show Blk w5 X 44 #[.int .i64 h.age, .int .i64 h.kind, .int .i64 h.id, .int .i64 h.adv, .int .i64 h.seq, .int .i64 h.sum, .int .i64 h.long, .slice A2 n c2, .slice none 0 0] from (hg3.out.block X hlX4 (by simp [Value.ownBlock])).trans KX4.out); have fx3 := KX5.out.frozen 8; obtain ⟨y0, y1, y2, y3, y4, y5, y6, y7, y8⟩ := KX5.out.nine)
  have HO6 := Lib.hid (show (w5.setCell ⟨X, 8, none⟩ (.slice A3 n' c3)).ownsRow w4.heap.size 3 1 (.slice A3 n' c3) n' (M.map (Value.int .i64)) by
    have h1 := ho3.out
    rw [Nat.zero_add, List.nil_append] at h1
    exact own_set h1 _ _ hlX4)
  have HOL6 := Lib.hid (show (w5.setCell ⟨X, 8, none⟩ (.slice A3 n' c3)).ownsRow w2.heap.size 86 4 (.slice A2 n c2) n (lkCells L) from own_set (HO4.out.kept hg3.out (by cases hb : (Value.slice A2 n c2).ownBlock <;> simp [Value.ownBlock])) _ _ hlX)
  have KX6 := Lib.hid (show Blk (w5.setCell ⟨X, 8, none⟩ (.slice A3 n' c3)) X 44 #[.int .i64 h.age, .int .i64 h.kind, .int .i64 h.id, .int .i64 h.adv, .int .i64 h.seq, .int .i64 h.sum, .int .i64 h.long, .slice A2 n c2, .slice A3 n' c3] from KX5.out.put8 _)
  have BX := Lib.hid (((below_grown0 hg3.out).mono (Nat.le_of_lt hlX4)).setCell (p := ⟨X, 8, none⟩) (Nat.le_refl _) (.slice A3 n' c3))
  have hs5 : w4.heap.size ≤ (w5.setCell ⟨X, 8, none⟩ (.slice A3 n' c3)).heap.size := BX.out.size
  rw [Nat.zero_add] at *
  clear ho3 hg3 KX5 fx3 y0 y1 y2 y3 y4 y5 y6 y7 y8 x0 x1 x2 x3 x4 x5 x6 x7 x8 fx k0 k1 k2 k3 k4 k5 k6 k7 k8 KX4 HO4
  generalize w5.setCell ⟨X, 8, none⟩ (.slice A3 n' c3) = w6 at *
  have K16 := Lib.hid (K14.out.below BX.out hl11)
  have R6 := Lib.hid (R4.out.below BX.out)
  have B6 := Lib.hid (B4.out.trans (BX.out.mono (by omega)))
  have hlX6 := KX6.out.lt
  clear K04 K14 R4 HM4 B4 BX
  obtain ⟨b1, o1, rfl, hb1, hc1'⟩ := R6.out.2 (by omega)
  have HC1 := Lib.hid hc1'
  clear hc1'
  have R7 := Lib.hid (cut_some (some ⟨b1, o1, none⟩) m 16 2 (by omega) .u8 w6 X _ R6.out)
  obtain ⟨x0, x1, x2, x3, x4, x5, x6, x7, x8⟩ := KX6.out.nine
  have fx5 := KX6.out.frozen 5
  have fx6 := KX6.out.frozen 6
  have hcm := C1.out
  unfold maxLen at hcm
  obtain ⟨sm, hsm⟩ : ∃ sm, lsaSum h L M = sm := ⟨_, rfl⟩
  have HSM := Lib.hid hsm
  have HNS := Lib.hid (show num (((lsaBytes h L M).drop 16).take 2) = sm by rw [sum_piece, ← hsm]; rfl)
  clear hsm
  go_wp2_with fail
  refine (number_any (some ⟨b1, o1 + 16, none⟩) 2 (c1 - 16) X _ _ (by have h7 := R7.out; simpa [addr_add] using h7) (((lsaBytes_byt h L M).drop 16).take 2) (by omega)).mono ?_
  rintro e7 w7 ⟨rfl, rfl⟩
  rw [HNS.out]
  go_upto_region 7 with fail
  have KX8 := Lib.hid (show Blk ((w6.setCell ⟨X, 5, none⟩ (.int .i64 sm)).setCell ⟨X, 6, none⟩ (.int .i64 m)) X 44 #[.int .i64 h.age, .int .i64 h.kind, .int .i64 h.id, .int .i64 h.adv, .int .i64 h.seq, .int .i64 sm, .int .i64 m, .slice A2 n c2, .slice A3 n' c3] from (KX6.out.put5 _).put6 _)
  have BX := Lib.hid (((Below.refl X w6).setCell (p := ⟨X, 5, none⟩) (Nat.le_refl _) (.int .i64 sm)).setCell (p := ⟨X, 6, none⟩) (Nat.le_refl _) (.int .i64 m))
  have HOL8 := Lib.hid (own_set (own_set HOL6.out ⟨X, 5, none⟩ (.int .i64 sm) hlX) ⟨X, 6, none⟩ (.int .i64 m) hlX)
  have HO8 := Lib.hid (own_set (own_set HO6.out ⟨X, 5, none⟩ (.int .i64 sm) hlX4) ⟨X, 6, none⟩ (.int .i64 m) hlX4)
  have hs8 : w6.heap.size ≤ ((w6.setCell ⟨X, 5, none⟩ (.int .i64 sm)).setCell ⟨X, 6, none⟩ (.int .i64 m)).heap.size := BX.out.size
  clear x0 x1 x2 x3 x4 x5 x6 x7 x8 fx5 fx6 R7 HC1 KX6
  generalize (w6.setCell ⟨X, 5, none⟩ (.int .i64 sm)).setCell ⟨X, 6, none⟩ (.int .i64 m) = w8 at *
  have K18 := Lib.hid (K16.out.below BX.out hl11)
  have B8 := Lib.hid (B6.out.trans (BX.out.mono (by omega)))
  obtain ⟨z0, z1, z2, z3, z4, z5, z6, z7, z8⟩ := K18.out.nine
  have f0 := K18.out.frozen 0
  have f1 := K18.out.frozen 1
  have f2 := K18.out.frozen 2
  have f3 := K18.out.frozen 3
  have f4 := K18.out.frozen 4
  have f5 := K18.out.frozen 5
  have f6 := K18.out.frozen 6
  have f7 := K18.out.frozen 7
  have f8 := K18.out.frozen 8
  go_wp2_with (refine wpList_load_rc (r := ⟨⟨h.age, h.kind, h.id, h.adv, h.seq, sm, m⟩, ⟨A2, n, c2⟩, ⟨A3, n', c3⟩⟩) (by rfl) (.tmp 4) rfl (by rfl) (rcAt_blk KX8.out) ?_)
  refine bodyPost_ret (v := .agg #[.int .i64 h.age, .int .i64 h.kind, .int .i64 h.id, .int .i64 h.adv, .int .i64 h.seq, .int .i64 sm, .int .i64 m, .slice A2 n c2, .slice A3 n' c3]) (by simp [results, Tryz.results45, go_sem, *]) rfl ?_
  have h9 : w8.grownBy (((((((((w8.setCell ⟨w.heap.size + 1, 0, none⟩ (.int .i64 h.age)).setCell ⟨w.heap.size + 1, 1, none⟩ (.int .i64 h.kind)).setCell ⟨w.heap.size + 1, 2, none⟩ (.int .i64 h.id)).setCell ⟨w.heap.size + 1, 3, none⟩ (.int .i64 h.adv)).setCell ⟨w.heap.size + 1, 4, none⟩ (.int .i64 h.seq)).setCell ⟨w.heap.size + 1, 5, none⟩ (.int .i64 sm)).setCell ⟨w.heap.size + 1, 6, none⟩ (.int .i64 m)).setCell ⟨w.heap.size + 1, 7, none⟩ (.slice A2 n c2)).setCell ⟨w.heap.size + 1, 8, none⟩ (.slice A3 n' c3)) (some (w.heap.size + 1)) := grown_set9 w8 (w.heap.size + 1) 0 (.int .i64 h.age) (.int .i64 h.kind) (.int .i64 h.id) (.int .i64 h.adv) (.int .i64 h.seq) (.int .i64 sm) (.int .i64 m) (.slice A2 n c2) (.slice A3 n' c3)
  have H9 := Lib.hid h9
  clear h9
  generalize (((((((((w8.setCell ⟨w.heap.size + 1, 0, none⟩ (.int .i64 h.age)).setCell ⟨w.heap.size + 1, 1, none⟩ (.int .i64 h.kind)).setCell ⟨w.heap.size + 1, 2, none⟩ (.int .i64 h.id)).setCell ⟨w.heap.size + 1, 3, none⟩ (.int .i64 h.adv)).setCell ⟨w.heap.size + 1, 4, none⟩ (.int .i64 h.seq)).setCell ⟨w.heap.size + 1, 5, none⟩ (.int .i64 sm)).setCell ⟨w.heap.size + 1, 6, none⟩ (.int .i64 m)).setCell ⟨w.heap.size + 1, 7, none⟩ (.slice A2 n c2)).setCell ⟨w.heap.size + 1, 8, none⟩ (.slice A3 n' c3)) = w9 at *
  rw [← HQ.out]
  refine ⟨A2, n, c2, A3, n', c3, by rw [HML.out, ← HSM.out]; rfl, own_low (HOL8.out.kept H9.out (.inr (own_not HOL8.out (.inl (by omega))))) (by omega), HL.out.1, own_low (HO8.out.kept H9.out (.inr (own_not HO8.out (.inl (by omega))))) (by omega), HM.out.1, B8.out.grown H9.out (by omega) (fun k hk => by injection hk with hk; omega)⟩
end Go.Proofs.YtfdfdmbnggpnbaaGreat
namespace Go.Proofs.YtfdfdmbnggpnbaaGreat
open Go.RowKit

/-- A list with an item of key k ahead of the first greater one. -/
def insR (k : Ky) (x : Rc) : List Rc → List Rc
  | [] => [x]
  | r :: R => if lessKy k (keyH r.h) = true then x :: r :: R else r :: insR k x R
theorem insR_no {k : Ky} {x r : Rc} {R : List Rc} (h : lessKy k (keyH r.h) = false) : insR k x (r :: R) = r :: insR k x R := by
  rw [insR, if_neg (by rw [h]; decide)]
theorem insR_yes {k : Ky} {x r : Rc} {R : List Rc} (h : lessKy k (keyH r.h) = true) : insR k x (r :: R) = x :: r :: R := by
  rw [insR, if_pos h]
theorem insR_take {k : Ky} {x : Rc} : ∀ {R : List Rc} {j : Nat}, (∀ (m : Nat) (y : Rc), m < j → R[m]? = some y → lessKy k (keyH y.h) = false) → insR k x R = R.take j ++ insR k x (R.drop j)
  | R, 0, _ => by simp
  | [], j + 1, _ => by simp
  | r :: R, j + 1, h => by
    have h0 := h 0 r (by omega) (by simp)
    have ih := insR_take (k := k) (x := x) (R := R) (j := j) (fun m y hm hy => h (m + 1) y (by omega) (by simpa using hy))
    rw [insR_no h0, ih]
    simp
theorem insR_here {k : Ky} {x : Rc} {R : List Rc} {j : Nat} {r : Rc} (hr : R[j]? = some r) (h : ∀ (m : Nat) (y : Rc), m < j → R[m]? = some y → lessKy k (keyH y.h) = false) (hl : lessKy k (keyH r.h) = true) : insR k x R = R.take j ++ x :: R.drop j := by
  have hj := (List.getElem?_eq_some_iff.1 hr).1
  have er := (List.getElem?_eq_some_iff.1 hr).2
  rw [insR_take h, List.drop_eq_getElem_cons hj, er, insR_yes hl]
theorem insR_end {k : Ky} {x : Rc} {R : List Rc} (h : ∀ (m : Nat) (y : Rc), m < R.length → R[m]? = some y → lessKy k (keyH y.h) = false) : insR k x R = R ++ [x] := by
  rw [insR_take h, List.take_length, List.drop_length]
  rfl

/-- Rows of unlike items lie apart. -/
theorem own_apart {w : World} {b b' n n' size size' : Nat} {t t' : TypeId} {v v' : Value} {xs xs' : List Value} (h : w.ownsRow b t size v n xs) (h' : w.ownsRow b' t' size' v' n' xs') (ht : t ≠ t') : v'.ownBlock = none ∨ v'.ownBlock ≠ v.ownBlock := by
  rcases h'.2 with ⟨rfl, _⟩ | ⟨g', cap', cur', rfl, _, hg', _⟩
  · exact .inl rfl
  · rcases h.2 with ⟨rfl, _⟩ | ⟨g, cap, cur, rfl, _, hg, _⟩
    · exact .inr (by simp [Value.ownBlock])
    · refine .inr (fun e => ?_)
      simp [Value.ownBlock] at e
      subst e
      rw [hg] at hg'
      injection hg' with hg'
      injection hg' with _ e2
      exact ht e2
theorem Below.grown0 {w w' : World} (h : Below w.heap.size w w') : w.grownBy w' none := grown_below h
/-- A description of the call's own: sealed, its lists in memory of their own. -/
def XOk (w : World) (lo : Nat) (h : Hd) (L : List Lk) (M : List Int) (x : Rc) : Prop :=
  x.h = sealHd h L M ∧ w.ownsRow lo 86 4 (.slice x.p.a x.p.n x.p.c) x.p.n (lkCells L) ∧ L.length = x.p.n ∧ w.ownsRow lo 3 1 (.slice x.q.a x.q.n x.q.c) x.q.n (M.map (Value.int .i64)) ∧ M.length = x.q.n
theorem XOk.below {w w' : World} {lo : Nat} {h : Hd} {L : List Lk} {M : List Int} {x : Rc} (hx : XOk w lo h L M x) (hb : Below w.heap.size w w') : XOk w' lo h L M x := ⟨hx.1, own_below2 hx.2.1 hb, hx.2.2.1, own_below2 hx.2.2.2.1 hb, hx.2.2.2.2⟩
theorem XOk.alloc {w : World} {lo : Nat} {h : Hd} {L : List Lk} {M : List Int} {x : Rc} (hx : XOk w lo h L M x) (o : Obj) : XOk (w.alloc o) lo h L M x := ⟨hx.1, hx.2.1.alloc o, hx.2.2.1, hx.2.2.2.1.alloc o, hx.2.2.2.2⟩
/-- .. while a list of descriptions grows. -/
theorem XOk.grown {w w' : World} {lo b n : Nat} {h : Hd} {L : List Lk} {M : List Int} {x : Rc} {v : Value} {xs : List Value} (hx : XOk w lo h L M x) (ho : w.ownsRow b 44 9 v n xs) (hg : w.grownBy w' v.ownBlock) : XOk w' lo h L M x :=
  ⟨hx.1, hx.2.1.kept hg (own_apart ho hx.2.1 (by decide)), hx.2.2.1, hx.2.2.2.1.kept hg (own_apart ho hx.2.2.2.1 (by decide)), hx.2.2.2.2⟩
theorem XOk.cellDb {w : World} {lo g : Nat} {h : Hd} {L : List Lk} {M : List Int} {x : Rc} {cs : Array Value} (hx : XOk w lo h L M x) (hB : Blk w g 65 cs) (u : Value) : XOk (w.setCell ⟨g, 0, none⟩ u) lo h L M x := by
  have hk : ∀ {t : TypeId} {size n : Nat} {v : Value} {xs : List Value}, t ≠ 65 → w.ownsRow lo t size v n xs → (w.setCell ⟨g, 0, none⟩ u).ownsRow lo t size v n xs := by
    intro t size n v xs ht ho
    refine own_ne ho _ _ (fun e => ?_)
    rcases ho.2 with ⟨rfl, _⟩ | ⟨b, cap, cur, rfl, _, hg, _⟩
    · cases e
    · simp [Value.ownBlock] at e
      subst e
      have h1 : w.heap[b]? = some (.cells cs 65 (0, 0)) := hB
      rw [h1] at hg
      injection hg with hg
      injection hg with _ e2
      exact ht e2.symm
  exact ⟨hx.1, hk (by decide) hx.2.1, hx.2.2.1, hk (by decide) hx.2.2.2.1, hx.2.2.2.2⟩
/-- Of a list R the first j items have been taken over; f: x has been laid in. -/
def Mid (w : World) (lo : Nat) (h : Hd) (L : List Lk) (M : List Int) (k : Ky) (R : List Rc) (j : Nat) (f : Bool) (xs : List Rc) : Prop :=
  (f = false → xs = R.take j ∧ ∀ (m : Nat) (y : Rc), m < j → R[m]? = some y → lessKy k (keyH y.h) = false) ∧ (f = true → ∃ x, XOk w lo h L M x ∧ xs ++ R.drop j = insR k x R)
section
variable {w w' : World} {lo : Nat} {h : Hd} {L : List Lk} {M : List Int} {k : Ky} {R xs : List Rc} {j : Nat} {f : Bool}
theorem Mid.start : Mid w lo h L M k R 0 false [] := by
  refine ⟨fun _ => ⟨by simp, fun m y hm _ => absurd hm (by omega)⟩, fun e => ?_⟩
  cases e
theorem Mid.move (hm : Mid w lo h L M k R j f xs) (hx : ∀ x, XOk w lo h L M x → XOk w' lo h L M x) : Mid w' lo h L M k R j f xs :=
  ⟨hm.1, fun e => by
    obtain ⟨x, h1, h2⟩ := hm.2 e
    exact ⟨x, hx x h1, h2⟩⟩
theorem Mid.no {r : Rc} (hm : Mid w lo h L M k R j f xs) (hr : R[j]? = some r) (hn : (!f && lessKy k (keyH r.h)) = false) : Mid w lo h L M k R (j + 1) f (xs ++ [r]) := by
  have hj := (List.getElem?_eq_some_iff.1 hr).1
  have er := (List.getElem?_eq_some_iff.1 hr).2
  refine ⟨fun e => ?_, fun e => ?_⟩
  · obtain ⟨h1, h2⟩ := hm.1 e
    rw [e] at hn
    refine ⟨by rw [h1, List.take_succ_eq_append_getElem hj, er], fun m y hmj hy => ?_⟩
    by_cases hmj' : m = j
    · subst hmj'
      rw [hr] at hy
      injection hy with hy
      subst hy
      simpa using hn
    · exact h2 m y (by omega) hy
  · obtain ⟨x, h1, h2⟩ := hm.2 e
    refine ⟨x, h1, ?_⟩
    rw [← h2, List.append_assoc, List.drop_eq_getElem_cons hj, er]
    rfl
theorem Mid.yes {r x : Rc} (hm : Mid w lo h L M k R j false xs) (hr : R[j]? = some r) (hy : lessKy k (keyH r.h) = true) (hx : XOk w' lo h L M x) : Mid w' lo h L M k R (j + 1) true (xs ++ [x] ++ [r]) := by
  have hj := (List.getElem?_eq_some_iff.1 hr).1
  have er := (List.getElem?_eq_some_iff.1 hr).2
  obtain ⟨h1, h2⟩ := hm.1 rfl
  refine ⟨fun e => (by cases e), fun _ => ⟨x, hx, ?_⟩⟩
  rw [insR_here hr h2 hy, h1, List.drop_eq_getElem_cons hj, er]
  simp
theorem Mid.end_yes (hm : Mid w lo h L M k R j true xs) (hj : R.length ≤ j) : ∃ x, XOk w lo h L M x ∧ xs = insR k x R := by
  obtain ⟨x, h1, h2⟩ := hm.2 rfl
  rw [List.drop_of_length_le hj, List.append_nil] at h2
  exact ⟨x, h1, h2⟩
theorem Mid.end_no {x : Rc} (hm : Mid w lo h L M k R j false xs) (hj : R.length ≤ j) : xs ++ [x] = insR k x R := by
  obtain ⟨h1, h2⟩ := hm.1 rfl
  rw [List.take_of_length_le hj] at h1
  rw [h1, insR_end (fun m y hm hy => h2 m y (by omega) hy)]
end
theorem xok_of_seal {w : World} {lo : Nat} {h : Hd} {L : List Lk} {M : List Int} {A : Option Addr} {n c : Nat} {A' : Option Addr} {n' c' : Nat} (h1 : w.ownsRow lo 86 4 (.slice A n c) n (lkCells L)) (h2 : L.length = n) (h3 : w.ownsRow lo 3 1 (.slice A' n' c') n' (M.map (Value.int .i64))) (h4 : M.length = n') : XOk w lo h L M ⟨sealHd h L M, ⟨A, n, c⟩, ⟨A', n', c'⟩⟩ := ⟨rfl, h1, h2, h3, h4⟩
/-- What Put leaves. -/
def PutR7 (w : World) (g : Nat) (room : Int) (R : List Rc) (h : Hd) (L : List Lk) (M : List Int) (e : Ending) (w' : World) : Prop :=
  e = .returned (.int .i64 0) ∧ ∃ A' n' c' x, Blk w' g 65 #[.slice A' n' c', .int .i64 room] ∧ w'.ownsRow w.heap.size 44 9 (.slice A' n' c') n' (rcCells (insR (keyH h) x (dropI R (findR R (keyH h))))) ∧ XOk w' w.heap.size h L M x ∧ w.grownBy w' (some g)

set_option maxRecDepth 8000 in
set_option maxHeartbeats 16000000 in
theorem r7put_ok (g : Nat) (A2 : Option Addr) (n2 c2 : Nat) (room : Int) (R : List Rc) (base : Nat) (h : Hd) (L : List Lk) (M : List Int) (A A' : Option Addr) (n c n' c' B : Nat) (w : World) (hL : Lnk w B A n L) (hM : Row .i64 w B A' n' M) (hB : B ≤ w.heap.size) (hn : n ≤ 1000) (hn' : n' ≤ 1000) (hr : rightB h L M = true)
    (hD : Blk w g 65 #[.slice A2 n2 c2, .int .i64 room]) (hO : w.ownsRow base 44 9 (.slice A2 n2 c2) n2 (rcCells R)) (hn2 : n2 ≤ 1000) (hBg : B ≤ g) (hfull : ¬ (findR R (keyH h) < 0 ∧ room ≤ n2)) :
    Calls Tryz.prog 23 #[.pointer (some ⟨g, 0, none⟩), .agg #[.int .i64 h.age, .int .i64 h.kind, .int .i64 h.id, .int .i64 h.adv, .int .i64 h.seq, .int .i64 h.sum, .int .i64 h.long, .slice A n c, .slice A' n' c']] w (PutR7 w g room R h L M) := by
  generalize hQ : PutR7 w g room R h L M = Q
  have HQ := Lib.hid hQ
  clear hQ
  have HL := Lib.hid hL
  have HM := Lib.hid hM
  have HR := Lib.hid hr
  have HD := Lib.hid hD
  have HO := Lib.hid hO
  have hgl := hD.lt
  have hl2 := hO.1
  rw [rcCells_length] at hl2
  clear hL hM hr hD hO
  have K0 := Lib.hid (Blk.new w 44 #[.int .i64 h.age, .int .i64 h.kind, .int .i64 h.id, .int .i64 h.adv, .int .i64 h.seq, .int .i64 h.sum, .int .i64 h.long, .slice A n c, .slice A' n' c'])
  have B0 := Lib.hid ((Below.refl w.heap.size w).alloc (Nat.le_refl _) (.cells #[.int .i64 h.age, .int .i64 h.kind, .int .i64 h.id, .int .i64 h.adv, .int .i64 h.seq, .int .i64 h.sum, .int .i64 h.long, .slice A n c, .slice A' n' c'] 44))
  go_enter Tryz.func23, Tryz.ntmps23
  go_wp2_with (refine wpList_load_rc (r := ⟨h, ⟨A, n, c⟩, ⟨A', n', c'⟩⟩) (by rfl) (.tmp 3) rfl (by rfl) (rcAt_blk K0.out) ?_)
  have hl0 := K0.out.lt
  have hs0 := B0.out.size
  refine (refRight_any h L M A A' n c n' c' B _ (HL.out.below (B0.out.mono hB)) (HM.out.below (B0.out.mono hB)) (by omega) (by unfold maxLen; omega) (by unfold maxLen; omega)).mono ?_
  rintro e1 w1 ⟨rfl, hb1⟩
  rw [HR.out]
  have B1 := Lib.hid (B0.out.trans (hb1.mono hs0))
  have K1 := Lib.hid (K0.out.below hb1 hl0)
  have hs1 := B1.out.size
  have hl1 := K1.out.lt
  have HD1 := Lib.hid (HD.out.below B1.out hgl)
  have HO1 := Lib.hid (own_below2 HO.out B1.out)
  clear hb1 K0 B0 hl0 hs0
  obtain ⟨v, hv⟩ : ∃ v, findR R (keyH h) = v := ⟨_, rfl⟩
  have hvb := findR_bd R (keyH h)
  rw [hv] at hvb hfull
  have HV := Lib.hid (show findR R ⟨h.kind, h.id, h.adv⟩ = v from hv)
  clear hv
  have c0 := HD1.out.cell 0
  have c1 := HD1.out.cell 1
  obtain ⟨k0, k1, k2, k3, k4, k5, k6, k7, k8⟩ := K1.out.nine
  have hgl1 : g < w1.heap.size := by omega
  have BR := Below.refl w1.heap.size w1
  have BRd : Below w1.heap.size w1 w1.drew := ⟨rfl, rfl, rfl, Nat.le_refl _, fun _ _ => rfl⟩
  go_upto_region 3 with fail
  go_cut [27] (fun s27 wx => s27 = .bool false ∧ Hid (Below w1.heap.size w1 wx))
  case first =>
    by_cases hv0 : v < 0
    · have d1 : decide (v < 0) = true := by simpa using hv0
      have d2 : decide (room ≤ (n2 : Int)) = false := by
        have : ¬ room ≤ (n2 : Int) := fun e => hfull ⟨hv0, e⟩
        simpa using this
      go_region_held3 (fun w' => Below w1.heap.size w1 w' ∧ (∀ b o, b < w1.heap.size → w'.cell? ⟨b, o, none⟩ = w1.cell? ⟨b, o, none⟩)) ((refine keepW ?_; first | with_reducible exact hB2q | with_reducible exact hB1q | with_reducible exact BR | with_reducible exact ⟨rfl, rfl, rfl, Nat.le_refl _, fun _ _ => rfl⟩))
        (first
          | (go_at_call 42; refine (r7key_any ⟨h, ⟨A, n, c⟩, ⟨A', n', c'⟩⟩ _).mono ?_; rintro ea wa ⟨rfl, hba⟩; have hB1q := Below.trans (And.left ‹_›) (hba.mono (Below.size (And.left ‹_›))))
          | (go_at_call 26; refine (r7find_any g A2 n2 c2 room R ⟨h.kind, h.id, h.adv⟩ base _ (HD1.out.below (And.left ‹_›) hgl1) (own_below2 HO1.out (And.left ‹_›)) hn2).mono ?_; rintro eb wb ⟨rfl, hbb⟩; rw [HV.out]; have hB2q := Below.trans (And.left ‹_›) (hbb.mono (Below.size (And.left ‹_›)))))
      go_wp2_with fail
      go_meet
      exact ⟨rfl, Lib.hid hB2q⟩
    · obtain ⟨jv, rfl⟩ : ∃ jv : Nat, v = jv := ⟨v.toNat, by omega⟩
      have d1 : decide ((jv : Int) < 0) = false := by simp
      refine wp_region_noPanic ?_
      refine wp_region_held_drew (S := fun w' => Below w1.heap.size w1 w') (by kernel_rfl) BRd (fun hHeld => ?_)
      refine wpAnyH_take (i := 0) (oi := { dst := Option.some 11, op := Go.Op.move (Go.Operand.tmp 0), type := 28, pos := "ref.go:80", after := #[], guard := Option.none }) (v := ?_) rfl (by kernel_rfl) (by kernel_rfl) (by kernel_rfl) (fun _ _ _ h => h) (Or.inl ⟨by rfl, ?_⟩) hHeld ?_
      rotate_left 1
      · intro ww hSw
        try dsimp only at hSw
        go_simp
        try with_reducible rfl
      try simp only [Act.put, List.setIfInBounds_toArray, List.set_cons_zero, List.set_cons_succ]
      refine wpAnyH_take (i := 1) (oi := { dst := Option.some 12, op := Go.Op.load 44 (Go.Operand.tmp 3), type := 44, pos := "ref.go:80", after := #[], guard := Option.none }) (v := .agg #[.int .i64 h.age, .int .i64 h.kind, .int .i64 h.id, .int .i64 h.adv, .int .i64 h.seq, .int .i64 h.sum, .int .i64 h.long, .slice A n c, .slice A' n' c']) rfl (by kernel_rfl) (by kernel_rfl) (by kernel_rfl) (fun _ _ _ h => h) (yieldsIf_load_mid (by rfl) 44 (.tmp 3) rfl w.heap.size 0 rfl (Rc.cells ⟨h, ⟨A, n, c⟩, ⟨A', n', c'⟩⟩) _ (fun _ hb => (rcAt_blk (r := ⟨h, ⟨A, n, c⟩, ⟨A', n', c'⟩⟩) (K1.out.below hb hl1)).range) Tryz.underlying44 rfl (by kernel_rfl)) hHeld ?_
      try simp only [Act.put, List.setIfInBounds_toArray, List.set_cons_zero, List.set_cons_succ]
      refine wpAnyH_ready (rs := [2]) (by kernel_rfl) (by simp) ?_
      refine AllReadyH.cons (o := { dst := Option.some 13, op := Go.Op.call { callee := Go.Callee.value (Go.Operand.func 42), args := #[Go.Operand.tmp 12], argTypes := #[44] }, type := 48, pos := "ref.go:80", after := #[{ on := 1, ground := Go.Ground.data }], guard := Option.none }) rfl (fun K hK => ?_) AllReadyH.nil
      go_simp
      refine (r7key_any ⟨h, ⟨A, n, c⟩, ⟨A', n', c'⟩⟩ _).mono ?_
      rintro ea wa ⟨rfl, hba⟩
      have hC1 := BRd.trans (hba.mono BRd.size)
      clear hba hHeld
      refine hK.out _ _ hC1 (fun hHeld => ?_)
      clear hK K
      try dsimp only
      refine wpAnyH_ready (rs := [3]) (by kernel_rfl) (by simp) ?_
      refine AllReadyH.cons (o := { dst := Option.some 14, op := Go.Op.call { callee := Go.Callee.value (Go.Operand.func 26), args := #[Go.Operand.tmp 11, Go.Operand.tmp 13], argTypes := #[28, 48] }, type := 3, pos := "ref.go:80", after := #[{ on := 0, ground := Go.Ground.data }, { on := 2, ground := Go.Ground.data }, { on := 2, ground := Go.Ground.chain }], guard := Option.none }) rfl (fun K hK => ?_) AllReadyH.nil
      go_simp
      refine (r7find_any g A2 n2 c2 room R ⟨h.kind, h.id, h.adv⟩ base _ (HD1.out.below hC1 hgl1) (own_below2 HO1.out hC1) hn2).mono ?_
      rintro eb wb ⟨rfl, hbb⟩
      rw [HV.out]
      have hC2 := hC1.trans (hbb.mono hC1.size)
      clear hbb hHeld
      refine hK.out _ _ hC2 (fun hHeld => ?_)
      clear hK K
      try simp only [Act.put, List.setIfInBounds_toArray, List.set_cons_zero, List.set_cons_succ]
      refine wpAnyH_take (i := 4) (oi := { dst := Option.some 15, op := Go.Op.binOp Go.BinOp.lss 3 (Go.Operand.tmp 14) (Go.Operand.const (Go.Value.int Go.IntKind.i64 0)) 3, type := 4, pos := "ref.go:80", after := #[{ on := 3, ground := Go.Ground.data }], guard := Option.none }) (v := ?_) rfl (by kernel_rfl) (by kernel_rfl) (by kernel_rfl) (fun _ _ _ h => h) (Or.inl ⟨by rfl, ?_⟩) hHeld ?_
      rotate_left 1
      · intro ww hSw
        try dsimp only at hSw
        go_simp
        try with_reducible rfl
      try simp only [Act.put, List.setIfInBounds_toArray, List.set_cons_zero, List.set_cons_succ]
      refine wpAnyH_take (i := 5) (oi := { dst := Option.some 16, op := Go.Op.move (Go.Operand.tmp 15), type := 4, pos := "ref.go:80", after := #[{ on := 4, ground := Go.Ground.data }, { on := 3, ground := Go.Ground.chain }], guard := Option.none }) (v := ?_) rfl (by kernel_rfl) (by kernel_rfl) (by kernel_rfl) (fun _ _ _ h => h) (Or.inl ⟨by rfl, ?_⟩) hHeld ?_
      rotate_left 1
      · intro ww hSw
        try dsimp only at hSw
        go_simp
        try with_reducible rfl
      try simp only [Act.put, List.setIfInBounds_toArray, List.set_cons_zero, List.set_cons_succ]
      refine wpAnyH_take (i := 6) (oi := { dst := Option.some 17, op := Go.Op.move (Go.Operand.tmp 0), type := 28, pos := "ref.go:80", after := #[{ on := 5, ground := Go.Ground.guard }], guard := Option.some (5, Bool.true) }) (v := undef) rfl (by kernel_rfl) (by kernel_rfl) (by kernel_rfl) (fun _ _ _ h => h) (Or.inr ⟨by rfl, rfl⟩) hHeld ?_
      try simp only [Act.put, List.setIfInBounds_toArray, List.set_cons_zero, List.set_cons_succ]
      refine wpAnyH_take (i := 7) (oi := { dst := Option.some 18, op := Go.Op.nilCheck (Go.Operand.tmp 17), type := 0, pos := "ref.go:80", after := #[{ on := 6, ground := Go.Ground.data }, { on := 5, ground := Go.Ground.guard }], guard := Option.some (5, Bool.true) }) (v := undef) rfl (by kernel_rfl) (by kernel_rfl) (by kernel_rfl) (fun _ _ _ h => h) (Or.inr ⟨by rfl, rfl⟩) hHeld ?_
      try simp only [Act.put, List.setIfInBounds_toArray, List.set_cons_zero, List.set_cons_succ]
      refine wpAnyH_take (i := 8) (oi := { dst := Option.some 19, op := Go.Op.fieldAddr 65 (Go.Operand.tmp 18) 0, type := 0, pos := "ref.go:80", after := #[{ on := 7, ground := Go.Ground.data }, { on := 5, ground := Go.Ground.guard }], guard := Option.some (5, Bool.true) }) (v := undef) rfl (by kernel_rfl) (by kernel_rfl) (by kernel_rfl) (fun _ _ _ h => h) (Or.inr ⟨by rfl, rfl⟩) hHeld ?_
      try simp only [Act.put, List.setIfInBounds_toArray, List.set_cons_zero, List.set_cons_succ]
      refine wpAnyH_take (i := 9) (oi := { dst := Option.some 20, op := Go.Op.load 22 (Go.Operand.tmp 19), type := 22, pos := "ref.go:80", after := #[{ on := 8, ground := Go.Ground.data }, { on := 5, ground := Go.Ground.guard }], guard := Option.some (5, Bool.true) }) (v := undef) rfl (by kernel_rfl) (by kernel_rfl) (by kernel_rfl) (fun _ _ _ h => h) (Or.inr ⟨by rfl, rfl⟩) hHeld ?_
      try simp only [Act.put, List.setIfInBounds_toArray, List.set_cons_zero, List.set_cons_succ]
      refine wpAnyH_take (i := 10) (oi := { dst := Option.some 21, op := Go.Op.call { callee := Go.Callee.builtin Go.Builtin.len, args := #[Go.Operand.tmp 20], argTypes := #[22] }, type := 3, pos := "ref.go:80", after := #[{ on := 9, ground := Go.Ground.data }, { on := 5, ground := Go.Ground.guard }], guard := Option.some (5, Bool.true) }) (v := undef) rfl (by kernel_rfl) (by kernel_rfl) (by kernel_rfl) (fun _ _ _ h => h) (Or.inr ⟨by rfl, rfl⟩) hHeld ?_
      try simp only [Act.put, List.setIfInBounds_toArray, List.set_cons_zero, List.set_cons_succ]
      refine wpAnyH_take (i := 11) (oi := { dst := Option.some 22, op := Go.Op.move (Go.Operand.tmp 0), type := 28, pos := "ref.go:80", after := #[{ on := 5, ground := Go.Ground.guard }], guard := Option.some (5, Bool.true) }) (v := undef) rfl (by kernel_rfl) (by kernel_rfl) (by kernel_rfl) (fun _ _ _ h => h) (Or.inr ⟨by rfl, rfl⟩) hHeld ?_
      try simp only [Act.put, List.setIfInBounds_toArray, List.set_cons_zero, List.set_cons_succ]
      refine wpAnyH_take (i := 12) (oi := { dst := Option.some 23, op := Go.Op.nilCheck (Go.Operand.tmp 22), type := 0, pos := "ref.go:80", after := #[{ on := 11, ground := Go.Ground.data }, { on := 5, ground := Go.Ground.guard }], guard := Option.some (5, Bool.true) }) (v := undef) rfl (by kernel_rfl) (by kernel_rfl) (by kernel_rfl) (fun _ _ _ h => h) (Or.inr ⟨by rfl, rfl⟩) hHeld ?_
      try simp only [Act.put, List.setIfInBounds_toArray, List.set_cons_zero, List.set_cons_succ]
      refine wpAnyH_take (i := 13) (oi := { dst := Option.some 24, op := Go.Op.fieldAddr 65 (Go.Operand.tmp 23) 1, type := 0, pos := "ref.go:80", after := #[{ on := 12, ground := Go.Ground.data }, { on := 5, ground := Go.Ground.guard }], guard := Option.some (5, Bool.true) }) (v := undef) rfl (by kernel_rfl) (by kernel_rfl) (by kernel_rfl) (fun _ _ _ h => h) (Or.inr ⟨by rfl, rfl⟩) hHeld ?_
      try simp only [Act.put, List.setIfInBounds_toArray, List.set_cons_zero, List.set_cons_succ]
      refine wpAnyH_take (i := 14) (oi := { dst := Option.some 25, op := Go.Op.load 3 (Go.Operand.tmp 24), type := 3, pos := "ref.go:80", after := #[{ on := 13, ground := Go.Ground.data }, { on := 5, ground := Go.Ground.guard }], guard := Option.some (5, Bool.true) }) (v := undef) rfl (by kernel_rfl) (by kernel_rfl) (by kernel_rfl) (fun _ _ _ h => h) (Or.inr ⟨by rfl, rfl⟩) hHeld ?_
      try simp only [Act.put, List.setIfInBounds_toArray, List.set_cons_zero, List.set_cons_succ]
      refine wpAnyH_take (i := 15) (oi := { dst := Option.some 26, op := Go.Op.binOp Go.BinOp.geq 3 (Go.Operand.tmp 21) (Go.Operand.tmp 25) 3, type := 4, pos := "ref.go:80", after := #[{ on := 10, ground := Go.Ground.data }, { on := 14, ground := Go.Ground.data }, { on := 5, ground := Go.Ground.guard }], guard := Option.some (5, Bool.true) }) (v := undef) rfl (by kernel_rfl) (by kernel_rfl) (by kernel_rfl) (fun _ _ _ h => h) (Or.inr ⟨by rfl, rfl⟩) hHeld ?_
      try simp only [Act.put, List.setIfInBounds_toArray, List.set_cons_zero, List.set_cons_succ]
      refine wpAnyH_take (i := 16) (oi := { dst := Option.some 27, op := Go.Op.pick (Go.Operand.tmp 16) (Go.Operand.tmp 26) (Go.Operand.const (Go.Value.bool false)), type := 4, pos := "ref.go:80", after := #[{ on := 5, ground := Go.Ground.data }, { on := 15, ground := Go.Ground.data }], guard := Option.none }) (v := ?_) rfl (by kernel_rfl) (by kernel_rfl) (by kernel_rfl) (fun _ _ _ h => h) (Or.inl ⟨by rfl, ?_⟩) hHeld ?_
      rotate_left 1
      · intro ww hSw
        try dsimp only at hSw
        go_simp
        try with_reducible rfl
      try simp only [Act.put, List.setIfInBounds_toArray, List.set_cons_zero, List.set_cons_succ]
      refine wpAnyH_done (by kernel_rfl) ?_ _
      refine NoPanic.normal ?_
      go_wp2_with fail
      go_meet
      exact ⟨rfl, Lib.hid hC2⟩
  case rest =>
    obtain ⟨rfl, hb2⟩ := hcut
    rename World => w2
    have B2 := Lib.hid (B1.out.trans (hb2.out.mono hs1))
    have K2 := Lib.hid (K1.out.below hb2.out hl1)
    have HD2 := Lib.hid (HD1.out.below hb2.out hgl1)
    have HO2 := Lib.hid (own_below2 HO1.out hb2.out)
    have hs2 := B2.out.size
    have hl2' := K2.out.lt
    clear hb2 k0 k1 k2 k3 k4 k5 k6 k7 k8 c0 c1 K1 HD1 HO1 B1 BR
    go_wp2_with (refine wpList_load_rc (r := ⟨h, ⟨A, n, c⟩, ⟨A', n', c'⟩⟩) (by rfl) (.tmp 3) rfl (by rfl) (rcAt_blk K2.out) ?_)
    refine (r7key_any ⟨h, ⟨A, n, c⟩, ⟨A', n', c'⟩⟩ _).mono ?_
    rintro e3 w3 ⟨rfl, hb3⟩
    have K3 := Lib.hid (K2.out.below hb3 hl2')
    have HD3 := Lib.hid (HD2.out.below hb3 HD2.out.lt)
    have HO3 := Lib.hid (own_below2 HO2.out hb3)
    have B3 := Lib.hid (B2.out.trans (hb3.mono hs2))
    have hs3 := B3.out.size
    have hl3 := K3.out.lt
    clear hb3 K2 HD2 HO2 B2 hl2'
    go_wp2_with fail
    refine (r7drop_any g A2 n2 c2 room R ⟨h.kind, h.id, h.adv⟩ base _ HD3.out HO3.out hn2).mono ?_
    rintro e4 w4 ⟨rfl, A3, n3, c3, hd4, ho4, hg4⟩
    rw [HV.out] at ho4 ⊢
    have hl4 := ho4.1
    rw [rcCells_length] at hl4
    have HG4 := Lib.hid (grown_then (grown_but (grown_below B3.out) (some g)) hg4)
    have HBw := Lib.hid (show Below B w w4 from ⟨HG4.out.os, HG4.out.tape, HG4.out.output, HG4.out.size, fun k hk => HG4.out.block k (by omega) (by simp; omega)⟩)
    have HL4 := Lib.hid (HL.out.below HBw.out)
    have HM4 := Lib.hid (HM.out.below HBw.out)
    have HD4 := Lib.hid hd4
    have HO4 := Lib.hid ho4
    have K4 := Lib.hid (show Blk w4 w.heap.size 44 #[.int .i64 h.age, .int .i64 h.kind, .int .i64 h.id, .int .i64 h.adv, .int .i64 h.seq, .int .i64 h.sum, .int .i64 h.long, .slice A n c, .slice A' n' c'] from (hg4.block w.heap.size hl3 (by simp; omega)).trans K3.out)
    have hs4 := HG4.out.size
    have hl4' := K4.out.lt
    have hn3 : n3 ≤ 1000 := by
      have h1 : (dropI R v).length ≤ R.length := by
        unfold dropI
        split
        · exact Nat.le_refl _
        · exact List.length_eraseIdx_le _ _
      omega
    have HDR := Lib.hid (show dropI R (findR R (keyH h)) = dropI R v by rw [show findR R (keyH h) = v from HV.out])
    clear hd4 ho4 hg4 K3 HD3 HO3 B3
    generalize hR1 : dropI R v = R1 at *
    clear hR1
    have hgl4 : g < w4.heap.size := by omega
    go_wp2_with fail
    go_loopw [5, 6, 7] (fun o d i wr => ∃ (j m c5 : Nat) (A5 : Option Addr) (f : Bool) (xs : List Rc), j ≤ n3 ∧ i = .int .i64 j ∧ o = .slice A5 m c5 ∧ d = .bool f ∧ m ≤ j + 1 ∧ Hid (wr.ownsRow w4.heap.size 44 9 (.slice A5 m c5) m (rcCells xs)) ∧ Hid (Mid wr w.heap.size h L M (keyH h) R1 j f xs) ∧ Hid (Below w4.heap.size w4 wr)) (fun _ _ i _ => n3 - (intOf i).toNat)
    case atStart => exact ⟨0, 0, 0, none, false, [], Nat.zero_le _, rfl, rfl, rfl, by omega, Lib.hid (World.ownsRow_nil _ _ _ _), Lib.hid Mid.start, Lib.hid (Below.refl _ _)⟩
    case round =>
    obtain ⟨j, m, c5, A5, f, xs, hj, rfl, rfl, rfl, hmj, HX, HMid, hb⟩ := hrel
    have hsz := hb.out.size
    have HDr := Lib.hid (HD4.out.below hb.out hgl4)
    have HOr := Lib.hid (own_below2 HO4.out hb.out)
    have Kr := Lib.hid (K4.out.below hb.out hl4')
    have hlr := Kr.out.lt
    have hgr : g < wr.heap.size := by omega
    have c0 := HDr.out.cell 0
    by_cases hlt : j < n3
    · have hlt' : (j : Int) < n3 := by omega
      obtain ⟨r, hr⟩ : ∃ r, R1[j]? = some r := ⟨R1[j]'(by omega), List.getElem?_eq_getElem (by omega)⟩
      have HRJ := Lib.hid hr
      obtain ⟨b, rfl, -, hb1, hnc, hcm, hat⟩ := own_rc HOr.out hr
      unfold maxLen at hcm
      have HAT := Lib.hid hat
      clear hat hr
      obtain ⟨k0, k1, k2, k3, k4, k5, k6, k7, k8⟩ := Kr.out.nine
      obtain ⟨y0, y1, y2, y3, y4, y5, y6, y7, y8⟩ := HAT.out.nine
      go_upto_region 11 with fail
      go_cut [55] (fun s55 wx => s55 = .bool (!f && lessKy (keyH h) (keyH r.h)) ∧ Hid (Below wr.heap.size wr wx))
      case first =>
        cases f
        · have BR := Below.refl wr.heap.size wr
          have p1 : b < wr.heap.size := hb1
          go_region_held3 (fun w' => Below wr.heap.size wr w' ∧ (∀ b o, b < wr.heap.size → w'.cell? ⟨b, o, none⟩ = wr.cell? ⟨b, o, none⟩)) ((refine keepW ?_; first | with_reducible exact hB3q | with_reducible exact hB2q | with_reducible exact hB1q | with_reducible exact BR | with_reducible exact ⟨rfl, rfl, rfl, Nat.le_refl _, fun _ _ => rfl⟩))
            (first
              | (go_at_call 42; with_reducible refine (r7key_any ⟨h, ⟨A, n, c⟩, ⟨A', n', c'⟩⟩ _).mono ?_; rintro ea wa ⟨rfl, hba⟩; have hB1q := Below.trans (And.left ‹_›) (hba.mono (Below.size (And.left ‹_›))))
              | (go_at_call 42; with_reducible refine (r7key_any r _).mono ?_; rintro eb wb ⟨rfl, hbb⟩; have hB2q := Below.trans (And.left ‹_›) (hbb.mono (Below.size (And.left ‹_›))))
              | (go_at_call 44; refine (r7less_any ⟨h.kind, h.id, h.adv⟩ ⟨r.h.kind, r.h.id, r.h.adv⟩ _).mono ?_; rintro ec wc ⟨rfl, hbc⟩; have hB3q := Below.trans (And.left ‹_›) (hbc.mono (Below.size (And.left ‹_›)))))
          go_wp2_with fail
          go_meet
          exact ⟨rfl, Lib.hid hB3q⟩
        · go_quiet (fail)
          go_wp2_with fail
          go_meet
          exact ⟨rfl, Lib.hid (below_drewN (Below.refl _ _) _)⟩
      case rest =>
        obtain ⟨rfl, hbx⟩ := hcut
        rename World => wx
        have HDx := Lib.hid (HDr.out.below hbx.out hgr)
        have HXx := Lib.hid (own_below2 HX.out hbx.out)
        have HMx := Lib.hid (HMid.out.move (w' := wx) (fun x hx => hx.below hbx.out))
        have HATx := Lib.hid (HAT.out.below hbx.out hb1)
        have Kx := Lib.hid (Kr.out.below hbx.out hlr)
        have Bx := Lib.hid (hb.out.trans (hbx.out.mono hsz))
        have hsx := Bx.out.size
        have HXL := Lib.hid HX.out.1
        have hbx1 : b < wx.heap.size := by have := hbx.out.size; omega
        have hlx := Kx.out.lt
        clear k0 k1 k2 k3 k4 k5 k6 k7 k8 y0 y1 y2 y3 y4 y5 y6 y7 y8 c0 HDr HX HMid HAT Kr hb HOr hbx
        have c0 := HDx.out.cell 0
        cases hbb : (!f && lessKy (keyH h) (keyH r.h))
        · have HN := Lib.hid hbb
          clear hbb
          go_wp2_with (first
            | (refine wpList_load_rc (by rfl) (.tmp 67) rfl (by rfl) HATx.out ?_)
            | (at_builtin; refine wpList_append_any rfl (.tmp 61) (.tmp 69) 22 44 (.agg #[.int .i64 0, .int .i64 0, .int .i64 0, .int .i64 0, .int .i64 0, .int .i64 0, .int .i64 0, .slice none 0 0, .slice none 0 0]) 9 104 Tryz.underlying22 Tryz.infoLsa rfl (by decide) (by decide) rfl w4.heap.size (.slice A5 m c5) m (rcCells xs) (by rfl) (HXx.out.alloc _) (some ⟨wx.heap.size, 0, none⟩) 1 1 r.cells (by rfl) (by rfl) (fun h => by cases h) (news_new wx 44 r.cells) (fun u hu => rcCells_ones [r] u (by rw [rcCells_cons, List.mem_append]; exact .inl hu)) (by omega) (by simp; omega) ?_; intro v2 w5 ho2 hg2))
          obtain ⟨A6, c6, rfl⟩ := own_slice ho2.out
          have HM5 := Lib.hid ((HMx.out.no HRJ.out HN.out).move (w' := w5) (fun x hx => (hx.alloc _).grown (HXx.out.alloc _) hg2.out))
          have HB5 := Lib.hid ((Bx.out.alloc (by omega) _).trans (own_keeps7 (HXx.out.alloc _) hg2.out (by simp; omega)))
          have HX5 := Lib.hid (show w5.ownsRow w4.heap.size 44 9 (.slice A6 (m + 1) c6) (m + 1) (rcCells (xs ++ [r])) by
            rw [rcCells_append]
            have h2 := ho2.out
            simpa [rcCells] using h2)
          clear ho2 hg2
          go_wp2
          go_roundw
          case rel => exact ⟨j + 1, m + 1, c6, A6, f, xs ++ [r], by omega, by go_num, rfl, rfl, by omega, HX5, HM5, HB5⟩
          case measure => simp [intOf]; omega
        · have hbb' := hbb
          simp only [Bool.and_eq_true, Bool.not_eq_true'] at hbb'
          obtain ⟨rfl, hle⟩ := hbb'
          have HLE := Lib.hid hle
          clear hbb hle
          go_wp2_with (refine wpList_load_rc (r := ⟨h, ⟨A, n, c⟩, ⟨A', n', c'⟩⟩) (by rfl) (.tmp 3) rfl (by rfl) (rcAt_blk Kx.out) ?_)
          refine (r7sealed_any h L M A A' n c n' c' B _ (HL4.out.below (Bx.out.mono (by omega))) (HM4.out.below (Bx.out.mono (by omega))) (by omega) hn hn' HR.out).mono ?_
          rintro e5 w5 ⟨A7, n7, c7, A8, n8, c8, rfl, ho7, hq7, ho8, hq8, hb5⟩
          have HXS := Lib.hid (xok_of_seal (h := h) (own_low ho7 (show w.heap.size ≤ wx.heap.size by omega)) hq7 (own_low ho8 (show w.heap.size ≤ wx.heap.size by omega)) hq8)
          have HD5 := Lib.hid (HDx.out.below hb5 HDx.out.lt)
          have HX5 := Lib.hid (own_below2 HXx.out hb5)
          have HAT5 := Lib.hid (HATx.out.below hb5 (by have := hbx1; omega))
          have K5 := Lib.hid (Kx.out.below hb5 hlx)
          have B5 := Lib.hid (Bx.out.trans (hb5.mono hsx))
          have HM5 := Lib.hid HMx.out
          have hs5 := B5.out.size
          have hb5' : b < w5.heap.size := by have := hb5.size; omega
          clear ho7 hq7 ho8 hq8 hb5 HDx HXx HATx Kx Bx c0
          go_upto_region 14 with (at_builtin; refine wpList_append_any rfl (.tmp 56) (.tmp 59) 22 44 (.agg #[.int .i64 0, .int .i64 0, .int .i64 0, .int .i64 0, .int .i64 0, .int .i64 0, .int .i64 0, .slice none 0 0, .slice none 0 0]) 9 104 Tryz.underlying22 Tryz.infoLsa rfl (by decide) (by decide) rfl w4.heap.size (.slice A5 (m) c5) (m) (rcCells xs) (by rfl) (HX5.out.alloc _) (some ⟨w5.heap.size, 0, none⟩) 1 1 (Rc.cells ⟨sealHd h L M, ⟨A7, n7, c7⟩, ⟨A8, n8, c8⟩⟩) (by rfl) (by rfl) (fun h => by cases h) (news_new w5 44 (Rc.cells ⟨sealHd h L M, ⟨A7, n7, c7⟩, ⟨A8, n8, c8⟩⟩)) (fun u hu => rcCells_ones [⟨sealHd h L M, ⟨A7, n7, c7⟩, ⟨A8, n8, c8⟩⟩] u (by rw [rcCells_cons, List.mem_append]; exact .inl hu)) (by omega) (by simp; omega) ?_; intro v2 w6 ho2 hg2)
          obtain ⟨A6, c6, rfl⟩ := own_slice ho2.out
          have hk6 := own_keeps7 (HX5.out.alloc _) hg2.out (by simp; omega)
          have HXS6 := Lib.hid ((HXS.out.alloc _).grown (HX5.out.alloc _) hg2.out)
          have HB6 := Lib.hid ((B5.out.alloc (by omega) _).trans hk6)
          have HX6 := Lib.hid (show w6.ownsRow w4.heap.size 44 9 (.slice A6 (m + 1) c6) (m + 1) (rcCells (xs ++ [⟨sealHd h L M, ⟨A7, n7, c7⟩, ⟨A8, n8, c8⟩⟩])) by
            rw [rcCells_append]
            have h2 := ho2.out
            simpa [rcCells] using h2)
          have hs6 := HB6.out.size
          clear ho2 hg2 hk6 HX5 HD5 HAT5 K5 HXS B5
          have HD6 := Lib.hid (HD4.out.below HB6.out hgl4)
          have HO6 := Lib.hid (own_below2 HO4.out HB6.out)
          obtain ⟨b', e', -, hb1', -, -, hat'⟩ := own_rc HO6.out HRJ.out
          injection e' with e'
          injection e' with e'
          subst e'
          have HAT6 := Lib.hid hat'
          clear hat'
          have c0 := HD6.out.cell 0
          go_wp2_with (first
            | (refine wpList_load_rc (by rfl) (.tmp 67) rfl (by rfl) HAT6.out ?_)
            | (at_builtin; refine wpList_append_any rfl (.tmp 61) (.tmp 69) 22 44 (.agg #[.int .i64 0, .int .i64 0, .int .i64 0, .int .i64 0, .int .i64 0, .int .i64 0, .int .i64 0, .slice none 0 0, .slice none 0 0]) 9 104 Tryz.underlying22 Tryz.infoLsa rfl (by decide) (by decide) rfl w4.heap.size (.slice A6 (m + 1) c6) (m + 1) (rcCells (xs ++ [⟨sealHd h L M, ⟨A7, n7, c7⟩, ⟨A8, n8, c8⟩⟩])) (by rfl) (HX6.out.alloc _) (some ⟨w6.heap.size, 0, none⟩) 1 1 (Rc.cells r) (by rfl) (by rfl) (fun h => by cases h) (news_new w6 44 (Rc.cells r)) (fun u hu => rcCells_ones [r] u (by rw [rcCells_cons, List.mem_append]; exact .inl hu)) (by omega) (by simp; omega) ?_; intro v3 w7 ho3 hg3))
          obtain ⟨A9, c9, rfl⟩ := own_slice ho3.out
          have hk7 := own_keeps7 (HX6.out.alloc _) hg3.out (by simp; omega)
          have HM7 := Lib.hid (HMx.out.yes (w' := w7) HRJ.out HLE.out ((HXS6.out.alloc _).grown (HX6.out.alloc _) hg3.out))
          have HB7 := Lib.hid ((HB6.out.alloc (by omega) _).trans hk7)
          have HX7 := Lib.hid (show w7.ownsRow w4.heap.size 44 9 (.slice A9 (m + 1 + 1) c9) (m + 1 + 1) (rcCells (xs ++ [⟨sealHd h L M, ⟨A7, n7, c7⟩, ⟨A8, n8, c8⟩⟩] ++ [r])) by
            rw [rcCells_append _ [r]]
            have h2 := ho3.out
            simpa [rcCells] using h2)
          have hmj2 : m ≤ j := by
            have h1 := (HMx.out.1 rfl).1
            have h2 := HXL.out
            rw [h1, rcCells_length] at h2
            simp at h2
            omega
          clear ho3 hg3 hk7
          go_roundw
          case rel => exact ⟨j + 1, m + 1 + 1, c9, A9, true, xs ++ [⟨sealHd h L M, ⟨A7, n7, c7⟩, ⟨A8, n8, c8⟩⟩] ++ [r], by omega, by go_num, rfl, rfl, by omega, HX7, HM7, HB7⟩
          case measure => simp [intOf]; omega
    · have hR : R1.length ≤ j := by omega
      cases f
      · obtain ⟨k0, k1, k2, k3, k4, k5, k6, k7, k8⟩ := Kr.out.nine
        have HLr := Lib.hid (HL4.out.below (hb.out.mono (by omega)))
        have HMr := Lib.hid (HM4.out.below (hb.out.mono (by omega)))
        go_wp2_with (refine wpList_load_rc (r := ⟨h, ⟨A, n, c⟩, ⟨A', n', c'⟩⟩) (by rfl) (.tmp 3) rfl (by rfl) (rcAt_blk Kr.out) ?_)
        refine (r7sealed_any h L M A A' n c n' c' B _ HLr.out HMr.out (by omega) hn hn' HR.out).mono ?_
        rintro e5 w5 ⟨A7, n7, c7, A8, n8, c8, rfl, ho7, hq7, ho8, hq8, hb5⟩
        have HXS := Lib.hid (xok_of_seal (h := h) (own_low ho7 (show w.heap.size ≤ wr.heap.size by omega)) hq7 (own_low ho8 (show w.heap.size ≤ wr.heap.size by omega)) hq8)
        have HX5 := Lib.hid (own_below2 HX.out hb5)
        have B5 := Lib.hid (hb.out.trans (hb5.mono hsz))
        have hs5 := B5.out.size
        have HD5 := Lib.hid (HD4.out.below B5.out hgl4)
        clear ho7 hq7 ho8 hq8 hb5 c0
        have c0 := HD5.out.cell 0
        have f0 := HD5.out.frozen 0
        go_upto_region 17 with (at_builtin; refine wpList_append_any rfl (.tmp 73) (.tmp 76) 22 44 (.agg #[.int .i64 0, .int .i64 0, .int .i64 0, .int .i64 0, .int .i64 0, .int .i64 0, .int .i64 0, .slice none 0 0, .slice none 0 0]) 9 104 Tryz.underlying22 Tryz.infoLsa rfl (by decide) (by decide) rfl w4.heap.size (.slice A5 (m) c5) (m) (rcCells xs) (by rfl) (HX5.out.alloc _) (some ⟨w5.heap.size, 0, none⟩) 1 1 (Rc.cells ⟨sealHd h L M, ⟨A7, n7, c7⟩, ⟨A8, n8, c8⟩⟩) (by rfl) (by rfl) (fun h => by cases h) (news_new w5 44 (Rc.cells ⟨sealHd h L M, ⟨A7, n7, c7⟩, ⟨A8, n8, c8⟩⟩)) (fun u hu => rcCells_ones [⟨sealHd h L M, ⟨A7, n7, c7⟩, ⟨A8, n8, c8⟩⟩] u (by rw [rcCells_cons, List.mem_append]; exact .inl hu)) (by omega) (by simp; omega) ?_; intro v2 w6 ho2 hg2)
        obtain ⟨A6, c6, rfl⟩ := own_slice ho2.out
        have hk6 := own_keeps7 (HX5.out.alloc _) hg2.out (by simp; omega)
        have HXO := Lib.hid ((HXS.out.alloc _).grown (HX5.out.alloc _) hg2.out)
        have HBz := Lib.hid ((B5.out.alloc (by omega) _).trans hk6)
        have HXz := Lib.hid (show w6.ownsRow w4.heap.size 44 9 (.slice A6 (m + 1) c6) (m + 1) (rcCells (insR (keyH h) ⟨sealHd h L M, ⟨A7, n7, c7⟩, ⟨A8, n8, c8⟩⟩ R1)) by
          rw [← HMid.out.end_no hR, rcCells_append]
          have h2 := ho2.out
          simpa [rcCells] using h2)
        clear ho2 hg2 hk6 HX5 HD5 HXS B5 c0 f0
        have HDz := Lib.hid (HD4.out.below HBz.out hgl4)
        have c0 := HDz.out.cell 0
        have f0 := HDz.out.frozen 0
        go_wp2
        rw [← HQ.out]
        refine ⟨rfl, A6, m + 1, c6, ⟨sealHd h L M, ⟨A7, n7, c7⟩, ⟨A8, n8, c8⟩⟩, HDz.out.put0 _, ?_, ?_, ?_⟩
        · rw [HDR.out]
          exact own_low (own_ne HXz.out _ _ (own_not HXz.out (.inl hgl4))) hs4
        · exact HXO.out.cellDb HDz.out _
        · exact grown_then (grown_then HG4.out (grown_but (Below.grown0 HBz.out) (some g))) (grown_setCell _ ⟨g, 0, none⟩ _)
      · obtain ⟨x, hxo, hxs⟩ := HMid.out.end_yes hR
        have HXO := Lib.hid hxo
        have HXz := Lib.hid (show wr.ownsRow w4.heap.size 44 9 (.slice A5 m c5) m (rcCells (insR (keyH h) x R1)) by rw [← hxs]; exact HX.out)
        have HBz := hb
        have HDz := HDr
        have f0 := HDz.out.frozen 0
        clear hxo hxs
        go_wp2
        rw [← HQ.out]
        refine ⟨rfl, A5, m, c5, x, HDz.out.put0 _, ?_, ?_, ?_⟩
        · rw [HDR.out]
          exact own_low (own_ne HXz.out _ _ (own_not HXz.out (.inl hgl4))) hs4
        · exact HXO.out.cellDb HDz.out _
        · exact grown_then (grown_then HG4.out (grown_but (Below.grown0 HBz.out) (some g))) (grown_setCell _ ⟨g, 0, none⟩ _)
end Go.Proofs.YtfdfdmbnggpnbaaGreat
