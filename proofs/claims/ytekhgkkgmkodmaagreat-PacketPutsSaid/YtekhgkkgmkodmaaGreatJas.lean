/- The calls told and Get of package packet, of a Hello of nobody that is right. Conditions: forty bytes. -/
import Derived.Test.YtekhgkkgmkodmaaGreatJar
namespace Go.Proofs.YtekhgkkgmkodmaaGreat
open Go.RowKit

/-- A Hello of nobody. -/
def nobody (s e d p r1 r2 : Int) : Pv := ⟨1, s, e, d, p, r1, r2, ⟨none, 0, 0⟩, false, false, false, 0, ⟨none, 0, 0⟩, ⟨none, 0, 0⟩, ⟨none, 0, 0⟩, ⟨none, 0, 0⟩⟩
def noL : Pl := ⟨[], [], [], [], []⟩
theorem nobody_in (w : World) (B : Nat) (s e d p r1 r2 : Int) : PkIn w B (nobody s e d p r1 r2) noL := ⟨Row.nil, Arr.nil, Arr.nil, Arr.nil, Arr.nil⟩
theorem nobody_sm (s e d p r1 r2 : Int) : PkSm (nobody s e d p r1 r2) := by
  unfold PkSm nobody maxLen
  simp
/-- A packet, and no error. -/
def YesP (w : World) (c : Array Value) (x : Ending) (w' : World) : Prop := x = .returned (.tuple #[.agg c, .int .i64 0]) ∧ Below w.heap.size w w'

set_option maxRecDepth 8000 in
set_option maxHeartbeats 8000000 in
theorem told_nobody (A : Option Addr) (c B : Nat) (l : List Int) (w : World) (s e d p r1 r2 : Int) (hr : Row .u8 w B A 40 l) (hby : Byt l) (hB : B ≤ w.heap.size) (hnc : 40 ≤ c) (hc : c ≤ maxLen) (hok : lenOk l = true) (hpl : plong l = 40) (hk : wordAt l 1 1 = 1) (hw : wrongB l = false) (hz : wordAt l 26 1 = 0)
    (hs : wordAt l 4 4 = s) (he : wordAt l 24 2 = e) (hd : wordAt l 28 4 = d) (hp : wordAt l 27 1 = p) (h1 : wordAt l 32 4 = r1) (h2 : wordAt l 36 4 = r2) (hrt : rightP (nobody s e d p r1 r2) noL = true) :
    Calls Tryz.prog 36 #[.slice A 40 c] w (YesP w #[.int .i64 1, .int .i64 s, .int .i64 e, .int .i64 d, .int .i64 p, .int .i64 r1, .int .i64 r2, .slice none 0 0, .bool false, .bool false, .bool false, .int .i64 0, .slice none 0 0, .slice none 0 0, .slice none 0 0, .slice none 0 0]) := by
  generalize hQ : YesP w #[.int .i64 1, .int .i64 s, .int .i64 e, .int .i64 d, .int .i64 p, .int .i64 r1, .int .i64 r2, .slice none 0 0, .bool false, .bool false, .bool false, .int .i64 0, .slice none 0 0, .slice none 0 0, .slice none 0 0, .slice none 0 0] = Q
  have HQ := Lib.hid hQ
  have HLEN := Lib.hid hr.1
  have HR := Lib.hid hr
  have HY := Lib.hid hby
  have HOK := Lib.hid hok
  have HPL := Lib.hid hpl
  have HC := Lib.hid hc
  have HK := Lib.hid hk
  have HW := Lib.hid hw
  have HZ := Lib.hid hz
  have HS := Lib.hid hs
  have HE := Lib.hid he
  have HD := Lib.hid hd
  have HP := Lib.hid hp
  have H1 := Lib.hid h1
  have H2 := Lib.hid h2
  have HRT := Lib.hid hrt
  have K0 := Lib.hid ((Blk.new w 31 #[.int .i64 0, .int .i64 0, .int .i64 0, .int .i64 0, .int .i64 0, .int .i64 0, .int .i64 0, .slice none 0 0, .bool false, .bool false, .bool false, .int .i64 0, .slice none 0 0, .slice none 0 0, .slice none 0 0, .slice none 0 0]).alloc (.cells #[.pointer none, .int .i64 0, .int .i64 0, .int .i64 0, .int .i64 0, .int .i64 0, .int .i64 0, .int .i64 0, .slice none 0 0, .bool false, .bool false, .bool false, .int .i64 0, .slice none 0 0, .slice none 0 0, .slice none 0 0, .slice none 0 0, .bool false, .int .i64 0] 95))
  have G0 := Lib.hid (blk_new1 w (.cells #[.int .i64 0, .int .i64 0, .int .i64 0, .int .i64 0, .int .i64 0, .int .i64 0, .int .i64 0, .slice none 0 0, .bool false, .bool false, .bool false, .int .i64 0, .slice none 0 0, .slice none 0 0, .slice none 0 0, .slice none 0 0] 31) 95 #[.pointer none, .int .i64 0, .int .i64 0, .int .i64 0, .int .i64 0, .int .i64 0, .int .i64 0, .int .i64 0, .slice none 0 0, .bool false, .bool false, .bool false, .int .i64 0, .slice none 0 0, .slice none 0 0, .slice none 0 0, .slice none 0 0, .bool false, .int .i64 0])
  have B0 := Lib.hid (((Below.refl w.heap.size w).alloc (Nat.le_refl _) (.cells #[.int .i64 0, .int .i64 0, .int .i64 0, .int .i64 0, .int .i64 0, .int .i64 0, .int .i64 0, .slice none 0 0, .bool false, .bool false, .bool false, .int .i64 0, .slice none 0 0, .slice none 0 0, .slice none 0 0, .slice none 0 0] 31)).alloc (by simp) (.cells #[.pointer none, .int .i64 0, .int .i64 0, .int .i64 0, .int .i64 0, .int .i64 0, .int .i64 0, .int .i64 0, .slice none 0 0, .bool false, .bool false, .bool false, .int .i64 0, .slice none 0 0, .slice none 0 0, .slice none 0 0, .slice none 0 0, .bool false, .int .i64 0] 95))
  obtain ⟨b0, o0, rfl, hb0, -⟩ := hr.2 (by omega)
  clear hQ hr hby hok hpl hk hw hz hs he hd hp h1 h2 hrt
  unfold maxLen at hc
  go_enter Tryz.func36, Tryz.ntmps36
  go_wp2
  refine scope_fwd 0 rfl ?_
  go_wp2_with fail
  refine (length_any (some ⟨b0, o0, none⟩) 40 c B l _ ((HR.out.alloc hB _).alloc (by simp; omega) _) HY.out (by simp; omega) (by omega) (by omega) hnc HC.out).mono ?_
  rintro e1 w1 ⟨hb1, m, rfl, hm⟩
  rw [HOK.out]
  have hm40 : m = 40 := by rw [hm HOK.out, HPL.out]; rfl
  subst hm40
  have K1 := Lib.hid (K0.out.below hb1 (by simp; omega))
  have G1 := Lib.hid (G0.out.below hb1 (by simp))
  have B1 := Lib.hid (B0.out.trans (hb1.mono (by simp; omega)))
  clear hb1 K0 B0 G0 hm
  have hs1 := B1.out.size
  have hg1 := G1.out.lt
  have HR1 := Lib.hid (HR.out.below (B1.out.mono hB))
  go_wp2_with fail
  refine (rd_read (some ⟨b0, o0, none⟩) 40 c B l _ HR1.out HY.out (by omega) (by omega)).mono ?_
  rintro e2 w2 ⟨rfl, hb2, hrd2⟩
  have K2 := Lib.hid (K1.out.below hb2 (by omega))
  have G2 := Lib.hid (G1.out.below hb2 hg1)
  have B2 := Lib.hid (B1.out.trans (hb2.mono hs1))
  obtain ⟨q, hq⟩ : ∃ q, w1.heap.size + 1 = q := ⟨_, rfl⟩
  have hgq : w.heap.size + 1 < q := by omega
  rw [hq] at hrd2 ⊢
  have RD2 := Lib.hid (hrd2.lower (b := w.heap.size + 1 + 1) (by omega))
  clear hb2 hrd2 K1 B1 G1 hq
  obtain ⟨a0, a1, a2, a3, a4, a5, a6, a7, a8, a9, a10, a11, a12, a13, a14, a15, a16, a17, a18⟩ := G2.out.nt
  have f0 := G2.out.frozen 0
  have G3 := Lib.hid (show Blk (w2.setCell ⟨w.heap.size + 1, 0, none⟩ (.pointer (some ⟨q, 0, none⟩))) (w.heap.size + 1) 95 #[.pointer (some ⟨q, 0, none⟩), .int .i64 0, .int .i64 0, .int .i64 0, .int .i64 0, .int .i64 0, .int .i64 0, .int .i64 0, .slice none 0 0, .bool false, .bool false, .bool false, .int .i64 0, .slice none 0 0, .slice none 0 0, .slice none 0 0, .slice none 0 0, .bool false, .int .i64 0] from G2.out.put 0 (.pointer (some ⟨q, 0, none⟩)))
  have RD3 := Lib.hid (show Rd (w2.setCell ⟨w.heap.size + 1, 0, none⟩ (.pointer (some ⟨q, 0, none⟩))) (w.heap.size + 1 + 1) q l 0 from RD2.out.far (p := ⟨w.heap.size + 1, 0, none⟩) (.inl (by simp)) _)
  have B3 := Lib.hid (show Below w.heap.size w (w2.setCell ⟨w.heap.size + 1, 0, none⟩ (.pointer (some ⟨q, 0, none⟩))) from B2.out.setCell (p := ⟨w.heap.size + 1, 0, none⟩) (by simp) _)
  have K3 := Lib.hid (show Blk (w2.setCell ⟨w.heap.size + 1, 0, none⟩ (.pointer (some ⟨q, 0, none⟩))) w.heap.size 31 #[.int .i64 0, .int .i64 0, .int .i64 0, .int .i64 0, .int .i64 0, .int .i64 0, .int .i64 0, .slice none 0 0, .bool false, .bool false, .bool false, .int .i64 0, .slice none 0 0, .slice none 0 0, .slice none 0 0, .slice none 0 0] from K2.out.far (p := ⟨w.heap.size + 1, 0, none⟩) (by simp) _)
  clear G2 RD2 B2 K2
  go_wp2_with fail
  refine (phead_ok (w.heap.size + 1) q l _ ⟨G3.out, RD3.out⟩ (by rw [HLEN.out]; omega)).mono ?_
  rintro e4 w4 ⟨rfl, hrs4, hb4⟩
  rw [HK.out, HS.out, HW.out] at hrs4
  have RS4 := Lib.hid hrs4
  have B4 := Lib.hid (B3.out.trans (hb4.mono (by omega)))
  have K4 := Lib.hid (K3.out.below hb4 (by omega))
  clear hrs4 hb4 G3 RD3 B3 K3 a0 a1 a2 a3 a4 a5 a6 a7 a8 a9 a10 a11 a12 a13 a14 a15 a16 a17 a18 f0
  go_wp2_with fail
  refine (rest_hello (w.heap.size + 1) q s false l _ RS4.out HLEN.out).mono ?_
  rintro e5 w5 ⟨rfl, ⟨hkb5, hrd5⟩, hb5⟩
  rw [HZ.out, HE.out, HD.out, HP.out, H1.out, H2.out] at hkb5
  have G5 := Lib.hid (show Blk w5 (w.heap.size + 1) 95 #[.pointer (some ⟨q, 0, none⟩), .int .i64 1, .int .i64 s, .int .i64 e, .int .i64 d, .int .i64 p, .int .i64 r1, .int .i64 r2, .slice none 0 0, .bool false, .bool false, .bool false, .int .i64 0, .slice none 0 0, .slice none 0 0, .slice none 0 0, .slice none 0 0, .bool false, .int .i64 0] from hkb5)
  have RD5 := Lib.hid hrd5
  have B5 := Lib.hid (B4.out.trans (hb5.mono (by omega)))
  have K5 := Lib.hid (K4.out.below hb5 (by omega))
  clear hkb5 hrd5 hb5 RS4 B4 K4
  obtain ⟨a0, a1, a2, a3, a4, a5, a6, a7, a8, a9, a10, a11, a12, a13, a14, a15, a16, a17, a18⟩ := G5.out.nt
  go_wp2_with fail
  refine (rd_err _ _ 40 l _ RD5.out).mono ?_
  rintro e6 w6 ⟨rfl, rfl⟩
  go_wp2_with fail
  refine (rd_left _ _ 40 l _ RD5.out).mono ?_
  rintro e7 w7 ⟨rfl, d7, rfl⟩
  rw [show ((l.length - 40 : Nat) : Int) = 0 by rw [HLEN.out]; rfl]
  have G7 := Lib.hid (G5.out.drewN d7)
  have B7 := Lib.hid (below_drewN B5.out d7)
  have K7 := Lib.hid (K5.out.drewN d7)
  clear G5 B5 K5 RD5
  generalize w5.drewN d7 = wn at *
  clear a0 a1 a2 a3 a4 a5 a6 a7 a8 a9 a10 a11 a12 a13 a14 a15 a16 a17 a18
  obtain ⟨a0, a1, a2, a3, a4, a5, a6, a7, a8, a9, a10, a11, a12, a13, a14, a15, a16, a17, a18⟩ := G7.out.nt
  go_wp2_with fail
  refine (pright_any (nobody s e d p r1 r2) noL 0 _ (nobody_in _ _ _ _ _ _ _ _) (nobody_sm _ _ _ _ _ _) (Nat.zero_le _)).mono ?_
  rintro e8 w8 ⟨rfl, hb8⟩
  rw [HRT.out]
  have G8 := Lib.hid (G7.out.below hb8 G7.out.lt)
  have B8 := Lib.hid (B7.out.trans (hb8.mono B7.out.size))
  have K8 := Lib.hid (K7.out.below hb8 K7.out.lt)
  clear hb8 G7 B7 K7 a0 a1 a2 a3 a4 a5 a6 a7 a8 a9 a10 a11 a12 a13 a14 a15 a16 a17 a18
  obtain ⟨a0, a1, a2, a3, a4, a5, a6, a7, a8, a9, a10, a11, a12, a13, a14, a15, a16, a17, a18⟩ := G8.out.nt
  obtain ⟨k0, k1, k2, k3, k4, k5, k6, k7, k8, k9, k10, k11, k12, k13, k14, k15⟩ := K8.out.sixteen
  obtain ⟨f0, f1, f2, f3, f4, f5, f6, f7, f8, f9, f10, f11, f12, f13, f14, f15⟩ := K8.out.sixteenF
  go_wp2
  refine bodyPost_ret (v := .tuple #[.agg #[.int .i64 1, .int .i64 s, .int .i64 e, .int .i64 d, .int .i64 p, .int .i64 r1, .int .i64 r2, .slice none 0 0, .bool false, .bool false, .bool false, .int .i64 0, .slice none 0 0, .slice none 0 0, .slice none 0 0, .slice none 0 0], .int .i64 0]) (by simp [results, Tryz.results36, go_sem, *]) rfl ?_
  rw [← HQ.out]
  refine ⟨rfl, ?_⟩
  iterate 16 (refine Below.setCell ?_ (by simp) _)
  exact B8.out

set_option maxRecDepth 8000 in
set_option maxHeartbeats 8000000 in
theorem get_nobody (A : Option Addr) (c B : Nat) (l : List Int) (w : World) (s e d p r1 r2 : Int) (hr : Row .u8 w B A 40 l) (hby : Byt l) (hB : B ≤ w.heap.size) (hnc : 40 ≤ c) (hc : c ≤ maxLen) (hgd : goodB l = true) (hok : lenOk l = true) (hpl : plong l = 40) (hk : wordAt l 1 1 = 1) (hw : wrongB l = false) (hz : wordAt l 26 1 = 0)
    (hs : wordAt l 4 4 = s) (he : wordAt l 24 2 = e) (hd : wordAt l 28 4 = d) (hp : wordAt l 27 1 = p) (h1 : wordAt l 32 4 = r1) (h2 : wordAt l 36 4 = r2) (hrt : rightP (nobody s e d p r1 r2) noL = true) :
    Calls Tryz.prog 9 #[.slice A 40 c] w (YesP w #[.int .i64 1, .int .i64 s, .int .i64 e, .int .i64 d, .int .i64 p, .int .i64 r1, .int .i64 r2, .slice none 0 0, .bool false, .bool false, .bool false, .int .i64 0, .slice none 0 0, .slice none 0 0, .slice none 0 0, .slice none 0 0]) := by
  generalize hQ : YesP w #[.int .i64 1, .int .i64 s, .int .i64 e, .int .i64 d, .int .i64 p, .int .i64 r1, .int .i64 r2, .slice none 0 0, .bool false, .bool false, .bool false, .int .i64 0, .slice none 0 0, .slice none 0 0, .slice none 0 0, .slice none 0 0] = Q
  have HQ := Lib.hid hQ
  have HR := Lib.hid hr
  have HY := Lib.hid hby
  have HGD := Lib.hid hgd
  have HC := Lib.hid hc
  have HT := fun (W : World) (hR : Row .u8 W B A 40 l) (hBW : B ≤ W.heap.size) => Lib.hid (told_nobody A c B l W s e d p r1 r2 hR hby hBW hnc hc hok hpl hk hw hz hs he hd hp h1 h2 hrt)
  have K0 := Lib.hid (Blk.new w 31 #[.int .i64 0, .int .i64 0, .int .i64 0, .int .i64 0, .int .i64 0, .int .i64 0, .int .i64 0, .slice none 0 0, .bool false, .bool false, .bool false, .int .i64 0, .slice none 0 0, .slice none 0 0, .slice none 0 0, .slice none 0 0])
  have B0 := Lib.hid ((Below.refl w.heap.size w).alloc (Nat.le_refl _) (.cells #[.int .i64 0, .int .i64 0, .int .i64 0, .int .i64 0, .int .i64 0, .int .i64 0, .int .i64 0, .slice none 0 0, .bool false, .bool false, .bool false, .int .i64 0, .slice none 0 0, .slice none 0 0, .slice none 0 0, .slice none 0 0] 31))
  clear hQ hr hby hgd hok hpl hk hw hz hs he hd hp h1 h2 hrt
  go_enter Tryz.func9, Tryz.ntmps9
  go_wp2_with fail
  refine (good_any A 40 c B l _ (HR.out.alloc hB _) HY.out (by omega) (by simp; omega) hnc).mono ?_
  rintro e1 w1 ⟨rfl, hb1⟩
  rw [HGD.out]
  have K1 := Lib.hid (K0.out.below hb1 (by simp))
  have B1 := Lib.hid (B0.out.trans (hb1.mono (by simp)))
  have HR1 := Lib.hid (HR.out.below (B1.out.mono hB))
  have hs1 := B1.out.size
  clear hb1 K0 B0
  go_wp2_with fail
  refine ((HT _ HR1.out (by omega)).out).mono ?_
  rintro e2 w2 ⟨rfl, hb2⟩
  have K2 := Lib.hid (K1.out.below hb2 K1.out.lt)
  have B2 := Lib.hid (B1.out.trans (hb2.mono hs1))
  clear hb2 K1 B1
  obtain ⟨a0, a1, a2, a3, a4, a5, a6, a7, a8, a9, a10, a11, a12, a13, a14, a15⟩ := K2.out.sixteen
  obtain ⟨f0, f1, f2, f3, f4, f5, f6, f7, f8, f9, f10, f11, f12, f13, f14, f15⟩ := K2.out.sixteenF
  go_wp2
  refine bodyPost_ret (v := .tuple #[.agg #[.int .i64 1, .int .i64 s, .int .i64 e, .int .i64 d, .int .i64 p, .int .i64 r1, .int .i64 r2, .slice none 0 0, .bool false, .bool false, .bool false, .int .i64 0, .slice none 0 0, .slice none 0 0, .slice none 0 0, .slice none 0 0], .int .i64 0]) (by simp [results, Tryz.results9, go_sem, *]) rfl ?_
  rw [← HQ.out]
  refine ⟨rfl, ?_⟩
  iterate 16 (refine Below.setCell ?_ (by simp) _)
  exact B2.out
end Go.Proofs.YtekhgkkgmkodmaaGreat
