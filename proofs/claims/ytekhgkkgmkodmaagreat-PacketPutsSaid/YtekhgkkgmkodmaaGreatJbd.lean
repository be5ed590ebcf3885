/- The call Get of package packet, of any bytes. Conditions: the slice reads as bytes, at most 2^20 of them. -/
import Derived.Test.YtekhgkkgmkodmaaGreatJbc
namespace Go.Proofs.YtekhgkkgmkodmaaGreat
open Go.RowKit

set_option maxRecDepth 8000 in
set_option maxHeartbeats 8000000 in
theorem get_all (hW : WantOk) (A : Option Addr) (n c B : Nat) (l : List Int) (w : World) (hr : Row .u8 w B A n l) (hby : Byt l) (hB : B ≤ w.heap.size) (hn2 : n ≤ 1048576) (hnc : n ≤ c) (hc : c ≤ maxLen) :
    Calls Tryz.prog 9 #[.slice A n c] w (GotP w l) := by
  by_cases hn : n < 24
  · refine (get_short A n c w hn).mono ?_
    intro x w' h
    refine .inl ⟨⟨3, by decide, h⟩, ?_⟩
    rintro ⟨v0, pl0, hr0, hl0⟩
    have h1 := (puts_facts hr0 hl0).2.2.2.2.2.2.2.1
    rw [hr.1] at h1
    omega
  cases hgd : goodB l
  · refine (get_sum A n c B l w hr hby hB (by omega) hn2 hnc hgd).mono ?_
    intro x w' h
    refine .inl ⟨⟨5, by decide, h⟩, ?_⟩
    rintro ⟨v0, pl0, hr0, hl0⟩
    have h1 := (puts_facts hr0 hl0).2.2.2.2.2.2.1
    rw [hgd] at h1
    cases h1
  generalize hQ : GotP w l = Q
  have HQ := Lib.hid hQ
  obtain ⟨b0, o0, rfl, hb0, -⟩ := hr.2 (by omega)
  have HR := Lib.hid hr
  have HY := Lib.hid hby
  have HGD := Lib.hid hgd
  have HC := Lib.hid hc
  have HT := fun (W : World) (hR : Row .u8 W B (some ⟨b0, o0, none⟩) n l) (hBW : B ≤ W.heap.size) => Lib.hid (told_all hW b0 o0 n c B l W hR hby hBW (by omega) hn2 hnc hc)
  have K0 := Lib.hid (Blk.new w 31 #[.int .i64 0, .int .i64 0, .int .i64 0, .int .i64 0, .int .i64 0, .int .i64 0, .int .i64 0, .slice none 0 0, .bool false, .bool false, .bool false, .int .i64 0, .slice none 0 0, .slice none 0 0, .slice none 0 0, .slice none 0 0])
  have B0 := Lib.hid ((Below.refl w.heap.size w).alloc (Nat.le_refl _) (.cells #[.int .i64 0, .int .i64 0, .int .i64 0, .int .i64 0, .int .i64 0, .int .i64 0, .int .i64 0, .slice none 0 0, .bool false, .bool false, .bool false, .int .i64 0, .slice none 0 0, .slice none 0 0, .slice none 0 0, .slice none 0 0] 31))
  clear hQ hr hby hgd hc
  go_enter Tryz.func9, Tryz.ntmps9
  go_wp2_with fail
  refine (good_any (some ⟨b0, o0, none⟩) n c B l _ (HR.out.alloc hB _) HY.out (by omega) (by simp; omega) hnc).mono ?_
  rintro e1 w1 ⟨rfl, hb1⟩
  rw [HGD.out]
  have K1 := Lib.hid (K0.out.below hb1 (by simp))
  have B1 := Lib.hid (B0.out.trans (hb1.mono (by simp)))
  have HR1 := Lib.hid (HR.out.below (B1.out.mono hB))
  have hs1 := B1.out.size
  have hk1 := K1.out.lt
  clear hb1 K0 B0
  go_wp2_with fail
  refine ((HT _ HR1.out (by omega)).out).mono ?_
  rintro e2 w2 (⟨⟨e, he, rfl, hb2⟩, hnp⟩ | ⟨v, pl, rfl, hb2, hup, hsm, hrt, htl, hcm⟩)
  · have HNP := Lib.hid hnp
    have K2 := Lib.hid (K1.out.below hb2 K1.out.lt)
    have B2 := Lib.hid (B1.out.trans (hb2.mono hs1))
    clear hb2 K1 B1 hnp
    obtain ⟨a0, a1, a2, a3, a4, a5, a6, a7, a8, a9, a10, a11, a12, a13, a14, a15⟩ := K2.out.sixteen
    obtain ⟨f0, f1, f2, f3, f4, f5, f6, f7, f8, f9, f10, f11, f12, f13, f14, f15⟩ := K2.out.sixteenF
    go_wp2
    refine bodyPost_ret (v := .tuple #[.agg #[.int .i64 0, .int .i64 0, .int .i64 0, .int .i64 0, .int .i64 0, .int .i64 0, .int .i64 0, .slice none 0 0, .bool false, .bool false, .bool false, .int .i64 0, .slice none 0 0, .slice none 0 0, .slice none 0 0, .slice none 0 0], .int .i64 e]) (by simp [results, Tryz.results9, go_sem, *]) rfl ?_
    rw [← HQ.out]
    refine .inl ⟨⟨e, he, rfl, ?_⟩, HNP.out⟩
    iterate 16 (refine Below.setCell ?_ (by simp) _)
    exact B2.out
  · have HUP := Lib.hid hup
    have HSM := Lib.hid hsm
    have HRT := Lib.hid hrt
    have HTL := Lib.hid htl
    have HCM := Lib.hid hcm
    have K2 := Lib.hid (K1.out.below hb2 K1.out.lt)
    have B2 := Lib.hid (B1.out.trans (hb2.mono hs1))
    clear hb2 K1 B1 hup hsm hrt htl hcm
    obtain ⟨a0, a1, a2, a3, a4, a5, a6, a7, a8, a9, a10, a11, a12, a13, a14, a15⟩ := K2.out.sixteen
    obtain ⟨f0, f1, f2, f3, f4, f5, f6, f7, f8, f9, f10, f11, f12, f13, f14, f15⟩ := K2.out.sixteenF
    go_wp2
    refine bodyPost_ret (v := .tuple #[.agg #[.int .i64 v.kind, .int .i64 v.sender, .int .i64 v.every, .int .i64 v.dead, .int .i64 v.prio, .int .i64 v.dr, .int .i64 v.bdr, .slice v.seen.a v.seen.n v.seen.c, .bool v.ini, .bool v.mor, .bool v.mas, .int .i64 v.seq, .slice v.heads.a v.heads.n v.heads.c, .slice v.wants.a v.wants.n v.wants.c, .slice v.lsas.a v.lsas.n v.lsas.c, .slice v.acks.a v.acks.n v.acks.c], .int .i64 0]) (by simp [results, Tryz.results9, go_sem, *]) rfl ?_
    rw [← HQ.out]
    refine .inr ⟨v, pl, rfl, ?_, ?_, HSM.out, HRT.out, HTL.out, HCM.out⟩
    · iterate 16 (refine Below.setCell ?_ (by simp) _)
      exact B2.out
    · intro lo w3 hlo ha
      refine HUP.out (w.heap.size + 1) w3 (by omega) (Above.trans ?_ (ha.mono (by omega)))
      iterate 16 (refine Above.set ?_ (by simp) _)
      exact Above.refl _ _
end Go.Proofs.YtekhgkkgmkodmaaGreat
