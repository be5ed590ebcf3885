/- The calls told and Get of package packet, of any bytes. Conditions: the slice reads as bytes, at most 2^20 of them. -/
import Derived.Test.YtekhgkkgmkodmaaGreatJbb
namespace Go.Proofs.YtekhgkkgmkodmaaGreat
open Go.RowKit

/-- What told and Get answer: an error, and then the bytes were not put; or the packet that they tell. -/
def GotP (w : World) (l : List Int) (x : Ending) (w' : World) : Prop :=
  ((∃ e, e ≠ 0 ∧ NoP w e x w') ∧ ¬ Puts l) ∨
  (∃ v pl, x = .returned (.tuple #[.agg #[.int .i64 v.kind, .int .i64 v.sender, .int .i64 v.every, .int .i64 v.dead, .int .i64 v.prio, .int .i64 v.dr, .int .i64 v.bdr, .slice v.seen.a v.seen.n v.seen.c, .bool v.ini, .bool v.mor, .bool v.mas, .int .i64 v.seq, .slice v.heads.a v.heads.n v.heads.c, .slice v.wants.a v.wants.n v.wants.c, .slice v.lsas.a v.lsas.n v.lsas.c, .slice v.acks.a v.acks.n v.acks.c], .int .i64 0]) ∧ Below w.heap.size w w' ∧ (∀ lo w2, lo ≤ w.heap.size → Above lo w' w2 → PkIn w2 w2.heap.size v pl) ∧ PkSm v ∧ rightP v pl = true ∧ Tells l v pl ∧ ∀ v0 pl0, rightP v0 pl0 = true → l = pktBytes v0 pl0 → SameN v v0 ∧ pl = pl0)
theorem wrongB_take (l : List Int) (p : Nat) (h : 24 ≤ p) : wrongB (l.take p) = wrongB l := by
  unfold wrongB
  rw [wordAt_pre l 8 4 p (by omega), wordAt_pre l 14 2 p (by omega), wordAt_pre l 16 4 p (by omega), wordAt_pre l 20 4 p (by omega)]
/-- What comes of the reader, seen from all of the bytes. -/
theorem told_out {l : List Int} {p : Nat} {v : Pv} {pl : Pl} {wr : Bool} {er : Int} {a : Nat} {e : Int} (hok : lenOk l = true) (hp : plong l = p) (h24 : 24 ≤ p) (hn : l.length = p + p % 2) (h : Outcome (l.take p) (wordAt l 1 1) (wordAt l 4 4) (wrongB l) v pl wr er a e) :
    (Okk wr er (l.take p) a e → rightP v pl = true → Tells l v pl) ∧ (∀ v0 pl0, rightP v0 pl0 = true → l = pktBytes v0 pl0 → Okk wr er (l.take p) a e ∧ SameN v v0 ∧ pl = pl0) := by
  obtain ⟨h1, h2, h3, h4⟩ := h
  constructor
  · intro ho hr
    obtain ⟨g1, g2⟩ := h3 ho
    have g3 := g2 hr
    obtain ⟨_, hev⟩ := body_len (right_parts hr).2.2
    rw [g3, List.length_drop, List.length_take] at hev
    have hpl : l.take p = l := List.take_of_length_le (by omega)
    rw [hpl] at g3
    exact ⟨hok, by omega, h1.symm, h2.symm, g1, g3, by omega⟩
  · intro v0 pl0 hr hl
    obtain ⟨_, f2, f3, f4, f5, f6, _⟩ := puts_facts hr hl
    have hpl : l.take p = l := List.take_of_length_le (by omega)
    refine h4 v0 pl0 hr f3.symm f4.symm ?_ f5
    rw [hpl]
    exact f6
set_option maxRecDepth 8000 in
set_option maxHeartbeats 8000000 in
/-- Behind the label: no packet, and the error of what isn't formed. -/
theorem told_mis {x0 x1 x3 x4 x5 x6 x7 x8 x9 x10 x11 x12 x13 x14 x15 x16 x17 x18 x19 x20 x21 x22 x23 x24 x25 x26 x27 x28 x29 x30 x31 x32 x33 x34 x35 x36 x37 x38 x39 x40 x41 x42 x43 x44 x45 : Value} {w w5 : World} {Q : Ending → World → Prop} (K5 : Blk w5 w.heap.size 31 #[.int .i64 0, .int .i64 0, .int .i64 0, .int .i64 0, .int .i64 0, .int .i64 0, .int .i64 0, .slice none 0 0, .bool false, .bool false, .bool false, .int .i64 0, .slice none 0 0, .slice none 0 0, .slice none 0 0, .slice none 0 0]) (B5 : Below w.heap.size w w5) (hQ : ∀ wF, Below w.heap.size w wF → Q (.returned (.tuple #[.agg #[.int .i64 0, .int .i64 0, .int .i64 0, .int .i64 0, .int .i64 0, .int .i64 0, .int .i64 0, .slice none 0 0, .bool false, .bool false, .bool false, .int .i64 0, .slice none 0 0, .slice none 0 0, .slice none 0 0, .slice none 0 0], .int .i64 4])) wF) :
    Code.wp Tryz.prog (Code.skip.seq ((Code.region 13 #[{ dst := some 45, op := Op.build 31 #[], type := 31, pos := "read.go:43", after := #[], guard := none }, { dst := none, op := Op.store 31 (Operand.tmp 2) (Operand.tmp 45), type := 0, pos := "read.go:43", after := #[{ on := 0, ground := Ground.data }, { on := 0, ground := Ground.phase }], guard := none }, { dst := some 3, op := Op.assign (Operand.const (Value.int IntKind.i64 4)), type := 35, pos := "read.go:43", after := #[{ on := 1, ground := Ground.chain }, { on := 0, ground := Ground.phase }, { on := 1, ground := Ground.phase }], guard := none }] false).seq Code.ret)) (Exit.noGoto (bodyPost Tryz.prog Tryz.f36 Q)) { tmps := #[x0, x1, .pointer (some ⟨w.heap.size, 0, none⟩), x3, x4, x5, x6, x7, x8, x9, x10, x11, x12, x13, x14, x15, x16, x17, x18, x19, x20, x21, x22, x23, x24, x25, x26, x27, x28, x29, x30, x31, x32, x33, x34, x35, x36, x37, x38, x39, x40, x41, x42, x43, x44, x45], defers := [] } w5 := by
  obtain ⟨k0, k1, k2, k3, k4, k5, k6, k7, k8, k9, k10, k11, k12, k13, k14, k15⟩ := K5.sixteen
  obtain ⟨f0, f1, f2, f3, f4, f5, f6, f7, f8, f9, f10, f11, f12, f13, f14, f15⟩ := K5.sixteenF
  go_wp2
  refine bodyPost_ret (v := .tuple #[.agg #[.int .i64 0, .int .i64 0, .int .i64 0, .int .i64 0, .int .i64 0, .int .i64 0, .int .i64 0, .slice none 0 0, .bool false, .bool false, .bool false, .int .i64 0, .slice none 0 0, .slice none 0 0, .slice none 0 0, .slice none 0 0], .int .i64 4]) (by simp [results, Tryz.results36, go_sem, *]) rfl ?_
  refine hQ _ ?_
  iterate 16 (refine Below.setCell ?_ (by simp) _)
  exact B5
set_option maxRecDepth 8000 in
set_option maxHeartbeats 16000000 in
theorem told_all (hW : WantOk) (b0 o0 n c B : Nat) (l : List Int) (w : World) (hr : Row .u8 w B (some ⟨b0, o0, none⟩) n l) (hby : Byt l) (hB : B ≤ w.heap.size) (hn : 24 ≤ n) (hn2 : n ≤ 1048576) (hnc : n ≤ c) (hc : c ≤ maxLen) :
    Calls Tryz.prog 36 #[.slice (some ⟨b0, o0, none⟩) n c] w (GotP w l) := by
  cases hok : lenOk l
  · refine (told_no _ n c B l w hr hby hB hn hn2 hnc hc hok).mono ?_
    intro x w' h
    refine .inl ⟨⟨4, by decide, h⟩, ?_⟩
    rintro ⟨v0, pl0, hr0, hl0⟩
    have h1 := (puts_facts hr0 hl0).1
    rw [hok] at h1
    cases h1
  generalize hQ : GotP w l = Q
  have HQ := Lib.hid hQ
  have HLEN := Lib.hid hr.1
  have HR := Lib.hid hr
  have HY := Lib.hid hby
  have HOK := Lib.hid hok
  have HC := Lib.hid hc
  obtain ⟨p, hp⟩ : ∃ p, plong l = p := ⟨_, rfl⟩
  have HP := Lib.hid hp
  have hlo := hok
  unfold lenOk at hlo
  rw [hp, hr.1] at hlo
  simp only [Bool.and_eq_true, decide_eq_true_iff, inB_iff] at hlo
  obtain ⟨_, hkd, hp24, hnp, _⟩ := hlo
  have HNP := Lib.hid (show l.length = p + p % 2 by rw [hr.1]; exact hnp)
  have hpn : p ≤ n := by omega
  have HRP := Lib.hid (hr.head p hpn)
  have HYP := Lib.hid (hby.take p)
  have HLP := Lib.hid (show (l.take p).length = p by rw [List.length_take, hr.1]; omega)
  have HK1 := Lib.hid (wordAt_pre l 1 1 p (by omega))
  have HS1 := Lib.hid (wordAt_pre l 4 4 p (by omega))
  have HW1 := Lib.hid (wrongB_take l p hp24)
  have HKD := Lib.hid hkd
  have K0 := Lib.hid ((Blk.new w 31 #[.int .i64 0, .int .i64 0, .int .i64 0, .int .i64 0, .int .i64 0, .int .i64 0, .int .i64 0, .slice none 0 0, .bool false, .bool false, .bool false, .int .i64 0, .slice none 0 0, .slice none 0 0, .slice none 0 0, .slice none 0 0]).alloc (.cells #[.pointer none, .int .i64 0, .int .i64 0, .int .i64 0, .int .i64 0, .int .i64 0, .int .i64 0, .int .i64 0, .slice none 0 0, .bool false, .bool false, .bool false, .int .i64 0, .slice none 0 0, .slice none 0 0, .slice none 0 0, .slice none 0 0, .bool false, .int .i64 0] 95))
  have G0 := Lib.hid (blk_new1 w (.cells #[.int .i64 0, .int .i64 0, .int .i64 0, .int .i64 0, .int .i64 0, .int .i64 0, .int .i64 0, .slice none 0 0, .bool false, .bool false, .bool false, .int .i64 0, .slice none 0 0, .slice none 0 0, .slice none 0 0, .slice none 0 0] 31) 95 #[.pointer none, .int .i64 0, .int .i64 0, .int .i64 0, .int .i64 0, .int .i64 0, .int .i64 0, .int .i64 0, .slice none 0 0, .bool false, .bool false, .bool false, .int .i64 0, .slice none 0 0, .slice none 0 0, .slice none 0 0, .slice none 0 0, .bool false, .int .i64 0])
  have B0 := Lib.hid (((Below.refl w.heap.size w).alloc (Nat.le_refl _) (.cells #[.int .i64 0, .int .i64 0, .int .i64 0, .int .i64 0, .int .i64 0, .int .i64 0, .int .i64 0, .slice none 0 0, .bool false, .bool false, .bool false, .int .i64 0, .slice none 0 0, .slice none 0 0, .slice none 0 0, .slice none 0 0] 31)).alloc (by simp) (.cells #[.pointer none, .int .i64 0, .int .i64 0, .int .i64 0, .int .i64 0, .int .i64 0, .int .i64 0, .int .i64 0, .slice none 0 0, .bool false, .bool false, .bool false, .int .i64 0, .slice none 0 0, .slice none 0 0, .slice none 0 0, .slice none 0 0, .bool false, .int .i64 0] 95))
  clear hQ hr hby hok hp hkd hnp
  unfold maxLen at hc
  go_enter Tryz.func36, Tryz.ntmps36
  go_wp2
  refine scope_fwd 0 rfl ?_
  go_wp2_with fail
  refine (length_any (some ⟨b0, o0, none⟩) n c B l _ ((HR.out.alloc hB _).alloc (by simp; omega) _) HY.out (by simp; omega) hn hn2 hnc HC.out).mono ?_
  rintro e1 w1 ⟨hb1, m, rfl, hm⟩
  have hmp : m = (p : Int) := by rw [hm HOK.out, HP.out]
  rw [HOK.out]
  subst hmp
  have K1 := Lib.hid (K0.out.below hb1 (by simp; omega))
  have G1 := Lib.hid (G0.out.below hb1 (by simp))
  have B1 := Lib.hid (B0.out.trans (hb1.mono (by simp; omega)))
  clear hb1 K0 B0 G0 hm
  have hs1 := B1.out.size
  have hg1 := G1.out.lt
  have HR1 := Lib.hid (HRP.out.below (B1.out.mono hB))
  have hpi : (p : Int) ≤ (c : Int) := by omega
  go_wp2_with fail
  refine (rd_read (some ⟨b0, o0, none⟩) p c B (l.take p) _ HR1.out HYP.out (by omega) (by omega)).mono ?_
  rintro e2 w2 ⟨rfl, hb2, hrd2⟩
  have K2 := Lib.hid (K1.out.below hb2 (by omega))
  have G2 := Lib.hid (G1.out.below hb2 hg1)
  have B2 := Lib.hid (B1.out.trans (hb2.mono hs1))
  obtain ⟨q, hq⟩ : ∃ q, w1.heap.size + 1 = q := ⟨_, rfl⟩
  have hgq : w.heap.size + 1 < q := by omega
  rw [hq] at hrd2 ⊢
  have RD2 := Lib.hid (hrd2.lower (b := w.heap.size + 1 + 1) (by omega))
  clear hb2 hrd2 K1 B1 G1 hq
  obtain ⟨a0, a1, a2, a3, a4, a5, a6, a7, a8, a9, a10, a11, a12, a13, a14, a15, a16, a17, a18⟩ := G2.out.nt
  have f0 := G2.out.frozen 0
  have G3 := Lib.hid (show Blk (w2.setCell ⟨w.heap.size + 1, 0, none⟩ (.pointer (some ⟨q, 0, none⟩))) (w.heap.size + 1) 95 #[.pointer (some ⟨q, 0, none⟩), .int .i64 0, .int .i64 0, .int .i64 0, .int .i64 0, .int .i64 0, .int .i64 0, .int .i64 0, .slice none 0 0, .bool false, .bool false, .bool false, .int .i64 0, .slice none 0 0, .slice none 0 0, .slice none 0 0, .slice none 0 0, .bool false, .int .i64 0] from G2.out.put 0 (.pointer (some ⟨q, 0, none⟩)))
  have RD3 := Lib.hid (show Rd (w2.setCell ⟨w.heap.size + 1, 0, none⟩ (.pointer (some ⟨q, 0, none⟩))) (w.heap.size + 1 + 1) q (l.take p) 0 from RD2.out.far (p := ⟨w.heap.size + 1, 0, none⟩) (.inl (by simp)) _)
  have B3 := Lib.hid (show Below w.heap.size w (w2.setCell ⟨w.heap.size + 1, 0, none⟩ (.pointer (some ⟨q, 0, none⟩))) from B2.out.setCell (p := ⟨w.heap.size + 1, 0, none⟩) (by simp) _)
  have K3 := Lib.hid (show Blk (w2.setCell ⟨w.heap.size + 1, 0, none⟩ (.pointer (some ⟨q, 0, none⟩))) w.heap.size 31 #[.int .i64 0, .int .i64 0, .int .i64 0, .int .i64 0, .int .i64 0, .int .i64 0, .int .i64 0, .slice none 0 0, .bool false, .bool false, .bool false, .int .i64 0, .slice none 0 0, .slice none 0 0, .slice none 0 0, .slice none 0 0] from K2.out.far (p := ⟨w.heap.size + 1, 0, none⟩) (by simp) _)
  clear G2 RD2 B2 K2
  go_wp2_with fail
  refine (phead_ok (w.heap.size + 1) q (l.take p) _ ⟨G3.out, RD3.out⟩ (by rw [HLP.out]; omega)).mono ?_
  rintro e4 w4 ⟨rfl, hrs4, hb4⟩
  rw [HK1.out, HS1.out, HW1.out] at hrs4
  have RS4 := Lib.hid hrs4
  have B4 := Lib.hid (B3.out.trans (hb4.mono (by omega)))
  have K4 := Lib.hid (K3.out.below hb4 (by omega))
  clear hrs4 hb4 G3 RD3 B3 K3 a0 a1 a2 a3 a4 a5 a6 a7 a8 a9 a10 a11 a12 a13 a14 a15 a16 a17 a18 f0
  go_wp2_with fail
  refine (rest_any hW (w.heap.size + 1) q (wordAt l 1 1) (wordAt l 4 4) (wrongB l) (l.take p) _ HKD.out RS4.out (by rw [HLP.out]; omega) (by rw [HLP.out]; omega)).mono ?_
  rintro e5 w5 ⟨v, pl, wr, er, a, e, rfl, ⟨hkb5, hrd5⟩, hpk5, hsm5, hb5, hout⟩
  have hto := told_out HOK.out HP.out hp24 HNP.out hout
  have HT1 := Lib.hid hto.1
  have HT2 := Lib.hid hto.2
  have HNO := Lib.hid (show Puts l → Okk wr er (l.take p) a e ∧ rightP v pl = true by
    rintro ⟨v0, pl0, hr0, hl0⟩
    obtain ⟨h1, h2, h3⟩ := hto.2 v0 pl0 hr0 hl0
    refine ⟨h1, ?_⟩
    rw [right_same h2, h3]
    exact hr0)
  have G5 := Lib.hid hkb5
  have RD5 := Lib.hid hrd5
  have PK5 := Lib.hid hpk5
  have SM5 := Lib.hid hsm5
  have B5 := Lib.hid (B4.out.trans (hb5.mono (by omega)))
  have K5 := Lib.hid (K4.out.below hb5 (by omega))
  have HAT := Lib.hid hrd5.at
  have HIS := Lib.hid hrd5.is
  clear hkb5 hrd5 hpk5 hsm5 hb5 hout hto RS4 B4 K4
  obtain ⟨a0, a1, a2, a3, a4, a5, a6, a7, a8, a9, a10, a11, a12, a13, a14, a15, a16, a17, a18⟩ := G5.out.nt
  by_cases her : er = 0
  · subst her
    cases hwr : wr
    · subst hwr
      go_wp2_with fail
      refine (rde_err _ _ a e _ _ RD5.out).mono ?_
      rintro e6 w6 ⟨rfl, rfl⟩
      by_cases he : e = 0
      · subst he
        go_wp2_with fail
        refine (rde_left _ _ a 0 _ _ RD5.out).mono ?_
        rintro e7 w7 ⟨rfl, d7, rfl⟩
        have G7 := Lib.hid (G5.out.drewN d7)
        have B7 := Lib.hid (below_drewN B5.out d7)
        have K7 := Lib.hid (K5.out.drewN d7)
        have AB7 := Lib.hid (show Above (w.heap.size + 1) w5 (w5.drewN d7) from Above.of_below (below_drewN (Below.refl _ _) d7))
        clear G5 B5 K5 RD5 a0 a1 a2 a3 a4 a5 a6 a7 a8 a9 a10 a11 a12 a13 a14 a15 a16 a17 a18
        generalize w5.drewN d7 = wn at *
        obtain ⟨r, hr⟩ : ∃ r, (l.take p).length - a = r := ⟨_, rfl⟩
        rw [hr]
        by_cases hr0 : r = 0
        · have HOKK := Lib.hid (show Okk false 0 (l.take p) a 0 from ⟨rfl, rfl, rfl, by have := HAT.out; omega⟩)
          subst hr0
          clear hr
          obtain ⟨a0, a1, a2, a3, a4, a5, a6, a7, a8, a9, a10, a11, a12, a13, a14, a15, a16, a17, a18⟩ := G7.out.nt
          go_wp2_with fail
          refine (pright_any v pl wn.heap.size _ (PK5.out _ _ (Nat.le_refl _) AB7.out) SM5.out (Nat.le_refl _)).mono ?_
          rintro e8 w8 ⟨rfl, hb8⟩
          have G8 := Lib.hid (G7.out.below hb8 G7.out.lt)
          have B8 := Lib.hid (B7.out.trans (hb8.mono B7.out.size))
          have K8 := Lib.hid (K7.out.below hb8 K7.out.lt)
          have AB8 := Lib.hid (AB7.out.trans (Above.of_below hb8))
          have hsz8 := B8.out.size
          clear hb8 G7 B7 K7 AB7 a0 a1 a2 a3 a4 a5 a6 a7 a8 a9 a10 a11 a12 a13 a14 a15 a16 a17 a18
          obtain ⟨a0, a1, a2, a3, a4, a5, a6, a7, a8, a9, a10, a11, a12, a13, a14, a15, a16, a17, a18⟩ := G8.out.nt
          obtain ⟨k0, k1, k2, k3, k4, k5, k6, k7, k8, k9, k10, k11, k12, k13, k14, k15⟩ := K8.out.sixteen
          obtain ⟨f0, f1, f2, f3, f4, f5, f6, f7, f8, f9, f10, f11, f12, f13, f14, f15⟩ := K8.out.sixteenF
          cases hrt : rightP v pl
          · have HRT := Lib.hid hrt
            clear hrt
            go_wp2
            go_step3
            refine ⟨rfl, ?_⟩
            exact told_mis K8.out B8.out (fun wF hF => by rw [← HQ.out]; exact .inl ⟨⟨4, by decide, rfl, hF⟩, fun h => by have := (HNO.out h).2; rw [HRT.out] at this; cases this⟩)
          · have HRT := Lib.hid hrt
            clear hrt
            go_upto_region 12 with fail
            refine told_r12 K8.out G8.out (fun wF hKF hBF hAF => ?_)
            have KF := Lib.hid hKF
            have BF := Lib.hid (B8.out.trans hBF)
            have AF := Lib.hid (AB8.out.trans hAF)
            clear hKF hBF hAF
            go_wp2
            refine told_end KF.out ?_
            rw [← HQ.out]
            refine .inr ⟨v, pl, rfl, BF.out, ?_, SM5.out, HRT.out, HT1.out HOKK.out HRT.out, fun v0 pl0 hr0 hl0 => (HT2.out v0 pl0 hr0 hl0).2⟩
            intro lo w2 hlo ha
            exact PK5.out (w.heap.size + 1) w2 (Nat.le_refl _) (AF.out.trans (ha.mono (by omega)))
        · have hr0' : (0 : Int) < (r : Int) := by omega
          obtain ⟨a0, a1, a2, a3, a4, a5, a6, a7, a8, a9, a10, a11, a12, a13, a14, a15, a16, a17, a18⟩ := G7.out.nt
          obtain ⟨k0, k1, k2, k3, k4, k5, k6, k7, k8, k9, k10, k11, k12, k13, k14, k15⟩ := K7.out.sixteen
          obtain ⟨f0, f1, f2, f3, f4, f5, f6, f7, f8, f9, f10, f11, f12, f13, f14, f15⟩ := K7.out.sixteenF
          go_wp2
          go_step3
          refine ⟨rfl, ?_⟩
          exact told_mis K7.out B7.out (fun wF hF => by rw [← HQ.out]; exact .inl ⟨⟨4, by decide, rfl, hF⟩, fun h => by have := (HNO.out h).1.2.2.2; omega⟩)
      · have hed : (e != 0) = true := by simp [he]
        obtain ⟨k0, k1, k2, k3, k4, k5, k6, k7, k8, k9, k10, k11, k12, k13, k14, k15⟩ := K5.out.sixteen
        obtain ⟨f0, f1, f2, f3, f4, f5, f6, f7, f8, f9, f10, f11, f12, f13, f14, f15⟩ := K5.out.sixteenF
        go_wp2
        go_step3
        refine ⟨rfl, ?_⟩
        exact told_mis K5.out B5.out (fun wF hF => by rw [← HQ.out]; exact .inl ⟨⟨4, by decide, rfl, hF⟩, fun h => he (HNO.out h).1.2.2.1⟩)
    · subst hwr
      obtain ⟨k0, k1, k2, k3, k4, k5, k6, k7, k8, k9, k10, k11, k12, k13, k14, k15⟩ := K5.out.sixteen
      obtain ⟨f0, f1, f2, f3, f4, f5, f6, f7, f8, f9, f10, f11, f12, f13, f14, f15⟩ := K5.out.sixteenF
      go_wp2
      go_step3
      refine ⟨rfl, ?_⟩
      exact told_mis K5.out B5.out (fun wF hF => by rw [← HQ.out]; exact .inl ⟨⟨4, by decide, rfl, hF⟩, fun h => by have := (HNO.out h).1.2.1; cases this⟩)
  · have hed : (er != 0) = true := by simp [her]
    obtain ⟨k0, k1, k2, k3, k4, k5, k6, k7, k8, k9, k10, k11, k12, k13, k14, k15⟩ := K5.out.sixteen
    obtain ⟨f0, f1, f2, f3, f4, f5, f6, f7, f8, f9, f10, f11, f12, f13, f14, f15⟩ := K5.out.sixteenF
    have hkg : w.heap.size ≠ w.heap.size + 1 := by omega
    go_wp2_with fail
    refine told_r8 K5.out G5.out hkg (fun wF hKF hBF => ?_)
    have KF := Lib.hid hKF
    have BF := Lib.hid (B5.out.trans hBF)
    clear hKF hBF
    go_wp2
    refine told_end KF.out ?_
    rw [← HQ.out]
    exact .inl ⟨⟨er, her, rfl, BF.out⟩, fun h => her (HNO.out h).1.1⟩
end Go.Proofs.YtekhgkkgmkodmaaGreat
