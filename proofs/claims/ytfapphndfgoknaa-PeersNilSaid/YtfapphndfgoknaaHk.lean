/- Hear of the program. Conditions: what the words say. -/
import Derived.Test.YtfapphndfgoknaaHj
namespace Go.Proofs.Ytfapphndfgoknaa
open Go.RowKit Go.Deep

theorem wp_store_hd {op : Oper} {a : Act} {w : World} {K : Act → World → Prop} {Q : Exit → Act → World → Prop} (y : Hd) (x v : Operand) (ho : op.op = .store 36 x v) {b : Nat} {u0 u1 u2 u3 u4 : Value}
    (hx : a.eval x = .pointer (some ⟨b, 0, none⟩)) (hv : a.eval v = .agg #[.bool y.taken, .bool y.fresh, .bool y.two, .bool y.one, .bool y.bears]) (hB : Blk w b 36 #[u0, u1, u2, u3, u4])
    (hn : ∀ w', Hid (Blk w' b 36 #[.bool y.taken, .bool y.fresh, .bool y.two, .bool y.one, .bool y.bears]) → Hid (Chg (fun k => k = b) w w') → K (a.put op.dst undef) w') : op.wp Try.prog a w K Q := by
  refine wp_store_mid 36 x v ho b 0 (encHd y).toArray hx hv (hB.thereAll 0 _ (by simp [encHd])) (by kernel_rfl) (all_oneCell_toArray (encHd_ones y)) (hn _ (Lib.hid ?_) (Lib.hid ?_))
  · have := Blk.fill [] (encHd y) [u0, u1, u2, u3, u4] [] w rfl (by simpa using hB)
    simpa [encHd] using this
  · exact chg_setCells b _ 0 w
theorem range_chg {F : Nat → Prop} {w w' : World} {b o : Nat} {cs : List Value} {t : TypeId} {ds : Array Value} (hB : Blk w b t ds) (hR : w.rangeAt b o cs) (h : Chg F w w') (hb : ¬ F b) : w'.rangeAt b o cs := by
  intro j v hv
  have := hR j v hv
  rw [hB.cell] at this
  rw [(hB.chg h hb).cell, this]
def hearQ (w : World) (p : Nat) (F : Nat → Prop) (sf lan : Int) (X : List Pe) (i : Int) (h : Hl) (now : Int) (e : Ending) (w' : World) : Prop :=
  (∃ r : Hd, e = .returned (.agg #[.bool r.taken, .bool r.fresh, .bool r.two, .bool r.one, .bool r.bears]) ∧ r = hearH sf lan X i h now) ∧ (∃ F' bk', PDb w' p F' sf lan (hearX sf lan X i h now) bk' ∧ ∀ k, F' k → F k ∨ w.heap.size ≤ k) ∧ Chg F w w'
set_option maxRecDepth 8000 in
set_option maxHeartbeats 8000000 in
theorem hear_any {w : World} {p : Nat} {F : Nat → Prop} {sf lan : Int} {X : List Pe} {bk : Int → Nat} (i : Int) (h : Hl) (now : Int) (A : Option Addr) (n c : Nat) (hh : wfHl h) (hD : PDb w p F sf lan X bk) (hL : Row .i64 w w.heap.size A n h.seen) (hn : n ≤ maxLen) (hnow : 0 ≤ now ∧ now ≤ 1048576) :
    Calls Try.prog 8 #[.pointer (some ⟨p, 0, none⟩), .int .i64 i, .agg #[.int .i64 h.every, .int .i64 h.dead, .int .i64 h.prio, .int .i64 h.dr, .int .i64 h.bdr, .slice A n c], .int .i64 now] w (hearQ w p F sf lan X i h now) := by
  generalize hQ : hearQ w p F sf lan X i h now = Q
  have HQ := Lib.hid hQ
  have HFL := Lib.hid hD.fl
  have HH := Lib.hid hh
  have HNOW := Lib.hid hnow
  have HMX := Lib.hid hn
  have B6 := (Below.refl w.heap.size w).alloc (Nat.le_refl _) (.cells #[.int .i64 h.every, .int .i64 h.dead, .int .i64 h.prio, .int .i64 h.dr, .int .i64 h.bdr, .slice A n c] 32)
  have B0 := Lib.hid (B6.alloc (by simp) (.cells #[.bool false, .bool false, .bool false, .bool false, .bool false] 36))
  have K60 := Lib.hid ((Blk.new w 32 #[.int .i64 h.every, .int .i64 h.dead, .int .i64 h.prio, .int .i64 h.dr, .int .i64 h.bdr, .slice A n c]).alloc (.cells #[.bool false, .bool false, .bool false, .bool false, .bool false] 36))
  have K8' := Blk.new (w.alloc (.cells #[.int .i64 h.every, .int .i64 h.dead, .int .i64 h.prio, .int .i64 h.dr, .int .i64 h.bdr, .slice A n c] 32)) 36 #[.bool false, .bool false, .bool false, .bool false, .bool false]
  rw [World.size_alloc] at K8'
  have K80 := Lib.hid K8'
  have D0 := Lib.hid (hD.below B0.out)
  have R0 := Lib.hid (hL.below B0.out)
  have HX0 := Lib.hid hD.srt
  clear hQ hh hD hL hn hnow B6 K8'
  have hb36 : ∀ W, (Instr.build 36 #[]).run Try.prog W = .ok (.agg #[.bool false, .bool false, .bool false, .bool false, .bool false]) W := fun W => by kernel_rfl
  have hpn : ((some (⟨p, 0, none⟩ : Addr)) == none) = false := rfl
  go_enter Try.func8, Try.ntmps8
  go_upto_region 1 with fail
  try simp only [World.size_alloc]
  generalize (w.alloc (.cells #[.int .i64 h.every, .int .i64 h.dead, .int .i64 h.prio, .int .i64 h.dr, .int .i64 h.bdr, .slice A n c] 32)).alloc (.cells #[.bool false, .bool false, .bool false, .bool false, .bool false] 36) = w0 at *
  generalize hg : w.heap.size = g at *
  have HG := Lib.hid hg
  clear hg
  obtain ⟨i0, i1, i2, i3, i4, i5⟩ := K60.out.six
  have hl0 := K80.out.lt
  cases ht : takesB sf lan i h
  · have HT := Lib.hid ht
    clear ht
    go_wp2_with (first
      | (go_at_call 22; refine (fits_any i h A n c HH.out D0.out).mono ?_; rintro e1 w1 ⟨rfl, hb1⟩; rw [HT.out]; have K81 := Lib.hid (K80.out.below hb1 K80.out.lt); have D1 := Lib.hid (D0.out.below hb1); have B1 := Lib.hid (B0.out.trans (hb1.mono (by omega))); have hl1 := K81.out.lt; clear i0 i1 i2 i3 i4 i5 hl0 hb1)
      | (refine wpList_store_hd noHd rfl _ _ rfl rfl rfl K81.out ?_; intro w2 HK2 HC2))
    have B2 := Lib.hid (show Below g w w2 from B1.out.trans (Chg.to_below (B := g) HC2.out (fun k hk => by rw [hk]; omega) (by omega)))
    obtain ⟨m0, m1, m2, m3, m4⟩ := HK2.out.five
    refine bodyPost_ret (v := .agg #[.bool noHd.taken, .bool noHd.fresh, .bool noHd.two, .bool noHd.one, .bool noHd.bears]) (by simp [results, Try.results8, go_sem, *]) rfl ?_
    rw [← HQ.out]
    refine ⟨⟨noHd, rfl, by unfold hearH; rw [HT.out]; rfl⟩, ⟨F, bk, ?_, fun k hk => .inl hk⟩, Chg.of_below (by rw [HG.out]; exact B2.out)⟩
    unfold hearX
    rw [HT.out]
    exact D1.out.chg HC2.out (fun k hk e => by have := HFL.out k hk; omega)
  · have HT := Lib.hid ht
    have HR := Lib.hid (show 1 ≤ i ∧ i ≤ 15 by simp [takesB] at ht; omega)
    have HO := Lib.hid (show onB lan h.dr = true ∧ onB lan h.bdr = true by
      unfold takesB at ht
      simp only [Bool.and_eq_true] at ht
      exact ⟨ht.1.2, ht.2⟩)
    clear ht hb36
    go_wp2_with (first
      | (go_at_call 22; refine (fits_any i h A n c HH.out D0.out).mono ?_; rintro e1 w1 ⟨rfl, hb1⟩; rw [HT.out]; have K81 := Lib.hid (K80.out.below hb1 K80.out.lt); have K61 := Lib.hid (K60.out.below hb1 K60.out.lt); have R1 := Lib.hid (show Row .i64 w1 g A n h.seen from R0.out.below (hb1.mono (by omega))); have D1 := Lib.hid (D0.out.below hb1); have B1 := Lib.hid (B0.out.trans (hb1.mono (by omega))); have hl1 := K81.out.lt; clear i0 i1 i2 i3 i4 i5 hl0 hb1 K60 K80 D0 R0 B0)
      | fail)
    refine (get_any i D1.out).mono ?_
    rintro e2 w2 ⟨rfl, hb2⟩
    have K62 := Lib.hid (K61.out.below hb2 K61.out.lt)
    have K82 := Lib.hid (K81.out.below hb2 hl1)
    have D2 := Lib.hid (D1.out.below hb2)
    have R2 := Lib.hid (show Row .i64 w2 g A n h.seen from R1.out.below (hb2.mono (by omega)))
    have B2 := Lib.hid (show Below g w w2 from B1.out.trans (hb2.mono (by omega)))
    have hl2 := K82.out.lt
    clear hb2 K61 K81 D1 R1 B1 hl1
    obtain ⟨z, hz⟩ : ∃ z, getP X i = z := ⟨_, rfl⟩
    have HZ := Lib.hid hz
    rw [hz]
    clear hz
    cases hf : findP X i with
    | none =>
      have HIS := Lib.hid (show (findP X i).isNone = true by rw [hf]; rfl)
      obtain ⟨y, hy⟩ : ∃ y, wasP X i = y := ⟨_, rfl⟩
      have HYW := Lib.hid hy
      have HYN := Lib.hid (show newP i = y by rw [← hy]; unfold wasP; rw [hf]; rfl)
      clear hy hf
      obtain ⟨t, hto⟩ : ∃ t, toldP sf y h now = t := ⟨_, rfl⟩
      have HTO := Lib.hid hto
      clear hto
      have HTI := Lib.hid (show t.id = i by rw [← HTO.out, toldP_id, ← HYW.out, wasP_id])
      have HTT := Lib.hid (show t.tick = now by rw [← HTO.out]; rfl)
      have hb47 : ∀ W, (Instr.build 47 #[(0, .int .i64 i), (4, .int .i64 1)]).run Try.prog W = .ok (.agg #[.int .i64 (newP i).id, .int .i64 (newP i).prio, .int .i64 (newP i).dr, .int .i64 (newP i).bdr, .int .i64 (newP i).st, .bool (newP i).two, .int .i64 (newP i).tick]) W := fun W => by kernel_rfl
      go_upto_region 4 with fail
      have K63 := Lib.hid (K62.out.alloc (.cells #[.int .i64 z.id, .int .i64 z.prio, .int .i64 z.dr, .int .i64 z.bdr, .int .i64 z.st, .bool z.two, .int .i64 z.tick] 47))
      have K83 := Lib.hid (K82.out.alloc (.cells #[.int .i64 z.id, .int .i64 z.prio, .int .i64 z.dr, .int .i64 z.bdr, .int .i64 z.st, .bool z.two, .int .i64 z.tick] 47))
      have K93 := Lib.hid (Blk.new w2 47 #[.int .i64 z.id, .int .i64 z.prio, .int .i64 z.dr, .int .i64 z.bdr, .int .i64 z.st, .bool z.two, .int .i64 z.tick])
      have B3 := Lib.hid (B2.out.alloc (by omega) (.cells #[.int .i64 z.id, .int .i64 z.prio, .int .i64 z.dr, .int .i64 z.bdr, .int .i64 z.st, .bool z.two, .int .i64 z.tick] 47))
      have D3 := Lib.hid (D2.out.below ((Below.refl _ _).alloc (Nat.le_refl _) (.cells #[.int .i64 z.id, .int .i64 z.prio, .int .i64 z.dr, .int .i64 z.bdr, .int .i64 z.st, .bool z.two, .int .i64 z.tick] 47)))
      have R3 := Lib.hid (show Row .i64 (w2.alloc (.cells #[.int .i64 z.id, .int .i64 z.prio, .int .i64 z.dr, .int .i64 z.bdr, .int .i64 z.st, .bool z.two, .int .i64 z.tick] 47)) g A n h.seen from R2.out.below ((Below.refl _ _).alloc (by omega) (.cells #[.int .i64 z.id, .int .i64 z.prio, .int .i64 z.dr, .int .i64 z.bdr, .int .i64 z.st, .bool z.two, .int .i64 z.tick] 47)))
      clear K62 K82 D2 R2 B2
      generalize w2.alloc (.cells #[.int .i64 z.id, .int .i64 z.prio, .int .i64 z.dr, .int .i64 z.bdr, .int .i64 z.st, .bool z.two, .int .i64 z.tick] 47) = w3 at *
      have hl3 := K93.out.lt
      go_upto_region 6 with (refine wpList_store_pe (newP i) rfl _ _ rfl rfl rfl K93.out ?_; intro w4 HK4 HC4)
      rw [HYN.out] at HK4
      have K94 := Lib.hid HK4.out
      have K64 := Lib.hid (K63.out.chg HC4.out (show g ≠ w2.heap.size by omega))
      have K84 := Lib.hid (K83.out.chg HC4.out (show g + 1 ≠ w2.heap.size by omega))
      have D4 := Lib.hid (D3.out.chg HC4.out (fun k hk e => by have := HFL.out k hk; omega))
      have R4 := Lib.hid (show Row .i64 w4 g A n h.seen from R3.out.below (Chg.to_below HC4.out (fun k hk => by omega) (by omega)))
      have B4 := Lib.hid (show Below g w w4 from B3.out.trans (Chg.to_below HC4.out (fun k hk => by omega) (by omega)))
      clear hb47 K63 K83 K93 D3 R3 B3 HK4 HC4
      cases hy2 : y.two
      · have HY2 := Lib.hid hy2
        clear hy2

        have hgt := K94.out.lt
        have hg8 := K84.out.lt
        clear hl3
        have RW4 := Lib.hid K94.out.range7
        have H64 := Lib.hid (show w4.rangeAt g 0 [.int .i64 h.every, .int .i64 h.dead, .int .i64 h.prio, .int .i64 h.dr, .int .i64 h.bdr, .slice A n c] by
          intro j v hv
          rw [Nat.zero_add, K64.out.cell, ← hv]
          simp)
        go_upto_region 7 with (first
          | (refine wpList_load_pe (y := y) (by rfl) _ rfl (by rfl) RW4.out ?_)
          | (refine wpList_load_row 32 [.int .i64 h.every, .int .i64 h.dead, .int .i64 h.prio, .int .i64 h.dr, .int .i64 h.bdr, .slice A n c] _ (by rfl) _ rfl (by rfl) H64.out Try.underlying32 rfl (by kernel_rfl) ?_)
          | (go_at_call 23; refine (told_any y h now A n c HH.out D4.out (R4.out.more (by omega)) HMX.out HO.out).mono ?_; rintro e5 w5 ⟨rfl, hb5⟩; rw [HTO.out]; have K85 := Lib.hid (K84.out.below hb5 K84.out.lt); have K95 := Lib.hid (K94.out.below hb5 K94.out.lt); have D5 := Lib.hid (D4.out.below hb5); have B5 := Lib.hid (B4.out.trans (hb5.mono (by omega))); have hs5 := hb5.size; clear hb5))
        have K86 := Lib.hid (K85.out.alloc (.cells #[.int .i64 t.id, .int .i64 t.prio, .int .i64 t.dr, .int .i64 t.bdr, .int .i64 t.st, .bool t.two, .int .i64 t.tick] 47))
        have K96 := Lib.hid (K95.out.alloc (.cells #[.int .i64 t.id, .int .i64 t.prio, .int .i64 t.dr, .int .i64 t.bdr, .int .i64 t.st, .bool t.two, .int .i64 t.tick] 47))
        have T6 := Lib.hid (Blk.new w5 47 #[.int .i64 t.id, .int .i64 t.prio, .int .i64 t.dr, .int .i64 t.bdr, .int .i64 t.st, .bool t.two, .int .i64 t.tick])
        have B6 := Lib.hid (B5.out.alloc (by omega) (.cells #[.int .i64 t.id, .int .i64 t.prio, .int .i64 t.dr, .int .i64 t.bdr, .int .i64 t.st, .bool t.two, .int .i64 t.tick] 47))
        have D6 := Lib.hid (D5.out.below ((Below.refl _ _).alloc (Nat.le_refl _) (.cells #[.int .i64 t.id, .int .i64 t.prio, .int .i64 t.dr, .int .i64 t.bdr, .int .i64 t.st, .bool t.two, .int .i64 t.tick] 47)))
        generalize w5.alloc (.cells #[.int .i64 t.id, .int .i64 t.prio, .int .i64 t.dr, .int .i64 t.bdr, .int .i64 t.st, .bool t.two, .int .i64 t.tick] 47) = w6 at *
        generalize hgt2 : w5.heap.size = gt at *
        have NG := Lib.hid (show ¬ F gt from fun hk => by have := HFL.out gt hk; omega)
        have NE := Lib.hid (show gt ≠ w2.heap.size ∧ gt ≠ g + 1 ∧ w2.heap.size ≠ g + 1 ∧ g ≤ gt by omega)
        clear hgt2 hs5 hgt hg8 K84 K94 K85 K95 D4 D5 B4 B5 R4 K64 H64 RW4
        obtain ⟨k, rfl⟩ : ∃ k : Nat, i = (k : Int) := ⟨i.toNat, by have := HR.out; omega⟩
        have hk : k < 16 := by have := HR.out; omega
        have hk' : (k : Int) < 16 := by omega
        have hk0 : (0 : Int) ≤ (k : Int) := by omega
        have hl6 := T6.out.lt
        have c2 := D6.out.at k hk
        have z2 := D6.out.obj.frozen (2 + k)
        obtain ⟨-, -, hpl⟩ := D6.out.cells
        generalize hpv : ptrP X bk (k : Int) = pv at *
        have HPV := Lib.hid hpv
        clear hpv
        have NP := Lib.hid (show p < g from HFL.out p D6.out.fp)
        go_upto_region 8 with fail
        have HP := Lib.hid (D6.out.put (y := t) T6.out NG.out (by rw [HTI.out]; exact HR.out) (by rw [HTT.out]; exact HNOW.out))
        rw [HTI.out, Int.toNat_natCast] at HP
        have C7 := Lib.hid ((Chg.of_below (F := F) (show Below w.heap.size w w6 by rw [HG.out]; exact B6.out)).setCell ⟨p, 2 + k, none⟩ D6.out.fp (.pointer (some ⟨gt, 0, none⟩)))
        have HC67 := Lib.hid (chg_put (F := fun k => k = p) w6 (a := ⟨p, 2 + k, none⟩) (.pointer (some ⟨gt, 0, none⟩)) rfl)
        have K87 := Lib.hid (K86.out.chg HC67.out (show g + 1 ≠ p by have := NP.out; omega))
        have K97 := Lib.hid (K96.out.chg HC67.out (show w2.heap.size ≠ p by have := NP.out; omega))
        have T7 := Lib.hid (T6.out.chg HC67.out (show gt ≠ p by have := NP.out; have := NE.out.2.2.2; omega))
        clear K86 K96 T6 B6 D6 c2 z2 HPV HC67 hl6 hpl
        generalize w6.setCell ⟨p, 2 + k, none⟩ (.pointer (some ⟨gt, 0, none⟩)) = w7 at *
        generalize hg9 : w2.heap.size = g9 at *
        have HG9 := Lib.hid hg9
        clear hg9
        have K88 := Lib.hid K87.out.drew
        have K98 := Lib.hid K97.out.drew
        have T8 := Lib.hid T7.out.drew
        have HP8 := Lib.hid HP.out.drew
        have C8 := Lib.hid (show Chg F w w7.drew from C7.out.below ⟨rfl, rfl, rfl, Nat.le_refl _, fun _ _ => rfl⟩)
        clear HP C7 K87 K97 T7
        have hS := And.intro T8.out.seven.2.2.2.2.2.1 (And.intro (by have h9 := (K98.out).seven.2.2.2.2.2.1; rwa [HY2.out] at h9) (And.intro T8.out.range7 K98.out.range7))
        refine wp_region_noPanic ?_
        refine wp_region_held_drew (S := fun w' => w'.cell? ⟨gt, 5, none⟩ = some (.bool t.two) ∧ w'.cell? ⟨g9, 5, none⟩ = some (.bool false) ∧ w'.rangeAt gt 0 (encPe t) ∧ w'.rangeAt g9 0 (encPe y)) (by kernel_rfl) hS (fun hHeld => ?_)
        change wpAnyH _ _ _ _ _ _ _ _ w7.drew
        generalize w7.drew = w8 at *
        clear hS
        refine wpAnyH_take (i := 0) (oi := { dst := Option.some 42, op := Go.Op.move (Go.Operand.tmp 10), type := 4, pos := "peers.go:37", after := #[], guard := Option.none }) (v := ?_) rfl (by kernel_rfl) (by kernel_rfl) (by kernel_rfl) (fun _ _ _ h => h) (Or.inl ⟨by rfl, ?_⟩) hHeld ?_
        rotate_left 1
        · intro ww hSw
          try dsimp only at hSw
          go_simp
          try with_reducible rfl
        try simp only [Act.put, List.setIfInBounds_toArray, List.set_cons_zero, List.set_cons_succ]
        refine wpAnyH_take (i := 1) (oi := { dst := Option.some 43, op := Go.Op.unOp Go.UnOp.not 4 (Go.Operand.tmp 42), type := 4, pos := "peers.go:37", after := #[{ on := 0, ground := Go.Ground.data }], guard := Option.none }) (v := ?_) rfl (by kernel_rfl) (by kernel_rfl) (by kernel_rfl) (fun _ _ _ h => h) (Or.inl ⟨by rfl, ?_⟩) hHeld ?_
        rotate_left 1
        · intro ww hSw
          try dsimp only at hSw
          go_simp
          try with_reducible rfl
        try simp only [Act.put, List.setIfInBounds_toArray, List.set_cons_zero, List.set_cons_succ]
        refine wpAnyH_take (i := 2) (oi := { dst := Option.some 44, op := Go.Op.fieldAddr 47 (Go.Operand.tmp 11) 5, type := 0, pos := "peers.go:37", after := #[], guard := Option.none }) (v := ?_) rfl (by kernel_rfl) (by kernel_rfl) (by kernel_rfl) (fun _ _ _ h => h) (Or.inl ⟨by rfl, ?_⟩) hHeld ?_
        rotate_left 1
        · intro ww hSw
          try dsimp only at hSw
          go_simp
          try with_reducible rfl
        try simp only [Act.put, List.setIfInBounds_toArray, List.set_cons_zero, List.set_cons_succ]
        refine wpAnyH_take (i := 3) (oi := { dst := Option.some 45, op := Go.Op.load 4 (Go.Operand.tmp 44), type := 4, pos := "peers.go:37", after := #[{ on := 2, ground := Go.Ground.data }], guard := Option.none }) (v := ?_) rfl (by kernel_rfl) (by kernel_rfl) (by kernel_rfl) (fun _ _ _ h => h) (Or.inl ⟨by rfl, ?_⟩) hHeld ?_
        rotate_left 1
        · intro ww hSw
          try dsimp only at hSw
          go_simp
          try with_reducible rfl
        try simp only [Act.put, List.setIfInBounds_toArray, List.set_cons_zero, List.set_cons_succ]
        refine wpAnyH_take (i := 4) (oi := { dst := Option.some 46, op := Go.Op.fieldAddr 47 (Go.Operand.tmp 9) 5, type := 0, pos := "peers.go:37", after := #[], guard := Option.none }) (v := ?_) rfl (by kernel_rfl) (by kernel_rfl) (by kernel_rfl) (fun _ _ _ h => h) (Or.inl ⟨by rfl, ?_⟩) hHeld ?_
        rotate_left 1
        · intro ww hSw
          try dsimp only at hSw
          go_simp
          try with_reducible rfl
        try simp only [Act.put, List.setIfInBounds_toArray, List.set_cons_zero, List.set_cons_succ]
        refine wpAnyH_take (i := 5) (oi := { dst := Option.some 47, op := Go.Op.load 4 (Go.Operand.tmp 46), type := 4, pos := "peers.go:37", after := #[{ on := 4, ground := Go.Ground.data }], guard := Option.none }) (v := ?_) rfl (by kernel_rfl) (by kernel_rfl) (by kernel_rfl) (fun _ _ _ h => h) (Or.inl ⟨by rfl, ?_⟩) hHeld ?_
        rotate_left 1
        · intro ww hSw
          try dsimp only at hSw
          go_simp
          try with_reducible rfl
        try simp only [Act.put, List.setIfInBounds_toArray, List.set_cons_zero, List.set_cons_succ]
        refine wpAnyH_take (i := 6) (oi := { dst := Option.some 48, op := Go.Op.move (Go.Operand.tmp 47), type := 4, pos := "peers.go:37", after := #[{ on := 5, ground := Go.Ground.data }], guard := Option.none }) (v := ?_) rfl (by kernel_rfl) (by kernel_rfl) (by kernel_rfl) (fun _ _ _ h => h) (Or.inl ⟨by rfl, ?_⟩) hHeld ?_
        rotate_left 1
        · intro ww hSw
          try dsimp only at hSw
          go_simp
          try with_reducible rfl
        try simp only [Act.put, List.setIfInBounds_toArray, List.set_cons_zero, List.set_cons_succ]
        refine wpAnyH_take (i := 7) (oi := { dst := Option.some 49, op := Go.Op.fieldAddr 47 (Go.Operand.tmp 11) 5, type := 0, pos := "peers.go:37", after := #[{ on := 6, ground := Go.Ground.guard }], guard := Option.some (6, Bool.true) }) (v := undef) rfl (by kernel_rfl) (by kernel_rfl) (by kernel_rfl) (fun _ _ _ h => h) (Or.inr ⟨by rfl, rfl⟩) hHeld ?_
        try simp only [Act.put, List.setIfInBounds_toArray, List.set_cons_zero, List.set_cons_succ]
        refine wpAnyH_take (i := 8) (oi := { dst := Option.some 50, op := Go.Op.load 4 (Go.Operand.tmp 49), type := 4, pos := "peers.go:37", after := #[{ on := 7, ground := Go.Ground.data }, { on := 6, ground := Go.Ground.guard }], guard := Option.some (6, Bool.true) }) (v := undef) rfl (by kernel_rfl) (by kernel_rfl) (by kernel_rfl) (fun _ _ _ h => h) (Or.inr ⟨by rfl, rfl⟩) hHeld ?_
        try simp only [Act.put, List.setIfInBounds_toArray, List.set_cons_zero, List.set_cons_succ]
        refine wpAnyH_take (i := 9) (oi := { dst := Option.some 51, op := Go.Op.unOp Go.UnOp.not 4 (Go.Operand.tmp 50), type := 4, pos := "peers.go:37", after := #[{ on := 8, ground := Go.Ground.data }, { on := 6, ground := Go.Ground.guard }], guard := Option.some (6, Bool.true) }) (v := undef) rfl (by kernel_rfl) (by kernel_rfl) (by kernel_rfl) (fun _ _ _ h => h) (Or.inr ⟨by rfl, rfl⟩) hHeld ?_
        try simp only [Act.put, List.setIfInBounds_toArray, List.set_cons_zero, List.set_cons_succ]
        refine wpAnyH_take (i := 10) (oi := { dst := Option.some 52, op := Go.Op.pick (Go.Operand.tmp 48) (Go.Operand.tmp 51) (Go.Operand.const (Go.Value.bool Bool.false)), type := 4, pos := "peers.go:37", after := #[{ on := 6, ground := Go.Ground.data }, { on := 9, ground := Go.Ground.data }], guard := Option.none }) (v := ?_) rfl (by kernel_rfl) (by kernel_rfl) (by kernel_rfl) (fun _ _ _ h => h) (Or.inl ⟨by rfl, ?_⟩) hHeld ?_
        rotate_left 1
        · intro ww hSw
          try dsimp only at hSw
          go_simp
          try with_reducible rfl
        try simp only [Act.put, List.setIfInBounds_toArray, List.set_cons_zero, List.set_cons_succ]
        refine wpAnyH_take (i := 11) (oi := { dst := Option.some 53, op := Go.Op.load 47 (Go.Operand.tmp 11), type := 47, pos := "peers.go:37", after := #[], guard := Option.none }) (v := (.agg #[.int .i64 t.id, .int .i64 t.prio, .int .i64 t.dr, .int .i64 t.bdr, .int .i64 t.st, .bool t.two, .int .i64 t.tick])) rfl (by kernel_rfl) (by kernel_rfl) (by kernel_rfl) (fun _ _ _ h => h) (yieldsIf_load_mid (by rfl) 47 (.tmp 11) rfl gt 0 rfl (encPe t) _ (fun _ hb => hb.2.2.1) Try.underlying47 rfl (by kernel_rfl)) hHeld ?_
        try simp only [Act.put, List.setIfInBounds_toArray, List.set_cons_zero, List.set_cons_succ]
        refine wpAnyH_take (i := 13) (oi := { dst := Option.some 55, op := Go.Op.load 47 (Go.Operand.tmp 9), type := 47, pos := "peers.go:37", after := #[], guard := Option.none }) (v := (.agg #[.int .i64 y.id, .int .i64 y.prio, .int .i64 y.dr, .int .i64 y.bdr, .int .i64 y.st, .bool y.two, .int .i64 y.tick])) rfl (by kernel_rfl) (by kernel_rfl) (by kernel_rfl) (fun _ _ _ h => h) (yieldsIf_load_mid (by rfl) 47 (.tmp 9) rfl g9 0 rfl (encPe y) _ (fun _ hb => hb.2.2.2) Try.underlying47 rfl (by kernel_rfl)) hHeld ?_
        try simp only [Act.put, List.setIfInBounds_toArray, List.set_cons_zero, List.set_cons_succ]
        refine wpAnyH_ready (rs := [12]) (by kernel_rfl) (by simp) ?_
        refine AllReadyH.cons (o := { dst := Option.some 54, op := Go.Op.call { callee := Go.Callee.value (Go.Operand.func 24), args := #[Go.Operand.tmp 53], argTypes := #[47] }, type := 60, pos := "peers.go:42", after := #[{ on := 11, ground := Go.Ground.data }, { on := 6, ground := Go.Ground.chain }], guard := Option.none }) rfl (fun K hK => ?_) AllReadyH.nil
        go_simp
        refine (stands_any t _).mono ?_
        rintro ea wa9 ⟨⟨s1, rfl, hs1⟩, hba⟩
        have Hs1 := Lib.hid hs1
        have K89 := Lib.hid (K88.out.below hba K88.out.lt)
        have K99 := Lib.hid (K98.out.below hba K98.out.lt)
        have T9 := Lib.hid (T8.out.below hba T8.out.lt)
        have HP9 := Lib.hid (HP8.out.below hba)
        have C9 := Lib.hid (C8.out.below hba)
        clear hba hs1 K88 K98 T8 HP8 C8
        refine hK.out _ _ (And.intro T9.out.seven.2.2.2.2.2.1 (And.intro (by have h9 := (K99.out).seven.2.2.2.2.2.1; rwa [HY2.out] at h9) (And.intro T9.out.range7 K99.out.range7))) (fun hHeld => ?_)
        clear hK K
        try simp only [Act.put, List.setIfInBounds_toArray, List.set_cons_zero, List.set_cons_succ]
        refine wpAnyH_ready (rs := [14]) (by kernel_rfl) (by simp) ?_
        refine AllReadyH.cons (o := { dst := Option.some 56, op := Go.Op.call { callee := Go.Callee.value (Go.Operand.func 24), args := #[Go.Operand.tmp 55], argTypes := #[47] }, type := 60, pos := "peers.go:42", after := #[{ on := 13, ground := Go.Ground.data }, { on := 12, ground := Go.Ground.chain }], guard := Option.none }) rfl (fun K hK => ?_) AllReadyH.nil
        go_simp
        refine (stands_any y _).mono ?_
        rintro ea wa10 ⟨⟨s2, rfl, hs2⟩, hba⟩
        have Hs2 := Lib.hid hs2
        have K810 := Lib.hid (K89.out.below hba K89.out.lt)
        have K910 := Lib.hid (K99.out.below hba K99.out.lt)
        have T10 := Lib.hid (T9.out.below hba T9.out.lt)
        have HP10 := Lib.hid (HP9.out.below hba)
        have C10 := Lib.hid (C9.out.below hba)
        clear hba hs2 K89 K99 T9 HP9 C9
        refine hK.out _ _ (And.intro T10.out.seven.2.2.2.2.2.1 (And.intro (by have h9 := (K910.out).seven.2.2.2.2.2.1; rwa [HY2.out] at h9) (And.intro T10.out.range7 K910.out.range7))) (fun hHeld => ?_)
        clear hK K
        try simp only [Act.put, List.setIfInBounds_toArray, List.set_cons_zero, List.set_cons_succ]
        have hEQ := fun W => equalS s1 s2 W
        refine wpAnyH_take (i := 15) (oi := { dst := Option.some 57, op := Go.Op.binOp Go.BinOp.neq 60 (Go.Operand.tmp 54) (Go.Operand.tmp 56) 60, type := 4, pos := "peers.go:37", after := #[{ on := 12, ground := Go.Ground.data }, { on := 14, ground := Go.Ground.data }], guard := Option.none }) (v := ?_) rfl (by kernel_rfl) (by kernel_rfl) (by kernel_rfl) (fun _ _ _ h => h) (Or.inl ⟨by rfl, ?_⟩) hHeld ?_
        rotate_left 1
        · intro ww hSw
          try dsimp only at hSw
          go_simp
          try with_reducible rfl
        try simp only [Act.put, List.setIfInBounds_toArray, List.set_cons_zero, List.set_cons_succ]
        clear hEQ
        generalize hbv : sameS s1 s2 = bv at *
        refine wpAnyH_take (i := 16) (oi := { dst := Option.some 58, op := Go.Op.build 36 #[(0, Go.Operand.const (Go.Value.bool Bool.true)), (1, Go.Operand.tmp 43), (2, Go.Operand.tmp 45), (3, Go.Operand.tmp 52), (4, Go.Operand.tmp 57)], type := 36, pos := "peers.go:37", after := #[{ on := 1, ground := Go.Ground.data }, { on := 3, ground := Go.Ground.data }, { on := 10, ground := Go.Ground.data }, { on := 15, ground := Go.Ground.data }], guard := Option.none }) (v := ?_) rfl (by kernel_rfl) (by kernel_rfl) (by kernel_rfl) (fun _ _ _ h => h) (Or.inl ⟨by rfl, ?_⟩) hHeld ?_
        rotate_left 1
        · intro ww hSw
          try dsimp only at hSw
          go_simp
          try with_reducible rfl
        try simp only [Act.put, List.setIfInBounds_toArray, List.set_cons_zero, List.set_cons_succ]
        refine wpAnyH_ready (rs := [17]) (by kernel_rfl) (by simp) ?_
        refine AllReadyH.cons (o := { dst := Option.none, op := Go.Op.store 36 (Go.Operand.tmp 8) (Go.Operand.tmp 58), type := 0, pos := "peers.go:37", after := #[{ on := 16, ground := Go.Ground.data }, { on := 14, ground := Go.Ground.chain }, { on := 0, ground := Go.Ground.phase }, { on := 1, ground := Go.Ground.phase }, { on := 2, ground := Go.Ground.phase }, { on := 3, ground := Go.Ground.phase }, { on := 4, ground := Go.Ground.phase }, { on := 5, ground := Go.Ground.phase }, { on := 6, ground := Go.Ground.phase }, { on := 7, ground := Go.Ground.phase }, { on := 8, ground := Go.Ground.phase }, { on := 9, ground := Go.Ground.phase }, { on := 10, ground := Go.Ground.phase }, { on := 11, ground := Go.Ground.phase }, { on := 12, ground := Go.Ground.phase }, { on := 13, ground := Go.Ground.phase }, { on := 14, ground := Go.Ground.phase }, { on := 15, ground := Go.Ground.phase }, { on := 16, ground := Go.Ground.phase }], guard := Option.none }) rfl (fun K hK => ?_) AllReadyH.nil
        refine wp_store_hd ⟨true, true, t.two, false, !bv⟩ (.tmp 8) (.tmp 58) rfl rfl rfl K810.out ?_
        intro w11 HK11 HC11
        refine hK.out _ _ (And.intro (T10.out.chg HC11.out NE.out.2.1).seven.2.2.2.2.2.1 (And.intro (by have h9 := (K910.out.chg HC11.out NE.out.2.2.1).seven.2.2.2.2.2.1; rwa [HY2.out] at h9) (And.intro (T10.out.chg HC11.out NE.out.2.1).range7 (K910.out.chg HC11.out NE.out.2.2.1).range7))) (fun hHeld => ?_)
        clear hK K
        try simp only [Act.put]
        refine wpAnyH_done (by kernel_rfl) ?_ _
        refine NoPanic.normal ?_
        clear hHeld
        obtain ⟨m0, m1, m2, m3, m4⟩ := HK11.out.five
        have C11 := Lib.hid (C10.out.trans HC11.out (fun q hq => .inr (by rw [hq, HG.out]; omega)))
        have HP11 := Lib.hid (HP10.out.chg HC11.out (fun q hq e => by
          rcases hq with hq | hq
          · have := HFL.out q hq; omega
          · have := NE.out; omega))
        go_wp2_with fail
        refine bodyPost_ret (v := .agg #[.bool true, .bool true, .bool t.two, .bool false, .bool (!bv)]) (by simp [results, Try.results8, go_sem, *]) rfl ?_
        rw [← HQ.out]
        refine ⟨⟨⟨true, true, t.two, false, !bv⟩, rfl, ?_⟩, ⟨fun q => F q ∨ q = gt, fun j => if j = (k : Int) then gt else bk j, ?_, fun q hq => ?_⟩, C11.out⟩
        · unfold hearH ledH
          rw [HT.out, if_pos rfl, HIS.out, HYW.out, HTO.out, ← bears_stands (k : Int) y t (by rw [← HYW.out]; exact wasP_id X k) HTI.out, ← Hs1.out, ← Hs2.out, hbv, HY2.out]
          rfl
        · unfold hearX
          rw [HT.out, if_pos rfl, HYW.out, HTO.out]
          exact HP11.out
        · rcases hq with hq | hq
          · exact .inl hq
          · exact .inr (by rw [hq, HG.out]; exact NE.out.2.2.2)
      · have HY2 := Lib.hid hy2
        clear hy2

        have hgt := K94.out.lt
        have hg8 := K84.out.lt
        clear hl3
        have RW4 := Lib.hid K94.out.range7
        have H64 := Lib.hid (show w4.rangeAt g 0 [.int .i64 h.every, .int .i64 h.dead, .int .i64 h.prio, .int .i64 h.dr, .int .i64 h.bdr, .slice A n c] by
          intro j v hv
          rw [Nat.zero_add, K64.out.cell, ← hv]
          simp)
        go_upto_region 7 with (first
          | (refine wpList_load_pe (y := y) (by rfl) _ rfl (by rfl) RW4.out ?_)
          | (refine wpList_load_row 32 [.int .i64 h.every, .int .i64 h.dead, .int .i64 h.prio, .int .i64 h.dr, .int .i64 h.bdr, .slice A n c] _ (by rfl) _ rfl (by rfl) H64.out Try.underlying32 rfl (by kernel_rfl) ?_)
          | (go_at_call 23; refine (told_any y h now A n c HH.out D4.out (R4.out.more (by omega)) HMX.out HO.out).mono ?_; rintro e5 w5 ⟨rfl, hb5⟩; rw [HTO.out]; have K85 := Lib.hid (K84.out.below hb5 K84.out.lt); have K95 := Lib.hid (K94.out.below hb5 K94.out.lt); have D5 := Lib.hid (D4.out.below hb5); have B5 := Lib.hid (B4.out.trans (hb5.mono (by omega))); have hs5 := hb5.size; clear hb5))
        have K86 := Lib.hid (K85.out.alloc (.cells #[.int .i64 t.id, .int .i64 t.prio, .int .i64 t.dr, .int .i64 t.bdr, .int .i64 t.st, .bool t.two, .int .i64 t.tick] 47))
        have K96 := Lib.hid (K95.out.alloc (.cells #[.int .i64 t.id, .int .i64 t.prio, .int .i64 t.dr, .int .i64 t.bdr, .int .i64 t.st, .bool t.two, .int .i64 t.tick] 47))
        have T6 := Lib.hid (Blk.new w5 47 #[.int .i64 t.id, .int .i64 t.prio, .int .i64 t.dr, .int .i64 t.bdr, .int .i64 t.st, .bool t.two, .int .i64 t.tick])
        have B6 := Lib.hid (B5.out.alloc (by omega) (.cells #[.int .i64 t.id, .int .i64 t.prio, .int .i64 t.dr, .int .i64 t.bdr, .int .i64 t.st, .bool t.two, .int .i64 t.tick] 47))
        have D6 := Lib.hid (D5.out.below ((Below.refl _ _).alloc (Nat.le_refl _) (.cells #[.int .i64 t.id, .int .i64 t.prio, .int .i64 t.dr, .int .i64 t.bdr, .int .i64 t.st, .bool t.two, .int .i64 t.tick] 47)))
        generalize w5.alloc (.cells #[.int .i64 t.id, .int .i64 t.prio, .int .i64 t.dr, .int .i64 t.bdr, .int .i64 t.st, .bool t.two, .int .i64 t.tick] 47) = w6 at *
        generalize hgt2 : w5.heap.size = gt at *
        have NG := Lib.hid (show ¬ F gt from fun hk => by have := HFL.out gt hk; omega)
        have NE := Lib.hid (show gt ≠ w2.heap.size ∧ gt ≠ g + 1 ∧ w2.heap.size ≠ g + 1 ∧ g ≤ gt by omega)
        clear hgt2 hs5 hgt hg8 K84 K94 K85 K95 D4 D5 B4 B5 R4 K64 H64 RW4
        obtain ⟨k, rfl⟩ : ∃ k : Nat, i = (k : Int) := ⟨i.toNat, by have := HR.out; omega⟩
        have hk : k < 16 := by have := HR.out; omega
        have hk' : (k : Int) < 16 := by omega
        have hk0 : (0 : Int) ≤ (k : Int) := by omega
        have hl6 := T6.out.lt
        have c2 := D6.out.at k hk
        have z2 := D6.out.obj.frozen (2 + k)
        obtain ⟨-, -, hpl⟩ := D6.out.cells
        generalize hpv : ptrP X bk (k : Int) = pv at *
        have HPV := Lib.hid hpv
        clear hpv
        have NP := Lib.hid (show p < g from HFL.out p D6.out.fp)
        go_upto_region 8 with fail
        have HP := Lib.hid (D6.out.put (y := t) T6.out NG.out (by rw [HTI.out]; exact HR.out) (by rw [HTT.out]; exact HNOW.out))
        rw [HTI.out, Int.toNat_natCast] at HP
        have C7 := Lib.hid ((Chg.of_below (F := F) (show Below w.heap.size w w6 by rw [HG.out]; exact B6.out)).setCell ⟨p, 2 + k, none⟩ D6.out.fp (.pointer (some ⟨gt, 0, none⟩)))
        have HC67 := Lib.hid (chg_put (F := fun k => k = p) w6 (a := ⟨p, 2 + k, none⟩) (.pointer (some ⟨gt, 0, none⟩)) rfl)
        have K87 := Lib.hid (K86.out.chg HC67.out (show g + 1 ≠ p by have := NP.out; omega))
        have K97 := Lib.hid (K96.out.chg HC67.out (show w2.heap.size ≠ p by have := NP.out; omega))
        have T7 := Lib.hid (T6.out.chg HC67.out (show gt ≠ p by have := NP.out; have := NE.out.2.2.2; omega))
        clear K86 K96 T6 B6 D6 c2 z2 HPV HC67 hl6 hpl
        generalize w6.setCell ⟨p, 2 + k, none⟩ (.pointer (some ⟨gt, 0, none⟩)) = w7 at *
        generalize hg9 : w2.heap.size = g9 at *
        have HG9 := Lib.hid hg9
        clear hg9
        have K88 := Lib.hid K87.out.drew
        have K98 := Lib.hid K97.out.drew
        have T8 := Lib.hid T7.out.drew
        have HP8 := Lib.hid HP.out.drew
        have C8 := Lib.hid (show Chg F w w7.drew from C7.out.below ⟨rfl, rfl, rfl, Nat.le_refl _, fun _ _ => rfl⟩)
        clear HP C7 K87 K97 T7
        have hS := And.intro T8.out.seven.2.2.2.2.2.1 (And.intro (by have h9 := (K98.out).seven.2.2.2.2.2.1; rwa [HY2.out] at h9) (And.intro T8.out.range7 K98.out.range7))
        refine wp_region_noPanic ?_
        refine wp_region_held_drew (S := fun w' => w'.cell? ⟨gt, 5, none⟩ = some (.bool t.two) ∧ w'.cell? ⟨g9, 5, none⟩ = some (.bool true) ∧ w'.rangeAt gt 0 (encPe t) ∧ w'.rangeAt g9 0 (encPe y)) (by kernel_rfl) hS (fun hHeld => ?_)
        change wpAnyH _ _ _ _ _ _ _ _ w7.drew
        generalize w7.drew = w8 at *
        clear hS
        refine wpAnyH_take (i := 0) (oi := { dst := Option.some 42, op := Go.Op.move (Go.Operand.tmp 10), type := 4, pos := "peers.go:37", after := #[], guard := Option.none }) (v := ?_) rfl (by kernel_rfl) (by kernel_rfl) (by kernel_rfl) (fun _ _ _ h => h) (Or.inl ⟨by rfl, ?_⟩) hHeld ?_
        rotate_left 1
        · intro ww hSw
          try dsimp only at hSw
          go_simp
          try with_reducible rfl
        try simp only [Act.put, List.setIfInBounds_toArray, List.set_cons_zero, List.set_cons_succ]
        refine wpAnyH_take (i := 1) (oi := { dst := Option.some 43, op := Go.Op.unOp Go.UnOp.not 4 (Go.Operand.tmp 42), type := 4, pos := "peers.go:37", after := #[{ on := 0, ground := Go.Ground.data }], guard := Option.none }) (v := ?_) rfl (by kernel_rfl) (by kernel_rfl) (by kernel_rfl) (fun _ _ _ h => h) (Or.inl ⟨by rfl, ?_⟩) hHeld ?_
        rotate_left 1
        · intro ww hSw
          try dsimp only at hSw
          go_simp
          try with_reducible rfl
        try simp only [Act.put, List.setIfInBounds_toArray, List.set_cons_zero, List.set_cons_succ]
        refine wpAnyH_take (i := 2) (oi := { dst := Option.some 44, op := Go.Op.fieldAddr 47 (Go.Operand.tmp 11) 5, type := 0, pos := "peers.go:37", after := #[], guard := Option.none }) (v := ?_) rfl (by kernel_rfl) (by kernel_rfl) (by kernel_rfl) (fun _ _ _ h => h) (Or.inl ⟨by rfl, ?_⟩) hHeld ?_
        rotate_left 1
        · intro ww hSw
          try dsimp only at hSw
          go_simp
          try with_reducible rfl
        try simp only [Act.put, List.setIfInBounds_toArray, List.set_cons_zero, List.set_cons_succ]
        refine wpAnyH_take (i := 3) (oi := { dst := Option.some 45, op := Go.Op.load 4 (Go.Operand.tmp 44), type := 4, pos := "peers.go:37", after := #[{ on := 2, ground := Go.Ground.data }], guard := Option.none }) (v := ?_) rfl (by kernel_rfl) (by kernel_rfl) (by kernel_rfl) (fun _ _ _ h => h) (Or.inl ⟨by rfl, ?_⟩) hHeld ?_
        rotate_left 1
        · intro ww hSw
          try dsimp only at hSw
          go_simp
          try with_reducible rfl
        try simp only [Act.put, List.setIfInBounds_toArray, List.set_cons_zero, List.set_cons_succ]
        refine wpAnyH_take (i := 4) (oi := { dst := Option.some 46, op := Go.Op.fieldAddr 47 (Go.Operand.tmp 9) 5, type := 0, pos := "peers.go:37", after := #[], guard := Option.none }) (v := ?_) rfl (by kernel_rfl) (by kernel_rfl) (by kernel_rfl) (fun _ _ _ h => h) (Or.inl ⟨by rfl, ?_⟩) hHeld ?_
        rotate_left 1
        · intro ww hSw
          try dsimp only at hSw
          go_simp
          try with_reducible rfl
        try simp only [Act.put, List.setIfInBounds_toArray, List.set_cons_zero, List.set_cons_succ]
        refine wpAnyH_take (i := 5) (oi := { dst := Option.some 47, op := Go.Op.load 4 (Go.Operand.tmp 46), type := 4, pos := "peers.go:37", after := #[{ on := 4, ground := Go.Ground.data }], guard := Option.none }) (v := ?_) rfl (by kernel_rfl) (by kernel_rfl) (by kernel_rfl) (fun _ _ _ h => h) (Or.inl ⟨by rfl, ?_⟩) hHeld ?_
        rotate_left 1
        · intro ww hSw
          try dsimp only at hSw
          go_simp
          try with_reducible rfl
        try simp only [Act.put, List.setIfInBounds_toArray, List.set_cons_zero, List.set_cons_succ]
        refine wpAnyH_take (i := 6) (oi := { dst := Option.some 48, op := Go.Op.move (Go.Operand.tmp 47), type := 4, pos := "peers.go:37", after := #[{ on := 5, ground := Go.Ground.data }], guard := Option.none }) (v := ?_) rfl (by kernel_rfl) (by kernel_rfl) (by kernel_rfl) (fun _ _ _ h => h) (Or.inl ⟨by rfl, ?_⟩) hHeld ?_
        rotate_left 1
        · intro ww hSw
          try dsimp only at hSw
          go_simp
          try with_reducible rfl
        try simp only [Act.put, List.setIfInBounds_toArray, List.set_cons_zero, List.set_cons_succ]
        refine wpAnyH_take (i := 7) (oi := { dst := Option.some 49, op := Go.Op.fieldAddr 47 (Go.Operand.tmp 11) 5, type := 0, pos := "peers.go:37", after := #[{ on := 6, ground := Go.Ground.guard }], guard := Option.some (6, Bool.true) }) (v := ?_) rfl (by kernel_rfl) (by kernel_rfl) (by kernel_rfl) (fun _ _ _ h => h) (Or.inl ⟨by rfl, ?_⟩) hHeld ?_
        rotate_left 1
        · intro ww hSw
          try dsimp only at hSw
          go_simp
          try with_reducible rfl
        try simp only [Act.put, List.setIfInBounds_toArray, List.set_cons_zero, List.set_cons_succ]
        refine wpAnyH_take (i := 8) (oi := { dst := Option.some 50, op := Go.Op.load 4 (Go.Operand.tmp 49), type := 4, pos := "peers.go:37", after := #[{ on := 7, ground := Go.Ground.data }, { on := 6, ground := Go.Ground.guard }], guard := Option.some (6, Bool.true) }) (v := ?_) rfl (by kernel_rfl) (by kernel_rfl) (by kernel_rfl) (fun _ _ _ h => h) (Or.inl ⟨by rfl, ?_⟩) hHeld ?_
        rotate_left 1
        · intro ww hSw
          try dsimp only at hSw
          go_simp
          try with_reducible rfl
        try simp only [Act.put, List.setIfInBounds_toArray, List.set_cons_zero, List.set_cons_succ]
        refine wpAnyH_take (i := 9) (oi := { dst := Option.some 51, op := Go.Op.unOp Go.UnOp.not 4 (Go.Operand.tmp 50), type := 4, pos := "peers.go:37", after := #[{ on := 8, ground := Go.Ground.data }, { on := 6, ground := Go.Ground.guard }], guard := Option.some (6, Bool.true) }) (v := ?_) rfl (by kernel_rfl) (by kernel_rfl) (by kernel_rfl) (fun _ _ _ h => h) (Or.inl ⟨by rfl, ?_⟩) hHeld ?_
        rotate_left 1
        · intro ww hSw
          try dsimp only at hSw
          go_simp
          try with_reducible rfl
        try simp only [Act.put, List.setIfInBounds_toArray, List.set_cons_zero, List.set_cons_succ]
        refine wpAnyH_take (i := 10) (oi := { dst := Option.some 52, op := Go.Op.pick (Go.Operand.tmp 48) (Go.Operand.tmp 51) (Go.Operand.const (Go.Value.bool Bool.false)), type := 4, pos := "peers.go:37", after := #[{ on := 6, ground := Go.Ground.data }, { on := 9, ground := Go.Ground.data }], guard := Option.none }) (v := ?_) rfl (by kernel_rfl) (by kernel_rfl) (by kernel_rfl) (fun _ _ _ h => h) (Or.inl ⟨by rfl, ?_⟩) hHeld ?_
        rotate_left 1
        · intro ww hSw
          try dsimp only at hSw
          go_simp
          try with_reducible rfl
        try simp only [Act.put, List.setIfInBounds_toArray, List.set_cons_zero, List.set_cons_succ]
        refine wpAnyH_take (i := 11) (oi := { dst := Option.some 53, op := Go.Op.load 47 (Go.Operand.tmp 11), type := 47, pos := "peers.go:37", after := #[], guard := Option.none }) (v := (.agg #[.int .i64 t.id, .int .i64 t.prio, .int .i64 t.dr, .int .i64 t.bdr, .int .i64 t.st, .bool t.two, .int .i64 t.tick])) rfl (by kernel_rfl) (by kernel_rfl) (by kernel_rfl) (fun _ _ _ h => h) (yieldsIf_load_mid (by rfl) 47 (.tmp 11) rfl gt 0 rfl (encPe t) _ (fun _ hb => hb.2.2.1) Try.underlying47 rfl (by kernel_rfl)) hHeld ?_
        try simp only [Act.put, List.setIfInBounds_toArray, List.set_cons_zero, List.set_cons_succ]
        refine wpAnyH_take (i := 13) (oi := { dst := Option.some 55, op := Go.Op.load 47 (Go.Operand.tmp 9), type := 47, pos := "peers.go:37", after := #[], guard := Option.none }) (v := (.agg #[.int .i64 y.id, .int .i64 y.prio, .int .i64 y.dr, .int .i64 y.bdr, .int .i64 y.st, .bool y.two, .int .i64 y.tick])) rfl (by kernel_rfl) (by kernel_rfl) (by kernel_rfl) (fun _ _ _ h => h) (yieldsIf_load_mid (by rfl) 47 (.tmp 9) rfl g9 0 rfl (encPe y) _ (fun _ hb => hb.2.2.2) Try.underlying47 rfl (by kernel_rfl)) hHeld ?_
        try simp only [Act.put, List.setIfInBounds_toArray, List.set_cons_zero, List.set_cons_succ]
        refine wpAnyH_ready (rs := [12]) (by kernel_rfl) (by simp) ?_
        refine AllReadyH.cons (o := { dst := Option.some 54, op := Go.Op.call { callee := Go.Callee.value (Go.Operand.func 24), args := #[Go.Operand.tmp 53], argTypes := #[47] }, type := 60, pos := "peers.go:42", after := #[{ on := 11, ground := Go.Ground.data }, { on := 6, ground := Go.Ground.chain }], guard := Option.none }) rfl (fun K hK => ?_) AllReadyH.nil
        go_simp
        refine (stands_any t _).mono ?_
        rintro ea wa9 ⟨⟨s1, rfl, hs1⟩, hba⟩
        have Hs1 := Lib.hid hs1
        have K89 := Lib.hid (K88.out.below hba K88.out.lt)
        have K99 := Lib.hid (K98.out.below hba K98.out.lt)
        have T9 := Lib.hid (T8.out.below hba T8.out.lt)
        have HP9 := Lib.hid (HP8.out.below hba)
        have C9 := Lib.hid (C8.out.below hba)
        clear hba hs1 K88 K98 T8 HP8 C8
        refine hK.out _ _ (And.intro T9.out.seven.2.2.2.2.2.1 (And.intro (by have h9 := (K99.out).seven.2.2.2.2.2.1; rwa [HY2.out] at h9) (And.intro T9.out.range7 K99.out.range7))) (fun hHeld => ?_)
        clear hK K
        try simp only [Act.put, List.setIfInBounds_toArray, List.set_cons_zero, List.set_cons_succ]
        refine wpAnyH_ready (rs := [14]) (by kernel_rfl) (by simp) ?_
        refine AllReadyH.cons (o := { dst := Option.some 56, op := Go.Op.call { callee := Go.Callee.value (Go.Operand.func 24), args := #[Go.Operand.tmp 55], argTypes := #[47] }, type := 60, pos := "peers.go:42", after := #[{ on := 13, ground := Go.Ground.data }, { on := 12, ground := Go.Ground.chain }], guard := Option.none }) rfl (fun K hK => ?_) AllReadyH.nil
        go_simp
        refine (stands_any y _).mono ?_
        rintro ea wa10 ⟨⟨s2, rfl, hs2⟩, hba⟩
        have Hs2 := Lib.hid hs2
        have K810 := Lib.hid (K89.out.below hba K89.out.lt)
        have K910 := Lib.hid (K99.out.below hba K99.out.lt)
        have T10 := Lib.hid (T9.out.below hba T9.out.lt)
        have HP10 := Lib.hid (HP9.out.below hba)
        have C10 := Lib.hid (C9.out.below hba)
        clear hba hs2 K89 K99 T9 HP9 C9
        refine hK.out _ _ (And.intro T10.out.seven.2.2.2.2.2.1 (And.intro (by have h9 := (K910.out).seven.2.2.2.2.2.1; rwa [HY2.out] at h9) (And.intro T10.out.range7 K910.out.range7))) (fun hHeld => ?_)
        clear hK K
        try simp only [Act.put, List.setIfInBounds_toArray, List.set_cons_zero, List.set_cons_succ]
        have hEQ := fun W => equalS s1 s2 W
        refine wpAnyH_take (i := 15) (oi := { dst := Option.some 57, op := Go.Op.binOp Go.BinOp.neq 60 (Go.Operand.tmp 54) (Go.Operand.tmp 56) 60, type := 4, pos := "peers.go:37", after := #[{ on := 12, ground := Go.Ground.data }, { on := 14, ground := Go.Ground.data }], guard := Option.none }) (v := ?_) rfl (by kernel_rfl) (by kernel_rfl) (by kernel_rfl) (fun _ _ _ h => h) (Or.inl ⟨by rfl, ?_⟩) hHeld ?_
        rotate_left 1
        · intro ww hSw
          try dsimp only at hSw
          go_simp
          try with_reducible rfl
        try simp only [Act.put, List.setIfInBounds_toArray, List.set_cons_zero, List.set_cons_succ]
        clear hEQ
        generalize hbv : sameS s1 s2 = bv at *
        refine wpAnyH_take (i := 16) (oi := { dst := Option.some 58, op := Go.Op.build 36 #[(0, Go.Operand.const (Go.Value.bool Bool.true)), (1, Go.Operand.tmp 43), (2, Go.Operand.tmp 45), (3, Go.Operand.tmp 52), (4, Go.Operand.tmp 57)], type := 36, pos := "peers.go:37", after := #[{ on := 1, ground := Go.Ground.data }, { on := 3, ground := Go.Ground.data }, { on := 10, ground := Go.Ground.data }, { on := 15, ground := Go.Ground.data }], guard := Option.none }) (v := ?_) rfl (by kernel_rfl) (by kernel_rfl) (by kernel_rfl) (fun _ _ _ h => h) (Or.inl ⟨by rfl, ?_⟩) hHeld ?_
        rotate_left 1
        · intro ww hSw
          try dsimp only at hSw
          go_simp
          try with_reducible rfl
        try simp only [Act.put, List.setIfInBounds_toArray, List.set_cons_zero, List.set_cons_succ]
        refine wpAnyH_ready (rs := [17]) (by kernel_rfl) (by simp) ?_
        refine AllReadyH.cons (o := { dst := Option.none, op := Go.Op.store 36 (Go.Operand.tmp 8) (Go.Operand.tmp 58), type := 0, pos := "peers.go:37", after := #[{ on := 16, ground := Go.Ground.data }, { on := 14, ground := Go.Ground.chain }, { on := 0, ground := Go.Ground.phase }, { on := 1, ground := Go.Ground.phase }, { on := 2, ground := Go.Ground.phase }, { on := 3, ground := Go.Ground.phase }, { on := 4, ground := Go.Ground.phase }, { on := 5, ground := Go.Ground.phase }, { on := 6, ground := Go.Ground.phase }, { on := 7, ground := Go.Ground.phase }, { on := 8, ground := Go.Ground.phase }, { on := 9, ground := Go.Ground.phase }, { on := 10, ground := Go.Ground.phase }, { on := 11, ground := Go.Ground.phase }, { on := 12, ground := Go.Ground.phase }, { on := 13, ground := Go.Ground.phase }, { on := 14, ground := Go.Ground.phase }, { on := 15, ground := Go.Ground.phase }, { on := 16, ground := Go.Ground.phase }], guard := Option.none }) rfl (fun K hK => ?_) AllReadyH.nil
        refine wp_store_hd ⟨true, true, t.two, !t.two, !bv⟩ (.tmp 8) (.tmp 58) rfl rfl rfl K810.out ?_
        intro w11 HK11 HC11
        refine hK.out _ _ (And.intro (T10.out.chg HC11.out NE.out.2.1).seven.2.2.2.2.2.1 (And.intro (by have h9 := (K910.out.chg HC11.out NE.out.2.2.1).seven.2.2.2.2.2.1; rwa [HY2.out] at h9) (And.intro (T10.out.chg HC11.out NE.out.2.1).range7 (K910.out.chg HC11.out NE.out.2.2.1).range7))) (fun hHeld => ?_)
        clear hK K
        try simp only [Act.put]
        refine wpAnyH_done (by kernel_rfl) ?_ _
        refine NoPanic.normal ?_
        clear hHeld
        obtain ⟨m0, m1, m2, m3, m4⟩ := HK11.out.five
        have C11 := Lib.hid (C10.out.trans HC11.out (fun q hq => .inr (by rw [hq, HG.out]; omega)))
        have HP11 := Lib.hid (HP10.out.chg HC11.out (fun q hq e => by
          rcases hq with hq | hq
          · have := HFL.out q hq; omega
          · have := NE.out; omega))
        go_wp2_with fail
        refine bodyPost_ret (v := .agg #[.bool true, .bool true, .bool t.two, .bool (!t.two), .bool (!bv)]) (by simp [results, Try.results8, go_sem, *]) rfl ?_
        rw [← HQ.out]
        refine ⟨⟨⟨true, true, t.two, !t.two, !bv⟩, rfl, ?_⟩, ⟨fun q => F q ∨ q = gt, fun j => if j = (k : Int) then gt else bk j, ?_, fun q hq => ?_⟩, C11.out⟩
        · unfold hearH ledH
          rw [HT.out, if_pos rfl, HIS.out, HYW.out, HTO.out, ← bears_stands (k : Int) y t (by rw [← HYW.out]; exact wasP_id X k) HTI.out, ← Hs1.out, ← Hs2.out, hbv, HY2.out]
          rfl
        · unfold hearX
          rw [HT.out, if_pos rfl, HYW.out, HTO.out]
          exact HP11.out
        · rcases hq with hq | hq
          · exact .inl hq
          · exact .inr (by rw [hq, HG.out]; exact NE.out.2.2.2)
    | some x =>
      have HIS := Lib.hid (show (findP X i).isNone = false by rw [hf]; rfl)
      obtain ⟨y, hy⟩ : ∃ y, wasP X i = y := ⟨_, rfl⟩
      have HYW := Lib.hid hy
      have HZY := Lib.hid (show z = y by rw [← hy, ← HZ.out]; unfold wasP getP; rw [hf]; rfl)
      clear hy hf
      obtain ⟨t, hto⟩ : ∃ t, toldP sf y h now = t := ⟨_, rfl⟩
      have HTO := Lib.hid hto
      clear hto
      rw [HZY.out]
      have HTI := Lib.hid (show t.id = i by rw [← HTO.out, toldP_id, ← HYW.out, wasP_id])
      have HTT := Lib.hid (show t.tick = now by rw [← HTO.out]; rfl)
      go_upto_region 6 with fail
      have K64 := Lib.hid (K62.out.alloc (.cells #[.int .i64 y.id, .int .i64 y.prio, .int .i64 y.dr, .int .i64 y.bdr, .int .i64 y.st, .bool y.two, .int .i64 y.tick] 47))
      have K84 := Lib.hid (K82.out.alloc (.cells #[.int .i64 y.id, .int .i64 y.prio, .int .i64 y.dr, .int .i64 y.bdr, .int .i64 y.st, .bool y.two, .int .i64 y.tick] 47))
      have K94 := Lib.hid (Blk.new w2 47 #[.int .i64 y.id, .int .i64 y.prio, .int .i64 y.dr, .int .i64 y.bdr, .int .i64 y.st, .bool y.two, .int .i64 y.tick])
      have B4 := Lib.hid (B2.out.alloc (by omega) (.cells #[.int .i64 y.id, .int .i64 y.prio, .int .i64 y.dr, .int .i64 y.bdr, .int .i64 y.st, .bool y.two, .int .i64 y.tick] 47))
      have D4 := Lib.hid (D2.out.below ((Below.refl _ _).alloc (Nat.le_refl _) (.cells #[.int .i64 y.id, .int .i64 y.prio, .int .i64 y.dr, .int .i64 y.bdr, .int .i64 y.st, .bool y.two, .int .i64 y.tick] 47)))
      have R4 := Lib.hid (show Row .i64 (w2.alloc (.cells #[.int .i64 y.id, .int .i64 y.prio, .int .i64 y.dr, .int .i64 y.bdr, .int .i64 y.st, .bool y.two, .int .i64 y.tick] 47)) g A n h.seen from R2.out.below ((Below.refl _ _).alloc (by omega) (.cells #[.int .i64 y.id, .int .i64 y.prio, .int .i64 y.dr, .int .i64 y.bdr, .int .i64 y.st, .bool y.two, .int .i64 y.tick] 47)))
      clear K62 K82 D2 R2 B2
      generalize w2.alloc (.cells #[.int .i64 y.id, .int .i64 y.prio, .int .i64 y.dr, .int .i64 y.bdr, .int .i64 y.st, .bool y.two, .int .i64 y.tick] 47) = w4 at *
      have hl3 := K94.out.lt
      cases hy2 : y.two
      · have HY2 := Lib.hid hy2
        clear hy2

        have hgt := K94.out.lt
        have hg8 := K84.out.lt
        clear hl3
        have RW4 := Lib.hid K94.out.range7
        have H64 := Lib.hid (show w4.rangeAt g 0 [.int .i64 h.every, .int .i64 h.dead, .int .i64 h.prio, .int .i64 h.dr, .int .i64 h.bdr, .slice A n c] by
          intro j v hv
          rw [Nat.zero_add, K64.out.cell, ← hv]
          simp)
        go_upto_region 7 with (first
          | (refine wpList_load_pe (y := y) (by rfl) _ rfl (by rfl) RW4.out ?_)
          | (refine wpList_load_row 32 [.int .i64 h.every, .int .i64 h.dead, .int .i64 h.prio, .int .i64 h.dr, .int .i64 h.bdr, .slice A n c] _ (by rfl) _ rfl (by rfl) H64.out Try.underlying32 rfl (by kernel_rfl) ?_)
          | (go_at_call 23; refine (told_any y h now A n c HH.out D4.out (R4.out.more (by omega)) HMX.out HO.out).mono ?_; rintro e5 w5 ⟨rfl, hb5⟩; rw [HTO.out]; have K85 := Lib.hid (K84.out.below hb5 K84.out.lt); have K95 := Lib.hid (K94.out.below hb5 K94.out.lt); have D5 := Lib.hid (D4.out.below hb5); have B5 := Lib.hid (B4.out.trans (hb5.mono (by omega))); have hs5 := hb5.size; clear hb5))
        have K86 := Lib.hid (K85.out.alloc (.cells #[.int .i64 t.id, .int .i64 t.prio, .int .i64 t.dr, .int .i64 t.bdr, .int .i64 t.st, .bool t.two, .int .i64 t.tick] 47))
        have K96 := Lib.hid (K95.out.alloc (.cells #[.int .i64 t.id, .int .i64 t.prio, .int .i64 t.dr, .int .i64 t.bdr, .int .i64 t.st, .bool t.two, .int .i64 t.tick] 47))
        have T6 := Lib.hid (Blk.new w5 47 #[.int .i64 t.id, .int .i64 t.prio, .int .i64 t.dr, .int .i64 t.bdr, .int .i64 t.st, .bool t.two, .int .i64 t.tick])
        have B6 := Lib.hid (B5.out.alloc (by omega) (.cells #[.int .i64 t.id, .int .i64 t.prio, .int .i64 t.dr, .int .i64 t.bdr, .int .i64 t.st, .bool t.two, .int .i64 t.tick] 47))
        have D6 := Lib.hid (D5.out.below ((Below.refl _ _).alloc (Nat.le_refl _) (.cells #[.int .i64 t.id, .int .i64 t.prio, .int .i64 t.dr, .int .i64 t.bdr, .int .i64 t.st, .bool t.two, .int .i64 t.tick] 47)))
        generalize w5.alloc (.cells #[.int .i64 t.id, .int .i64 t.prio, .int .i64 t.dr, .int .i64 t.bdr, .int .i64 t.st, .bool t.two, .int .i64 t.tick] 47) = w6 at *
        generalize hgt2 : w5.heap.size = gt at *
        have NG := Lib.hid (show ¬ F gt from fun hk => by have := HFL.out gt hk; omega)
        have NE := Lib.hid (show gt ≠ w2.heap.size ∧ gt ≠ g + 1 ∧ w2.heap.size ≠ g + 1 ∧ g ≤ gt by omega)
        clear hgt2 hs5 hgt hg8 K84 K94 K85 K95 D4 D5 B4 B5 R4 K64 H64 RW4
        obtain ⟨k, rfl⟩ : ∃ k : Nat, i = (k : Int) := ⟨i.toNat, by have := HR.out; omega⟩
        have hk : k < 16 := by have := HR.out; omega
        have hk' : (k : Int) < 16 := by omega
        have hk0 : (0 : Int) ≤ (k : Int) := by omega
        have hl6 := T6.out.lt
        have c2 := D6.out.at k hk
        have z2 := D6.out.obj.frozen (2 + k)
        obtain ⟨-, -, hpl⟩ := D6.out.cells
        generalize hpv : ptrP X bk (k : Int) = pv at *
        have HPV := Lib.hid hpv
        clear hpv
        have NP := Lib.hid (show p < g from HFL.out p D6.out.fp)
        go_upto_region 8 with fail
        have HP := Lib.hid (D6.out.put (y := t) T6.out NG.out (by rw [HTI.out]; exact HR.out) (by rw [HTT.out]; exact HNOW.out))
        rw [HTI.out, Int.toNat_natCast] at HP
        have C7 := Lib.hid ((Chg.of_below (F := F) (show Below w.heap.size w w6 by rw [HG.out]; exact B6.out)).setCell ⟨p, 2 + k, none⟩ D6.out.fp (.pointer (some ⟨gt, 0, none⟩)))
        have HC67 := Lib.hid (chg_put (F := fun k => k = p) w6 (a := ⟨p, 2 + k, none⟩) (.pointer (some ⟨gt, 0, none⟩)) rfl)
        have K87 := Lib.hid (K86.out.chg HC67.out (show g + 1 ≠ p by have := NP.out; omega))
        have K97 := Lib.hid (K96.out.chg HC67.out (show w2.heap.size ≠ p by have := NP.out; omega))
        have T7 := Lib.hid (T6.out.chg HC67.out (show gt ≠ p by have := NP.out; have := NE.out.2.2.2; omega))
        clear K86 K96 T6 B6 D6 c2 z2 HPV HC67 hl6 hpl
        generalize w6.setCell ⟨p, 2 + k, none⟩ (.pointer (some ⟨gt, 0, none⟩)) = w7 at *
        generalize hg9 : w2.heap.size = g9 at *
        have HG9 := Lib.hid hg9
        clear hg9
        have K88 := Lib.hid K87.out.drew
        have K98 := Lib.hid K97.out.drew
        have T8 := Lib.hid T7.out.drew
        have HP8 := Lib.hid HP.out.drew
        have C8 := Lib.hid (show Chg F w w7.drew from C7.out.below ⟨rfl, rfl, rfl, Nat.le_refl _, fun _ _ => rfl⟩)
        clear HP C7 K87 K97 T7
        have hS := And.intro T8.out.seven.2.2.2.2.2.1 (And.intro (by have h9 := (K98.out).seven.2.2.2.2.2.1; rwa [HY2.out] at h9) (And.intro T8.out.range7 K98.out.range7))
        refine wp_region_noPanic ?_
        refine wp_region_held_drew (S := fun w' => w'.cell? ⟨gt, 5, none⟩ = some (.bool t.two) ∧ w'.cell? ⟨g9, 5, none⟩ = some (.bool false) ∧ w'.rangeAt gt 0 (encPe t) ∧ w'.rangeAt g9 0 (encPe y)) (by kernel_rfl) hS (fun hHeld => ?_)
        change wpAnyH _ _ _ _ _ _ _ _ w7.drew
        generalize w7.drew = w8 at *
        clear hS
        refine wpAnyH_take (i := 0) (oi := { dst := Option.some 42, op := Go.Op.move (Go.Operand.tmp 10), type := 4, pos := "peers.go:37", after := #[], guard := Option.none }) (v := ?_) rfl (by kernel_rfl) (by kernel_rfl) (by kernel_rfl) (fun _ _ _ h => h) (Or.inl ⟨by rfl, ?_⟩) hHeld ?_
        rotate_left 1
        · intro ww hSw
          try dsimp only at hSw
          go_simp
          try with_reducible rfl
        try simp only [Act.put, List.setIfInBounds_toArray, List.set_cons_zero, List.set_cons_succ]
        refine wpAnyH_take (i := 1) (oi := { dst := Option.some 43, op := Go.Op.unOp Go.UnOp.not 4 (Go.Operand.tmp 42), type := 4, pos := "peers.go:37", after := #[{ on := 0, ground := Go.Ground.data }], guard := Option.none }) (v := ?_) rfl (by kernel_rfl) (by kernel_rfl) (by kernel_rfl) (fun _ _ _ h => h) (Or.inl ⟨by rfl, ?_⟩) hHeld ?_
        rotate_left 1
        · intro ww hSw
          try dsimp only at hSw
          go_simp
          try with_reducible rfl
        try simp only [Act.put, List.setIfInBounds_toArray, List.set_cons_zero, List.set_cons_succ]
        refine wpAnyH_take (i := 2) (oi := { dst := Option.some 44, op := Go.Op.fieldAddr 47 (Go.Operand.tmp 11) 5, type := 0, pos := "peers.go:37", after := #[], guard := Option.none }) (v := ?_) rfl (by kernel_rfl) (by kernel_rfl) (by kernel_rfl) (fun _ _ _ h => h) (Or.inl ⟨by rfl, ?_⟩) hHeld ?_
        rotate_left 1
        · intro ww hSw
          try dsimp only at hSw
          go_simp
          try with_reducible rfl
        try simp only [Act.put, List.setIfInBounds_toArray, List.set_cons_zero, List.set_cons_succ]
        refine wpAnyH_take (i := 3) (oi := { dst := Option.some 45, op := Go.Op.load 4 (Go.Operand.tmp 44), type := 4, pos := "peers.go:37", after := #[{ on := 2, ground := Go.Ground.data }], guard := Option.none }) (v := ?_) rfl (by kernel_rfl) (by kernel_rfl) (by kernel_rfl) (fun _ _ _ h => h) (Or.inl ⟨by rfl, ?_⟩) hHeld ?_
        rotate_left 1
        · intro ww hSw
          try dsimp only at hSw
          go_simp
          try with_reducible rfl
        try simp only [Act.put, List.setIfInBounds_toArray, List.set_cons_zero, List.set_cons_succ]
        refine wpAnyH_take (i := 4) (oi := { dst := Option.some 46, op := Go.Op.fieldAddr 47 (Go.Operand.tmp 9) 5, type := 0, pos := "peers.go:37", after := #[], guard := Option.none }) (v := ?_) rfl (by kernel_rfl) (by kernel_rfl) (by kernel_rfl) (fun _ _ _ h => h) (Or.inl ⟨by rfl, ?_⟩) hHeld ?_
        rotate_left 1
        · intro ww hSw
          try dsimp only at hSw
          go_simp
          try with_reducible rfl
        try simp only [Act.put, List.setIfInBounds_toArray, List.set_cons_zero, List.set_cons_succ]
        refine wpAnyH_take (i := 5) (oi := { dst := Option.some 47, op := Go.Op.load 4 (Go.Operand.tmp 46), type := 4, pos := "peers.go:37", after := #[{ on := 4, ground := Go.Ground.data }], guard := Option.none }) (v := ?_) rfl (by kernel_rfl) (by kernel_rfl) (by kernel_rfl) (fun _ _ _ h => h) (Or.inl ⟨by rfl, ?_⟩) hHeld ?_
        rotate_left 1
        · intro ww hSw
          try dsimp only at hSw
          go_simp
          try with_reducible rfl
        try simp only [Act.put, List.setIfInBounds_toArray, List.set_cons_zero, List.set_cons_succ]
        refine wpAnyH_take (i := 6) (oi := { dst := Option.some 48, op := Go.Op.move (Go.Operand.tmp 47), type := 4, pos := "peers.go:37", after := #[{ on := 5, ground := Go.Ground.data }], guard := Option.none }) (v := ?_) rfl (by kernel_rfl) (by kernel_rfl) (by kernel_rfl) (fun _ _ _ h => h) (Or.inl ⟨by rfl, ?_⟩) hHeld ?_
        rotate_left 1
        · intro ww hSw
          try dsimp only at hSw
          go_simp
          try with_reducible rfl
        try simp only [Act.put, List.setIfInBounds_toArray, List.set_cons_zero, List.set_cons_succ]
        refine wpAnyH_take (i := 7) (oi := { dst := Option.some 49, op := Go.Op.fieldAddr 47 (Go.Operand.tmp 11) 5, type := 0, pos := "peers.go:37", after := #[{ on := 6, ground := Go.Ground.guard }], guard := Option.some (6, Bool.true) }) (v := undef) rfl (by kernel_rfl) (by kernel_rfl) (by kernel_rfl) (fun _ _ _ h => h) (Or.inr ⟨by rfl, rfl⟩) hHeld ?_
        try simp only [Act.put, List.setIfInBounds_toArray, List.set_cons_zero, List.set_cons_succ]
        refine wpAnyH_take (i := 8) (oi := { dst := Option.some 50, op := Go.Op.load 4 (Go.Operand.tmp 49), type := 4, pos := "peers.go:37", after := #[{ on := 7, ground := Go.Ground.data }, { on := 6, ground := Go.Ground.guard }], guard := Option.some (6, Bool.true) }) (v := undef) rfl (by kernel_rfl) (by kernel_rfl) (by kernel_rfl) (fun _ _ _ h => h) (Or.inr ⟨by rfl, rfl⟩) hHeld ?_
        try simp only [Act.put, List.setIfInBounds_toArray, List.set_cons_zero, List.set_cons_succ]
        refine wpAnyH_take (i := 9) (oi := { dst := Option.some 51, op := Go.Op.unOp Go.UnOp.not 4 (Go.Operand.tmp 50), type := 4, pos := "peers.go:37", after := #[{ on := 8, ground := Go.Ground.data }, { on := 6, ground := Go.Ground.guard }], guard := Option.some (6, Bool.true) }) (v := undef) rfl (by kernel_rfl) (by kernel_rfl) (by kernel_rfl) (fun _ _ _ h => h) (Or.inr ⟨by rfl, rfl⟩) hHeld ?_
        try simp only [Act.put, List.setIfInBounds_toArray, List.set_cons_zero, List.set_cons_succ]
        refine wpAnyH_take (i := 10) (oi := { dst := Option.some 52, op := Go.Op.pick (Go.Operand.tmp 48) (Go.Operand.tmp 51) (Go.Operand.const (Go.Value.bool Bool.false)), type := 4, pos := "peers.go:37", after := #[{ on := 6, ground := Go.Ground.data }, { on := 9, ground := Go.Ground.data }], guard := Option.none }) (v := ?_) rfl (by kernel_rfl) (by kernel_rfl) (by kernel_rfl) (fun _ _ _ h => h) (Or.inl ⟨by rfl, ?_⟩) hHeld ?_
        rotate_left 1
        · intro ww hSw
          try dsimp only at hSw
          go_simp
          try with_reducible rfl
        try simp only [Act.put, List.setIfInBounds_toArray, List.set_cons_zero, List.set_cons_succ]
        refine wpAnyH_take (i := 11) (oi := { dst := Option.some 53, op := Go.Op.load 47 (Go.Operand.tmp 11), type := 47, pos := "peers.go:37", after := #[], guard := Option.none }) (v := (.agg #[.int .i64 t.id, .int .i64 t.prio, .int .i64 t.dr, .int .i64 t.bdr, .int .i64 t.st, .bool t.two, .int .i64 t.tick])) rfl (by kernel_rfl) (by kernel_rfl) (by kernel_rfl) (fun _ _ _ h => h) (yieldsIf_load_mid (by rfl) 47 (.tmp 11) rfl gt 0 rfl (encPe t) _ (fun _ hb => hb.2.2.1) Try.underlying47 rfl (by kernel_rfl)) hHeld ?_
        try simp only [Act.put, List.setIfInBounds_toArray, List.set_cons_zero, List.set_cons_succ]
        refine wpAnyH_take (i := 13) (oi := { dst := Option.some 55, op := Go.Op.load 47 (Go.Operand.tmp 9), type := 47, pos := "peers.go:37", after := #[], guard := Option.none }) (v := (.agg #[.int .i64 y.id, .int .i64 y.prio, .int .i64 y.dr, .int .i64 y.bdr, .int .i64 y.st, .bool y.two, .int .i64 y.tick])) rfl (by kernel_rfl) (by kernel_rfl) (by kernel_rfl) (fun _ _ _ h => h) (yieldsIf_load_mid (by rfl) 47 (.tmp 9) rfl g9 0 rfl (encPe y) _ (fun _ hb => hb.2.2.2) Try.underlying47 rfl (by kernel_rfl)) hHeld ?_
        try simp only [Act.put, List.setIfInBounds_toArray, List.set_cons_zero, List.set_cons_succ]
        refine wpAnyH_ready (rs := [12]) (by kernel_rfl) (by simp) ?_
        refine AllReadyH.cons (o := { dst := Option.some 54, op := Go.Op.call { callee := Go.Callee.value (Go.Operand.func 24), args := #[Go.Operand.tmp 53], argTypes := #[47] }, type := 60, pos := "peers.go:42", after := #[{ on := 11, ground := Go.Ground.data }, { on := 6, ground := Go.Ground.chain }], guard := Option.none }) rfl (fun K hK => ?_) AllReadyH.nil
        go_simp
        refine (stands_any t _).mono ?_
        rintro ea wa9 ⟨⟨s1, rfl, hs1⟩, hba⟩
        have Hs1 := Lib.hid hs1
        have K89 := Lib.hid (K88.out.below hba K88.out.lt)
        have K99 := Lib.hid (K98.out.below hba K98.out.lt)
        have T9 := Lib.hid (T8.out.below hba T8.out.lt)
        have HP9 := Lib.hid (HP8.out.below hba)
        have C9 := Lib.hid (C8.out.below hba)
        clear hba hs1 K88 K98 T8 HP8 C8
        refine hK.out _ _ (And.intro T9.out.seven.2.2.2.2.2.1 (And.intro (by have h9 := (K99.out).seven.2.2.2.2.2.1; rwa [HY2.out] at h9) (And.intro T9.out.range7 K99.out.range7))) (fun hHeld => ?_)
        clear hK K
        try simp only [Act.put, List.setIfInBounds_toArray, List.set_cons_zero, List.set_cons_succ]
        refine wpAnyH_ready (rs := [14]) (by kernel_rfl) (by simp) ?_
        refine AllReadyH.cons (o := { dst := Option.some 56, op := Go.Op.call { callee := Go.Callee.value (Go.Operand.func 24), args := #[Go.Operand.tmp 55], argTypes := #[47] }, type := 60, pos := "peers.go:42", after := #[{ on := 13, ground := Go.Ground.data }, { on := 12, ground := Go.Ground.chain }], guard := Option.none }) rfl (fun K hK => ?_) AllReadyH.nil
        go_simp
        refine (stands_any y _).mono ?_
        rintro ea wa10 ⟨⟨s2, rfl, hs2⟩, hba⟩
        have Hs2 := Lib.hid hs2
        have K810 := Lib.hid (K89.out.below hba K89.out.lt)
        have K910 := Lib.hid (K99.out.below hba K99.out.lt)
        have T10 := Lib.hid (T9.out.below hba T9.out.lt)
        have HP10 := Lib.hid (HP9.out.below hba)
        have C10 := Lib.hid (C9.out.below hba)
        clear hba hs2 K89 K99 T9 HP9 C9
        refine hK.out _ _ (And.intro T10.out.seven.2.2.2.2.2.1 (And.intro (by have h9 := (K910.out).seven.2.2.2.2.2.1; rwa [HY2.out] at h9) (And.intro T10.out.range7 K910.out.range7))) (fun hHeld => ?_)
        clear hK K
        try simp only [Act.put, List.setIfInBounds_toArray, List.set_cons_zero, List.set_cons_succ]
        have hEQ := fun W => equalS s1 s2 W
        refine wpAnyH_take (i := 15) (oi := { dst := Option.some 57, op := Go.Op.binOp Go.BinOp.neq 60 (Go.Operand.tmp 54) (Go.Operand.tmp 56) 60, type := 4, pos := "peers.go:37", after := #[{ on := 12, ground := Go.Ground.data }, { on := 14, ground := Go.Ground.data }], guard := Option.none }) (v := ?_) rfl (by kernel_rfl) (by kernel_rfl) (by kernel_rfl) (fun _ _ _ h => h) (Or.inl ⟨by rfl, ?_⟩) hHeld ?_
        rotate_left 1
        · intro ww hSw
          try dsimp only at hSw
          go_simp
          try with_reducible rfl
        try simp only [Act.put, List.setIfInBounds_toArray, List.set_cons_zero, List.set_cons_succ]
        clear hEQ
        generalize hbv : sameS s1 s2 = bv at *
        refine wpAnyH_take (i := 16) (oi := { dst := Option.some 58, op := Go.Op.build 36 #[(0, Go.Operand.const (Go.Value.bool Bool.true)), (1, Go.Operand.tmp 43), (2, Go.Operand.tmp 45), (3, Go.Operand.tmp 52), (4, Go.Operand.tmp 57)], type := 36, pos := "peers.go:37", after := #[{ on := 1, ground := Go.Ground.data }, { on := 3, ground := Go.Ground.data }, { on := 10, ground := Go.Ground.data }, { on := 15, ground := Go.Ground.data }], guard := Option.none }) (v := ?_) rfl (by kernel_rfl) (by kernel_rfl) (by kernel_rfl) (fun _ _ _ h => h) (Or.inl ⟨by rfl, ?_⟩) hHeld ?_
        rotate_left 1
        · intro ww hSw
          try dsimp only at hSw
          go_simp
          try with_reducible rfl
        try simp only [Act.put, List.setIfInBounds_toArray, List.set_cons_zero, List.set_cons_succ]
        refine wpAnyH_ready (rs := [17]) (by kernel_rfl) (by simp) ?_
        refine AllReadyH.cons (o := { dst := Option.none, op := Go.Op.store 36 (Go.Operand.tmp 8) (Go.Operand.tmp 58), type := 0, pos := "peers.go:37", after := #[{ on := 16, ground := Go.Ground.data }, { on := 14, ground := Go.Ground.chain }, { on := 0, ground := Go.Ground.phase }, { on := 1, ground := Go.Ground.phase }, { on := 2, ground := Go.Ground.phase }, { on := 3, ground := Go.Ground.phase }, { on := 4, ground := Go.Ground.phase }, { on := 5, ground := Go.Ground.phase }, { on := 6, ground := Go.Ground.phase }, { on := 7, ground := Go.Ground.phase }, { on := 8, ground := Go.Ground.phase }, { on := 9, ground := Go.Ground.phase }, { on := 10, ground := Go.Ground.phase }, { on := 11, ground := Go.Ground.phase }, { on := 12, ground := Go.Ground.phase }, { on := 13, ground := Go.Ground.phase }, { on := 14, ground := Go.Ground.phase }, { on := 15, ground := Go.Ground.phase }, { on := 16, ground := Go.Ground.phase }], guard := Option.none }) rfl (fun K hK => ?_) AllReadyH.nil
        refine wp_store_hd ⟨true, false, t.two, false, !bv⟩ (.tmp 8) (.tmp 58) rfl rfl rfl K810.out ?_
        intro w11 HK11 HC11
        refine hK.out _ _ (And.intro (T10.out.chg HC11.out NE.out.2.1).seven.2.2.2.2.2.1 (And.intro (by have h9 := (K910.out.chg HC11.out NE.out.2.2.1).seven.2.2.2.2.2.1; rwa [HY2.out] at h9) (And.intro (T10.out.chg HC11.out NE.out.2.1).range7 (K910.out.chg HC11.out NE.out.2.2.1).range7))) (fun hHeld => ?_)
        clear hK K
        try simp only [Act.put]
        refine wpAnyH_done (by kernel_rfl) ?_ _
        refine NoPanic.normal ?_
        clear hHeld
        obtain ⟨m0, m1, m2, m3, m4⟩ := HK11.out.five
        have C11 := Lib.hid (C10.out.trans HC11.out (fun q hq => .inr (by rw [hq, HG.out]; omega)))
        have HP11 := Lib.hid (HP10.out.chg HC11.out (fun q hq e => by
          rcases hq with hq | hq
          · have := HFL.out q hq; omega
          · have := NE.out; omega))
        go_wp2_with fail
        refine bodyPost_ret (v := .agg #[.bool true, .bool false, .bool t.two, .bool false, .bool (!bv)]) (by simp [results, Try.results8, go_sem, *]) rfl ?_
        rw [← HQ.out]
        refine ⟨⟨⟨true, false, t.two, false, !bv⟩, rfl, ?_⟩, ⟨fun q => F q ∨ q = gt, fun j => if j = (k : Int) then gt else bk j, ?_, fun q hq => ?_⟩, C11.out⟩
        · unfold hearH ledH
          rw [HT.out, if_pos rfl, HIS.out, HYW.out, HTO.out, ← bears_stands (k : Int) y t (by rw [← HYW.out]; exact wasP_id X k) HTI.out, ← Hs1.out, ← Hs2.out, hbv, HY2.out]
          rfl
        · unfold hearX
          rw [HT.out, if_pos rfl, HYW.out, HTO.out]
          exact HP11.out
        · rcases hq with hq | hq
          · exact .inl hq
          · exact .inr (by rw [hq, HG.out]; exact NE.out.2.2.2)
      · have HY2 := Lib.hid hy2
        clear hy2

        have hgt := K94.out.lt
        have hg8 := K84.out.lt
        clear hl3
        have RW4 := Lib.hid K94.out.range7
        have H64 := Lib.hid (show w4.rangeAt g 0 [.int .i64 h.every, .int .i64 h.dead, .int .i64 h.prio, .int .i64 h.dr, .int .i64 h.bdr, .slice A n c] by
          intro j v hv
          rw [Nat.zero_add, K64.out.cell, ← hv]
          simp)
        go_upto_region 7 with (first
          | (refine wpList_load_pe (y := y) (by rfl) _ rfl (by rfl) RW4.out ?_)
          | (refine wpList_load_row 32 [.int .i64 h.every, .int .i64 h.dead, .int .i64 h.prio, .int .i64 h.dr, .int .i64 h.bdr, .slice A n c] _ (by rfl) _ rfl (by rfl) H64.out Try.underlying32 rfl (by kernel_rfl) ?_)
          | (go_at_call 23; refine (told_any y h now A n c HH.out D4.out (R4.out.more (by omega)) HMX.out HO.out).mono ?_; rintro e5 w5 ⟨rfl, hb5⟩; rw [HTO.out]; have K85 := Lib.hid (K84.out.below hb5 K84.out.lt); have K95 := Lib.hid (K94.out.below hb5 K94.out.lt); have D5 := Lib.hid (D4.out.below hb5); have B5 := Lib.hid (B4.out.trans (hb5.mono (by omega))); have hs5 := hb5.size; clear hb5))
        have K86 := Lib.hid (K85.out.alloc (.cells #[.int .i64 t.id, .int .i64 t.prio, .int .i64 t.dr, .int .i64 t.bdr, .int .i64 t.st, .bool t.two, .int .i64 t.tick] 47))
        have K96 := Lib.hid (K95.out.alloc (.cells #[.int .i64 t.id, .int .i64 t.prio, .int .i64 t.dr, .int .i64 t.bdr, .int .i64 t.st, .bool t.two, .int .i64 t.tick] 47))
        have T6 := Lib.hid (Blk.new w5 47 #[.int .i64 t.id, .int .i64 t.prio, .int .i64 t.dr, .int .i64 t.bdr, .int .i64 t.st, .bool t.two, .int .i64 t.tick])
        have B6 := Lib.hid (B5.out.alloc (by omega) (.cells #[.int .i64 t.id, .int .i64 t.prio, .int .i64 t.dr, .int .i64 t.bdr, .int .i64 t.st, .bool t.two, .int .i64 t.tick] 47))
        have D6 := Lib.hid (D5.out.below ((Below.refl _ _).alloc (Nat.le_refl _) (.cells #[.int .i64 t.id, .int .i64 t.prio, .int .i64 t.dr, .int .i64 t.bdr, .int .i64 t.st, .bool t.two, .int .i64 t.tick] 47)))
        generalize w5.alloc (.cells #[.int .i64 t.id, .int .i64 t.prio, .int .i64 t.dr, .int .i64 t.bdr, .int .i64 t.st, .bool t.two, .int .i64 t.tick] 47) = w6 at *
        generalize hgt2 : w5.heap.size = gt at *
        have NG := Lib.hid (show ¬ F gt from fun hk => by have := HFL.out gt hk; omega)
        have NE := Lib.hid (show gt ≠ w2.heap.size ∧ gt ≠ g + 1 ∧ w2.heap.size ≠ g + 1 ∧ g ≤ gt by omega)
        clear hgt2 hs5 hgt hg8 K84 K94 K85 K95 D4 D5 B4 B5 R4 K64 H64 RW4
        obtain ⟨k, rfl⟩ : ∃ k : Nat, i = (k : Int) := ⟨i.toNat, by have := HR.out; omega⟩
        have hk : k < 16 := by have := HR.out; omega
        have hk' : (k : Int) < 16 := by omega
        have hk0 : (0 : Int) ≤ (k : Int) := by omega
        have hl6 := T6.out.lt
        have c2 := D6.out.at k hk
        have z2 := D6.out.obj.frozen (2 + k)
        obtain ⟨-, -, hpl⟩ := D6.out.cells
        generalize hpv : ptrP X bk (k : Int) = pv at *
        have HPV := Lib.hid hpv
        clear hpv
        have NP := Lib.hid (show p < g from HFL.out p D6.out.fp)
        go_upto_region 8 with fail
        have HP := Lib.hid (D6.out.put (y := t) T6.out NG.out (by rw [HTI.out]; exact HR.out) (by rw [HTT.out]; exact HNOW.out))
        rw [HTI.out, Int.toNat_natCast] at HP
        have C7 := Lib.hid ((Chg.of_below (F := F) (show Below w.heap.size w w6 by rw [HG.out]; exact B6.out)).setCell ⟨p, 2 + k, none⟩ D6.out.fp (.pointer (some ⟨gt, 0, none⟩)))
        have HC67 := Lib.hid (chg_put (F := fun k => k = p) w6 (a := ⟨p, 2 + k, none⟩) (.pointer (some ⟨gt, 0, none⟩)) rfl)
        have K87 := Lib.hid (K86.out.chg HC67.out (show g + 1 ≠ p by have := NP.out; omega))
        have K97 := Lib.hid (K96.out.chg HC67.out (show w2.heap.size ≠ p by have := NP.out; omega))
        have T7 := Lib.hid (T6.out.chg HC67.out (show gt ≠ p by have := NP.out; have := NE.out.2.2.2; omega))
        clear K86 K96 T6 B6 D6 c2 z2 HPV HC67 hl6 hpl
        generalize w6.setCell ⟨p, 2 + k, none⟩ (.pointer (some ⟨gt, 0, none⟩)) = w7 at *
        generalize hg9 : w2.heap.size = g9 at *
        have HG9 := Lib.hid hg9
        clear hg9
        have K88 := Lib.hid K87.out.drew
        have K98 := Lib.hid K97.out.drew
        have T8 := Lib.hid T7.out.drew
        have HP8 := Lib.hid HP.out.drew
        have C8 := Lib.hid (show Chg F w w7.drew from C7.out.below ⟨rfl, rfl, rfl, Nat.le_refl _, fun _ _ => rfl⟩)
        clear HP C7 K87 K97 T7
        have hS := And.intro T8.out.seven.2.2.2.2.2.1 (And.intro (by have h9 := (K98.out).seven.2.2.2.2.2.1; rwa [HY2.out] at h9) (And.intro T8.out.range7 K98.out.range7))
        refine wp_region_noPanic ?_
        refine wp_region_held_drew (S := fun w' => w'.cell? ⟨gt, 5, none⟩ = some (.bool t.two) ∧ w'.cell? ⟨g9, 5, none⟩ = some (.bool true) ∧ w'.rangeAt gt 0 (encPe t) ∧ w'.rangeAt g9 0 (encPe y)) (by kernel_rfl) hS (fun hHeld => ?_)
        change wpAnyH _ _ _ _ _ _ _ _ w7.drew
        generalize w7.drew = w8 at *
        clear hS
        refine wpAnyH_take (i := 0) (oi := { dst := Option.some 42, op := Go.Op.move (Go.Operand.tmp 10), type := 4, pos := "peers.go:37", after := #[], guard := Option.none }) (v := ?_) rfl (by kernel_rfl) (by kernel_rfl) (by kernel_rfl) (fun _ _ _ h => h) (Or.inl ⟨by rfl, ?_⟩) hHeld ?_
        rotate_left 1
        · intro ww hSw
          try dsimp only at hSw
          go_simp
          try with_reducible rfl
        try simp only [Act.put, List.setIfInBounds_toArray, List.set_cons_zero, List.set_cons_succ]
        refine wpAnyH_take (i := 1) (oi := { dst := Option.some 43, op := Go.Op.unOp Go.UnOp.not 4 (Go.Operand.tmp 42), type := 4, pos := "peers.go:37", after := #[{ on := 0, ground := Go.Ground.data }], guard := Option.none }) (v := ?_) rfl (by kernel_rfl) (by kernel_rfl) (by kernel_rfl) (fun _ _ _ h => h) (Or.inl ⟨by rfl, ?_⟩) hHeld ?_
        rotate_left 1
        · intro ww hSw
          try dsimp only at hSw
          go_simp
          try with_reducible rfl
        try simp only [Act.put, List.setIfInBounds_toArray, List.set_cons_zero, List.set_cons_succ]
        refine wpAnyH_take (i := 2) (oi := { dst := Option.some 44, op := Go.Op.fieldAddr 47 (Go.Operand.tmp 11) 5, type := 0, pos := "peers.go:37", after := #[], guard := Option.none }) (v := ?_) rfl (by kernel_rfl) (by kernel_rfl) (by kernel_rfl) (fun _ _ _ h => h) (Or.inl ⟨by rfl, ?_⟩) hHeld ?_
        rotate_left 1
        · intro ww hSw
          try dsimp only at hSw
          go_simp
          try with_reducible rfl
        try simp only [Act.put, List.setIfInBounds_toArray, List.set_cons_zero, List.set_cons_succ]
        refine wpAnyH_take (i := 3) (oi := { dst := Option.some 45, op := Go.Op.load 4 (Go.Operand.tmp 44), type := 4, pos := "peers.go:37", after := #[{ on := 2, ground := Go.Ground.data }], guard := Option.none }) (v := ?_) rfl (by kernel_rfl) (by kernel_rfl) (by kernel_rfl) (fun _ _ _ h => h) (Or.inl ⟨by rfl, ?_⟩) hHeld ?_
        rotate_left 1
        · intro ww hSw
          try dsimp only at hSw
          go_simp
          try with_reducible rfl
        try simp only [Act.put, List.setIfInBounds_toArray, List.set_cons_zero, List.set_cons_succ]
        refine wpAnyH_take (i := 4) (oi := { dst := Option.some 46, op := Go.Op.fieldAddr 47 (Go.Operand.tmp 9) 5, type := 0, pos := "peers.go:37", after := #[], guard := Option.none }) (v := ?_) rfl (by kernel_rfl) (by kernel_rfl) (by kernel_rfl) (fun _ _ _ h => h) (Or.inl ⟨by rfl, ?_⟩) hHeld ?_
        rotate_left 1
        · intro ww hSw
          try dsimp only at hSw
          go_simp
          try with_reducible rfl
        try simp only [Act.put, List.setIfInBounds_toArray, List.set_cons_zero, List.set_cons_succ]
        refine wpAnyH_take (i := 5) (oi := { dst := Option.some 47, op := Go.Op.load 4 (Go.Operand.tmp 46), type := 4, pos := "peers.go:37", after := #[{ on := 4, ground := Go.Ground.data }], guard := Option.none }) (v := ?_) rfl (by kernel_rfl) (by kernel_rfl) (by kernel_rfl) (fun _ _ _ h => h) (Or.inl ⟨by rfl, ?_⟩) hHeld ?_
        rotate_left 1
        · intro ww hSw
          try dsimp only at hSw
          go_simp
          try with_reducible rfl
        try simp only [Act.put, List.setIfInBounds_toArray, List.set_cons_zero, List.set_cons_succ]
        refine wpAnyH_take (i := 6) (oi := { dst := Option.some 48, op := Go.Op.move (Go.Operand.tmp 47), type := 4, pos := "peers.go:37", after := #[{ on := 5, ground := Go.Ground.data }], guard := Option.none }) (v := ?_) rfl (by kernel_rfl) (by kernel_rfl) (by kernel_rfl) (fun _ _ _ h => h) (Or.inl ⟨by rfl, ?_⟩) hHeld ?_
        rotate_left 1
        · intro ww hSw
          try dsimp only at hSw
          go_simp
          try with_reducible rfl
        try simp only [Act.put, List.setIfInBounds_toArray, List.set_cons_zero, List.set_cons_succ]
        refine wpAnyH_take (i := 7) (oi := { dst := Option.some 49, op := Go.Op.fieldAddr 47 (Go.Operand.tmp 11) 5, type := 0, pos := "peers.go:37", after := #[{ on := 6, ground := Go.Ground.guard }], guard := Option.some (6, Bool.true) }) (v := ?_) rfl (by kernel_rfl) (by kernel_rfl) (by kernel_rfl) (fun _ _ _ h => h) (Or.inl ⟨by rfl, ?_⟩) hHeld ?_
        rotate_left 1
        · intro ww hSw
          try dsimp only at hSw
          go_simp
          try with_reducible rfl
        try simp only [Act.put, List.setIfInBounds_toArray, List.set_cons_zero, List.set_cons_succ]
        refine wpAnyH_take (i := 8) (oi := { dst := Option.some 50, op := Go.Op.load 4 (Go.Operand.tmp 49), type := 4, pos := "peers.go:37", after := #[{ on := 7, ground := Go.Ground.data }, { on := 6, ground := Go.Ground.guard }], guard := Option.some (6, Bool.true) }) (v := ?_) rfl (by kernel_rfl) (by kernel_rfl) (by kernel_rfl) (fun _ _ _ h => h) (Or.inl ⟨by rfl, ?_⟩) hHeld ?_
        rotate_left 1
        · intro ww hSw
          try dsimp only at hSw
          go_simp
          try with_reducible rfl
        try simp only [Act.put, List.setIfInBounds_toArray, List.set_cons_zero, List.set_cons_succ]
        refine wpAnyH_take (i := 9) (oi := { dst := Option.some 51, op := Go.Op.unOp Go.UnOp.not 4 (Go.Operand.tmp 50), type := 4, pos := "peers.go:37", after := #[{ on := 8, ground := Go.Ground.data }, { on := 6, ground := Go.Ground.guard }], guard := Option.some (6, Bool.true) }) (v := ?_) rfl (by kernel_rfl) (by kernel_rfl) (by kernel_rfl) (fun _ _ _ h => h) (Or.inl ⟨by rfl, ?_⟩) hHeld ?_
        rotate_left 1
        · intro ww hSw
          try dsimp only at hSw
          go_simp
          try with_reducible rfl
        try simp only [Act.put, List.setIfInBounds_toArray, List.set_cons_zero, List.set_cons_succ]
        refine wpAnyH_take (i := 10) (oi := { dst := Option.some 52, op := Go.Op.pick (Go.Operand.tmp 48) (Go.Operand.tmp 51) (Go.Operand.const (Go.Value.bool Bool.false)), type := 4, pos := "peers.go:37", after := #[{ on := 6, ground := Go.Ground.data }, { on := 9, ground := Go.Ground.data }], guard := Option.none }) (v := ?_) rfl (by kernel_rfl) (by kernel_rfl) (by kernel_rfl) (fun _ _ _ h => h) (Or.inl ⟨by rfl, ?_⟩) hHeld ?_
        rotate_left 1
        · intro ww hSw
          try dsimp only at hSw
          go_simp
          try with_reducible rfl
        try simp only [Act.put, List.setIfInBounds_toArray, List.set_cons_zero, List.set_cons_succ]
        refine wpAnyH_take (i := 11) (oi := { dst := Option.some 53, op := Go.Op.load 47 (Go.Operand.tmp 11), type := 47, pos := "peers.go:37", after := #[], guard := Option.none }) (v := (.agg #[.int .i64 t.id, .int .i64 t.prio, .int .i64 t.dr, .int .i64 t.bdr, .int .i64 t.st, .bool t.two, .int .i64 t.tick])) rfl (by kernel_rfl) (by kernel_rfl) (by kernel_rfl) (fun _ _ _ h => h) (yieldsIf_load_mid (by rfl) 47 (.tmp 11) rfl gt 0 rfl (encPe t) _ (fun _ hb => hb.2.2.1) Try.underlying47 rfl (by kernel_rfl)) hHeld ?_
        try simp only [Act.put, List.setIfInBounds_toArray, List.set_cons_zero, List.set_cons_succ]
        refine wpAnyH_take (i := 13) (oi := { dst := Option.some 55, op := Go.Op.load 47 (Go.Operand.tmp 9), type := 47, pos := "peers.go:37", after := #[], guard := Option.none }) (v := (.agg #[.int .i64 y.id, .int .i64 y.prio, .int .i64 y.dr, .int .i64 y.bdr, .int .i64 y.st, .bool y.two, .int .i64 y.tick])) rfl (by kernel_rfl) (by kernel_rfl) (by kernel_rfl) (fun _ _ _ h => h) (yieldsIf_load_mid (by rfl) 47 (.tmp 9) rfl g9 0 rfl (encPe y) _ (fun _ hb => hb.2.2.2) Try.underlying47 rfl (by kernel_rfl)) hHeld ?_
        try simp only [Act.put, List.setIfInBounds_toArray, List.set_cons_zero, List.set_cons_succ]
        refine wpAnyH_ready (rs := [12]) (by kernel_rfl) (by simp) ?_
        refine AllReadyH.cons (o := { dst := Option.some 54, op := Go.Op.call { callee := Go.Callee.value (Go.Operand.func 24), args := #[Go.Operand.tmp 53], argTypes := #[47] }, type := 60, pos := "peers.go:42", after := #[{ on := 11, ground := Go.Ground.data }, { on := 6, ground := Go.Ground.chain }], guard := Option.none }) rfl (fun K hK => ?_) AllReadyH.nil
        go_simp
        refine (stands_any t _).mono ?_
        rintro ea wa9 ⟨⟨s1, rfl, hs1⟩, hba⟩
        have Hs1 := Lib.hid hs1
        have K89 := Lib.hid (K88.out.below hba K88.out.lt)
        have K99 := Lib.hid (K98.out.below hba K98.out.lt)
        have T9 := Lib.hid (T8.out.below hba T8.out.lt)
        have HP9 := Lib.hid (HP8.out.below hba)
        have C9 := Lib.hid (C8.out.below hba)
        clear hba hs1 K88 K98 T8 HP8 C8
        refine hK.out _ _ (And.intro T9.out.seven.2.2.2.2.2.1 (And.intro (by have h9 := (K99.out).seven.2.2.2.2.2.1; rwa [HY2.out] at h9) (And.intro T9.out.range7 K99.out.range7))) (fun hHeld => ?_)
        clear hK K
        try simp only [Act.put, List.setIfInBounds_toArray, List.set_cons_zero, List.set_cons_succ]
        refine wpAnyH_ready (rs := [14]) (by kernel_rfl) (by simp) ?_
        refine AllReadyH.cons (o := { dst := Option.some 56, op := Go.Op.call { callee := Go.Callee.value (Go.Operand.func 24), args := #[Go.Operand.tmp 55], argTypes := #[47] }, type := 60, pos := "peers.go:42", after := #[{ on := 13, ground := Go.Ground.data }, { on := 12, ground := Go.Ground.chain }], guard := Option.none }) rfl (fun K hK => ?_) AllReadyH.nil
        go_simp
        refine (stands_any y _).mono ?_
        rintro ea wa10 ⟨⟨s2, rfl, hs2⟩, hba⟩
        have Hs2 := Lib.hid hs2
        have K810 := Lib.hid (K89.out.below hba K89.out.lt)
        have K910 := Lib.hid (K99.out.below hba K99.out.lt)
        have T10 := Lib.hid (T9.out.below hba T9.out.lt)
        have HP10 := Lib.hid (HP9.out.below hba)
        have C10 := Lib.hid (C9.out.below hba)
        clear hba hs2 K89 K99 T9 HP9 C9
        refine hK.out _ _ (And.intro T10.out.seven.2.2.2.2.2.1 (And.intro (by have h9 := (K910.out).seven.2.2.2.2.2.1; rwa [HY2.out] at h9) (And.intro T10.out.range7 K910.out.range7))) (fun hHeld => ?_)
        clear hK K
        try simp only [Act.put, List.setIfInBounds_toArray, List.set_cons_zero, List.set_cons_succ]
        have hEQ := fun W => equalS s1 s2 W
        refine wpAnyH_take (i := 15) (oi := { dst := Option.some 57, op := Go.Op.binOp Go.BinOp.neq 60 (Go.Operand.tmp 54) (Go.Operand.tmp 56) 60, type := 4, pos := "peers.go:37", after := #[{ on := 12, ground := Go.Ground.data }, { on := 14, ground := Go.Ground.data }], guard := Option.none }) (v := ?_) rfl (by kernel_rfl) (by kernel_rfl) (by kernel_rfl) (fun _ _ _ h => h) (Or.inl ⟨by rfl, ?_⟩) hHeld ?_
        rotate_left 1
        · intro ww hSw
          try dsimp only at hSw
          go_simp
          try with_reducible rfl
        try simp only [Act.put, List.setIfInBounds_toArray, List.set_cons_zero, List.set_cons_succ]
        clear hEQ
        generalize hbv : sameS s1 s2 = bv at *
        refine wpAnyH_take (i := 16) (oi := { dst := Option.some 58, op := Go.Op.build 36 #[(0, Go.Operand.const (Go.Value.bool Bool.true)), (1, Go.Operand.tmp 43), (2, Go.Operand.tmp 45), (3, Go.Operand.tmp 52), (4, Go.Operand.tmp 57)], type := 36, pos := "peers.go:37", after := #[{ on := 1, ground := Go.Ground.data }, { on := 3, ground := Go.Ground.data }, { on := 10, ground := Go.Ground.data }, { on := 15, ground := Go.Ground.data }], guard := Option.none }) (v := ?_) rfl (by kernel_rfl) (by kernel_rfl) (by kernel_rfl) (fun _ _ _ h => h) (Or.inl ⟨by rfl, ?_⟩) hHeld ?_
        rotate_left 1
        · intro ww hSw
          try dsimp only at hSw
          go_simp
          try with_reducible rfl
        try simp only [Act.put, List.setIfInBounds_toArray, List.set_cons_zero, List.set_cons_succ]
        refine wpAnyH_ready (rs := [17]) (by kernel_rfl) (by simp) ?_
        refine AllReadyH.cons (o := { dst := Option.none, op := Go.Op.store 36 (Go.Operand.tmp 8) (Go.Operand.tmp 58), type := 0, pos := "peers.go:37", after := #[{ on := 16, ground := Go.Ground.data }, { on := 14, ground := Go.Ground.chain }, { on := 0, ground := Go.Ground.phase }, { on := 1, ground := Go.Ground.phase }, { on := 2, ground := Go.Ground.phase }, { on := 3, ground := Go.Ground.phase }, { on := 4, ground := Go.Ground.phase }, { on := 5, ground := Go.Ground.phase }, { on := 6, ground := Go.Ground.phase }, { on := 7, ground := Go.Ground.phase }, { on := 8, ground := Go.Ground.phase }, { on := 9, ground := Go.Ground.phase }, { on := 10, ground := Go.Ground.phase }, { on := 11, ground := Go.Ground.phase }, { on := 12, ground := Go.Ground.phase }, { on := 13, ground := Go.Ground.phase }, { on := 14, ground := Go.Ground.phase }, { on := 15, ground := Go.Ground.phase }, { on := 16, ground := Go.Ground.phase }], guard := Option.none }) rfl (fun K hK => ?_) AllReadyH.nil
        refine wp_store_hd ⟨true, false, t.two, !t.two, !bv⟩ (.tmp 8) (.tmp 58) rfl rfl rfl K810.out ?_
        intro w11 HK11 HC11
        refine hK.out _ _ (And.intro (T10.out.chg HC11.out NE.out.2.1).seven.2.2.2.2.2.1 (And.intro (by have h9 := (K910.out.chg HC11.out NE.out.2.2.1).seven.2.2.2.2.2.1; rwa [HY2.out] at h9) (And.intro (T10.out.chg HC11.out NE.out.2.1).range7 (K910.out.chg HC11.out NE.out.2.2.1).range7))) (fun hHeld => ?_)
        clear hK K
        try simp only [Act.put]
        refine wpAnyH_done (by kernel_rfl) ?_ _
        refine NoPanic.normal ?_
        clear hHeld
        obtain ⟨m0, m1, m2, m3, m4⟩ := HK11.out.five
        have C11 := Lib.hid (C10.out.trans HC11.out (fun q hq => .inr (by rw [hq, HG.out]; omega)))
        have HP11 := Lib.hid (HP10.out.chg HC11.out (fun q hq e => by
          rcases hq with hq | hq
          · have := HFL.out q hq; omega
          · have := NE.out; omega))
        go_wp2_with fail
        refine bodyPost_ret (v := .agg #[.bool true, .bool false, .bool t.two, .bool (!t.two), .bool (!bv)]) (by simp [results, Try.results8, go_sem, *]) rfl ?_
        rw [← HQ.out]
        refine ⟨⟨⟨true, false, t.two, !t.two, !bv⟩, rfl, ?_⟩, ⟨fun q => F q ∨ q = gt, fun j => if j = (k : Int) then gt else bk j, ?_, fun q hq => ?_⟩, C11.out⟩
        · unfold hearH ledH
          rw [HT.out, if_pos rfl, HIS.out, HYW.out, HTO.out, ← bears_stands (k : Int) y t (by rw [← HYW.out]; exact wasP_id X k) HTI.out, ← Hs1.out, ← Hs2.out, hbv, HY2.out]
          rfl
        · unfold hearX
          rw [HT.out, if_pos rfl, HYW.out, HTO.out]
          exact HP11.out
        · rcases hq with hq | hq
          · exact .inl hq
          · exact .inr (by rw [hq, HG.out]; exact NE.out.2.2.2)
end Go.Proofs.Ytfapphndfgoknaa
