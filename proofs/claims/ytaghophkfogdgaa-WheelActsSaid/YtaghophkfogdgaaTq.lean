/- The program's Due, of any sort that does what a sort must. Conditions: what the words say; at most 1000 entries. -/
import Derived.Test.YtaghophkfogdgaaTp
namespace Go.Proofs.Ytaghophkfogdgaa
open Go.RowKit
open Go.Maps (Keyed)

set_option maxRecDepth 8000 in
set_option maxHeartbeats 8000000 in
theorem due_wh {k : Nat} (hS : SortUpto k) {w : World} {p b : Nat} {R : List En} (z : Int) (h : PWh w p b R) (hR : R.length ≤ k) (hk : k ≤ 1000) :
    Calls Try.prog 13 #[.pointer (some ⟨p, 0, none⟩), .int .i64 z] w
      fun e w' => (∃ (A : Option Addr) (n c : Nat) (D : List Tm), e = .returned (.slice A n c) ∧ w'.ownsRow w.heap.size 33 6 (.slice A n c) n (cellsBy encTm D) ∧ D.Perm ((R.filter fun e => decide (e.tick ≤ z)).map (·.t)) ∧ D.Pairwise (fun a b => leT R a b = true)) ∧ PWh w' p b (laterR R z) ∧ Chg (fun q => q = b) w w' := by
  generalize hQ : (fun (e : Ending) (w' : World) => (∃ (A : Option Addr) (n c : Nat) (D : List Tm), e = .returned (.slice A n c) ∧ w'.ownsRow w.heap.size 33 6 (.slice A n c) n (cellsBy encTm D) ∧ D.Perm ((R.filter fun e => decide (e.tick ≤ z)).map (·.t)) ∧ D.Pairwise (fun a b => leT R a b = true)) ∧ PWh w' p b (laterR R z) ∧ Chg (fun q => q = b) w w') = Q
  have HQ := Lib.hid hQ
  clear hQ
  have c0 := h.1.one
  have hpl := h.1.lt
  have HB := Lib.hid h.1
  have HNE := Lib.hid (h.2.ne_blk h.1)
  have HRL := Lib.hid hR
  have HM := Lib.hid h.2
  have HND := Lib.hid h.2.nodup
  have HBL := Lib.hid h.2.lt
  have HS := Lib.hid hS
  obtain ⟨hw, l, ho, hpm⟩ := h.2
  have HW := Lib.hid hw
  have HPM := Lib.hid hpm
  have HO := Lib.hid ho
  clear h hw ho hpm hR hS
  go_enter Try.func13, Try.ntmps13
  go_wp2_with (first
    | (at_range; refine wpList_range_own _ rfl _ 54 rfl 33 3 keyed8 Try.underlying54 asIs b R.length _ rfl HO.out ?_; intro w0 hrg0 hg0 hs0)
    | go_in)
  go_frame
  have HG0 := Lib.hid hg0
  have HS0 := Lib.hid hs0
  clear hg0 hs0 c0
  go_loopw [5] (fun s5 wr => ∃ (A : Option Addr) (n c : Nat) (ks : List Tm) (left : Lit → Bool) (cnt : Nat), s5 = .slice A n c ∧ Hid (wr.ranges Try.prog 33 asIs b w.heap.size R.length (.map l) left cnt) ∧ Hid (ks.Perm ((gotR R z left).map (·.t))) ∧ Hid (wr.ownsRow (w.heap.size + 1) 33 6 (.slice A n c) n (cellsBy encTm ks)) ∧ Hid (Below w.heap.size w wr) ∧ Hid (w.heap.size + 1 ≤ wr.heap.size))
    (fun _ wr => wr.rangeLeft b w.heap.size)
  case atStart =>
    refine ⟨none, 0, 0, [], _, _, rfl, Lib.hid hrg0, Lib.hid ?_, Lib.hid (by exact World.ownsRow_nil _ _ _ _), Lib.hid ⟨HG0.out.os, HG0.out.tape, HG0.out.output, HG0.out.size, fun q hq => HG0.out.block q hq (by simp)⟩, Lib.hid (by have := HS0.out; omega)⟩
    rw [gotR_start HW.out HND.out HPM.out]
    exact List.Perm.refl _
  case round =>
    obtain ⟨A, n, c, ks, left, cnt, rfl, HRG, HPR, HOW, HBW, HZ⟩ := hrel
    have hnk := own_len encTm_len (by omega) HOW.out
    have HKW := Lib.hid (show ∀ t ∈ ks, wfTm t from fun t ht => by
      obtain ⟨e, he, rfl⟩ := List.mem_map.1 (HPR.out.mem_iff.1 ht)
      exact HW.out e (List.mem_filter.1 he).1)
    have HKL := Lib.hid (show n ≤ k by
      have h1 := HPR.out.length_eq
      rw [List.length_map] at h1
      have h2 : (gotR R z left).length ≤ R.length := List.length_filter_le _ _
      have h3 := HRL.out
      omega)
    clear hnk
    go_wp2_with (first
      | (at_next; refine wpList_next_ranges _ rfl _ rfl 33 keyed8 asIs (fun t : Tm => .agg #[.int .i64 t.kind, .int .i64 t.lan, .int .i64 t.id, .int .i64 t.kk, .int .i64 t.ki, .int .i64 t.ka]) (fun v : Value => v) (fun key kl hk => by obtain ⟨t, _, e, _⟩ := keyOf_tm_inv hk; exact ⟨t, e⟩) (fun v y _ => ⟨v, rfl⟩) b w.heap.size R.length _ _ _ rfl HRG.out ?_ ?_)
      | go_in)
    · intro _ hl0
      have HPE := Lib.hid (show ks.Perm ((R.filter fun e => decide (e.tick ≤ z)).map (·.t)) by
        have := HPR.out
        rwa [gotR_end hl0] at this)
      clear hl0
      have HPW := Lib.hid (show PWh wr p b R from ⟨HB.out.below HBW.out hpl, HM.out.below HBW.out HBL.out⟩)
      go_wp2_with fail
      refine (HS.out wr p b R _ n c A ks HPW.out HOW.out HKW.out HKL.out).mono ?_
      rintro e ws ⟨rfl, ⟨D, hos, hperm, hsort⟩, hgs⟩
      have HOS := Lib.hid hos
      have HDP := Lib.hid (hperm.trans HPE.out)
      have HDS := Lib.hid hsort
      have HDW := Lib.hid (show ∀ t ∈ D, wfTm t from fun t ht => HKW.out t (hperm.mem_iff.1 ht))
      have HBS := Lib.hid (HBW.out.grown hgs HBW.out.size (fun j hj => by have := (HOW.out.lt j hj).1; omega))
      have HDL := Lib.hid (own_len encTm_len (by omega) hos)
      have HP2 := Lib.hid (show PWh ws p b R from ⟨HB.out.below HBS.out hpl, HM.out.below HBS.out HBL.out⟩)
      have HNS := Lib.hid (own_ne_map HP2.out.2 hos)
      have HZS := Lib.hid (Nat.le_trans HZ.out hgs.size)
      clear hos hperm hsort hgs HPE HPW HRG HPR HOW HBW HKW
      go_wp2_with fail
      go_loopw [35] (fun s35 wl => ∃ j : Nat, j ≤ n ∧ s35 = .int .i64 j ∧ Hid (PWh wl p b (canAll R (D.take j))) ∧ Hid (Chg (fun q => q = b) ws wl)) (fun i _ => n - (intOf i).toNat)
      case atStart => exact ⟨0, Nat.zero_le _, rfl, HP2, Lib.hid (Chg.refl _ _)⟩
      case round =>
        obtain ⟨j, hj, rfl, HP, HC⟩ := hrel
        by_cases hlt : j < n
        · have hlt' : (j : Int) < n := by omega
          obtain ⟨x, hx⟩ : ∃ x, D[j]? = some x := ⟨D[j]'(by have := HDL.out; omega), List.getElem?_eq_getElem (by have := HDL.out; omega)⟩
          have HX := Lib.hid hx
          have HWX := Lib.hid (HDW.out x (List.mem_of_getElem? hx))
          obtain ⟨g, rfl, -, hgl, hnc, hcm, y0, y1, y2, y3, y4, y5⟩ := own_tm (own_chg HOS.out HC.out (fun q hq e => HNS.out (by rw [hq, e]))) hx
          unfold maxLen at hcm
          clear hx
          go_wp2_with fail
          have J2 := Lib.hid (Blk.new wr 33 #[.int .i64 x.kind, .int .i64 x.lan, .int .i64 x.id, .int .i64 x.kk, .int .i64 x.ki, .int .i64 x.ka])
          have BW2 := Lib.hid ((Below.refl wr.heap.size wr).alloc (Nat.le_refl _) (.cells #[.int .i64 x.kind, .int .i64 x.lan, .int .i64 x.id, .int .i64 x.kk, .int .i64 x.ki, .int .i64 x.ka] 33))
          clear y0 y1 y2 y3 y4 y5
          generalize wr.alloc (.cells #[.int .i64 x.kind, .int .i64 x.lan, .int .i64 x.id, .int .i64 x.kk, .int .i64 x.ki, .int .i64 x.ka] 33) = w2 at *
          have P2 := Lib.hid (HP.out.below BW2.out)
          have hpl2 := P2.out.1.lt
          have hgl2 := J2.out.lt
          obtain ⟨k0, k1, k2, k3, k4, k5⟩ := J2.out.six
          have c0 := P2.out.1.one
          go_still_tail 5, (by kernel_rfl)
          change wpList _ _ _ _ _ w2.drew
          go_wp2_with (at_delete; refine wpList_delete8 (t := x) rfl _ _ rfl rfl rfl P2.out.2.drew HWX.out ?_; intro w3 hm3 hturn; have HC3 := Lib.hid (chg_of_turned hturn); have HM3 := Lib.hid hm3; clear hm3 hturn k0 k1 k2 k3 k4 k5 c0)
          go_roundw
          case rel =>
            have hc2 : Chg (fun q => q = b) ws w2.drew := HC.out.below ⟨BW2.out.os, BW2.out.tape, BW2.out.output, BW2.out.size, BW2.out.block⟩
            refine ⟨j + 1, by omega, by go_num, Lib.hid ⟨?_, ?_⟩, Lib.hid (hc2.trans HC3.out (fun q hq => .inl hq))⟩
            · exact Blk.chg (w := w2.drew) P2.out.1.drew HC3.out HNE.out
            · rw [canAll_next HX.out]
              exact HM3.out
          case measure => simp [intOf]; omega
        · have hjn : j = n := by omega
          have HT := Lib.hid (show D.take j = D by rw [hjn, ← HDL.out, List.take_length])
          clear hjn
          rw [HT.out, canAll_due HND.out HDP.out] at HP
          go_wp2
          show Q (.returned (.slice A n c)) wr
          rw [← HQ.out]
          exact ⟨⟨A, n, c, D, rfl, own_low (own_chg HOS.out HC.out (fun q hq e => HNS.out (by rw [hq, e]))) (Nat.le_succ _), HDP.out, HDS.out⟩, HP.out, (Chg.of_below (F := fun q => q = b) HBS.out).trans HC.out (fun q hq => .inl hq)⟩
    · intro x cv kl yd yp w1 cnt1 hkey hlk hv hat hrg1 hlt hg1 hs1 hen
      obtain ⟨x', wx, ex, rfl⟩ := keyOf_tm_inv hkey
      obtain rfl : x = x' := by
        injection ex with ex
        exact encTm_inj (by unfold encTm; simpa [encTm] using ex)
      obtain ⟨r, hr, rfl, rfl⟩ := at_mem HW.out HND.out HPM.out wx hv hat
      have HR := Lib.hid hr
      have HGS := Lib.hid (gotR_step (z := z) HW.out HND.out hr hlk)
      have HR1 := Lib.hid hrg1
      have HLT := Lib.hid hlt
      have HO1 := Lib.hid (HOW.out.kept hg1 (.inr (own_not HOW.out (.inl (Nat.lt_succ_self _)))))
      have HB1 := Lib.hid (HBW.out.grown hg1 HBW.out.size (fun j hj => by cases hj; exact Nat.le_refl _))
      have HZ1 := Lib.hid (show w.heap.size + 1 ≤ w1.heap.size by rw [hs1]; exact HZ.out)
      clear hkey hlk hv hat hrg1 hlt hg1 hs1 ex wx hr
      by_cases hz : r.tick ≤ z
      · have HZ2 := Lib.hid hz
        go_wp2_with (first
          | (at_builtin; refine wpList_append_any rfl (.tmp 25) (.tmp 27) 41 33 (.agg #[.int .i64 0, .int .i64 0, .int .i64 0, .int .i64 0, .int .i64 0, .int .i64 0]) 6 48 Try.underlying41 infoTm8 rfl (by decide) (by decide) rfl (w.heap.size + 1) (.slice A n c) n (cellsBy encTm ks) (by rfl) ((HO1.out.alloc _).alloc _) (some ⟨w1.heap.size + 1, 0, none⟩) 1 1 (encTm r.t) (by rfl) (by rfl) (fun h => by cases h) (by have hn := news_new (w1.alloc (.cells (encTm r.t).toArray 33)) 33 (encTm r.t); rwa [World.size_alloc] at hn) (encTm_ones r.t) (by have := HKL.out; omega) (by have := HZ1.out; simp; omega) ?_; intro v2 w2 ho2 hg2)
          | go_in)
        obtain ⟨A2, c2, rfl⟩ := own_slice ho2.out
        have hg3 := hg2.out
        have ne1 : some b ≠ (Value.slice A n c).ownBlock := Ne.symm (own_not HO1.out (.inl (by have := HBL.out; omega)))
        have ne2 : some w.heap.size ≠ (Value.slice A n c).ownBlock := Ne.symm (own_not HO1.out (.inl (Nat.lt_succ_self _)))
        have HR2 := Lib.hid (((HR1.out.alloc (.cells (encTm r.t).toArray 33)).alloc (.cells (encTm r.t).toArray 33)).kept hg3 ne1 ne2)
        have HB2 := Lib.hid (((HB1.out.alloc HB1.out.size (.cells (encTm r.t).toArray 33)).alloc (by have := HB1.out.size; simp; omega) (.cells (encTm r.t).toArray 33)).grown hg3 (by have := HB1.out.size; simp; omega) (fun j hj => by have := (HO1.out.lt j hj).1; omega))
        have HZ3 := Lib.hid (show w.heap.size + 1 ≤ w2.heap.size by have := hg3.size; have := HZ1.out; simp at *; omega)
        have HO2 := Lib.hid (show w2.ownsRow (w.heap.size + 1) 33 6 (.slice A2 (n + 1) c2) (n + 1) (cellsBy encTm (ks ++ [r.t])) by rw [by_append, by_one]; exact ho2.out)
        have HP2 := Lib.hid (show (ks ++ [r.t]).Perm ((gotR R z (fun q => left q && !q.sameKey (tmLit r.t))).map (·.t)) by
          refine (List.perm_append_comm (l₁ := ks) (l₂ := [r.t])).trans ?_
          exact (HPR.out.cons r.t).trans (((HGS.out.1 HZ2.out).map (fun e : En => e.t)).symm))
        clear hg3 ne1 ne2 ho2 hg2
        refine ⟨⟨A2, n + 1, c2, ks ++ [r.t], _, cnt1, rfl, HR2, HP2, HO2, HB2, HZ3⟩, ?_⟩
        rw [HR2.out.left_eq, HRG.out.left_eq]
        exact HLT.out
      · have HZ2 := Lib.hid hz
        have HR2 := Lib.hid (HR1.out.alloc (.cells (encTm r.t).toArray 33))
        have HB2 := Lib.hid (HB1.out.alloc HB1.out.size (.cells (encTm r.t).toArray 33))
        have HO2 := Lib.hid (HO1.out.alloc (.cells (encTm r.t).toArray 33))
        have HZ3 := Lib.hid (show w.heap.size + 1 ≤ (w1.alloc (.cells (encTm r.t).toArray 33)).heap.size by have := HZ1.out; simp; omega)
        have HP2 := Lib.hid (show ks.Perm ((gotR R z (fun q => left q && !q.sameKey (tmLit r.t))).map (·.t)) by rw [HGS.out.2 HZ2.out]; exact HPR.out)
        go_wp2
        refine ⟨⟨A, n, c, ks, _, cnt1, rfl, HR2, HP2, HO2, HB2, HZ3⟩, ?_⟩
        have h6 : (w1.alloc (.cells (encTm r.t).toArray 33)).rangeLeft b w.heap.size = cnt1 := HR2.out.left_eq
        have h7 := HRG.out.left_eq
        have h8 := HLT.out
        show (w1.alloc (.cells (encTm r.t).toArray 33)).rangeLeft b w.heap.size < wr.rangeLeft b w.heap.size
        omega
end Go.Proofs.Ytaghophkfogdgaa
