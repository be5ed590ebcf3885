/- The reference's heads that a database lacks. Conditions: at most 100 heads, ages from 0 to 60. -/
import Derived.Test.YtiibefgdlmjdgaaGreatYe
namespace Go.Proofs.YtiibefgdlmjdgaaGreat
open Go.RowKit Go.Lib Go.Sort Go.Deep

theorem cells7 {w : World} {b p : Nat} {x : Hd} (h : w.rangeAt b p [.int .i64 x.age, .int .i64 x.kind, .int .i64 x.id, .int .i64 x.adv, .int .i64 x.seq, .int .i64 x.sum, .int .i64 x.long]) : w.cell? ⟨b, p, none⟩ = some (.int .i64 x.age) ∧ w.cell? ⟨b, p + 1, none⟩ = some (.int .i64 x.kind) ∧ w.cell? ⟨b, p + 2, none⟩ = some (.int .i64 x.id) ∧ w.cell? ⟨b, p + 3, none⟩ = some (.int .i64 x.adv) ∧ w.cell? ⟨b, p + 4, none⟩ = some (.int .i64 x.seq) ∧ w.cell? ⟨b, p + 5, none⟩ = some (.int .i64 x.sum) ∧ w.cell? ⟨b, p + 6, none⟩ = some (.int .i64 x.long) :=
  ⟨h 0 _ rfl, h 1 _ rfl, h 2 _ rfl, h 3 _ rfl, h 4 _ rfl, h 5 _ rfl, h 6 _ rfl⟩
theorem item_range7 {w : World} {base n c j : Nat} {A : Option Addr} {L : List Hd} {x : Hd} (h : w.ownsRow base 40 7 (.slice A n c) n (cellsBy encHd L)) (hj : L[j]? = some x) : ∃ q, A = some ⟨q, 0, none⟩ ∧ base ≤ q ∧ q < w.heap.size ∧ j < n ∧ n ≤ c ∧ c ≤ maxLen ∧ w.rangeAt q (j * 7) [.int .i64 x.age, .int .i64 x.kind, .int .i64 x.id, .int .i64 x.adv, .int .i64 x.seq, .int .i64 x.sum, .int .i64 x.long] := by
  obtain ⟨q, rfl, hqb, hq, hnc, hcm, hat⟩ := own_item encHd_len (by omega) h hj
  have hl := own_lenH encHd_len (by omega) h
  have := (List.getElem?_eq_some_iff.1 hj).1
  refine ⟨q, rfl, hqb, hq, by omega, hnc, hcm, fun i v hv => ?_⟩
  have hi := (List.getElem?_eq_some_iff.1 hv).1
  rw [hat i (by simpa using hi)]
  exact hv
theorem ref_items {w : World} {lo g : Nat} {room : Int} {S : List La} {F : Nat → Prop} (h : RefDb w lo g room S F) {j : Nat} {y : La} (hj : S[j]? = some y) :
    ∃ (q o n c : Nat), w.cell? ⟨g, 0, none⟩ = some (.slice (some ⟨q, o, none⟩) n c) ∧ g < w.heap.size ∧ q < w.heap.size ∧ j < n ∧ n ≤ 40 ∧ ageB y.h = true ∧ w.rangeAt q (o + j * 9) [.int .i64 y.h.age, .int .i64 y.h.kind, .int .i64 y.h.id, .int .i64 y.h.adv, .int .i64 y.h.seq, .int .i64 y.h.sum, .int .i64 y.h.long] := by
  obtain ⟨A, n, c, hB, hL, hn⟩ := h.list
  have hjl := (List.getElem?_eq_some_iff.1 hj).1
  have hl := hL.1
  obtain ⟨q, o, z, A1, n1, c1, A2, n2, c2, rfl, hq, hz, hr, -, -, -, -⟩ := las_item hL (show j < n by omega)
  rw [hj] at hz
  injection hz with hz
  subst hz
  obtain ⟨_, _, _, _, -, -, -, -, -, -, -, h4, -⟩ := h
  refine ⟨q, o, n, c, hB.cell 0, hB.lt, hq, by omega, hn, ?_, las_head hr⟩
  rw [ageB_iff]
  exact right_age (h4 y (List.mem_of_getElem? hj))
set_option maxRecDepth 20000 in
set_option maxHeartbeats 32000000 in
theorem rlacks_any {w : World} {lo g : Nat} {room : Int} {S : List La} {F : Nat → Prop} {A : Option Addr} {n c B : Nat} {L : List Hd} (hD : RefDb w lo g room S F) (hL : Hds w B A n L) (hB : B ≤ w.heap.size) (hn : n ≤ 100) (ha : ∀ h ∈ L, ageB h = true) :
    Calls Tryz.prog 11 #[.pointer (some ⟨g, 0, none⟩), .slice A n c] w (LacksQ S L w) := by
  generalize hQ : LacksQ S L w = Q
  have HQ := Lib.hid hQ
  have HL := Lib.hid hL
  have HD := Lib.hid hD
  have HA := Lib.hid ha
  have O0 := Lib.hid (World.ownsRow_nil w w.heap.size 40 7)
  have B0 := Lib.hid (Below.refl w.heap.size w)
  generalize hbm : w.heap.size = bm at *
  have HBM := Lib.hid hbm
  clear hQ hL hD ha hbm
  have mixed : Tryz.prog.follows .mixedOrders = true := by kernel_rfl
  go_enter Tryz.func11, Tryz.ntmps11
  go_wp2_with fail
  go_loopw [5, 6] (fun s5 s6 wr => ∃ (k m c' : Nat) (A' : Option Addr), s6 = .int .i64 k ∧ s5 = .slice A' m c' ∧ k ≤ n ∧ m ≤ k ∧ Hid (wr.ownsRow bm 40 7 (.slice A' m c') m (cellsBy encHd (lacksL S (L.take k)))) ∧ Hid (Below bm w wr)) (fun _ s6 _ => n - (intOf s6).toNat)
  case atStart => exact ⟨0, 0, 0, none, rfl, rfl, Nat.zero_le _, Nat.le_refl _, Lib.hid (by simpa [lacksL, cellsBy] using O0.out), B0⟩
  case round =>
    clear O0 B0
    obtain ⟨k, m, c', A', rfl, rfl, hk, hmk, OW, BW⟩ := hrel
    by_cases hlt : k < n
    · have hlt' : (k : Int) < (n : Int) := by omega
      obtain ⟨b, o, x, rfl, hbb, hx, hr⟩ := hds_item (HL.out.below (BW.out.mono hB)) hlt
      have HR := Lib.hid hr
      have HX := Lib.hid hx
      have hxm : x ∈ L := List.mem_of_getElem? hx
      have HAX := Lib.hid (HA.out x hxm)
      have hz : bm ≤ wr.heap.size := by have := BW.out.size; have := HBM.out; omega
      have NA := Lib.hid (fun (q : Nat) (hq : (Value.slice A' m c').ownBlock = some q) => Nat.ne_of_lt (OW.out.lt q hq).2)
      have BX := Lib.hid (BW.out.alloc hz (.cells #[.int .i64 x.age, .int .i64 x.kind, .int .i64 x.id, .int .i64 x.adv, .int .i64 x.seq, .int .i64 x.sum, .int .i64 x.long] 40))
      have KX := Lib.hid (Blk.new wr 40 #[.int .i64 x.age, .int .i64 x.kind, .int .i64 x.id, .int .i64 x.adv, .int .i64 x.seq, .int .i64 x.sum, .int .i64 x.long])
      have OX := Lib.hid (OW.out.alloc (.cells #[.int .i64 x.age, .int .i64 x.kind, .int .i64 x.id, .int .i64 x.adv, .int .i64 x.seq, .int .i64 x.sum, .int .i64 x.long] 40))
      have RX := Lib.hid (blk_range7 KX.out)
      have HS := Lib.hid (lacksL_snoc S (L.take k) x)
      rw [← take_snocA L k x HX.out] at HS
      have HN := Lib.hid (lacksL_nodup S (L.take k))
      have HAK := Lib.hid (fun (g : Hd) (hg : g ∈ lacksL S (L.take k)) => HA.out g (List.mem_of_mem_take (lacksL_mem hg)))
      obtain ⟨K, hK⟩ : ∃ K, K = lacksL S (L.take k) := ⟨_, rfl⟩
      rw [← hK] at HS HN HAK OX
      have HS2 := Lib.hid (HS.out.trans (lackStep_ref HN.out))
      clear hr hx hxm OW BW HS HN hK
      go_wp2_with (first | refine wpList_load_row 40 _ _ (by rfl) (.tmp 19) rfl (by rfl) HR.out Tryz.underlying40 rfl (by kernel_rfl) ?_ | refine wpList_load_row 40 _ _ (by rfl) (.tmp 7) rfl (by rfl) RX.out Tryz.underlying40 rfl (by kernel_rfl) ?_)
      refine (key13_any x _).mono ?_
      rintro e1 w1 ⟨rfl, hb1⟩
      generalize wr.alloc (.cells #[.int .i64 x.age, .int .i64 x.kind, .int .i64 x.id, .int .i64 x.adv, .int .i64 x.seq, .int .i64 x.sum, .int .i64 x.long] 40) = wx at *
      generalize wr.heap.size = X at *
      have hzx : bm ≤ wx.heap.size := by have := BX.out.size; have := HBM.out; omega
      have B1 := Lib.hid (BX.out.trans (hb1.mono hzx))
      have K1 := Lib.hid (KX.out.below hb1 KX.out.lt)
      have O1 := Lib.hid (own_chg OX.out (Chg.of_below (F := fun _ => False) hb1) (fun _ _ hf => hf))
      have D1 := Lib.hid (HD.out.chg (F' := fun _ => False) (Chg.of_below (by rw [HBM.out]; exact B1.out)) (fun _ _ hf => hf))
      have hz1 : bm ≤ w1.heap.size := Nat.le_trans hzx hb1.size
      clear hb1 BX KX OX RX HR hz hzx
      go_wp2_with fail
      refine (r7Find_db D1.out (keyH x)).mono ?_
      rintro e2 w2 ⟨v, rfl, hb2, hf⟩
      have B2 := Lib.hid (B1.out.trans (hb2.mono hz1))
      have K2 := Lib.hid (K1.out.below hb2 K1.out.lt)
      have O2 := Lib.hid (own_chg O1.out (Chg.of_below (F := fun _ => False) hb2) (fun _ _ hf => hf))
      have D2 := Lib.hid (HD.out.chg (F' := fun _ => False) (Chg.of_below (by rw [HBM.out]; exact B2.out)) (fun _ _ hf => hf))
      have hz2 : bm ≤ w2.heap.size := Nat.le_trans hz1 hb2.size
      clear hb2 K1 O1 D1 B1 hz1
      have hXl := K2.out.lt
      rcases hf with ⟨hg, hv⟩ | ⟨i, y, hg, rfl, hy⟩
      · have HT := Lib.hid (show lacksL S (L.take (k + 1)) = if doneB K x K.length = true then inn K x K.length else K ++ [x] by rw [HS2.out, if_pos (lackB_none hg)])
        have d0 : decide (0 ≤ v) = false := by simp; omega
        have hgr := Lib.hid (fun q => (⟨rfl, rfl, rfl, Nat.le_refl _, fun _ _ => rfl⟩ : Below w2.heap.size w2 (w2.drewN q)))
        clear hg hv HS2
        go_wp2_with fail
        go_quiet (fail)
        have W3 := Lib.hid (hgr.out nq)
        clear hgr
        generalize w2.drewN nq = w3 at *
        clear d0
        have B3 := Lib.hid (B2.out.trans (W3.out.mono hz2))
        have K3 := Lib.hid (K2.out.below W3.out hXl)
        have O3 := Lib.hid (own_chg O2.out (Chg.of_below (F := fun _ => False) W3.out) (fun _ _ hf => hf))
        have hz3 : bm ≤ w3.heap.size := Nat.le_trans hz2 W3.out.size
        have HKM := Lib.hid (own_lenH encHd_len (by omega) O3.out)
        clear W3 O2 B2 K2 D2 hz2 hXl
        go_wp2_with fail
        have O4 := Lib.hid (show w3.ownsRow bm 40 7 (.slice A' m c') m (cellsBy encHd (inn K x 0)) by rw [inn_zero]; exact O3.out)
        go_loopw [9, 10] (fun s9 s10 wi => ∃ j : Nat, s10 = .int .i64 j ∧ s9 = .bool (doneB K x j) ∧ j ≤ m ∧ Hid (wi.ownsRow bm 40 7 (.slice A' m c') m (cellsBy encHd (inn K x j))) ∧ Hid (Blk wi X 40 #[.int .i64 x.age, .int .i64 x.kind, .int .i64 x.id, .int .i64 x.adv, .int .i64 x.seq, .int .i64 x.sum, .int .i64 x.long]) ∧ Hid (Below bm w wi)) (fun _ s10 _ => m - (intOf s10).toNat)
        case atStart => exact ⟨0, rfl, by simp [doneB], Nat.zero_le _, O4, K3, B3⟩
        case round =>
          clear O4 O3 K3 B3 hz3
          obtain ⟨j, rfl, rfl, hj, OI, KI, BI⟩ := hrel
          have hzi : bm ≤ wr.heap.size := by have := BI.out.size; have := HBM.out; omega
          have hXl := KI.out.lt
          by_cases hjm : j < m
          · have hjm' : (j : Int) < (m : Int) := by omega
            obtain ⟨z, hzj⟩ : ∃ z, K[j]? = some z := ⟨_, List.getElem?_eq_getElem (by have := HKM.out; omega)⟩
            have hzi2 := inn_at (x := x) hzj
            obtain ⟨q, rfl, hqb, hql, -, hnc, hcm, hrz⟩ := item_range7 OI.out hzi2
            have hjc : j < m := hjm
            unfold maxLen at hcm
            obtain ⟨z0, z1, z2, z3, z4, z5, z6⟩ := cells7 hrz
            obtain ⟨x0, x1, x2, x3, x4, x5, x6⟩ := KI.out.sevenH
            have HZ := Lib.hid hzj
            have HZI := Lib.hid hzi2
            have HAZ := Lib.hid (HAK.out z (List.mem_of_getElem? hzj))
            have gz0 := fun n os => cell_grown (n := n) (os := os) hql z0
            have gz1 := fun n os => cell_grown (n := n) (os := os) hql z1
            have gz2 := fun n os => cell_grown (n := n) (os := os) hql z2
            have gz3 := fun n os => cell_grown (n := n) (os := os) hql z3
            have gz4 := fun n os => cell_grown (n := n) (os := os) hql z4
            have gz5 := fun n os => cell_grown (n := n) (os := os) hql z5
            have gz6 := fun n os => cell_grown (n := n) (os := os) hql z6
            have gx0 := fun n os => cell_grown (n := n) (os := os) hXl x0
            have gx1 := fun n os => cell_grown (n := n) (os := os) hXl x1
            have gx2 := fun n os => cell_grown (n := n) (os := os) hXl x2
            have gx3 := fun n os => cell_grown (n := n) (os := os) hXl x3
            have gx4 := fun n os => cell_grown (n := n) (os := os) hXl x4
            have gx5 := fun n os => cell_grown (n := n) (os := os) hXl x5
            have gx6 := fun n os => cell_grown (n := n) (os := os) hXl x6
            have p1 := fun n os => Calls.grown_of (key13_grown z (grow (wr.drewN n) os))
            have p2 := fun n os => Calls.grown_of (key13_grown x (grow (wr.drewN n) os))
            have eK := fun W => equalKy (keyH z) (keyH x) W
            obtain ⟨v2, hv2⟩ : ∃ v, sameKy (keyH z) (keyH x) = v := ⟨_, rfl⟩
            rw [hv2] at eK
            unfold keyH at eK
            dsimp only at eK
            have HV := Lib.hid hv2
            have HDN := Lib.hid (done_step (x := x) hzj)
            rw [hv2] at HDN
            have hgr := Lib.hid (fun n os => below_grown13 (w := wr) (w' := grow (wr.drewN n) os) ⟨n, os, rfl⟩)
            clear z0 z1 z2 z3 z4 z5 z6 x0 x1 x2 x3 x4 x5 x6 hrz hzj hzi2 hv2
            go_wp2_with fail
            go_quiet_grown (first | (go_at_call 27; first | with_reducible exact p1 _ _ | with_reducible exact p2 _ _))
            have W4 := Lib.hid (hgr.out nq osq)
            clear hgr p1 p2 eK gz0 gz1 gz2 gz3 gz4 gz5 gz6 gx0 gx1 gx2 gx3 gx4 gx5 gx6
            generalize grow (wr.drewN nq) osq = w4 at *
            have hz4 : bm ≤ w4.heap.size := Nat.le_trans hzi W4.out.size
            have B4 := Lib.hid (BI.out.trans (W4.out.mono hzi))
            have K4 := Lib.hid (KI.out.below W4.out hXl)
            have O4 := Lib.hid (own_chg OI.out (Chg.of_below (F := fun _ => False) W4.out) (fun _ _ hf => hf))
            clear W4 BI KI OI hzi hXl nq osq
            cases v2
            · have HDN2 := Lib.hid (show doneB K x (j + 1) = doneB K x j by rw [HDN.out, Bool.or_false])
              have O5 := Lib.hid (show w4.ownsRow bm 40 7 (.slice (some ⟨q, 0, none⟩) m c') m (cellsBy encHd (inn K x (j + 1))) by
                rw [inn_stay HZ.out (by unfold ovr; rw [HV.out]; rfl)]
                exact O4.out)
              clear HDN HV HZ HZI HAZ O4
              go_wp2
              go_roundw
              case rel => exact ⟨j + 1, by go_num, by rw [HDN2.out], by omega, O5, K4, B4⟩
              case measure => simp [intOf]; omega
            · have HDN2 := Lib.hid (show doneB K x (j + 1) = true by rw [HDN.out, Bool.or_true])
              have hXl := K4.out.lt
              obtain ⟨q', e', -, hql4, -, -, -, hrz⟩ := item_range7 O4.out HZI.out
              injection e' with e'
              injection e' with e'
              subst e'
              obtain ⟨z0, z1, z2, z3, z4, z5, z6⟩ := cells7 hrz
              obtain ⟨x0, x1, x2, x3, x4, x5, x6⟩ := K4.out.sevenH
              have HAX3 := HAX.out
              have HAZ2 := HAZ.out
              have gz0 := fun n os => cell_grown (n := n) (os := os) hql4 z0
              have gz1 := fun n os => cell_grown (n := n) (os := os) hql4 z1
              have gz2 := fun n os => cell_grown (n := n) (os := os) hql4 z2
              have gz3 := fun n os => cell_grown (n := n) (os := os) hql4 z3
              have gz4 := fun n os => cell_grown (n := n) (os := os) hql4 z4
              have gz5 := fun n os => cell_grown (n := n) (os := os) hql4 z5
              have gz6 := fun n os => cell_grown (n := n) (os := os) hql4 z6
              have gx0 := fun n os => cell_grown (n := n) (os := os) hXl x0
              have gx1 := fun n os => cell_grown (n := n) (os := os) hXl x1
              have gx2 := fun n os => cell_grown (n := n) (os := os) hXl x2
              have gx3 := fun n os => cell_grown (n := n) (os := os) hXl x3
              have gx4 := fun n os => cell_grown (n := n) (os := os) hXl x4
              have gx5 := fun n os => cell_grown (n := n) (os := os) hXl x5
              have gx6 := fun n os => cell_grown (n := n) (os := os) hXl x6
              have p1 := fun n os => Calls.grown_of (refNewer_grown x z (grow (w4.drewN n) os) HAX3 HAZ2)
              obtain ⟨d2, hd2⟩ : ∃ d, nw x z = d := ⟨_, rfl⟩
              rw [hd2] at p1
              have HOV := Lib.hid (show ovr x z = if 0 < d2 then x else z by unfold ovr; rw [HV.out, if_pos rfl, hd2])
              have hgr := Lib.hid (fun n os => below_grown13 (w := w4) (w' := grow (w4.drewN n) os) ⟨n, os, rfl⟩)
              clear z0 z1 z2 z3 z4 z5 z6 x0 x1 x2 x3 x4 x5 x6 hrz hd2 HAX3 HAZ2 HDN HV HAZ
              go_wp2_with fail
              go_quiet_grown (first | (go_at_call 28; with_reducible exact p1 _ _))
              have W5 := Lib.hid (hgr.out nq osq)
              clear hgr p1 gz0 gz1 gz2 gz3 gz4 gz5 gz6 gx0 gx1 gx2 gx3 gx4 gx5 gx6
              generalize grow (w4.drewN nq) osq = w5 at *
              have hz5 : bm ≤ w5.heap.size := Nat.le_trans hz4 W5.out.size
              have B5 := Lib.hid (B4.out.trans (W5.out.mono hz4))
              have K5 := Lib.hid (K4.out.below W5.out hXl)
              have R5 := Lib.hid (show w5.rangeAt X 0 [.int .i64 x.age, .int .i64 x.kind, .int .i64 x.id, .int .i64 x.adv, .int .i64 x.seq, .int .i64 x.sum, .int .i64 x.long] from blk_range7 K5.out)
              have O5 := Lib.hid (own_chg O4.out (Chg.of_below (F := fun _ => False) W5.out) (fun _ _ hf => hf))
              clear W5 B4 K4 O4 hz4 hXl nq osq
              by_cases hd2 : 0 < d2
              · have d2t : decide (0 < d2) = true := by simp; omega
                have NX := Lib.hid (show X ≠ q from fun e => NA.out q rfl e.symm)
                go_wp2_with (first | refine wpList_load_row 40 _ _ (by rfl) (.tmp 7) rfl (by rfl) R5.out Tryz.underlying40 rfl (by kernel_rfl) ?_ | (refine wpList_over_hd x rfl (.tmp 64) (.tmp 63) rfl (by rfl) (by rfl) O5.out hjc ?_; intro w6 HO6 HC6))
                have O6 := Lib.hid (show w6.ownsRow bm 40 7 (.slice (some ⟨q, 0, none⟩) m c') m (cellsBy encHd (inn K x (j + 1))) by rw [inn_step HZ.out, HOV.out, if_pos hd2]; exact HO6.out)
                have K6 := Lib.hid (K5.out.chg HC6.out NX.out)
                have B6 := Lib.hid (B5.out.trans (HC6.out.to_below (fun t ht => by rw [ht]; exact hqb) hz5))
                clear HO6 HC6 O5 K5 B5 R5 HZ HZI HOV hd2 d2t NX
                go_roundw
                case rel => exact ⟨j + 1, by go_num, by rw [HDN2.out], by omega, O6, K6, B6⟩
                case measure => simp [intOf]; omega
              · have d2t : decide (0 < d2) = false := by simp; omega
                have O6 := Lib.hid (show w5.ownsRow bm 40 7 (.slice (some ⟨q, 0, none⟩) m c') m (cellsBy encHd (inn K x (j + 1))) by
                  rw [inn_stay HZ.out (by rw [HOV.out, if_neg hd2])]
                  exact O5.out)
                clear O5 R5 HZ HZI HOV
                go_wp2
                go_roundw
                case rel => exact ⟨j + 1, by go_num, by rw [HDN2.out], by omega, O6, K5, B5⟩
                case measure => simp [intOf]; omega
          · have hjm' : ¬ (j : Int) < (m : Int) := by omega
            have hjK : j = K.length := by have := HKM.out; omega
            have HJ := Lib.hid hjK
            obtain ⟨bd, hbd⟩ : ∃ bd, doneB K x j = bd := ⟨_, rfl⟩
            have HBD := Lib.hid hbd
            rw [hbd]
            clear hbd hjK
            cases bd
            · have RX := Lib.hid (show wr.rangeAt X 0 [.int .i64 x.age, .int .i64 x.kind, .int .i64 x.id, .int .i64 x.adv, .int .i64 x.seq, .int .i64 x.sum, .int .i64 x.long] from blk_range7 KI.out)
              have OI2 := Lib.hid (show wr.ownsRow bm 40 7 (.slice A' m c') m (cellsBy encHd K) by
                have h1 := HBD.out
                have h2 := OI.out
                rw [HJ.out] at h1 h2
                rw [inn_none h1] at h2
                exact h2)
              have HT2 := Lib.hid (show lacksL S (L.take (k + 1)) = K ++ [x] by
                rw [HT.out, if_neg]
                rw [← HJ.out, HBD.out]
                decide)
              clear OI HT HBD HJ
              go_wp2_with (first | refine wpList_load_row 40 _ _ (by rfl) (.tmp 7) rfl (by rfl) RX.out Tryz.underlying40 rfl (by kernel_rfl) ?_ | (at_builtin; refine wpList_app_hd rfl (.tmp 67) (.tmp 69) rfl x (by rfl) (by rfl) OI2.out (by omega) hzi ?_; intro A3 c3 w3 HO3 HB3))
              have O7 := Lib.hid (show w3.ownsRow bm 40 7 (.slice A3 (m + 1) c3) (m + 1) (cellsBy encHd (lacksL S (L.take (k + 1)))) by rw [HT2.out]; exact HO3.out)
              have B7 := Lib.hid (BI.out.trans HB3.out)
              clear HO3 HB3 BI OI2 RX HT2 KI
              go_wp2
              go_roundw
              case rel => exact ⟨k + 1, m + 1, c3, A3, by go_num, by first | rfl | go_num, by omega, by omega, O7, B7⟩
              case measure => simp [intOf]; omega
            · have O7 := Lib.hid (show wr.ownsRow bm 40 7 (.slice A' m c') m (cellsBy encHd (lacksL S (L.take (k + 1)))) by
                have h1 := HBD.out
                have h2 := OI.out
                rw [HJ.out] at h1 h2
                rw [HT.out, if_pos h1]
                exact h2)
              clear OI HT HBD HJ KI
              go_wp2
              go_roundw
              case rel => exact ⟨k + 1, m, c', A', by go_num, by first | rfl | go_num, by omega, by omega, O7, BI⟩
              case measure => simp [intOf]; omega
      · obtain ⟨qy, oy, ny, cy, u0, hgl, hql, hiy, hny, hay, hry⟩ := ref_items D2.out hy
        obtain ⟨y0, y1, y2, y3, y4, y5, y6⟩ := cells7 hry
        obtain ⟨x0, x1, x2, x3, x4, x5, x6⟩ := K2.out.sevenH
        have HLB := Lib.hid (lackB_some hg)
        have HAX2 := HAX.out
        have gu0 := fun n os => cell_grown (n := n) (os := os) hgl u0
        have gy0 := fun n os => cell_grown (n := n) (os := os) hql y0
        have gy1 := fun n os => cell_grown (n := n) (os := os) hql y1
        have gy2 := fun n os => cell_grown (n := n) (os := os) hql y2
        have gy3 := fun n os => cell_grown (n := n) (os := os) hql y3
        have gy4 := fun n os => cell_grown (n := n) (os := os) hql y4
        have gy5 := fun n os => cell_grown (n := n) (os := os) hql y5
        have gy6 := fun n os => cell_grown (n := n) (os := os) hql y6
        have gx0 := fun n os => cell_grown (n := n) (os := os) hXl x0
        have gx1 := fun n os => cell_grown (n := n) (os := os) hXl x1
        have gx2 := fun n os => cell_grown (n := n) (os := os) hXl x2
        have gx3 := fun n os => cell_grown (n := n) (os := os) hXl x3
        have gx4 := fun n os => cell_grown (n := n) (os := os) hXl x4
        have gx5 := fun n os => cell_grown (n := n) (os := os) hXl x5
        have gx6 := fun n os => cell_grown (n := n) (os := os) hXl x6
        have p1 := fun n os => Calls.grown_of (refNewer_grown x y.h (grow (w2.drewN n) os) HAX2 hay)
        obtain ⟨d, hd⟩ : ∃ d, nw x y.h = d := ⟨_, rfl⟩
        rw [hd] at p1 HLB
        have i_u : (i : Int) < (ny : Int) := by omega
        have d0 : decide (0 ≤ (i : Int)) = true := by simp
        have hgr := Lib.hid (fun n os => below_grown13 (w := w2) (w' := grow (w2.drewN n) os) ⟨n, os, rfl⟩)
        clear u0 y0 y1 y2 y3 y4 y5 y6 x0 x1 x2 x3 x4 x5 x6 hry hg hy hd hay HAX2
        by_cases hd : 0 < d
        · have d1 : decide (d ≤ 0) = false := by simp; omega
          have HT := Lib.hid (show lacksL S (L.take (k + 1)) = if doneB K x K.length = true then inn K x K.length else K ++ [x] by rw [HS2.out, if_pos (by rw [HLB.out, decide_eq_true hd])])
          clear hd HS2 HLB
          go_wp2_with fail
          go_quiet_grown (first | (go_at_call 28; with_reducible exact p1 _ _))
          have W3 := Lib.hid (hgr.out nq osq)
          clear hgr p1 gu0 gy0 gy1 gy2 gy3 gy4 gy5 gy6 gx0 gx1 gx2 gx3 gx4 gx5 gx6
          generalize grow (w2.drewN nq) osq = w3 at *
          clear d0 d1 i_u
          have B3 := Lib.hid (B2.out.trans (W3.out.mono hz2))
          have K3 := Lib.hid (K2.out.below W3.out hXl)
          have O3 := Lib.hid (own_chg O2.out (Chg.of_below (F := fun _ => False) W3.out) (fun _ _ hf => hf))
          have hz3 : bm ≤ w3.heap.size := Nat.le_trans hz2 W3.out.size
          have HKM := Lib.hid (own_lenH encHd_len (by omega) O3.out)
          clear W3 O2 B2 K2 D2 hz2 hXl
          go_wp2_with fail
          have O4 := Lib.hid (show w3.ownsRow bm 40 7 (.slice A' m c') m (cellsBy encHd (inn K x 0)) by rw [inn_zero]; exact O3.out)
          go_loopw [9, 10] (fun s9 s10 wi => ∃ j : Nat, s10 = .int .i64 j ∧ s9 = .bool (doneB K x j) ∧ j ≤ m ∧ Hid (wi.ownsRow bm 40 7 (.slice A' m c') m (cellsBy encHd (inn K x j))) ∧ Hid (Blk wi X 40 #[.int .i64 x.age, .int .i64 x.kind, .int .i64 x.id, .int .i64 x.adv, .int .i64 x.seq, .int .i64 x.sum, .int .i64 x.long]) ∧ Hid (Below bm w wi)) (fun _ s10 _ => m - (intOf s10).toNat)
          case atStart => exact ⟨0, rfl, by simp [doneB], Nat.zero_le _, O4, K3, B3⟩
          case round =>
            clear O4 O3 K3 B3 hz3
            obtain ⟨j, rfl, rfl, hj, OI, KI, BI⟩ := hrel
            have hzi : bm ≤ wr.heap.size := by have := BI.out.size; have := HBM.out; omega
            have hXl := KI.out.lt
            by_cases hjm : j < m
            · have hjm' : (j : Int) < (m : Int) := by omega
              obtain ⟨z, hzj⟩ : ∃ z, K[j]? = some z := ⟨_, List.getElem?_eq_getElem (by have := HKM.out; omega)⟩
              have hzi2 := inn_at (x := x) hzj
              obtain ⟨q, rfl, hqb, hql, -, hnc, hcm, hrz⟩ := item_range7 OI.out hzi2
              have hjc : j < m := hjm
              unfold maxLen at hcm
              obtain ⟨z0, z1, z2, z3, z4, z5, z6⟩ := cells7 hrz
              obtain ⟨x0, x1, x2, x3, x4, x5, x6⟩ := KI.out.sevenH
              have HZ := Lib.hid hzj
              have HZI := Lib.hid hzi2
              have HAZ := Lib.hid (HAK.out z (List.mem_of_getElem? hzj))
              have gz0 := fun n os => cell_grown (n := n) (os := os) hql z0
              have gz1 := fun n os => cell_grown (n := n) (os := os) hql z1
              have gz2 := fun n os => cell_grown (n := n) (os := os) hql z2
              have gz3 := fun n os => cell_grown (n := n) (os := os) hql z3
              have gz4 := fun n os => cell_grown (n := n) (os := os) hql z4
              have gz5 := fun n os => cell_grown (n := n) (os := os) hql z5
              have gz6 := fun n os => cell_grown (n := n) (os := os) hql z6
              have gx0 := fun n os => cell_grown (n := n) (os := os) hXl x0
              have gx1 := fun n os => cell_grown (n := n) (os := os) hXl x1
              have gx2 := fun n os => cell_grown (n := n) (os := os) hXl x2
              have gx3 := fun n os => cell_grown (n := n) (os := os) hXl x3
              have gx4 := fun n os => cell_grown (n := n) (os := os) hXl x4
              have gx5 := fun n os => cell_grown (n := n) (os := os) hXl x5
              have gx6 := fun n os => cell_grown (n := n) (os := os) hXl x6
              have p1 := fun n os => Calls.grown_of (key13_grown z (grow (wr.drewN n) os))
              have p2 := fun n os => Calls.grown_of (key13_grown x (grow (wr.drewN n) os))
              have eK := fun W => equalKy (keyH z) (keyH x) W
              obtain ⟨v2, hv2⟩ : ∃ v, sameKy (keyH z) (keyH x) = v := ⟨_, rfl⟩
              rw [hv2] at eK
              unfold keyH at eK
              dsimp only at eK
              have HV := Lib.hid hv2
              have HDN := Lib.hid (done_step (x := x) hzj)
              rw [hv2] at HDN
              have hgr := Lib.hid (fun n os => below_grown13 (w := wr) (w' := grow (wr.drewN n) os) ⟨n, os, rfl⟩)
              clear z0 z1 z2 z3 z4 z5 z6 x0 x1 x2 x3 x4 x5 x6 hrz hzj hzi2 hv2
              go_wp2_with fail
              go_quiet_grown (first | (go_at_call 27; first | with_reducible exact p1 _ _ | with_reducible exact p2 _ _))
              have W4 := Lib.hid (hgr.out nq osq)
              clear hgr p1 p2 eK gz0 gz1 gz2 gz3 gz4 gz5 gz6 gx0 gx1 gx2 gx3 gx4 gx5 gx6
              generalize grow (wr.drewN nq) osq = w4 at *
              have hz4 : bm ≤ w4.heap.size := Nat.le_trans hzi W4.out.size
              have B4 := Lib.hid (BI.out.trans (W4.out.mono hzi))
              have K4 := Lib.hid (KI.out.below W4.out hXl)
              have O4 := Lib.hid (own_chg OI.out (Chg.of_below (F := fun _ => False) W4.out) (fun _ _ hf => hf))
              clear W4 BI KI OI hzi hXl nq osq
              cases v2
              · have HDN2 := Lib.hid (show doneB K x (j + 1) = doneB K x j by rw [HDN.out, Bool.or_false])
                have O5 := Lib.hid (show w4.ownsRow bm 40 7 (.slice (some ⟨q, 0, none⟩) m c') m (cellsBy encHd (inn K x (j + 1))) by
                  rw [inn_stay HZ.out (by unfold ovr; rw [HV.out]; rfl)]
                  exact O4.out)
                clear HDN HV HZ HZI HAZ O4
                go_wp2
                go_roundw
                case rel => exact ⟨j + 1, by go_num, by rw [HDN2.out], by omega, O5, K4, B4⟩
                case measure => simp [intOf]; omega
              · have HDN2 := Lib.hid (show doneB K x (j + 1) = true by rw [HDN.out, Bool.or_true])
                have hXl := K4.out.lt
                obtain ⟨q', e', -, hql4, -, -, -, hrz⟩ := item_range7 O4.out HZI.out
                injection e' with e'
                injection e' with e'
                subst e'
                obtain ⟨z0, z1, z2, z3, z4, z5, z6⟩ := cells7 hrz
                obtain ⟨x0, x1, x2, x3, x4, x5, x6⟩ := K4.out.sevenH
                have HAX3 := HAX.out
                have HAZ2 := HAZ.out
                have gz0 := fun n os => cell_grown (n := n) (os := os) hql4 z0
                have gz1 := fun n os => cell_grown (n := n) (os := os) hql4 z1
                have gz2 := fun n os => cell_grown (n := n) (os := os) hql4 z2
                have gz3 := fun n os => cell_grown (n := n) (os := os) hql4 z3
                have gz4 := fun n os => cell_grown (n := n) (os := os) hql4 z4
                have gz5 := fun n os => cell_grown (n := n) (os := os) hql4 z5
                have gz6 := fun n os => cell_grown (n := n) (os := os) hql4 z6
                have gx0 := fun n os => cell_grown (n := n) (os := os) hXl x0
                have gx1 := fun n os => cell_grown (n := n) (os := os) hXl x1
                have gx2 := fun n os => cell_grown (n := n) (os := os) hXl x2
                have gx3 := fun n os => cell_grown (n := n) (os := os) hXl x3
                have gx4 := fun n os => cell_grown (n := n) (os := os) hXl x4
                have gx5 := fun n os => cell_grown (n := n) (os := os) hXl x5
                have gx6 := fun n os => cell_grown (n := n) (os := os) hXl x6
                have p1 := fun n os => Calls.grown_of (refNewer_grown x z (grow (w4.drewN n) os) HAX3 HAZ2)
                obtain ⟨d2, hd2⟩ : ∃ d, nw x z = d := ⟨_, rfl⟩
                rw [hd2] at p1
                have HOV := Lib.hid (show ovr x z = if 0 < d2 then x else z by unfold ovr; rw [HV.out, if_pos rfl, hd2])
                have hgr := Lib.hid (fun n os => below_grown13 (w := w4) (w' := grow (w4.drewN n) os) ⟨n, os, rfl⟩)
                clear z0 z1 z2 z3 z4 z5 z6 x0 x1 x2 x3 x4 x5 x6 hrz hd2 HAX3 HAZ2 HDN HV HAZ
                go_wp2_with fail
                go_quiet_grown (first | (go_at_call 28; with_reducible exact p1 _ _))
                have W5 := Lib.hid (hgr.out nq osq)
                clear hgr p1 gz0 gz1 gz2 gz3 gz4 gz5 gz6 gx0 gx1 gx2 gx3 gx4 gx5 gx6
                generalize grow (w4.drewN nq) osq = w5 at *
                have hz5 : bm ≤ w5.heap.size := Nat.le_trans hz4 W5.out.size
                have B5 := Lib.hid (B4.out.trans (W5.out.mono hz4))
                have K5 := Lib.hid (K4.out.below W5.out hXl)
                have R5 := Lib.hid (show w5.rangeAt X 0 [.int .i64 x.age, .int .i64 x.kind, .int .i64 x.id, .int .i64 x.adv, .int .i64 x.seq, .int .i64 x.sum, .int .i64 x.long] from blk_range7 K5.out)
                have O5 := Lib.hid (own_chg O4.out (Chg.of_below (F := fun _ => False) W5.out) (fun _ _ hf => hf))
                clear W5 B4 K4 O4 hz4 hXl nq osq
                by_cases hd2 : 0 < d2
                · have d2t : decide (0 < d2) = true := by simp; omega
                  have NX := Lib.hid (show X ≠ q from fun e => NA.out q rfl e.symm)
                  go_wp2_with (first | refine wpList_load_row 40 _ _ (by rfl) (.tmp 7) rfl (by rfl) R5.out Tryz.underlying40 rfl (by kernel_rfl) ?_ | (refine wpList_over_hd x rfl (.tmp 64) (.tmp 63) rfl (by rfl) (by rfl) O5.out hjc ?_; intro w6 HO6 HC6))
                  have O6 := Lib.hid (show w6.ownsRow bm 40 7 (.slice (some ⟨q, 0, none⟩) m c') m (cellsBy encHd (inn K x (j + 1))) by rw [inn_step HZ.out, HOV.out, if_pos hd2]; exact HO6.out)
                  have K6 := Lib.hid (K5.out.chg HC6.out NX.out)
                  have B6 := Lib.hid (B5.out.trans (HC6.out.to_below (fun t ht => by rw [ht]; exact hqb) hz5))
                  clear HO6 HC6 O5 K5 B5 R5 HZ HZI HOV hd2 d2t NX
                  go_roundw
                  case rel => exact ⟨j + 1, by go_num, by rw [HDN2.out], by omega, O6, K6, B6⟩
                  case measure => simp [intOf]; omega
                · have d2t : decide (0 < d2) = false := by simp; omega
                  have O6 := Lib.hid (show w5.ownsRow bm 40 7 (.slice (some ⟨q, 0, none⟩) m c') m (cellsBy encHd (inn K x (j + 1))) by
                    rw [inn_stay HZ.out (by rw [HOV.out, if_neg hd2])]
                    exact O5.out)
                  clear O5 R5 HZ HZI HOV
                  go_wp2
                  go_roundw
                  case rel => exact ⟨j + 1, by go_num, by rw [HDN2.out], by omega, O6, K5, B5⟩
                  case measure => simp [intOf]; omega
            · have hjm' : ¬ (j : Int) < (m : Int) := by omega
              have hjK : j = K.length := by have := HKM.out; omega
              have HJ := Lib.hid hjK
              obtain ⟨bd, hbd⟩ : ∃ bd, doneB K x j = bd := ⟨_, rfl⟩
              have HBD := Lib.hid hbd
              rw [hbd]
              clear hbd hjK
              cases bd
              · have RX := Lib.hid (show wr.rangeAt X 0 [.int .i64 x.age, .int .i64 x.kind, .int .i64 x.id, .int .i64 x.adv, .int .i64 x.seq, .int .i64 x.sum, .int .i64 x.long] from blk_range7 KI.out)
                have OI2 := Lib.hid (show wr.ownsRow bm 40 7 (.slice A' m c') m (cellsBy encHd K) by
                  have h1 := HBD.out
                  have h2 := OI.out
                  rw [HJ.out] at h1 h2
                  rw [inn_none h1] at h2
                  exact h2)
                have HT2 := Lib.hid (show lacksL S (L.take (k + 1)) = K ++ [x] by
                  rw [HT.out, if_neg]
                  rw [← HJ.out, HBD.out]
                  decide)
                clear OI HT HBD HJ
                go_wp2_with (first | refine wpList_load_row 40 _ _ (by rfl) (.tmp 7) rfl (by rfl) RX.out Tryz.underlying40 rfl (by kernel_rfl) ?_ | (at_builtin; refine wpList_app_hd rfl (.tmp 67) (.tmp 69) rfl x (by rfl) (by rfl) OI2.out (by omega) hzi ?_; intro A3 c3 w3 HO3 HB3))
                have O7 := Lib.hid (show w3.ownsRow bm 40 7 (.slice A3 (m + 1) c3) (m + 1) (cellsBy encHd (lacksL S (L.take (k + 1)))) by rw [HT2.out]; exact HO3.out)
                have B7 := Lib.hid (BI.out.trans HB3.out)
                clear HO3 HB3 BI OI2 RX HT2 KI
                go_wp2
                go_roundw
                case rel => exact ⟨k + 1, m + 1, c3, A3, by go_num, by first | rfl | go_num, by omega, by omega, O7, B7⟩
                case measure => simp [intOf]; omega
              · have O7 := Lib.hid (show wr.ownsRow bm 40 7 (.slice A' m c') m (cellsBy encHd (lacksL S (L.take (k + 1)))) by
                  have h1 := HBD.out
                  have h2 := OI.out
                  rw [HJ.out] at h1 h2
                  rw [HT.out, if_pos h1]
                  exact h2)
                clear OI HT HBD HJ KI
                go_wp2
                go_roundw
                case rel => exact ⟨k + 1, m, c', A', by go_num, by first | rfl | go_num, by omega, by omega, O7, BI⟩
                case measure => simp [intOf]; omega
        · have d1 : decide (d ≤ 0) = true := by simp; omega
          have HT := Lib.hid (show lacksL S (L.take (k + 1)) = K by rw [HS2.out, if_neg (by rw [HLB.out, decide_eq_false hd]; decide)])
          clear hd HS2 HLB
          go_wp2_with fail
          go_quiet_grown (first | (go_at_call 28; with_reducible exact p1 _ _))
          have W3 := Lib.hid (hgr.out nq osq)
          clear hgr p1 gu0 gy0 gy1 gy2 gy3 gy4 gy5 gy6 gx0 gx1 gx2 gx3 gx4 gx5 gx6
          generalize grow (w2.drewN nq) osq = w3 at *
          have B3 := Lib.hid (B2.out.trans (W3.out.mono hz2))
          have O3 := Lib.hid (show w3.ownsRow bm 40 7 (.slice A' m c') m (cellsBy encHd (lacksL S (L.take (k + 1)))) by rw [HT.out]; exact own_chg O2.out (Chg.of_below (F := fun _ => False) W3.out) (fun _ _ hf => hf))
          clear W3 O2 B2 K2 D2 HT d0 d1 i_u
          go_wp2
          go_roundw
          case rel => exact ⟨k + 1, m, c', A', by go_num, rfl, by omega, by omega, O3, B3⟩
          case measure => simp [intOf]; omega
    · have hlt' : ¬ (k : Int) < (n : Int) := by omega
      have HT := Lib.hid (show lacksL S (L.take k) = lacksL S L by
        rw [List.take_of_length_le (by have := HL.out.1; omega)])
      rw [HT.out] at OW
      go_wp2
      show Q (.returned (.slice A' m c')) wr
      rw [← HQ.out]
      exact ⟨A', m, c', rfl, by rw [HBM.out]; exact BW.out, by rw [HBM.out]; exact OW.out⟩
end Go.Proofs.YtiibefgdlmjdgaaGreat
