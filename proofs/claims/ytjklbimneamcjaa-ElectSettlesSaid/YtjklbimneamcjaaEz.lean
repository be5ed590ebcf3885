/- The walk of the statement ElectSettles. Conditions: what the words say. -/
import Derived.Test.YtjklbimneamcjaaEu
import Derived.Test.YtjklbimneamcjaaEy
namespace Go.Proofs.Ytjklbimneamcjaa
open Go.RowKit
theorem init_upto {L : List Cd} {j : Nat} {x : Cd} (hx : L[j]? = some x) (h : ∀ c ∈ L.take j, InitC c) (hp : InitC x) : ∀ c ∈ L.take (j + 1), InitC c := all_upto hx h hp

set_option maxRecDepth 8000 in
set_option maxHeartbeats 16000000 in
theorem settles_walk (A : Option Addr) (n c : Nat) (L : List Cd) (w : World) (hs : Cds w w.heap.size A n L) (hcb : ∀ x ∈ L, CdB x) (hn : n ≤ maxLen) :
    Calls Try.prog 6 #[.slice A n c] w fun e w' => e = .returned (.bool true) ∧ Below w.heap.size w w' := by
  have HP := Lib.hid hs
  have HLEN := Lib.hid hs.1
  have HN := Lib.hid hn
  have HCB := Lib.hid hcb
  clear hs hn hcb
  go_enter Try.func6, Try.ntmps6
  go_wp2_with fail
  refine (wakes_any w).mono ?_
  rintro e1 w1 ⟨rfl, hb1⟩
  have B1 := Lib.hid hb1
  have P1 := Lib.hid ((HP.out.below hb1).more hb1.size)
  clear hb1
  by_cases hn : 12 < n
  · have d1 : decide ((12 : Int) < (n : Int)) = true := by simp; omega
    go_wp2
    go_ret
    exact ⟨rfl, B1.out⟩
  have d1 : decide ((12 : Int) < (n : Int)) = false := by simp; omega
  go_wp2_with fail
  refine (apart_any P1.out (Nat.le_refl _) HN.out).mono ?_
  rintro e2 w2 ⟨⟨r, rfl, hr⟩, hb2⟩
  have B2 := Lib.hid (B1.out.trans (hb2.mono B1.out.size))
  have P2 := Lib.hid ((P1.out.below hb2).more hb2.size)
  clear hb2 P1 B1
  cases r
  · clear hr
    go_wp2
    go_ret
    exact ⟨rfl, B2.out⟩
  have HAP := Lib.hid (hr.1 rfl)
  clear hr
  have hn4 : n ≤ 1048576 := by omega
  go_wp2_with fail
  go_loopw [21] (fun i wr => ∃ j : Nat, j ≤ n ∧ i = .int .i64 j ∧ Hid (∀ c ∈ L.take j, InitC c) ∧ Hid (Below w.heap.size w wr)) (fun i _ => n - (intOf i).toNat)
  case atStart => exact ⟨0, Nat.zero_le _, rfl, Lib.hid (fun c hc => by simp at hc), B2⟩
  case round =>
    clear P2 B2
    obtain ⟨j, hj, rfl, HI, HB⟩ := hrel
    have hsr := HB.out.size
    by_cases hlt : j < n
    · have hlt' : (j : Int) < n := by omega
      obtain ⟨b, o, x, rfl, hbb, hx, hat⟩ := Arr.at (HP.out.below HB.out) hlt
      have HX := Lib.hid hx
      have HXB := Lib.hid (HCB.out x (List.mem_of_getElem? hx))
      obtain ⟨y0, y1, y2, y3⟩ := hat
      clear hx
      have KN := Lib.hid (Blk.new wr 33 #[.int .i64 x.id, .int .i64 x.prio, .int .i64 x.dr, .int .i64 x.bdr])
      have BN := Lib.hid (HB.out.alloc hsr (.cells #[.int .i64 x.id, .int .i64 x.prio, .int .i64 x.dr, .int .i64 x.bdr] 33))
      go_upto_region 8 with fail
      generalize wr.alloc (.cells #[.int .i64 x.id, .int .i64 x.prio, .int .i64 x.dr, .int .i64 x.bdr] 33) = wn at *
      have hnl := KN.out.lt
      clear y0 y1 y2 y3
      obtain ⟨k0, k1, k2, k3⟩ := KN.out.four

      by_cases hA : x.dr = 0
      · have dA : (x.dr != 0) = false := by simp [hA]
        by_cases hC : x.bdr = 0
        · have dC : (x.bdr != 0) = false := by simp [hC]
          have dS : IntKind.i64.wrap (x.dr + x.bdr) = 0 := by rw [hA, hC]; rfl
          by_cases hp : 0 < x.prio
          · have dp : decide (x.prio ≤ 0) = false := by simp; omega
            have HI2 := Lib.hid (init_upto HX.out HI.out ⟨Or.inl hA, Or.inl hC, Or.inl hA, fun _ => ⟨hA, hC⟩⟩)
            clear hA hC hp
            go_wp2_with fail
            go_roundw
            case rel => exact ⟨j + 1, by omega, by go_num, HI2, BN⟩
            case measure => simp [intOf]; omega
          · have dp : decide (x.prio ≤ 0) = true := by simp; omega
            have HI2 := Lib.hid (init_upto HX.out HI.out ⟨Or.inl hA, Or.inl hC, Or.inl hA, fun _ => ⟨hA, hC⟩⟩)
            clear hA hC hp
            go_wp2_with fail
            go_roundw
            case rel => exact ⟨j + 1, by omega, by go_num, HI2, BN⟩
            case measure => simp [intOf]; omega
        · have dC : (x.bdr != 0) = true := by simp [hC]
          by_cases hD : x.bdr = x.id
          · have dD : (x.bdr != x.id) = false := by simp [hD]
            by_cases hp : 0 < x.prio
            · have dp : decide (x.prio ≤ 0) = false := by simp; omega
              have HI2 := Lib.hid (init_upto HX.out HI.out ⟨Or.inl hA, Or.inr hD, Or.inl hA, fun h => absurd hp h⟩)
              clear hA hC hD hp
              go_wp2_with fail
              go_roundw
              case rel => exact ⟨j + 1, by omega, by go_num, HI2, BN⟩
              case measure => simp [intOf]; omega
            · have dp : decide (x.prio ≤ 0) = true := by simp; omega
              have dS : IntKind.i64.wrap (x.dr + x.bdr) = x.bdr := by rw [hA, Int.zero_add]; exact IntWalk.i64_in _ (by rw [hD]; exact HXB.out.1)
              clear hA hC hD hp
              go_wp2
              go_ret
              exact ⟨rfl, BN.out⟩
          · have dD : (x.bdr != x.id) = true := by simp [hD]
            clear hA hC hD
            go_wp2
            go_ret
            exact ⟨rfl, BN.out⟩
      · have dA : (x.dr != 0) = true := by simp [hA]
        by_cases hB : x.dr = x.id
        · have dB : (x.dr != x.id) = false := by simp [hB]
          by_cases hC : x.bdr = 0
          · have dC : (x.bdr != 0) = false := by simp [hC]
            by_cases hp : 0 < x.prio
            · have dp : decide (x.prio ≤ 0) = false := by simp; omega
              have HI2 := Lib.hid (init_upto HX.out HI.out ⟨Or.inr hB, Or.inl hC, Or.inr hC, fun h => absurd hp h⟩)
              clear hA hB hC hp
              go_wp2_with fail
              go_roundw
              case rel => exact ⟨j + 1, by omega, by go_num, HI2, BN⟩
              case measure => simp [intOf]; omega
            · have dp : decide (x.prio ≤ 0) = true := by simp; omega
              have dS : IntKind.i64.wrap (x.dr + x.bdr) = x.dr := by rw [hC, Int.add_zero]; exact IntWalk.i64_in _ (by rw [hB]; exact HXB.out.1)
              clear hA hB hC hp
              go_wp2
              go_ret
              exact ⟨rfl, BN.out⟩
          · have dC : (x.bdr != 0) = true := by simp [hC]
            by_cases hD : x.bdr = x.id
            · have dD : (x.bdr != x.id) = false := by simp [hD]
              clear hA hB hC hD
              go_wp2
              go_ret
              exact ⟨rfl, BN.out⟩
            · have dD : (x.bdr != x.id) = true := by simp [hD]
              clear hA hB hC hD
              go_wp2
              go_ret
              exact ⟨rfl, BN.out⟩
        · have dB : (x.dr != x.id) = true := by simp [hB]
          clear hA hB
          go_wp2
          go_ret
          exact ⟨rfl, BN.out⟩
    · have hjn : j = n := by omega
      have HINI := Lib.hid (show ∀ c ∈ L, InitC c by
        have := HI.out
        rwa [hjn, ← HLEN.out, List.take_length] at this)
      clear hjn HI
      have P3 := Lib.hid ((HP.out.below HB.out).more hsr)
      have BE := Lib.hid ((Below.refl wr.heap.size wr).alloc (Nat.le_refl _) (.cells #[] 33))
      have OE := Lib.hid (own_empty wr)
      have PE := Lib.hid (P3.out.below BE.out)
      have hse : wr.heap.size ≤ (wr.alloc (.cells #[] 33)).heap.size := by simp
      go_upto_region 12 with (at_builtin; refine wpList_append_any rfl (.tmp 71) (.tmp 72) 22 33 (.agg #[.int .i64 0, .int .i64 0, .int .i64 0, .int .i64 0]) 4 32 Try.underlying22 Try.infoCand rfl (by decide) (by decide) rfl wr.heap.size (.slice (some ⟨wr.heap.size, 0, none⟩) 0 0) 0 [] (by rfl) OE.out A n c (cellsBy encCd L) (by rfl) (by rw [by_length encCd_len, P3.out.1]) PE.out.cells.1 PE.out.cells.2 (by_ones encCd_ones L) (by omega) hse ?_; intro v4 w4 ho4 hg4; obtain ⟨A4, c4, rfl⟩ := own_slice ho4.out)
      rw [Nat.zero_add, List.nil_append] at ho4
      have B4 := Lib.hid (HB.out.trans ((BE.out.trans (own_keeps7 OE.out hg4.out hse)).mono hsr))
      have O4 := Lib.hid (own_low ho4.out hsr)
      clear hg4 OE PE BE hse ho4 HB P3 HP hlt
      go_wp2_with fail
      go_loopw [5, 74] (fun t i wx => ∃ (k : Nat) (A5 : Option Addr) (c5 : Nat), k ≤ 6 ∧ t = .slice A5 n c5 ∧ i = .int .i64 k ∧ Hid (wx.ownsRow w.heap.size 33 4 (.slice A5 n c5) n (cellsBy encCd (roundsC k L))) ∧ Hid (Below w.heap.size w wx)) (fun _ i _ => 6 - (intOf i).toNat)
      case atStart => exact ⟨0, A4, c4, by omega, rfl, rfl, O4, B4⟩
      case round =>
        clear O4 B4
        obtain ⟨k, A5, c5, hk, rfl, rfl, HO, HB⟩ := hrel
        generalize wr = wk at *
        have hsr := HB.out.size
        by_cases hlt : k < 6
        · have hlt' : (k : Int) < 6 := by omega
          have HAM := Lib.hid (HAP.out.keys (rounds_keys k L))
          have HRN := Lib.hid (rounds_next k L)
          generalize hM : roundsC k L = M at *
          clear hM
          have hml : M.length = n := own_len encCd_len (by omega) HO.out
          have HML := Lib.hid hml
          clear hml
          have P3 := Lib.hid (own_cds HO.out)
          have BE := Lib.hid ((Below.refl wk.heap.size wk).alloc (Nat.le_refl _) (.cells #[] 33))
          have OE := Lib.hid (own_empty wk)
          have PE := Lib.hid (P3.out.below BE.out)
          have hse : wk.heap.size ≤ (wk.alloc (.cells #[] 33)).heap.size := by simp
          go_upto_region 15 with (at_builtin; refine wpList_append_any rfl (.tmp 76) (.tmp 77) 22 33 (.agg #[.int .i64 0, .int .i64 0, .int .i64 0, .int .i64 0]) 4 32 Try.underlying22 Try.infoCand rfl (by decide) (by decide) rfl wk.heap.size (.slice (some ⟨wk.heap.size, 0, none⟩) 0 0) 0 [] (by rfl) OE.out A5 n c5 (cellsBy encCd M) (by rfl) (by rw [by_length encCd_len, P3.out.1]) PE.out.cells.1 PE.out.cells.2 (by_ones encCd_ones M) (by omega) hse ?_; intro v6 w6 ho6 hg6; obtain ⟨A6, c6, rfl⟩ := own_slice ho6.out)
          rw [Nat.zero_add, List.nil_append] at ho6
          have B6 := Lib.hid (BE.out.trans (own_keeps7 OE.out hg6.out hse))
          have O6 := Lib.hid ho6.out
          clear hg6 OE PE BE hse ho6
          go_wp2_with fail
          go_loopw [81] (fun i wx => ∃ j : Nat, j ≤ n ∧ i = .int .i64 j ∧ Hid (wx.ownsRow wk.heap.size 33 4 (.slice A6 n c6) n (cellsBy encCd (mapTo (turnC M) M j))) ∧ Hid (Below wk.heap.size wk wx)) (fun i _ => n - (intOf i).toNat)
          case atStart => exact ⟨0, Nat.zero_le _, rfl, Lib.hid (by rw [mapTo_zero]; exact O6.out), B6⟩
          case round =>
            clear O6 B6
            obtain ⟨j, hj, rfl, HO2, HB2⟩ := hrel
            have hs2 := HB2.out.size
            by_cases hltj : j < n
            · have hltj' : (j : Int) < n := by omega
              obtain ⟨z, hz⟩ : ∃ z, M[j]? = some z := ⟨M[j]'(by have := HML.out; omega), List.getElem?_eq_getElem (by have := HML.out; omega)⟩
              have HZ := Lib.hid hz
              obtain ⟨g, rfl, hg0, hgl, hnc, hcm, y0, y1, y2, y3⟩ := own_cd (own_below2 HO.out HB2.out) hz
              unfold maxLen at hcm
              clear hz
              obtain ⟨ed, hed⟩ : ∃ r, r = (elecC M z.id).1 := ⟨_, rfl⟩
              obtain ⟨eb, heb⟩ : ∃ r, r = (elecC M z.id).2 := ⟨_, rfl⟩
              have HEL := Lib.hid (show elecC M z.id = (ed, eb) by rw [hed, heb])
              have HTU := Lib.hid (show turnC M z = ⟨z.id, z.prio, ed, eb⟩ by rw [hed, heb]; rfl)
              clear hed heb
              have KN := Lib.hid (Blk.new wr 33 #[.int .i64 z.id, .int .i64 z.prio, .int .i64 z.dr, .int .i64 z.bdr])
              have BN := Lib.hid (HB2.out.alloc hs2 (.cells #[.int .i64 z.id, .int .i64 z.prio, .int .i64 z.dr, .int .i64 z.bdr] 33))
              have ON := Lib.hid (HO2.out.alloc (.cells #[.int .i64 z.id, .int .i64 z.prio, .int .i64 z.dr, .int .i64 z.bdr] 33))
              go_upto_region 18 with fail
              generalize wr.alloc (.cells #[.int .i64 z.id, .int .i64 z.prio, .int .i64 z.dr, .int .i64 z.bdr] 33) = wn at *
              have hnl := KN.out.lt
              clear y0 y1 y2 y3 hgl
              obtain ⟨k0, k1, k2, k3⟩ := KN.out.four
              have hsn := BN.out.size
              have PM := Lib.hid (Cds.more (own_cds HO.out) (Nat.le_refl _))
              go_wp2_with fail
              refine (elect_any z.id ((PM.out.below BN.out).more hsn) (Nat.le_refl _) HAM.out hn4).mono ?_
              rintro e7 w7 ⟨rfl, hb7⟩
              rw [HEL.out]
              dsimp only
              have O7 := Lib.hid (own_below2 ON.out hb7)
              have B7 := Lib.hid (BN.out.trans (hb7.mono hsn))
              clear hb7 k0 k1 k2 k3
              have hzz : (mapTo (turnC M) M j)[j]? = some z := by rw [mapTo_at]; exact HZ.out
              obtain ⟨g6, rfl, hg6, hgl6, hnc6, hcm6, y0, y1, y2, y3⟩ := own_cd O7.out hzz
              unfold maxLen at hcm6
              have hcn6 : (n : Int) ≤ c6 := by omega
              have f2 := own_frozen O7.out (j * 4 + 2)
              have f3 := own_frozen O7.out (j * 4 + 3)
              have O8 := own_put1 (own_put1 O7.out hzz ⟨z.id, z.prio, ed, z.bdr⟩ 2 (.int .i64 ed) (by omega) rfl) (x := ⟨z.id, z.prio, ed, z.bdr⟩) (by rw [List.getElem?_set, if_pos rfl, if_pos (List.getElem?_eq_some_iff.1 hzz).1]) ⟨z.id, z.prio, ed, eb⟩ 3 (.int .i64 eb) (by omega) rfl
              rw [List.set_set, ← HTU.out, show ((mapTo (turnC M) M j).set j (turnC M z)) = mapTo (turnC M) M (j + 1) from (mapTo_next _ _ _ _ HZ.out).symm] at O8
              have O8h := Lib.hid O8
              have B8 := Lib.hid ((B7.out.setCell (p := ⟨g6, j * 4 + 2, none⟩) hg6 (.int .i64 ed)).setCell (p := ⟨g6, j * 4 + 3, none⟩) hg6 (.int .i64 eb))
              clear hzz O8
              go_wp2_with fail
              go_roundw
              case rel => exact ⟨j + 1, by omega, by go_num, O8h, B8⟩
              case measure => simp [intOf]; omega
            · have hjn : j = n := by omega
              have HO3 := Lib.hid (show wr.ownsRow w.heap.size 33 4 (.slice A6 n c6) n (cellsBy encCd (roundsC (k + 1) L)) by
                have h9 := HO2.out
                rw [mapTo_all _ _ _ (by have := HML.out; omega)] at h9
                rw [HRN.out]
                exact own_low h9 hsr)
              have HB3 := Lib.hid (HB.out.trans (HB2.out.mono hsr))
              clear hjn
              go_wp2_with fail
              go_roundw
              case rel => exact ⟨k + 1, A6, c6, by omega, rfl, by go_num, HO3, HB3⟩
              case measure => simp [intOf]; omega
        · have hk6 : k = 6 := by omega
          subst hk6
          obtain ⟨d, b, hset⟩ := settled_on HAP.out HINI.out
          have HS4 := Lib.hid (hset 4)
          have HAM := Lib.hid (HAP.out.keys (rounds_keys 6 L))
          have HYES := Lib.hid (show SameTwo (roundsC 6 L) ∧ Elects (roundsC 6 L) from by
            have h1 := HS4.out.1
            refine ⟨fun c hc c0 h0 => ?_, fun c hc => ?_⟩
            · have h2 := h1 c hc
              have h3 := h1 c0 (List.mem_of_getElem? h0)
              exact ⟨h2.1.trans h3.1.symm, h2.2.trans h3.2.symm⟩
            · rw [HS4.out.2 c.id (mem_keys (rounds_keys 6 L).symm ⟨c, hc, rfl⟩), (h1 c hc).1, (h1 c hc).2])
          clear hset HS4
          go_wp2_with fail
          refine (stable_any (own_cds HO.out) (Nat.le_refl _) HAM.out hn4).mono ?_
          rintro e6 w6 ⟨⟨r, rfl, hr⟩, hb6⟩
          have hrt : r = true := hr.2 HYES.out
          subst hrt
          have B6 := Lib.hid (HB.out.trans (hb6.mono hsr))
          clear hb6 hr
          go_wp2
          go_ret
          exact ⟨rfl, B6.out⟩

end Go.Proofs.Ytjklbimneamcjaa
