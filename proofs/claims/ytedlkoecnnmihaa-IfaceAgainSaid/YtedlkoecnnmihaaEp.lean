/- The reference of elections: the election by one. Conditions: numbers unlike, from 1 on; less than 2^20 candidates. -/
import Derived.Test.YtedlkoecnnmihaaEo
namespace Go.Proofs.Ytedlkoecnnmihaa
open Go.RowKit
/-- Does it turn? What it takes itself for then. -/
def condC (me : Int) (t : Int × Int) (c : Cd) : Bool := c.id == me && (((t.1 == me) != (c.dr == me)) || ((t.2 == me) != (c.bdr == me)))
def chgC (me : Int) (t : Int × Int) (c : Cd) : Cd := if condC me t c = true then ⟨c.id, c.prio, if t.1 = me then me else 0, if t.1 = me then 0 else if t.2 = me then me else 0⟩ else c
theorem chg_keys (me : Int) (t : Int × Int) (L : List Cd) : (L.map (chgC me t)).map keyC = L.map keyC := by
  rw [List.map_map]
  refine List.map_congr_left fun c _ => ?_
  show keyC (chgC me t c) = keyC c
  unfold chgC
  split <;> rfl
theorem relec_still {L : List Cd} {me : Int} {t : Int × Int} (ha : ApartC L) (ht : goC L = t) (h : L.any (condC me t) = false) : elecC L me = t := by
  by_cases hm : ∃ c ∈ L, c.id = me
  · obtain ⟨c, hc, rfl⟩ := hm
    have hf := List.any_eq_false.1 h c hc
    rw [elecC_in hc]
    unfold elE
    change goE (bidC L) (drC L) (bdrC L) = t at ht
    simp only [ht, drC_is ha hc, bdrC_is ha hc]
    rw [if_neg]
    simpa [condC] using hf
  · rw [elecC_out fun c hc e => hm ⟨c, hc, e⟩]
    exact ht
theorem relec_turns {L : List Cd} {me : Int} {t : Int × Int} (ha : ApartC L) (ht : goC L = t) (h : L.any (condC me t) = true) : elecC L me = goC (L.map (chgC me t)) := by
  obtain ⟨c, hc, hcond⟩ := List.any_eq_true.1 h
  have hme : c.id = me := by
    unfold condC at hcond
    simp at hcond
    exact hcond.1
  subst hme
  rw [elecC_in hc, goC_of ha (chg_keys c.id t L) (d := setE (drC L) c.id (if t.1 = c.id then c.id else 0)) (b := setE (bdrC L) c.id (if t.1 = c.id then 0 else if t.2 = c.id then c.id else 0))]
  · unfold elE
    change goE (bidC L) (drC L) (bdrC L) = t at ht
    simp only [ht, drC_is ha hc, bdrC_is ha hc]
    rw [if_pos]
    simpa [condC] using hcond
  · intro e he
    obtain ⟨c', hc', rfl⟩ := List.mem_map.1 he
    by_cases e0 : c'.id = c.id
    · obtain rfl := ha.unlike c' hc' c hc e0
      unfold chgC
      rw [if_pos hcond]
      simp only [setE_at, and_self]
    · have hn : condC c.id t c' = false := by
        unfold condC
        simp [e0]
      rw [show chgC c.id t c' = c' from if_neg (by rw [hn]; decide)]
      rw [setE_no _ e0, setE_no _ e0, drC_is ha hc', bdrC_is ha hc']
      exact ⟨rfl, rfl⟩

set_option maxRecDepth 8000 in
set_option maxHeartbeats 16000000 in
theorem relect_any {w : World} {B n c : Nat} {A : Option Addr} {L : List Cd} (me : Int) (hs : Cds w B A n L) (hB : B ≤ w.heap.size) (ha : ApartC L) (hn : n < 1048576) :
    Calls Try.prog 23 #[.int .i64 me, .slice A n c] w fun e w' => e = .returned (.agg #[.int .i64 (elecC L me).1, .int .i64 (elecC L me).2]) ∧ Below w.heap.size w w' := by
  have HP := Lib.hid (hs.more hB)
  have HAP := Lib.hid ha
  have HLEN := Lib.hid hs.1
  clear hs ha
  obtain ⟨rd, hrd⟩ : ∃ r, r = (elecC L me).1 := ⟨_, rfl⟩
  obtain ⟨rb, hrb⟩ : ∃ r, r = (elecC L me).2 := ⟨_, rfl⟩
  rw [← hrd, ← hrb]
  have HRES := Lib.hid (show elecC L me = (rd, rb) by rw [hrd, hrb])
  clear hrd hrb
  obtain ⟨td, htd⟩ : ∃ r, r = (goC L).1 := ⟨_, rfl⟩
  obtain ⟨tb, htb⟩ : ∃ r, r = (goC L).2 := ⟨_, rfl⟩
  have HT := Lib.hid (show goC L = (td, tb) by rw [htd, htb])
  clear htd htb
  have R0 := Lib.hid (Blk.new w 50 #[.int .i64 0, .int .i64 0])
  have B0 := Lib.hid ((Below.refl w.heap.size w).alloc (Nat.le_refl _) (.cells #[.int .i64 0, .int .i64 0] 50))
  go_enter Try.func23, Try.ntmps23
  go_wp2_with fail
  generalize w.alloc (.cells #[.int .i64 0, .int .i64 0] 50) = w0 at *
  have hs0 := B0.out.size
  have hr0 := R0.out.lt
  refine (rgo_any ((HP.out.below B0.out).more hs0) (Nat.le_refl _) HAP.out hn).mono ?_
  rintro e1 w1 ⟨rfl, hb1⟩
  rw [HT.out]
  dsimp only
  have R1 := Lib.hid (R0.out.below hb1 hr0)
  have B1 := Lib.hid (B0.out.trans (hb1.mono hs0))
  have hr1 := R1.out.lt
  clear hb1 R0 B0 hr0 hs0
  have T2 := Lib.hid (Blk.new w1 50 #[.int .i64 td, .int .i64 tb])
  have R2 := Lib.hid (R1.out.alloc (.cells #[.int .i64 td, .int .i64 tb] 50))
  have B2 := Lib.hid (B1.out.alloc B1.out.size (.cells #[.int .i64 td, .int .i64 tb] 50))
  go_wp2_with fail
  generalize hp : w1.heap.size = p at *
  generalize w1.alloc (.cells #[.int .i64 td, .int .i64 tb] 50) = w2 at *
  have hs2 := B2.out.size
  have hp2 := T2.out.lt
  have hr2 := R2.out.lt
  have hwp : w.heap.size < p := by omega
  clear R1 B1 hr1 hp
  go_loopw [6, 7, 8] (fun t f i wr => ∃ (j m c' : Nat) (A' : Option Addr) (M : List Cd) (ch : Bool), j ≤ n ∧ t = .slice A' m c' ∧ f = .bool ch ∧ i = .int .i64 j ∧ Hid (wr.ownsRow w2.heap.size 31 4 (.slice A' m c') m (cellsBy encCd M)) ∧ Hid (M = (L.take j).map (chgC me (td, tb))) ∧ Hid (ch = (L.take j).any (condC me (td, tb))) ∧ Hid (Below w2.heap.size w2 wr)) (fun _ _ i _ => n - (intOf i).toNat)
  case atStart => exact ⟨0, 0, 0, none, [], false, Nat.zero_le _, rfl, rfl, rfl, Lib.hid (World.ownsRow_nil _ _ _ _), Lib.hid rfl, Lib.hid rfl, Lib.hid (Below.refl _ _)⟩
  case round =>
    obtain ⟨j, m, c', A', M, ch, hj, rfl, rfl, rfl, HO, HM, HCA, HB⟩ := hrel
    have hml : M.length = m := own_len encCd_len (by omega) HO.out
    have hmj : m ≤ j := by
      have h1 := congrArg List.length HM.out
      rw [List.length_map, List.length_take] at h1
      omega
    have HML := Lib.hid hml
    clear hml
    have TR := Lib.hid (T2.out.below HB.out hp2)
    have hpr := TR.out.lt
    have hsr := HB.out.size
    by_cases hlt : j < n
    · have hlt' : (j : Int) < n := by omega
      obtain ⟨b, o, x, rfl, hbb, hx, hat⟩ := Arr.at (Cds.below (HP.out.below B2.out) (HB.out.mono hs2)) hlt
      have HX := Lib.hid hx
      obtain ⟨y0, y1, y2, y3⟩ := hat
      clear hx
      have KN := Lib.hid (Blk.new wr 31 #[.int .i64 x.id, .int .i64 x.prio, .int .i64 x.dr, .int .i64 x.bdr])
      have BN := Lib.hid (HB.out.alloc hsr (.cells #[.int .i64 x.id, .int .i64 x.prio, .int .i64 x.dr, .int .i64 x.bdr] 31))
      have ON := Lib.hid (HO.out.alloc (.cells #[.int .i64 x.id, .int .i64 x.prio, .int .i64 x.dr, .int .i64 x.bdr] 31))
      have HOQ := Lib.hid (own_not (b := wr.heap.size) HO.out (Or.inr (Nat.le_refl _)))
      have TN := Lib.hid (TR.out.alloc (.cells #[.int .i64 x.id, .int .i64 x.prio, .int .i64 x.dr, .int .i64 x.bdr] 31))
      go_upto_region 8 with fail
      generalize hq : wr.heap.size = q at *
      generalize wr.alloc (.cells #[.int .i64 x.id, .int .i64 x.prio, .int .i64 x.dr, .int .i64 x.bdr] 31) = wn at *
      have hqn := KN.out.lt
      have hbq : w2.heap.size ≤ q := by omega
      have hpq : p ≠ q := by omega
      have hpn : p < wn.heap.size := by omega
      clear y0 y1 y2 y3 hbb hq
      obtain ⟨k0, k1, k2, k3⟩ := KN.out.four
      have z2 := KN.out.frozen 2
      have z3 := KN.out.frozen 3
      obtain ⟨t0, t1⟩ := TN.out.two

      cases hI : (x.id == me)
      · -- no
        have HCH := Lib.hid (show chgC me (td, tb) x = (⟨x.id, x.prio, x.dr, x.bdr⟩ : Cd) by simp [chgC, condC, hI])
        have HCO := Lib.hid (show condC me (td, tb) x = false by simp [condC, hI])
        have KX := Lib.hid (show Blk wn q 31 #[.int .i64 x.id, .int .i64 x.prio, .int .i64 x.dr, .int .i64 x.bdr] by
          have h9 := KN.out
          exact h9)
        have BX := Lib.hid BN.out
        have OX := Lib.hid ON.out
        go_upto_region 16 with fail
        generalize wn = w3 at *
        have hql := KX.out.lt
        have hsx := BX.out.size
        clear k0 k1 k2 k3 z2 z3 t0 t1
        obtain ⟨k0, k1, k2, k3⟩ := KX.out.four
        have hwa : w2.heap.size ≤ (w3.alloc (.cells #[.int .i64 x.id, .int .i64 x.prio, .int .i64 x.dr, .int .i64 x.bdr] 31)).heap.size := by simp; omega
        have BA := Lib.hid (BX.out.alloc hsx (.cells #[.int .i64 x.id, .int .i64 x.prio, .int .i64 x.dr, .int .i64 x.bdr] 31))
        go_wp2_with (at_builtin; refine wpList_append_any rfl (.tmp 62) (.tmp 64) 24 31 (.agg #[.int .i64 0, .int .i64 0, .int .i64 0, .int .i64 0]) 4 32 Try.underlying24 Try.infoCand rfl (by decide) (by decide) rfl w2.heap.size (.slice A' m c') m (cellsBy encCd M) (by rfl) (OX.out.alloc _) (some ⟨w3.heap.size, 0, none⟩) 1 1 (encCd (⟨x.id, x.prio, x.dr, x.bdr⟩ : Cd)) (by rfl) (by rfl) (fun h => by cases h) (news_new w3 31 (encCd (⟨x.id, x.prio, x.dr, x.bdr⟩ : Cd))) (encCd_ones (⟨x.id, x.prio, x.dr, x.bdr⟩ : Cd)) (by omega) hwa ?_; intro v4 w4 ho4 hg4; obtain ⟨A4, c4, rfl⟩ := own_slice ho4.out)
        rw [show cellsBy encCd M ++ encCd (⟨x.id, x.prio, x.dr, x.bdr⟩ : Cd) = cellsBy encCd (M ++ [(⟨x.id, x.prio, x.dr, x.bdr⟩ : Cd)]) by rw [by_append, by_one]] at ho4
        have B4 := Lib.hid (BA.out.trans (own_keeps7 (OX.out.alloc _) hg4.out hwa))
        have HM4 := Lib.hid (show M ++ [(⟨x.id, x.prio, x.dr, x.bdr⟩ : Cd)] = (L.take (j + 1)).map (chgC me (td, tb)) by rw [take_snocA L j x HX.out, List.map_append, HM.out, List.map_singleton, HCH.out])
        have HA4 := Lib.hid (show ch = (L.take (j + 1)).any (condC me (td, tb)) by rw [take_snocA L j x HX.out, List.any_append, ← HCA.out, List.any_cons, HCO.out]; simp)
        clear hg4
        go_roundw
        case rel => exact ⟨j + 1, m + 1, c4, A4, M ++ [(⟨x.id, x.prio, x.dr, x.bdr⟩ : Cd)], ch, by omega, by go_num, rfl, by go_num, ho4, HM4, HA4, B4⟩
        case measure => simp [intOf]; omega
      · -- yes
        cases hT : (td == me)
        · -- no
          cases hD : (x.dr == me)
          · -- no
            cases hU : (tb == me)
            · -- no
              cases hV : (x.bdr == me)
              · -- no
                have HCH := Lib.hid (show chgC me (td, tb) x = (⟨x.id, x.prio, x.dr, x.bdr⟩ : Cd) by simp [chgC, condC, hI, hT, hD, hU, hV])
                have HCO := Lib.hid (show condC me (td, tb) x = false by simp [condC, hI, hT, hD, hU, hV])
                have KX := Lib.hid (show Blk wn q 31 #[.int .i64 x.id, .int .i64 x.prio, .int .i64 x.dr, .int .i64 x.bdr] by
                  have h9 := KN.out
                  exact h9)
                have BX := Lib.hid BN.out
                have OX := Lib.hid ON.out
                go_upto_region 16 with fail
                generalize wn = w3 at *
                have hql := KX.out.lt
                have hsx := BX.out.size
                clear k0 k1 k2 k3 z2 z3 t0 t1
                obtain ⟨k0, k1, k2, k3⟩ := KX.out.four
                have hwa : w2.heap.size ≤ (w3.alloc (.cells #[.int .i64 x.id, .int .i64 x.prio, .int .i64 x.dr, .int .i64 x.bdr] 31)).heap.size := by simp; omega
                have BA := Lib.hid (BX.out.alloc hsx (.cells #[.int .i64 x.id, .int .i64 x.prio, .int .i64 x.dr, .int .i64 x.bdr] 31))
                go_wp2_with (at_builtin; refine wpList_append_any rfl (.tmp 62) (.tmp 64) 24 31 (.agg #[.int .i64 0, .int .i64 0, .int .i64 0, .int .i64 0]) 4 32 Try.underlying24 Try.infoCand rfl (by decide) (by decide) rfl w2.heap.size (.slice A' m c') m (cellsBy encCd M) (by rfl) (OX.out.alloc _) (some ⟨w3.heap.size, 0, none⟩) 1 1 (encCd (⟨x.id, x.prio, x.dr, x.bdr⟩ : Cd)) (by rfl) (by rfl) (fun h => by cases h) (news_new w3 31 (encCd (⟨x.id, x.prio, x.dr, x.bdr⟩ : Cd))) (encCd_ones (⟨x.id, x.prio, x.dr, x.bdr⟩ : Cd)) (by omega) hwa ?_; intro v4 w4 ho4 hg4; obtain ⟨A4, c4, rfl⟩ := own_slice ho4.out)
                rw [show cellsBy encCd M ++ encCd (⟨x.id, x.prio, x.dr, x.bdr⟩ : Cd) = cellsBy encCd (M ++ [(⟨x.id, x.prio, x.dr, x.bdr⟩ : Cd)]) by rw [by_append, by_one]] at ho4
                have B4 := Lib.hid (BA.out.trans (own_keeps7 (OX.out.alloc _) hg4.out hwa))
                have HM4 := Lib.hid (show M ++ [(⟨x.id, x.prio, x.dr, x.bdr⟩ : Cd)] = (L.take (j + 1)).map (chgC me (td, tb)) by rw [take_snocA L j x HX.out, List.map_append, HM.out, List.map_singleton, HCH.out])
                have HA4 := Lib.hid (show ch = (L.take (j + 1)).any (condC me (td, tb)) by rw [take_snocA L j x HX.out, List.any_append, ← HCA.out, List.any_cons, HCO.out]; simp)
                clear hg4
                go_roundw
                case rel => exact ⟨j + 1, m + 1, c4, A4, M ++ [(⟨x.id, x.prio, x.dr, x.bdr⟩ : Cd)], ch, by omega, by go_num, rfl, by go_num, ho4, HM4, HA4, B4⟩
                case measure => simp [intOf]; omega
              · -- yes
                have HCH := Lib.hid (show chgC me (td, tb) x = (⟨x.id, x.prio, 0, 0⟩ : Cd) by simp [chgC, condC, hI, hT, hD, hU, hV, show ¬ td = me from fun h => by simp [h] at hT, show ¬ tb = me from fun h => by simp [h] at hU])
                have HCO := Lib.hid (show condC me (td, tb) x = true by simp [condC, hI, hT, hD, hU, hV])
                have KX := Lib.hid (show Blk ((wn.setCell ⟨q, 2, none⟩ (.int .i64 0)).setCell ⟨q, 3, none⟩ (.int .i64 0)) q 31 #[.int .i64 x.id, .int .i64 x.prio, .int .i64 0, .int .i64 0] by
                  have h9 := ((KN.out.put 2 (.int .i64 0)).put 3 (.int .i64 0))
                  simp only [List.setIfInBounds_toArray, List.set_cons_zero, List.set_cons_succ] at h9
                  exact h9)
                have BX := Lib.hid ((BN.out.setCell (p := ⟨q, 2, none⟩) hbq (.int .i64 0)).setCell (p := ⟨q, 3, none⟩) hbq (.int .i64 0))
                have OX := Lib.hid (own_ne (own_ne ON.out ⟨q, 2, none⟩ (.int .i64 0) HOQ.out) ⟨q, 3, none⟩ (.int .i64 0) HOQ.out)
                go_upto_region 16 with fail
                generalize ((wn.setCell ⟨q, 2, none⟩ (.int .i64 0)).setCell ⟨q, 3, none⟩ (.int .i64 0)) = w3 at *
                have hql := KX.out.lt
                have hsx := BX.out.size
                clear k0 k1 k2 k3 z2 z3 t0 t1
                obtain ⟨k0, k1, k2, k3⟩ := KX.out.four
                have hwa : w2.heap.size ≤ (w3.alloc (.cells #[.int .i64 x.id, .int .i64 x.prio, .int .i64 0, .int .i64 0] 31)).heap.size := by simp; omega
                have BA := Lib.hid (BX.out.alloc hsx (.cells #[.int .i64 x.id, .int .i64 x.prio, .int .i64 0, .int .i64 0] 31))
                go_wp2_with (at_builtin; refine wpList_append_any rfl (.tmp 62) (.tmp 64) 24 31 (.agg #[.int .i64 0, .int .i64 0, .int .i64 0, .int .i64 0]) 4 32 Try.underlying24 Try.infoCand rfl (by decide) (by decide) rfl w2.heap.size (.slice A' m c') m (cellsBy encCd M) (by rfl) (OX.out.alloc _) (some ⟨w3.heap.size, 0, none⟩) 1 1 (encCd (⟨x.id, x.prio, 0, 0⟩ : Cd)) (by rfl) (by rfl) (fun h => by cases h) (news_new w3 31 (encCd (⟨x.id, x.prio, 0, 0⟩ : Cd))) (encCd_ones (⟨x.id, x.prio, 0, 0⟩ : Cd)) (by omega) hwa ?_; intro v4 w4 ho4 hg4; obtain ⟨A4, c4, rfl⟩ := own_slice ho4.out)
                rw [show cellsBy encCd M ++ encCd (⟨x.id, x.prio, 0, 0⟩ : Cd) = cellsBy encCd (M ++ [(⟨x.id, x.prio, 0, 0⟩ : Cd)]) by rw [by_append, by_one]] at ho4
                have B4 := Lib.hid (BA.out.trans (own_keeps7 (OX.out.alloc _) hg4.out hwa))
                have HM4 := Lib.hid (show M ++ [(⟨x.id, x.prio, 0, 0⟩ : Cd)] = (L.take (j + 1)).map (chgC me (td, tb)) by rw [take_snocA L j x HX.out, List.map_append, HM.out, List.map_singleton, HCH.out])
                have HA4 := Lib.hid (show true = (L.take (j + 1)).any (condC me (td, tb)) by rw [take_snocA L j x HX.out, List.any_append, ← HCA.out, List.any_cons, HCO.out]; simp)
                clear hg4
                go_roundw
                case rel => exact ⟨j + 1, m + 1, c4, A4, M ++ [(⟨x.id, x.prio, 0, 0⟩ : Cd)], true, by omega, by go_num, rfl, by go_num, ho4, HM4, HA4, B4⟩
                case measure => simp [intOf]; omega
            · -- yes
              cases hV : (x.bdr == me)
              · -- no
                have HCH := Lib.hid (show chgC me (td, tb) x = (⟨x.id, x.prio, 0, me⟩ : Cd) by simp [chgC, condC, hI, hT, hD, hV, show ¬ td = me from fun h => by simp [h] at hT, show tb = me from eq_of_beq hU])
                have HCO := Lib.hid (show condC me (td, tb) x = true by simp [condC, hI, hT, hD, hU, hV])
                have KX := Lib.hid (show Blk (((wn.setCell ⟨q, 2, none⟩ (.int .i64 0)).setCell ⟨q, 3, none⟩ (.int .i64 0)).setCell ⟨q, 3, none⟩ (.int .i64 me)) q 31 #[.int .i64 x.id, .int .i64 x.prio, .int .i64 0, .int .i64 me] by
                  have h9 := (((KN.out.put 2 (.int .i64 0)).put 3 (.int .i64 0)).put 3 (.int .i64 me))
                  simp only [List.setIfInBounds_toArray, List.set_cons_zero, List.set_cons_succ] at h9
                  exact h9)
                have BX := Lib.hid (((BN.out.setCell (p := ⟨q, 2, none⟩) hbq (.int .i64 0)).setCell (p := ⟨q, 3, none⟩) hbq (.int .i64 0)).setCell (p := ⟨q, 3, none⟩) hbq (.int .i64 me))
                have OX := Lib.hid (own_ne (own_ne (own_ne ON.out ⟨q, 2, none⟩ (.int .i64 0) HOQ.out) ⟨q, 3, none⟩ (.int .i64 0) HOQ.out) ⟨q, 3, none⟩ (.int .i64 me) HOQ.out)
                go_upto_region 16 with fail
                generalize (((wn.setCell ⟨q, 2, none⟩ (.int .i64 0)).setCell ⟨q, 3, none⟩ (.int .i64 0)).setCell ⟨q, 3, none⟩ (.int .i64 me)) = w3 at *
                have hql := KX.out.lt
                have hsx := BX.out.size
                clear k0 k1 k2 k3 z2 z3 t0 t1
                obtain ⟨k0, k1, k2, k3⟩ := KX.out.four
                have hwa : w2.heap.size ≤ (w3.alloc (.cells #[.int .i64 x.id, .int .i64 x.prio, .int .i64 0, .int .i64 me] 31)).heap.size := by simp; omega
                have BA := Lib.hid (BX.out.alloc hsx (.cells #[.int .i64 x.id, .int .i64 x.prio, .int .i64 0, .int .i64 me] 31))
                go_wp2_with (at_builtin; refine wpList_append_any rfl (.tmp 62) (.tmp 64) 24 31 (.agg #[.int .i64 0, .int .i64 0, .int .i64 0, .int .i64 0]) 4 32 Try.underlying24 Try.infoCand rfl (by decide) (by decide) rfl w2.heap.size (.slice A' m c') m (cellsBy encCd M) (by rfl) (OX.out.alloc _) (some ⟨w3.heap.size, 0, none⟩) 1 1 (encCd (⟨x.id, x.prio, 0, me⟩ : Cd)) (by rfl) (by rfl) (fun h => by cases h) (news_new w3 31 (encCd (⟨x.id, x.prio, 0, me⟩ : Cd))) (encCd_ones (⟨x.id, x.prio, 0, me⟩ : Cd)) (by omega) hwa ?_; intro v4 w4 ho4 hg4; obtain ⟨A4, c4, rfl⟩ := own_slice ho4.out)
                rw [show cellsBy encCd M ++ encCd (⟨x.id, x.prio, 0, me⟩ : Cd) = cellsBy encCd (M ++ [(⟨x.id, x.prio, 0, me⟩ : Cd)]) by rw [by_append, by_one]] at ho4
                have B4 := Lib.hid (BA.out.trans (own_keeps7 (OX.out.alloc _) hg4.out hwa))
                have HM4 := Lib.hid (show M ++ [(⟨x.id, x.prio, 0, me⟩ : Cd)] = (L.take (j + 1)).map (chgC me (td, tb)) by rw [take_snocA L j x HX.out, List.map_append, HM.out, List.map_singleton, HCH.out])
                have HA4 := Lib.hid (show true = (L.take (j + 1)).any (condC me (td, tb)) by rw [take_snocA L j x HX.out, List.any_append, ← HCA.out, List.any_cons, HCO.out]; simp)
                clear hg4
                go_roundw
                case rel => exact ⟨j + 1, m + 1, c4, A4, M ++ [(⟨x.id, x.prio, 0, me⟩ : Cd)], true, by omega, by go_num, rfl, by go_num, ho4, HM4, HA4, B4⟩
                case measure => simp [intOf]; omega
              · -- yes
                have HCH := Lib.hid (show chgC me (td, tb) x = (⟨x.id, x.prio, x.dr, x.bdr⟩ : Cd) by simp [chgC, condC, hI, hT, hD, hU, hV])
                have HCO := Lib.hid (show condC me (td, tb) x = false by simp [condC, hI, hT, hD, hU, hV])
                have KX := Lib.hid (show Blk wn q 31 #[.int .i64 x.id, .int .i64 x.prio, .int .i64 x.dr, .int .i64 x.bdr] by
                  have h9 := KN.out
                  exact h9)
                have BX := Lib.hid BN.out
                have OX := Lib.hid ON.out
                go_upto_region 16 with fail
                generalize wn = w3 at *
                have hql := KX.out.lt
                have hsx := BX.out.size
                clear k0 k1 k2 k3 z2 z3 t0 t1
                obtain ⟨k0, k1, k2, k3⟩ := KX.out.four
                have hwa : w2.heap.size ≤ (w3.alloc (.cells #[.int .i64 x.id, .int .i64 x.prio, .int .i64 x.dr, .int .i64 x.bdr] 31)).heap.size := by simp; omega
                have BA := Lib.hid (BX.out.alloc hsx (.cells #[.int .i64 x.id, .int .i64 x.prio, .int .i64 x.dr, .int .i64 x.bdr] 31))
                go_wp2_with (at_builtin; refine wpList_append_any rfl (.tmp 62) (.tmp 64) 24 31 (.agg #[.int .i64 0, .int .i64 0, .int .i64 0, .int .i64 0]) 4 32 Try.underlying24 Try.infoCand rfl (by decide) (by decide) rfl w2.heap.size (.slice A' m c') m (cellsBy encCd M) (by rfl) (OX.out.alloc _) (some ⟨w3.heap.size, 0, none⟩) 1 1 (encCd (⟨x.id, x.prio, x.dr, x.bdr⟩ : Cd)) (by rfl) (by rfl) (fun h => by cases h) (news_new w3 31 (encCd (⟨x.id, x.prio, x.dr, x.bdr⟩ : Cd))) (encCd_ones (⟨x.id, x.prio, x.dr, x.bdr⟩ : Cd)) (by omega) hwa ?_; intro v4 w4 ho4 hg4; obtain ⟨A4, c4, rfl⟩ := own_slice ho4.out)
                rw [show cellsBy encCd M ++ encCd (⟨x.id, x.prio, x.dr, x.bdr⟩ : Cd) = cellsBy encCd (M ++ [(⟨x.id, x.prio, x.dr, x.bdr⟩ : Cd)]) by rw [by_append, by_one]] at ho4
                have B4 := Lib.hid (BA.out.trans (own_keeps7 (OX.out.alloc _) hg4.out hwa))
                have HM4 := Lib.hid (show M ++ [(⟨x.id, x.prio, x.dr, x.bdr⟩ : Cd)] = (L.take (j + 1)).map (chgC me (td, tb)) by rw [take_snocA L j x HX.out, List.map_append, HM.out, List.map_singleton, HCH.out])
                have HA4 := Lib.hid (show ch = (L.take (j + 1)).any (condC me (td, tb)) by rw [take_snocA L j x HX.out, List.any_append, ← HCA.out, List.any_cons, HCO.out]; simp)
                clear hg4
                go_roundw
                case rel => exact ⟨j + 1, m + 1, c4, A4, M ++ [(⟨x.id, x.prio, x.dr, x.bdr⟩ : Cd)], ch, by omega, by go_num, rfl, by go_num, ho4, HM4, HA4, B4⟩
                case measure => simp [intOf]; omega
          · -- yes
            cases hU : (tb == me)
            · -- no
              have HCH := Lib.hid (show chgC me (td, tb) x = (⟨x.id, x.prio, 0, 0⟩ : Cd) by simp [chgC, condC, hI, hT, hD, show ¬ td = me from fun h => by simp [h] at hT, show ¬ tb = me from fun h => by simp [h] at hU])
              have HCO := Lib.hid (show condC me (td, tb) x = true by simp [condC, hI, hT, hD])
              have KX := Lib.hid (show Blk ((wn.setCell ⟨q, 2, none⟩ (.int .i64 0)).setCell ⟨q, 3, none⟩ (.int .i64 0)) q 31 #[.int .i64 x.id, .int .i64 x.prio, .int .i64 0, .int .i64 0] by
                have h9 := ((KN.out.put 2 (.int .i64 0)).put 3 (.int .i64 0))
                simp only [List.setIfInBounds_toArray, List.set_cons_zero, List.set_cons_succ] at h9
                exact h9)
              have BX := Lib.hid ((BN.out.setCell (p := ⟨q, 2, none⟩) hbq (.int .i64 0)).setCell (p := ⟨q, 3, none⟩) hbq (.int .i64 0))
              have OX := Lib.hid (own_ne (own_ne ON.out ⟨q, 2, none⟩ (.int .i64 0) HOQ.out) ⟨q, 3, none⟩ (.int .i64 0) HOQ.out)
              go_upto_region 16 with fail
              generalize ((wn.setCell ⟨q, 2, none⟩ (.int .i64 0)).setCell ⟨q, 3, none⟩ (.int .i64 0)) = w3 at *
              have hql := KX.out.lt
              have hsx := BX.out.size
              clear k0 k1 k2 k3 z2 z3 t0 t1
              obtain ⟨k0, k1, k2, k3⟩ := KX.out.four
              have hwa : w2.heap.size ≤ (w3.alloc (.cells #[.int .i64 x.id, .int .i64 x.prio, .int .i64 0, .int .i64 0] 31)).heap.size := by simp; omega
              have BA := Lib.hid (BX.out.alloc hsx (.cells #[.int .i64 x.id, .int .i64 x.prio, .int .i64 0, .int .i64 0] 31))
              go_wp2_with (at_builtin; refine wpList_append_any rfl (.tmp 62) (.tmp 64) 24 31 (.agg #[.int .i64 0, .int .i64 0, .int .i64 0, .int .i64 0]) 4 32 Try.underlying24 Try.infoCand rfl (by decide) (by decide) rfl w2.heap.size (.slice A' m c') m (cellsBy encCd M) (by rfl) (OX.out.alloc _) (some ⟨w3.heap.size, 0, none⟩) 1 1 (encCd (⟨x.id, x.prio, 0, 0⟩ : Cd)) (by rfl) (by rfl) (fun h => by cases h) (news_new w3 31 (encCd (⟨x.id, x.prio, 0, 0⟩ : Cd))) (encCd_ones (⟨x.id, x.prio, 0, 0⟩ : Cd)) (by omega) hwa ?_; intro v4 w4 ho4 hg4; obtain ⟨A4, c4, rfl⟩ := own_slice ho4.out)
              rw [show cellsBy encCd M ++ encCd (⟨x.id, x.prio, 0, 0⟩ : Cd) = cellsBy encCd (M ++ [(⟨x.id, x.prio, 0, 0⟩ : Cd)]) by rw [by_append, by_one]] at ho4
              have B4 := Lib.hid (BA.out.trans (own_keeps7 (OX.out.alloc _) hg4.out hwa))
              have HM4 := Lib.hid (show M ++ [(⟨x.id, x.prio, 0, 0⟩ : Cd)] = (L.take (j + 1)).map (chgC me (td, tb)) by rw [take_snocA L j x HX.out, List.map_append, HM.out, List.map_singleton, HCH.out])
              have HA4 := Lib.hid (show true = (L.take (j + 1)).any (condC me (td, tb)) by rw [take_snocA L j x HX.out, List.any_append, ← HCA.out, List.any_cons, HCO.out]; simp)
              clear hg4
              go_roundw
              case rel => exact ⟨j + 1, m + 1, c4, A4, M ++ [(⟨x.id, x.prio, 0, 0⟩ : Cd)], true, by omega, by go_num, rfl, by go_num, ho4, HM4, HA4, B4⟩
              case measure => simp [intOf]; omega
            · -- yes
              have HCH := Lib.hid (show chgC me (td, tb) x = (⟨x.id, x.prio, 0, me⟩ : Cd) by simp [chgC, condC, hI, hT, hD, show ¬ td = me from fun h => by simp [h] at hT, show tb = me from eq_of_beq hU])
              have HCO := Lib.hid (show condC me (td, tb) x = true by simp [condC, hI, hT, hD])
              have KX := Lib.hid (show Blk (((wn.setCell ⟨q, 2, none⟩ (.int .i64 0)).setCell ⟨q, 3, none⟩ (.int .i64 0)).setCell ⟨q, 3, none⟩ (.int .i64 me)) q 31 #[.int .i64 x.id, .int .i64 x.prio, .int .i64 0, .int .i64 me] by
                have h9 := (((KN.out.put 2 (.int .i64 0)).put 3 (.int .i64 0)).put 3 (.int .i64 me))
                simp only [List.setIfInBounds_toArray, List.set_cons_zero, List.set_cons_succ] at h9
                exact h9)
              have BX := Lib.hid (((BN.out.setCell (p := ⟨q, 2, none⟩) hbq (.int .i64 0)).setCell (p := ⟨q, 3, none⟩) hbq (.int .i64 0)).setCell (p := ⟨q, 3, none⟩) hbq (.int .i64 me))
              have OX := Lib.hid (own_ne (own_ne (own_ne ON.out ⟨q, 2, none⟩ (.int .i64 0) HOQ.out) ⟨q, 3, none⟩ (.int .i64 0) HOQ.out) ⟨q, 3, none⟩ (.int .i64 me) HOQ.out)
              go_upto_region 16 with fail
              generalize (((wn.setCell ⟨q, 2, none⟩ (.int .i64 0)).setCell ⟨q, 3, none⟩ (.int .i64 0)).setCell ⟨q, 3, none⟩ (.int .i64 me)) = w3 at *
              have hql := KX.out.lt
              have hsx := BX.out.size
              clear k0 k1 k2 k3 z2 z3 t0 t1
              obtain ⟨k0, k1, k2, k3⟩ := KX.out.four
              have hwa : w2.heap.size ≤ (w3.alloc (.cells #[.int .i64 x.id, .int .i64 x.prio, .int .i64 0, .int .i64 me] 31)).heap.size := by simp; omega
              have BA := Lib.hid (BX.out.alloc hsx (.cells #[.int .i64 x.id, .int .i64 x.prio, .int .i64 0, .int .i64 me] 31))
              go_wp2_with (at_builtin; refine wpList_append_any rfl (.tmp 62) (.tmp 64) 24 31 (.agg #[.int .i64 0, .int .i64 0, .int .i64 0, .int .i64 0]) 4 32 Try.underlying24 Try.infoCand rfl (by decide) (by decide) rfl w2.heap.size (.slice A' m c') m (cellsBy encCd M) (by rfl) (OX.out.alloc _) (some ⟨w3.heap.size, 0, none⟩) 1 1 (encCd (⟨x.id, x.prio, 0, me⟩ : Cd)) (by rfl) (by rfl) (fun h => by cases h) (news_new w3 31 (encCd (⟨x.id, x.prio, 0, me⟩ : Cd))) (encCd_ones (⟨x.id, x.prio, 0, me⟩ : Cd)) (by omega) hwa ?_; intro v4 w4 ho4 hg4; obtain ⟨A4, c4, rfl⟩ := own_slice ho4.out)
              rw [show cellsBy encCd M ++ encCd (⟨x.id, x.prio, 0, me⟩ : Cd) = cellsBy encCd (M ++ [(⟨x.id, x.prio, 0, me⟩ : Cd)]) by rw [by_append, by_one]] at ho4
              have B4 := Lib.hid (BA.out.trans (own_keeps7 (OX.out.alloc _) hg4.out hwa))
              have HM4 := Lib.hid (show M ++ [(⟨x.id, x.prio, 0, me⟩ : Cd)] = (L.take (j + 1)).map (chgC me (td, tb)) by rw [take_snocA L j x HX.out, List.map_append, HM.out, List.map_singleton, HCH.out])
              have HA4 := Lib.hid (show true = (L.take (j + 1)).any (condC me (td, tb)) by rw [take_snocA L j x HX.out, List.any_append, ← HCA.out, List.any_cons, HCO.out]; simp)
              clear hg4
              go_roundw
              case rel => exact ⟨j + 1, m + 1, c4, A4, M ++ [(⟨x.id, x.prio, 0, me⟩ : Cd)], true, by omega, by go_num, rfl, by go_num, ho4, HM4, HA4, B4⟩
              case measure => simp [intOf]; omega
        · -- yes
          cases hD : (x.dr == me)
          · -- no
            have HCH := Lib.hid (show chgC me (td, tb) x = (⟨x.id, x.prio, me, 0⟩ : Cd) by simp [chgC, condC, hI, hD, show td = me from eq_of_beq hT])
            have HCO := Lib.hid (show condC me (td, tb) x = true by simp [condC, hI, hT, hD])
            have KX := Lib.hid (show Blk (((wn.setCell ⟨q, 2, none⟩ (.int .i64 0)).setCell ⟨q, 3, none⟩ (.int .i64 0)).setCell ⟨q, 2, none⟩ (.int .i64 me)) q 31 #[.int .i64 x.id, .int .i64 x.prio, .int .i64 me, .int .i64 0] by
              have h9 := (((KN.out.put 2 (.int .i64 0)).put 3 (.int .i64 0)).put 2 (.int .i64 me))
              simp only [List.setIfInBounds_toArray, List.set_cons_zero, List.set_cons_succ] at h9
              exact h9)
            have BX := Lib.hid (((BN.out.setCell (p := ⟨q, 2, none⟩) hbq (.int .i64 0)).setCell (p := ⟨q, 3, none⟩) hbq (.int .i64 0)).setCell (p := ⟨q, 2, none⟩) hbq (.int .i64 me))
            have OX := Lib.hid (own_ne (own_ne (own_ne ON.out ⟨q, 2, none⟩ (.int .i64 0) HOQ.out) ⟨q, 3, none⟩ (.int .i64 0) HOQ.out) ⟨q, 2, none⟩ (.int .i64 me) HOQ.out)
            go_upto_region 16 with fail
            generalize (((wn.setCell ⟨q, 2, none⟩ (.int .i64 0)).setCell ⟨q, 3, none⟩ (.int .i64 0)).setCell ⟨q, 2, none⟩ (.int .i64 me)) = w3 at *
            have hql := KX.out.lt
            have hsx := BX.out.size
            clear k0 k1 k2 k3 z2 z3 t0 t1
            obtain ⟨k0, k1, k2, k3⟩ := KX.out.four
            have hwa : w2.heap.size ≤ (w3.alloc (.cells #[.int .i64 x.id, .int .i64 x.prio, .int .i64 me, .int .i64 0] 31)).heap.size := by simp; omega
            have BA := Lib.hid (BX.out.alloc hsx (.cells #[.int .i64 x.id, .int .i64 x.prio, .int .i64 me, .int .i64 0] 31))
            go_wp2_with (at_builtin; refine wpList_append_any rfl (.tmp 62) (.tmp 64) 24 31 (.agg #[.int .i64 0, .int .i64 0, .int .i64 0, .int .i64 0]) 4 32 Try.underlying24 Try.infoCand rfl (by decide) (by decide) rfl w2.heap.size (.slice A' m c') m (cellsBy encCd M) (by rfl) (OX.out.alloc _) (some ⟨w3.heap.size, 0, none⟩) 1 1 (encCd (⟨x.id, x.prio, me, 0⟩ : Cd)) (by rfl) (by rfl) (fun h => by cases h) (news_new w3 31 (encCd (⟨x.id, x.prio, me, 0⟩ : Cd))) (encCd_ones (⟨x.id, x.prio, me, 0⟩ : Cd)) (by omega) hwa ?_; intro v4 w4 ho4 hg4; obtain ⟨A4, c4, rfl⟩ := own_slice ho4.out)
            rw [show cellsBy encCd M ++ encCd (⟨x.id, x.prio, me, 0⟩ : Cd) = cellsBy encCd (M ++ [(⟨x.id, x.prio, me, 0⟩ : Cd)]) by rw [by_append, by_one]] at ho4
            have B4 := Lib.hid (BA.out.trans (own_keeps7 (OX.out.alloc _) hg4.out hwa))
            have HM4 := Lib.hid (show M ++ [(⟨x.id, x.prio, me, 0⟩ : Cd)] = (L.take (j + 1)).map (chgC me (td, tb)) by rw [take_snocA L j x HX.out, List.map_append, HM.out, List.map_singleton, HCH.out])
            have HA4 := Lib.hid (show true = (L.take (j + 1)).any (condC me (td, tb)) by rw [take_snocA L j x HX.out, List.any_append, ← HCA.out, List.any_cons, HCO.out]; simp)
            clear hg4
            go_roundw
            case rel => exact ⟨j + 1, m + 1, c4, A4, M ++ [(⟨x.id, x.prio, me, 0⟩ : Cd)], true, by omega, by go_num, rfl, by go_num, ho4, HM4, HA4, B4⟩
            case measure => simp [intOf]; omega
          · -- yes
            cases hU : (tb == me)
            · -- no
              cases hV : (x.bdr == me)
              · -- no
                have HCH := Lib.hid (show chgC me (td, tb) x = (⟨x.id, x.prio, x.dr, x.bdr⟩ : Cd) by simp [chgC, condC, hI, hT, hD, hU, hV])
                have HCO := Lib.hid (show condC me (td, tb) x = false by simp [condC, hI, hT, hD, hU, hV])
                have KX := Lib.hid (show Blk wn q 31 #[.int .i64 x.id, .int .i64 x.prio, .int .i64 x.dr, .int .i64 x.bdr] by
                  have h9 := KN.out
                  exact h9)
                have BX := Lib.hid BN.out
                have OX := Lib.hid ON.out
                go_upto_region 16 with fail
                generalize wn = w3 at *
                have hql := KX.out.lt
                have hsx := BX.out.size
                clear k0 k1 k2 k3 z2 z3 t0 t1
                obtain ⟨k0, k1, k2, k3⟩ := KX.out.four
                have hwa : w2.heap.size ≤ (w3.alloc (.cells #[.int .i64 x.id, .int .i64 x.prio, .int .i64 x.dr, .int .i64 x.bdr] 31)).heap.size := by simp; omega
                have BA := Lib.hid (BX.out.alloc hsx (.cells #[.int .i64 x.id, .int .i64 x.prio, .int .i64 x.dr, .int .i64 x.bdr] 31))
                go_wp2_with (at_builtin; refine wpList_append_any rfl (.tmp 62) (.tmp 64) 24 31 (.agg #[.int .i64 0, .int .i64 0, .int .i64 0, .int .i64 0]) 4 32 Try.underlying24 Try.infoCand rfl (by decide) (by decide) rfl w2.heap.size (.slice A' m c') m (cellsBy encCd M) (by rfl) (OX.out.alloc _) (some ⟨w3.heap.size, 0, none⟩) 1 1 (encCd (⟨x.id, x.prio, x.dr, x.bdr⟩ : Cd)) (by rfl) (by rfl) (fun h => by cases h) (news_new w3 31 (encCd (⟨x.id, x.prio, x.dr, x.bdr⟩ : Cd))) (encCd_ones (⟨x.id, x.prio, x.dr, x.bdr⟩ : Cd)) (by omega) hwa ?_; intro v4 w4 ho4 hg4; obtain ⟨A4, c4, rfl⟩ := own_slice ho4.out)
                rw [show cellsBy encCd M ++ encCd (⟨x.id, x.prio, x.dr, x.bdr⟩ : Cd) = cellsBy encCd (M ++ [(⟨x.id, x.prio, x.dr, x.bdr⟩ : Cd)]) by rw [by_append, by_one]] at ho4
                have B4 := Lib.hid (BA.out.trans (own_keeps7 (OX.out.alloc _) hg4.out hwa))
                have HM4 := Lib.hid (show M ++ [(⟨x.id, x.prio, x.dr, x.bdr⟩ : Cd)] = (L.take (j + 1)).map (chgC me (td, tb)) by rw [take_snocA L j x HX.out, List.map_append, HM.out, List.map_singleton, HCH.out])
                have HA4 := Lib.hid (show ch = (L.take (j + 1)).any (condC me (td, tb)) by rw [take_snocA L j x HX.out, List.any_append, ← HCA.out, List.any_cons, HCO.out]; simp)
                clear hg4
                go_roundw
                case rel => exact ⟨j + 1, m + 1, c4, A4, M ++ [(⟨x.id, x.prio, x.dr, x.bdr⟩ : Cd)], ch, by omega, by go_num, rfl, by go_num, ho4, HM4, HA4, B4⟩
                case measure => simp [intOf]; omega
              · -- yes
                have HCH := Lib.hid (show chgC me (td, tb) x = (⟨x.id, x.prio, me, 0⟩ : Cd) by simp [chgC, condC, hI, hD, hU, hV, show td = me from eq_of_beq hT])
                have HCO := Lib.hid (show condC me (td, tb) x = true by simp [condC, hI, hT, hD, hU, hV])
                have KX := Lib.hid (show Blk (((wn.setCell ⟨q, 2, none⟩ (.int .i64 0)).setCell ⟨q, 3, none⟩ (.int .i64 0)).setCell ⟨q, 2, none⟩ (.int .i64 me)) q 31 #[.int .i64 x.id, .int .i64 x.prio, .int .i64 me, .int .i64 0] by
                  have h9 := (((KN.out.put 2 (.int .i64 0)).put 3 (.int .i64 0)).put 2 (.int .i64 me))
                  simp only [List.setIfInBounds_toArray, List.set_cons_zero, List.set_cons_succ] at h9
                  exact h9)
                have BX := Lib.hid (((BN.out.setCell (p := ⟨q, 2, none⟩) hbq (.int .i64 0)).setCell (p := ⟨q, 3, none⟩) hbq (.int .i64 0)).setCell (p := ⟨q, 2, none⟩) hbq (.int .i64 me))
                have OX := Lib.hid (own_ne (own_ne (own_ne ON.out ⟨q, 2, none⟩ (.int .i64 0) HOQ.out) ⟨q, 3, none⟩ (.int .i64 0) HOQ.out) ⟨q, 2, none⟩ (.int .i64 me) HOQ.out)
                go_upto_region 16 with fail
                generalize (((wn.setCell ⟨q, 2, none⟩ (.int .i64 0)).setCell ⟨q, 3, none⟩ (.int .i64 0)).setCell ⟨q, 2, none⟩ (.int .i64 me)) = w3 at *
                have hql := KX.out.lt
                have hsx := BX.out.size
                clear k0 k1 k2 k3 z2 z3 t0 t1
                obtain ⟨k0, k1, k2, k3⟩ := KX.out.four
                have hwa : w2.heap.size ≤ (w3.alloc (.cells #[.int .i64 x.id, .int .i64 x.prio, .int .i64 me, .int .i64 0] 31)).heap.size := by simp; omega
                have BA := Lib.hid (BX.out.alloc hsx (.cells #[.int .i64 x.id, .int .i64 x.prio, .int .i64 me, .int .i64 0] 31))
                go_wp2_with (at_builtin; refine wpList_append_any rfl (.tmp 62) (.tmp 64) 24 31 (.agg #[.int .i64 0, .int .i64 0, .int .i64 0, .int .i64 0]) 4 32 Try.underlying24 Try.infoCand rfl (by decide) (by decide) rfl w2.heap.size (.slice A' m c') m (cellsBy encCd M) (by rfl) (OX.out.alloc _) (some ⟨w3.heap.size, 0, none⟩) 1 1 (encCd (⟨x.id, x.prio, me, 0⟩ : Cd)) (by rfl) (by rfl) (fun h => by cases h) (news_new w3 31 (encCd (⟨x.id, x.prio, me, 0⟩ : Cd))) (encCd_ones (⟨x.id, x.prio, me, 0⟩ : Cd)) (by omega) hwa ?_; intro v4 w4 ho4 hg4; obtain ⟨A4, c4, rfl⟩ := own_slice ho4.out)
                rw [show cellsBy encCd M ++ encCd (⟨x.id, x.prio, me, 0⟩ : Cd) = cellsBy encCd (M ++ [(⟨x.id, x.prio, me, 0⟩ : Cd)]) by rw [by_append, by_one]] at ho4
                have B4 := Lib.hid (BA.out.trans (own_keeps7 (OX.out.alloc _) hg4.out hwa))
                have HM4 := Lib.hid (show M ++ [(⟨x.id, x.prio, me, 0⟩ : Cd)] = (L.take (j + 1)).map (chgC me (td, tb)) by rw [take_snocA L j x HX.out, List.map_append, HM.out, List.map_singleton, HCH.out])
                have HA4 := Lib.hid (show true = (L.take (j + 1)).any (condC me (td, tb)) by rw [take_snocA L j x HX.out, List.any_append, ← HCA.out, List.any_cons, HCO.out]; simp)
                clear hg4
                go_roundw
                case rel => exact ⟨j + 1, m + 1, c4, A4, M ++ [(⟨x.id, x.prio, me, 0⟩ : Cd)], true, by omega, by go_num, rfl, by go_num, ho4, HM4, HA4, B4⟩
                case measure => simp [intOf]; omega
            · -- yes
              cases hV : (x.bdr == me)
              · -- no
                have HCH := Lib.hid (show chgC me (td, tb) x = (⟨x.id, x.prio, me, 0⟩ : Cd) by simp [chgC, condC, hI, hD, hU, hV, show td = me from eq_of_beq hT])
                have HCO := Lib.hid (show condC me (td, tb) x = true by simp [condC, hI, hT, hD, hU, hV])
                have KX := Lib.hid (show Blk (((wn.setCell ⟨q, 2, none⟩ (.int .i64 0)).setCell ⟨q, 3, none⟩ (.int .i64 0)).setCell ⟨q, 2, none⟩ (.int .i64 me)) q 31 #[.int .i64 x.id, .int .i64 x.prio, .int .i64 me, .int .i64 0] by
                  have h9 := (((KN.out.put 2 (.int .i64 0)).put 3 (.int .i64 0)).put 2 (.int .i64 me))
                  simp only [List.setIfInBounds_toArray, List.set_cons_zero, List.set_cons_succ] at h9
                  exact h9)
                have BX := Lib.hid (((BN.out.setCell (p := ⟨q, 2, none⟩) hbq (.int .i64 0)).setCell (p := ⟨q, 3, none⟩) hbq (.int .i64 0)).setCell (p := ⟨q, 2, none⟩) hbq (.int .i64 me))
                have OX := Lib.hid (own_ne (own_ne (own_ne ON.out ⟨q, 2, none⟩ (.int .i64 0) HOQ.out) ⟨q, 3, none⟩ (.int .i64 0) HOQ.out) ⟨q, 2, none⟩ (.int .i64 me) HOQ.out)
                go_upto_region 16 with fail
                generalize (((wn.setCell ⟨q, 2, none⟩ (.int .i64 0)).setCell ⟨q, 3, none⟩ (.int .i64 0)).setCell ⟨q, 2, none⟩ (.int .i64 me)) = w3 at *
                have hql := KX.out.lt
                have hsx := BX.out.size
                clear k0 k1 k2 k3 z2 z3 t0 t1
                obtain ⟨k0, k1, k2, k3⟩ := KX.out.four
                have hwa : w2.heap.size ≤ (w3.alloc (.cells #[.int .i64 x.id, .int .i64 x.prio, .int .i64 me, .int .i64 0] 31)).heap.size := by simp; omega
                have BA := Lib.hid (BX.out.alloc hsx (.cells #[.int .i64 x.id, .int .i64 x.prio, .int .i64 me, .int .i64 0] 31))
                go_wp2_with (at_builtin; refine wpList_append_any rfl (.tmp 62) (.tmp 64) 24 31 (.agg #[.int .i64 0, .int .i64 0, .int .i64 0, .int .i64 0]) 4 32 Try.underlying24 Try.infoCand rfl (by decide) (by decide) rfl w2.heap.size (.slice A' m c') m (cellsBy encCd M) (by rfl) (OX.out.alloc _) (some ⟨w3.heap.size, 0, none⟩) 1 1 (encCd (⟨x.id, x.prio, me, 0⟩ : Cd)) (by rfl) (by rfl) (fun h => by cases h) (news_new w3 31 (encCd (⟨x.id, x.prio, me, 0⟩ : Cd))) (encCd_ones (⟨x.id, x.prio, me, 0⟩ : Cd)) (by omega) hwa ?_; intro v4 w4 ho4 hg4; obtain ⟨A4, c4, rfl⟩ := own_slice ho4.out)
                rw [show cellsBy encCd M ++ encCd (⟨x.id, x.prio, me, 0⟩ : Cd) = cellsBy encCd (M ++ [(⟨x.id, x.prio, me, 0⟩ : Cd)]) by rw [by_append, by_one]] at ho4
                have B4 := Lib.hid (BA.out.trans (own_keeps7 (OX.out.alloc _) hg4.out hwa))
                have HM4 := Lib.hid (show M ++ [(⟨x.id, x.prio, me, 0⟩ : Cd)] = (L.take (j + 1)).map (chgC me (td, tb)) by rw [take_snocA L j x HX.out, List.map_append, HM.out, List.map_singleton, HCH.out])
                have HA4 := Lib.hid (show true = (L.take (j + 1)).any (condC me (td, tb)) by rw [take_snocA L j x HX.out, List.any_append, ← HCA.out, List.any_cons, HCO.out]; simp)
                clear hg4
                go_roundw
                case rel => exact ⟨j + 1, m + 1, c4, A4, M ++ [(⟨x.id, x.prio, me, 0⟩ : Cd)], true, by omega, by go_num, rfl, by go_num, ho4, HM4, HA4, B4⟩
                case measure => simp [intOf]; omega
              · -- yes
                have HCH := Lib.hid (show chgC me (td, tb) x = (⟨x.id, x.prio, x.dr, x.bdr⟩ : Cd) by simp [chgC, condC, hI, hT, hD, hU, hV])
                have HCO := Lib.hid (show condC me (td, tb) x = false by simp [condC, hI, hT, hD, hU, hV])
                have KX := Lib.hid (show Blk wn q 31 #[.int .i64 x.id, .int .i64 x.prio, .int .i64 x.dr, .int .i64 x.bdr] by
                  have h9 := KN.out
                  exact h9)
                have BX := Lib.hid BN.out
                have OX := Lib.hid ON.out
                go_upto_region 16 with fail
                generalize wn = w3 at *
                have hql := KX.out.lt
                have hsx := BX.out.size
                clear k0 k1 k2 k3 z2 z3 t0 t1
                obtain ⟨k0, k1, k2, k3⟩ := KX.out.four
                have hwa : w2.heap.size ≤ (w3.alloc (.cells #[.int .i64 x.id, .int .i64 x.prio, .int .i64 x.dr, .int .i64 x.bdr] 31)).heap.size := by simp; omega
                have BA := Lib.hid (BX.out.alloc hsx (.cells #[.int .i64 x.id, .int .i64 x.prio, .int .i64 x.dr, .int .i64 x.bdr] 31))
                go_wp2_with (at_builtin; refine wpList_append_any rfl (.tmp 62) (.tmp 64) 24 31 (.agg #[.int .i64 0, .int .i64 0, .int .i64 0, .int .i64 0]) 4 32 Try.underlying24 Try.infoCand rfl (by decide) (by decide) rfl w2.heap.size (.slice A' m c') m (cellsBy encCd M) (by rfl) (OX.out.alloc _) (some ⟨w3.heap.size, 0, none⟩) 1 1 (encCd (⟨x.id, x.prio, x.dr, x.bdr⟩ : Cd)) (by rfl) (by rfl) (fun h => by cases h) (news_new w3 31 (encCd (⟨x.id, x.prio, x.dr, x.bdr⟩ : Cd))) (encCd_ones (⟨x.id, x.prio, x.dr, x.bdr⟩ : Cd)) (by omega) hwa ?_; intro v4 w4 ho4 hg4; obtain ⟨A4, c4, rfl⟩ := own_slice ho4.out)
                rw [show cellsBy encCd M ++ encCd (⟨x.id, x.prio, x.dr, x.bdr⟩ : Cd) = cellsBy encCd (M ++ [(⟨x.id, x.prio, x.dr, x.bdr⟩ : Cd)]) by rw [by_append, by_one]] at ho4
                have B4 := Lib.hid (BA.out.trans (own_keeps7 (OX.out.alloc _) hg4.out hwa))
                have HM4 := Lib.hid (show M ++ [(⟨x.id, x.prio, x.dr, x.bdr⟩ : Cd)] = (L.take (j + 1)).map (chgC me (td, tb)) by rw [take_snocA L j x HX.out, List.map_append, HM.out, List.map_singleton, HCH.out])
                have HA4 := Lib.hid (show ch = (L.take (j + 1)).any (condC me (td, tb)) by rw [take_snocA L j x HX.out, List.any_append, ← HCA.out, List.any_cons, HCO.out]; simp)
                clear hg4
                go_roundw
                case rel => exact ⟨j + 1, m + 1, c4, A4, M ++ [(⟨x.id, x.prio, x.dr, x.bdr⟩ : Cd)], ch, by omega, by go_num, rfl, by go_num, ho4, HM4, HA4, B4⟩
                case measure => simp [intOf]; omega
    · have hjn : j = n := by omega
      have HTK := Lib.hid (show L.take j = L by rw [hjn, ← HLEN.out, List.take_length])
      clear hjn
      have RX := Lib.hid (R2.out.below HB.out hr2)
      have BX := Lib.hid (B2.out.trans (HB.out.mono hs2))
      have hrl := RX.out.lt
      have hrp : w.heap.size ≠ p := by omega
      obtain ⟨q0, q1⟩ := RX.out.two
      obtain ⟨t0, t1⟩ := TR.out.two
      have f0 := RX.out.frozen 0
      have f1 := RX.out.frozen 1
      cases ch
      · have HE := Lib.hid (show elecC L me = (td, tb) from relec_still HAP.out HT.out (by rw [← HTK.out]; exact HCA.out.symm))
        have hfin := HE.out
        rw [HRES.out] at hfin
        injection hfin with g1 g2
        subst g1 g2
        go_wp2
        refine bodyPost_ret (v := .agg #[.int .i64 rd, .int .i64 rb]) (by simp [results, Try.results23, go_sem, *]) rfl ?_
        exact ⟨rfl, (BX.out.setCell (p := ⟨w.heap.size, 0, none⟩) (Nat.le_refl _) _).setCell (p := ⟨w.heap.size, 1, none⟩) (Nat.le_refl _) _⟩
      · have HE := Lib.hid (show elecC L me = goC M from (relec_turns HAP.out HT.out (by rw [← HTK.out]; exact HCA.out.symm)).trans (by rw [HM.out, HTK.out]))
        have HAM := Lib.hid (show ApartC M by
          rw [HM.out, HTK.out]
          exact HAP.out.keys (chg_keys me (td, tb) L))
        clear t0 t1 q0 q1 f0 f1
        go_wp2_with fail
        refine (rgo_any (own_cds HO.out) (Nat.le_refl _) HAM.out (by omega)).mono ?_
        rintro e4 w4 ⟨rfl, hb4⟩
        rw [← HE.out, HRES.out]
        dsimp only
        have RY := Lib.hid (RX.out.below hb4 hrl)
        have BY := Lib.hid (BX.out.trans (hb4.mono BX.out.size))
        have hrl4 := RY.out.lt
        obtain ⟨q0, q1⟩ := RY.out.two
        have f0 := RY.out.frozen 0
        have f1 := RY.out.frozen 1
        go_wp2
        refine bodyPost_ret (v := .agg #[.int .i64 rd, .int .i64 rb]) (by simp [results, Try.results23, go_sem, *]) rfl ?_
        exact ⟨rfl, (BY.out.setCell (p := ⟨w.heap.size, 0, none⟩) (Nat.le_refl _) _).setCell (p := ⟨w.heap.size, 1, none⟩) (Nat.le_refl _) _⟩

end Go.Proofs.Ytedlkoecnnmihaa
