/- The program's Add to what is wanted. Conditions: keys of 64 bits, ages from 0 to 60, at most 100000 heads. -/
import Derived.Test.YtnnkcgbnhjkahaaAf
namespace Go.Proofs.Ytnnkcgbnhjkahaa
open Go.RowKit Go.Lib Go.Sort Go.Deep

theorem PwIs.put {w w' : World} {p b : Nat} {S R : List Hd} {x : Hd} (h : PwIs w p b S) (hP : R.Perm S) (hc : Chg (fun q => q = b) w w') (hM : HmIs w' b (x :: restH R (keyH x))) : PwIs w' p b (insH x (restH S (keyH x))) :=
  ⟨h.1.chg hc h.ne, ⟨_, hM, ((restH_perm hP _).cons x).trans (insH_perm _ _).symm⟩, insH_rest_sort h.2.2 x⟩
theorem addH_no {S : List Hd} {x : Hd} (hg : getH S (keyH x) = none) : addH S x = insH x (restH S (keyH x)) := by
  rcases addH_cases S x with ⟨e, -⟩ | ⟨-, y, e, -⟩
  · exact e
  · rw [hg] at e
    cases e
theorem addH_yes {S : List Hd} {x y : Hd} (hg : getH S (keyH x) = some y) : (0 < nw x y → addH S x = insH x (restH S (keyH x))) ∧ (¬ 0 < nw x y → addH S x = S) := by
  rcases addH_cases S x with ⟨e, h⟩ | ⟨e, z, hz, hn⟩
  · exact ⟨fun _ => e, fun hn => absurd (h y hg) hn⟩
  · rw [hg] at hz
    injection hz with hz
    subst hz
    exact ⟨fun h => absurd h hn, fun _ => e⟩
set_option maxHeartbeats 2000000 in
theorem add_wnil (A : Option Addr) (n c : Nat) (w : World) : Calls Try.prog 11 #[.pointer none, .slice A n c] w fun e w' => e = .returned (.int .i64 0) ∧ w = w' := by
  go_enter Try.func11, Try.ntmps11
  go_wp2
  go_ret
  exact ⟨rfl, rfl⟩
theorem keepAdd {w0 w' : World} {b : Nat} {R : List Hd} (hM : HmIs w0 b R) (hb : Below w0.heap.size w0 w') : Below w0.heap.size w0 w' ∧ HmIs w' b R ∧ (∀ b o, b < w0.heap.size → w'.cell? ⟨b, o, none⟩ = w0.cell? ⟨b, o, none⟩) :=
  ⟨hb, hM.below hb hM.lt, fun _ _ hl => hb.cell (p := ⟨_, _, none⟩) hl⟩
/-- What a round's beginning finds. -/
theorem look_add {w : World} {p b : Nat} {S : List Hd} (h : PwIs w p b S) {k : Ky} (hk : wfKy k) : ∃ R r0, R.Perm S ∧ HmIs w b R ∧ Blk w p 79 #[.map (some b)] ∧ ((getH S k = none ∧ r0 = zeroHd) ∨ getH S k = some r0) ∧
    ∀ W, HmIs W b R → (Instr.lookup 77 (.map (some b)) (.agg #[.int .i64 k.kind, .int .i64 k.id, .int .i64 k.adv]) true).run Try.prog W = .ok (.tuple #[.agg #[.int .i64 r0.age, .int .i64 r0.kind, .int .i64 r0.id, .int .i64 r0.adv, .int .i64 r0.seq, .int .i64 r0.sum, .int .i64 r0.long], .bool (getH S k).isSome]) W := by
  obtain ⟨hB, ⟨R, hM, hP⟩, hs⟩ := h
  obtain ⟨r0, hw, hl⟩ := look_wanted hP hs hk b
  exact ⟨R, r0, hP, hM, hB, hw, hl⟩
set_option maxRecDepth 20000 in
set_option maxHeartbeats 16000000 in
theorem add_w {w : World} {p b : Nat} {S : List Hd} {A : Option Addr} {n c B : Nat} {L : List Hd} (h : PwIs w p b S) (hL : Hds w B A n L) (hB : B ≤ w.heap.size) (hn : n ≤ 1000) (hl : S.length ≤ 100000) (hk : ∀ x ∈ L, wfKy (keyH x)) (ha : ∀ x ∈ L, ageB x = true) (hS : ∀ y ∈ S, ageB y = true) :
    Calls Try.prog 11 #[.pointer (some ⟨p, 0, none⟩), .slice A n c] w fun e w' => e = .returned (.int .i64 ((addsH S L).length : Int)) ∧ PwIs w' p b (addsH S L) ∧ Chg (fun q => q = b) w w' := by
  generalize hQ : (fun (e : Ending) (w' : World) => e = .returned (.int .i64 ((addsH S L).length : Int)) ∧ PwIs w' p b (addsH S L) ∧ Chg (fun q => q = b) w w') = Q
  have HQ := Lib.hid hQ
  have HP := Lib.hid h
  have HL := Lib.hid hL
  have HS := Lib.hid hS
  have HK := Lib.hid hk
  have HA := Lib.hid ha
  have C0 := Lib.hid (Chg.refl (fun q => q = b) w)
  have HLN := Lib.hid hL.1
  clear hQ h hL hS hk ha
  go_enter Try.func11, Try.ntmps11
  go_wp2_with fail
  go_loopw [14] (fun s14 wr => ∃ (k : Nat) (T : List Hd), s14 = .int .i64 k ∧ k ≤ n ∧ Hid (T = addsH S (L.take k)) ∧ Hid (PwIs wr p b T) ∧ Hid (Hds wr B A n L) ∧ Hid (Chg (fun q => q = b) w wr)) (fun s14 _ => n - (intOf s14).toNat)
  case atStart => exact ⟨0, S, rfl, Nat.zero_le _, Lib.hid (by simp [addsH]), HP, HL, C0⟩
  case round =>
    clear HP HL C0
    obtain ⟨k, T, rfl, hkn, TW, PW, LW, CW⟩ := hrel
    have hsz := CW.out.size
    by_cases hlt : k < n
    · have hlt' : (k : Int) < (n : Int) := by omega
      obtain ⟨g, o, x, rfl, hgb, hx, hr⟩ := hds_item LW.out hlt
      have HR := Lib.hid hr
      have hxm : x ∈ L := List.mem_of_getElem? hx
      have HWF := Lib.hid (HK.out x hxm)
      have HAX := Lib.hid (HA.out x hxm)
      have HTS := Lib.hid (show addH T x = addsH S (L.take (k + 1)) by rw [TW.out, ← addsH_snoc, ← take_snocA L k x hx])
      have HTA := Lib.hid (show ∀ y ∈ T, ageB y = true from fun y hy => by
        rw [TW.out] at hy
        rcases mem_addsH hy with h1 | h1
        · exact HS.out y h1
        · exact HA.out y (List.mem_of_mem_take h1))
      have HTL := Lib.hid (show T.length < maxLen by
        have h1 := len_addsH S (L.take k)
        rw [← TW.out, List.length_take] at h1
        unfold maxLen
        omega)
      have BX := Lib.hid ((Below.refl wr.heap.size wr).alloc (Nat.le_refl _) (.cells #[.int .i64 x.age, .int .i64 x.kind, .int .i64 x.id, .int .i64 x.adv, .int .i64 x.seq, .int .i64 x.sum, .int .i64 x.long] 38))
      have KX := Lib.hid (Blk.new wr 38 #[.int .i64 x.age, .int .i64 x.kind, .int .i64 x.id, .int .i64 x.adv, .int .i64 x.seq, .int .i64 x.sum, .int .i64 x.long])
      have RX := Lib.hid (blk_range7 KX.out)
      clear hr hx hxm TW
      go_wp2_with (first | refine wpList_load_row 38 _ _ (by rfl) (.tmp 16) rfl (by rfl) HR.out Try.underlying38 rfl (by kernel_rfl) ?_ | refine wpList_load_row 38 _ _ (by rfl) (.tmp 6) rfl (by rfl) RX.out Try.underlying38 rfl (by kernel_rfl) ?_)
      refine (keyOf_any x _).mono ?_
      rintro e1 w1 ⟨rfl, hb1⟩
      have B1 := Lib.hid (BX.out.trans (hb1.mono BX.out.size))
      have K1 := Lib.hid (KX.out.below hb1 KX.out.lt)
      clear hb1 BX KX RX HR
      have Y2 := Lib.hid (Blk.new w1 47 #[.int .i64 x.kind, .int .i64 x.id, .int .i64 x.adv])
      have K2 := Lib.hid (K1.out.alloc (.cells #[.int .i64 x.kind, .int .i64 x.id, .int .i64 x.adv] 47))
      have B2 := Lib.hid (B1.out.alloc B1.out.size (.cells #[.int .i64 x.kind, .int .i64 x.id, .int .i64 x.adv] 47))
      have hx1 := K1.out.lt
      have hrz := B2.out.size
      have P2 := PW.out.below B2.out
      have HPW := PW.out.1
      obtain ⟨R, r0, hP, hM, hBp, hwho, hlook⟩ := look_add P2 HWF.out
      unfold keyH at hlook
      dsimp only at hlook
      have HPM := Lib.hid hP
      have HM := Lib.hid hM
      have HWHO := Lib.hid hwho
      have HBP := Lib.hid hBp
      have P2H := Lib.hid P2
      have hpl := P2.ltp
      have c0 := hBp.cell 0
      simp at c0
      obtain ⟨fd, hfd⟩ : ∃ fd, fd = (getH T ⟨x.kind, x.id, x.adv⟩).isSome := ⟨_, rfl⟩
      rw [← hfd] at hlook
      have HFD := Lib.hid (show fd = (getH T (keyH x)).isSome from hfd)
      clear hP hM hwho hBp P2 HPW hfd K1 B1
      obtain ⟨y0, y1, y2⟩ := Y2.out.three
      go_wp2_with fail
      generalize hy1 : w1.heap.size = Y at *
      generalize w1.alloc (.cells #[.int .i64 x.kind, .int .i64 x.id, .int .i64 x.adv] 47) = w2 at *
      have hYl := Y2.out.lt
      clear hy1
      have BR : Below w2.heap.size w2 w2.drew := ⟨rfl, rfl, rfl, Nat.le_refl _, fun _ _ => rfl⟩
      have BR2 : ∀ o, Below w2.heap.size w2 (w2.alloc o).drew := fun o => below_drewN ((Below.refl _ _).alloc (Nat.le_refl _) o) 1
      go_cut [8, 9] from 15 to 43 (fun s8 s9 wx => ∃ ob, s8 = .pointer (some ⟨ob, 0, none⟩) ∧ s9 = .bool fd ∧ Hid (Below w2.heap.size w2 wx ∧ Blk wx ob 38 #[.int .i64 r0.age, .int .i64 r0.kind, .int .i64 r0.id, .int .i64 r0.adv, .int .i64 r0.seq, .int .i64 r0.sum, .int .i64 r0.long]))
      case first =>
        go_region_held3 (fun w' => Below w2.heap.size w2 w' ∧ HmIs w' b R ∧ (∀ b o, b < w2.heap.size → w'.cell? ⟨b, o, none⟩ = w2.cell? ⟨b, o, none⟩)) ((refine keepAdd HM.out ?_; first | with_reducible exact BR | with_reducible exact BR2 _ | with_reducible exact BR.alloc BR.size _)) (first | fail)
        all_goals (go_wp2_with fail; go_meet; exact ⟨_, rfl, rfl, Lib.hid ⟨And.left ‹Below w2.heap.size w2 _ ∧ _›, Blk.new _ _ _⟩⟩)
      case rest =>
        obtain ⟨ob, rfl, rfl, hbx⟩ := hcut
        have B3 := Lib.hid (B2.out.trans (hbx.out.1.mono hrz))
        have Y3 := Lib.hid (Y2.out.below hbx.out.1 hYl)
        have K3 := Lib.hid (K2.out.below hbx.out.1 K2.out.lt)
        have J3 := Lib.hid hbx.out.2
        have P3 := Lib.hid (P2H.out.below hbx.out.1)
        have M3 := Lib.hid (HM.out.below hbx.out.1 HM.out.lt)
        clear y0 y1 y2 c0 BR BR2 hbx hlook K2 Y2 B2 HM HBP P2H
        cases fd
        case false =>
          have HADD := Lib.hid (addH_no (S := T) (x := x) (by
            rcases HWHO.out with h | h
            · exact h.1
            · have := HFD.out
              rw [h] at this
              cases this))
          obtain ⟨y0, y1, y2⟩ := Y3.out.three
          have c0 := P3.out.1.cell 0
          simp at c0
          obtain ⟨x0, x1, x2, x3, x4, x5, x6⟩ := K3.out.sevenH
          go_wp2_with fail
          go_still_tail 6, (by kernel_rfl)
          change wpList _ _ _ _ _ wc.drew
          have M7 := Lib.hid M3.out.drew
          go_wp2_with (at_mapUpdate; refine wpList_putHm x rfl (.tmp 40) (.tmp 41) (.tmp 42) rfl rfl rfl rfl M7.out HWF.out (by rw [HPM.out.length_eq]; exact HTL.out) ?_; intro w6 hm6 ht6; have M6 := Lib.hid hm6; have T6 := Lib.hid (chg_of_turned ht6); clear hm6 ht6)
          have BD : Below wr.heap.size wr wc.drew := B3.out.trans ⟨rfl, rfl, rfl, Nat.le_refl _, fun _ _ => rfl⟩
          have P7 : PwIs wc.drew p b T := P3.out.below ⟨rfl, rfl, rfl, Nat.le_refl _, fun _ _ => rfl⟩
          have P6 := Lib.hid (show PwIs w6 p b (addH T x) by rw [HADD.out]; exact P7.put HPM.out T6.out M6.out)
          have L6 := Lib.hid ((LW.out.below (BD.mono (by omega))).turned M7.out T6.out)
          have CD : Chg (fun q => q = b) wr wc.drew := Chg.of_below BD
          have C6 := Lib.hid (CW.out.trans (CD.trans T6.out (fun q hq => .inl hq)) (fun q hq => .inl hq))
          clear y0 y1 y2 c0 x0 x1 x2 x3 x4 x5 x6 M7 M6 T6 BD P7 CD PW LW CW
          go_wp2
          go_roundw
          case rel => exact ⟨k + 1, addH T x, by go_num, by omega, HTS, P6, L6, C6⟩
          case measure => simp [intOf]; omega
        case true =>
          have HG := Lib.hid (show getH T (keyH x) = some r0 by
            rcases HWHO.out with h | h
            · have := HFD.out
              rw [h.1] at this
              cases this
            · exact h)
          have HAR := Lib.hid (HTA.out r0 (getH_some HG.out).1)
          have HAY := Lib.hid (addH_yes HG.out)
          have RX3 := Lib.hid (blk_range7 K3.out)
          have RJ3 := Lib.hid (blk_range7 J3.out)
          clear HWHO HFD
          go_wp2_with (first | refine wpList_load_row 38 _ _ (by rfl) (.tmp 6) rfl (by rfl) RX3.out Try.underlying38 rfl (by kernel_rfl) ?_ | refine wpList_load_row 38 _ _ (by rfl) (.tmp 8) rfl (by rfl) RJ3.out Try.underlying38 rfl (by kernel_rfl) ?_)
          refine (newer_any x r0 _ HAX.out HAR.out).mono ?_
          rintro e5 w5 ⟨rfl, hb5⟩
          have B5 := Lib.hid (B3.out.trans (hb5.mono B3.out.size))
          have Y5 := Lib.hid (Y3.out.below hb5 Y3.out.lt)
          have K5 := Lib.hid (K3.out.below hb5 K3.out.lt)
          have P5 := Lib.hid (P3.out.below hb5)
          have M5 := Lib.hid (M3.out.below hb5 M3.out.lt)
          clear hb5 RX3 RJ3 B3 Y3 K3 P3 M3 J3
          obtain ⟨d, hd⟩ : ∃ d, nw x r0 = d := ⟨_, rfl⟩
          rw [hd] at HAY ⊢
          clear hd
          by_cases hd : 0 < d
          · have HADD := Lib.hid (HAY.out.1 (by omega))
            clear HAY
            obtain ⟨y0, y1, y2⟩ := Y5.out.three
            have c0 := P5.out.1.cell 0
            simp at c0
            obtain ⟨x0, x1, x2, x3, x4, x5, x6⟩ := K5.out.sevenH
            go_wp2_with fail
            go_still_tail 6, (by kernel_rfl)
            change wpList _ _ _ _ _ w5.drew
            have M7 := Lib.hid M5.out.drew
            go_wp2_with (at_mapUpdate; refine wpList_putHm x rfl (.tmp 40) (.tmp 41) (.tmp 42) rfl rfl rfl rfl M7.out HWF.out (by rw [HPM.out.length_eq]; exact HTL.out) ?_; intro w6 hm6 ht6; have M6 := Lib.hid hm6; have T6 := Lib.hid (chg_of_turned ht6); clear hm6 ht6)
            have BD : Below wr.heap.size wr w5.drew := B5.out.trans ⟨rfl, rfl, rfl, Nat.le_refl _, fun _ _ => rfl⟩
            have P7 : PwIs w5.drew p b T := P5.out.below ⟨rfl, rfl, rfl, Nat.le_refl _, fun _ _ => rfl⟩
            have P6 := Lib.hid (show PwIs w6 p b (addH T x) by rw [HADD.out]; exact P7.put HPM.out T6.out M6.out)
            have L6 := Lib.hid ((LW.out.below (BD.mono (by omega))).turned M7.out T6.out)
            have CD : Chg (fun q => q = b) wr w5.drew := Chg.of_below BD
            have C6 := Lib.hid (CW.out.trans (CD.trans T6.out (fun q hq => .inl hq)) (fun q hq => .inl hq))
            clear y0 y1 y2 c0 x0 x1 x2 x3 x4 x5 x6 M7 M6 T6 BD P7 CD PW LW CW
            go_wp2
            go_roundw
            case rel => exact ⟨k + 1, addH T x, by go_num, by omega, HTS, P6, L6, C6⟩
            case measure => simp [intOf]; omega
          · have HADD := Lib.hid (HAY.out.2 (by omega))
            have P6 := Lib.hid (show PwIs w5 p b (addH T x) by rw [HADD.out]; exact P5.out)
            have L6 := Lib.hid (LW.out.below (B5.out.mono (by omega)))
            have C6 := Lib.hid (CW.out.trans (Chg.of_below (F := fun q => q = b) B5.out) (fun q hq => .inl hq))
            clear HAY P5 PW LW CW
            go_wp2
            go_roundw
            case rel => exact ⟨k + 1, addH T x, by go_num, by omega, HTS, P6, L6, C6⟩
            case measure => simp [intOf]; omega
    · have hlt' : ¬ (k : Int) < (n : Int) := by omega
      have HT := Lib.hid (show T = addsH S L by rw [TW.out, List.take_of_length_le (by have := HLN.out; omega)])
      have HB2 := PW.out.1
      obtain ⟨hBp, ⟨R, hM, hP⟩, hs⟩ := PW.out
      have HM := Lib.hid hM
      have HPL := Lib.hid hP.length_eq
      have c0 := hBp.cell 0
      simp at c0
      clear hBp hM hP hs HB2
      go_wp2_with (at_len; refine wpList_lenHm rfl _ rfl rfl HM.out ?_)
      show Q (.returned (.int .i64 (R.length : Int))) wr
      rw [← HQ.out]
      exact ⟨by rw [HPL.out, HT.out], by rw [← HT.out]; exact PW.out, CW.out⟩
end Go.Proofs.Ytnnkcgbnhjkahaa
