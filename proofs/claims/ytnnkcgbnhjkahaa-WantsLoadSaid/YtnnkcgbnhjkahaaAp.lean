/- The walk of the statement WantsAnswer. Conditions: what the words say. -/
import Derived.Test.YtnnkcgbnhjkahaaAo
import Derived.Test.YtnnkcgbnhjkahaaAk
import Derived.Test.YtnnkcgbnhjkahaaJas
import Derived.Test.YtnnkcgbnhjkahaaJaj
namespace Go.Proofs.Ytnnkcgbnhjkahaa
open Go.RowKit Go.Lib Go.Sort Go.Deep

theorem rc_item {w : World} {base n c j : Nat} {A : Option Addr} {R : List Rc} {r : Rc} (h : w.ownsRow base 62 9 (.slice A n c) n (rcCells R)) (hj : R[j]? = some r) : ∃ q, A = some ⟨q, 0, none⟩ ∧ base ≤ q ∧ q < w.heap.size ∧ n ≤ c ∧ c ≤ maxLen ∧ w.rangeAt q (j * 9) [.int .i64 r.h.age, .int .i64 r.h.kind, .int .i64 r.h.id, .int .i64 r.h.adv, .int .i64 r.h.seq, .int .i64 r.h.sum, .int .i64 r.h.long, .slice r.p.a r.p.n r.p.c, .slice r.q.a r.q.n r.q.c] := by
  obtain ⟨g, e, h1, h2, h3, h4, h5⟩ := own_item (enc := Rc.cells) (k := 9) (fun _ => rfl) (by omega) h hj
  refine ⟨g, e, h1, h2, h3, h4, fun i v hv => ?_⟩
  have hi := (List.getElem?_eq_some_iff.1 hv).1
  rw [h5 i (by simpa using hi)]
  exact hv
theorem rc_len {w : World} {base n : Nat} {v : Value} {R : List Rc} (h : w.ownsRow base 62 9 v n (rcCells R)) : R.length = n := by
  have := h.1
  rw [rcCells_length] at this
  omega
/-- What Answer told, as the walk goes on with it. -/
def Told15 (w : World) (S : List La) (K : List Ky) (t : Bool) (A : Option Addr) (n : Nat) : Prop :=
  (t = false ∧ n = 0 ∧ ∃ k ∈ K, getL S k = none) ∨ (t = true ∧ (∀ k ∈ K, getL S k ≠ none) ∧ Las w w.heap.size A n (gotL S K) ∧ n ≤ 1000)
theorem told_of {w w' : World} {S : List La} {K : List Ky} {e : Ending} (h : AnsQ S K w e w') (hK : K.length ≤ 1000) (hS : ∀ x ∈ S, x.L.length ≤ 1000 ∧ x.M.length ≤ 1000) : Below w.heap.size w w' ∧ ∃ t A n c, e = .returned (.tuple #[.slice A n c, .bool t]) ∧ Told15 w' S K t A n := by
  obtain ⟨hb, ⟨hno, rfl⟩ | ⟨A, n, c, R, hall, rfl, ho, ha⟩⟩ := h
  · exact ⟨hb, false, none, 0, 0, rfl, .inl ⟨rfl, rfl, hno⟩⟩
  · refine ⟨hb, true, A, n, c, rfl, .inr ⟨rfl, hall, las_of_own ho ha (fun x hx => ?_), ?_⟩⟩
    · unfold gotL at hx
      obtain ⟨k, hk, rfl⟩ := List.mem_map.1 hx
      cases hg : getL S k with
      | none => exact absurd hg (hall k hk)
      | some y => exact hS y (getL_some hg).1
    · have h1 := rc_len ho
      have h2 := ha.1
      rw [h1] at h2
      unfold gotL at h2
      rw [List.length_map] at h2
      omega
set_option maxRecDepth 20000 in
set_option maxHeartbeats 16000000 in
theorem answer_walk {w : World} {A : Option Addr} {n c : Nat} {T : List La} {Ak : Option Addr} {nk ck : Nat} {K : List Ky} (hT : Las w w.heap.size A n T) (hn : n ≤ maxLen) (hK : Kys w w.heap.size Ak nk K ∧ ∀ k ∈ K, wfKy k) (hnk : nk ≤ maxLen) :
    Calls Try.prog 4 #[.slice A n c, .slice Ak nk ck] w fun e w' => e = .returned (.bool true) ∧ Below w.heap.size w w' := by
  generalize hQ : (fun (e : Ending) (w' : World) => e = .returned (.bool true) ∧ Below w.heap.size w w') = Q
  have HQ := Lib.hid hQ
  have HT := Lib.hid hT
  have HN := Lib.hid hn
  have HK := Lib.hid hK
  unfold maxLen at hnk
  clear hT hn hK hQ
  go_enter Try.func4, Try.ntmps4
  go_wp2_with fail
  refine (wakes_any _).mono ?_
  rintro e1 w1 ⟨rfl, hb1⟩
  have B1 := Lib.hid hb1
  clear hb1
  go_wp2_with fail
  refine (many15_any A n c T w.heap.size w1 (HT.out.below B1.out) B1.out.size HN.out).mono ?_
  rintro e2 w2 ⟨⟨t, rfl, ht⟩, hb2⟩
  have B2 := Lib.hid (B1.out.trans (hb2.mono B1.out.size))
  clear hb2 B1
  cases t
  case true =>
    go_wp2
    show Q (.returned (.bool true)) w2
    rw [← HQ.out]
    exact ⟨rfl, B2.out⟩
  obtain ⟨hn60, h20⟩ := ht rfl
  have H20 := Lib.hid h20
  clear ht HN h20
  by_cases hk60 : 60 < nk
  · have d60 : decide (60 < (nk : Int)) = true := by simp; omega
    go_wp2
    show Q (.returned (.bool true)) w2
    rw [← HQ.out]
    exact ⟨rfl, B2.out⟩
  have d60 : decide (60 < (nk : Int)) = false := by simp; omega
  go_wp2_with (first | (go_at_call 26; refine (new_db 40 _).mono ?_; rintro e1 w3 ⟨p, F1, rfl, hb1, hd1⟩) | (go_at_call 27; refine (r7New_db 40 _).mono ?_; rintro e2 w4 ⟨rfl, hb2, F2, hd2⟩))
  rw [show roomOf 40 = 40 by decide] at hd1 hd2
  have B4 := Lib.hid (hb1.trans (hb2.mono hb1.size))
  have hlo2 := hb1.size
  have D2 := Lib.hid (show Pair w4 w2.heap.size w3.heap.size p w3.heap.size [] F1 F2 from ⟨hd1.chg (F' := fun _ => False) (Chg.of_below hb2) (fun _ _ hf => hf), hd2, fun q h1 h2 => by
    have := (hd1.foot h1).2
    have := (hd2.foot h2).1
    omega⟩)
  clear hb1 hb2 hd1 hd2 d60
  have BW2 := Lib.hid B2.out.size
  generalize w3.heap.size = lo2 at *
  have HT2 := Lib.hid (HT.out.below B2.out)
  have HK2 := Lib.hid (HK.out.1.below B2.out)
  go_wp2_with fail
  go_loopw [28] (fun s28 wr => ∃ (k : Nat) (S : List La) (F F' : Nat → Prop), s28 = .int .i64 k ∧ k ≤ n ∧ Hid (Pair wr w2.heap.size lo2 p lo2 S F F') ∧ Hid (Below w2.heap.size w2 wr)) (fun s28 _ => n - (intOf s28).toNat)
  case atStart => exact ⟨0, [], F1, F2, rfl, Nat.zero_le _, D2, B4⟩
  case round =>
    clear D2 B4
    obtain ⟨k, S, F, F', rfl, hk, DW, BW⟩ := hrel
    by_cases hlt : k < n
    · have hlt' : (k : Int) < (n : Int) := by omega
      have hB : w.heap.size ≤ w2.heap.size := BW2.out
      obtain ⟨b, o, x, A1, n1, c1, A2, n2, c2, rfl, hb, hx, hr, hL, hM, hm1, hm2⟩ := las_item (HT2.out.below (BW.out.mono hB)) hlt
      have HR := Lib.hid hr
      have HL := Lib.hid hL
      have HM := Lib.hid hM
      obtain ⟨l1, l2⟩ := H20.out x (List.mem_of_getElem? hx)
      have l3 : n1 ≤ 20 := by have := hL.1; omega
      have l4 : n2 ≤ 20 := by have := hM.1; omega
      have hz := BW.out.size
      have BX := Lib.hid (BW.out.alloc hz (.cells #[.int .i64 x.h.age, .int .i64 x.h.kind, .int .i64 x.h.id, .int .i64 x.h.adv, .int .i64 x.h.seq, .int .i64 x.h.sum, .int .i64 x.h.long, .slice A1 n1 c1, .slice A2 n2 c2] 62))
      have KX := Lib.hid (Blk.new wr 62 #[.int .i64 x.h.age, .int .i64 x.h.kind, .int .i64 x.h.id, .int .i64 x.h.adv, .int .i64 x.h.seq, .int .i64 x.h.sum, .int .i64 x.h.long, .slice A1 n1 c1, .slice A2 n2 c2])
      have DX := Lib.hid (DW.out.below ((Below.refl wr.heap.size wr).alloc (Nat.le_refl _) (.cells #[.int .i64 x.h.age, .int .i64 x.h.kind, .int .i64 x.h.id, .int .i64 x.h.adv, .int .i64 x.h.seq, .int .i64 x.h.sum, .int .i64 x.h.long, .slice A1 n1 c1, .slice A2 n2 c2] 62)))
      have LX := Lib.hid (hL.alloc (by omega) (.cells #[.int .i64 x.h.age, .int .i64 x.h.kind, .int .i64 x.h.id, .int .i64 x.h.adv, .int .i64 x.h.seq, .int .i64 x.h.sum, .int .i64 x.h.long, .slice A1 n1 c1, .slice A2 n2 c2] 62))
      have MX := Lib.hid (hM.alloc (by omega) (.cells #[.int .i64 x.h.age, .int .i64 x.h.kind, .int .i64 x.h.id, .int .i64 x.h.adv, .int .i64 x.h.seq, .int .i64 x.h.sum, .int .i64 x.h.long, .slice A1 n1 c1, .slice A2 n2 c2] 62))
      have RX := Lib.hid (blk_range7 KX.out)
      have NX := Lib.hid (show (∀ q, F q → q ≠ wr.heap.size) ∧ (∀ q, F' q → q ≠ wr.heap.size) from ⟨fun q hq => by have := (DW.out.1.foot hq).2; omega, fun q hq => by have := (DW.out.2.1.foot hq).2; omega⟩)
      clear hr hx hL hM DW BW l1 l2
      go_wp2_with (first | refine wpList_load_row 62 _ _ (by rfl) (.tmp 30) rfl (by rfl) HR.out Try.underlying62 rfl (by kernel_rfl) ?_ | (refine wpList_load_row 62 _ _ (by rfl) (.tmp 8) rfl (by rfl) RX.out Try.underlying62 rfl (by kernel_rfl) ?_))
      generalize wr.alloc (.cells #[.int .i64 x.h.age, .int .i64 x.h.kind, .int .i64 x.h.id, .int .i64 x.h.adv, .int .i64 x.h.seq, .int .i64 x.h.sum, .int .i64 x.h.long, .slice A1 n1 c1, .slice A2 n2 c2] 62) = wx at *
      generalize wr.heap.size = X at *
      have hzx := BX.out.size
      refine (put_db DX.out.1 DX.out.sort hzx x.h x.L x.M A1 A2 n1 c1 n2 c2 w.heap.size LX.out MX.out (by omega) (by omega) (by omega)).mono ?_
      rintro e3 w3 ⟨rfl, F3, hd3, hc3, hf3⟩
      have hB3 : Below w2.heap.size wx w3 := hc3.to_below (fun q hq => (DX.out.1.foot hq).1) hzx
      have B3 := Lib.hid (BX.out.trans hB3)
      have hz3 := B3.out.size
      have R3 := Lib.hid (show RefDb w3 lo2 lo2 40 S F' from DX.out.2.1.chg hc3 (fun q h1 h2 => DX.out.2.2 q h2 h1))
      have P3 := Lib.hid hd3
      have J3 := Lib.hid (show ∀ q, F3 q → ¬ F' q from fun q h1 h2 => by
        rcases hf3 q h1 with h | h
        · exact DX.out.2.2 q h h2
        · have := (DX.out.2.1.foot h2).2
          omega)
      have K3 := Lib.hid (KX.out.chg hc3 (fun h => NX.out.1 X h rfl))
      have RX3 := Lib.hid (blk_range7 K3.out)
      have L3 := Lib.hid (LX.out.below (hB3.mono hB))
      have M3 := Lib.hid (MX.out.below (hB3.mono hB))
      clear hd3 hc3 hf3 hB3 DX KX LX MX RX BX NX HR
      go_wp2_with (refine wpList_load_row 62 _ _ (by rfl) (.tmp 8) rfl (by rfl) RX3.out Try.underlying62 rfl (by kernel_rfl) ?_)
      refine (r7Put_db R3.out (by have := (R3.out.foot (q := lo2) (by obtain ⟨_, _, _, _, -, -, -, -, -, -, -, -, hF⟩ := R3.out; exact (hF lo2).2 (.inl rfl))).2; omega) x.h x.L x.M A1 A2 n1 c1 n2 c2 w.heap.size L3.out M3.out (by omega) (by omega) (by omega)).mono ?_
      rintro e4 w4 ⟨rfl, F4, hd4, hc4, hf4⟩
      have hB4 : Below w2.heap.size w3 w4 := hc4.to_below (fun q hq => Nat.le_trans hlo2 (R3.out.foot hq).1) hz3
      have B4 := Lib.hid (B3.out.trans hB4)
      have D4 := Lib.hid (show Pair w4 w2.heap.size lo2 p lo2 (putS 40 S ⟨x.h, x.L, x.M⟩) F3 F4 from ⟨P3.out.chg hc4 (fun q h1 h2 => J3.out q h1 h2), hd4, fun q h1 h2 => by
        rcases hf4 q h2 with h | h
        · exact J3.out q h1 h
        · have := (P3.out.foot h1).2
          omega⟩)
      clear hd4 hc4 hf4 hB4 R3 P3 J3 K3 RX3 L3 M3 B3 HL HM
      go_wp2
      go_roundw
      case rel => exact ⟨k + 1, _, F3, F4, by go_num, by omega, D4, B4⟩
      case measure => simp [intOf]; omega
    · have hlt' : ¬ (k : Int) < (n : Int) := by omega
      have BA := Lib.hid (B2.out.trans (BW.out.mono BW2.out))
      have HKA := Lib.hid (HK2.out.below (BW.out.mono BW2.out))
      have hkl := HK.out.1.1
      have HSS := Lib.hid (show ∀ x ∈ S, x.L.length ≤ 1000 ∧ x.M.length ≤ 1000 by
        obtain ⟨-, ⟨_, _, _, _, -, -, -, -, -, -, -, h5, -⟩, -⟩ := DW.out
        exact fun x hx => right_short (h5 x hx))
      clear HT2 HK2 B2 BW H20
      go_wp2_with fail
      refine (answer_any (F := F) (B := w.heap.size) (.inr ⟨w2.heap.size, p, 40, rfl, DW.out.1, DW.out.sort⟩) HKA.out BA.out.size (by omega) HK.out.2).mono ?_
      rintro e5 w5 hA5
      obtain ⟨hb5, tt, A5, n5, c5, rfl, hT5⟩ := told_of hA5 (by omega) HSS.out
      have B5 := Lib.hid (BA.out.trans (hb5.mono BA.out.size))
      have R5 := Lib.hid (show RefDb w5 lo2 lo2 40 S F' from DW.out.2.1.chg (Chg.of_below (F := fun _ => False) hb5) (fun _ _ hf => hf))
      have T5 := Lib.hid hT5
      have HK5 := Lib.hid (HKA.out.below (hb5.mono BA.out.size))
      clear hA5 hb5 hT5 DW BA HKA
      obtain ⟨A0, n0, c0, R0, hB0, hlo0, hO0, hA0, hs0, hl0, -, h50, -⟩ := R5.out
      have HB0 := Lib.hid hB0
      have HO0 := Lib.hid hO0
      have HA0 := Lib.hid hA0
      have O6 := Lib.hid (World.ownsRow_nil w5 w5.heap.size 62 9)
      have B6 := Lib.hid (Below.refl w5.heap.size w5)
      have HZ5 := Lib.hid B5.out.size
      clear hB0 hlo0 hO0 hA0 hs0 hl0 h50
      go_wp2_with fail
      go_loopw [11, 47] (fun s11 s47 wr => ∃ (j c' : Nat) (A' : Option Addr) (R : List Rc), s47 = .int .i64 j ∧ s11 = .slice A' j c' ∧ j ≤ nk ∧ Hid (wr.ownsRow w5.heap.size 62 9 (.slice A' j c') j (rcCells R)) ∧ Hid (All2 (RcIs wr lo2) R ((gotL S K).take j)) ∧ Hid (∀ k ∈ K.take j, getL S k ≠ none) ∧ Hid (Below w5.heap.size w5 wr)) (fun _ s47 _ => nk - (intOf s47).toNat)
      case atStart => exact ⟨0, 0, none, [], rfl, rfl, Nat.zero_le _, Lib.hid (by simpa [rcCells] using O6.out), Lib.hid All2.nil, Lib.hid (fun k hk => by simp at hk), B6⟩
      case round =>
        clear O6 B6
        obtain ⟨j, c', A', R, rfl, rfl, hj, OW, AW, NW, BW⟩ := hrel
        have hzr := BW.out.size
        by_cases hlt2 : j < nk
        · have hlt3 : (j : Int) < (nk : Int) := by omega
          obtain ⟨g, o, ky, rfl, hg, hkk, y0, y1, y2⟩ := kys_item (HK5.out.below (BW.out.mono HZ5.out)) hlt2
          have HKJ := Lib.hid hkk
          have BX := Lib.hid ((Below.refl wr.heap.size wr).alloc (Nat.le_refl _) (.cells #[.int .i64 ky.kind, .int .i64 ky.id, .int .i64 ky.adv] 47))
          have RW := Lib.hid (show RefDb (wr.alloc (.cells #[.int .i64 ky.kind, .int .i64 ky.id, .int .i64 ky.adv] 47)) lo2 lo2 40 S F' from R5.out.chg (Chg.of_below (F := fun _ => False) (BW.out.trans (BX.out.mono hzr))) (fun _ _ hf => hf))
          obtain ⟨k0, k1, k2⟩ := (Blk.new wr 47 #[.int .i64 ky.kind, .int .i64 ky.id, .int .i64 ky.adv]).three
          clear hkk
          go_wp2_with fail
          refine (r7Find_db RW.out ky).mono ?_
          rintro e6 w6 ⟨v, rfl, hb6, hF6⟩
          clear k0 k1 k2 y0 y1 y2 RW
          have B6 := Lib.hid (BX.out.trans (hb6.mono BX.out.size))
          clear hb6 BX
          rcases hF6 with ⟨hno, rfl⟩ | ⟨i, x, hsome, rfl, hi⟩
          · obtain ⟨rfl, rfl⟩ : tt = false ∧ n5 = 0 := by
              rcases T5.out with ⟨h1, h2, -⟩ | ⟨-, h2, -⟩
              · exact ⟨h1, h2⟩
              · exact absurd hno (h2 ky (List.mem_of_getElem? HKJ.out))
            have BE := Lib.hid (B5.out.trans ((BW.out.trans (B6.out.mono hzr)).mono HZ5.out))
            clear hno
            go_wp2
            show Q (.returned (.bool true)) w6
            rw [← HQ.out]
            exact ⟨rfl, BE.out⟩
          · have HGX := Lib.hid (show (gotL S K)[j]? = some x by
              unfold gotL
              rw [List.getElem?_map, HKJ.out, Option.map_some, hsome]
              rfl)
            have HNN := Lib.hid (show ∀ k ∈ K.take (j + 1), getL S k ≠ none from fun k' hk' => by
              rw [take_snocA K j ky HKJ.out] at hk'
              rcases List.mem_append.1 hk' with h | h
              · exact NW.out k' h
              · rw [List.mem_singleton.1 h, hsome]
                exact fun e => by cases e)
            have HW6 := Lib.hid (BW.out.trans (B6.out.mono hzr))
            obtain ⟨r, hr, hrx⟩ := (all2_imp HA0.out (fun r _ y hy => RcIs.chg hy (Chg.of_below (F := fun _ => False) HW6.out) (fun _ _ hf => hf))).at' hi
            obtain ⟨q, rfl, hq1, hq2, hq3, hq4, hqr⟩ := rc_item (own_below2 HO0.out HW6.out) hr
            have g0 := (HB0.out.below HW6.out HB0.out.lt).cell 0
            simp at g0
            have hil : i < n0 := by
              have h1 := (List.getElem?_eq_some_iff.1 hr).1
              have := rc_len HO0.out
              omega
            have HRR := Lib.hid hqr
            have HRX := Lib.hid hrx
            have i_p : (0 : Int) ≤ (i : Int) := by omega
            have i_n : ¬ (i : Int) < 0 := by omega
            have i_u : (i : Int) < (n0 : Int) := by omega
            have i_t : ((i : Int)).toNat = i := by omega
            have hz6 : w5.heap.size ≤ w6.heap.size := HW6.out.size
            have O6 := Lib.hid (own_chg OW.out (Chg.of_below (F := fun _ => False) B6.out) (fun _ _ hf => hf))
            have A6 := Lib.hid (all2_imp AW.out (fun r _ y hy => RcIs.chg hy (Chg.of_below (F := fun _ => False) B6.out) (fun _ _ hf => hf)))
            unfold maxLen at hq4
            clear hr hrx hqr hsome hi NW OW AW BW B6
            go_wp2_with (first | (refine wpList_load_row 62 _ _ (by rfl) (.tmp 69) rfl (by rfl) HRR.out Try.underlying62 rfl (by kernel_rfl) ?_) | (at_builtin; refine wpList_app_rc rfl (.tmp 63) (.tmp 71) rfl r rfl (by rfl) (by rfl) O6.out (by omega) hz6 ?_; intro A7 c7 w7 HO7 HG7))
            have C7 := Lib.hid ((Chg.of_below (F := fun q => (Value.slice A' j c').ownBlock = some q) ((Below.refl w6.heap.size w6).alloc (Nat.le_refl _) (.cells #[.int .i64 r.h.age, .int .i64 r.h.kind, .int .i64 r.h.id, .int .i64 r.h.adv, .int .i64 r.h.seq, .int .i64 r.h.sum, .int .i64 r.h.long, .slice r.p.a r.p.n r.p.c, .slice r.q.a r.q.n r.q.c] 62))).trans (Chg.of_grown HG7.out (fun q hq => hq)) (fun q hq => .inl hq))
            have O7 := Lib.hid (show w7.ownsRow w5.heap.size 62 9 (.slice A7 (j + 1) c7) (j + 1) (rcCells (R ++ [r])) by
              rw [rcCells_append, show rcCells [r] = r.cells by simp [rcCells]]
              exact HO7.out)
            have A7' := Lib.hid (show All2 (RcIs w7 lo2) (R ++ [r]) ((gotL S K).take (j + 1)) by
              rw [take_snocA _ j x HGX.out]
              exact all2_snoc (all2_imp A6.out (fun r _ y hy => RcIs.chg hy C7.out (fun q hq => hy.apart O6.out hq))) (HRX.out.chg C7.out (fun q hq => HRX.out.apart O6.out hq)))
            have B7 := Lib.hid (HW6.out.trans (C7.out.to_below (fun q hq => (O6.out.lt q hq).1) hz6))
            clear HO7 HG7 C7 O6 A6 HRR HRX HW6 g0 i_p i_n i_u i_t
            go_roundw
            case rel => exact ⟨j + 1, c7, A7, _, by go_num, by first | rfl | go_num, by omega, O7, A7', HNN, B7⟩
            case measure => simp [intOf]; omega
        · have hjn : j = nk := by omega
          subst hjn
          have HTK := Lib.hid (show K.take j = K from List.take_of_length_le (by omega))
          have HTG := Lib.hid (show (gotL S K).take j = gotL S K from List.take_of_length_le (by unfold gotL; rw [List.length_map]; omega))
          have HNO := NW.out
          rw [HTK.out] at HNO
          obtain ⟨rfl, HL5, h5⟩ : tt = true ∧ Las w5 w5.heap.size A5 n5 (gotL S K) ∧ n5 ≤ 1000 := by
            rcases T5.out with ⟨-, -, k, hk, h3⟩ | ⟨h1, -, h3, h4⟩
            · exact absurd h3 (HNO k hk)
            · exact ⟨h1, h3, h4⟩
          obtain rfl : n5 = j := by
            have h1 := HL5.1
            unfold gotL at h1
            rw [List.length_map] at h1
            omega
          have HL5H := Lib.hid (HL5.below BW.out)
          have AW2 := AW.out
          rw [HTG.out] at AW2
          have HLW := Lib.hid (las_of_own OW.out AW2 (fun x hx => by
            unfold gotL at hx
            obtain ⟨k, hk, rfl⟩ := List.mem_map.1 hx
            cases hg : getL S k with
            | none => exact absurd hg (HNO k hk)
            | some y => exact HSS.out y (getL_some hg).1))
          clear HL5 AW2 HNO OW AW NW
          go_wp2_with fail
          refine (r7same_yes A5 A' n5 c5 c' w5.heap.size wr.heap.size (gotL S K) wr HL5H.out HLW.out hzr (Nat.le_refl _) (by unfold maxLen; omega)).mono ?_
          rintro e8 w8 ⟨rfl, hb8⟩
          have BE := Lib.hid (B5.out.trans ((BW.out.trans (hb8.mono hzr)).mono HZ5.out))
          clear hb8
          go_wp2
          show Q (.returned (.bool true)) w8
          rw [← HQ.out]
          exact ⟨rfl, BE.out⟩
end Go.Proofs.Ytnnkcgbnhjkahaa
