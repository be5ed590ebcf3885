/- The walk of the statement WantsLoad. Conditions: what the words say. -/
import Derived.Test.YtnnkcgbnhjkahaaAp
import Derived.Test.YtnnkcgbnhjkahaaAx
import Derived.Test.YtnnkcgbnhjkahaaJat
namespace Go.Proofs.Ytnnkcgbnhjkahaa
open Go.RowKit Go.Lib Go.Sort Go.Deep

theorem addsH_perm : ∀ {L S : List Hd}, (L.map keyH).Nodup → (∀ a ∈ S, ∀ x ∈ L, keyH a ≠ keyH x) → (addsH S L).Perm (S ++ L)
  | [], S, _, _ => by simp [addsH]
  | x :: L, S, hn, hd => by
    rw [List.map_cons, List.nodup_cons] at hn
    have hg : getH S (keyH x) = none := getH_none.2 fun r hr => hd r hr x List.mem_cons_self
    have ha : addH S x = insH x S := by
      unfold addH
      rw [hg]
    have h1 : (addsH (insH x S) L).Perm (insH x S ++ L) := addsH_perm hn.2 (fun a ha y hy e => by
      rcases mem_insH.1 ha with rfl | h
      · exact hn.1 (e ▸ List.mem_map.2 ⟨y, hy, rfl⟩)
      · exact hd a h y (List.mem_cons_of_mem _ hy) e)
    show (addsH (addH S x) L).Perm _
    rw [ha]
    refine h1.trans (((insH_perm x S).append_right L).trans ?_)
    exact (List.perm_middle (a := x) (l₁ := S) (l₂ := L)).symm
theorem adds_nil {M : List Hd} (hn : (M.map keyH).Nodup) : (addsH [] M).Perm M := addsH_perm hn (fun a ha => by cases ha)
theorem take_head {S : List Hd} (hs : SortH S) {i : Nat} {x : Hd} (hi : S[i]? = some x) : takeE (S.drop i) x = 0 ∧ takeS (S.drop i) x = S.drop (i + 1) := by
  obtain ⟨hl, he⟩ := List.getElem?_eq_some_iff.1 hi
  have hd : S.drop i = x :: S.drop (i + 1) := by rw [List.drop_eq_getElem_cons hl, he]
  have hs2 : SortH (x :: S.drop (i + 1)) := by
    rw [← hd]
    exact List.Pairwise.drop hs
  have hg : getH (x :: S.drop (i + 1)) (keyH x) = some x := getH_mem hs2.nodup List.mem_cons_self
  have hr : restH (x :: S.drop (i + 1)) (keyH x) = S.drop (i + 1) := by
    unfold restH
    rw [List.filter_cons_of_neg (by rw [(sameKy_iff _ _).2 rfl]; decide), List.filter_eq_self]
    intro y hy
    cases e : sameKy (keyH y) (keyH x)
    · rfl
    · exact absurd ((sameKy_iff _ _).1 e).symm ((List.pairwise_cons.1 hs2.nodup).1 y hy)
  rw [hd]
  unfold takeE takeS
  rw [hg]
  dsimp only
  rw [nw_self, if_neg (by omega), if_neg (by omega), hr]
  exact ⟨rfl, rfl⟩
theorem Synced.of_mem {S D D' S' : List _} (h : Synced S D S') (hm : ∀ x, x ∈ D ↔ x ∈ D') : Synced S D' S' :=
  ⟨h.sort, fun x hx => h.had x ((hm x).2 hx), fun k hk => h.rest k (fun x hx => hk x ((hm x).1 hx))⟩
theorem take_apart {S : List Hd} (hs : SortH S) {i : Nat} {x : Hd} (hi : S[i]? = some x) : ∀ g ∈ S.take i, keyH g ≠ keyH x := by
  intro g hg
  obtain ⟨j, hj⟩ := List.getElem?_of_mem hg
  have hjl := (List.getElem?_eq_some_iff.1 hj).1
  rw [List.length_take] at hjl
  rw [List.getElem?_take_of_lt (by omega)] at hj
  obtain ⟨h1, e1⟩ := List.getElem?_eq_some_iff.1 hj
  obtain ⟨h2, e2⟩ := List.getElem?_eq_some_iff.1 hi
  have := List.pairwise_iff_getElem.1 hs.nodup j i h1 h2 (by omega)
  rwa [e1, e2] at this
theorem toldL_lt (S : List La) (x : La) (h0 : 0 ≤ x.h.age) (h1 : x.h.age ≤ 60) : toldL (S ++ [x]) = if x.h.age < 60 then toldL S ++ [x.h] else toldL S := by
  rw [toldL_snoc]
  by_cases h : x.h.age < 60
  · rw [if_pos h, if_neg]
    unfold goneB
    simp
    omega
  · rw [if_neg h, if_pos]
    unfold goneB
    simp
    omega
set_option maxRecDepth 20000 in
set_option maxHeartbeats 64000000 in
theorem load_walk {w : World} {A A2 : Option Addr} {n c n2 c2 : Nat} {T T2 : List La} (hT : Las w w.heap.size A n T) (hn : n ≤ maxLen) (hT2 : Las w w.heap.size A2 n2 T2) (hn2 : n2 ≤ maxLen) :
    Calls Try.prog 5 #[.slice A n c, .slice A2 n2 c2] w fun e w' => e = .returned (.bool true) ∧ Below w.heap.size w w' := by
  generalize hQ : (fun (e : Ending) (w' : World) => e = .returned (.bool true) ∧ Below w.heap.size w w') = Q
  have HQ := Lib.hid hQ
  have HT := Lib.hid hT
  have HN := Lib.hid hn
  have HT2 := Lib.hid hT2
  have HN2 := Lib.hid hn2
  clear hT hn hT2 hn2 hQ
  go_enter Try.func5, Try.ntmps5
  go_wp2_with fail
  refine (wakes_any _).mono ?_
  rintro e1 w1 ⟨rfl, hb1⟩
  have B1 := Lib.hid hb1
  clear hb1
  go_wp2_with fail
  refine (many15_any A n c T w.heap.size w1 (HT.out.below B1.out) B1.out.size HN.out).mono ?_
  rintro e2 w2 ⟨⟨t, rfl, ht⟩, hb2⟩
  have B2 := Lib.hid (B1.out.trans (hb2.mono B1.out.size))
  clear hb2 B1
  cases t
  case true =>
    go_wp2
    show Q (.returned (.bool true)) w2
    rw [← HQ.out]
    exact ⟨rfl, B2.out⟩
  obtain ⟨hn60, h20⟩ := ht rfl
  have H20 := Lib.hid h20
  clear ht HN h20
  go_wp2_with fail
  refine (many15_any A2 n2 c2 T2 w.heap.size w2 (HT2.out.below B2.out) B2.out.size HN2.out).mono ?_
  rintro e2 w3 ⟨⟨t, rfl, ht⟩, hb3⟩
  have B3 := Lib.hid (B2.out.trans (hb3.mono B2.out.size))
  clear hb3 B2
  cases t
  case true =>
    go_wp2
    show Q (.returned (.bool true)) w3
    rw [← HQ.out]
    exact ⟨rfl, B3.out⟩
  obtain ⟨hn60', h20⟩ := ht rfl
  have H20' := Lib.hid h20
  clear ht HN2 h20
  go_wp2_with fail
  refine (new_db 40 _).mono ?_
  rintro e4 w4 ⟨p, F1, rfl, hb4, hd4⟩
  rw [show roomOf 40 = 40 by decide] at hd4
  have B4 := Lib.hid (B3.out.trans (hb4.mono B3.out.size))
  have PA4 := Lib.hid hd4
  have hloB := B3.out.size
  clear hb4 hd4 B3
  generalize w3.heap.size = lo at *
  go_wp2_with fail
  refine (new_db 40 _).mono ?_
  rintro e5 w5 ⟨p2, F2, rfl, hb5, hd5⟩
  rw [show roomOf 40 = 40 by decide] at hd5
  have B5 := Lib.hid (B4.out.trans (hb5.mono B4.out.size))
  have PA5 := Lib.hid (PA4.out.chg (F' := fun _ => False) (Chg.of_below hb5) (fun _ _ hf => hf))
  have PB5 := Lib.hid hd5
  have DJ5 := Lib.hid (show ∀ q, F1 q → ¬ F2 q from fun q h1 h2 => by
    have := (PA4.out.foot h1).2
    have := (hd5.foot h2).1
    omega)
  have hX1 := B4.out.size
  clear hb5 hd5 B4 PA4
  generalize w4.heap.size = X1 at *
  generalize hgw : w.heap.size = bw at *
  have HGW := Lib.hid hgw
  clear hgw
  go_wp2_with fail
  go_loopw [33] (fun s33 wr => ∃ (k : Nat) (F : Nat → Prop), s33 = .int .i64 k ∧ k ≤ n ∧ Hid (PDb wr lo p 40 (bothL (T.take k)) F) ∧ Hid (SortL (bothL (T.take k))) ∧ Hid (PDb wr X1 p2 40 [] F2) ∧ Hid (∀ q, F q → ¬ F2 q) ∧ Hid (Below bw w wr)) (fun s33 _ => n - (intOf s33).toNat)
  case atStart => exact ⟨0, F1, rfl, Nat.zero_le _, PA5, Lib.hid List.Pairwise.nil, PB5, DJ5, B5⟩
  case round =>
    clear PA5 PB5 DJ5 B5
    obtain ⟨k, F, rfl, hk, PAW, SAW, PBW, DJW, BW⟩ := hrel
    have hz : bw ≤ wr.heap.size := by have := BW.out.size; have := HGW.out; omega
    have hzlo : lo ≤ wr.heap.size := by
      obtain ⟨_, _, _, hB, h1, -⟩ := PAW.out
      have := hB.lt
      omega
    by_cases hlt : k < n
    · have hlt' : (k : Int) < (n : Int) := by omega
      obtain ⟨b, o, x, A1, n1, c1, A2, n2, c2, rfl, hb, hx, hr, hL, hM, hm1, hm2⟩ := las_item (HT.out.below BW.out) hlt
      have HR := Lib.hid hr
      have HTK := Lib.hid (show bothL (T.take (k + 1)) = putS 40 (bothL (T.take k)) x by rw [take_snocA T k x hx, bothL_snoc])
      obtain ⟨l1, l2⟩ := H20.out x (List.mem_of_getElem? hx)
      have l3 : n1 ≤ 20 := by have := hL.1; omega
      have l4 : n2 ≤ 20 := by have := hM.1; omega
      have BN := Lib.hid ((Below.refl wr.heap.size wr).alloc (Nat.le_refl _) (.cells #[.int .i64 x.h.age, .int .i64 x.h.kind, .int .i64 x.h.id, .int .i64 x.h.adv, .int .i64 x.h.seq, .int .i64 x.h.sum, .int .i64 x.h.long, .slice A1 n1 c1, .slice A2 n2 c2] 62))
      have BX := Lib.hid (BW.out.alloc hz (.cells #[.int .i64 x.h.age, .int .i64 x.h.kind, .int .i64 x.h.id, .int .i64 x.h.adv, .int .i64 x.h.seq, .int .i64 x.h.sum, .int .i64 x.h.long, .slice A1 n1 c1, .slice A2 n2 c2] 62))
      have RX := Lib.hid (blk_range7 (Blk.new wr 62 #[.int .i64 x.h.age, .int .i64 x.h.kind, .int .i64 x.h.id, .int .i64 x.h.adv, .int .i64 x.h.seq, .int .i64 x.h.sum, .int .i64 x.h.long, .slice A1 n1 c1, .slice A2 n2 c2]))
      have PX := Lib.hid (PAW.out.chg (F' := fun _ => False) (Chg.of_below BN.out) (fun _ _ hf => hf))
      have PY := Lib.hid (PBW.out.chg (F' := fun _ => False) (Chg.of_below BN.out) (fun _ _ hf => hf))
      have LX := Lib.hid (hL.alloc (by omega) (.cells #[.int .i64 x.h.age, .int .i64 x.h.kind, .int .i64 x.h.id, .int .i64 x.h.adv, .int .i64 x.h.seq, .int .i64 x.h.sum, .int .i64 x.h.long, .slice A1 n1 c1, .slice A2 n2 c2] 62))
      have MX := Lib.hid (hM.alloc (by omega) (.cells #[.int .i64 x.h.age, .int .i64 x.h.kind, .int .i64 x.h.id, .int .i64 x.h.adv, .int .i64 x.h.seq, .int .i64 x.h.sum, .int .i64 x.h.long, .slice A1 n1 c1, .slice A2 n2 c2] 62))
      clear hr hx hL hM PAW PBW BW l1 l2
      go_wp2_with (first | refine wpList_load_row 62 _ _ (by rfl) (.tmp 35) rfl (by rfl) HR.out Try.underlying62 rfl (by kernel_rfl) ?_ | (refine wpList_load_row 62 _ _ (by rfl) (.tmp 8) rfl (by rfl) RX.out Try.underlying62 rfl (by kernel_rfl) ?_))
      have hzx : bw ≤ (wr.alloc (.cells #[.int .i64 x.h.age, .int .i64 x.h.kind, .int .i64 x.h.id, .int .i64 x.h.adv, .int .i64 x.h.seq, .int .i64 x.h.sum, .int .i64 x.h.long, .slice A1 n1 c1, .slice A2 n2 c2] 62)).heap.size ∧ lo ≤ (wr.alloc (.cells #[.int .i64 x.h.age, .int .i64 x.h.kind, .int .i64 x.h.id, .int .i64 x.h.adv, .int .i64 x.h.seq, .int .i64 x.h.sum, .int .i64 x.h.long, .slice A1 n1 c1, .slice A2 n2 c2] 62)).heap.size ∧ wr.heap.size ≤ (wr.alloc (.cells #[.int .i64 x.h.age, .int .i64 x.h.kind, .int .i64 x.h.id, .int .i64 x.h.adv, .int .i64 x.h.seq, .int .i64 x.h.sum, .int .i64 x.h.long, .slice A1 n1 c1, .slice A2 n2 c2] 62)).heap.size := by simp; omega
      generalize wr.alloc (.cells #[.int .i64 x.h.age, .int .i64 x.h.kind, .int .i64 x.h.id, .int .i64 x.h.adv, .int .i64 x.h.seq, .int .i64 x.h.sum, .int .i64 x.h.long, .slice A1 n1 c1, .slice A2 n2 c2] 62) = wx at *
      refine (put_db PX.out SAW.out hzx.2.1 x.h x.L x.M A1 A2 n1 c1 n2 c2 bw LX.out MX.out hzx.1 (by omega) (by omega)).mono ?_
      rintro e3 w3 ⟨rfl, F3, hd3, hc3, hf3⟩
      have B3 := Lib.hid (BX.out.trans (hc3.to_below (fun q hq => Nat.le_trans hloB (PX.out.foot hq).1) hzx.1))
      have P3 := Lib.hid (show PDb w3 lo p 40 (bothL (T.take (k + 1))) F3 by rw [HTK.out]; exact hd3)
      have S3 := Lib.hid (show SortL (bothL (T.take (k + 1))) by rw [HTK.out]; exact put_sort SAW.out)
      have Q3 := Lib.hid (PY.out.chg hc3 (fun q h1 h2 => DJW.out q h2 h1))
      have J3 := Lib.hid (show ∀ q, F3 q → ¬ F2 q from fun q h1 h2 => by
        rcases hf3 q h1 with h | h
        · exact DJW.out q h h2
        · have := (PY.out.foot h2).2
          omega)
      clear hd3 hc3 hf3 PX PY LX MX RX BX BN HR HTK DJW SAW hzx
      go_wp2
      go_roundw
      case rel => exact ⟨k + 1, F3, by go_num, by omega, P3, S3, Q3, J3, B3⟩
      case measure => simp [intOf]; omega
    · have hlt' : ¬ (k : Int) < (n : Int) := by omega
      have HTE := Lib.hid (show T.take k = T from List.take_of_length_le (by have := HT.out.1; omega))
      rw [HTE.out] at PAW SAW
      have HZL := Lib.hid hzlo
      clear HTE hzlo HT hz
      obtain ⟨wo, hwo⟩ : ∃ wo, wo = wr := ⟨_, rfl⟩
      subst hwo
      go_wp2_with fail
      clear hlt' hlt hk
      go_loopw [43] (fun s43 wr => ∃ (k : Nat) (F3 : Nat → Prop), s43 = .int .i64 k ∧ k ≤ n2 ∧ Hid (PDb wr X1 p2 40 (bothL (T2.take k)) F3) ∧ Hid (SortL (bothL (T2.take k))) ∧ Hid (PDb wr lo p 40 (bothL T) F) ∧ Hid (∀ q, F3 q → ¬ F q) ∧ Hid (Below bw w wr)) (fun s43 _ => n2 - (intOf s43).toNat)
      case atStart => exact ⟨0, F2, rfl, Nat.zero_le _, PBW, Lib.hid List.Pairwise.nil, PAW, Lib.hid (fun q h1 h2 => DJW.out q h2 h1), BW⟩
      case round =>
        have SA := Lib.hid SAW.out
        clear PBW PAW DJW BW SAW HZL
        obtain ⟨k, F3, rfl, hk, PBW, SBW, PAW, DJW, BW⟩ := hrel
        have hz : bw ≤ wr.heap.size := by have := BW.out.size; have := HGW.out; omega
        have hzX : X1 ≤ wr.heap.size := by
          obtain ⟨_, _, _, hB, h1, -⟩ := PBW.out
          have := hB.lt
          omega
        by_cases hlt : k < n2
        · have hlt' : (k : Int) < (n2 : Int) := by omega
          obtain ⟨b, o, x, A1, n1, c1, A2, n2x, c2, rfl, hb, hx, hr, hL, hM, hm1, hm2⟩ := las_item (HT2.out.below BW.out) hlt
          have HR := Lib.hid hr
          have HTK := Lib.hid (show bothL (T2.take (k + 1)) = putS 40 (bothL (T2.take k)) x by rw [take_snocA T2 k x hx, bothL_snoc])
          obtain ⟨l1, l2⟩ := H20'.out x (List.mem_of_getElem? hx)
          have l3 : n1 ≤ 20 := by have := hL.1; omega
          have l4 : n2x ≤ 20 := by have := hM.1; omega
          have BN := Lib.hid ((Below.refl wr.heap.size wr).alloc (Nat.le_refl _) (.cells #[.int .i64 x.h.age, .int .i64 x.h.kind, .int .i64 x.h.id, .int .i64 x.h.adv, .int .i64 x.h.seq, .int .i64 x.h.sum, .int .i64 x.h.long, .slice A1 n1 c1, .slice A2 n2x c2] 62))
          have BX := Lib.hid (BW.out.alloc hz (.cells #[.int .i64 x.h.age, .int .i64 x.h.kind, .int .i64 x.h.id, .int .i64 x.h.adv, .int .i64 x.h.seq, .int .i64 x.h.sum, .int .i64 x.h.long, .slice A1 n1 c1, .slice A2 n2x c2] 62))
          have RX := Lib.hid (blk_range7 (Blk.new wr 62 #[.int .i64 x.h.age, .int .i64 x.h.kind, .int .i64 x.h.id, .int .i64 x.h.adv, .int .i64 x.h.seq, .int .i64 x.h.sum, .int .i64 x.h.long, .slice A1 n1 c1, .slice A2 n2x c2]))
          have PX := Lib.hid (PBW.out.chg (F' := fun _ => False) (Chg.of_below BN.out) (fun _ _ hf => hf))
          have PY := Lib.hid (PAW.out.chg (F' := fun _ => False) (Chg.of_below BN.out) (fun _ _ hf => hf))
          have LX := Lib.hid (hL.alloc (by omega) (.cells #[.int .i64 x.h.age, .int .i64 x.h.kind, .int .i64 x.h.id, .int .i64 x.h.adv, .int .i64 x.h.seq, .int .i64 x.h.sum, .int .i64 x.h.long, .slice A1 n1 c1, .slice A2 n2x c2] 62))
          have MX := Lib.hid (hM.alloc (by omega) (.cells #[.int .i64 x.h.age, .int .i64 x.h.kind, .int .i64 x.h.id, .int .i64 x.h.adv, .int .i64 x.h.seq, .int .i64 x.h.sum, .int .i64 x.h.long, .slice A1 n1 c1, .slice A2 n2x c2] 62))
          clear hr hx hL hM PAW PBW BW l1 l2
          go_wp2_with (first | refine wpList_load_row 62 _ _ (by rfl) (.tmp 45) rfl (by rfl) HR.out Try.underlying62 rfl (by kernel_rfl) ?_ | (refine wpList_load_row 62 _ _ (by rfl) (.tmp 10) rfl (by rfl) RX.out Try.underlying62 rfl (by kernel_rfl) ?_))
          have hzx : bw ≤ (wr.alloc (.cells #[.int .i64 x.h.age, .int .i64 x.h.kind, .int .i64 x.h.id, .int .i64 x.h.adv, .int .i64 x.h.seq, .int .i64 x.h.sum, .int .i64 x.h.long, .slice A1 n1 c1, .slice A2 n2x c2] 62)).heap.size ∧ X1 ≤ (wr.alloc (.cells #[.int .i64 x.h.age, .int .i64 x.h.kind, .int .i64 x.h.id, .int .i64 x.h.adv, .int .i64 x.h.seq, .int .i64 x.h.sum, .int .i64 x.h.long, .slice A1 n1 c1, .slice A2 n2x c2] 62)).heap.size ∧ wr.heap.size ≤ (wr.alloc (.cells #[.int .i64 x.h.age, .int .i64 x.h.kind, .int .i64 x.h.id, .int .i64 x.h.adv, .int .i64 x.h.seq, .int .i64 x.h.sum, .int .i64 x.h.long, .slice A1 n1 c1, .slice A2 n2x c2] 62)).heap.size := by simp; omega
          generalize wr.alloc (.cells #[.int .i64 x.h.age, .int .i64 x.h.kind, .int .i64 x.h.id, .int .i64 x.h.adv, .int .i64 x.h.seq, .int .i64 x.h.sum, .int .i64 x.h.long, .slice A1 n1 c1, .slice A2 n2x c2] 62) = wx at *
          refine (put_db PX.out SBW.out hzx.2.1 x.h x.L x.M A1 A2 n1 c1 n2x c2 bw LX.out MX.out hzx.1 (by omega) (by omega)).mono ?_
          rintro e3 w3 ⟨rfl, F4, hd3, hc3, hf3⟩
          have B3 := Lib.hid (BX.out.trans (hc3.to_below (fun q hq => Nat.le_trans hX1 (PX.out.foot hq).1) hzx.1))
          have P3 := Lib.hid (show PDb w3 X1 p2 40 (bothL (T2.take (k + 1))) F4 by rw [HTK.out]; exact hd3)
          have S3 := Lib.hid (show SortL (bothL (T2.take (k + 1))) by rw [HTK.out]; exact put_sort SBW.out)
          have Q3 := Lib.hid (PY.out.chg hc3 (fun q h1 h2 => DJW.out q h2 h1))
          have J3 := Lib.hid (show ∀ q, F4 q → ¬ F q from fun q h1 h2 => by
            rcases hf3 q h1 with h | h
            · exact DJW.out q h h2
            · have := (PY.out.foot h2).2
              omega)
          clear hd3 hc3 hf3 PX PY LX MX RX BX BN HR HTK DJW SBW hzx
          go_wp2
          go_roundw
          case rel => exact ⟨k + 1, F4, by go_num, by omega, P3, S3, Q3, J3, B3⟩
          case measure => simp [intOf]; omega
        · have hlt' : ¬ (k : Int) < (n2 : Int) := by omega
          have HTE := Lib.hid (show T2.take k = T2 from List.take_of_length_le (by have := HT2.out.1; omega))
          rw [HTE.out] at PBW SBW
          have OA := Lib.hid (bothL_ok H20.out)
          have RA := Lib.hid (pdb_right PAW.out)
          clear HTE HT2 H20 H20' hzX
          obtain ⟨wo, hwo⟩ : ∃ wo, wo = wr := ⟨_, rfl⟩
          subst hwo
          generalize bothL T = S0 at *
          generalize bothL T2 = S at *
          have HFA := Lib.hid (show ∀ q, F q → q < wo.heap.size from fun q hq => (PAW.out.foot hq).2)
          have HFB := Lib.hid (show ∀ q, F3 q → q < wo.heap.size from fun q hq => (PBW.out.foot hq).2)
          go_wp2_with fail
          clear hlt' hlt hk
          refine (all_las2 PAW.out SA.out).mono ?_
          rintro e6 w6 ⟨A6, n6, c6, rfl, hb6, hL6, hn6⟩
          have HB6 := Lib.hid hb6
          have HL6 := Lib.hid hL6
          have O6 := Lib.hid (World.ownsRow_nil w6 w6.heap.size 38 7)
          have Z6 := Lib.hid (Below.refl w6.heap.size w6)
          clear hb6 hL6
          go_wp2_with fail
          go_loopw [11, 54] (fun s11 s54 wr => ∃ (k m c' : Nat) (A' : Option Addr), s54 = .int .i64 k ∧ s11 = .slice A' m c' ∧ k ≤ n6 ∧ m ≤ k ∧ Hid (wr.ownsRow w6.heap.size 38 7 (.slice A' m c') m (cellsBy encHd (toldL (S0.take k)))) ∧ Hid (Below w6.heap.size w6 wr)) (fun _ s54 _ => n6 - (intOf s54).toNat)
          case atStart => exact ⟨0, 0, 0, none, rfl, rfl, Nat.zero_le _, Nat.le_refl _, Lib.hid (by simpa [toldL, cellsBy] using O6.out), Z6⟩
          case round =>
            clear O6 Z6
            obtain ⟨k, m, c', A', rfl, rfl, hk, hmk, OW, BK⟩ := hrel
            have hzr := BK.out.size
            by_cases hlt : k < n6
            · have hlt' : (k : Int) < (n6 : Int) := by omega
              obtain ⟨b, o, x, A1, n1, c1, A2, n2x, c2, rfl, hb, hx, hr, -, -, -, -⟩ := las_item (HL6.out.below BK.out) hlt
              have HR := Lib.hid hr
              obtain ⟨g0, g1⟩ := right_age (RA.out.2 x (List.mem_of_getElem? hx))
              have HTL := Lib.hid (show toldL (S0.take (k + 1)) = if x.h.age < 60 then toldL (S0.take k) ++ [x.h] else toldL (S0.take k) by rw [take_snocA S0 k x hx, toldL_lt _ x g0 g1])
              have BX := Lib.hid ((Below.refl wr.heap.size wr).alloc (Nat.le_refl _) (.cells #[.int .i64 x.h.age, .int .i64 x.h.kind, .int .i64 x.h.id, .int .i64 x.h.adv, .int .i64 x.h.seq, .int .i64 x.h.sum, .int .i64 x.h.long, .slice A1 n1 c1, .slice A2 n2x c2] 62))
              have OX := Lib.hid (OW.out.alloc (.cells #[.int .i64 x.h.age, .int .i64 x.h.kind, .int .i64 x.h.id, .int .i64 x.h.adv, .int .i64 x.h.seq, .int .i64 x.h.sum, .int .i64 x.h.long, .slice A1 n1 c1, .slice A2 n2x c2] 62))
              have RH := Lib.hid (las_head (blk_range7 (Blk.new wr 62 #[.int .i64 x.h.age, .int .i64 x.h.kind, .int .i64 x.h.id, .int .i64 x.h.adv, .int .i64 x.h.seq, .int .i64 x.h.sum, .int .i64 x.h.long, .slice A1 n1 c1, .slice A2 n2x c2])))
              have x0 := (Blk.new wr 62 #[.int .i64 x.h.age, .int .i64 x.h.kind, .int .i64 x.h.id, .int .i64 x.h.adv, .int .i64 x.h.seq, .int .i64 x.h.sum, .int .i64 x.h.long, .slice A1 n1 c1, .slice A2 n2x c2]).cell 0
              simp at x0
              have hzx : w6.heap.size ≤ (wr.alloc (.cells #[.int .i64 x.h.age, .int .i64 x.h.kind, .int .i64 x.h.id, .int .i64 x.h.adv, .int .i64 x.h.seq, .int .i64 x.h.sum, .int .i64 x.h.long, .slice A1 n1 c1, .slice A2 n2x c2] 62)).heap.size := by simp; omega
              clear hx hr g0 g1
              by_cases h60 : x.h.age < 60
              · have d60 : decide (x.h.age < 60) = true := by simpa using h60
                go_wp2_with (first | refine wpList_load_row 62 _ _ (by rfl) (.tmp 56) rfl (by rfl) HR.out Try.underlying62 rfl (by kernel_rfl) ?_ | (refine wpList_load_row 38 _ _ (by rfl) (.tmp 63) rfl (by rfl) RH.out Try.underlying38 rfl (by kernel_rfl) ?_) | (at_builtin; refine wpList_app_hd3 rfl (.tmp 62) (.tmp 65) rfl x.h (g := wr.heap.size + 1) (by simp) (by rfl) (by rfl) OX.out (by omega) hzx ?_; intro A5 c5 w5 HO5 HC5))
                have B5 := Lib.hid (BK.out.trans ((BX.out.mono hzr).trans (HC5.out.to_below (fun q hq => (OX.out.lt q hq).1) hzx)))
                have O5 := Lib.hid (show w5.ownsRow w6.heap.size 38 7 (.slice A5 (m + 1) c5) (m + 1) (cellsBy encHd (toldL (S0.take (k + 1)))) by rw [HTL.out, if_pos h60]; exact HO5.out)
                clear HO5 HC5 OW BK BX OX RH x0 hzx d60 HR HTL
                go_roundw
                case rel => exact ⟨k + 1, m + 1, c5, A5, by go_num, by first | rfl | go_num, by omega, by omega, O5, B5⟩
                case measure => simp [intOf]; omega
              · have d60 : decide (x.h.age < 60) = false := by simpa using h60
                have B5 := Lib.hid (BK.out.trans (BX.out.mono hzr))
                have O5 := Lib.hid (show (wr.alloc (.cells #[.int .i64 x.h.age, .int .i64 x.h.kind, .int .i64 x.h.id, .int .i64 x.h.adv, .int .i64 x.h.seq, .int .i64 x.h.sum, .int .i64 x.h.long, .slice A1 n1 c1, .slice A2 n2x c2] 62)).ownsRow w6.heap.size 38 7 (.slice A' m c') m (cellsBy encHd (toldL (S0.take (k + 1)))) by rw [HTL.out, if_neg h60]; exact OX.out)
                clear OW BK BX OX RH hzx HTL
                go_wp2_with (first | refine wpList_load_row 62 _ _ (by rfl) (.tmp 56) rfl (by rfl) HR.out Try.underlying62 rfl (by kernel_rfl) ?_)
                go_roundw
                case rel => exact ⟨k + 1, m, c', A', by go_num, by first | rfl | go_num, by omega, by omega, O5, B5⟩
                case measure => simp [intOf]; omega
            · have hlt' : ¬ (k : Int) < (n6 : Int) := by omega
              have HTE := Lib.hid (show S0.take k = S0 from List.take_of_length_le (by have := HL6.out.1; omega))
              rw [HTE.out] at OW
              have B6W := Lib.hid (HB6.out.trans (BK.out.mono HB6.out.size))
              have PA6 := Lib.hid (PAW.out.chg (F' := fun _ => False) (Chg.of_below B6W.out) (fun _ _ hf => hf))
              have PB6 := Lib.hid (PBW.out.chg (F' := fun _ => False) (Chg.of_below B6W.out) (fun _ _ hf => hf))
              have BA := Lib.hid (BW.out.trans (B6W.out.mono hz))
              have HND := Lib.hid (told_nodup SA.out)
              have HME := Lib.hid (fun (h : Hd) (hh : h ∈ toldL S0) => told_mem hh)
              have hS040 : S0.length ≤ 40 := by have := RA.out.1; omega
              have hKl : (toldL S0).length ≤ 40 := by
                have : (toldL S0).length ≤ S0.length := by
                  unfold toldL
                  rw [List.length_map]
                  exact List.length_filter_le _ _
                omega
              have hm6 := own_lenH encHd_len (by omega) OW.out
              have hX26 : wo.heap.size ≤ w6.heap.size := HB6.out.size
              clear HL6 BK PAW PBW BW HTE HB6 B6W
              generalize hK : toldL S0 = K at *
              have HW := Lib.hid (fun (h : Hd) (hh : h ∈ K) => (by obtain ⟨z, hz, e⟩ := HME.out h hh; rw [← e]; exact ⟨wfKy_right (RA.out.2 z hz), (ageB_iff _).2 (right_age (RA.out.2 z hz))⟩ : wfKy (keyH h) ∧ ageB h = true))
              clear hK
              generalize wo.heap.size = X2 at *
              generalize w6.heap.size = b9 at *
              have hrz : b9 ≤ wr.heap.size := hzr
              go_wp2_with fail
              clear hlt' hlt hk hmk hn6 hzr
              refine (new_w _).mono ?_
              rintro e7 w7 ⟨p3, b3, rfl, hb7, hP7, hp3, hb3⟩
              have PA7 := Lib.hid (PA6.out.chg (F' := fun _ => False) (Chg.of_below hb7) (fun _ _ hf => hf))
              have PB7 := Lib.hid (PB6.out.chg (F' := fun _ => False) (Chg.of_below hb7) (fun _ _ hf => hf))
              have OK7 := Lib.hid (own_chg OW.out (Chg.of_below (F := fun _ => False) hb7) (fun _ _ hf => hf))
              have HKB := Lib.hid (show ∀ q, (Value.slice A' m c').ownBlock = some q → b9 ≤ q ∧ q < b3 from fun q hq => by have := OW.out.lt q hq; omega)
              have HPB := Lib.hid (show X2 ≤ p3 ∧ X2 ≤ b3 by omega)
              have hbz : bw ≤ X2 := hz
              have B7 := Lib.hid (BA.out.trans (hb7.mono (by omega)))
              have P7 := Lib.hid hP7
              have hz7 := hb7.size
              clear hb7 hP7 hp3 hb3 PA6 PB6 OW BA
              go_wp2_with fail
              refine (lacksS_any (F := F3) (B := w7.heap.size) (.inr ⟨X1, p2, 40, rfl, PB7.out, SBW.out⟩) (own_hds OK7.out) (Nat.le_refl _) (by omega) (fun h hh => (HW.out h hh).1) (fun h hh y hy => ⟨(HW.out h hh).2, pdb_age PB7.out hy⟩) (fun i j a b _ ha hb => ⟨(HW.out a (List.mem_of_getElem? ha)).2, (HW.out b (List.mem_of_getElem? hb)).2⟩)).mono ?_
              rintro e8 w8 ⟨A8, m8, c8, rfl, hb8, hO8⟩
              have PA8 := Lib.hid (PA7.out.chg (F' := fun _ => False) (Chg.of_below hb8) (fun _ _ hf => hf))
              have PB8 := Lib.hid (PB7.out.chg (F' := fun _ => False) (Chg.of_below hb8) (fun _ _ hf => hf))
              have OK8 := Lib.hid (own_chg OK7.out (Chg.of_below (F := fun _ => False) hb8) (fun _ _ hf => hf))
              have P8 := Lib.hid (P7.out.below hb8)
              have B8 := Lib.hid (B7.out.trans (hb8.mono (by omega)))
              have O8 := Lib.hid hO8
              have hz8 := hb8.size
              have HMN := Lib.hid (lacksL_nodup S K)
              have HMK := Lib.hid (fun (h : Hd) (hh : h ∈ lacksL S K) => lacksL_mem hh)
              have HDN := Lib.hid (fun (S' : List La) (h : Synced S (lacksL S K) S') => Synced.done HND.out h)
              have hm8 := own_lenH encHd_len (by omega) hO8
              have hm840 : m8 ≤ 40 := by have := lacksL_len S K; omega
              have Y8 := Lib.hid (Synced.start SBW.out)
              clear hb8 hO8 PA7 PB7 OK7 P7 B7
              generalize lacksL S K = M at *
              go_wp2_with fail
              refine (add_w P8.out (own_hds O8.out) (Nat.le_refl _) (by omega) (by simp) (fun h hh => (HW.out h (HMK.out h hh)).1) (fun h hh => (HW.out h (HMK.out h hh)).2) (fun h hh => by cases hh)).mono ?_
              rintro e9 w9 ⟨rfl, hP9, hc9⟩
              have HPM := Lib.hid (adds_nil HMN.out)
              have HSW := Lib.hid (sort_addsH (S := []) List.Pairwise.nil M)
              have PA9 := Lib.hid (PA8.out.chg hc9 (fun q h1 h2 => by have := HFA.out q h1; have := HPB.out; omega))
              have PB9 := Lib.hid (PB8.out.chg hc9 (fun q h1 h2 => by have := HFB.out q h1; have := HPB.out; omega))
              have OK9 := Lib.hid (own_chg OK8.out hc9 (fun q h1 h2 => by have := HKB.out q h1; omega))
              have P9 := Lib.hid hP9
              have hz9 := hc9.size
              have B9 := Lib.hid (B8.out.trans (hc9.to_below (fun q hq => by rw [hq]; have := HPB.out; omega) (by omega)))
              have hNl : (addsH [] M).length = m8 := by rw [HPM.out.length_eq]; exact hm8
              have HMW := Lib.hid (fun (x : Hd) => (HPM.out.mem_iff (a := x)))
              clear hP9 hc9 PA8 PB8 OK8 P8 B8 O8 HPM hm8
              generalize addsH [] M = W0 at *
              rw [hNl]
              have HNL := Lib.hid hNl
              clear hNl
              have F9 := Lib.hid (show ∀ q, F3 q → q < X2 ∨ w9.heap.size ≤ q from fun q hq => .inl (HFB.out q hq))
              have HPL := Lib.hid (show p3 < w9.heap.size ∧ b3 < w9.heap.size ∧ w9.heap.size ≤ w9.heap.size from ⟨P9.out.ltp, P9.out.ltb, Nat.le_refl _⟩)
              have hXM : X2 ≤ w9.heap.size := by omega
              generalize hgM : w9.heap.size = bM at *
              have ZB := Lib.hid (Nat.le_of_eq hgM.symm)
              clear hgM HFB SBW HND
              go_wp2_with fail
              go_loopw [16] (fun s16 wr => ∃ (k : Nat) (S' : List La) (F4 : Nat → Prop), s16 = .int .i64 k ∧ k ≤ m8 + 2 ∧ Hid (Synced S (W0.take k) S') ∧ Hid (PDb wr X1 p2 40 S' F4) ∧ Hid (∀ q, F4 q → q < X2 ∨ bM ≤ q) ∧ Hid (∀ q, F4 q → ¬ F q) ∧ Hid (PDb wr lo p 40 S0 F) ∧ Hid (wr.ownsRow b9 38 7 (.slice A' m c') m (cellsBy encHd K)) ∧ Hid (PwIs wr p3 b3 (W0.drop k)) ∧ Hid (Below bw w wr) ∧ Hid (bM ≤ wr.heap.size)) (fun s16 _ => m8 - (intOf s16).toNat)
              case atStart => exact ⟨0, S, F3, rfl, Nat.zero_le _, Lib.hid (by simpa using Y8.out), PB9, F9, DJW, PA9, OK9, Lib.hid (by simpa using P9.out), B9, ZB⟩
              case round =>
                clear Y8 PB9 F9 DJW PA9 OK9 P9 B9 ZB
                obtain ⟨k, S', F4, rfl, hk, YW, PBW, FW, DW, PAW, OKW, PW, BW, ZW⟩ := hrel
                have hzM := ZW.out
                have hzX : X1 ≤ wr.heap.size := by
                  obtain ⟨_, _, _, hB, h1, -⟩ := PBW.out
                  have := hB.lt
                  omega
                have hzw : bw ≤ wr.heap.size := by have := BW.out.size; have := HGW.out; omega
                by_cases hkm : k < m8
                · have hkm' : (k : Int) < (m8 : Int) := by omega
                  go_wp2_with fail
                  refine (ask_w PW.out (by rw [List.length_drop]; have := HNL.out; omega)).mono ?_
                  rintro e1 w1 ⟨Ak, nk, ck, rfl, hb1, hok⟩
                  have HWW := Lib.hid (fun (x : Hd) (hx : x ∈ W0) => (HW.out x (HMK.out x ((HMW.out x).1 hx)) : wfKy (keyH x) ∧ ageB x = true))
                  have hkk := kys_own hok (fun ky hky => by
                    obtain ⟨x, hx, rfl⟩ := List.mem_map.1 hky
                    have := (HWW.out x (List.mem_of_mem_drop (List.mem_of_mem_take hx))).1
                    exact this.2.1)
                  have HKK := Lib.hid hkk.1
                  have HKL := Lib.hid (show nk = min 3 (m8 - k) by
                    have h1 := hok.1
                    rw [kyCells_length, List.length_map, List.length_take, List.length_drop, HNL.out] at h1
                    omega)
                  have hz1 := hb1.size
                  have PA1 := Lib.hid (PAW.out.chg (F' := fun _ => False) (Chg.of_below hb1) (fun _ _ hf => hf))
                  have PB1 := Lib.hid (PBW.out.chg (F' := fun _ => False) (Chg.of_below hb1) (fun _ _ hf => hf))
                  have OK1 := Lib.hid (own_chg OKW.out (Chg.of_below (F := fun _ => False) hb1) (fun _ _ hf => hf))
                  have P1 := Lib.hid (PW.out.below hb1)
                  have B1 := Lib.hid (BW.out.trans (hb1.mono hzw))
                  clear hkk hok hb1 PAW PBW OKW PW BW
                  go_wp2_with fail
                  refine (answer_any (F := F) (B := w1.heap.size) (.inr ⟨lo, p, 40, rfl, PA1.out, SA.out⟩) HKK.out (Nat.le_refl _) (by have := HKL.out; omega) (fun ky hky => by
                    obtain ⟨x, hx, rfl⟩ := List.mem_map.1 hky
                    exact (HWW.out x (List.mem_of_mem_drop (List.mem_of_mem_take hx))).1)).mono ?_
                  have HGZ := Lib.hid (fun (x : Hd) (hx : x ∈ W0) => (by
                    obtain ⟨z, hz, e⟩ := HME.out x (HMK.out x ((HMW.out x).1 hx))
                    exact ⟨z, hz, by rw [← e]; exact getL_mem SA.out hz, e⟩ : ∃ z ∈ S0, getL S0 (keyH x) = some z ∧ z.h = x))
                  rintro e2 w2 ⟨hb2, ⟨⟨ky, hky, hno⟩, -⟩ | ⟨A5, n5, c5, R, -, rfl, ho5, ha5⟩⟩
                  · exfalso
                    obtain ⟨x, hx, rfl⟩ := List.mem_map.1 hky
                    obtain ⟨z, -, h1, -⟩ := HGZ.out x (List.mem_of_mem_drop (List.mem_of_mem_take hx))
                    rw [h1] at hno
                    cases hno
                  have hn5 : n5 = nk := by
                    have h1 := rc_len ho5
                    have h2 := ha5.1
                    have h3 := HKK.out.1
                    unfold gotL at h2
                    rw [List.length_map] at h2
                    omega
                  subst hn5
                  have HRB := Lib.hid (show ∀ q, (Value.slice A5 n5 c5).ownBlock = some q → w1.heap.size ≤ q ∧ q < w2.heap.size from fun q hq => ho5.lt q hq)
                  have HRF := Lib.hid (show ∀ r ∈ R, ∀ q, rcFoot r q → w1.heap.size ≤ q ∧ q < w2.heap.size from fun r hr q hq => by
                    obtain ⟨z, -, hz⟩ := all2_mem ha5 hr
                    exact hz.foot hq)
                  have hz2 := hb2.size
                  have PA2 := Lib.hid (PA1.out.chg (F' := fun _ => False) (Chg.of_below hb2) (fun _ _ hf => hf))
                  have PB2 := Lib.hid (PB1.out.chg (F' := fun _ => False) (Chg.of_below hb2) (fun _ _ hf => hf))
                  have OK2 := Lib.hid (own_chg OK1.out (Chg.of_below (F := fun _ => False) hb2) (fun _ _ hf => hf))
                  have P2 := Lib.hid (P1.out.below hb2)
                  have B2 := Lib.hid (B1.out.trans (hb2.mono (by omega)))
                  have F2' := Lib.hid (show ∀ q, F4 q → q < w1.heap.size ∨ w2.heap.size ≤ q from fun q hq => .inl (PB1.out.foot hq).2)
                  have R2 := Lib.hid ho5
                  have A2' := Lib.hid ha5
                  have HIX := Lib.hid (show ∀ j, j < n5 → ∃ z ∈ S0, z.h ∈ W0 ∧ W0[k + j]? = some z.h ∧ (gotL S0 (((W0.drop k).take 3).map keyH))[j]? = some z from fun j hj => by
                    have hlt : k + j < W0.length := by have := HKL.out; have := HNL.out; omega
                    obtain ⟨z, hzS, h1, h2⟩ := HGZ.out W0[k + j] (List.getElem_mem hlt)
                    refine ⟨z, hzS, by rw [h2]; exact List.getElem_mem hlt, by rw [h2]; exact List.getElem?_eq_getElem hlt, ?_⟩
                    have h3 : ((W0.drop k).take 3)[j]? = some W0[k + j] := by
                      rw [List.getElem?_take_of_lt (by have := HKL.out; omega), List.getElem?_drop]
                      exact List.getElem?_eq_getElem hlt
                    unfold gotL
                    rw [List.getElem?_map, List.getElem?_map, h3, Option.map_some, Option.map_some, h1]
                    rfl)
                  generalize gotL S0 (((W0.drop k).take 3).map keyH) = G at *
                  have e_n : min 3 ((m8 : Int) - (k : Int)) = (n5 : Int) := by have := HKL.out; omega
                  have w_d : IntKind.i64.wrap ((m8 : Int) - (k : Int)) = (m8 : Int) - (k : Int) := by rw [IntKind.wrap_i64]; omega
                  have hn53 : n5 ≤ 3 := by have := HKL.out; omega
                  clear hb2 ho5 ha5 PA1 PB1 OK1 P1 B1 HKK HGZ
                  have hbR : bM ≤ w1.heap.size := by omega
                  generalize w1.heap.size = bR at *
                  generalize hgS : w2.heap.size = bS at *
                  have ZS := Lib.hid (Nat.le_of_eq hgS.symm)
                  clear hgS
                  go_wp2_with fail
                  clear e_n w_d
                  go_loopw [99] (fun s99 wi => ∃ (j : Nat) (S' : List La) (F5 : Nat → Prop), s99 = .int .i64 j ∧ j ≤ n5 ∧ Hid (Synced S (W0.take (k + j)) S') ∧ Hid (PDb wi X1 p2 40 S' F5) ∧ Hid (∀ q, F5 q → q < X2 ∨ bM ≤ q) ∧ Hid (∀ q, F5 q → q < bR ∨ bS ≤ q) ∧ Hid (∀ q, F5 q → ¬ F q) ∧ Hid (PDb wi lo p 40 S0 F) ∧ Hid (wi.ownsRow b9 38 7 (.slice A' m c') m (cellsBy encHd K)) ∧ Hid (PwIs wi p3 b3 (W0.drop (k + j))) ∧ Hid (wi.ownsRow bR 62 9 (.slice A5 n5 c5) n5 (rcCells R)) ∧ Hid (All2 (RcIs wi bR) R G) ∧ Hid (Below bw w wi) ∧ Hid (bS ≤ wi.heap.size)) (fun s99 _ => n5 - (intOf s99).toNat)
                  case atStart => exact ⟨0, S', F4, rfl, Nat.zero_le _, YW, PB2, FW, F2', DW, PA2, OK2, P2, R2, A2', B2, ZS⟩
                  case round =>
                    clear YW PB2 FW F2' DW PA2 OK2 P2 R2 A2' B2 ZS
                    obtain ⟨j, S', F5, rfl, hj, YW, PBW, FW, GW, DW, PAW, OKW, PW, RW, AW, BW, ZW⟩ := hrel
                    have hzS := ZW.out
                    have hzX : X1 ≤ wr.heap.size := by
                      obtain ⟨_, _, _, hB, h1, -⟩ := PBW.out
                      have := hB.lt
                      omega
                    have hzw : bw ≤ wr.heap.size := by have := BW.out.size; have := HGW.out; omega
                    by_cases hjn : j < n5
                    · have hjn' : (j : Int) < (n5 : Int) := by omega
                      obtain ⟨z, hzS0, hzW, hwi, hgi⟩ := HIX.out j hjn
                      obtain ⟨⟨rh, ⟨rpa, rpn, rpc⟩, ⟨rqa, rqn, rqc⟩⟩, hrj, hrc⟩ := AW.out.at' hgi
                      obtain ⟨q, rfl, hq1, hq2, hq3, hq4, hqr⟩ := rc_item RW.out hrj
                      unfold maxLen at hq4
                      obtain ⟨hrh, hoL, hlL, hoM, hlM⟩ := hrc
                      simp only at hrh hoL hlL hoM hlM hqr
                      subst hrh
                      obtain ⟨Ay', cy', ey, -, -, hLy⟩ := lnk_of_own hoL hlL
                      injection ey with ey1 _ ey2
                      subst ey1 ey2
                      obtain ⟨Az', cz', ez, -, -, hMz⟩ := row_of_ints hoM hlM
                      injection ez with ez1 _ ez2
                      subst ez1 ez2
                      have HZR := Lib.hid (RA.out.2 z hzS0)
                      have HZO := Lib.hid (OA.out z hzS0)
                      have hny : rpn ≤ 20 := by have := HZO.out.2.1; omega
                      have hnz : rqn ≤ 20 := by have := HZO.out.2.2; omega
                      have HWX := Lib.hid (HWW.out z.h hzW)
                      have HTK := Lib.hid (take_snocA W0 (k + j) z.h hwi)
                      have HNE := Lib.hid (take_apart HSW.out hwi)
                      have HTH := Lib.hid (take_head HSW.out hwi)
                      have HR := Lib.hid hqr
                      have BN := Lib.hid ((Below.refl wr.heap.size wr).alloc (Nat.le_refl _) (.cells #[.int .i64 z.h.age, .int .i64 z.h.kind, .int .i64 z.h.id, .int .i64 z.h.adv, .int .i64 z.h.seq, .int .i64 z.h.sum, .int .i64 z.h.long, .slice rpa rpn rpc, .slice rqa rqn rqc] 62))
                      have BX := Lib.hid (BW.out.alloc hzw (.cells #[.int .i64 z.h.age, .int .i64 z.h.kind, .int .i64 z.h.id, .int .i64 z.h.adv, .int .i64 z.h.seq, .int .i64 z.h.sum, .int .i64 z.h.long, .slice rpa rpn rpc, .slice rqa rqn rqc] 62))
                      have KX := Lib.hid (Blk.new wr 62 #[.int .i64 z.h.age, .int .i64 z.h.kind, .int .i64 z.h.id, .int .i64 z.h.adv, .int .i64 z.h.seq, .int .i64 z.h.sum, .int .i64 z.h.long, .slice rpa rpn rpc, .slice rqa rqn rqc])
                      have RX := Lib.hid (blk_range7 KX.out)
                      have LX := Lib.hid (hLy.alloc (Nat.le_refl _) (.cells #[.int .i64 z.h.age, .int .i64 z.h.kind, .int .i64 z.h.id, .int .i64 z.h.adv, .int .i64 z.h.seq, .int .i64 z.h.sum, .int .i64 z.h.long, .slice rpa rpn rpc, .slice rqa rqn rqc] 62))
                      have MX := Lib.hid (hMz.alloc (Nat.le_refl _) (.cells #[.int .i64 z.h.age, .int .i64 z.h.kind, .int .i64 z.h.id, .int .i64 z.h.adv, .int .i64 z.h.seq, .int .i64 z.h.sum, .int .i64 z.h.long, .slice rpa rpn rpc, .slice rqa rqn rqc] 62))
                      have PAX := Lib.hid (PAW.out.chg (F' := fun _ => False) (Chg.of_below BN.out) (fun _ _ hf => hf))
                      have PBX := Lib.hid (PBW.out.chg (F' := fun _ => False) (Chg.of_below BN.out) (fun _ _ hf => hf))
                      have OKX := Lib.hid (own_chg OKW.out (Chg.of_below (F := fun _ => False) BN.out) (fun _ _ hf => hf))
                      have ROX := Lib.hid (own_chg RW.out (Chg.of_below (F := fun _ => False) BN.out) (fun _ _ hf => hf))
                      have AX := Lib.hid (all2_imp AW.out (fun r _ y hy => RcIs.chg hy (Chg.of_below (F := fun _ => False) BN.out) (fun _ _ hf => hf)))
                      have PX := Lib.hid (PW.out.below BN.out)
                      have NX := Lib.hid (show ¬ F5 wr.heap.size from fun h => by have := (PBW.out.foot h).2; omega)
                      have hzx : wr.heap.size ≤ (wr.alloc (.cells #[.int .i64 z.h.age, .int .i64 z.h.kind, .int .i64 z.h.id, .int .i64 z.h.adv, .int .i64 z.h.seq, .int .i64 z.h.sum, .int .i64 z.h.long, .slice rpa rpn rpc, .slice rqa rqn rqc] 62)).heap.size := by simp
                      have hXl := KX.out.lt
                      clear hzS0 hzW hwi hgi hrj hqr hoL hlL hoM hlM hLy hMz PAW PBW OKW RW AW PW BW
                      go_wp2_with (first | refine wpList_load_row 62 _ _ (by rfl) (.tmp 101) rfl (by rfl) HR.out Try.underlying62 rfl (by kernel_rfl) ?_ | (refine wpList_load_row 62 _ _ (by rfl) (.tmp 20) rfl (by rfl) RX.out Try.underlying62 rfl (by kernel_rfl) ?_))
                      generalize wr.alloc (.cells #[.int .i64 z.h.age, .int .i64 z.h.kind, .int .i64 z.h.id, .int .i64 z.h.adv, .int .i64 z.h.seq, .int .i64 z.h.sum, .int .i64 z.h.long, .slice rpa rpn rpc, .slice rqa rqn rqc] 62) = wx at *
                      generalize hgX : wr.heap.size = X at *
                      clear hgX
                      refine (put_db PBX.out YW.out.sort (by omega) z.h z.L z.M rpa rqa rpn rpc rqn rqc X LX.out MX.out hzx (by omega) (by omega)).mono ?_
                      rintro e3 w3 ⟨rfl, F6, hP3, hc3, hf3⟩
                      have hXF := Lib.hid (fun q (hq : F5 q) => ((PBX.out.foot hq).1 : X1 ≤ q))
                      have B3 := Lib.hid (BX.out.trans (hc3.to_below (fun q hq => Nat.le_trans hX1 (hXF.out q hq)) (by omega)))
                      have PA3 := Lib.hid (PAX.out.chg hc3 (fun q h1 h2 => DW.out q h2 h1))
                      have OK3 := Lib.hid (own_chg OKX.out hc3 (fun q h1 h2 => by have := HKB.out q h1; have := FW.out q h2; have := HPL.out; omega))
                      have P3 := Lib.hid (PX.out.chg hc3 (fun h2 => by have := FW.out _ h2; have := HPL.out; have := HPB.out; omega) (fun h2 => by have := FW.out _ h2; have := HPL.out; have := HPB.out; omega))
                      have RO3 := Lib.hid (own_chg ROX.out hc3 (fun q h1 h2 => by have := HRB.out q h1; have := GW.out q h2; omega))
                      have A3 := Lib.hid (all2_imp AX.out (fun r hr y hy => RcIs.chg hy hc3 (fun q h1 h2 => by have := HRF.out r hr q h1; have := GW.out q h2; omega)))
                      have K3 := Lib.hid (KX.out.chg hc3 NX.out)
                      have F3' := Lib.hid (show ∀ q, F6 q → q < X2 ∨ bM ≤ q from fun q hq => by
                        rcases hf3 q hq with h | h
                        · exact FW.out q h
                        · omega)
                      have G3 := Lib.hid (show ∀ q, F6 q → q < bR ∨ bS ≤ q from fun q hq => by
                        rcases hf3 q hq with h | h
                        · exact GW.out q h
                        · omega)
                      have D3 := Lib.hid (show ∀ q, F6 q → ¬ F q from fun q hq h2 => by
                        rcases hf3 q hq with h | h
                        · exact DW.out q h h2
                        · have := HFA.out q h2
                          omega)
                      have PB3 := Lib.hid hP3
                      have hz3 := hc3.size
                      clear hP3 hc3 hf3 PAX PBX OKX ROX AX PX LX MX KX RX BX BN HR FW GW DW NX
                      obtain ⟨E, hE⟩ : ∃ E, putE 40 S' ⟨z.h, z.L, z.M⟩ = E := ⟨_, rfl⟩
                      rw [hE]
                      have HE := Lib.hid hE
                      clear hE
                      by_cases h0 : E = 0
                      · have d0 : (E != 0) = false := by simp [h0]
                        have Y3 := Lib.hid (show Synced S (W0.take (k + (j + 1))) (putS 40 S' ⟨z.h, z.L, z.M⟩) by
                          rw [← Nat.add_assoc, HTK.out]
                          exact YW.out.step (x := ⟨z.h, z.L, z.M⟩) HZO.out.1 (fun g hg => HNE.out g hg) (HE.out.trans h0))
                        have RH := Lib.hid (las_head (blk_range7 K3.out))
                        clear YW HE HZR HZO HTK HNE h0
                        go_wp2_with (refine wpList_load_row 38 _ _ (by rfl) (.tmp 111) rfl (by rfl) RH.out Try.underlying38 rfl (by kernel_rfl) ?_)
                        refine (take_w P3.out z.h HWX.out.1 HWX.out.2 (fun y hy => (HWW.out y (List.mem_of_mem_drop hy)).2)).mono ?_
                        rintro e4 w4 ⟨rfl, hP4, hc4⟩
                        rw [HTH.out.1]
                        rw [HTH.out.2] at hP4
                        have P4 := Lib.hid (show PwIs w4 p3 b3 (W0.drop (k + (j + 1))) from hP4)
                        have PA4 := Lib.hid (PA3.out.chg hc4 (fun q h1 h2 => by have := HFA.out q h1; have := HPB.out; omega))
                        have PB4 := Lib.hid (PB3.out.chg hc4 (fun q h1 h2 => by have := F3'.out q h1; have := HPB.out; have := HPL.out; omega))
                        have OK4 := Lib.hid (own_chg OK3.out hc4 (fun q h1 h2 => by have := HKB.out q h1; omega))
                        have RO4 := Lib.hid (own_chg RO3.out hc4 (fun q h1 h2 => by have := HRB.out q h1; have := HPL.out; omega))
                        have A4 := Lib.hid (all2_imp A3.out (fun r hr y hy => RcIs.chg hy hc4 (fun q h1 h2 => by have := HRF.out r hr q h1; have := HPL.out; omega)))
                        have B4 := Lib.hid (B3.out.trans (hc4.to_below (fun q hq => by have := HPB.out; omega) (by omega)))
                        have Z4 := Lib.hid (show bS ≤ w4.heap.size by have := hc4.size; omega)
                        clear hP4 hc4 P3 PA3 PB3 OK3 RO3 A3 B3 K3 RH HTH
                        go_wp2
                        go_roundw
                        case rel => exact ⟨j + 1, _, F6, by go_num, by omega, Y3, PB4, F3', G3, D3, PA4, OK4, P4, RO4, A4, B4, Z4⟩
                        case measure => simp [intOf]; omega
                      · have d0 : (E != 0) = true := by simp [h0]
                        have h40 := putE_seven (x := ⟨z.h, z.L, z.M⟩) HZR.out (by rw [HE.out]; exact h0)
                        have hS40 : (putS 40 S' ⟨z.h, z.L, z.M⟩) = S' := by
                          rcases put_two 40 S' ⟨z.h, z.L, z.M⟩ with ⟨e, -⟩ | ⟨-, e⟩
                          · exact absurd (HE.out.symm.trans e) h0
                          · exact e
                        rw [hS40] at PB3
                        have hle := (pdb_right PB3.out).1
                        have HL40 := Lib.hid (show (S'.length : Int) = 40 by omega)
                        clear h40 hS40 hle
                        go_wp2_with fail
                        refine (len_db PB3.out).mono ?_
                        rintro e5 w5 ⟨rfl, hb5⟩
                        rw [HL40.out]
                        have B5 := Lib.hid (B3.out.trans (hb5.mono (by have := B3.out.size; have := HGW.out; omega)))
                        clear hb5
                        go_wp2
                        show Q (.returned (.bool true)) w5
                        rw [← HQ.out]
                        exact ⟨rfl, B5.out⟩
                    · have hjn' : ¬ (j : Int) < (n5 : Int) := by omega
                      obtain rfl : j = n5 := by omega
                      have HTT := Lib.hid (show W0.take (k + 3) = W0.take (k + j) ∧ W0.drop (k + 3) = W0.drop (k + j) by
                        have h1 := HKL.out
                        have h2 := HNL.out
                        rcases Nat.lt_or_ge (m8 - k) 3 with h3 | h3
                        · rw [List.take_of_length_le (by omega), List.take_of_length_le (by omega), List.drop_eq_nil_of_le (by omega), List.drop_eq_nil_of_le (by omega)]
                          exact ⟨rfl, rfl⟩
                        · rw [show j = 3 by omega]
                          exact ⟨rfl, rfl⟩)
                      have Y5 := Lib.hid (show Synced S (W0.take (k + 3)) S' by rw [HTT.out.1]; exact YW.out)
                      have P5 := Lib.hid (show PwIs wr p3 b3 (W0.drop (k + 3)) by rw [HTT.out.2]; exact PW.out)
                      have Z5 := Lib.hid (show bM ≤ wr.heap.size by omega)
                      clear YW PW RW AW GW HTT
                      go_wp2
                      go_roundw
                      case rel => exact ⟨k + 3, S', F5, by go_num, by omega, Y5, PBW, FW, DW, PAW, OKW, P5, BW, Z5⟩
                      case measure => simp [intOf]; omega
                · have hkm' : ¬ (k : Int) < (m8 : Int) := by omega
                  have hd0 : W0.drop k = [] := List.drop_eq_nil_of_le (by have := HNL.out; omega)
                  have ht0 : W0.take k = W0 := List.take_of_length_le (by have := HNL.out; omega)
                  have HN0 := Lib.hid (show lacksL S' K = [] by
                    have h1 := YW.out
                    rw [ht0] at h1
                    exact HDN.out S' (h1.of_mem HMW.out))
                  rw [hd0] at PW
                  clear hd0 ht0
                  go_wp2_with fail
                  refine (len_w PW.out).mono ?_
                  rintro e1 w1 ⟨rfl, rfl⟩
                  rw [show (([] : List Hd).length : Int) = 0 from rfl]
                  go_wp2_with fail
                  refine (ask_w PW.out (by simp)).mono ?_
                  rintro e2 w2 ⟨Ak, nk, ck, rfl, hb2, hok⟩
                  obtain rfl : nk = 0 := by
                    have h1 := hok.1
                    simp [kyCells] at h1
                    omega
                  have PB2 := Lib.hid (PBW.out.chg (F' := fun _ => False) (Chg.of_below hb2) (fun _ _ hf => hf))
                  have OK2 := Lib.hid (own_chg OKW.out (Chg.of_below (F := fun _ => False) hb2) (fun _ _ hf => hf))
                  have B2 := Lib.hid (BW.out.trans (hb2.mono hzw))
                  have hz2 := hb2.size
                  clear hb2 hok PBW OKW PW BW PAW
                  go_wp2_with fail
                  refine (lacksS_any (F := F4) (B := w2.heap.size) (.inr ⟨X1, p2, 40, rfl, PB2.out, YW.out.sort⟩) (own_hds OK2.out) (Nat.le_refl _) (by omega) (fun h hh => (HW.out h hh).1) (fun h hh y hy => ⟨(HW.out h hh).2, pdb_age PB2.out hy⟩) (fun i j a b _ ha hb => ⟨(HW.out a (List.mem_of_getElem? ha)).2, (HW.out b (List.mem_of_getElem? hb)).2⟩)).mono ?_
                  rintro e3 w3 ⟨A9, m9, c9, rfl, hb3, hO9⟩
                  have hm9 := own_lenH encHd_len (by omega) hO9
                  rw [HN0.out] at hm9
                  obtain rfl : m9 = 0 := hm9.symm
                  have B3 := Lib.hid (B2.out.trans (hb3.mono (by omega)))
                  clear hb3 hO9 hm9
                  go_wp2
                  show Q (.returned (.bool true)) w3
                  rw [← HQ.out]
                  exact ⟨rfl, B3.out⟩
end Go.Proofs.Ytnnkcgbnhjkahaa
