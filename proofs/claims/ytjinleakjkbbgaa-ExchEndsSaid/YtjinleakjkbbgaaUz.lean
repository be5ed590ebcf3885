/- The library's stable sort of a row of heads; New. Conditions: at most 1000 heads, at most 100 descriptions. -/
import Derived.Test.YtjinleakjkbbgaaUk
import Derived.Shelf.SlSortCmp.NoneTotal
namespace Go.Proofs.Ytjinleakjkbbgaa
open Go.RowKit Go.Shelf Go.Lib Go.Sort

set_option maxHeartbeats 2000000 in
theorem top_sort {A : Option Addr} {n c g : Nat} {w : World} {R : World → Prop} (h : Calls Try.prog 51 #[.slice A n c, .int .i64 (n : Int), .func (.func g) #[] #[]] w fun e w' => e = .returned (.tuple #[]) ∧ R w') :
    Calls Try.prog 46 #[.slice A n c, .func (.func g) #[] #[]] w fun e w' => e = .returned (.tuple #[]) ∧ R w' := by
  have H := Lib.hid h
  clear h
  go_enter Try.func46, Try.ntmps46
  go_wp2_with (go_at_call 51; refine H.out.mono ?_; rintro e w' ⟨rfl, hr⟩)
  go_end0
  exact ⟨rfl, hr⟩
set_option maxHeartbeats 2000000 in
theorem stable_none (g : Nat) (w : World) : Calls Try.prog 51 #[.slice none 0 0, .int .i64 ((0 : Nat) : Int), .func (.func g) #[] #[]] w fun e w' => e = .returned (.tuple #[]) ∧ w' = w := by
  have hi := fun W => AnyF.insertionSortCmpFunc_none insHd7 none 0 (.func (.func g) #[] #[]) W
  rw [show ((0 : Nat) : Int) = 0 from rfl]
  go_enter Try.func51, Try.ntmps51
  go_wp2
  refine wp_loop_rounds 1 ?_
  rw [rounds_succ]
  go_wp2_with (go_at_call 54; refine (hi _).mono ?_; rintro e w' ⟨rfl, rfl⟩)
  refine wp_loop_rounds 1 ?_
  rw [rounds_succ]
  go_wp2
  go_end0
  exact ⟨rfl, rfl⟩
set_option maxHeartbeats 4000000 in
/-- The library's stable sort of a row of the call's own. -/
theorem sort_heads {w : World} {base n c : Nat} {A : Option Addr} {K : List Hd} (ho : w.ownsRow base 58 7 (.slice A n c) n (cellsBy encHd K)) (hn : n ≤ 1000) :
    Calls Try.prog 46 #[.slice A n c, .func (.func 47) #[] #[]] w
      fun e w' => e = .returned (.tuple #[]) ∧ (∃ K', Ord lessH K' ∧ Stab lessH K K' ∧ w'.ownsRow base 58 7 (.slice A n c) n (cellsBy encHd K')) ∧ w.grownBy w' (Value.slice A n c).ownBlock := by
  have hlK := own_lenH encHd_len (by omega) ho
  refine top_sort (R := fun w' => (∃ K', Ord lessH K' ∧ Stab lessH K K' ∧ w'.ownsRow base 58 7 (.slice A n c) n (cellsBy encHd K')) ∧ w.grownBy w' (Value.slice A n c).ownBlock) ?_
  rcases ho.2 with ⟨hv, hn0⟩ | ⟨g, cap, cur, hv, hbase, hb, h1, h2, h3, h4⟩
  · injection hv with e1 e2 e3
    subst e1 e2 e3
    obtain rfl : K = [] := List.eq_nil_of_length_eq_zero hlK
    refine (stable_none _ w).mono ?_
    rintro e w' ⟨rfl, rfl⟩
    exact ⟨rfl, ⟨[], List.Pairwise.nil, Stab.refl _, ho⟩, rfl, rfl, rfl, Nat.le_refl _, fun _ _ _ => rfl⟩
  · cases hv
    obtain ⟨d, hd⟩ : ∃ d, d = K.toArray := ⟨_, rfl⟩
    have hdz : d.size = n := by rw [hd, List.size_toArray, hlK]
    have hcmp : CmpLays Try.prog 47 #[] encHd 7 cmpH g 0 d.size w := fun m os dk _ x y => by
      rw [Array.append_empty]
      exact compareH x y _
    have hH : HoldsK encHd 7 w g 0 d := by
      unfold HoldsK
      rw [hd, flat_hd]
      refine holds7 hb ?_
      rw [List.size_toArray, by_length encHd_len, hlK, h4]
    have hblk : g < w.heap.size := (Array.getElem?_eq_some_iff.1 hb).1
    have R : RowK encHd 7 w g 0 d := ⟨encHd_len, encHd_ones, hH, hblk⟩
    have F : StabFam Try.prog 58 7 encHd cmpH 47 #[] g 0 d w := ⟨Try.isAgg58, Try.sizeOf58, enters_cmpH, hcmp, swo_cmpH, R⟩
    have hc := stable_any stabLays F c d w rfl (SWK.start hH) (by omega) (fun a b dj W' hj S' hab hb' => by
      have h := AnyQ.insertionSortCmpFunc_w insHd7 7 Try.isAgg58 Try.sizeOf58 encHd cmpH 47 #[] g 0 c a b d dj w W' enters_cmpH hcmp R hj.symm S' swo_cmpH hab (by omega) (by omega)
      rw [hj] at h
      refine Calls.mono h ?_
      rintro e w' ⟨rfl, h'⟩
      have hm := mix_ins swo_cmpH dj hab (by omega)
      exact ⟨rfl, _, h', hm.1, hm.2⟩)
    rw [hdz] at hc
    refine Calls.mono hc ?_
    rintro e w' ⟨rfl, d', ⟨m, os, rfl⟩, hm, hs⟩
    have hz : d'.size = n := by rw [hm.size, hdz]
    have hl : d'.toList.length = n := by rw [Array.length_toList, hz]
    have hfl : flatK encHd 7 d' = (cellsBy encHd d'.toList).toArray := by rw [← flat_hd]
    have hls : (cellsBy encHd d'.toList).length = n * 7 := by rw [by_length encHd_len, hl]
    refine ⟨rfl, ⟨d'.toList, ?_, ?_, ?_⟩, ?_⟩
    · rw [← ltOf_cmpH]
      exact ord_of_sorted (by rw [hz]; exact hs)
    · have := hm.2
      rw [hd, ltOf_cmpH] at this
      exact this
    · unfold sortWorldK putRowK
      rw [hfl]
      refine ⟨hls, .inr ⟨g, c, _, rfl, hbase, heap_sorted7 _ hb, h1, h2, by simp [putCells, h3], ?_⟩⟩
      have h5 := take_putCells7 (cur := cur) (F := (cellsBy encHd d'.toList).toArray) (by
        rw [List.size_toArray, hls, h3]
        omega)
      rw [List.size_toArray, hls] at h5
      exact h5
    · unfold sortWorldK putRowK
      exact grownBy_sorted7 _
set_option maxRecDepth 8000 in
set_option maxHeartbeats 4000000 in
theorem new_any {w : World} {A : Option Addr} {n c : Nat} {S : List La} {B : Nat} (hS : Las w B A n S) (hB : B ≤ w.heap.size) (hn : n ≤ 100) : Calls Try.prog 39 #[.slice A n c] w (NewQ S w) := by
  generalize hQ : NewQ S w = Q
  have HQ := Lib.hid hQ
  have HS := Lib.hid hS
  have O0 := Lib.hid (World.ownsRow_nil w w.heap.size 58 7)
  have B0 := Lib.hid (Below.refl w.heap.size w)
  clear hQ hS
  go_enter Try.func39, Try.ntmps39
  go_wp2_with fail
  go_loopw [3, 8] (fun s3 s8 wr => ∃ (k m c' : Nat) (A' : Option Addr), s8 = .int .i64 k ∧ s3 = .slice A' m c' ∧ k ≤ n ∧ m ≤ k ∧ Hid (wr.ownsRow w.heap.size 58 7 (.slice A' m c') m (cellsBy encHd (toldL (S.take k)))) ∧ Hid (Below w.heap.size w wr)) (fun _ s8 _ => n - (intOf s8).toNat)
  case atStart => exact ⟨0, 0, 0, none, rfl, rfl, Nat.zero_le _, Nat.le_refl _, Lib.hid (by simpa [toldL, cellsBy] using O0.out), B0⟩
  case round =>
    clear O0 B0
    obtain ⟨k, m, c', A', rfl, rfl, hk, hmk, OW, BW⟩ := hrel
    by_cases hlt : k < n
    · have hlt' : (k : Int) < (n : Int) := by omega
      obtain ⟨b, o, x, A1, n1, c1, A2, n2, c2, rfl, hb, hx, hr, -, -, -, -⟩ := las_item (HS.out.below (BW.out.mono hB)) hlt
      have HR := Lib.hid hr
      have HX := Lib.hid hx
      have hz := BW.out.size
      have BX := Lib.hid (BW.out.alloc hz (.cells #[.int .i64 x.h.age, .int .i64 x.h.kind, .int .i64 x.h.id, .int .i64 x.h.adv, .int .i64 x.h.seq, .int .i64 x.h.sum, .int .i64 x.h.long, .slice A1 n1 c1, .slice A2 n2 c2] 62))
      have KX := Lib.hid (Blk.new wr 62 #[.int .i64 x.h.age, .int .i64 x.h.kind, .int .i64 x.h.id, .int .i64 x.h.adv, .int .i64 x.h.seq, .int .i64 x.h.sum, .int .i64 x.h.long, .slice A1 n1 c1, .slice A2 n2 c2])
      have OX := Lib.hid (OW.out.alloc (.cells #[.int .i64 x.h.age, .int .i64 x.h.kind, .int .i64 x.h.id, .int .i64 x.h.adv, .int .i64 x.h.seq, .int .i64 x.h.sum, .int .i64 x.h.long, .slice A1 n1 c1, .slice A2 n2 c2] 62))
      have RX := Lib.hid (blk_range7 KX.out)
      clear hr hx OW BW
      go_wp2_with (first | refine wpList_load_row 62 _ _ (by rfl) (.tmp 10) rfl (by rfl) HR.out Try.underlying62 rfl (by kernel_rfl) ?_ | (refine wpList_load_row 62 _ _ (by rfl) (.tmp 5) rfl (by rfl) RX.out Try.underlying62 rfl (by kernel_rfl) ?_))
      refine (gone_any x A1 A2 n1 c1 n2 c2 _).mono ?_
      rintro e1 w1 ⟨rfl, hb1⟩
      generalize wr.alloc (.cells #[.int .i64 x.h.age, .int .i64 x.h.kind, .int .i64 x.h.id, .int .i64 x.h.adv, .int .i64 x.h.seq, .int .i64 x.h.sum, .int .i64 x.h.long, .slice A1 n1 c1, .slice A2 n2 c2] 62) = wx at *
      generalize wr.heap.size = X at *
      have hzx := BX.out.size
      have B1 := Lib.hid (BX.out.trans (hb1.mono hzx))
      have K1 := Lib.hid (KX.out.below hb1 KX.out.lt)
      have O1 := Lib.hid (own_chg OX.out (Chg.of_below (F := fun _ => False) hb1) (fun _ _ hf => hf))
      have hz1 := B1.out.size
      have R1 := Lib.hid (show w1.rangeAt X 0 [.int .i64 x.h.age, .int .i64 x.h.kind, .int .i64 x.h.id, .int .i64 x.h.adv, .int .i64 x.h.seq, .int .i64 x.h.sum, .int .i64 x.h.long] from head_range K1.out)
      have HT := Lib.hid (toldL_snoc (S.take k) x)
      rw [← take_snocA S k x HX.out] at HT
      clear hb1 BX KX OX RX hzx K1 HR HX
      cases hg : goneB x
      · have HT2 := Lib.hid (show toldL (S.take (k + 1)) = toldL (S.take k) ++ [x.h] by
          have := HT.out
          rwa [hg, if_neg (by decide)] at this)
        clear HT hg
        go_wp2_with (first | refine wpList_load_row 58 _ _ (by rfl) (.tmp 16) rfl (by rfl) R1.out Try.underlying58 rfl (by kernel_rfl) ?_ | (at_builtin; refine wpList_app_hd rfl (.tmp 15) (.tmp 18) rfl x.h (by rfl) (by rfl) O1.out (by omega) hz1 ?_; intro A3 c3 w3 HO3 HB3))
        have O3 := Lib.hid (show w3.ownsRow w.heap.size 58 7 (.slice A3 (m + 1) c3) (m + 1) (cellsBy encHd (toldL (S.take (k + 1)))) by rw [HT2.out]; exact HO3.out)
        have B3 := Lib.hid (B1.out.trans HB3.out)
        clear HO3 HB3 O1 B1 R1 HT2
        go_roundw
        case rel => exact ⟨k + 1, m + 1, c3, A3, by go_num, by first | rfl | go_num, by omega, by omega, O3, B3⟩
        case measure => simp [intOf]; omega
      · have HT2 := Lib.hid (show toldL (S.take (k + 1)) = toldL (S.take k) by
          have := HT.out
          rwa [hg, if_pos rfl] at this)
        clear HT hg
        have O3 := Lib.hid (show w1.ownsRow w.heap.size 58 7 (.slice A' m c') m (cellsBy encHd (toldL (S.take (k + 1)))) by rw [HT2.out]; exact O1.out)
        clear R1 O1 HT2
        go_wp2
        go_roundw
        case rel => exact ⟨k + 1, m, c', A', by go_num, rfl, by omega, by omega, O3, B1⟩
        case measure => simp [intOf]; omega
    · have hlt' : ¬ (k : Int) < (n : Int) := by omega
      have HT := Lib.hid (show toldL (S.take k) = toldL S by
        rw [List.take_of_length_le (by have := HS.out.1; omega)])
      rw [HT.out] at OW
      clear HT
      go_wp2_with (go_at_call 46; refine (sort_heads OW.out (by omega)).mono ?_; rintro e1 w1 ⟨rfl, ⟨K, hk1, hk2, hk3⟩, hgr⟩)
      have hz := BW.out.size
      have B1 := BW.out.trans (own_keeps7 OW.out hgr hz)
      have B2 := B1.alloc B1.size (.cells #[.slice A' m c'] 91)
      have hz1 := B1.size
      show Q (.returned (.pointer (some ⟨w1.heap.size, 0, none⟩))) _
      rw [← HQ.out]
      exact ⟨w1.heap.size, A', m, c', K, rfl, B2, hz1, Blk.new w1 91 _, hk3.alloc _, hk1, hk2⟩
end Go.Proofs.Ytjinleakjkbbgaa
