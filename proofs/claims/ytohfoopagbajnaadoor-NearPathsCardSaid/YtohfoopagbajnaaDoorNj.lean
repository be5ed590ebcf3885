/- The walk of the statement NearPaths. No conditions. -/
import Derived.Test.YtohfoopagbajnaaDoorNd
import Derived.Test.YtohfoopagbajnaaDoorNe
namespace Go.Proofs.YtohfoopagbajnaaDoor
open Go.RowKit Go.Deep
def cells1 (L : List Int) : List Value := L.map fun z => .int .i64 z
theorem cells1_ones (L : List Int) : ∀ u ∈ cells1 L, u.oneCell' = true := by
  intro u hu
  obtain ⟨z, -, rfl⟩ := List.mem_map.1 hu
  rfl
theorem Tryd.infoInt : (Tryd.prog.info? 3).map (fun i => (i.zero, i.size, i.bytes)) = some (some (.int .i64 0), 1, 8) := by kernel_rfl
theorem own_blk {w : World} {g base : Nat} {t : TypeId} {n size : Nat} {xs : List Value} (hb : Blk w g t xs.toArray) (hl : xs.length = n * size) (hn : n ≤ maxLen) (hg : base ≤ g) : w.ownsRow base t size (.slice (some ⟨g, 0, none⟩) n n) n xs :=
  ⟨hl, .inr ⟨g, n, xs.toArray, rfl, hg, hb, Nat.le_refl _, hn, by simp [hl], by simp [← hl]⟩⟩
theorem own_empty (w : World) : (w.alloc (.cells #[] 3)).ownsRow w.heap.size 3 1 (.slice (some ⟨w.heap.size, 0, none⟩) 0 0) 0 [] :=
  own_blk (xs := []) (Blk.new w 3 #[]) rfl (by unfold maxLen; omega) (Nat.le_refl _)
/-- A row that came in, as cells. -/
theorem Row.cells {w : World} {B n : Nat} {A : Option Addr} {L : List Int} (h : Row .i64 w B A n L) : (A = none → n = 0) ∧ (∀ ad, A = some ad → ∀ j u, (cells1 L)[j]? = some u → w.cell? (ad.add j) = some u) := by
  refine ⟨fun e => ?_, fun ad e j u hu => ?_⟩
  · rcases Nat.eq_zero_or_pos n with h0 | h0
    · exact h0
    · obtain ⟨b, o, e2, -⟩ := h.2 h0
      rw [e] at e2
      cases e2
  · unfold cells1 at hu
    rw [List.getElem?_map, Option.map_eq_some_iff] at hu
    obtain ⟨z, hz, rfl⟩ := hu
    have hj := (List.getElem?_eq_some_iff.1 hz).1
    have hl := h.1
    obtain ⟨b, o, x, e2, -, hx, hc⟩ := h.at (k := j) (by omega)
    rw [e] at e2
    injection e2 with e2
    subst e2
    rw [addr_add, hc]
    rw [hz] at hx
    injection hx with hx
    rw [hx]
/-- A row of one's own, as a row. -/
theorem own_row {w : World} {base n c : Nat} {A : Option Addr} {L : List Int} (h : w.ownsRow base 3 1 (.slice A n c) n (cells1 L)) : Row .i64 w w.heap.size A n L := by
  have hl : L.length = n := by have := h.1; simpa [cells1] using this
  refine ⟨hl, fun hn => ?_⟩
  rcases own_addr7 h with ⟨-, e, -⟩ | ⟨g, rfl⟩
  · omega
  · refine ⟨g, 0, rfl, h.lt g rfl |>.2, fun j hj => ?_⟩
    refine own_cell7 h j _ ?_
    unfold cells1
    have hx : L[j]? = some (L[j]'(by omega)) := List.getElem?_eq_getElem (by omega)
    rw [List.getElem?_map, List.getD_eq_getElem?_getD, hx]
    rfl
/-- The head of a row. -/
theorem Row.head {w : World} {B n m : Nat} {A : Option Addr} {L : List Int} (h : Row .i64 w B A n L) (hm : m ≤ n) : Row .i64 w B A m (L.take m) := by
  have hl := h.1
  refine ⟨by simp; omega, fun hp => ?_⟩
  obtain ⟨b, o, e, hb, hc⟩ := h.2 (by omega)
  refine ⟨b, o, e, hb, fun j hj => ?_⟩
  rw [hc j (by omega), List.getD_eq_getElem?_getD, List.getD_eq_getElem?_getD, List.getElem?_take, if_pos hj]

set_option maxRecDepth 8000 in
set_option maxHeartbeats 8000000 in
theorem paths_walk {n c : Nat} {A : Option Addr} {L : List Int} (w : World) (hL : Row .i64 w w.heap.size A n L) (hnc : n ≤ c) (hcm : c ≤ maxLen) (hT : Tab w) : Calls Tryd.prog 4 #[.slice A n c] w fun x w' => x = .returned (.bool true) ∧ Below w.heap.size w w' := by
  have HT := Lib.hid hT
  have HL := Lib.hid hL
  have hlen := hL.1
  have HCM := Lib.hid hcm
  unfold maxLen at hcm
  clear hT hL
  go_enter Tryd.func4, Tryd.ntmps4
  go_wp2_with fail
  refine (wakes_any HT.out).mono ?_
  rintro e1 w1 ⟨rfl, hb1⟩
  have B1 := Lib.hid hb1
  have T1 := Lib.hid (HT.out.next hb1)
  have L1 := Lib.hid (HL.out.below hb1)
  have hs1 := hb1.size
  clear hb1 HT HL
  by_cases hn : 100 < n
  · have hn' : (100 : Int) < n := by omega
    go_wp2
    go_ret
    exact ⟨rfl, B1.out⟩
  have hn' : ¬ (100 : Int) < n := by omega
  go_wp2_with fail
  go_loopw [3, 13] (fun s i wr => ∃ k : Nat, k ≤ n ∧ i = .int .i64 k ∧ s = .int .i64 (pathF (L.take k)) ∧ Hid (Below w1.heap.size w1 wr)) (fun s i _ => n - (intOf i).toNat)
  case atStart => exact ⟨0, Nat.zero_le _, rfl, rfl, Lib.hid (Below.refl _ _)⟩
  case round =>
    obtain ⟨k, hk, rfl, rfl, hb⟩ := hrel
    have hsz := hb.out.size
    have LR := Lib.hid (L1.out.below (hb.out.mono hs1))
    by_cases hlt : k < n
    · have hlt' : (k : Int) < n := by omega
      have HH := Lib.hid (LR.out.head (m := k + 1) (by omega))
      obtain ⟨b, o, x, rfl, hb1, hx, hc⟩ := LR.out.at hlt
      have HX := Lib.hid (show stepF (pathF (L.take k)) x true = pathF (L.take (k + 1)) by rw [take_snocA L k x hx, pathF_snoc])
      clear hx
      generalize pathF (L.take k) = s at *
      go_wp2_with fail
      refine (rstep_any s x true wr).mono ?_
      rintro x2 w2 ⟨rfl, hb2⟩
      rw [HX.out]
      have B2 := Lib.hid (hb.out.trans (hb2.mono hsz))
      have H2 := Lib.hid (HH.out.below (hb2.mono (by omega)))
      have T2 := Lib.hid (T1.out.next B2.out)
      have hs2 := B2.out.size
      clear hb2 HH
      have i1 : (0 : Int) ≤ (k : Int) + 1 := by omega
      have i2 : ((k : Int) + 1) ≤ c := by omega
      go_wp2_with fail
      refine (path_any H2.out (by omega) (by unfold maxLen; omega) T2.out).mono ?_
      rintro x3 w3 ⟨rfl, hb3⟩
      have B3 := Lib.hid (B2.out.trans (hb3.mono hs2))
      clear hb3 H2 HX
      generalize hv : pathF (L.take (k + 1)) = v at *
      go_wp2_with fail
      go_roundw
      case rel => exact ⟨k + 1, by omega, by go_num, by rw [hv], B3⟩
      case measure => simp [intOf]; omega
    · obtain rfl : k = n := by omega
      generalize pathF (L.take k) = s at *
      have B2 := Lib.hid (hb.out.trans (Below.mono ((Below.refl wr.heap.size wr).alloc (Nat.le_refl _) (.cells #[] 3)) hsz))
      have O2 := Lib.hid (own_empty wr)
      have L2 := Lib.hid (LR.out.below ((Below.refl w.heap.size wr).alloc (by omega) (.cells #[] 3)))
      have hsl : wr.heap.size ≤ (wr.alloc (.cells #[] 3)).heap.size := by simp
      have ho1 := cells1_ones L
      have hlen1 : (cells1 L).length = k * 1 := by simp [cells1, hlen]
      have h8 : ∀ u ∈ [Value.int .i64 8], u.oneCell' = true := by simp [Value.oneCell']
      have HV := Lib.hid (show pathF (L ++ [8]) = 0 from path_gone L)
      go_wp2_with (at_builtin; first
        | (refine wpList_append_any rfl (.tmp 29) (.tmp 30) 27 3 (.int .i64 0) 1 8 Tryd.underlying27 Tryd.infoInt rfl (by decide) (by decide) rfl wr.heap.size (.slice (some ⟨wr.heap.size, 0, none⟩) 0 0) 0 [] (by rfl) O2.out A k c (cells1 L) (by rfl) hlen1 L2.out.cells.1 L2.out.cells.2 ho1 (by omega) hsl ?_; intro v2 w2 ho2 hg2; obtain ⟨A2, c2, rfl⟩ := own_slice ho2.out; rw [Nat.zero_add, List.nil_append] at ho2)
        | (refine wpList_append_any rfl (.tmp 31) (.tmp 32) 27 3 (.int .i64 0) 1 8 Tryd.underlying27 Tryd.infoInt rfl (by decide) (by decide) rfl wr.heap.size (.slice A2 k c2) k (cells1 L) (by rfl) (ho2.out.alloc _) (some ⟨w2.heap.size, 0, none⟩) 1 1 [.int .i64 8] (by rfl) (by rfl) (fun h => by cases h) (news_new w2 3 [.int .i64 8]) h8 (by omega) (by have := hg2.out.size; simp at *; omega) ?_; intro v4 w4 ho4 hg4; obtain ⟨A4, c4, rfl⟩ := own_slice ho4.out))
      have hw2 : wr.heap.size ≤ w2.heap.size := by have := hg2.out.size; simp at this; omega
      have B3 := Lib.hid (B2.out.trans ((own_keeps7 O2.out hg2.out hsl).mono hsz))
      have B4 := Lib.hid (B3.out.alloc (by omega) (.cells #[.int .i64 8] 3))
      have B5 := Lib.hid (B4.out.trans ((own_keeps7 (ho2.out.alloc _) hg4.out (show wr.heap.size ≤ (w2.alloc (.cells #[.int .i64 8] 3)).heap.size by simp; omega)).mono hsz))
      have R5 := Lib.hid (own_row (L := L ++ [8]) (show w4.ownsRow wr.heap.size 3 1 (.slice A4 (k + 1) c4) (k + 1) (cells1 (L ++ [8])) by have := ho4.out; simpa [cells1] using this))
      have T5 := Lib.hid (T1.out.next B5.out)
      have hs5 := B5.out.size
      clear ho4 hg4 ho2 hg2 B4 B3 B2 O2 L2 hb LR
      refine (path_any R5.out (Nat.le_refl _) (by unfold maxLen; omega) T5.out).mono ?_
      rintro x6 w6 ⟨rfl, hb6⟩
      rw [HV.out]
      have B6 := Lib.hid (B5.out.trans (hb6.mono hs5))
      clear hb6
      go_wp2_with fail
      refine (path_none (T1.out.next B6.out)).mono ?_
      rintro x7 w7 ⟨rfl, hb7⟩
      have B7 := Lib.hid (B6.out.trans (hb7.mono B6.out.size))
      clear hb7
      go_wp2
      go_ret
      exact ⟨rfl, B1.out.trans (B7.out.mono hs1)⟩
end Go.Proofs.YtohfoopagbajnaaDoor
