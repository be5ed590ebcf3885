/- Gone. Conditions: what the words say; at most 100 descriptions. -/
import Derived.Test.YtiibefgdlmjdgaaGreatUn
namespace Go.Proofs.YtiibefgdlmjdgaaGreat
open Go.RowKit Go.Lib Go.Sort Go.Deep

/-- The keys of what is gone, in order, each once. -/
def goneL (S : List La) : List Ky := dedupK ((goneK S).mergeSort leKy)
def GoneQ (S : List La) (w : World) (e : Ending) (w' : World) : Prop :=
  ∃ (A : Option Addr) (m c : Nat), e = .returned (.slice A m c) ∧ Below w.heap.size w w' ∧ w'.ownsRow w.heap.size 48 3 (.slice A m c) m (kyCells (goneL S))
set_option maxRecDepth 8000 in
set_option maxHeartbeats 4000000 in
theorem goneS_any {w : World} {A : Option Addr} {n c : Nat} {S : List La} {B : Nat} (hS : Las w B A n S) (hB : B ≤ w.heap.size) (hn : n ≤ 100) : Calls Tryz.prog 20 #[.slice A n c] w (GoneQ S w) := by
  generalize hQ : GoneQ S w = Q
  have HQ := Lib.hid hQ
  have HS := Lib.hid hS
  have O0 := Lib.hid (World.ownsRow_nil w w.heap.size 48 3)
  have B0 := Lib.hid (Below.refl w.heap.size w)
  clear hQ hS
  go_enter Tryz.func20, Tryz.ntmps20
  go_wp2_with fail
  go_loopw [3, 8] (fun s3 s8 wr => ∃ (k m c' : Nat) (A' : Option Addr), s8 = .int .i64 k ∧ s3 = .slice A' m c' ∧ k ≤ n ∧ m ≤ k ∧ Hid (wr.ownsRow w.heap.size 48 3 (.slice A' m c') m (kyCells (goneK (S.take k)))) ∧ Hid (Below w.heap.size w wr)) (fun _ s8 _ => n - (intOf s8).toNat)
  case atStart => exact ⟨0, 0, 0, none, rfl, rfl, Nat.zero_le _, Nat.le_refl _, Lib.hid (by simpa [goneK, kyCells] using O0.out), B0⟩
  case round =>
    clear O0 B0
    obtain ⟨k, m, c', A', rfl, rfl, hk, hmk, OW, BW⟩ := hrel
    by_cases hlt : k < n
    · have hlt' : (k : Int) < (n : Int) := by omega
      obtain ⟨b, o, x, A1, n1, c1, A2, n2, c2, rfl, hb, hx, hr, -, -, -, -⟩ := las_item (HS.out.below (BW.out.mono hB)) hlt
      have HR := Lib.hid hr
      have HX := Lib.hid hx
      have hz := BW.out.size
      have BX := Lib.hid (BW.out.alloc hz (.cells #[.int .i64 x.h.age, .int .i64 x.h.kind, .int .i64 x.h.id, .int .i64 x.h.adv, .int .i64 x.h.seq, .int .i64 x.h.sum, .int .i64 x.h.long, .slice A1 n1 c1, .slice A2 n2 c2] 44))
      have KX := Lib.hid (Blk.new wr 44 #[.int .i64 x.h.age, .int .i64 x.h.kind, .int .i64 x.h.id, .int .i64 x.h.adv, .int .i64 x.h.seq, .int .i64 x.h.sum, .int .i64 x.h.long, .slice A1 n1 c1, .slice A2 n2 c2])
      have OX := Lib.hid (OW.out.alloc (.cells #[.int .i64 x.h.age, .int .i64 x.h.kind, .int .i64 x.h.id, .int .i64 x.h.adv, .int .i64 x.h.seq, .int .i64 x.h.sum, .int .i64 x.h.long, .slice A1 n1 c1, .slice A2 n2 c2] 44))
      have RX := Lib.hid (blk_range7 KX.out)
      clear hr hx OW BW
      go_wp2_with (first | refine wpList_load_row 44 _ _ (by rfl) (.tmp 10) rfl (by rfl) HR.out Tryz.underlying44 rfl (by kernel_rfl) ?_ | (refine wpList_load_row 44 _ _ (by rfl) (.tmp 5) rfl (by rfl) RX.out Tryz.underlying44 rfl (by kernel_rfl) ?_))
      refine (gone_any x A1 A2 n1 c1 n2 c2 _).mono ?_
      rintro e1 w1 ⟨rfl, hb1⟩
      generalize wr.alloc (.cells #[.int .i64 x.h.age, .int .i64 x.h.kind, .int .i64 x.h.id, .int .i64 x.h.adv, .int .i64 x.h.seq, .int .i64 x.h.sum, .int .i64 x.h.long, .slice A1 n1 c1, .slice A2 n2 c2] 44) = wx at *
      generalize wr.heap.size = X at *
      have hzx := BX.out.size
      have B1 := Lib.hid (BX.out.trans (hb1.mono hzx))
      have K1 := Lib.hid (KX.out.below hb1 KX.out.lt)
      have O1 := Lib.hid (own_chg OX.out (Chg.of_below (F := fun _ => False) hb1) (fun _ _ hf => hf))
      have hz1 := B1.out.size
      have R1 := Lib.hid (show w1.rangeAt X 0 [.int .i64 x.h.age, .int .i64 x.h.kind, .int .i64 x.h.id, .int .i64 x.h.adv, .int .i64 x.h.seq, .int .i64 x.h.sum, .int .i64 x.h.long] from head_range K1.out)
      have HT := Lib.hid (goneK_snoc (S.take k) x)
      rw [← take_snocA S k x HX.out] at HT
      clear hb1 BX KX OX RX hzx K1 HR HX
      cases hg : goneB x
      · have HT2 := Lib.hid (show goneK (S.take (k + 1)) = goneK (S.take k) by
          have := HT.out
          rwa [hg, if_neg (by decide)] at this)
        clear HT hg
        have O3 := Lib.hid (show w1.ownsRow w.heap.size 48 3 (.slice A' m c') m (kyCells (goneK (S.take (k + 1)))) by rw [HT2.out]; exact O1.out)
        clear R1 O1 HT2
        go_wp2
        go_roundw
        case rel => exact ⟨k + 1, m, c', A', by go_num, rfl, by omega, by omega, O3, B1⟩
        case measure => simp [intOf]; omega
      · have HT2 := Lib.hid (show goneK (S.take (k + 1)) = goneK (S.take k) ++ [kyL x] by
          have := HT.out
          rwa [hg, if_pos rfl] at this)
        clear HT hg
        go_wp2_with (first | refine wpList_load_row 40 _ _ (by rfl) (.tmp 15) rfl (by rfl) R1.out Tryz.underlying40 rfl (by kernel_rfl) ?_)
        refine (keyOf_any x.h _).mono ?_
        rintro e2 w2 ⟨rfl, hb2⟩
        have B2 := Lib.hid (B1.out.trans (hb2.mono hz1))
        have O2 := Lib.hid (own_chg O1.out (Chg.of_below (F := fun _ => False) hb2) (fun _ _ hf => hf))
        have hz2 := B2.out.size
        clear hb2 B1 O1 R1 hz1
        go_wp2_with (at_builtin; refine wpList_app_ky rfl (.tmp 14) (.tmp 18) rfl (kyL x) (by rfl) (by rfl) O2.out (by omega) hz2 ?_; intro A3 c3 w3 HO3 HB3)
        have O3 := Lib.hid (show w3.ownsRow w.heap.size 48 3 (.slice A3 (m + 1) c3) (m + 1) (kyCells (goneK (S.take (k + 1)))) by rw [HT2.out]; exact HO3.out)
        have B3 := Lib.hid (B2.out.trans HB3.out)
        clear HO3 HB3 O2 B2 HT2
        go_roundw
        case rel => exact ⟨k + 1, m + 1, c3, A3, by go_num, by first | rfl | go_num, by omega, by omega, O3, B3⟩
        case measure => simp [intOf]; omega
    · have hlt' : ¬ (k : Int) < (n : Int) := by omega
      have HT := Lib.hid (show goneK (S.take k) = goneK S by
        rw [List.take_of_length_le (by have := HS.out.1; omega)])
      rw [HT.out] at OW
      clear HT
      go_wp2_with (first | (go_at_call 39; refine (sort_keys7 OW.out (by omega)).mono ?_; rintro e1 w1 ⟨rfl, hk3, hgr⟩; have hz := BW.out.size; have B1 := Lib.hid (BW.out.trans (own_keeps7 OW.out hgr hz)); have O1 := Lib.hid hk3; clear hk3 hgr OW BW) | (go_at_call 40; refine (compact_any O1.out (by omega)).mono ?_; rintro e2 w2 ⟨m2, rfl, ho2, hc2⟩))
      show Q (.returned (.slice A' m2 c')) w2
      rw [← HQ.out]
      exact ⟨A', m2, c', rfl, B1.out.trans (hc2.to_below (fun q hq => (O1.out.lt q hq).1) B1.out.size), ho2⟩
end Go.Proofs.YtiibefgdlmjdgaaGreat
