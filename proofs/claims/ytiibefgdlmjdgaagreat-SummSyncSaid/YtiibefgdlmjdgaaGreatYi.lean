/- The program's database and the reference's, of the same descriptions, and what they hold. Conditions: at most 100 descriptions, of at most 20 links and members. -/
import Derived.Test.YtiibefgdlmjdgaaGreatYh
namespace Go.Proofs.YtiibefgdlmjdgaaGreat
open Go.RowKit Go.Lib Go.Sort Go.Deep

def BothS13 (T : List La) (w : World) (e : Ending) (w' : World) : Prop :=
  ∃ (lo2 p g : Nat) (F F' : Nat → Prop), e = .returned (.tuple #[.pointer (some ⟨p, 0, none⟩), .pointer (some ⟨g, 0, none⟩)]) ∧ Below w.heap.size w w' ∧ w.heap.size ≤ lo2 ∧ Pair w' w.heap.size lo2 p g (bothL T) F F'
set_option maxRecDepth 8000 in
set_option maxHeartbeats 8000000 in
theorem both13s_any {w : World} {A : Option Addr} {n c B : Nat} {T : List La} (hT : Las w B A n T) (hB : B ≤ w.heap.size) (hn : n ≤ 100) (h20 : ∀ a ∈ T, a.L.length ≤ 20 ∧ a.M.length ≤ 20) : Calls Tryz.prog 8 #[.slice A n c] w (BothS13 T w) := by
  generalize hQ : BothS13 T w = Q
  have HQ := Lib.hid hQ
  have HT := Lib.hid hT
  have H20 := Lib.hid h20
  clear hQ hT h20
  go_enter Tryz.func8, Tryz.ntmps8
  go_wp2_with (first | (go_at_call 21; refine (new_db 40 _).mono ?_; rintro e1 w1 ⟨p, F1, rfl, hb1, hd1⟩) | (go_at_call 22; refine (r7New_db 40 _).mono ?_; rintro e2 w2 ⟨rfl, hb2, F2, hd2⟩))
  rw [show roomOf 40 = 40 by decide] at hd1 hd2
  have B2 := Lib.hid (hb1.trans (hb2.mono hb1.size))
  have hlo2 := hb1.size
  have D2 := Lib.hid (show Pair w2 w.heap.size w1.heap.size p w1.heap.size [] F1 F2 from ⟨hd1.chg (F' := fun _ => False) (Chg.of_below hb2) (fun _ _ hf => hf), hd2, fun q h1 h2 => by
    have := (hd1.foot h1).2
    have := (hd2.foot h2).1
    omega⟩)
  clear hb1 hb2 hd1 hd2
  generalize w1.heap.size = lo2 at *
  go_wp2_with fail
  go_loopw [12] (fun s12 wr => ∃ (k : Nat) (F F' : Nat → Prop), s12 = .int .i64 k ∧ k ≤ n ∧ Hid (Pair wr w.heap.size lo2 p lo2 (bothL (T.take k)) F F') ∧ Hid (Below w.heap.size w wr)) (fun s12 _ => n - (intOf s12).toNat)
  case atStart => exact ⟨0, F1, F2, rfl, Nat.zero_le _, D2, B2⟩
  case round =>
    clear D2 B2
    obtain ⟨k, F, F', rfl, hk, DW, BW⟩ := hrel
    obtain ⟨S, hS⟩ : ∃ S, S = bothL (T.take k) := ⟨_, rfl⟩
    rw [← hS] at DW
    have HSS := Lib.hid hS
    clear hS
    by_cases hlt : k < n
    · have hlt' : (k : Int) < (n : Int) := by omega
      obtain ⟨b, o, x, A1, n1, c1, A2, n2, c2, rfl, hb, hx, hr, hL, hM, hm1, hm2⟩ := las_item (HT.out.below (BW.out.mono hB)) hlt
      have HR := Lib.hid hr
      have HNX := Lib.hid (show putS 40 S x = bothL (T.take (k + 1)) by rw [take_snocA T k x hx, bothL_snoc, HSS.out])
      have HL := Lib.hid hL
      have HM := Lib.hid hM
      obtain ⟨l1, l2⟩ := H20.out x (List.mem_of_getElem? hx)
      have l3 : n1 ≤ 20 := by have := hL.1; omega
      have l4 : n2 ≤ 20 := by have := hM.1; omega
      have hz := BW.out.size
      have BX := Lib.hid (BW.out.alloc hz (.cells #[.int .i64 x.h.age, .int .i64 x.h.kind, .int .i64 x.h.id, .int .i64 x.h.adv, .int .i64 x.h.seq, .int .i64 x.h.sum, .int .i64 x.h.long, .slice A1 n1 c1, .slice A2 n2 c2] 44))
      have KX := Lib.hid (Blk.new wr 44 #[.int .i64 x.h.age, .int .i64 x.h.kind, .int .i64 x.h.id, .int .i64 x.h.adv, .int .i64 x.h.seq, .int .i64 x.h.sum, .int .i64 x.h.long, .slice A1 n1 c1, .slice A2 n2 c2])
      have DX := Lib.hid (DW.out.below ((Below.refl wr.heap.size wr).alloc (Nat.le_refl _) (.cells #[.int .i64 x.h.age, .int .i64 x.h.kind, .int .i64 x.h.id, .int .i64 x.h.adv, .int .i64 x.h.seq, .int .i64 x.h.sum, .int .i64 x.h.long, .slice A1 n1 c1, .slice A2 n2 c2] 44)))
      have LX := Lib.hid (hL.alloc (by omega) (.cells #[.int .i64 x.h.age, .int .i64 x.h.kind, .int .i64 x.h.id, .int .i64 x.h.adv, .int .i64 x.h.seq, .int .i64 x.h.sum, .int .i64 x.h.long, .slice A1 n1 c1, .slice A2 n2 c2] 44))
      have MX := Lib.hid (hM.alloc (by omega) (.cells #[.int .i64 x.h.age, .int .i64 x.h.kind, .int .i64 x.h.id, .int .i64 x.h.adv, .int .i64 x.h.seq, .int .i64 x.h.sum, .int .i64 x.h.long, .slice A1 n1 c1, .slice A2 n2 c2] 44))
      have RX := Lib.hid (blk_range7 KX.out)
      have NX := Lib.hid (show (∀ q, F q → q ≠ wr.heap.size) ∧ (∀ q, F' q → q ≠ wr.heap.size) from ⟨fun q hq => by have := (DW.out.1.foot hq).2; omega, fun q hq => by have := (DW.out.2.1.foot hq).2; omega⟩)
      clear hr hx hL hM DW BW l1 l2
      go_wp2_with (first | refine wpList_load_row 44 _ _ (by rfl) (.tmp 14) rfl (by rfl) HR.out Tryz.underlying44 rfl (by kernel_rfl) ?_ | (refine wpList_load_row 44 _ _ (by rfl) (.tmp 7) rfl (by rfl) RX.out Tryz.underlying44 rfl (by kernel_rfl) ?_))
      generalize wr.alloc (.cells #[.int .i64 x.h.age, .int .i64 x.h.kind, .int .i64 x.h.id, .int .i64 x.h.adv, .int .i64 x.h.seq, .int .i64 x.h.sum, .int .i64 x.h.long, .slice A1 n1 c1, .slice A2 n2 c2] 44) = wx at *
      generalize wr.heap.size = X at *
      have hzx := BX.out.size
      refine (put_db DX.out.1 DX.out.sort hzx x.h x.L x.M A1 A2 n1 c1 n2 c2 B LX.out MX.out (by omega) (by omega) (by omega)).mono ?_
      rintro e3 w3 ⟨rfl, F3, hd3, hc3, hf3⟩
      have hB3 : Below w.heap.size wx w3 := hc3.to_below (fun q hq => (DX.out.1.foot hq).1) hzx
      have B3 := Lib.hid (BX.out.trans hB3)
      have hz3 := B3.out.size
      have R3 := Lib.hid (show RefDb w3 lo2 lo2 40 S F' from DX.out.2.1.chg hc3 (fun q h1 h2 => DX.out.2.2 q h2 h1))
      have P3 := Lib.hid hd3
      have J3 := Lib.hid (show ∀ q, F3 q → ¬ F' q from fun q h1 h2 => by
        rcases hf3 q h1 with h | h
        · exact DX.out.2.2 q h h2
        · have := (DX.out.2.1.foot h2).2
          omega)
      have K3 := Lib.hid (KX.out.chg hc3 (fun h => NX.out.1 X h rfl))
      have RX3 := Lib.hid (blk_range7 K3.out)
      have L3 := Lib.hid (LX.out.below (hB3.mono hB))
      have M3 := Lib.hid (MX.out.below (hB3.mono hB))
      clear hd3 hc3 hf3 hB3 DX KX LX MX RX BX NX HR
      go_wp2_with (refine wpList_load_row 44 _ _ (by rfl) (.tmp 7) rfl (by rfl) RX3.out Tryz.underlying44 rfl (by kernel_rfl) ?_)
      refine (r7Put_db R3.out (by have := (R3.out.foot (q := lo2) (by obtain ⟨_, _, _, _, -, -, -, -, -, -, -, -, hF⟩ := R3.out; exact (hF lo2).2 (.inl rfl))).2; omega) x.h x.L x.M A1 A2 n1 c1 n2 c2 B L3.out M3.out (by omega) (by omega) (by omega)).mono ?_
      rintro e4 w4 ⟨rfl, F4, hd4, hc4, hf4⟩
      have hB4 : Below w.heap.size w3 w4 := hc4.to_below (fun q hq => Nat.le_trans hlo2 (R3.out.foot hq).1) hz3
      have B4 := Lib.hid (B3.out.trans hB4)
      have D4 := Lib.hid (show Pair w4 w.heap.size lo2 p lo2 (putS 40 S ⟨x.h, x.L, x.M⟩) F3 F4 from ⟨P3.out.chg hc4 (fun q h1 h2 => J3.out q h1 h2), hd4, fun q h1 h2 => by
        rcases hf4 q h2 with h | h
        · exact J3.out q h1 h
        · have := (P3.out.foot h1).2
          omega⟩)
      clear hd4 hc4 hf4 hB4 R3 P3 J3 K3 RX3 L3 M3 B3 HL HM
      go_wp2
      go_roundw
      have D5 := Lib.hid (show Pair w4 w.heap.size lo2 p lo2 (bothL (T.take (k + 1))) F3 F4 by rw [← HNX.out]; exact D4.out)
      case rel => exact ⟨k + 1, F3, F4, by go_num, by omega, D5, B4⟩
      case measure => simp [intOf]; omega
    · have hlt' : ¬ (k : Int) < (n : Int) := by omega
      go_wp2
      show Q (.returned (.tuple #[.pointer (some ⟨p, 0, none⟩), .pointer (some ⟨lo2, 0, none⟩)])) wr
      rw [← HQ.out]
      have hT : T.take k = T := List.take_of_length_le (by have := HT.out.1; omega)
      rw [HSS.out, hT] at DW
      exact ⟨lo2, p, lo2, F, F', rfl, BW.out, hlo2, DW.out⟩
end Go.Proofs.YtiibefgdlmjdgaaGreat
