/- The program's Arm. Conditions: what the words say; at most 1000 timers a call. -/
import Derived.Test.YtaghophkfogdgaaTd
namespace Go.Proofs.Ytaghophkfogdgaa
open Go.RowKit

set_option maxRecDepth 8000 in
set_option maxHeartbeats 8000000 in
theorem arm_wh {w : World} {p b lo n c : Nat} {R : List En} {A : Option Addr} {L : List Tm} (z : Int) (h : PWh w p b R) (hs : w.ownsRow lo 33 6 (.slice A n c) n (cellsBy encTm L)) (hw : ∀ t ∈ L, wfTm t) (hn : n ≤ 1000) (hR : R.length ≤ 1000000) :
    Calls Try.prog 8 #[.pointer (some ⟨p, 0, none⟩), .int .i64 z, .slice A n c] w fun e w' => e = .returned (.tuple #[]) ∧ PWh w' p b (armAll z R L) ∧ Chg (fun q => q = b) w w' := by
  have hln := own_len encTm_len (by omega) hs
  generalize hQ : (fun (e : Ending) (w' : World) => e = .returned (.tuple #[]) ∧ PWh w' p b (armAll z R L) ∧ Chg (fun q => q = b) w w') = Q
  have HQ := Lib.hid hQ
  clear hQ
  have H := Lib.hid h
  have HS := Lib.hid hs
  have HW := Lib.hid hw
  have HNE := Lib.hid (h.2.ne_blk h.1)
  have HNS := Lib.hid (own_ne_map h.2 hs)
  have HLEN := Lib.hid hln
  have HRL := Lib.hid hR
  clear h hs hw hln hR
  go_enter Try.func8, Try.ntmps8
  go_wp2_with fail
  go_loopw [12] (fun s12 wr => ∃ j : Nat, j ≤ n ∧ s12 = .int .i64 j ∧ Hid (PWh wr p b (armAll z R (L.take j))) ∧ Hid (Chg (fun q => q = b) w wr)) (fun i _ => n - (intOf i).toNat)
  case atStart => exact ⟨0, Nat.zero_le _, rfl, H, Lib.hid (Chg.refl _ _)⟩
  case round =>
    obtain ⟨j, hj, rfl, HP, HC⟩ := hrel
    by_cases hlt : j < n
    · have hlt' : (j : Int) < n := by omega
      obtain ⟨x, hx⟩ : ∃ x, L[j]? = some x := ⟨L[j]'(by have := HLEN.out; omega), List.getElem?_eq_getElem (by have := HLEN.out; omega)⟩
      have HX := Lib.hid hx
      have HWX := Lib.hid (HW.out x (List.mem_of_getElem? hx))
      obtain ⟨g, rfl, -, hgl, hnc, hcm, y0, y1, y2, y3, y4, y5⟩ := own_tm (own_chg HS.out HC.out (fun q hq e => HNS.out (by rw [hq, e]))) hx
      unfold maxLen at hcm
      have HLA := Lib.hid (show (armAll z R (L.take j)).length < maxLen by
        have h1 := armAll_len z (L.take j) R
        have h2 : (L.take j).length ≤ L.length := by rw [List.length_take]; omega
        have h3 := HRL.out
        have h4 := HLEN.out
        unfold maxLen
        omega)
      clear hx
      go_wp2_with fail
      have J2 := Lib.hid (Blk.new wr 33 #[.int .i64 x.kind, .int .i64 x.lan, .int .i64 x.id, .int .i64 x.kk, .int .i64 x.ki, .int .i64 x.ka])
      have BW2 := Lib.hid ((Below.refl wr.heap.size wr).alloc (Nat.le_refl _) (.cells #[.int .i64 x.kind, .int .i64 x.lan, .int .i64 x.id, .int .i64 x.kk, .int .i64 x.ki, .int .i64 x.ka] 33))
      clear y0 y1 y2 y3 y4 y5
      generalize wr.alloc (.cells #[.int .i64 x.kind, .int .i64 x.lan, .int .i64 x.id, .int .i64 x.kk, .int .i64 x.ki, .int .i64 x.ka] 33) = w2 at *
      have P2 := Lib.hid (HP.out.below BW2.out)
      have hpl := P2.out.1.lt
      have hgl2 := J2.out.lt
      obtain ⟨k0, k1, k2, k3, k4, k5⟩ := J2.out.six
      have c0 := P2.out.1.one
      go_still_tail 6, (by kernel_rfl)
      change wpList _ _ _ _ _ w2.drew
      go_wp2_with (at_mapUpdate; refine wpList_put8 x z rfl _ _ _ rfl rfl rfl rfl P2.out.2.drew HWX.out HLA.out ?_; intro w3 hm3 hturn; have HC3 := Lib.hid (chg_of_turned hturn); have HM3 := Lib.hid hm3; clear hm3 hturn k0 k1 k2 k3 k4 k5 c0)
      go_roundw
      case rel =>
        have hc2 : Chg (fun q => q = b) w w2.drew := HC.out.below ⟨BW2.out.os, BW2.out.tape, BW2.out.output, BW2.out.size, BW2.out.block⟩
        refine ⟨j + 1, by omega, by go_num, Lib.hid ⟨?_, ?_⟩, Lib.hid (hc2.trans HC3.out (fun q hq => .inl hq))⟩
        · exact Blk.chg (w := w2.drew) P2.out.1.drew HC3.out HNE.out
        · rw [armAll_next HX.out]
          exact HM3.out
      case measure => simp [intOf]; omega
    · have hjn : j = n := by omega
      have HJN := Lib.hid hjn
      clear hjn
      go_wp2
      have HT : L.take j = L := by rw [HJN.out, ← HLEN.out, List.take_length]
      rw [HT] at HP
      refine bodyPost_ret (v := .tuple #[]) (by simp [results, Try.results8, go_sem, *]) rfl ?_
      rw [← HQ.out]
      exact ⟨rfl, HP.out, HC.out⟩
end Go.Proofs.Ytaghophkfogdgaa
