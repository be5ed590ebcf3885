/- One go of the program's election; the place of a candidate; a copy of a list. Conditions: at most 2^20 candidates where a list is copied. -/
import Derived.Test.YtedlkoecnnmihaaEh
import Derived.Laws.CopyOwn
namespace Go.Proofs.Ytedlkoecnnmihaa
open Go.RowKit

def bkP (L : List Cd) : Int := if (bestP (fun c => !(c.dr == c.id) && c.bdr == c.id) L).id = 0 then (bestP (fun c => !(c.dr == c.id)) L).id else (bestP (fun c => !(c.dr == c.id) && c.bdr == c.id) L).id
def goP (L : List Cd) : Int × Int := (if (bestP (fun c => c.dr == c.id) L).id = 0 then bkP L else (bestP (fun c => c.dr == c.id) L).id, bkP L)
theorem enter17 : ∀ args w, (callFunc 34 args).run Try.prog w = .ok (.enter 34 args) w := fun _ _ => by kernel_rfl
theorem enter23 : ∀ args w, (callFunc 37 args).run Try.prog w = .ok (.enter 37 args) w := fun _ _ => by kernel_rfl
theorem enter25 : ∀ args w, (callFunc 38 args).run Try.prog w = .ok (.enter 38 args) w := fun _ _ => by kernel_rfl

set_option maxRecDepth 8000 in
set_option maxHeartbeats 2000000 in
theorem backup_any {w : World} {B n c : Nat} {A : Option Addr} {L : List Cd} (hs : Cds w B A n L) (hB : B ≤ w.heap.size) (hn : n ≤ maxLen) :
    Calls Try.prog 32 #[.slice A n c] w fun e w' => e = .returned (.int .i64 (bkP L)) ∧ Below w.heap.size w w' := by
  have HP := Lib.hid (hs.more hB)
  have HN := Lib.hid hn
  obtain ⟨v, hv⟩ : ∃ v, v = bkP L := ⟨_, rfl⟩
  rw [← hv]
  have HV := Lib.hid hv
  clear hv hs hn
  go_enter Try.func32, Try.ntmps32
  go_wp2_with fail
  refine (best_any 37 (fun c => !(c.dr == c.id) && c.bdr == c.id) enter23 isb_any HP.out (Nat.le_refl _) HN.out).mono ?_
  rintro e1 w1 ⟨rfl, hb1⟩
  have B1 := Lib.hid hb1
  have hsz := hb1.size
  clear hb1
  by_cases h0 : (bestP (fun c => !(c.dr == c.id) && c.bdr == c.id) L).id = 0
  · have HV2 := Lib.hid (show (bestP (fun c => !(c.dr == c.id)) L).id = v by rw [HV.out, bkP, if_pos h0])
    have d0 : ((bestP (fun c => !(c.dr == c.id) && c.bdr == c.id) L).id == 0) = true := by simp [h0]
    clear h0
    go_wp2_with fail
    refine (best_any 38 (fun c => !(c.dr == c.id)) enter25 notdr_any (HP.out.below B1.out) hsz HN.out).mono ?_
    rintro e2 w2 ⟨rfl, hb2⟩
    rw [HV2.out]
    have B2 := Lib.hid (B1.out.trans (hb2.mono hsz))
    clear hb2
    go_wp2
    go_ret
    exact ⟨rfl, B2.out⟩
  · have HV2 := Lib.hid (show (bestP (fun c => !(c.dr == c.id) && c.bdr == c.id) L).id = v by rw [HV.out, bkP, if_neg h0])
    rw [HV2.out] at h0 ⊢
    have d0 : (v == 0) = false := by simp [h0]
    clear h0
    go_wp2
    go_ret
    exact ⟨rfl, B1.out⟩
set_option maxRecDepth 8000 in
set_option maxHeartbeats 2000000 in
theorem goP_any {w : World} {B n c : Nat} {A : Option Addr} {L : List Cd} (hs : Cds w B A n L) (hB : B ≤ w.heap.size) (hn : n ≤ maxLen) :
    Calls Try.prog 26 #[.slice A n c] w fun e w' => e = .returned (.tuple #[.int .i64 (goP L).1, .int .i64 (goP L).2]) ∧ Below w.heap.size w w' := by
  have HP := Lib.hid (hs.more hB)
  have HN := Lib.hid hn
  obtain ⟨d, hd⟩ : ∃ d, d = (goP L).1 := ⟨_, rfl⟩
  obtain ⟨b, hb⟩ : ∃ b, b = (goP L).2 := ⟨_, rfl⟩
  rw [← hd, ← hb]
  have HD := Lib.hid hd
  have HBK := Lib.hid (show bkP L = b from hb.symm)
  clear hd hb hs hn
  go_enter Try.func26, Try.ntmps26
  go_wp2_with fail
  refine (backup_any HP.out (Nat.le_refl _) HN.out).mono ?_
  rintro e1 w1 ⟨rfl, hb1⟩
  rw [HBK.out]
  have B1 := Lib.hid hb1
  have hsz := hb1.size
  clear hb1
  go_wp2_with fail
  refine (best_any 34 (fun c => c.dr == c.id) enter17 isdr_any (HP.out.below B1.out) hsz HN.out).mono ?_
  rintro e2 w2 ⟨rfl, hb2⟩
  have B2 := Lib.hid (B1.out.trans (hb2.mono hsz))
  clear hb2
  by_cases h0 : (bestP (fun c => c.dr == c.id) L).id = 0
  · have HD2 := Lib.hid (show b = d by rw [HD.out, goP, if_pos h0, HBK.out])
    have d0 : ((bestP (fun c => c.dr == c.id) L).id == 0) = true := by simp [h0]
    clear h0
    go_wp2
    refine bodyPost_ret (v := .tuple #[.int .i64 d, .int .i64 b]) (by simp [results, Try.results26, go_sem, *]; exact HD2.out) rfl ?_
    exact ⟨rfl, B2.out⟩
  · have HD2 := Lib.hid (show (bestP (fun c => c.dr == c.id) L).id = d by rw [HD.out, goP, if_neg h0])
    rw [HD2.out] at h0 ⊢
    have d0 : (d == 0) = false := by simp [h0]
    clear h0
    go_wp2
    refine bodyPost_ret (v := .tuple #[.int .i64 d, .int .i64 b]) (by simp [results, Try.results26, go_sem, *]) rfl ?_
    exact ⟨rfl, B2.out⟩

/-- The place of the candidate with a number: the first one, or -1. -/
def posC (me : Int) : List Cd → Int
  | [] => -1
  | c :: l => if c.id = me then 0 else if posC me l = -1 then -1 else posC me l + 1
theorem posC_at {me : Int} : ∀ {L : List Cd} {j : Nat} {x : Cd}, L[j]? = some x → x.id = me → (∀ i y, i < j → L[i]? = some y → y.id ≠ me) → posC me L = j
  | [], j, x, h, _, _ => by simp at h
  | c :: l, 0, x, h, hx, _ => by
    simp at h
    subst h
    simp [posC, hx]
  | c :: l, j + 1, x, h, hx, hj => by
    have h0 : c.id ≠ me := hj 0 c (by omega) rfl
    have ih := posC_at (L := l) (j := j) (by simpa using h) hx (fun i y hi hy => hj (i + 1) y (by omega) (by simpa using hy))
    unfold posC
    rw [if_neg h0, ih, if_neg (by omega)]
    omega
theorem posC_no {me : Int} : ∀ {L : List Cd}, (∀ y ∈ L, y.id ≠ me) → posC me L = -1
  | [], _ => rfl
  | c :: l, h => by
    unfold posC
    rw [if_neg (h c (by simp)), if_pos (posC_no fun y hy => h y (by simp [hy]))]
set_option maxRecDepth 8000 in
set_option maxHeartbeats 2000000 in
theorem index_any {w : World} {B n c q : Nat} {A : Option Addr} {L : List Cd} (me : Int) (hq : Blk w q 3 #[.int .i64 me]) (hs : Cds w B A n L) (hB : B ≤ w.heap.size) (hn : n ≤ maxLen) :
    Calls Try.prog 27 #[.slice A n c, .func (.func 28) #[] #[.pointer (some ⟨q, 0, none⟩)]] w fun e w' => e = .returned (.int .i64 (posC me L)) ∧ Below w.heap.size w w' := by
  unfold maxLen at hn
  have HP := Lib.hid (hs.more hB)
  have HLEN := Lib.hid hs.1
  have HQ := Lib.hid hq
  clear hs hq
  go_enter Try.func27, Try.ntmps27
  go_wp2_with fail
  go_loopw [8] (fun i wr => ∃ j : Nat, j ≤ n ∧ i = .int .i64 j ∧ Hid (∀ k y, k < j → L[k]? = some y → y.id ≠ me) ∧ Hid (Below w.heap.size w wr)) (fun i _ => n - (intOf i).toNat)
  case atStart => exact ⟨0, Nat.zero_le _, rfl, Lib.hid (fun k y hk => by omega), Lib.hid (Below.refl _ _)⟩
  case round =>
    obtain ⟨j, hj, rfl, HF, HB⟩ := hrel
    by_cases hlt : j < n
    · have hlt' : (j : Int) < n := by omega
      obtain ⟨b, o, x, rfl, hbb, hx, hat⟩ := Arr.at (HP.out.below HB.out) hlt
      obtain ⟨y0, y1, y2, y3⟩ := hat
      have HX := Lib.hid hx
      clear hx
      have QR := Lib.hid (HQ.out.below HB.out HQ.out.lt)
      go_wp2_with fail
      refine (same_any x me q _ QR.out).mono ?_
      rintro e1 w1 ⟨rfl, hb1⟩
      have B1 := Lib.hid (HB.out.trans (hb1.mono HB.out.size))
      clear hb1 y0 y1 y2 y3
      by_cases hme : x.id = me
      · have d0 : (x.id == me) = true := by simp [hme]
        have HR := Lib.hid (show (j : Int) = posC me L from (posC_at HX.out hme HF.out).symm)
        clear hme
        go_wp2
        go_ret
        exact ⟨by rw [← HR.out]; rfl, B1.out⟩
      · have d0 : (x.id == me) = false := by simp [hme]
        have HF2 := Lib.hid (show ∀ k y, k < j + 1 → L[k]? = some y → y.id ≠ me from fun k y hk hy => by
          rcases Nat.lt_or_ge k j with h | h
          · exact HF.out k y h hy
          · obtain rfl : k = j := by omega
            rw [HX.out] at hy
            injection hy with hy
            rw [← hy]
            exact hme)
        clear hme
        go_wp2_with fail
        go_roundw
        case rel => exact ⟨j + 1, by omega, by go_num, HF2, B1⟩
        case measure => simp [intOf]; omega
    · have hjn : j = n := by omega
      have HR := Lib.hid (show posC me L = -1 from posC_no fun y hy => by
        obtain ⟨k, hk⟩ := List.getElem?_of_mem hy
        exact HF.out k y (by have := (List.getElem?_eq_some_iff.1 hk).1; have := HLEN.out; omega) hk)
      clear hjn
      go_wp2
      go_ret
      exact ⟨by rw [HR.out]; rfl, HB.out⟩

end Go.Proofs.Ytedlkoecnnmihaa
