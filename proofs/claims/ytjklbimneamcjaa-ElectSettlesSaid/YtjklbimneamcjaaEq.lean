/- The program's Stable. Conditions: numbers unlike, from 1 on; at most 2^20 candidates. -/
import Derived.Test.YtjklbimneamcjaaEl
namespace Go.Proofs.Ytjklbimneamcjaa
open Go.RowKit
/-- All take the same two. -/
def SameTwo (L : List Cd) : Prop := ∀ c ∈ L, ∀ c0, L[0]? = some c0 → c.dr = c0.dr ∧ c.bdr = c0.bdr
/-- Each elects what it takes. -/
def Elects (L : List Cd) : Prop := ∀ c ∈ L, elecC L c.id = (c.dr, c.bdr)
theorem all_upto {L : List Cd} {P : Cd → Prop} {j : Nat} {x : Cd} (hx : L[j]? = some x) (h : ∀ c ∈ L.take j, P c) (hp : P x) : ∀ c ∈ L.take (j + 1), P c := fun c hc => by
  rw [take_snocA L j x hx] at hc
  rcases List.mem_append.1 hc with h1 | h1
  · exact h c h1
  · rw [List.mem_singleton.1 h1]
    exact hp

set_option maxRecDepth 8000 in
set_option maxHeartbeats 8000000 in
theorem stable_any {w : World} {B n k : Nat} {A : Option Addr} {L : List Cd} (hs : Cds w B A n L) (hB : B ≤ w.heap.size) (ha : ApartC L) (hn : n ≤ 1048576) :
    Calls Try.prog 14 #[.slice A n k] w fun e w' => (∃ r : Bool, e = .returned (.bool r) ∧ (r = true ↔ SameTwo L ∧ Elects L)) ∧ Below w.heap.size w w' := by
  have HP := Lib.hid (hs.more hB)
  have HAP := Lib.hid ha
  have HLEN := Lib.hid hs.1
  clear hs ha
  go_enter Try.func14, Try.ntmps14
  go_wp2_with fail
  go_loopw [11] (fun i wr => ∃ j : Nat, j ≤ n ∧ i = .int .i64 j ∧ Hid (∀ c ∈ L.take j, ∀ c0, L[0]? = some c0 → c.dr = c0.dr ∧ c.bdr = c0.bdr) ∧ Hid (Below w.heap.size w wr)) (fun i _ => n - (intOf i).toNat)
  case atStart => exact ⟨0, Nat.zero_le _, rfl, Lib.hid (fun c hc => by simp at hc), Lib.hid (Below.refl _ _)⟩
  case round =>
    obtain ⟨j, hj, rfl, HA, HB⟩ := hrel
    have hsr := HB.out.size
    by_cases hlt : j < n
    · have hlt' : (j : Int) < n := by omega
      have hn0 : 0 < n := by omega
      have hn0' : (0 : Int) < n := by omega
      obtain ⟨b, o, x, rfl, hbb, hx, hat⟩ := Arr.at (HP.out.below HB.out) hlt
      obtain ⟨b', o', f, e1, _, hf, hat0⟩ := Arr.at (HP.out.below HB.out) hn0
      injection e1 with e1
      injection e1 with e1 e2
      subst e1 e2
      have HX := Lib.hid hx
      have HF := Lib.hid hf
      rw [Nat.zero_mul, Nat.add_zero] at hat0
      have BN := Lib.hid (HB.out.alloc hsr (.cells #[.int .i64 x.id, .int .i64 x.prio, .int .i64 x.dr, .int .i64 x.bdr] 33))
      have KN := Lib.hid (Blk.new wr 33 #[.int .i64 x.id, .int .i64 x.prio, .int .i64 x.dr, .int .i64 x.bdr])
      have FN := Lib.hid (CdAt.move (B' := 0) (w' := wr.alloc (.cells #[.int .i64 x.id, .int .i64 x.prio, .int .i64 x.dr, .int .i64 x.bdr] 33)) hat0 (fun q hq => World.cell?_alloc_lt wr _ q (by omega)) (by assumption))
      obtain ⟨y0, y1, y2, y3⟩ := hat
      clear hx hf hat0
      go_upto_region 4 with fail
      generalize wr.alloc (.cells #[.int .i64 x.id, .int .i64 x.prio, .int .i64 x.dr, .int .i64 x.bdr] 33) = wn at *
      have hnl := KN.out.lt
      clear y0 y1 y2 y3
      obtain ⟨y0, y1, y2, y3⟩ := KN.out.four
      obtain ⟨f0, f1, f2, f3⟩ := FN.out
      by_cases hd : x.dr = f.dr
      · have dd : (x.dr != f.dr) = false := by simp [hd]
        by_cases hb : x.bdr = f.bdr
        · have db : (x.bdr != f.bdr) = false := by simp [hb]
          have HA2 := Lib.hid (all_upto HX.out HA.out (fun c0 h0 => by
            rw [HF.out] at h0
            injection h0 with h0
            rw [← h0]
            exact ⟨hd, hb⟩))
          clear hd hb
          go_wp2_with fail
          go_quiet (fail)
          go_wp2_with fail
          go_roundw
          case rel => exact ⟨j + 1, by omega, by go_num, HA2, Lib.hid (below_drewN BN.out _)⟩
          case measure => simp [intOf]; omega
        · have db : (x.bdr != f.bdr) = true := by simp [hb]
          have HNO := Lib.hid (show ¬ (SameTwo L ∧ Elects L) from fun h => hb (h.1 x (List.mem_of_getElem? HX.out) f HF.out).2)
          clear hd hb
          go_wp2_with fail
          go_quiet (fail)
          go_wp2
          go_ret
          exact ⟨⟨false, rfl, by simp [HNO.out]⟩, below_drewN BN.out _⟩
      · have dd : (x.dr != f.dr) = true := by simp [hd]
        have HNO := Lib.hid (show ¬ (SameTwo L ∧ Elects L) from fun h => hd (h.1 x (List.mem_of_getElem? HX.out) f HF.out).1)
        clear hd
        go_wp2_with fail
        go_quiet (fail)
        go_wp2
        go_ret
        exact ⟨⟨false, rfl, by simp [HNO.out]⟩, below_drewN BN.out _⟩
    · have hjn : j = n := by omega
      have HSAME := Lib.hid (show SameTwo L by
        have := HA.out
        rwa [hjn, ← HLEN.out, List.take_length] at this)
      clear hjn
      go_wp2_with fail
      clear hlt
      go_loopw [34] (fun i wx => ∃ m : Nat, m ≤ n ∧ i = .int .i64 m ∧ Hid (∀ c ∈ L.take m, elecC L c.id = (c.dr, c.bdr)) ∧ Hid (Below w.heap.size w wx)) (fun i _ => n - (intOf i).toNat)
      case atStart => exact ⟨0, Nat.zero_le _, rfl, Lib.hid (fun c hc => by simp at hc), HB⟩
      case round =>
        clear HA HB hsr
        obtain ⟨m, hm, rfl, HE, HB⟩ := hrel
        have hsr := HB.out.size
        by_cases hlt : m < n
        · have hlt' : (m : Int) < n := by omega
          obtain ⟨b, o, x, rfl, hbb, hx, hat⟩ := Arr.at (HP.out.below HB.out) hlt
          have HX := Lib.hid hx
          have BN := Lib.hid (HB.out.alloc hsr (.cells #[.int .i64 x.id, .int .i64 x.prio, .int .i64 x.dr, .int .i64 x.bdr] 33))
          have KN := Lib.hid (Blk.new wr 33 #[.int .i64 x.id, .int .i64 x.prio, .int .i64 x.dr, .int .i64 x.bdr])
          obtain ⟨y0, y1, y2, y3⟩ := hat
          clear hx
          obtain ⟨ed, hed⟩ : ∃ r, r = (elecC L x.id).1 := ⟨_, rfl⟩
          obtain ⟨eb, heb⟩ : ∃ r, r = (elecC L x.id).2 := ⟨_, rfl⟩
          have HEL := Lib.hid (show elecC L x.id = (ed, eb) by rw [hed, heb])
          clear hed heb
          go_upto_region 10 with fail
          generalize wr.alloc (.cells #[.int .i64 x.id, .int .i64 x.prio, .int .i64 x.dr, .int .i64 x.bdr] 33) = wn at *
          have hnl := KN.out.lt
          have hsn := BN.out.size
          clear y0 y1 y2 y3
          obtain ⟨k0, k1, k2, k3⟩ := KN.out.four
          go_wp2_with fail
          refine (elect_any x.id ((HP.out.below BN.out).more hsn) (Nat.le_refl _) HAP.out hn).mono ?_
          rintro e3 w3 ⟨rfl, hb3⟩
          rw [HEL.out]
          dsimp only
          have K3 := Lib.hid (KN.out.below hb3 hnl)
          have B3 := Lib.hid (BN.out.trans (hb3.mono hsn))
          have hl3 := K3.out.lt
          clear hb3 k0 k1 k2 k3
          obtain ⟨k0, k1, k2, k3⟩ := K3.out.four
          by_cases hd : ed = x.dr
          · have dd : (ed != x.dr) = false := by simp [hd]
            by_cases hb : eb = x.bdr
            · have db : (eb != x.bdr) = false := by simp [hb]
              have HE2 := Lib.hid (all_upto (P := fun c => elecC L c.id = (c.dr, c.bdr)) HX.out HE.out (by rw [HEL.out, hd, hb]))
              clear hd hb
              go_wp2_with fail
              go_roundw
              case rel => exact ⟨m + 1, by omega, by go_num, HE2, B3⟩
              case measure => simp [intOf]; omega
            · have db : (eb != x.bdr) = true := by simp [hb]
              have HNO := Lib.hid (show ¬ (SameTwo L ∧ Elects L) from fun h => hb (by
                have := h.2 x (List.mem_of_getElem? HX.out)
                rw [HEL.out] at this
                injection this))
              clear hd hb
              go_wp2
              go_ret
              exact ⟨⟨false, rfl, by simp [HNO.out]⟩, B3.out⟩
          · have dd : (ed != x.dr) = true := by simp [hd]
            have HNO := Lib.hid (show ¬ (SameTwo L ∧ Elects L) from fun h => hd (by
              have := h.2 x (List.mem_of_getElem? HX.out)
              rw [HEL.out] at this
              injection this))
            clear hd
            go_wp2
            go_ret
            exact ⟨⟨false, rfl, by simp [HNO.out]⟩, B3.out⟩
        · have hmn : m = n := by omega
          have HYES := Lib.hid (show SameTwo L ∧ Elects L from ⟨HSAME.out, by
            have := HE.out
            rwa [hmn, ← HLEN.out, List.take_length] at this⟩)
          clear hmn
          go_wp2
          go_ret
          exact ⟨⟨true, rfl, by simp [HYES.out.1, HYES.out.2]⟩, HB.out⟩

end Go.Proofs.Ytjklbimneamcjaa
