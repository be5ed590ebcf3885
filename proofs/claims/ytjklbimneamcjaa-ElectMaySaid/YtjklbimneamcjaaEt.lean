/- The walk of the statement ElectMay. Conditions: what the words say. -/
import Derived.Test.YtjklbimneamcjaaEr
import Derived.Maps.Own
import Derived.Maps.OwnOps
import Derived.Maps.Views
namespace Go.Proofs.Ytjklbimneamcjaa
open Go.RowKit Go.Maps

theorem law_int : Keyed Try.prog 3 := int_keyed Try.underlying3
theorem zero_int (w : World) : (zeroValue 3).run Try.prog w = .ok (.int .i64 0) w := by kernel_rfl
/-- The priorities by number, as a map. -/
def prD (L : List Cd) : DataW Value := L.foldl (fun D c => D.put (.int .i64 c.id) (.lit (.int .i64 c.prio))) (.map [])
theorem prD_next {L : List Cd} {j : Nat} {x : Cd} (hx : L[j]? = some x) : prD (L.take (j + 1)) = (prD (L.take j)).put (.int .i64 x.id) (.lit (.int .i64 x.prio)) := by
  unfold prD
  rw [take_snocA L j x hx, List.foldl_append]
  rfl
theorem prD_map (L : List Cd) : ∀ j, j ≤ L.length → IsMap (prD (L.take j))
  | 0, _ => ⟨[], rfl⟩
  | j + 1, h => by
    have hx : L[j]? = some (L[j]'(by omega)) := List.getElem?_eq_getElem (by omega)
    rw [prD_next hx]
    obtain ⟨es, he⟩ := prD_map L j (by omega)
    rw [he]
    exact ⟨_, rfl⟩
theorem prD_at {L : List Cd} (ha : ApartC L) (z : DataW Value) : ∀ j, j ≤ L.length → ∀ c ∈ L.take j, (prD (L.take j)).atKey (.int .i64 c.id) z = .lit (.int .i64 c.prio)
  | 0, _, c, hc => by simp at hc
  | j + 1, h, c, hc => by
    have hx : L[j]? = some (L[j]'(by omega)) := List.getElem?_eq_getElem (by omega)
    rw [prD_next hx]
    by_cases e : c.id = (L[j]'(by omega)).id
    · have hcl : c ∈ L := List.mem_of_mem_take hc
      have : c = L[j]'(by omega) := ha.unlike c hcl _ (List.mem_of_getElem? hx) e
      rw [← this]
      exact atKey_put_same (k := Lit.int .i64 c.id) (prD_map L j (by omega)) trivial _ _
    · rw [atKey_put_other (by intro h9; injection h9 with _ h9; exact e h9)]
      refine prD_at ha z j (by omega) c ?_
      rw [take_snocA L j _ hx] at hc
      rcases List.mem_append.1 hc with h1 | h1
      · exact h1
      · exact absurd (by rw [List.mem_singleton.1 h1]) e
theorem prD_whole {L : List Cd} (ha : ApartC L) (z : DataW Value) {c : Cd} (hc : c ∈ L) : (prD L).atKey (.int .i64 c.id) z = .lit (.int .i64 c.prio) := by
  have := prD_at ha z L.length (Nat.le_refl _) c (by rw [List.take_length]; exact hc)
  rwa [List.take_length] at this
/-- Who is elected may be; one is designated just if some may be. -/
theorem elecC_may {L : List Cd} (ha : ApartC L) (me : Int) {d b : Int} (he : elecC L me = (d, b)) : (d ≠ 0 → ∃ c ∈ L, c.id = d ∧ 0 < c.prio) ∧ (b ≠ 0 → ∃ c ∈ L, c.id = b ∧ 0 < c.prio) ∧ (d ≠ 0 ↔ 0 < (mayC L).length) := by
  have h9 : (((elecC L me).1 ≠ 0 → elC L (elecC L me).1) ∧ ((elecC L me).2 ≠ 0 → elC L (elecC L me).2) ∧ ((∃ i, elC L i) → (elecC L me).1 ≠ 0)) := by
    unfold elecC
    split
    · exact el_may ha.best me _ _
    · exact go_may ha.best _ _
  rw [he] at h9
  refine ⟨h9.1, h9.2.1, fun h => ?_, fun h => ?_⟩
  · obtain ⟨c, hc, _, hp⟩ := h9.1 h
    exact List.length_pos_of_mem (List.mem_filter.2 ⟨hc, by simpa using hp⟩)
  · obtain ⟨c, hc⟩ := List.exists_mem_of_length_pos h
    obtain ⟨h1, h2⟩ := List.mem_filter.1 hc
    exact h9.2.2 ⟨c.id, c, h1, rfl, by simpa using h2⟩
theorem may_more {L : List Cd} {j : Nat} {x : Cd} (hx : L[j]? = some x) : (mayC (L.take (j + 1))).length = (mayC (L.take j)).length + (if 0 < x.prio then 1 else 0) := by
  by_cases h : 0 < x.prio
  · rw [mayC_so hx h, if_pos h, List.length_append]
    rfl
  · rw [mayC_no hx h, if_neg h]
    rfl
theorem wf64 {z : Int} (h : -9223372036854775808 ≤ z ∧ z ≤ 9223372036854775807) : (Lit.int .i64 z).wf = true := WalkArith.wf_i64 (by omega)

set_option maxRecDepth 8000 in
set_option maxHeartbeats 8000000 in
theorem may_walk (A : Option Addr) (n c : Nat) (L : List Cd) (zn : Nat) (w : World) (hs : Cds w w.heap.size A n L) (hcb : ∀ x ∈ L, CdB x) (hn : n ≤ maxLen) (hz : zn ≤ 255) :
    Calls Try.prog 4 #[.slice A n c, .int .u8 (zn : Int)] w fun e w' => e = .returned (.bool true) ∧ Below w.heap.size w w' := by
  have HP := Lib.hid hs
  have HLEN := Lib.hid hs.1
  have HCB := Lib.hid hcb
  have HN := Lib.hid hn
  have hmm := @run_makeMap Try.prog
  clear hs hcb hn
  go_enter Try.func4, Try.ntmps4
  go_wp2_with fail
  refine (wakes_any w).mono ?_
  rintro e1 w1 ⟨rfl, hb1⟩
  have B1 := Lib.hid hb1
  have P1 := Lib.hid ((HP.out.below hb1).more hb1.size)
  clear hb1
  by_cases hn : 30 < n
  · have d1 : decide ((30 : Int) < (n : Int)) = true := by simp; omega
    go_wp2
    go_ret
    exact ⟨rfl, B1.out⟩
  have d1 : decide ((30 : Int) < (n : Int)) = false := by simp; omega
  go_wp2_with fail
  refine (apart_any P1.out (Nat.le_refl _) HN.out).mono ?_
  rintro e2 w2 ⟨⟨r, rfl, hr⟩, hb2⟩
  have B2 := Lib.hid (B1.out.trans (hb2.mono B1.out.size))
  have P2 := Lib.hid ((P1.out.below hb2).more hb2.size)
  clear hb2 P1 B1
  cases r
  · clear hr
    go_wp2
    go_ret
    exact ⟨rfl, B2.out⟩
  have HAP := Lib.hid (hr.1 rfl)
  clear hr
  by_cases hn0 : n = 0
  · subst hn0
    go_wp2
    go_ret
    exact ⟨rfl, B2.out⟩
  have hn1 : ((n : Int) == 0) = false := by simp; omega
  have hn3 : n < 1048576 := by omega
  have hn4 : n ≤ 1048576 := by omega
  have hnp : (0 : Int) < (n : Int) := by omega
  obtain ⟨k, hk⟩ : ∃ k : Nat, (zn : Int) % (n : Int) = (k : Int) := ⟨((zn : Int) % (n : Int)).toNat, by have := Int.emod_nonneg (zn : Int) (show (n : Int) ≠ 0 by omega); omega⟩
  have hkn : (k : Int) < (n : Int) := by rw [← hk]; exact Int.emod_lt_of_pos _ hnp
  have hkn' : k < n := by omega
  obtain ⟨b, o, x, rfl, hbb, hx, hat⟩ := Arr.at P2.out hkn'
  obtain ⟨y0, y1, y2, y3⟩ := hat
  obtain ⟨td, htd⟩ : ∃ r, r = (elecC L x.id).1 := ⟨_, rfl⟩
  obtain ⟨tb, htb⟩ : ∃ r, r = (elecC L x.id).2 := ⟨_, rfl⟩
  have HT := Lib.hid (show elecC L x.id = (td, tb) by rw [htd, htb])
  have HMAY := Lib.hid (elecC_may HAP.out x.id HT.out)
  clear htd htb hx
  go_wp2_with fail
  refine (elect_any x.id P2.out (Nat.le_refl _) HAP.out hn4).mono ?_
  rintro e3 w3 ⟨rfl, hb3⟩
  rw [HT.out]
  dsimp only
  have B3 := Lib.hid (B2.out.trans (hb3.mono B2.out.size))
  have BM := Lib.hid (B3.out.alloc B3.out.size (.map #[] 0))
  have OM := Lib.hid (World.ownsMap_made (H := Value) w3 Try.prog 3 (plainElem Try.prog 3))
  have hs3 := B3.out.size
  clear hb3 P2 B2 y0 y1 y2 y3 hbb hk hkn hkn' hnp
  go_wp2_with fail
  clear hmm
  generalize hg : w3.heap.size = g at *
  generalize w3.alloc (.map #[] 0) = w4 at *
  clear hg B3
  go_loopw [7, 43] (fun t i wr => ∃ (j m : Nat), j ≤ n ∧ t = .int .i64 m ∧ i = .int .i64 j ∧ Hid (m = (mayC (L.take j)).length) ∧ Hid (wr.ownsMap Try.prog 3 (plainElem Try.prog 3) g j (prD (L.take j))) ∧ Hid (Below w.heap.size w wr)) (fun _ i _ => n - (intOf i).toNat)
  case atStart => exact ⟨0, 0, Nat.zero_le _, rfl, rfl, Lib.hid rfl, OM, BM⟩
  case round =>
    clear OM BM
    obtain ⟨j, m, hj, rfl, rfl, HM, HO, HB⟩ := hrel
    have hmj : m ≤ j := by
      have h1 := HM.out
      have h2 : (mayC (L.take j)).length ≤ (L.take j).length := List.length_filter_le _ _
      rw [List.length_take] at h2
      omega
    by_cases hlt : j < n
    · have hlt' : (j : Int) < n := by omega
      have hsr := HB.out.size
      obtain ⟨b', o', x, e1, hbb, hx, hat⟩ := Arr.at (HP.out.below HB.out) hlt
      injection e1 with e1
      injection e1 with e1 e2
      subst e1 e2
      have HX := Lib.hid hx
      obtain ⟨y0, y1, y2, y3⟩ := hat
      have hxb := HCB.out x (List.mem_of_getElem? hx)
      have hkey : keyOf Try.prog 3 (.int .i64 x.id) = some (.int .i64 x.id) := keyOf_int_mk Try.underlying3 (wf64 hxb.1)
      have hwp := wf64 hxb.2
      have HKEY := Lib.hid hkey
      have HWP := Lib.hid hwp
      have HMN := Lib.hid (may_more hx)
      clear hx hkey hwp hxb
      have KN := Lib.hid (Blk.new wr 33 #[.int .i64 x.id, .int .i64 x.prio, .int .i64 x.dr, .int .i64 x.bdr])
      have BN := Lib.hid (HB.out.alloc hsr (.cells #[.int .i64 x.id, .int .i64 x.prio, .int .i64 x.dr, .int .i64 x.bdr] 33))
      have ON := Lib.hid (HO.out.alloc (.cells #[.int .i64 x.id, .int .i64 x.prio, .int .i64 x.dr, .int .i64 x.bdr] 33))
      go_upto_region 11 with fail
      generalize wr.alloc (.cells #[.int .i64 x.id, .int .i64 x.prio, .int .i64 x.dr, .int .i64 x.bdr] 33) = wn at *
      have hnl := KN.out.lt
      have hsn := BN.out.size
      have hgn := ON.out.lt
      have hneq := Lib.hid (show wr.heap.size ≠ g by have := HO.out.lt; omega)
      clear y0 y1 y2 y3
      obtain ⟨k0, k1, k2, k3⟩ := KN.out.four
      go_upto_region 12 with (at_mapUpdate; refine wpList_mapUpdate_own _ rfl _ _ _ 35 rfl 3 3 law_int Try.underlying35 _ g j _ rfl ON.out (by unfold maxLen; omega) _ _ _ rfl rfl HKEY.out _ [] (plainElem_int Try.underlying3 HWP.out) ?_; intro w1 hown1 hgrow1)
      have O1 := Lib.hid (show w1.ownsMap Try.prog 3 (plainElem Try.prog 3) g (j + 1) (prD (L.take (j + 1))) by rw [prD_next HX.out]; exact hown1)
      have K1 := Lib.hid (show Blk w1 wr.heap.size 33 #[.int .i64 x.id, .int .i64 x.prio, .int .i64 x.dr, .int .i64 x.bdr] from (hgrow1.block _ hnl (fun e => hneq.out (by injection e))).trans KN.out)
      have B1 := Lib.hid (BN.out.grown hgrow1 hsn (fun j hj => by cases hj; exact hs3))
      clear hown1 hgrow1 k0 k1 k2 k3
      have hnl1 := K1.out.lt
      obtain ⟨k0, k1, k2, k3⟩ := K1.out.four
      by_cases hp : 0 < x.prio
      · have dp : decide (0 < x.prio) = true := by simpa using hp
        have HM2 := Lib.hid (show m + 1 = (mayC (L.take (j + 1))).length by rw [HMN.out, if_pos hp, ← HM.out])
        clear hp
        go_wp2_with fail
        go_roundw
        case rel => exact ⟨j + 1, m + 1, by omega, by go_num, by go_num, HM2, O1, B1⟩
        case measure => simp [intOf]; omega
      · have dp : decide (0 < x.prio) = false := by simpa using hp
        have HM2 := Lib.hid (show m = (mayC (L.take (j + 1))).length by rw [HMN.out, if_neg hp, ← HM.out]; rfl)
        clear hp
        go_wp2_with fail
        go_roundw
        case rel => exact ⟨j + 1, m, by omega, rfl, by go_num, HM2, O1, B1⟩
        case measure => simp [intOf]; omega
    · have hjn : j = n := by omega
      have hTL : L.take j = L := by rw [hjn, ← HLEN.out, List.take_length]
      have HOL := HO.out
      rw [hTL] at HOL
      have hml : m = (mayC L).length := by rw [← hTL]; exact HM.out
      have wfe : ∀ z : Int, (z ≠ 0 → ∃ c ∈ L, c.id = z ∧ 0 < c.prio) → (Lit.int .i64 z).wf = true := fun z h => by
        by_cases hz : z = 0
        · rw [hz]; rfl
        · obtain ⟨c, hc, rfl, _⟩ := h hz
          exact wf64 (HCB.out c hc).1
      obtain ⟨pd, hrd, had, _⟩ := HOL.lookup_int law_int Try.underlying35 Try.underlying3 (zero_int _) (keyOf_int_mk Try.underlying3 (wfe td HMAY.out.1))
      obtain ⟨pb, hrb, hab, _⟩ := HOL.lookup_int law_int Try.underlying35 Try.underlying3 (zero_int _) (keyOf_int_mk Try.underlying3 (wfe tb HMAY.out.2.1))
      have HPD := Lib.hid (show td ≠ 0 → decide (pd ≤ 0) = false from fun h => by
        obtain ⟨c, hc, rfl, hp⟩ := HMAY.out.1 h
        rw [prD_whole HAP.out _ hc] at had
        injection had with had
        injection had with _ had
        simp
        omega)
      have HPB := Lib.hid (show tb ≠ 0 → decide (pb ≤ 0) = false from fun h => by
        obtain ⟨c, hc, rfl, hp⟩ := HMAY.out.2.1 h
        rw [prD_whole HAP.out _ hc] at hab
        injection hab with hab
        injection hab with _ hab
        simp
        omega)
      have HCNT := Lib.hid (show decide ((0 : Int) < (m : Int)) = decide (td ≠ 0) from decide_eq_decide.2 (by
        rw [HMAY.out.2.2, hml]
        omega))
      clear hjn hTL hml HOL had hab wfe
      by_cases ht : td = 0
      · subst ht
        obtain rfl : m = 0 := by have h9 := HCNT.out; simp at h9; omega
        by_cases hb : tb = 0
        · subst hb
          go_wp2
          go_ret
          exact ⟨rfl, HB.out⟩
        · have db : (tb != 0) = true := by simp [hb]
          have dpb := HPB.out hb
          clear hb
          go_wp2
          go_ret
          exact ⟨rfl, HB.out⟩
      · have dt : (td != 0) = true := by simp [ht]
        have dm : decide ((0 : Int) < (m : Int)) = true := by rw [HCNT.out]; simp [ht]
        have hm1 : 0 < m := by simpa using dm
        have dpd := HPD.out ht
        clear ht
        by_cases hb : tb = 0
        · subst hb
          go_wp2
          go_ret
          exact ⟨rfl, HB.out⟩
        · have db : (tb != 0) = true := by simp [hb]
          have dpb := HPB.out hb
          clear hb
          go_wp2
          go_ret
          exact ⟨rfl, HB.out⟩

end Go.Proofs.Ytjklbimneamcjaa
