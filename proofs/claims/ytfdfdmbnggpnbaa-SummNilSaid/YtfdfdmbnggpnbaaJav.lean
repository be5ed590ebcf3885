/- The walk of the statement SummNil. Conditions: a key of 64 bits. · The reference's small calls: a head's key, which key is ahead, whether lists of heads are alike; whether there is more than a statement takes. Conditions: at most 1000 heads. · The reference's heads: those that are told, each put behind those of keys that aren't above its own. Conditions: at most 100 descriptions. · The walk of the statement SummTells. Conditions: what the words say. -/
import Derived.Test.YtfdfdmbnggpnbaaJau
import Derived.Test.YtfdfdmbnggpnbaaJat
namespace Go.Proofs.Ytfdfdmbnggpnbaa
open Go.RowKit Go.Lib Go.Sort Go.Deep

theorem lacks_nil_one (h : Hd) : lacksL [] [h] = [h] := rfl
set_option maxRecDepth 20000 in
set_option maxHeartbeats 8000000 in
theorem nil_walk (h : Hd) (hk : wfKy (keyH h)) (w : World) : Calls Try.prog 5 #[.agg #[.int .i64 h.age, .int .i64 h.kind, .int .i64 h.id, .int .i64 h.adv, .int .i64 h.seq, .int .i64 h.sum, .int .i64 h.long]] w fun e w' => e = .returned (.bool true) ∧ Below w.heap.size w w' := by
  have B0 := Lib.hid ((Below.refl w.heap.size w).alloc (Nat.le_refl _) (.cells #[.int .i64 h.age, .int .i64 h.kind, .int .i64 h.id, .int .i64 h.adv, .int .i64 h.seq, .int .i64 h.sum, .int .i64 h.long] 43))
  have K0 := Lib.hid (Blk.new w 43 #[.int .i64 h.age, .int .i64 h.kind, .int .i64 h.id, .int .i64 h.adv, .int .i64 h.seq, .int .i64 h.sum, .int .i64 h.long])
  have HK := Lib.hid hk
  clear hk
  go_enter Try.func5, Try.ntmps5
  go_wp2_with fail
  refine (wakes_any _).mono ?_
  rintro e1 w1 ⟨rfl, hb1⟩
  generalize w.alloc (.cells #[.int .i64 h.age, .int .i64 h.kind, .int .i64 h.id, .int .i64 h.adv, .int .i64 h.seq, .int .i64 h.sum, .int .i64 h.long] 43) = w0 at *
  have hz0 := B0.out.size
  have B1 := Lib.hid (B0.out.trans (hb1.mono hz0))
  have K1 := Lib.hid (K0.out.below hb1 K0.out.lt)
  have R1 := Lib.hid (show w1.rangeAt w.heap.size 0 [.int .i64 h.age, .int .i64 h.kind, .int .i64 h.id, .int .i64 h.adv, .int .i64 h.seq, .int .i64 h.sum, .int .i64 h.long] from blk_range7 K1.out)
  have hz1 := B1.out.size
  have B2 := Lib.hid (B1.out.alloc hz1 (.cells #[.int .i64 h.age, .int .i64 h.kind, .int .i64 h.id, .int .i64 h.adv, .int .i64 h.seq, .int .i64 h.sum, .int .i64 h.long] 43))
  have K2 := Lib.hid (K1.out.alloc (.cells #[.int .i64 h.age, .int .i64 h.kind, .int .i64 h.id, .int .i64 h.adv, .int .i64 h.seq, .int .i64 h.sum, .int .i64 h.long] 43))
  have L2 := Lib.hid (show Hds (w1.alloc (.cells #[.int .i64 h.age, .int .i64 h.kind, .int .i64 h.id, .int .i64 h.adv, .int .i64 h.seq, .int .i64 h.sum, .int .i64 h.long] 43)) (w1.heap.size + 1) (some ⟨w1.heap.size, 0, none⟩) 1 [h] from ⟨rfl, fun _ => ⟨w1.heap.size, 0, rfl, Nat.lt_succ_self _, fun j x hx => by
    have hj : j = 0 := by
      have := (List.getElem?_eq_some_iff.1 hx).1
      simpa using this
    subst hj
    injection hx with hx
    subst hx
    have hB := Blk.new w1 43 #[.int .i64 h.age, .int .i64 h.kind, .int .i64 h.id, .int .i64 h.adv, .int .i64 h.seq, .int .i64 h.sum, .int .i64 h.long]
    exact ⟨hB.cell 0, hB.cell 1, hB.cell 2, hB.cell 3, hB.cell 4, hB.cell 5, hB.cell 6⟩⟩⟩)
  clear hb1 B0 K0 hz0 B1 K1
  go_wp2_with (refine wpList_load_row 43 _ _ (by rfl) (.tmp 1) rfl (by rfl) R1.out Try.underlying43 rfl (by kernel_rfl) ?_)
  refine (lacksS_any (v := .pointer none) (S := []) (F := fun _ => False) (.inl ⟨rfl, rfl⟩) L2.out (by simp) (by omega) (fun x hx => by
    rw [List.mem_singleton] at hx
    rw [hx]
    exact HK.out) (fun x _ y hy => by simp [getL] at hy) (fun i j g x hij hi hj => by
    have := (List.getElem?_eq_some_iff.1 hj).1
    simp at this
    omega)).mono ?_
  rintro e2 w2 ⟨A, m, c, rfl, hb2, hrow⟩
  rw [lacks_nil_one] at hrow
  have hm : m = 1 := by have := own_lenH encHd_len (by omega) hrow; simpa using this.symm
  subst hm
  obtain ⟨g, rfl, -, hgl, hc1, hc2, hat⟩ := own_item encHd_len (by omega) hrow (j := 0) (x := h) rfl
  have B3 := Lib.hid (B2.out.trans (hb2.mono B2.out.size))
  have K3 := Lib.hid (K2.out.below hb2 K2.out.lt)
  unfold maxLen at hc2
  clear hb2 hrow B2 K2 R1 L2 hz1
  go_wp2_with fail
  have x0 : w2.cell? ⟨g, 0, none⟩ = some (.int .i64 h.age) := hat 0 (by omega)
  have x1 : w2.cell? ⟨g, 1, none⟩ = some (.int .i64 h.kind) := hat 1 (by omega)
  have x2 : w2.cell? ⟨g, 2, none⟩ = some (.int .i64 h.id) := hat 2 (by omega)
  have x3 : w2.cell? ⟨g, 3, none⟩ = some (.int .i64 h.adv) := hat 3 (by omega)
  have x4 : w2.cell? ⟨g, 4, none⟩ = some (.int .i64 h.seq) := hat 4 (by omega)
  have x5 : w2.cell? ⟨g, 5, none⟩ = some (.int .i64 h.sum) := hat 5 (by omega)
  have x6 : w2.cell? ⟨g, 6, none⟩ = some (.int .i64 h.long) := hat 6 (by omega)
  obtain ⟨a0, a1, a2, a3, a4, a5, a6⟩ := K3.out.sevenH
  have hla := K3.out.lt
  have hz3 := B3.out.size
  have eH : ∀ W, (Op.equalIn 10000 43 (.agg #[.int .i64 h.age, .int .i64 h.kind, .int .i64 h.id, .int .i64 h.adv, .int .i64 h.seq, .int .i64 h.sum, .int .i64 h.long]) (.agg #[.int .i64 h.age, .int .i64 h.kind, .int .i64 h.id, .int .i64 h.adv, .int .i64 h.seq, .int .i64 h.sum, .int .i64 h.long])).run Try.prog W = .ok true W := fun W => by
    have := equalHd h h W
    rwa [show sameHd h h = true from (sameHd_iff _ _).2 rfl] at this
  have BR : Below w2.heap.size w2 w2.drew := ⟨rfl, rfl, rfl, Nat.le_refl _, fun _ _ => rfl⟩
  clear hat
  go_region_held3 (fun w' => Below w2.heap.size w2 w' ∧ (∀ b o, b < w2.heap.size → w'.cell? ⟨b, o, none⟩ = w2.cell? ⟨b, o, none⟩)) ((refine keepW ?_; first | with_reducible exact BR | with_reducible exact BR3 | with_reducible exact BR4)) (first | (go_at_call 16; refine (pieceP_nil _).mono ?_; rintro e3 w3 ⟨A3, m3, c3, rfl, hb3, hrow3⟩; have BR3 := BR.trans (show Below w2.heap.size w2.drew w3 from hb3); obtain rfl : m3 = 0 := by (have := own_lenH encHd_len (by omega) hrow3; simpa using this.symm)) | (go_at_call 17; refine (more_nil _).mono ?_; rintro e4 w4 ⟨rfl, q4, rfl⟩; have BR4 := BR3.trans (⟨rfl, rfl, rfl, Nat.le_refl _, fun _ _ => rfl⟩ : Below w2.heap.size w3 (w3.drewN q4))) | (go_at_call 18; refine (step_nil _).mono ?_; rintro e5 w5 ⟨rfl, rfl⟩))
  all_goals (go_wp2; go_ret; exact ⟨rfl, B3.out.trans (BR4.mono hz3)⟩)
end Go.Proofs.Ytfdfdmbnggpnbaa
namespace Go.Proofs.Ytfdfdmbnggpnbaa
open Go.RowKit Go.Lib Go.Sort Go.Deep

set_option maxRecDepth 8000 in
set_option maxHeartbeats 2000000 in
theorem key13_grown (h : Hd) (w : World) : Calls Try.prog 45 #[.agg #[.int .i64 h.age, .int .i64 h.kind, .int .i64 h.id, .int .i64 h.adv, .int .i64 h.seq, .int .i64 h.sum, .int .i64 h.long]] w
    fun e w' => e = .returned (.agg #[.int .i64 h.kind, .int .i64 h.id, .int .i64 h.adv]) ∧ ∃ q os', w' = grow (w.drewN q) os' := by
  have HG := Lib.hid (show ∃ q os', (w.alloc (.cells #[.int .i64 h.age, .int .i64 h.kind, .int .i64 h.id, .int .i64 h.adv, .int .i64 h.seq, .int .i64 h.sum, .int .i64 h.long] 43)).alloc (.cells #[.int .i64 h.kind, .int .i64 h.id, .int .i64 h.adv] 86) = grow (w.drewN q) os' from ⟨0, _, by rw [alloc_eq_grow, alloc_eq_grow, grow_grow]; rfl⟩)
  go_enter Try.func45, Try.ntmps45
  go_wp2
  refine bodyPost_ret (v := .agg #[.int .i64 h.kind, .int .i64 h.id, .int .i64 h.adv]) (by simp [results, Try.results45, go_sem, *]) rfl ?_
  exact ⟨rfl, HG.out⟩
theorem below_grown13 {w w' : World} (h : ∃ q os', w' = grow (w.drewN q) os') : Below w.heap.size w w' := by
  obtain ⟨q, os, rfl⟩ := h
  exact ⟨rfl, rfl, rfl, by rw [Go.Sort.size_grow]; exact Nat.le_add_right _ _, fun b hb => heap_grow_old _ _ (by exact hb)⟩
theorem key13_any (h : Hd) (w : World) : Calls Try.prog 45 #[.agg #[.int .i64 h.age, .int .i64 h.kind, .int .i64 h.id, .int .i64 h.adv, .int .i64 h.seq, .int .i64 h.sum, .int .i64 h.long]] w
    fun e w' => e = .returned (.agg #[.int .i64 h.kind, .int .i64 h.id, .int .i64 h.adv]) ∧ Below w.heap.size w w' := (key13_grown h w).mono fun _ _ ⟨he, hg⟩ => ⟨he, below_grown13 hg⟩
set_option maxRecDepth 8000 in
set_option maxHeartbeats 2000000 in
theorem less_grown (a b : Ky) (w : World) : Calls Try.prog 44 #[.agg #[.int .i64 a.kind, .int .i64 a.id, .int .i64 a.adv], .agg #[.int .i64 b.kind, .int .i64 b.id, .int .i64 b.adv]] w
    fun e w' => e = .returned (.bool (lessKy a b)) ∧ ∃ q os', w' = grow (w.drewN q) os' := by
  generalize hv : lessKy a b = v
  have HV := Lib.hid hv
  clear hv
  have HG := Lib.hid (show ∃ q os', (w.alloc (.cells #[.int .i64 a.kind, .int .i64 a.id, .int .i64 a.adv] 86)).alloc (.cells #[.int .i64 b.kind, .int .i64 b.id, .int .i64 b.adv] 86) = grow (w.drewN q) os' from ⟨0, _, by rw [alloc_eq_grow, alloc_eq_grow, grow_grow]; rfl⟩)
  go_enter Try.func44, Try.ntmps44
  by_cases h1 : a.kind = b.kind
  · have d1 : (a.kind != b.kind) = false := by simp [h1]
    by_cases h2 : a.id = b.id
    · have d2 : (a.id != b.id) = false := by simp [h2]
      have HC := Lib.hid (show decide (a.adv < b.adv) = v by rw [← HV.out, lessKy, if_neg (by simp [h1]), if_neg (by simp [h2])])
      clear h1 h2
      go_wp2
      go_ret
      exact ⟨ret_bool HC.out, HG.out⟩
    · have d2 : (a.id != b.id) = true := by simp [h2]
      have HC := Lib.hid (show decide (a.id < b.id) = v by rw [← HV.out, lessKy, if_neg (by simp [h1]), if_pos h2])
      clear h1 h2
      go_wp2
      go_ret
      exact ⟨ret_bool HC.out, HG.out⟩
  · have d1 : (a.kind != b.kind) = true := by simp [h1]
    have HC := Lib.hid (show decide (a.kind < b.kind) = v by rw [← HV.out, lessKy, if_pos h1])
    clear h1
    go_wp2
    go_ret
    exact ⟨ret_bool HC.out, HG.out⟩
set_option maxRecDepth 8000 in
set_option maxHeartbeats 4000000 in
theorem many_any (A : Option Addr) (n c : Nat) (T : List La) (B : Nat) (w : World) (h : Las w B A n T) (hB : B ≤ w.heap.size) (hn : n ≤ maxLen) :
    Calls Try.prog 12 #[.slice A n c] w fun e w' => (∃ t : Bool, e = .returned (.bool t) ∧ (t = false → n ≤ 60 ∧ ∀ a ∈ T, a.L.length ≤ 20 ∧ a.M.length ≤ 20)) ∧ Below w.heap.size w w' := by
  unfold maxLen at hn
  have HP := Lib.hid h
  clear h
  go_enter Try.func12, Try.ntmps12
  go_wp2_with fail
  go_loopw [7] (fun i wr => ∃ k : Nat, k ≤ n ∧ i = .int .i64 k ∧ Hid (∀ (m : Nat) (a : La), m < k → T[m]? = some a → a.L.length ≤ 20 ∧ a.M.length ≤ 20) ∧ Hid (Below w.heap.size w wr)) (fun i _ => n - (intOf i).toNat)
  case atStart => exact ⟨0, Nat.zero_le _, rfl, Lib.hid (fun m a hm => absurd hm (by omega)), Lib.hid (Below.refl _ _)⟩
  case round =>
    obtain ⟨k, hk, rfl, HA, hb⟩ := hrel
    have hsz := hb.out.size
    by_cases hlt : k < n
    · obtain ⟨b, o, a, A1, n1, c1, A2, n2, c2, rfl, hbb, hx, hr, hL, hM, hn1, hn2⟩ := las_item (HP.out.below (hb.out.mono hB)) hlt
      have hl1 := hL.1
      have hl2 := hM.1
      have HX := Lib.hid hx
      have HR := Lib.hid hr
      unfold maxLen at hn1 hn2
      clear hx hr hL hM
      have hlt' : (k : Int) < n := by omega
      have BN := Lib.hid (hb.out.alloc hsz (.cells #[.int .i64 a.h.age, .int .i64 a.h.kind, .int .i64 a.h.id, .int .i64 a.h.adv, .int .i64 a.h.seq, .int .i64 a.h.sum, .int .i64 a.h.long, .slice A1 n1 c1, .slice A2 n2 c2] 78))
      by_cases h1 : 20 < n1
      · have d1 : decide (20 < (n1 : Int)) = true := by simp; omega
        go_wp2_with (refine wpList_load_row 78 _ _ (by rfl) (.tmp 9) rfl (by rfl) HR.out Try.underlying78 rfl (by kernel_rfl) ?_)
        go_ret
        exact ⟨⟨true, rfl, fun h => by cases h⟩, BN.out⟩
      · have d1 : decide (20 < (n1 : Int)) = false := by simp; omega
        by_cases h2 : 20 < n2
        · have d2 : decide (20 < (n2 : Int)) = true := by simp; omega
          go_wp2_with (refine wpList_load_row 78 _ _ (by rfl) (.tmp 9) rfl (by rfl) HR.out Try.underlying78 rfl (by kernel_rfl) ?_)
          go_ret
          exact ⟨⟨true, rfl, fun h => by cases h⟩, BN.out⟩
        · have d2 : decide (20 < (n2 : Int)) = false := by simp; omega
          have HN := Lib.hid (show ∀ (m : Nat) (a : La), m < k + 1 → T[m]? = some a → a.L.length ≤ 20 ∧ a.M.length ≤ 20 from fun m a' hm ha => by
            by_cases hmk : m = k
            · subst hmk
              rw [HX.out] at ha
              injection ha with ha
              subst ha
              omega
            · exact HA.out m a' (by omega) ha)
          go_wp2_with (refine wpList_load_row 78 _ _ (by rfl) (.tmp 9) rfl (by rfl) HR.out Try.underlying78 rfl (by kernel_rfl) ?_)
          go_roundw
          case rel => exact ⟨k + 1, by omega, by go_num, HN, BN⟩
          case measure => simp [intOf]; omega
    · have HT := Lib.hid (show ∀ a ∈ T, a.L.length ≤ 20 ∧ a.M.length ≤ 20 from fun a ha => by
        obtain ⟨m, hm⟩ := List.getElem?_of_mem ha
        exact HA.out m a (by have := (List.getElem?_eq_some_iff.1 hm).1; have := HP.out.1; omega) hm)
      by_cases h3 : 60 < n
      · have d3 : decide (60 < (n : Int)) = true := by simp; omega
        go_wp2
        go_ret
        exact ⟨⟨true, rfl, fun h => by cases h⟩, hb.out⟩
      · have d3 : decide (60 < (n : Int)) = false := by simp; omega
        go_wp2
        go_ret
        exact ⟨⟨false, rfl, fun _ => ⟨by omega, HT.out⟩⟩, hb.out⟩
theorem HdAt.of_range {w : World} {B b p : Nat} {h : Hd} (hh : w.rangeAt b p [.int .i64 h.age, .int .i64 h.kind, .int .i64 h.id, .int .i64 h.adv, .int .i64 h.seq, .int .i64 h.sum, .int .i64 h.long]) : HdAt w B b p h :=
  ⟨hh 0 _ rfl, hh 1 _ rfl, hh 2 _ rfl, hh 3 _ rfl, hh 4 _ rfl, hh 5 _ rfl, hh 6 _ rfl⟩
set_option maxRecDepth 8000 in
set_option maxHeartbeats 4000000 in
theorem same13_any {w : World} {A A' : Option Addr} {n c n' c' B B' : Nat} {L L' : List Hd} (hL : Hds w B A n L) (hL' : Hds w B' A' n' L') (hB : B ≤ w.heap.size) (hB' : B' ≤ w.heap.size) (hn : n ≤ 1000) (hn' : n' ≤ 1000) :
    Calls Try.prog 15 #[.slice A n c, .slice A' n' c'] w fun e w' => e = .returned (.bool (decide (L = L'))) ∧ ∃ q, w' = w.drewN q := by
  have H1 := Lib.hid hL
  have H2 := Lib.hid hL'
  have hl1 := hL.1
  have hl2 := hL'.1
  clear hL hL'
  go_enter Try.func15, Try.ntmps15
  by_cases hnn : n = n'
  · subst hnn
    have d1 : ((n : Int) != (n : Int)) = false := by simp
    go_wp2_with fail
    go_loopw [5] (fun i wr => ∃ k q : Nat, k ≤ n ∧ i = .int .i64 k ∧ Hid (L.take k = L'.take k) ∧ Hid (wr = w.drewN q)) (fun i _ => n - (intOf i).toNat)
    case atStart => exact ⟨0, 0, Nat.zero_le _, rfl, Lib.hid rfl, Lib.hid rfl⟩
    case round =>
      obtain ⟨k, q, hk, rfl, HT, HW⟩ := hrel
      by_cases hlt : k < n
      · have hlt' : (k : Int) < (n : Int) := by omega
        obtain ⟨b, o, x, rfl, hb, hx, hr⟩ := hds_item H1.out hlt
        obtain ⟨b', o', y, rfl, hb', hy, hr'⟩ := hds_item H2.out hlt
        have X1 := Lib.hid (take_snocA L k x hx)
        have Y1 := Lib.hid (take_snocA L' k y hy)
        have HX := Lib.hid hx
        have HY := Lib.hid hy
        have R1 := Lib.hid (show wr.rangeAt b (o + k * 7) [.int .i64 x.age, .int .i64 x.kind, .int .i64 x.id, .int .i64 x.adv, .int .i64 x.seq, .int .i64 x.sum, .int .i64 x.long] by rw [HW.out]; exact hr)
        have R2 := Lib.hid (show wr.rangeAt b' (o' + k * 7) [.int .i64 y.age, .int .i64 y.kind, .int .i64 y.id, .int .i64 y.adv, .int .i64 y.seq, .int .i64 y.sum, .int .i64 y.long] by rw [HW.out]; exact hr')
        have hbl : b < wr.heap.size := by rw [HW.out]; exact Nat.lt_of_lt_of_le hb hB
        have hbl' : b' < wr.heap.size := by rw [HW.out]; exact Nat.lt_of_lt_of_le hb' hB'
        clear hx hy hr hr' hb hb'
        have g0 : wr.cell? ⟨b, o + k * 7, none⟩ = some (.int .i64 x.age) := R1.out 0 _ rfl
        have g1 : wr.cell? ⟨b, o + k * 7 + 1, none⟩ = some (.int .i64 x.kind) := R1.out 1 _ rfl
        have g2 : wr.cell? ⟨b, o + k * 7 + 2, none⟩ = some (.int .i64 x.id) := R1.out 2 _ rfl
        have g3 : wr.cell? ⟨b, o + k * 7 + 3, none⟩ = some (.int .i64 x.adv) := R1.out 3 _ rfl
        have g4 : wr.cell? ⟨b, o + k * 7 + 4, none⟩ = some (.int .i64 x.seq) := R1.out 4 _ rfl
        have g5 : wr.cell? ⟨b, o + k * 7 + 5, none⟩ = some (.int .i64 x.sum) := R1.out 5 _ rfl
        have g6 : wr.cell? ⟨b, o + k * 7 + 6, none⟩ = some (.int .i64 x.long) := R1.out 6 _ rfl
        have f0 : wr.cell? ⟨b', o' + k * 7, none⟩ = some (.int .i64 y.age) := R2.out 0 _ rfl
        have f1 : wr.cell? ⟨b', o' + k * 7 + 1, none⟩ = some (.int .i64 y.kind) := R2.out 1 _ rfl
        have f2 : wr.cell? ⟨b', o' + k * 7 + 2, none⟩ = some (.int .i64 y.id) := R2.out 2 _ rfl
        have f3 : wr.cell? ⟨b', o' + k * 7 + 3, none⟩ = some (.int .i64 y.adv) := R2.out 3 _ rfl
        have f4 : wr.cell? ⟨b', o' + k * 7 + 4, none⟩ = some (.int .i64 y.seq) := R2.out 4 _ rfl
        have f5 : wr.cell? ⟨b', o' + k * 7 + 5, none⟩ = some (.int .i64 y.sum) := R2.out 5 _ rfl
        have f6 : wr.cell? ⟨b', o' + k * 7 + 6, none⟩ = some (.int .i64 y.long) := R2.out 6 _ rfl
        clear R1 R2
        have eH := fun W => equalHd x y W
        by_cases hxy : x = y
        · subst hxy
          rw [show sameHd x x = true from (sameHd_iff _ _).2 rfl] at eH
          have HN := Lib.hid (show L.take (k + 1) = L'.take (k + 1) by rw [X1.out, Y1.out, HT.out])
          clear X1 Y1 HX HY
          go_wp2_with fail
          go_quiet (fail)
          have HW2 := Lib.hid (show wr.drewN nq = w.drewN (q + nq) by rw [HW.out, World.drewN_drewN])
          clear g0 g1 g2 g3 g4 g5 g6 f0 f1 f2 f3 f4 f5 f6 eH hbl hbl' HW
          go_wp2
          go_roundw
          case rel => exact ⟨k + 1, q + nq, by omega, by go_num, HN, HW2⟩
          case measure => simp [intOf]; omega
        · rw [show sameHd x y = false from by rw [Bool.eq_false_iff]; exact fun h => hxy ((sameHd_iff _ _).1 h)] at eH
          have HN := Lib.hid (show ¬ L = L' from fun h => by
            have h1 := HX.out
            rw [h, HY.out] at h1
            injection h1 with h1
            exact hxy h1.symm)
          clear X1 Y1 HX HY
          go_wp2_with fail
          go_quiet (fail)
          have HW2 := Lib.hid (show wr.drewN nq = w.drewN (q + nq) by rw [HW.out, World.drewN_drewN])
          clear g0 g1 g2 g3 g4 g5 g6 f0 f1 f2 f3 f4 f5 f6 eH hbl hbl' HW
          go_wp2
          go_ret
          refine ⟨?_, q + nq, HW2.out⟩
          rw [decide_eq_false HN.out]
          rfl
      · have hlt' : ¬ (k : Int) < (n : Int) := by omega
        have HN := Lib.hid (show L = L' by
          have := HT.out
          rwa [List.take_of_length_le (by omega), List.take_of_length_le (by omega)] at this)
        go_wp2
        go_ret
        exact ⟨by rw [decide_eq_true HN.out]; rfl, q, HW.out⟩
  · have d1 : ((n : Int) != (n' : Int)) = true := by simp; omega
    have HN := Lib.hid (show ¬ L = L' from fun h => hnn (by rw [← hl1, ← hl2, h]))
    go_wp2
    go_ret
    exact ⟨by rw [decide_eq_false HN.out]; rfl, 0, rfl⟩
end Go.Proofs.Ytfdfdmbnggpnbaa
namespace Go.Proofs.Ytfdfdmbnggpnbaa
open Go.RowKit Go.Lib Go.Sort Go.Deep

/-- A row with an item put at place k. -/
def insAt (K : List Hd) (k : Nat) (x : Hd) : List Hd := K.take k ++ x :: K.drop k
theorem insAt_end (K : List Hd) (x : Hd) : insAt K K.length x = K ++ [x] := by
  unfold insAt
  rw [List.take_length, List.drop_length]
theorem insAt_at (K : List Hd) (k : Nat) (x : Hd) (hk : k ≤ K.length) : (insAt K k x)[k]? = some x := by
  unfold insAt
  rw [List.getElem?_append_right (by rw [List.length_take]; omega), List.length_take, show k - min k K.length = 0 by omega]
  rfl
theorem insAt_before (K : List Hd) (k j : Nat) (x y : Hd) (hj : j < k) (hy : K[j]? = some y) : (insAt K k x)[j]? = some y := by
  have := (List.getElem?_eq_some_iff.1 hy).1
  unfold insAt
  rw [List.getElem?_append_left (by rw [List.length_take]; omega), List.getElem?_take_of_lt hj, hy]
theorem insAt_swap (K : List Hd) (j : Nat) (x y : Hd) (hy : K[j]? = some y) : ((insAt K (j + 1) x).set (j + 1) y).set j x = insAt K j x := by
  have hl := (List.getElem?_eq_some_iff.1 hy).1
  unfold insAt
  rw [take_snocA K j y hy, show K.drop j = y :: K.drop (j + 1) from by
    rw [List.drop_eq_getElem_cons hl, (List.getElem?_eq_some_iff.1 hy).2]]
  have h1 : (K.take j).length = j := by rw [List.length_take]; omega
  generalize K.drop (j + 1) = D
  generalize hP : K.take j = P at *
  subst h1
  simp
/-- All behind place k are behind x. -/
def Above (K : List Hd) (k : Nat) (x : Hd) : Prop := ∀ t ∈ K.drop k, lessH x t = true
theorem Above.end_ (K : List Hd) (x : Hd) : Above K K.length x := fun t ht => by
  rw [List.drop_length] at ht
  cases ht
theorem Above.step {K : List Hd} {j : Nat} {x y : Hd} (h : Above K (j + 1) x) (hy : K[j]? = some y) (hl : lessH x y = true) : Above K j x := fun t ht => by
  have hlt := (List.getElem?_eq_some_iff.1 hy).1
  rw [List.drop_eq_getElem_cons hlt, (List.getElem?_eq_some_iff.1 hy).2] at ht
  rcases List.mem_cons.1 ht with rfl | ht
  · exact hl
  · exact h t ht
theorem Above.stab {K : List Hd} {k : Nat} {x : Hd} (h : Above K k x) : Stab lessH (K ++ [x]) (insAt K k x) := by
  unfold insAt
  have e : K ++ [x] = K.take k ++ (K.drop k ++ [x]) := by rw [← List.append_assoc, List.take_append_drop]
  rw [e]
  refine (Stab.refl _).app ?_
  exact stab_swap swo_less (U := K.drop k) (V := [x]) fun u hu v hv => by
    rw [List.mem_singleton] at hv
    rw [hv]
    exact h u hu
theorem Above.ord {K : List Hd} {k : Nat} {x : Hd} (h : Above K k x) (hO : Ord lessH K) (hs : k = 0 ∨ ∃ y, K[k - 1]? = some y ∧ lessH x y = false) : Ord lessH (insAt K k x) := by
  have e : K = K.take k ++ K.drop k := (List.take_append_drop k K).symm
  unfold Ord at hO ⊢
  rw [e] at hO
  obtain ⟨o1, o2, o3⟩ := List.pairwise_append.1 hO
  unfold insAt
  refine List.pairwise_append.2 ⟨o1, List.pairwise_cons.2 ⟨fun t ht => swo_asymm swo_less (h t ht), o2⟩, fun a ha b hb => ?_⟩
  rcases List.mem_cons.1 hb with rfl | hb
  · rcases hs with rfl | ⟨y, hy, hl⟩
    · simp at ha
    · obtain ⟨i, hi⟩ := List.getElem?_of_mem ha
      have hil := (List.getElem?_eq_some_iff.1 hi).1
      rw [List.length_take] at hil
      rw [List.getElem?_take_of_lt (by omega)] at hi
      have hyl := (List.getElem?_eq_some_iff.1 hy).1
      by_cases hik : i = k - 1
      · subst hik
        rw [hi] at hy
        injection hy with hy
        rw [hy]
        exact hl
      · have h3 : lessH y a = false := by
          have hO2 : Ord lessH K := by
            unfold Ord
            rw [e]
            exact hO
          have := List.pairwise_iff_getElem.1 hO2 i (k - 1) (by omega) hyl (by omega)
          rwa [(List.getElem?_eq_some_iff.1 hi).2, (List.getElem?_eq_some_iff.1 hy).2] at this
        exact swo_less.ntrans _ y _ hl h3
  · exact o3 a ha b hb
/-- What the reference's Heads answers. -/
def HeadsQ (S : List La) (w : World) (e : Ending) (w' : World) : Prop :=
  ∃ (A : Option Addr) (m c : Nat) (K : List Hd), e = .returned (.slice A m c) ∧ Below w.heap.size w w' ∧ w'.ownsRow w.heap.size 43 7 (.slice A m c) m (cellsBy encHd K) ∧ Ord lessH K ∧ Stab lessH (toldL S) K
theorem las_head {w : World} {b p : Nat} {x : La} {A A' : Option Addr} {n c n' c' : Nat} (h : w.rangeAt b p [.int .i64 x.h.age, .int .i64 x.h.kind, .int .i64 x.h.id, .int .i64 x.h.adv, .int .i64 x.h.seq, .int .i64 x.h.sum, .int .i64 x.h.long, .slice A n c, .slice A' n' c']) : w.rangeAt b p [.int .i64 x.h.age, .int .i64 x.h.kind, .int .i64 x.h.id, .int .i64 x.h.adv, .int .i64 x.h.seq, .int .i64 x.h.sum, .int .i64 x.h.long] := fun j v hj => by
  have hl := (List.getElem?_eq_some_iff.1 hj).1
  refine h j v ?_
  rw [← hj, ← List.getElem?_append_left (l₂ := [.slice A n c, .slice A' n' c']) hl]
  rfl
theorem item_range {w : World} {base n c j : Nat} {g : Nat} {L : List Hd} {x : Hd} (h : w.ownsRow base 43 7 (.slice (some ⟨g, 0, none⟩) n c) n (cellsBy encHd L)) (hj : L[j]? = some x) : w.rangeAt g (j * 7) [.int .i64 x.age, .int .i64 x.kind, .int .i64 x.id, .int .i64 x.adv, .int .i64 x.seq, .int .i64 x.sum, .int .i64 x.long] := fun i v hv => by
  have hi := (List.getElem?_eq_some_iff.1 hv).1
  obtain ⟨g', e, -, -, -, -, hc⟩ := own_item encHd_len (by omega) h hj
  injection e with e
  injection e with e
  subst e
  rw [hc i (by simpa using hi)]
  exact hv
set_option maxRecDepth 20000 in
set_option maxHeartbeats 16000000 in
theorem heads_any {w : World} {A : Option Addr} {n c : Nat} {S : List La} {B : Nat} (hS : Las w B A n S) (hB : B ≤ w.heap.size) (hn : n ≤ 100) : Calls Try.prog 14 #[.slice A n c] w (HeadsQ S w) := by
  generalize hQ : HeadsQ S w = Q
  have HQ := Lib.hid hQ
  have HS := Lib.hid hS
  have O0 := Lib.hid (World.ownsRow_nil w w.heap.size 43 7)
  have B0 := Lib.hid (Below.refl w.heap.size w)
  generalize hbm : w.heap.size = bm at *
  have HBM := Lib.hid hbm
  clear hQ hS hbm
  have mixed : Try.prog.follows .mixedOrders = true := by kernel_rfl
  go_enter Try.func14, Try.ntmps14
  go_wp2_with fail
  go_loopw [3, 4] (fun s3 s4 wr => ∃ (k m c' : Nat) (A' : Option Addr) (K : List Hd), s4 = .int .i64 k ∧ s3 = .slice A' m c' ∧ k ≤ n ∧ m ≤ k ∧ Hid (wr.ownsRow bm 43 7 (.slice A' m c') m (cellsBy encHd K)) ∧ Hid (Ord lessH K) ∧ Hid (Stab lessH (toldL (S.take k)) K) ∧ Hid (Below bm w wr)) (fun _ s4 _ => n - (intOf s4).toNat)
  case atStart => exact ⟨0, 0, 0, none, [], rfl, rfl, Nat.zero_le _, Nat.le_refl _, Lib.hid (by simpa [cellsBy] using O0.out), Lib.hid List.Pairwise.nil, Lib.hid (Stab.refl _), B0⟩
  case round =>
    clear O0 B0
    obtain ⟨k, m, c', A', K, rfl, rfl, hk, hmk, OW, OO, OS, BW⟩ := hrel
    by_cases hlt : k < n
    · have hlt' : (k : Int) < (n : Int) := by omega
      obtain ⟨b, o, x, A1, n1, c1, A2, n2, c2, rfl, hb, hx, hr, -, -, -, -⟩ := las_item (HS.out.below (BW.out.mono (by rw [HBM.out] at *; exact hB))) hlt
      have HR := Lib.hid (las_head hr)
      have HX := Lib.hid hx
      have hz : bm ≤ wr.heap.size := by have := BW.out.size; have := HBM.out; omega
      have x0 : wr.cell? ⟨b, o + k * 9, none⟩ = some (.int .i64 x.h.age) := hr 0 _ rfl
      have HT := Lib.hid (toldL_snoc (S.take k) x)
      rw [← take_snocA S k x HX.out] at HT
      clear hr hx HX
      cases hg : goneB x
      · have HT2 := Lib.hid (show toldL (S.take (k + 1)) = toldL (S.take k) ++ [x.h] by
          have := HT.out
          rwa [hg, if_neg (by decide)] at this)
        have d60 : (x.h.age == 60) = false := hg
        clear HT hg
        go_wp2_with (first | refine wpList_load_row 43 _ _ (by rfl) (.tmp 24) rfl (by rfl) HR.out Try.underlying43 rfl (by kernel_rfl) ?_ | (at_builtin; refine wpList_app_hd rfl (.tmp 20) (.tmp 26) rfl x.h (by rfl) (by rfl) OW.out (by omega) hz ?_; intro A3 c3 w3 HO3 HB3))
        have hKm := own_lenH encHd_len (by omega) OW.out
        have B3 := Lib.hid (BW.out.trans HB3.out)
        have O3 := Lib.hid (show w3.ownsRow bm 43 7 (.slice A3 (m + 1) c3) (m + 1) (cellsBy encHd (insAt K m x.h)) by rw [← hKm, insAt_end, hKm]; exact HO3.out)
        have AB := Lib.hid (show Above K m x.h by rw [← hKm]; exact Above.end_ K x.h)
        have HKM := Lib.hid hKm
        obtain ⟨y, hy⟩ : ∃ y, y = x.h := ⟨_, rfl⟩
        rw [← hy] at O3 AB HT2
        clear HO3 HB3 OW BW HR x0 d60 hz hKm hy
        obtain ⟨M, hM⟩ : ∃ M, M = m + 1 := ⟨_, rfl⟩
        rw [← hM] at O3 ⊢
        have eM : (M : Int) - 1 = (m : Int) := by omega
        have w_m : IntKind.i64.wrap (m : Int) = (m : Int) := by rw [IntKind.wrap_i64]; omega
        have hMm : M ≤ k + 1 := by omega
        have hmM : m < M := by omega
        clear hM
        go_wp2_with fail
        go_loopw [5] (fun s5 wi => ∃ j : Nat, s5 = .int .i64 j ∧ j ≤ m ∧ Hid (wi.ownsRow bm 43 7 (.slice A3 M c3) M (cellsBy encHd (insAt K j y))) ∧ Hid (Above K j y) ∧ Hid (Below bm w wi)) (fun s5 _ => (intOf s5).toNat)
        case atStart => exact ⟨m, by first | rfl | go_num, Nat.le_refl _, O3, AB, B3⟩
        case round =>
          clear O3 AB B3 eM w_m
          obtain ⟨j, rfl, hj, OI, AI, BI⟩ := hrel
          by_cases h0 : j = 0
          · subst h0
            have d0 : decide ((0 : Int) < ((0 : Nat) : Int)) = false := by simp
            have B4 := Lib.hid (fun q => BI.out.trans (⟨rfl, rfl, rfl, Nat.le_refl _, fun _ _ => rfl⟩ : Below bm wr (wr.drewN q)))
            have O4 := Lib.hid (fun q => own_chg OI.out (Chg.of_below (F := fun _ => False) (⟨rfl, rfl, rfl, Nat.le_refl _, fun _ _ => rfl⟩ : Below wr.heap.size wr (wr.drewN q))) (fun _ _ hf => hf))
            have OO4 := Lib.hid (AI.out.ord OO.out (.inl rfl))
            have OS4 := Lib.hid (show Stab lessH (toldL (S.take (k + 1))) (insAt K 0 y) by rw [HT2.out]; exact (OS.out.app (Stab.refl [y])).trans AI.out.stab)
            go_wp2_with fail
            go_quiet (fail)
            clear OI BI AI OO OS HT2
            go_wp2
            go_roundw
            case rel => exact ⟨k + 1, M, c3, A3, _, by go_num, by first | rfl | go_num, by omega, by omega, Lib.hid (O4.out nq), OO4, OS4, Lib.hid (B4.out nq)⟩
            case measure => simp [intOf]; omega
          · obtain ⟨i, hi⟩ : ∃ i, j = i + 1 := ⟨j - 1, by omega⟩
            have d0 : decide (0 < j) = true := by simp; omega
            have hiK : i < K.length := by have := HKM.out; omega
            obtain ⟨z, hz⟩ : ∃ z, K[i]? = some z := ⟨_, List.getElem?_eq_getElem hiK⟩
            have hyj := insAt_at K j y (by omega)
            have hzi := insAt_before K j i y z (by omega) hz
            obtain ⟨g, rfl, hgb, hgl, hMc, hcm, haty⟩ := own_item encHd_len (by omega) OI.out hyj
            obtain ⟨g2, e2, -, -, -, -, hatz⟩ := own_item encHd_len (by omega) OI.out hzi
            injection e2 with e2
            injection e2 with e2
            subst e2
            unfold maxLen at hcm
            have e1 : (j : Int) - 1 = (i : Int) := by omega
            have w_i : IntKind.i64.wrap (i : Int) = (i : Int) := by rw [IntKind.wrap_i64]; omega
            have j_u : (j : Int) < (M : Int) := by omega
            have i_u : (i : Int) < (M : Int) := by omega
            have hjM : j < M := by omega
            have hiM : i < M := by omega
            have a0 : wr.cell? ⟨g, j * 7, none⟩ = some (.int .i64 y.age) := haty 0 (by omega)
            have a1 : wr.cell? ⟨g, j * 7 + 1, none⟩ = some (.int .i64 y.kind) := haty 1 (by omega)
            have a2 : wr.cell? ⟨g, j * 7 + 2, none⟩ = some (.int .i64 y.id) := haty 2 (by omega)
            have a3 : wr.cell? ⟨g, j * 7 + 3, none⟩ = some (.int .i64 y.adv) := haty 3 (by omega)
            have a4 : wr.cell? ⟨g, j * 7 + 4, none⟩ = some (.int .i64 y.seq) := haty 4 (by omega)
            have a5 : wr.cell? ⟨g, j * 7 + 5, none⟩ = some (.int .i64 y.sum) := haty 5 (by omega)
            have a6 : wr.cell? ⟨g, j * 7 + 6, none⟩ = some (.int .i64 y.long) := haty 6 (by omega)
            have b0 : wr.cell? ⟨g, i * 7, none⟩ = some (.int .i64 z.age) := hatz 0 (by omega)
            have b1 : wr.cell? ⟨g, i * 7 + 1, none⟩ = some (.int .i64 z.kind) := hatz 1 (by omega)
            have b2 : wr.cell? ⟨g, i * 7 + 2, none⟩ = some (.int .i64 z.id) := hatz 2 (by omega)
            have b3 : wr.cell? ⟨g, i * 7 + 3, none⟩ = some (.int .i64 z.adv) := hatz 3 (by omega)
            have b4 : wr.cell? ⟨g, i * 7 + 4, none⟩ = some (.int .i64 z.seq) := hatz 4 (by omega)
            have b5 : wr.cell? ⟨g, i * 7 + 5, none⟩ = some (.int .i64 z.sum) := hatz 5 (by omega)
            have b6 : wr.cell? ⟨g, i * 7 + 6, none⟩ = some (.int .i64 z.long) := hatz 6 (by omega)
            clear haty hatz hyj hzi
            have ga0 := fun n os => cell_grown (n := n) (os := os) hgl a0
            have ga1 := fun n os => cell_grown (n := n) (os := os) hgl a1
            have ga2 := fun n os => cell_grown (n := n) (os := os) hgl a2
            have ga3 := fun n os => cell_grown (n := n) (os := os) hgl a3
            have ga4 := fun n os => cell_grown (n := n) (os := os) hgl a4
            have ga5 := fun n os => cell_grown (n := n) (os := os) hgl a5
            have ga6 := fun n os => cell_grown (n := n) (os := os) hgl a6
            have gb0 := fun n os => cell_grown (n := n) (os := os) hgl b0
            have gb1 := fun n os => cell_grown (n := n) (os := os) hgl b1
            have gb2 := fun n os => cell_grown (n := n) (os := os) hgl b2
            have gb3 := fun n os => cell_grown (n := n) (os := os) hgl b3
            have gb4 := fun n os => cell_grown (n := n) (os := os) hgl b4
            have gb5 := fun n os => cell_grown (n := n) (os := os) hgl b5
            have gb6 := fun n os => cell_grown (n := n) (os := os) hgl b6
            clear a0 a1 a2 a3 a4 a5 a6 b0 b1 b2 b3 b4 b5 b6
            have p1 := fun n os => Calls.grown_of (key13_grown y (grow (wr.drewN n) os))
            have p2 := fun n os => Calls.grown_of (key13_grown z (grow (wr.drewN n) os))
            have p3 := fun n os => Calls.grown_of (less_grown (keyH y) (keyH z) (grow (wr.drewN n) os))
            unfold keyH at p3
            dsimp only at p3
            rw [show lessKy ⟨y.kind, y.id, y.adv⟩ ⟨z.kind, z.id, z.adv⟩ = lessH y z from rfl] at p3
            obtain ⟨v, hv⟩ : ∃ v, lessH y z = v := ⟨_, rfl⟩
            rw [hv] at p3
            have HV := Lib.hid hv
            have HZ := Lib.hid hz
            have HJ := Lib.hid hi
            have hgr : ∀ n os, Below wr.heap.size wr (grow (wr.drewN n) os) := fun n os => below_grown13 ⟨n, os, rfl⟩
            have B4 := Lib.hid (fun n os => BI.out.trans ((hgr n os).mono (by have := BI.out.size; have := HBM.out; omega)))
            have O4 := Lib.hid (fun n os => own_chg OI.out (Chg.of_below (F := fun _ => False) (hgr n os)) (fun _ _ hf => hf))
            clear hv hz hi hiK OI BI h0 hgr
            go_wp2_with fail
            go_quiet_grown (first | (go_at_call 45; first | with_reducible exact p1 _ _ | with_reducible exact p2 _ _) | (go_at_call 44; with_reducible exact p3 _ _))
            clear p1 p2 p3 ga0 ga1 ga2 ga3 ga4 ga5 ga6 gb0 gb1 gb2 gb3 gb4 gb5 gb6
            have O5 := Lib.hid (O4.out nq osq)
            have B5 := Lib.hid (B4.out nq osq)
            clear O4 B4
            generalize grow (wr.drewN nq) osq = w0 at *
            cases v
            · have OO4 := Lib.hid (AI.out.ord OO.out (.inr ⟨z, by rw [HJ.out, Nat.add_sub_cancel]; exact HZ.out, HV.out⟩))
              have OS4 := Lib.hid (show Stab lessH (toldL (S.take (k + 1))) (insAt K j y) by rw [HT2.out]; exact (OS.out.app (Stab.refl [y])).trans AI.out.stab)
              clear AI OO OS HT2 HJ HV HZ
              go_wp2
              go_roundw
              case rel => exact ⟨k + 1, M, c3, _, _, by go_num, by first | rfl | go_num, by omega, by omega, O5, OO4, OS4, B5⟩
              case measure => simp [intOf]; omega
            · have hzi2 := Lib.hid (insAt_before K j i y z (by have := HJ.out; omega) HZ.out)
              have hyj2 := Lib.hid (insAt_at K j y (by have := HKM.out; omega))
              have AI2 := Lib.hid (show Above K i y by
                have := AI.out
                rw [HJ.out] at this
                exact this.step HZ.out HV.out)
              have SW := Lib.hid (show ((insAt K j y).set j z).set i y = insAt K i y by
                rw [HJ.out]
                exact insAt_swap K i y z HZ.out)
              have hz5 : bm ≤ w0.heap.size := by have := B5.out.size; have := HBM.out; omega
              have RY := Lib.hid (item_range O5.out hyj2.out)
              have O6 := Lib.hid (O5.out.alloc (.cells #[.int .i64 y.age, .int .i64 y.kind, .int .i64 y.id, .int .i64 y.adv, .int .i64 y.seq, .int .i64 y.sum, .int .i64 y.long] 43))
              have B6 := Lib.hid (B5.out.alloc hz5 (.cells #[.int .i64 y.age, .int .i64 y.kind, .int .i64 y.id, .int .i64 y.adv, .int .i64 y.seq, .int .i64 y.sum, .int .i64 y.long] 43))
              have K6 := Lib.hid (Blk.new w0 43 #[.int .i64 y.age, .int .i64 y.kind, .int .i64 y.id, .int .i64 y.adv, .int .i64 y.seq, .int .i64 y.sum, .int .i64 y.long])
              have RZ := Lib.hid (item_range O6.out hzi2.out)
              have NG := Lib.hid (show w0.heap.size ≠ g from by
                have := O5.out.2
                intro e
                rcases this with ⟨hv, _⟩ | ⟨g', cap, cur, hv, hb', hg', -⟩
                · cases hv
                · cases hv
                  have := (Array.getElem?_eq_some_iff.1 hg').1
                  omega)
              clear AI hzi2 hyj2 HZ HV
              go_wp2_with (first
                | refine wpList_load_row 43 _ _ (by rfl) (.tmp 51) rfl (by rfl) RY.out Try.underlying43 rfl (by kernel_rfl) ?_
                | refine wpList_load_row 43 _ _ (by rfl) (.tmp 58) rfl (by rfl) RZ.out Try.underlying43 rfl (by kernel_rfl) ?_
                | (refine wpList_over_hd z rfl (.tmp 60) (.tmp 59) rfl (by rfl) (by rfl) O6.out hjM ?_; intro w7 HO7 HC7; have K7 := Lib.hid (K6.out.chg HC7.out NG.out); have R7 := Lib.hid (show w7.rangeAt w0.heap.size 0 [.int .i64 y.age, .int .i64 y.kind, .int .i64 y.id, .int .i64 y.adv, .int .i64 y.seq, .int .i64 y.sum, .int .i64 y.long] from blk_range7 K7.out))
                | refine wpList_load_row 43 _ _ (by rfl) (.tmp 6) rfl (by rfl) R7.out Try.underlying43 rfl (by kernel_rfl) ?_
                | (refine wpList_over_hd y rfl (.tmp 65) (.tmp 64) rfl (by rfl) (by rfl) HO7.out hiM ?_; intro w8 HO8 HC8))
              have O8 := Lib.hid (show w8.ownsRow bm 43 7 (.slice (some ⟨g, 0, none⟩) M c3) M (cellsBy encHd (insAt K i y)) by rw [← SW.out]; exact HO8.out)
              have B8 := Lib.hid ((B6.out.trans (HC7.out.to_below (fun t ht => by rw [ht]; exact hgb) (Nat.le_trans hz5 (by simp)))).trans (HC8.out.to_below (fun t ht => by rw [ht]; exact hgb) (Nat.le_trans (Nat.le_trans hz5 (by simp)) HC7.out.size)))
              clear HO7 HC7 HO8 HC8 K6 K7 R7 RY RZ O6 O5 B5 B6 SW NG HJ hz5
              go_wp2
              go_roundw
              case rel => exact ⟨i, by go_num, by omega, O8, AI2, B8⟩
              case measure => simp [intOf]; omega
      · have HT2 := Lib.hid (show toldL (S.take (k + 1)) = toldL (S.take k) by
          have := HT.out
          rwa [hg, if_pos rfl] at this)
        have d60 : (x.h.age == 60) = true := hg
        have OS2 := Lib.hid (show Stab lessH (toldL (S.take (k + 1))) K by rw [HT2.out]; exact OS.out)
        clear HT hg HT2 OS HR
        go_wp2
        go_roundw
        case rel => exact ⟨k + 1, m, c', A', K, by go_num, rfl, by omega, by omega, OW, OO, OS2, BW⟩
        case measure => simp [intOf]; omega
    · have hlt' : ¬ (k : Int) < (n : Int) := by omega
      have HT := Lib.hid (show toldL (S.take k) = toldL S by
        rw [List.take_of_length_le (by have := HS.out.1; omega)])
      rw [HT.out] at OS
      go_wp2
      show Q (.returned (.slice A' m c')) wr
      rw [← HQ.out]
      exact ⟨A', m, c', K, rfl, by rw [HBM.out]; exact BW.out, by rw [HBM.out]; exact OW.out, OO.out, OS.out⟩
end Go.Proofs.Ytfdfdmbnggpnbaa
namespace Go.Proofs.Ytfdfdmbnggpnbaa
open Go.RowKit Go.Lib Go.Sort Go.Deep

theorem own_hds {w : World} {base n c : Nat} {A : Option Addr} {L : List Hd} (h : w.ownsRow base 43 7 (.slice A n c) n (cellsBy encHd L)) : Hds w w.heap.size A n L := by
  have hl := own_lenH encHd_len (by omega) h
  refine ⟨hl, fun hn => ?_⟩
  obtain ⟨x, hx⟩ : ∃ x, L[0]? = some x := ⟨_, List.getElem?_eq_getElem (by omega)⟩
  obtain ⟨g, rfl, -, hgl, -⟩ := own_item encHd_len (by omega) h hx
  refine ⟨g, 0, rfl, hgl, fun j y hy => ?_⟩
  have hr := item_range h hy
  rw [Nat.zero_add]
  exact HdAt.of_range hr
theorem Hds.part {w : World} {B n c k e : Nat} {A : Option Addr} {L : List Hd} (h : Hds w B A n L) (hk : k ≤ e) (he : e ≤ n) (hc : n ≤ c) : Hds w B (if c = k then A else Option.map (fun x => x.add (k * 7)) A) (e - k) ((L.drop k).take (e - k)) := by
  have hl := h.1
  refine ⟨by rw [List.length_take, List.length_drop]; omega, fun h0 => ?_⟩
  obtain ⟨b, o, rfl, hb, hat⟩ := h.2 (by omega)
  rw [if_neg (by omega)]
  refine ⟨b, o + k * 7, by rw [Option.map_some, addr_add], hb, fun j x hx => ?_⟩
  have hj := (List.getElem?_eq_some_iff.1 hx).1
  rw [List.length_take] at hj
  rw [List.getElem?_take_of_lt (by omega), List.getElem?_drop] at hx
  have := hat _ x hx
  rwa [show o + (k + j) * 7 = o + k * 7 + j * 7 by omega] at this
theorem same13_yes {w : World} {A A' : Option Addr} {n c n' c' B B' : Nat} {L L' : List Hd} (hL : Hds w B A n L) (hL' : Hds w B' A' n' L') (hB : B ≤ w.heap.size) (hB' : B' ≤ w.heap.size) (hn : n ≤ 1000) (hn' : n' ≤ 1000) (e : L = L') :
    Calls Try.prog 15 #[.slice A n c, .slice A' n' c'] w fun e w' => e = .returned (.bool true) ∧ ∃ q, w' = w.drewN q := by
  have := same13_any hL hL' hB hB' hn hn' (c := c) (c' := c')
  rwa [decide_eq_true e] at this
theorem own_base_le {w : World} {base n size q : Nat} {t : TypeId} {v : Value} {xs : List Value} (h : w.ownsRow base t size v n xs) (hq : v.ownBlock = some q) : base ≤ q := by
  rcases h.2 with ⟨hv, _⟩ | ⟨g, cap, cur, hv, hb, hg, -⟩
  · subst hv
    cases hq
  · subst hv
    have h2 : some g = some q := hq
    injection h2 with h2
    omega
set_option maxRecDepth 20000 in
set_option maxHeartbeats 16000000 in
theorem tells_walk {w : World} {A : Option Addr} {n c : Nat} {T : List La} (hT : Las w w.heap.size A n T) (hn : n ≤ maxLen) : Calls Try.prog 3 #[.slice A n c] w fun e w' => e = .returned (.bool true) ∧ Below w.heap.size w w' := by
  have HT := Lib.hid hT
  have HN := Lib.hid hn
  clear hT hn
  go_enter Try.func3, Try.ntmps3
  go_wp2_with fail
  refine (wakes_any _).mono ?_
  rintro e1 w1 ⟨rfl, hb1⟩
  have B1 := Lib.hid hb1
  clear hb1
  go_wp2_with fail
  refine (many_any A n c T w.heap.size w1 (HT.out.below B1.out) B1.out.size HN.out).mono ?_
  rintro e2 w2 ⟨⟨t, rfl, ht⟩, hb2⟩
  have B2 := Lib.hid (B1.out.trans (hb2.mono B1.out.size))
  clear hb2 B1
  cases t
  case true =>
    go_wp2
    go_ret
    exact ⟨rfl, B2.out⟩
  obtain ⟨hn60, -⟩ := ht rfl
  clear ht HN
  go_wp2_with fail
  refine (new_any (HT.out.below B2.out) B2.out.size (by omega)).mono ?_
  rintro e3 w3 ⟨p, A1, N1, c1, K, rfl, hb3, hp3, hB3, hO3, hOrd, hStab⟩
  have B3 := Lib.hid (B2.out.trans (hb3.mono B2.out.size))
  have S3 := Lib.hid (sum_new hp3 hB3 hO3)
  have hlen : N1 ≤ n := by
    have h1 := own_lenH encHd_len (by omega) hO3
    have h2 := hStab.1
    have h3 := HT.out.1
    have h4 : (toldL T).length ≤ T.length := by
      unfold toldL
      rw [List.length_map]
      exact List.length_filter_le _ _
    omega
  have hp3b := hB3.lt
  clear hb3 hB3 hO3
  go_wp2_with fail
  refine (heads_any (HT.out.below B3.out) B3.out.size (by omega)).mono ?_
  rintro e4 w4 ⟨A2, N, c2, K2, rfl, hb4, hO4, hOrd2, hStab2⟩
  have hKK : K2 = K := (stab_unique swo_less hOrd hOrd2 (hStab.symm.trans hStab2)).symm
  subst hKK
  have hNN : N = N1 := by
    have h1 := own_lenH encHd_len (by omega) hO4
    have h2 := S3.out.len
    omega
  subst hNN
  have B4 := Lib.hid (B3.out.trans (hb4.mono B3.out.size))
  have S4 := Lib.hid (S3.out.below hb4)
  have O4 := Lib.hid hO4
  have HKL := Lib.hid (own_lenH encHd_len (by omega) hO4)
  have hc2 : N ≤ c2 ∧ c2 ≤ maxLen := by
    rcases hO4.2 with ⟨hv, hz⟩ | ⟨g, cap, cur, hv, hb, hg, h1, h2, h3, h4⟩
    · cases hv
      unfold maxLen
      omega
    · cases hv
      exact ⟨h1, h2⟩
  obtain ⟨hcN, hcM⟩ := hc2
  unfold maxLen at hcM
  clear hb4 hO4 S3 B3 hOrd hStab hOrd2 hStab2
  generalize hF : (fun q => w2.heap.size ≤ q ∧ q < w3.heap.size) = F at S4
  have HF := Lib.hid (show ∀ q, F q → w.heap.size ≤ q ∧ q < w3.heap.size from fun q hq => by
    rw [← hF] at hq
    have := B2.out.size
    exact ⟨by omega, hq.2⟩)
  clear hF
  obtain ⟨b3, hb3⟩ : ∃ b3, b3 = w3.heap.size := ⟨_, rfl⟩
  rw [← hb3] at O4 HF hp3b
  clear hb3 B2
  go_wp2_with fail
  go_loopw [5] (fun s5 wr => ∃ (k N' c' : Nat) (A' : Option Addr), s5 = .int .i64 k ∧ k ≤ N + 3 ∧ Hid (SumAt wr F p A' N' c' (K2.drop k)) ∧ Hid (wr.ownsRow b3 43 7 (.slice A2 N c2) N (cellsBy encHd K2)) ∧ Hid (Below w.heap.size w wr)) (fun s5 _ => N + 4 - (intOf s5).toNat)
  case atStart => exact ⟨0, N, c1, A1, rfl, Nat.zero_le _, S4, O4, B4⟩
  case round =>
    clear S4 O4 B4
    obtain ⟨k, N', c', A', rfl, hk, SW, OW, BW⟩ := hrel
    by_cases hend : k ≠ 0 ∧ N ≤ k
    · have hk0 : k ≠ 0 := hend.1
      have d8 : ((k : Int) == 0) = false := by simp; omega
      have d9 : decide (k < N) = false := by simp; omega
      have hK0 : K2.drop k = [] := List.drop_of_length_le (by have := HKL.out; omega)
      rw [hK0] at SW
      have hN0 : N' = 0 := by
        have := SW.out.len
        simpa using this.symm
      subst hN0
      clear hK0 hend
      have hpF := HF.out p SW.out.fp
      have hpw := BW.out.size
      have HB := Lib.hid BW.out
      go_wp2_with (first
          | (go_at_call 16; refine (pieceP_any SW.out (by omega)).mono ?_; rintro e5 w5 ⟨A5, m5, c5, rfl, hb5, hO5⟩; have S5 := SW.out.below hb5; obtain rfl : m5 = 0 := (by have := own_lenH encHd_len (by omega) hO5; simpa using this.symm))
          | (go_at_call 17; refine (more_any S5 (by omega)).mono ?_; rintro e7 w7 ⟨rfl, q7, rfl⟩)
          | (go_at_call 18; refine (step_any (S5.drewN q7) (by omega)).mono ?_; rintro e8 w8 ⟨rfl, A8, n8, c8, S8, hc8⟩)
          | (go_at_call 16; refine (pieceP_any S8 (by have := S8.len; simp at this; omega)).mono ?_; rintro e9 w9 ⟨A9, m9, c9, rfl, hb9, hO9⟩; obtain rfl : m9 = 0 := (by have := own_lenH encHd_len (by omega) hO9; simpa using this.symm)))
      go_ret
      refine ⟨rfl, ?_⟩
      have h1 : Below w.heap.size w w5 := BW.out.trans (hb5.mono hpw)
      have h2 : Below w.heap.size w (w5.drewN q7) := h1.trans ⟨rfl, rfl, rfl, Nat.le_refl _, fun _ _ => rfl⟩
      have h3 := h2.trans (hc8.to_below (fun q hq => by rw [hq]; exact hpF.1) h2.size)
      exact h3.trans (hb9.mono h3.size)
    · have hkN : k ≤ N := by omega
      have hN' : N' = N - k := by
        have := SW.out.len
        rw [List.length_drop, HKL.out] at this
        omega
      obtain ⟨E, hE⟩ : ∃ E, E = min (k + 3) N := ⟨_, rfl⟩
      have hmin : min ((k : Int) + 3) (N : Int) = (E : Int) := by omega
      obtain ⟨v, hv⟩ : ∃ v, decide (3 < N') = v := ⟨_, rfl⟩
      have dE : decide (E < N) = v := by
        rw [← hv]
        by_cases h3 : 3 < N'
        · simp only [h3, decide_true, decide_eq_true_iff]
          omega
        · simp only [h3, decide_false, decide_eq_false_iff_not]
          omega
      have w_k : IntKind.i64.wrap ((k : Int) + 3) = (k : Int) + 3 := by rw [IntKind.wrap_i64]; omega
      have hkE : k ≤ E := by omega
      have hEN : E ≤ N := by omega
      have hEc : E ≤ c2 := by omega
      have i_1 : (k : Int) ≤ (E : Int) := by omega
      have i_2 : (E : Int) ≤ (c2 : Int) := by omega
      have HEQ := Lib.hid (show (K2.drop k).take 3 = (K2.drop k).take (E - k) by
        rw [List.take_eq_take_iff, List.length_drop, HKL.out]
        omega)
      have HV := Lib.hid hv
      have hpt := fun (W : World) (hO : W.ownsRow b3 43 7 (.slice A2 N c2) N (cellsBy encHd K2)) => (own_hds hO).part hkE hEN hcN
      obtain ⟨A3, hA3⟩ : ∃ A3, (if c2 = k then A2 else Option.map (fun x => x.add (k * 7)) A2) = A3 := ⟨_, rfl⟩
      rw [hA3] at hpt
      have HPT := Lib.hid hpt
      clear hE hv hpt
      rcases Nat.eq_zero_or_pos k with h0 | h0
      · have d8 : ((k : Int) == 0) = true := by simp [h0]
        clear h0 hend
        go_wp2_with fail
        have SD : SumAt wr.drew F p A' N' c' (K2.drop k) := SW.out.move (fun _ _ _ => rfl) (Nat.le_refl _)
        have BD : Below wr.heap.size wr wr.drew := ⟨rfl, rfl, rfl, Nat.le_refl _, fun _ _ => rfl⟩
        go_region_held3 (fun _ => True) (exact trivial) (first
          | (go_at_call 16; refine (pieceP_any SD (by omega)).mono ?_; rintro e5 w5 ⟨A5, m5, c5, rfl, hb5, hO5⟩; have BD5 := BD.trans (show Below wr.heap.size wr.drew w5 from hb5); have S5 := SD.below hb5; have hm5 : m5 ≤ 3 := (by have := own_lenH encHd_len (by omega) hO5; rw [List.length_take] at this; omega); have OW5 := own_chg OW.out (Chg.of_below (F := fun _ => False) BD5) (fun _ _ hf => hf))
          | (go_at_call 15; refine (same13_yes (own_hds hO5) (HPT.out _ OW5) (Nat.le_refl _) (Nat.le_refl _) (by omega) (by omega) HEQ.out).mono ?_; rintro e6 w6 ⟨rfl, q6, rfl⟩)
          | (go_at_call 17; have hm := more_any (S5.drewN q6) (by omega); rw [HV.out] at hm; refine hm.mono ?_; rintro e7 w7 ⟨rfl, q7, rfl⟩)
          | (go_at_call 18; have hs := step_any (S5.drewN (q6 + q7)) (by omega); rw [HV.out] at hs; refine hs.mono ?_; rintro e8 w8 ⟨rfl, A8, n8, c8, S8, hc8⟩))
        have BD6 : Below wr.heap.size wr (w5.drewN (q6 + q7)) := BD5.trans (⟨rfl, rfl, rfl, Nat.le_refl _, fun _ _ => rfl⟩ : Below wr.heap.size w5 (w5.drewN (q6 + q7)))
        have hpF := HF.out p SW.out.fp
        have hpw := BW.out.size
        have S9 := Lib.hid (show SumAt w8 F p A8 n8 c8 (K2.drop (k + 3)) by rw [← List.drop_drop]; exact S8)
        have C9 := (Chg.of_below (F := fun q => q = p) BD6).trans hc8 (fun q hq => .inl hq)
        have O9 := Lib.hid (own_chg OW.out C9 (fun q hq e => by
          have := own_base_le OW.out hq
          omega))
        have B9 := Lib.hid (BW.out.trans (C9.to_below (fun q hq => by rw [hq]; exact hpF.1) hpw))
        clear SD BD BD5 S5 hm5 OW5 hb5 hO5 BD6 S8 hc8 C9 hpF hpw SW OW BW
        go_wp2
        go_roundw
        case rel => exact ⟨k + 3, n8, c8, A8, by go_num, by omega, S9, O9, B9⟩
        case measure => simp [intOf]; omega
      · have d8 : ((k : Int) == 0) = false := by simp; omega
        have hkN : k < N := by omega
        have d9 : decide (k < N) = true := by simp; omega
        clear h0 hend
        go_wp2_with fail
        have SD : SumAt wr.drew F p A' N' c' (K2.drop k) := SW.out.move (fun _ _ _ => rfl) (Nat.le_refl _)
        have BD : Below wr.heap.size wr wr.drew := ⟨rfl, rfl, rfl, Nat.le_refl _, fun _ _ => rfl⟩
        go_region_held3 (fun _ => True) (exact trivial) (first
          | (go_at_call 16; refine (pieceP_any SD (by omega)).mono ?_; rintro e5 w5 ⟨A5, m5, c5, rfl, hb5, hO5⟩; have BD5 := BD.trans (show Below wr.heap.size wr.drew w5 from hb5); have S5 := SD.below hb5; have hm5 : m5 ≤ 3 := (by have := own_lenH encHd_len (by omega) hO5; rw [List.length_take] at this; omega); have OW5 := own_chg OW.out (Chg.of_below (F := fun _ => False) BD5) (fun _ _ hf => hf))
          | (go_at_call 15; refine (same13_yes (own_hds hO5) (HPT.out _ OW5) (Nat.le_refl _) (Nat.le_refl _) (by omega) (by omega) HEQ.out).mono ?_; rintro e6 w6 ⟨rfl, q6, rfl⟩)
          | (go_at_call 17; have hm := more_any (S5.drewN q6) (by omega); rw [HV.out] at hm; refine hm.mono ?_; rintro e7 w7 ⟨rfl, q7, rfl⟩)
          | (go_at_call 18; have hs := step_any (S5.drewN (q6 + q7)) (by omega); rw [HV.out] at hs; refine hs.mono ?_; rintro e8 w8 ⟨rfl, A8, n8, c8, S8, hc8⟩))
        have BD6 : Below wr.heap.size wr (w5.drewN (q6 + q7)) := BD5.trans (⟨rfl, rfl, rfl, Nat.le_refl _, fun _ _ => rfl⟩ : Below wr.heap.size w5 (w5.drewN (q6 + q7)))
        have hpF := HF.out p SW.out.fp
        have hpw := BW.out.size
        have S9 := Lib.hid (show SumAt w8 F p A8 n8 c8 (K2.drop (k + 3)) by rw [← List.drop_drop]; exact S8)
        have C9 := (Chg.of_below (F := fun q => q = p) BD6).trans hc8 (fun q hq => .inl hq)
        have O9 := Lib.hid (own_chg OW.out C9 (fun q hq e => by
          have := own_base_le OW.out hq
          omega))
        have B9 := Lib.hid (BW.out.trans (C9.to_below (fun q hq => by rw [hq]; exact hpF.1) hpw))
        clear SD BD BD5 S5 hm5 OW5 hb5 hO5 BD6 S8 hc8 C9 hpF hpw SW OW BW
        go_wp2
        go_roundw
        case rel => exact ⟨k + 3, n8, c8, A8, by go_num, by omega, S9, O9, B9⟩
        case measure => simp [intOf]; omega
end Go.Proofs.Ytfdfdmbnggpnbaa
