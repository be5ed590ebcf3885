/- The reference's small calls: a head's key, which key is ahead, whether lists of heads are alike; whether there is more than a statement takes. Conditions: at most 1000 heads. · The reference's heads: those that are told, each put behind those of keys that aren't above its own. Conditions: at most 100 descriptions. · The statements' example of a summary. No conditions. · The walk of the statement SummTells. Conditions: what the words say. · Hear of the program. Conditions: a number of 64 bits; at most 100 descriptions, on blocks below those of the exchange. · Say of the program; of no exchange. Conditions: what the words say. -/
import Derived.Deep.RegionHeld3
import Derived.Test.YtfdfdmbnggpnbaaVap
import Derived.Test.YtfdfdmbnggpnbaaVan
import Derived.Test.YtfdfdmbnggpnbaaVao
import Derived.Test.YtfdfdmbnggpnbaaVam
namespace Go.Proofs.Ytfdfdmbnggpnbaa
open Go.RowKit Go.Lib Go.Sort Go.Deep

set_option maxRecDepth 8000 in
set_option maxHeartbeats 2000000 in
theorem key13_grown (h : Hd) (w : World) : Calls Try.prog 45 #[.agg #[.int .i64 h.age, .int .i64 h.kind, .int .i64 h.id, .int .i64 h.adv, .int .i64 h.seq, .int .i64 h.sum, .int .i64 h.long]] w
    fun e w' => e = .returned (.agg #[.int .i64 h.kind, .int .i64 h.id, .int .i64 h.adv]) ∧ ∃ q os', w' = grow (w.drewN q) os' := by
  have HG := Lib.hid (show ∃ q os', (w.alloc (.cells #[.int .i64 h.age, .int .i64 h.kind, .int .i64 h.id, .int .i64 h.adv, .int .i64 h.seq, .int .i64 h.sum, .int .i64 h.long] 43)).alloc (.cells #[.int .i64 h.kind, .int .i64 h.id, .int .i64 h.adv] 86) = grow (w.drewN q) os' from ⟨0, _, by rw [alloc_eq_grow, alloc_eq_grow, grow_grow]; rfl⟩)
  go_enter Try.func45, Try.ntmps45
  go_wp2
  refine bodyPost_ret (v := .agg #[.int .i64 h.kind, .int .i64 h.id, .int .i64 h.adv]) (by simp [results, Try.results45, go_sem, *]) rfl ?_
  exact ⟨rfl, HG.out⟩
theorem below_grown13 {w w' : World} (h : ∃ q os', w' = grow (w.drewN q) os') : Below w.heap.size w w' := by
  obtain ⟨q, os, rfl⟩ := h
  exact ⟨rfl, rfl, rfl, by rw [Go.Sort.size_grow]; exact Nat.le_add_right _ _, fun b hb => heap_grow_old _ _ (by exact hb)⟩
set_option maxRecDepth 8000 in
set_option maxHeartbeats 2000000 in
theorem less_grown (a b : Ky) (w : World) : Calls Try.prog 44 #[.agg #[.int .i64 a.kind, .int .i64 a.id, .int .i64 a.adv], .agg #[.int .i64 b.kind, .int .i64 b.id, .int .i64 b.adv]] w
    fun e w' => e = .returned (.bool (lessKy a b)) ∧ ∃ q os', w' = grow (w.drewN q) os' := by
  generalize hv : lessKy a b = v
  have HV := Lib.hid hv
  clear hv
  have HG := Lib.hid (show ∃ q os', (w.alloc (.cells #[.int .i64 a.kind, .int .i64 a.id, .int .i64 a.adv] 86)).alloc (.cells #[.int .i64 b.kind, .int .i64 b.id, .int .i64 b.adv] 86) = grow (w.drewN q) os' from ⟨0, _, by rw [alloc_eq_grow, alloc_eq_grow, grow_grow]; rfl⟩)
  go_enter Try.func44, Try.ntmps44
  by_cases h1 : a.kind = b.kind
  · have d1 : (a.kind != b.kind) = false := by simp [h1]
    by_cases h2 : a.id = b.id
    · have d2 : (a.id != b.id) = false := by simp [h2]
      have HC := Lib.hid (show decide (a.adv < b.adv) = v by rw [← HV.out, lessKy, if_neg (by simp [h1]), if_neg (by simp [h2])])
      clear h1 h2
      go_wp2
      go_ret
      exact ⟨ret_bool HC.out, HG.out⟩
    · have d2 : (a.id != b.id) = true := by simp [h2]
      have HC := Lib.hid (show decide (a.id < b.id) = v by rw [← HV.out, lessKy, if_neg (by simp [h1]), if_pos h2])
      clear h1 h2
      go_wp2
      go_ret
      exact ⟨ret_bool HC.out, HG.out⟩
  · have d1 : (a.kind != b.kind) = true := by simp [h1]
    have HC := Lib.hid (show decide (a.kind < b.kind) = v by rw [← HV.out, lessKy, if_pos h1])
    clear h1
    go_wp2
    go_ret
    exact ⟨ret_bool HC.out, HG.out⟩
theorem HdAt.of_range {w : World} {B b p : Nat} {h : Hd} (hh : w.rangeAt b p [.int .i64 h.age, .int .i64 h.kind, .int .i64 h.id, .int .i64 h.adv, .int .i64 h.seq, .int .i64 h.sum, .int .i64 h.long]) : HdAt w B b p h :=
  ⟨hh 0 _ rfl, hh 1 _ rfl, hh 2 _ rfl, hh 3 _ rfl, hh 4 _ rfl, hh 5 _ rfl, hh 6 _ rfl⟩
set_option maxRecDepth 8000 in
set_option maxHeartbeats 4000000 in
theorem same13_any {w : World} {A A' : Option Addr} {n c n' c' B B' : Nat} {L L' : List Hd} (hL : Hds w B A n L) (hL' : Hds w B' A' n' L') (hB : B ≤ w.heap.size) (hB' : B' ≤ w.heap.size) (hn : n ≤ 1000) (hn' : n' ≤ 1000) :
    Calls Try.prog 15 #[.slice A n c, .slice A' n' c'] w fun e w' => e = .returned (.bool (decide (L = L'))) ∧ ∃ q, w' = w.drewN q := by
  have H1 := Lib.hid hL
  have H2 := Lib.hid hL'
  have hl1 := hL.1
  have hl2 := hL'.1
  clear hL hL'
  go_enter Try.func15, Try.ntmps15
  by_cases hnn : n = n'
  · subst hnn
    have d1 : ((n : Int) != (n : Int)) = false := by simp
    go_wp2_with fail
    go_loopw [5] (fun i wr => ∃ k q : Nat, k ≤ n ∧ i = .int .i64 k ∧ Hid (L.take k = L'.take k) ∧ Hid (wr = w.drewN q)) (fun i _ => n - (intOf i).toNat)
    case atStart => exact ⟨0, 0, Nat.zero_le _, rfl, Lib.hid rfl, Lib.hid rfl⟩
    case round =>
      obtain ⟨k, q, hk, rfl, HT, HW⟩ := hrel
      by_cases hlt : k < n
      · have hlt' : (k : Int) < (n : Int) := by omega
        obtain ⟨b, o, x, rfl, hb, hx, hr⟩ := hds_item H1.out hlt
        obtain ⟨b', o', y, rfl, hb', hy, hr'⟩ := hds_item H2.out hlt
        have X1 := Lib.hid (take_snocA L k x hx)
        have Y1 := Lib.hid (take_snocA L' k y hy)
        have HX := Lib.hid hx
        have HY := Lib.hid hy
        have R1 := Lib.hid (show wr.rangeAt b (o + k * 7) [.int .i64 x.age, .int .i64 x.kind, .int .i64 x.id, .int .i64 x.adv, .int .i64 x.seq, .int .i64 x.sum, .int .i64 x.long] by rw [HW.out]; exact hr)
        have R2 := Lib.hid (show wr.rangeAt b' (o' + k * 7) [.int .i64 y.age, .int .i64 y.kind, .int .i64 y.id, .int .i64 y.adv, .int .i64 y.seq, .int .i64 y.sum, .int .i64 y.long] by rw [HW.out]; exact hr')
        have hbl : b < wr.heap.size := by rw [HW.out]; exact Nat.lt_of_lt_of_le hb hB
        have hbl' : b' < wr.heap.size := by rw [HW.out]; exact Nat.lt_of_lt_of_le hb' hB'
        clear hx hy hr hr' hb hb'
        have g0 : wr.cell? ⟨b, o + k * 7, none⟩ = some (.int .i64 x.age) := R1.out 0 _ rfl
        have g1 : wr.cell? ⟨b, o + k * 7 + 1, none⟩ = some (.int .i64 x.kind) := R1.out 1 _ rfl
        have g2 : wr.cell? ⟨b, o + k * 7 + 2, none⟩ = some (.int .i64 x.id) := R1.out 2 _ rfl
        have g3 : wr.cell? ⟨b, o + k * 7 + 3, none⟩ = some (.int .i64 x.adv) := R1.out 3 _ rfl
        have g4 : wr.cell? ⟨b, o + k * 7 + 4, none⟩ = some (.int .i64 x.seq) := R1.out 4 _ rfl
        have g5 : wr.cell? ⟨b, o + k * 7 + 5, none⟩ = some (.int .i64 x.sum) := R1.out 5 _ rfl
        have g6 : wr.cell? ⟨b, o + k * 7 + 6, none⟩ = some (.int .i64 x.long) := R1.out 6 _ rfl
        have f0 : wr.cell? ⟨b', o' + k * 7, none⟩ = some (.int .i64 y.age) := R2.out 0 _ rfl
        have f1 : wr.cell? ⟨b', o' + k * 7 + 1, none⟩ = some (.int .i64 y.kind) := R2.out 1 _ rfl
        have f2 : wr.cell? ⟨b', o' + k * 7 + 2, none⟩ = some (.int .i64 y.id) := R2.out 2 _ rfl
        have f3 : wr.cell? ⟨b', o' + k * 7 + 3, none⟩ = some (.int .i64 y.adv) := R2.out 3 _ rfl
        have f4 : wr.cell? ⟨b', o' + k * 7 + 4, none⟩ = some (.int .i64 y.seq) := R2.out 4 _ rfl
        have f5 : wr.cell? ⟨b', o' + k * 7 + 5, none⟩ = some (.int .i64 y.sum) := R2.out 5 _ rfl
        have f6 : wr.cell? ⟨b', o' + k * 7 + 6, none⟩ = some (.int .i64 y.long) := R2.out 6 _ rfl
        clear R1 R2
        have eH := fun W => equalHd x y W
        by_cases hxy : x = y
        · subst hxy
          rw [show sameHd x x = true from (sameHd_iff _ _).2 rfl] at eH
          have HN := Lib.hid (show L.take (k + 1) = L'.take (k + 1) by rw [X1.out, Y1.out, HT.out])
          clear X1 Y1 HX HY
          go_wp2_with fail
          go_quiet (fail)
          have HW2 := Lib.hid (show wr.drewN nq = w.drewN (q + nq) by rw [HW.out, World.drewN_drewN])
          clear g0 g1 g2 g3 g4 g5 g6 f0 f1 f2 f3 f4 f5 f6 eH hbl hbl' HW
          go_wp2
          go_roundw
          case rel => exact ⟨k + 1, q + nq, by omega, by go_num, HN, HW2⟩
          case measure => simp [intOf]; omega
        · rw [show sameHd x y = false from by rw [Bool.eq_false_iff]; exact fun h => hxy ((sameHd_iff _ _).1 h)] at eH
          have HN := Lib.hid (show ¬ L = L' from fun h => by
            have h1 := HX.out
            rw [h, HY.out] at h1
            injection h1 with h1
            exact hxy h1.symm)
          clear X1 Y1 HX HY
          go_wp2_with fail
          go_quiet (fail)
          have HW2 := Lib.hid (show wr.drewN nq = w.drewN (q + nq) by rw [HW.out, World.drewN_drewN])
          clear g0 g1 g2 g3 g4 g5 g6 f0 f1 f2 f3 f4 f5 f6 eH hbl hbl' HW
          go_wp2
          go_ret
          refine ⟨?_, q + nq, HW2.out⟩
          rw [decide_eq_false HN.out]
          rfl
      · have hlt' : ¬ (k : Int) < (n : Int) := by omega
        have HN := Lib.hid (show L = L' by
          have := HT.out
          rwa [List.take_of_length_le (by omega), List.take_of_length_le (by omega)] at this)
        go_wp2
        go_ret
        exact ⟨by rw [decide_eq_true HN.out]; rfl, q, HW.out⟩
  · have d1 : ((n : Int) != (n' : Int)) = true := by simp; omega
    have HN := Lib.hid (show ¬ L = L' from fun h => hnn (by rw [← hl1, ← hl2, h]))
    go_wp2
    go_ret
    exact ⟨by rw [decide_eq_false HN.out]; rfl, 0, rfl⟩
end Go.Proofs.Ytfdfdmbnggpnbaa
namespace Go.Proofs.Ytfdfdmbnggpnbaa
open Go.RowKit Go.Lib Go.Sort Go.Deep

/-- A row with an item put at place k. -/
def insAt (K : List Hd) (k : Nat) (x : Hd) : List Hd := K.take k ++ x :: K.drop k
theorem insAt_end (K : List Hd) (x : Hd) : insAt K K.length x = K ++ [x] := by
  unfold insAt
  rw [List.take_length, List.drop_length]
theorem insAt_at (K : List Hd) (k : Nat) (x : Hd) (hk : k ≤ K.length) : (insAt K k x)[k]? = some x := by
  unfold insAt
  rw [List.getElem?_append_right (by rw [List.length_take]; omega), List.length_take, show k - min k K.length = 0 by omega]
  rfl
theorem insAt_before (K : List Hd) (k j : Nat) (x y : Hd) (hj : j < k) (hy : K[j]? = some y) : (insAt K k x)[j]? = some y := by
  have := (List.getElem?_eq_some_iff.1 hy).1
  unfold insAt
  rw [List.getElem?_append_left (by rw [List.length_take]; omega), List.getElem?_take_of_lt hj, hy]
theorem insAt_swap (K : List Hd) (j : Nat) (x y : Hd) (hy : K[j]? = some y) : ((insAt K (j + 1) x).set (j + 1) y).set j x = insAt K j x := by
  have hl := (List.getElem?_eq_some_iff.1 hy).1
  unfold insAt
  rw [take_snocA K j y hy, show K.drop j = y :: K.drop (j + 1) from by
    rw [List.drop_eq_getElem_cons hl, (List.getElem?_eq_some_iff.1 hy).2]]
  have h1 : (K.take j).length = j := by rw [List.length_take]; omega
  generalize K.drop (j + 1) = D
  generalize hP : K.take j = P at *
  subst h1
  simp
/-- All behind place k are behind x. -/
def Above (K : List Hd) (k : Nat) (x : Hd) : Prop := ∀ t ∈ K.drop k, lessH x t = true
theorem Above.end_ (K : List Hd) (x : Hd) : Above K K.length x := fun t ht => by
  rw [List.drop_length] at ht
  cases ht
theorem Above.step {K : List Hd} {j : Nat} {x y : Hd} (h : Above K (j + 1) x) (hy : K[j]? = some y) (hl : lessH x y = true) : Above K j x := fun t ht => by
  have hlt := (List.getElem?_eq_some_iff.1 hy).1
  rw [List.drop_eq_getElem_cons hlt, (List.getElem?_eq_some_iff.1 hy).2] at ht
  rcases List.mem_cons.1 ht with rfl | ht
  · exact hl
  · exact h t ht
theorem Above.stab {K : List Hd} {k : Nat} {x : Hd} (h : Above K k x) : Stab lessH (K ++ [x]) (insAt K k x) := by
  unfold insAt
  have e : K ++ [x] = K.take k ++ (K.drop k ++ [x]) := by rw [← List.append_assoc, List.take_append_drop]
  rw [e]
  refine (Stab.refl _).app ?_
  exact stab_swap swo_less (U := K.drop k) (V := [x]) fun u hu v hv => by
    rw [List.mem_singleton] at hv
    rw [hv]
    exact h u hu
theorem Above.ord {K : List Hd} {k : Nat} {x : Hd} (h : Above K k x) (hO : Ord lessH K) (hs : k = 0 ∨ ∃ y, K[k - 1]? = some y ∧ lessH x y = false) : Ord lessH (insAt K k x) := by
  have e : K = K.take k ++ K.drop k := (List.take_append_drop k K).symm
  unfold Ord at hO ⊢
  rw [e] at hO
  obtain ⟨o1, o2, o3⟩ := List.pairwise_append.1 hO
  unfold insAt
  refine List.pairwise_append.2 ⟨o1, List.pairwise_cons.2 ⟨fun t ht => swo_asymm swo_less (h t ht), o2⟩, fun a ha b hb => ?_⟩
  rcases List.mem_cons.1 hb with rfl | hb
  · rcases hs with rfl | ⟨y, hy, hl⟩
    · simp at ha
    · obtain ⟨i, hi⟩ := List.getElem?_of_mem ha
      have hil := (List.getElem?_eq_some_iff.1 hi).1
      rw [List.length_take] at hil
      rw [List.getElem?_take_of_lt (by omega)] at hi
      have hyl := (List.getElem?_eq_some_iff.1 hy).1
      by_cases hik : i = k - 1
      · subst hik
        rw [hi] at hy
        injection hy with hy
        rw [hy]
        exact hl
      · have h3 : lessH y a = false := by
          have hO2 : Ord lessH K := by
            unfold Ord
            rw [e]
            exact hO
          have := List.pairwise_iff_getElem.1 hO2 i (k - 1) (by omega) hyl (by omega)
          rwa [(List.getElem?_eq_some_iff.1 hi).2, (List.getElem?_eq_some_iff.1 hy).2] at this
        exact swo_less.ntrans _ y _ hl h3
  · exact o3 a ha b hb
/-- What the reference's Heads answers. -/
def HeadsQ (S : List La) (w : World) (e : Ending) (w' : World) : Prop :=
  ∃ (A : Option Addr) (m c : Nat) (K : List Hd), e = .returned (.slice A m c) ∧ Below w.heap.size w w' ∧ w'.ownsRow w.heap.size 43 7 (.slice A m c) m (cellsBy encHd K) ∧ Ord lessH K ∧ Stab lessH (toldL S) K
theorem las_head {w : World} {b p : Nat} {x : La} {A A' : Option Addr} {n c n' c' : Nat} (h : w.rangeAt b p [.int .i64 x.h.age, .int .i64 x.h.kind, .int .i64 x.h.id, .int .i64 x.h.adv, .int .i64 x.h.seq, .int .i64 x.h.sum, .int .i64 x.h.long, .slice A n c, .slice A' n' c']) : w.rangeAt b p [.int .i64 x.h.age, .int .i64 x.h.kind, .int .i64 x.h.id, .int .i64 x.h.adv, .int .i64 x.h.seq, .int .i64 x.h.sum, .int .i64 x.h.long] := fun j v hj => by
  have hl := (List.getElem?_eq_some_iff.1 hj).1
  refine h j v ?_
  rw [← hj, ← List.getElem?_append_left (l₂ := [.slice A n c, .slice A' n' c']) hl]
  rfl
theorem item_range {w : World} {base n c j : Nat} {g : Nat} {L : List Hd} {x : Hd} (h : w.ownsRow base 43 7 (.slice (some ⟨g, 0, none⟩) n c) n (cellsBy encHd L)) (hj : L[j]? = some x) : w.rangeAt g (j * 7) [.int .i64 x.age, .int .i64 x.kind, .int .i64 x.id, .int .i64 x.adv, .int .i64 x.seq, .int .i64 x.sum, .int .i64 x.long] := fun i v hv => by
  have hi := (List.getElem?_eq_some_iff.1 hv).1
  obtain ⟨g', e, -, -, -, -, hc⟩ := own_item encHd_len (by omega) h hj
  injection e with e
  injection e with e
  subst e
  rw [hc i (by simpa using hi)]
  exact hv
set_option maxRecDepth 20000 in
set_option maxHeartbeats 16000000 in
theorem heads_any {w : World} {A : Option Addr} {n c : Nat} {S : List La} {B : Nat} (hS : Las w B A n S) (hB : B ≤ w.heap.size) (hn : n ≤ 100) : Calls Try.prog 14 #[.slice A n c] w (HeadsQ S w) := by
  generalize hQ : HeadsQ S w = Q
  have HQ := Lib.hid hQ
  have HS := Lib.hid hS
  have O0 := Lib.hid (World.ownsRow_nil w w.heap.size 43 7)
  have B0 := Lib.hid (Below.refl w.heap.size w)
  generalize hbm : w.heap.size = bm at *
  have HBM := Lib.hid hbm
  clear hQ hS hbm
  have mixed : Try.prog.follows .mixedOrders = true := by kernel_rfl
  go_enter Try.func14, Try.ntmps14
  go_wp2_with fail
  go_loopw [3, 4] (fun s3 s4 wr => ∃ (k m c' : Nat) (A' : Option Addr) (K : List Hd), s4 = .int .i64 k ∧ s3 = .slice A' m c' ∧ k ≤ n ∧ m ≤ k ∧ Hid (wr.ownsRow bm 43 7 (.slice A' m c') m (cellsBy encHd K)) ∧ Hid (Ord lessH K) ∧ Hid (Stab lessH (toldL (S.take k)) K) ∧ Hid (Below bm w wr)) (fun _ s4 _ => n - (intOf s4).toNat)
  case atStart => exact ⟨0, 0, 0, none, [], rfl, rfl, Nat.zero_le _, Nat.le_refl _, Lib.hid (by simpa [cellsBy] using O0.out), Lib.hid List.Pairwise.nil, Lib.hid (Stab.refl _), B0⟩
  case round =>
    clear O0 B0
    obtain ⟨k, m, c', A', K, rfl, rfl, hk, hmk, OW, OO, OS, BW⟩ := hrel
    by_cases hlt : k < n
    · have hlt' : (k : Int) < (n : Int) := by omega
      obtain ⟨b, o, x, A1, n1, c1, A2, n2, c2, rfl, hb, hx, hr, -, -, -, -⟩ := las_item (HS.out.below (BW.out.mono (by rw [HBM.out] at *; exact hB))) hlt
      have HR := Lib.hid (las_head hr)
      have HX := Lib.hid hx
      have hz : bm ≤ wr.heap.size := by have := BW.out.size; have := HBM.out; omega
      have x0 : wr.cell? ⟨b, o + k * 9, none⟩ = some (.int .i64 x.h.age) := hr 0 _ rfl
      have HT := Lib.hid (toldL_snoc (S.take k) x)
      rw [← take_snocA S k x HX.out] at HT
      clear hr hx HX
      cases hg : goneB x
      · have HT2 := Lib.hid (show toldL (S.take (k + 1)) = toldL (S.take k) ++ [x.h] by
          have := HT.out
          rwa [hg, if_neg (by decide)] at this)
        have d60 : (x.h.age == 60) = false := hg
        clear HT hg
        go_wp2_with (first | refine wpList_load_row 43 _ _ (by rfl) (.tmp 24) rfl (by rfl) HR.out Try.underlying43 rfl (by kernel_rfl) ?_ | (at_builtin; refine wpList_app_hd rfl (.tmp 20) (.tmp 26) rfl x.h (by rfl) (by rfl) OW.out (by omega) hz ?_; intro A3 c3 w3 HO3 HB3))
        have hKm := own_lenH encHd_len (by omega) OW.out
        have B3 := Lib.hid (BW.out.trans HB3.out)
        have O3 := Lib.hid (show w3.ownsRow bm 43 7 (.slice A3 (m + 1) c3) (m + 1) (cellsBy encHd (insAt K m x.h)) by rw [← hKm, insAt_end, hKm]; exact HO3.out)
        have AB := Lib.hid (show Above K m x.h by rw [← hKm]; exact Above.end_ K x.h)
        have HKM := Lib.hid hKm
        obtain ⟨y, hy⟩ : ∃ y, y = x.h := ⟨_, rfl⟩
        rw [← hy] at O3 AB HT2
        clear HO3 HB3 OW BW HR x0 d60 hz hKm hy
        obtain ⟨M, hM⟩ : ∃ M, M = m + 1 := ⟨_, rfl⟩
        rw [← hM] at O3 ⊢
        have eM : (M : Int) - 1 = (m : Int) := by omega
        have w_m : IntKind.i64.wrap (m : Int) = (m : Int) := by rw [IntKind.wrap_i64]; omega
        have hMm : M ≤ k + 1 := by omega
        have hmM : m < M := by omega
        clear hM
        go_wp2_with fail
        go_loopw [5] (fun s5 wi => ∃ j : Nat, s5 = .int .i64 j ∧ j ≤ m ∧ Hid (wi.ownsRow bm 43 7 (.slice A3 M c3) M (cellsBy encHd (insAt K j y))) ∧ Hid (Above K j y) ∧ Hid (Below bm w wi)) (fun s5 _ => (intOf s5).toNat)
        case atStart => exact ⟨m, by first | rfl | go_num, Nat.le_refl _, O3, AB, B3⟩
        case round =>
          clear O3 AB B3 eM w_m
          obtain ⟨j, rfl, hj, OI, AI, BI⟩ := hrel
          by_cases h0 : j = 0
          · subst h0
            have d0 : decide ((0 : Int) < ((0 : Nat) : Int)) = false := by simp
            have B4 := Lib.hid (fun q => BI.out.trans (⟨rfl, rfl, rfl, Nat.le_refl _, fun _ _ => rfl⟩ : Below bm wr (wr.drewN q)))
            have O4 := Lib.hid (fun q => own_chg OI.out (Chg.of_below (F := fun _ => False) (⟨rfl, rfl, rfl, Nat.le_refl _, fun _ _ => rfl⟩ : Below wr.heap.size wr (wr.drewN q))) (fun _ _ hf => hf))
            have OO4 := Lib.hid (AI.out.ord OO.out (.inl rfl))
            have OS4 := Lib.hid (show Stab lessH (toldL (S.take (k + 1))) (insAt K 0 y) by rw [HT2.out]; exact (OS.out.app (Stab.refl [y])).trans AI.out.stab)
            go_wp2_with fail
            go_quiet (fail)
            clear OI BI AI OO OS HT2
            go_wp2
            go_roundw
            case rel => exact ⟨k + 1, M, c3, A3, _, by go_num, by first | rfl | go_num, by omega, by omega, Lib.hid (O4.out nq), OO4, OS4, Lib.hid (B4.out nq)⟩
            case measure => simp [intOf]; omega
          · obtain ⟨i, hi⟩ : ∃ i, j = i + 1 := ⟨j - 1, by omega⟩
            have d0 : decide (0 < j) = true := by simp; omega
            have hiK : i < K.length := by have := HKM.out; omega
            obtain ⟨z, hz⟩ : ∃ z, K[i]? = some z := ⟨_, List.getElem?_eq_getElem hiK⟩
            have hyj := insAt_at K j y (by omega)
            have hzi := insAt_before K j i y z (by omega) hz
            obtain ⟨g, rfl, hgb, hgl, hMc, hcm, haty⟩ := own_item encHd_len (by omega) OI.out hyj
            obtain ⟨g2, e2, -, -, -, -, hatz⟩ := own_item encHd_len (by omega) OI.out hzi
            injection e2 with e2
            injection e2 with e2
            subst e2
            unfold maxLen at hcm
            have e1 : (j : Int) - 1 = (i : Int) := by omega
            have w_i : IntKind.i64.wrap (i : Int) = (i : Int) := by rw [IntKind.wrap_i64]; omega
            have j_u : (j : Int) < (M : Int) := by omega
            have i_u : (i : Int) < (M : Int) := by omega
            have hjM : j < M := by omega
            have hiM : i < M := by omega
            have a0 : wr.cell? ⟨g, j * 7, none⟩ = some (.int .i64 y.age) := haty 0 (by omega)
            have a1 : wr.cell? ⟨g, j * 7 + 1, none⟩ = some (.int .i64 y.kind) := haty 1 (by omega)
            have a2 : wr.cell? ⟨g, j * 7 + 2, none⟩ = some (.int .i64 y.id) := haty 2 (by omega)
            have a3 : wr.cell? ⟨g, j * 7 + 3, none⟩ = some (.int .i64 y.adv) := haty 3 (by omega)
            have a4 : wr.cell? ⟨g, j * 7 + 4, none⟩ = some (.int .i64 y.seq) := haty 4 (by omega)
            have a5 : wr.cell? ⟨g, j * 7 + 5, none⟩ = some (.int .i64 y.sum) := haty 5 (by omega)
            have a6 : wr.cell? ⟨g, j * 7 + 6, none⟩ = some (.int .i64 y.long) := haty 6 (by omega)
            have b0 : wr.cell? ⟨g, i * 7, none⟩ = some (.int .i64 z.age) := hatz 0 (by omega)
            have b1 : wr.cell? ⟨g, i * 7 + 1, none⟩ = some (.int .i64 z.kind) := hatz 1 (by omega)
            have b2 : wr.cell? ⟨g, i * 7 + 2, none⟩ = some (.int .i64 z.id) := hatz 2 (by omega)
            have b3 : wr.cell? ⟨g, i * 7 + 3, none⟩ = some (.int .i64 z.adv) := hatz 3 (by omega)
            have b4 : wr.cell? ⟨g, i * 7 + 4, none⟩ = some (.int .i64 z.seq) := hatz 4 (by omega)
            have b5 : wr.cell? ⟨g, i * 7 + 5, none⟩ = some (.int .i64 z.sum) := hatz 5 (by omega)
            have b6 : wr.cell? ⟨g, i * 7 + 6, none⟩ = some (.int .i64 z.long) := hatz 6 (by omega)
            clear haty hatz hyj hzi
            have ga0 := fun n os => cell_grown (n := n) (os := os) hgl a0
            have ga1 := fun n os => cell_grown (n := n) (os := os) hgl a1
            have ga2 := fun n os => cell_grown (n := n) (os := os) hgl a2
            have ga3 := fun n os => cell_grown (n := n) (os := os) hgl a3
            have ga4 := fun n os => cell_grown (n := n) (os := os) hgl a4
            have ga5 := fun n os => cell_grown (n := n) (os := os) hgl a5
            have ga6 := fun n os => cell_grown (n := n) (os := os) hgl a6
            have gb0 := fun n os => cell_grown (n := n) (os := os) hgl b0
            have gb1 := fun n os => cell_grown (n := n) (os := os) hgl b1
            have gb2 := fun n os => cell_grown (n := n) (os := os) hgl b2
            have gb3 := fun n os => cell_grown (n := n) (os := os) hgl b3
            have gb4 := fun n os => cell_grown (n := n) (os := os) hgl b4
            have gb5 := fun n os => cell_grown (n := n) (os := os) hgl b5
            have gb6 := fun n os => cell_grown (n := n) (os := os) hgl b6
            clear a0 a1 a2 a3 a4 a5 a6 b0 b1 b2 b3 b4 b5 b6
            have p1 := fun n os => Calls.grown_of (key13_grown y (grow (wr.drewN n) os))
            have p2 := fun n os => Calls.grown_of (key13_grown z (grow (wr.drewN n) os))
            have p3 := fun n os => Calls.grown_of (less_grown (keyH y) (keyH z) (grow (wr.drewN n) os))
            unfold keyH at p3
            dsimp only at p3
            rw [show lessKy ⟨y.kind, y.id, y.adv⟩ ⟨z.kind, z.id, z.adv⟩ = lessH y z from rfl] at p3
            obtain ⟨v, hv⟩ : ∃ v, lessH y z = v := ⟨_, rfl⟩
            rw [hv] at p3
            have HV := Lib.hid hv
            have HZ := Lib.hid hz
            have HJ := Lib.hid hi
            have hgr : ∀ n os, Below wr.heap.size wr (grow (wr.drewN n) os) := fun n os => below_grown13 ⟨n, os, rfl⟩
            have B4 := Lib.hid (fun n os => BI.out.trans ((hgr n os).mono (by have := BI.out.size; have := HBM.out; omega)))
            have O4 := Lib.hid (fun n os => own_chg OI.out (Chg.of_below (F := fun _ => False) (hgr n os)) (fun _ _ hf => hf))
            clear hv hz hi hiK OI BI h0 hgr
            go_wp2_with fail
            go_quiet_grown (first | (go_at_call 45; first | with_reducible exact p1 _ _ | with_reducible exact p2 _ _) | (go_at_call 44; with_reducible exact p3 _ _))
            clear p1 p2 p3 ga0 ga1 ga2 ga3 ga4 ga5 ga6 gb0 gb1 gb2 gb3 gb4 gb5 gb6
            have O5 := Lib.hid (O4.out nq osq)
            have B5 := Lib.hid (B4.out nq osq)
            clear O4 B4
            generalize grow (wr.drewN nq) osq = w0 at *
            cases v
            · have OO4 := Lib.hid (AI.out.ord OO.out (.inr ⟨z, by rw [HJ.out, Nat.add_sub_cancel]; exact HZ.out, HV.out⟩))
              have OS4 := Lib.hid (show Stab lessH (toldL (S.take (k + 1))) (insAt K j y) by rw [HT2.out]; exact (OS.out.app (Stab.refl [y])).trans AI.out.stab)
              clear AI OO OS HT2 HJ HV HZ
              go_wp2
              go_roundw
              case rel => exact ⟨k + 1, M, c3, _, _, by go_num, by first | rfl | go_num, by omega, by omega, O5, OO4, OS4, B5⟩
              case measure => simp [intOf]; omega
            · have hzi2 := Lib.hid (insAt_before K j i y z (by have := HJ.out; omega) HZ.out)
              have hyj2 := Lib.hid (insAt_at K j y (by have := HKM.out; omega))
              have AI2 := Lib.hid (show Above K i y by
                have := AI.out
                rw [HJ.out] at this
                exact this.step HZ.out HV.out)
              have SW := Lib.hid (show ((insAt K j y).set j z).set i y = insAt K i y by
                rw [HJ.out]
                exact insAt_swap K i y z HZ.out)
              have hz5 : bm ≤ w0.heap.size := by have := B5.out.size; have := HBM.out; omega
              have RY := Lib.hid (item_range O5.out hyj2.out)
              have O6 := Lib.hid (O5.out.alloc (.cells #[.int .i64 y.age, .int .i64 y.kind, .int .i64 y.id, .int .i64 y.adv, .int .i64 y.seq, .int .i64 y.sum, .int .i64 y.long] 43))
              have B6 := Lib.hid (B5.out.alloc hz5 (.cells #[.int .i64 y.age, .int .i64 y.kind, .int .i64 y.id, .int .i64 y.adv, .int .i64 y.seq, .int .i64 y.sum, .int .i64 y.long] 43))
              have K6 := Lib.hid (Blk.new w0 43 #[.int .i64 y.age, .int .i64 y.kind, .int .i64 y.id, .int .i64 y.adv, .int .i64 y.seq, .int .i64 y.sum, .int .i64 y.long])
              have RZ := Lib.hid (item_range O6.out hzi2.out)
              have NG := Lib.hid (show w0.heap.size ≠ g from by
                have := O5.out.2
                intro e
                rcases this with ⟨hv, _⟩ | ⟨g', cap, cur, hv, hb', hg', -⟩
                · cases hv
                · cases hv
                  have := (Array.getElem?_eq_some_iff.1 hg').1
                  omega)
              clear AI hzi2 hyj2 HZ HV
              go_wp2_with (first
                | refine wpList_load_row 43 _ _ (by rfl) (.tmp 51) rfl (by rfl) RY.out Try.underlying43 rfl (by kernel_rfl) ?_
                | refine wpList_load_row 43 _ _ (by rfl) (.tmp 58) rfl (by rfl) RZ.out Try.underlying43 rfl (by kernel_rfl) ?_
                | (refine wpList_over_hd z rfl (.tmp 60) (.tmp 59) rfl (by rfl) (by rfl) O6.out hjM ?_; intro w7 HO7 HC7; have K7 := Lib.hid (K6.out.chg HC7.out NG.out); have R7 := Lib.hid (show w7.rangeAt w0.heap.size 0 [.int .i64 y.age, .int .i64 y.kind, .int .i64 y.id, .int .i64 y.adv, .int .i64 y.seq, .int .i64 y.sum, .int .i64 y.long] from blk_range7 K7.out))
                | refine wpList_load_row 43 _ _ (by rfl) (.tmp 6) rfl (by rfl) R7.out Try.underlying43 rfl (by kernel_rfl) ?_
                | (refine wpList_over_hd y rfl (.tmp 65) (.tmp 64) rfl (by rfl) (by rfl) HO7.out hiM ?_; intro w8 HO8 HC8))
              have O8 := Lib.hid (show w8.ownsRow bm 43 7 (.slice (some ⟨g, 0, none⟩) M c3) M (cellsBy encHd (insAt K i y)) by rw [← SW.out]; exact HO8.out)
              have B8 := Lib.hid ((B6.out.trans (HC7.out.to_below (fun t ht => by rw [ht]; exact hgb) (Nat.le_trans hz5 (by simp)))).trans (HC8.out.to_below (fun t ht => by rw [ht]; exact hgb) (Nat.le_trans (Nat.le_trans hz5 (by simp)) HC7.out.size)))
              clear HO7 HC7 HO8 HC8 K6 K7 R7 RY RZ O6 O5 B5 B6 SW NG HJ hz5
              go_wp2
              go_roundw
              case rel => exact ⟨i, by go_num, by omega, O8, AI2, B8⟩
              case measure => simp [intOf]; omega
      · have HT2 := Lib.hid (show toldL (S.take (k + 1)) = toldL (S.take k) by
          have := HT.out
          rwa [hg, if_pos rfl] at this)
        have d60 : (x.h.age == 60) = true := hg
        have OS2 := Lib.hid (show Stab lessH (toldL (S.take (k + 1))) K by rw [HT2.out]; exact OS.out)
        clear HT hg HT2 OS HR
        go_wp2
        go_roundw
        case rel => exact ⟨k + 1, m, c', A', K, by go_num, rfl, by omega, by omega, OW, OO, OS2, BW⟩
        case measure => simp [intOf]; omega
    · have hlt' : ¬ (k : Int) < (n : Int) := by omega
      have HT := Lib.hid (show toldL (S.take k) = toldL S by
        rw [List.take_of_length_le (by have := HS.out.1; omega)])
      rw [HT.out] at OS
      go_wp2
      show Q (.returned (.slice A' m c')) wr
      rw [← HQ.out]
      exact ⟨A', m, c', K, rfl, by rw [HBM.out]; exact BW.out, by rw [HBM.out]; exact OW.out, OO.out, OS.out⟩
end Go.Proofs.Ytfdfdmbnggpnbaa
namespace Go.Proofs.Ytfdfdmbnggpnbaa
open Go.RowKit Go.Lib Go.Sort Go.Deep

theorem keepS {w0 w' : World} (hb : Below w0.heap.size w0 w') : Below w0.heap.size w0 w' ∧ (∀ b o, b < w0.heap.size → w'.cell? ⟨b, o, none⟩ = w0.cell? ⟨b, o, none⟩) :=
  ⟨hb, fun b o h => hb.cell (p := ⟨b, o, none⟩) h⟩
end Go.Proofs.Ytfdfdmbnggpnbaa
namespace Go.Proofs.Ytfdfdmbnggpnbaa
open Go.RowKit Go.Lib Go.Sort Go.Deep

theorem own_hds {w : World} {base n c : Nat} {A : Option Addr} {L : List Hd} (h : w.ownsRow base 43 7 (.slice A n c) n (cellsBy encHd L)) : Hds w w.heap.size A n L := by
  have hl := own_lenH encHd_len (by omega) h
  refine ⟨hl, fun hn => ?_⟩
  obtain ⟨x, hx⟩ : ∃ x, L[0]? = some x := ⟨_, List.getElem?_eq_getElem (by omega)⟩
  obtain ⟨g, rfl, -, hgl, -⟩ := own_item encHd_len (by omega) h hx
  refine ⟨g, 0, rfl, hgl, fun j y hy => ?_⟩
  have hr := item_range h hy
  rw [Nat.zero_add]
  exact HdAt.of_range hr
theorem Hds.part {w : World} {B n c k e : Nat} {A : Option Addr} {L : List Hd} (h : Hds w B A n L) (hk : k ≤ e) (he : e ≤ n) (hc : n ≤ c) : Hds w B (if c = k then A else Option.map (fun x => x.add (k * 7)) A) (e - k) ((L.drop k).take (e - k)) := by
  have hl := h.1
  refine ⟨by rw [List.length_take, List.length_drop]; omega, fun h0 => ?_⟩
  obtain ⟨b, o, rfl, hb, hat⟩ := h.2 (by omega)
  rw [if_neg (by omega)]
  refine ⟨b, o + k * 7, by rw [Option.map_some, addr_add], hb, fun j x hx => ?_⟩
  have hj := (List.getElem?_eq_some_iff.1 hx).1
  rw [List.length_take] at hj
  rw [List.getElem?_take_of_lt (by omega), List.getElem?_drop] at hx
  have := hat _ x hx
  rwa [show o + (k + j) * 7 = o + k * 7 + j * 7 by omega] at this
theorem same13_yes {w : World} {A A' : Option Addr} {n c n' c' B B' : Nat} {L L' : List Hd} (hL : Hds w B A n L) (hL' : Hds w B' A' n' L') (hB : B ≤ w.heap.size) (hB' : B' ≤ w.heap.size) (hn : n ≤ 1000) (hn' : n' ≤ 1000) (e : L = L') :
    Calls Try.prog 15 #[.slice A n c, .slice A' n' c'] w fun e w' => e = .returned (.bool true) ∧ ∃ q, w' = w.drewN q := by
  have := same13_any hL hL' hB hB' hn hn' (c := c) (c' := c')
  rwa [decide_eq_true e] at this
theorem own_base_le {w : World} {base n size q : Nat} {t : TypeId} {v : Value} {xs : List Value} (h : w.ownsRow base t size v n xs) (hq : v.ownBlock = some q) : base ≤ q := by
  rcases h.2 with ⟨hv, _⟩ | ⟨g, cap, cur, hv, hb, hg, -⟩
  · subst hv
    cases hq
  · subst hv
    have h2 : some g = some q := hq
    injection h2 with h2
    omega
end Go.Proofs.Ytfdfdmbnggpnbaa
namespace Go.Proofs.Ytfdfdmbnggpnbaa
open Go.RowKit Go.Lib Go.Sort Go.Deep

/-- What Hear leaves: what came of the piece, and the exchange behind it. -/
def HearQ (F : Nat → Prop) (p : Nat) (r : Int × Ex) (w : World) (e : Ending) (w' : World) : Prop := e = .returned (.int .i64 r.1) ∧ ExAt w' (Fp F w w') p r.2 ∧ Chg F w w'
theorem Blk.five {w : World} {g : Nat} {t : TypeId} {a0 a1 a2 a3 a4 : Value} (h : Blk w g t #[a0, a1, a2, a3, a4]) : w.cell? ⟨g, 0, none⟩ = some a0 ∧ w.cell? ⟨g, 1, none⟩ = some a1 ∧ w.cell? ⟨g, 2, none⟩ = some a2 ∧ w.cell? ⟨g, 3, none⟩ = some a3 ∧ w.cell? ⟨g, 4, none⟩ = some a4 := ⟨h.cell 0, h.cell 1, h.cell 2, h.cell 3, h.cell 4⟩
section
variable {w : World} {F : Nat → Prop} {p : Nat} {x : Ex}
set_option maxRecDepth 8000 in
set_option maxHeartbeats 8000000 in
theorem hearX (pc : Pc) {Ah : Option Addr} {nh ch : Nat} {A : Option Addr} {n c B : Nat} {S : List La} {K : List Hd} (h0 : -9223372036854775808 ≤ pc.seq) (h1 : pc.seq ≤ 9223372036854775807) (hx : ExAt w F p x) (hFw : ∀ q, F q → q < w.heap.size)
    (hS : Las w B A n S) (hBw : B ≤ w.heap.size) (hFB : ∀ q, F q → B ≤ q) (hn : n ≤ 100) (hK : Told S K) :
    Calls Try.prog 30 #[.pointer (some ⟨p, 0, none⟩), .agg #[.bool pc.init, .bool pc.more, .bool pc.master, .int .i64 pc.seq, .slice Ah nh ch], .slice A n c] w (HearQ F p (hearE x pc nh K) w) := by
  generalize hQ : HearQ F p (hearE x pc nh K) w = Q
  have HQ := Lib.hid hQ
  have HF := Lib.hid hx.fp
  have HFW := Lib.hid hFw
  have HFB := Lib.hid hFB
  have HS := Lib.hid hS
  have HK := Lib.hid hK
  have HBW := Lib.hid hBw
  have B0 := (Below.refl w.heap.size w).alloc (Nat.le_refl _) (.cells #[.bool pc.init, .bool pc.more, .bool pc.master, .int .i64 pc.seq, .slice Ah nh ch] 53)
  have B1 := Lib.hid (B0.alloc (by simp) (.cells #[.int .i64 pc.seq] 3))
  have N1 := Lib.hid ((Blk.new w 53 #[.bool pc.init, .bool pc.more, .bool pc.master, .int .i64 pc.seq, .slice Ah nh ch]).alloc (.cells #[.int .i64 pc.seq] 3))
  have X1 := Lib.hid (hx.below B1.out)
  obtain ⟨n0, n1, n2, n3, n4⟩ := (Blk.new w 53 #[.bool pc.init, .bool pc.more, .bool pc.master, .int .i64 pc.seq, .slice Ah nh ch]).five
  have hnl := (Blk.new w 53 #[.bool pc.init, .bool pc.more, .bool pc.master, .int .i64 pc.seq, .slice Ah nh ch]).lt
  clear hQ hFw hFB hS hK hBw hx B0
  go_enter Try.func30, Try.ntmps30
  go_wp2_with fail
  refine (fits_one pc.seq _ _ (by simp) h0 h1).mono ?_
  rintro e1 w1 ⟨rfl, h2⟩
  rw [h2]
  clear h2 w1 n0 n1 n2 n3 n4 hnl h0 h1
  generalize (w.alloc (.cells #[.bool pc.init, .bool pc.more, .bool pc.master, .int .i64 pc.seq, .slice Ah nh ch] 53)).alloc (.cells #[.int .i64 pc.seq] 3) = w1 at *
  obtain ⟨z, hz⟩ : ∃ z, w.heap.size = z := ⟨_, rfl⟩
  rw [hz] at N1 ⊢
  have HZ := Lib.hid hz
  clear hz
  cases hok : okSeq pc.seq
  · have HE := Lib.hid (show hearE x pc nh K = (0, x) by
      unfold hearE
      rw [if_pos hok])
    clear hok
    go_wp2
    show Q (.returned (.int .i64 0)) _
    rw [← HQ.out, HE.out]
    exact ⟨rfl, X1.out.wide (fun q hq => .inl hq), Chg.of_below B1.out⟩
  have HOK := Lib.hid hok
  have hwr : IntKind.u32.wrap pc.seq = pc.seq := by
    have := (okSeq_iff _).1 hok
    rw [IntKind.wrap_u32]
    omega
  clear hok
  obtain ⟨n0, n1, n2, n3, n4⟩ := N1.out.five
  have hnl := N1.out.lt
  have hnz : w.heap.size ≤ w1.heap.size := B1.out.size
  have K2 := Blk.new w1 106 #[.bool false, .bool false, .bool false, .int .u32 0]
  have hup : ((B1.out.size : w.heap.size ≤ w1.heap.size) = hnz) := rfl
  clear hup
  cases hag : x.agreed
  · go_wp2_with (first | refine wpList_load_row 106 _ _ (by rfl) (.tmp 7) rfl (by rfl) R2 Try.underlying106 rfl (by kernel_rfl) ?_ | (refine wpList_store_in 106 [] [.bool false, .bool false, .bool false, .int .u32 0] [] [.bool pc.init, .bool pc.more, .bool pc.master, .int .u32 pc.seq] rfl (.tmp 7) (.tmp 26) rfl rfl rfl K2 rfl (by kernel_rfl) (pc_ones _ _ _ _) ?_; intro w2 HK2 HC2; have X2 := Lib.hid ((X1.out.below ((Below.refl w1.heap.size w1).alloc (Nat.le_refl _) _)).chg (F' := fun k => k = w1.heap.size) HC2.out (fun q hq e => by have := HFW.out q hq; have := HZ.out; omega)); have N2 := Lib.hid ((N1.out.alloc _).chg HC2.out (by omega)); have B2 := Lib.hid (B1.out.trans ((((Below.refl w1.heap.size w1).alloc (Nat.le_refl _) _).trans (HC2.out.to_below (fun k hk => by rw [hk]; exact Nat.le_refl _) (by simp))).mono hnz)); obtain ⟨hh, hhB, hhh⟩ := X2.out.mem; have c3 : w2.cell? ⟨p, 3, none⟩ = some (.bool x.agreed) := hhB.cell 3; rw [hag] at c3; have hpl := hhB.lt; obtain ⟨m0, m1, m2, m3⟩ := HK2.out.four; have hml := HK2.out.lt; have R2 : w2.rangeAt w1.heap.size 0 [.bool pc.init, .bool pc.more, .bool pc.master, .int .u32 pc.seq] := fun j v hv => (by rw [Nat.zero_add, HK2.out.cell, ← hv]; simp); obtain ⟨n0, n1, n2, n3, n4⟩ := N2.out.five; have hnl := N2.out.lt))
    refine (agreesX (x := x) pc nh hhB).mono ?_
    rintro e3 w3 ⟨rfl, hb3⟩
    have X3 := Lib.hid (X2.out.below hb3)
    have K3 := Lib.hid (HK2.out.below hb3 hml)
    have B3 := Lib.hid (B2.out.trans (hb3.mono B2.out.size))
    clear hb3 X2 N2 B2 hh hhB hhh c3 hpl m0 m1 m2 m3 hml R2 n0 n1 n2 n3 n4 hnl HK2 HC2 K2
    clear X1 N1 B1
    cases hg : agreesE x pc nh
    · have HE := Lib.hid (show hearE x pc nh K = (0, x) by
        unfold hearE
        rw [if_neg (by rw [HOK.out]; decide), if_pos hag, if_neg (by rw [hg]; decide)])
      obtain ⟨hh, hhB, hhh⟩ := X3.out.mem
      have c3 : w3.cell? ⟨p, 3, none⟩ = some (.bool x.agreed) := hhB.cell 3
      rw [hag] at c3
      have hpl := hhB.lt
      clear hg hag
      go_wp2
      show Q (.returned (.int .i64 0)) _
      rw [← HQ.out, HE.out]
      exact ⟨rfl, X3.out.wide (fun q hq => .inl hq), Chg.of_below B3.out⟩
    · have HE := Lib.hid (show hearE x pc nh K = (2, beginE x pc K) by
        unfold hearE
        rw [if_neg (by rw [HOK.out]; decide), if_pos hag, if_pos hg])
      have R3 := Lib.hid (show w3.rangeAt w1.heap.size 0 [.bool pc.init, .bool pc.more, .bool pc.master, .int .u32 pc.seq] from fun j v hv => by
        rw [Nat.zero_add, K3.out.cell, ← hv]
        simp)
      clear hg hag K3
      go_wp2_with (refine wpList_load_row 106 _ _ (by rfl) (.tmp 7) rfl (by rfl) R3.out Try.underlying106 rfl (by kernel_rfl) ?_)
      refine (beginX pc HOK.out X3.out (HS.out.below (B3.out.mono HBW.out)) (Nat.le_trans HBW.out B3.out.size) HFB.out hn HK.out).mono ?_
      rintro e4 w4 ⟨rfl, hx4, hc4⟩
      go_wp2
      show Q (.returned (.int .i64 2)) _
      rw [← HQ.out, HE.out]
      refine ⟨rfl, hx4.wide (fun q hq => ?_), (Chg.of_below B3.out).trans hc4 (fun q hq => .inl hq)⟩
      rcases hq with hq | hq
      · exact .inl hq
      · exact .inr ⟨Nat.le_trans B3.out.size hq.1, hq.2⟩
  · have eP := fun W => equalPc pc x.took W
    by_cases hpt : pc = x.took
    · rw [decide_eq_true hpt] at eP
      cases hld : x.leads
      · have HE := Lib.hid (show hearE x pc nh K = (1, x) by
          unfold hearE
          rw [if_neg (by rw [HOK.out]; decide), if_neg (by rw [hag]; decide), if_pos hpt, if_neg (by rw [hld]; decide)])
        clear hpt
        go_wp2_with (refine wpList_store_in 106 [] [.bool false, .bool false, .bool false, .int .u32 0] [] [.bool pc.init, .bool pc.more, .bool pc.master, .int .u32 pc.seq] rfl (.tmp 7) (.tmp 26) rfl rfl rfl K2 rfl (by kernel_rfl) (pc_ones _ _ _ _) ?_; intro w2 HK2 HC2; have X2 := Lib.hid ((X1.out.below ((Below.refl w1.heap.size w1).alloc (Nat.le_refl _) _)).chg (F' := fun k => k = w1.heap.size) HC2.out (fun q hq e => by have := HFW.out q hq; have := HZ.out; omega)); have N2 := Lib.hid ((N1.out.alloc _).chg HC2.out (by omega)); have B2 := Lib.hid (B1.out.trans ((((Below.refl w1.heap.size w1).alloc (Nat.le_refl _) _).trans (HC2.out.to_below (fun k hk => by rw [hk]; exact Nat.le_refl _) (by simp))).mono hnz)); obtain ⟨hh, hhB, hhh⟩ := X2.out.mem; have c3 : w2.cell? ⟨p, 3, none⟩ = some (.bool x.agreed) := hhB.cell 3; rw [hag] at c3; have hpl := hhB.lt; obtain ⟨m0, m1, m2, m3⟩ := HK2.out.four; have hml := HK2.out.lt; have R2 : w2.rangeAt w1.heap.size 0 [.bool pc.init, .bool pc.more, .bool pc.master, .int .u32 pc.seq] := fun j v hv => (by rw [Nat.zero_add, HK2.out.cell, ← hv]; simp); obtain ⟨n0, n1, n2, n3, n4⟩ := N2.out.five; have hnl := N2.out.lt; have c4 : w2.cell? ⟨p, 4, none⟩ = some (.bool x.leads) := hhB.cell 4; rw [hld] at c4; have p6 : w2.cell? ⟨p, 6, none⟩ = some (.bool x.took.init) := hhB.cell 6; have p7 : w2.cell? ⟨p, 7, none⟩ = some (.bool x.took.more) := hhB.cell 7; have p8 : w2.cell? ⟨p, 8, none⟩ = some (.bool x.took.master) := hhB.cell 8; have p9 : w2.cell? ⟨p, 9, none⟩ = some (.int .u32 x.took.seq) := hhB.cell 9)
        go_quiet (fail)
        go_wp2_with fail
        have c3d := c3
        go_quiet (fail)
        go_wp2
        show Q (.returned (.int .i64 1)) _
        rw [← HQ.out, HE.out]
        exact ⟨rfl, (X2.out.drewN _).drewN _ |>.wide (fun q hq => .inl hq), (Chg.of_below B2.out).trans ⟨rfl, rfl, rfl, Nat.le_refl _, fun _ _ _ => rfl⟩ (fun q hq => .inl hq)⟩
      · have HE := Lib.hid (show hearE x pc nh K = (0, x) by
          unfold hearE
          rw [if_neg (by rw [HOK.out]; decide), if_neg (by rw [hag]; decide), if_pos hpt, if_pos hld])
        clear hpt
        go_wp2_with (refine wpList_store_in 106 [] [.bool false, .bool false, .bool false, .int .u32 0] [] [.bool pc.init, .bool pc.more, .bool pc.master, .int .u32 pc.seq] rfl (.tmp 7) (.tmp 26) rfl rfl rfl K2 rfl (by kernel_rfl) (pc_ones _ _ _ _) ?_; intro w2 HK2 HC2; have X2 := Lib.hid ((X1.out.below ((Below.refl w1.heap.size w1).alloc (Nat.le_refl _) _)).chg (F' := fun k => k = w1.heap.size) HC2.out (fun q hq e => by have := HFW.out q hq; have := HZ.out; omega)); have N2 := Lib.hid ((N1.out.alloc _).chg HC2.out (by omega)); have B2 := Lib.hid (B1.out.trans ((((Below.refl w1.heap.size w1).alloc (Nat.le_refl _) _).trans (HC2.out.to_below (fun k hk => by rw [hk]; exact Nat.le_refl _) (by simp))).mono hnz)); obtain ⟨hh, hhB, hhh⟩ := X2.out.mem; have c3 : w2.cell? ⟨p, 3, none⟩ = some (.bool x.agreed) := hhB.cell 3; rw [hag] at c3; have hpl := hhB.lt; obtain ⟨m0, m1, m2, m3⟩ := HK2.out.four; have hml := HK2.out.lt; have R2 : w2.rangeAt w1.heap.size 0 [.bool pc.init, .bool pc.more, .bool pc.master, .int .u32 pc.seq] := fun j v hv => (by rw [Nat.zero_add, HK2.out.cell, ← hv]; simp); obtain ⟨n0, n1, n2, n3, n4⟩ := N2.out.five; have hnl := N2.out.lt; have c4 : w2.cell? ⟨p, 4, none⟩ = some (.bool x.leads) := hhB.cell 4; rw [hld] at c4; have p6 : w2.cell? ⟨p, 6, none⟩ = some (.bool x.took.init) := hhB.cell 6; have p7 : w2.cell? ⟨p, 7, none⟩ = some (.bool x.took.more) := hhB.cell 7; have p8 : w2.cell? ⟨p, 8, none⟩ = some (.bool x.took.master) := hhB.cell 8; have p9 : w2.cell? ⟨p, 9, none⟩ = some (.int .u32 x.took.seq) := hhB.cell 9)
        go_quiet (fail)
        go_wp2
        show Q (.returned (.int .i64 0)) _
        rw [← HQ.out, HE.out]
        exact ⟨rfl, (X2.out.drewN _).wide (fun q hq => .inl hq), (Chg.of_below B2.out).trans ⟨rfl, rfl, rfl, Nat.le_refl _, fun _ _ _ => rfl⟩ (fun q hq => .inl hq)⟩
    · rw [decide_eq_false hpt] at eP
      go_wp2_with (refine wpList_store_in 106 [] [.bool false, .bool false, .bool false, .int .u32 0] [] [.bool pc.init, .bool pc.more, .bool pc.master, .int .u32 pc.seq] rfl (.tmp 7) (.tmp 26) rfl rfl rfl K2 rfl (by kernel_rfl) (pc_ones _ _ _ _) ?_; intro w2 HK2 HC2; have X2 := Lib.hid ((X1.out.below ((Below.refl w1.heap.size w1).alloc (Nat.le_refl _) _)).chg (F' := fun k => k = w1.heap.size) HC2.out (fun q hq e => by have := HFW.out q hq; have := HZ.out; omega)); have N2 := Lib.hid ((N1.out.alloc _).chg HC2.out (by omega)); have B2 := Lib.hid (B1.out.trans ((((Below.refl w1.heap.size w1).alloc (Nat.le_refl _) _).trans (HC2.out.to_below (fun k hk => by rw [hk]; exact Nat.le_refl _) (by simp))).mono hnz)); obtain ⟨hh, hhB, hhh⟩ := X2.out.mem; have c3 : w2.cell? ⟨p, 3, none⟩ = some (.bool x.agreed) := hhB.cell 3; rw [hag] at c3; have hpl := hhB.lt; obtain ⟨m0, m1, m2, m3⟩ := HK2.out.four; have hml := HK2.out.lt; have R2 : w2.rangeAt w1.heap.size 0 [.bool pc.init, .bool pc.more, .bool pc.master, .int .u32 pc.seq] := fun j v hv => (by rw [Nat.zero_add, HK2.out.cell, ← hv]; simp); obtain ⟨n0, n1, n2, n3, n4⟩ := N2.out.five; have hnl := N2.out.lt; have c4 : w2.cell? ⟨p, 4, none⟩ = some (.bool x.leads) := hhB.cell 4; have p6 : w2.cell? ⟨p, 6, none⟩ = some (.bool x.took.init) := hhB.cell 6; have p7 : w2.cell? ⟨p, 7, none⟩ = some (.bool x.took.more) := hhB.cell 7; have p8 : w2.cell? ⟨p, 8, none⟩ = some (.bool x.took.master) := hhB.cell 8; have p9 : w2.cell? ⟨p, 9, none⟩ = some (.int .u32 x.took.seq) := hhB.cell 9)
      go_quiet (fail)
      revert nq
      intro nq_1
      go_wp2_with fail
      go_quiet (fail)
      rw [World.drewN_drewN]
      have HPT := Lib.hid hpt
      have HAG := Lib.hid hag
      have X3 := Lib.hid (X2.out.drewN (nq_1 + nq))
      have R3 := Lib.hid (show (w2.drewN (nq_1 + nq)).rangeAt w1.heap.size 0 [.bool pc.init, .bool pc.more, .bool pc.master, .int .u32 pc.seq] from R2)
      have K3 := Lib.hid (show Blk (w2.drewN (nq_1 + nq)) w1.heap.size 106 #[.bool pc.init, .bool pc.more, .bool pc.master, .int .u32 pc.seq] from HK2.out)
      have B3 := Lib.hid (B2.out.trans (⟨rfl, rfl, rfl, Nat.le_refl _, fun _ _ => rfl⟩ : Below w.heap.size w2 (w2.drewN (nq_1 + nq))))
      clear X2 N2 B2 hhB hhh c3 c4 p6 p7 p8 p9 hpl m0 m1 m2 m3 hml R2 n0 n1 n2 n3 n4 hnl HK2 HC2 K2 eP hpt hag
      clear X1 N1 B1
      generalize w2.drewN (nq_1 + nq) = w3 at *
      clear hh w2 nq
      obtain ⟨hh, hhB, hhh⟩ := X3.out.mem
      go_wp2_with (refine wpList_load_row 106 _ _ (by rfl) (.tmp 7) rfl (by rfl) R3.out Try.underlying106 rfl (by kernel_rfl) ?_)
      refine (fitsX pc hhB).mono ?_
      rintro e4 w4 ⟨rfl, hb4⟩
      have X4 := Lib.hid (X3.out.below hb4)
      have R4 := Lib.hid (show w4.rangeAt w1.heap.size 0 [.bool pc.init, .bool pc.more, .bool pc.master, .int .u32 pc.seq] from fun j v hv => by
        rw [Nat.zero_add, (K3.out.below hb4 K3.out.lt).cell, ← hv]
        simp)
      have B4 := Lib.hid (B3.out.trans (hb4.mono B3.out.size))
      clear hb4 X3 R3 K3 B3 hhB hhh
      cases hft : fitsE x pc
      · have HE := Lib.hid (show hearE x pc nh K = (3, x) by
          unfold hearE
          rw [if_neg (by rw [HOK.out]; decide), if_neg (by rw [HAG.out]; decide), if_neg HPT.out, if_neg (by rw [hft]; decide)])
        clear hft
        go_wp2
        show Q (.returned (.int .i64 3)) _
        rw [← HQ.out, HE.out]
        exact ⟨rfl, X4.out.wide (fun q hq => .inl hq), Chg.of_below B4.out⟩
      · have HE := Lib.hid (show hearE x pc nh K = (2, goOnE x pc) by
          unfold hearE
          rw [if_neg (by rw [HOK.out]; decide), if_neg (by rw [HAG.out]; decide), if_neg HPT.out, if_pos hft])
        clear hft
        go_wp2_with (refine wpList_load_row 106 _ _ (by rfl) (.tmp 7) rfl (by rfl) R4.out Try.underlying106 rfl (by kernel_rfl) ?_)
        refine (goOnX pc HOK.out X4.out).mono ?_
        rintro e5 w5 ⟨rfl, hx5, hc5⟩
        go_wp2
        show Q (.returned (.int .i64 2)) _
        rw [← HQ.out, HE.out]
        exact ⟨rfl, hx5.wide (fun q hq => .inl hq), (Chg.of_below B4.out).trans hc5 (fun q hq => .inl hq)⟩
end
end Go.Proofs.Ytfdfdmbnggpnbaa
namespace Go.Proofs.Ytfdfdmbnggpnbaa
open Go.RowKit Go.Lib Go.Sort Go.Deep

/-- What Say answers: the piece, with a row of heads of the call's own. -/
def SayQ (x : Ex) (w : World) (e : Ending) (w' : World) : Prop :=
  ∃ (A : Option Addr) (m c : Nat), e = .returned (.tuple #[.agg #[.bool x.said.init, .bool x.said.more, .bool x.said.master, .int .i64 x.said.seq, .slice A m c], .bool true]) ∧ Below w.heap.size w w' ∧ w'.ownsRow w.heap.size 43 7 (.slice A m c) m (cellsBy encHd (x.K.take 3))
theorem own_base {w : World} {b b' n size : Nat} {t : TypeId} {v : Value} {xs : List Value} (h : w.ownsRow b t size v n xs) (hb : b' ≤ b) : w.ownsRow b' t size v n xs := by
  refine ⟨h.1, ?_⟩
  rcases h.2 with h2 | ⟨g, cap, cur, h1, h2, h3⟩
  · exact .inl h2
  · exact .inr ⟨g, cap, cur, h1, Nat.le_trans hb h2, h3⟩
theorem keepZ {w w' : World} {z : Nat} (h : Chg (fun k => k = z) w w') : ∀ b o, b < w.heap.size → b ≠ z → w'.cell? ⟨b, o, none⟩ = w.cell? ⟨b, o, none⟩ :=
  fun b o hb hne => World.cell?_of_block (a := ⟨b, o, none⟩) (h.block b hb hne)
theorem chg_five (w : World) (z : Nat) (v0 v1 v2 v3 v4 : Value) : Chg (fun k => k = z) w (((((w.setCell ⟨z, 0, none⟩ v0).setCell ⟨z, 1, none⟩ v1).setCell ⟨z, 2, none⟩ v2).setCell ⟨z, 3, none⟩ v3).setCell ⟨z, 4, none⟩ v4) :=
  chg_setCells z [v0, v1, v2, v3, v4] 0 w
section
variable {w : World} {F : Nat → Prop} {p : Nat} {x : Ex}
set_option maxRecDepth 8000 in
set_option maxHeartbeats 8000000 in
theorem sayO (hx : ExAt w F p x) : Calls Try.prog 37 #[.pointer (some ⟨p, 0, none⟩)] w (SayQ x w) := by
  generalize hQ : SayQ x w = Q
  have HQ := Lib.hid hQ
  have hw := i64_of_u32 hx.ok.said
  have HN := Lib.hid hx.ok.len
  have hxl := hx.lt
  have B1 := Lib.hid ((Below.refl w.heap.size w).alloc (Nat.le_refl _) (.cells #[.bool false, .bool false, .bool false, .int .i64 0, .slice none 0 0] 53))
  have X1 := Lib.hid (hx.below B1.out)
  have N1 := Lib.hid (Blk.new w 53 #[.bool false, .bool false, .bool false, .int .i64 0, .slice none 0 0])
  clear hQ hx
  obtain ⟨h, hB, hh⟩ := X1.out.mem
  have hpl := hB.lt
  have c10 : (w.alloc (.cells #[.bool false, .bool false, .bool false, .int .i64 0, .slice none 0 0] 53)).cell? ⟨p, 10, none⟩ = some (.bool x.said.init) := hB.cell 10
  have c11 : (w.alloc (.cells #[.bool false, .bool false, .bool false, .int .i64 0, .slice none 0 0] 53)).cell? ⟨p, 11, none⟩ = some (.bool x.said.more) := hB.cell 11
  have c12 : (w.alloc (.cells #[.bool false, .bool false, .bool false, .int .i64 0, .slice none 0 0] 53)).cell? ⟨p, 12, none⟩ = some (.bool x.said.master) := hB.cell 12
  have c13 : (w.alloc (.cells #[.bool false, .bool false, .bool false, .int .i64 0, .slice none 0 0] 53)).cell? ⟨p, 13, none⟩ = some (.int .u32 x.said.seq) := hB.cell 13
  have B2 := Lib.hid (B1.out.alloc (by simp) (.cells #[.bool x.said.init, .bool x.said.more, .bool x.said.master, .int .u32 x.said.seq] 106))
  have X2 := Lib.hid (X1.out.below ((Below.refl (w.alloc (.cells #[.bool false, .bool false, .bool false, .int .i64 0, .slice none 0 0] 53)).heap.size _).alloc (Nat.le_refl _) (.cells #[.bool x.said.init, .bool x.said.more, .bool x.said.master, .int .u32 x.said.seq] 106)))
  have N2 := Lib.hid (N1.out.alloc (.cells #[.bool x.said.init, .bool x.said.more, .bool x.said.master, .int .u32 x.said.seq] 106))
  have M2 := Lib.hid (show Blk ((w.alloc (.cells #[.bool false, .bool false, .bool false, .int .i64 0, .slice none 0 0] 53)).alloc (.cells #[.bool x.said.init, .bool x.said.more, .bool x.said.master, .int .u32 x.said.seq] 106)) (w.heap.size + 1) 106 #[.bool x.said.init, .bool x.said.more, .bool x.said.master, .int .u32 x.said.seq] by
    have := Blk.new (w.alloc (.cells #[.bool false, .bool false, .bool false, .int .i64 0, .slice none 0 0] 53)) 106 #[.bool x.said.init, .bool x.said.more, .bool x.said.master, .int .u32 x.said.seq]
    simpa using this)
  clear N1 X1 B1
  go_enter Try.func37, Try.ntmps37
  go_wp2_with fail
  clear hpl c10 c11 c12 c13 hB hh
  generalize (w.alloc (.cells #[.bool false, .bool false, .bool false, .int .i64 0, .slice none 0 0] 53)).alloc (.cells #[.bool x.said.init, .bool x.said.more, .bool x.said.master, .int .u32 x.said.seq] 106) = w2 at *
  obtain ⟨z, hz⟩ : ∃ z, w.heap.size = z := ⟨_, rfl⟩
  rw [hz] at N2 M2 hxl ⊢
  have hpz : p ≠ z := by omega
  have hzp : z + 1 ≠ z := by omega
  have HZ := Lib.hid hz
  clear hz h
  obtain ⟨h, hB, hh⟩ := X2.out.mem
  have HH := Lib.hid (show HeadsAt w2.drew (fun q => F q ∧ q ≠ p) h x.K from hh.move (fun _ _ _ => rfl) (Nat.le_refl _))
  have c14 : w2.cell? ⟨p, 14, none⟩ = some (.pointer h) := hB.cell 14
  have hpl := hB.lt
  obtain ⟨m0, m1, m2, m3⟩ := M2.out.four
  have hml := M2.out.lt
  obtain ⟨n0, n1, n2, n3, n4⟩ := N2.out.five
  have hnl := N2.out.lt
  have BR : Below w2.heap.size w2 w2.drew := ⟨rfl, rfl, rfl, Nat.le_refl _, fun _ _ => rfl⟩
  have CR : Chg (fun k => k = z) w2 w2.drew := Chg.of_below BR
  clear hB hh
  go_region_held3 (fun w' => ∀ b o, b < w2.heap.size → b ≠ z → w'.cell? ⟨b, o, none⟩ = w2.cell? ⟨b, o, none⟩) ((refine keepZ ?_; first | with_reducible exact CR | with_reducible exact CR5 | with_reducible exact CR6)) (first | (go_at_call 16; refine (pieceO HH.out HN.out).mono ?_; rintro e5 w5 ⟨A5, m5, c5, rfl, hb5, hO5⟩; have BR5 := BR.trans (show Below w2.heap.size w2.drew w5 from hb5); have CR5 : Chg (fun k => k = z) w2 w5 := Chg.of_below BR5; have CR6 := CR5.trans (chg_five w5 z (.bool x.said.init) (.bool x.said.more) (.bool x.said.master) (.int .i64 x.said.seq) (.slice A5 m5 c5)) (fun q hq => .inl hq); have N5 := N2.out.below BR5 hnl; have f0 := N5.frozen 0; have f1 := N5.frozen 1; have f2 := N5.frozen 2; have f3 := N5.frozen 3; have f4 := N5.frozen 4; obtain ⟨s0, s1, s2, s3, s4⟩ := N5.five; have hsl := N5.lt))
  all_goals
    have K6 := Lib.hid (show Blk (((((w5.setCell ⟨z, 0, none⟩ (.bool x.said.init)).setCell ⟨z, 1, none⟩ (.bool x.said.more)).setCell ⟨z, 2, none⟩ (.bool x.said.master)).setCell ⟨z, 3, none⟩ (.int .i64 x.said.seq)).setCell ⟨z, 4, none⟩ (.slice A5 m5 c5)) z 53 #[.bool x.said.init, .bool x.said.more, .bool x.said.master, .int .i64 x.said.seq, .slice A5 m5 c5] from ((((N5.put 0 _).put 1 _).put 2 _).put 3 _).put 4 _)
    have O6 := Lib.hid (own_chg hO5 (chg_five w5 z (.bool x.said.init) (.bool x.said.more) (.bool x.said.master) (.int .i64 x.said.seq) (.slice A5 m5 c5)) (fun q hq e => by
      have h1 := own_base_le hO5 hq
      have h2 : w2.heap.size ≤ q := h1
      omega))
    have C6 := Lib.hid CR6
    clear CR6 CR5 BR5 N5 f0 f1 f2 f3 f4 s0 s1 s2 s3 s4 hsl hO5 hb5
    generalize ((((w5.setCell ⟨z, 0, none⟩ (.bool x.said.init)).setCell ⟨z, 1, none⟩ (.bool x.said.more)).setCell ⟨z, 2, none⟩ (.bool x.said.master)).setCell ⟨z, 3, none⟩ (.int .i64 x.said.seq)).setCell ⟨z, 4, none⟩ (.slice A5 m5 c5) = w6 at *
    obtain ⟨k0, k1, k2, k3, k4⟩ := K6.out.five
    go_wp2
    refine bodyPost_ret (v := .tuple #[.agg #[.bool x.said.init, .bool x.said.more, .bool x.said.master, .int .i64 x.said.seq, .slice A5 m5 c5], .bool true]) (by simp [results, Try.results37, go_sem, *]) rfl ?_
    rw [← HQ.out]
    refine ⟨A5, m5, c5, rfl, B2.out.trans (C6.out.to_below (fun q hq => by rw [hq, ← HZ.out]; exact Nat.le_refl _) B2.out.size), ?_⟩
    exact own_base O6.out (by have := B2.out.size; exact this)
end
set_option maxRecDepth 8000 in
set_option maxHeartbeats 4000000 in
/-- alike, Same of the reference. -/
theorem alike_any (a b : Pc) (A A' : Option Addr) (n c n' c' : Nat) (w : World) : Calls Try.prog 67 #[.agg #[.bool a.init, .bool a.more, .bool a.master, .int .i64 a.seq, .slice A n c], .agg #[.bool b.init, .bool b.more, .bool b.master, .int .i64 b.seq, .slice A' n' c']] w fun e w' => e = .returned (.bool (decide (a = b))) ∧ ∃ q os', w' = grow (w.drewN q) os' := by
  obtain ⟨a0, a1, a2, a3⟩ := a
  obtain ⟨b0, b1, b2, b3⟩ := b
  have HG := Lib.hid (show ∃ q os', (w.alloc (.cells #[.bool a0, .bool a1, .bool a2, .int .i64 a3, .slice A n c] 53)).alloc (.cells #[.bool b0, .bool b1, .bool b2, .int .i64 b3, .slice A' n' c'] 53) = grow (w.drewN q) os' from ⟨0, _, by rw [alloc_eq_grow, alloc_eq_grow, grow_grow]; rfl⟩)
  by_cases h1 : a0 = b0
  · by_cases h2 : a1 = b1
    · by_cases h3 : a2 = b2
      · have HE := Lib.hid (show (a3 == b3) = decide ((⟨a0, a1, a2, a3⟩ : Pc) = ⟨b0, b1, b2, b3⟩) by by_cases h : a3 = b3 <;> simp [h, h1, h2, h3])
        subst h1 h2 h3
        have d1 : (a0 == a0) = true := by simp
        have d2 : (a1 == a1) = true := by simp
        have d3 : (a2 == a2) = true := by simp
        go_enter Try.func67, Try.ntmps67
        go_wp2
        go_ret
        exact ⟨ret_bool HE.out, HG.out⟩
      · have HE := Lib.hid (show false = decide ((⟨a0, a1, a2, a3⟩ : Pc) = ⟨b0, b1, b2, b3⟩) by simp [h3])
        have d3 : (a2 == b2) = false := by simpa using h3
        subst h1 h2
        have d1 : (a0 == a0) = true := by simp
        have d2 : (a1 == a1) = true := by simp
        clear h3
        go_enter Try.func67, Try.ntmps67
        go_wp2
        go_ret
        exact ⟨ret_bool HE.out, HG.out⟩
    · have HE := Lib.hid (show false = decide ((⟨a0, a1, a2, a3⟩ : Pc) = ⟨b0, b1, b2, b3⟩) by simp [h2])
      have d2 : (a1 == b1) = false := by simpa using h2
      subst h1
      have d1 : (a0 == a0) = true := by simp
      clear h2
      go_enter Try.func67, Try.ntmps67
      go_wp2
      go_ret
      exact ⟨ret_bool HE.out, HG.out⟩
  · have HE := Lib.hid (show false = decide ((⟨a0, a1, a2, a3⟩ : Pc) = ⟨b0, b1, b2, b3⟩) by simp [h1])
    have d1 : (a0 == b0) = false := by simpa using h1
    clear h1
    go_enter Try.func67, Try.ntmps67
    go_wp2
    go_ret
    exact ⟨ret_bool HE.out, HG.out⟩
end Go.Proofs.Ytfdfdmbnggpnbaa
