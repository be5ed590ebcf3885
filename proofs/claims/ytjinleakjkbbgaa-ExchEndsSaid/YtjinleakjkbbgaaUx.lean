/- The reference's heads: those that are told, each put behind those of keys that aren't above its own. Conditions: at most 100 descriptions. -/
import Derived.Test.YtjinleakjkbbgaaUw
namespace Go.Proofs.Ytjinleakjkbbgaa
open Go.RowKit Go.Lib Go.Sort Go.Deep

/-- A row with an item put at place k. -/
def insAt (K : List Hd) (k : Nat) (x : Hd) : List Hd := K.take k ++ x :: K.drop k
theorem insAt_len (K : List Hd) (k : Nat) (x : Hd) : (insAt K k x).length = K.length + 1 := by
  unfold insAt
  rw [List.length_append, List.length_cons, List.length_take, List.length_drop]
  omega
theorem insAt_end (K : List Hd) (x : Hd) : insAt K K.length x = K ++ [x] := by
  unfold insAt
  rw [List.take_length, List.drop_length]
theorem insAt_at (K : List Hd) (k : Nat) (x : Hd) (hk : k ≤ K.length) : (insAt K k x)[k]? = some x := by
  unfold insAt
  rw [List.getElem?_append_right (by rw [List.length_take]; omega), List.length_take, show k - min k K.length = 0 by omega]
  rfl
theorem insAt_before (K : List Hd) (k j : Nat) (x y : Hd) (hj : j < k) (hy : K[j]? = some y) : (insAt K k x)[j]? = some y := by
  have := (List.getElem?_eq_some_iff.1 hy).1
  unfold insAt
  rw [List.getElem?_append_left (by rw [List.length_take]; omega), List.getElem?_take_of_lt hj, hy]
theorem insAt_swap (K : List Hd) (j : Nat) (x y : Hd) (hy : K[j]? = some y) : ((insAt K (j + 1) x).set (j + 1) y).set j x = insAt K j x := by
  have hl := (List.getElem?_eq_some_iff.1 hy).1
  unfold insAt
  rw [take_snocA K j y hy, show K.drop j = y :: K.drop (j + 1) from by
    rw [List.drop_eq_getElem_cons hl, (List.getElem?_eq_some_iff.1 hy).2]]
  have h1 : (K.take j).length = j := by rw [List.length_take]; omega
  generalize K.drop (j + 1) = D
  generalize hP : K.take j = P at *
  subst h1
  simp
/-- All behind place k are behind x. -/
def Above (K : List Hd) (k : Nat) (x : Hd) : Prop := ∀ t ∈ K.drop k, lessH x t = true
theorem Above.end_ (K : List Hd) (x : Hd) : Above K K.length x := fun t ht => by
  rw [List.drop_length] at ht
  cases ht
theorem Above.step {K : List Hd} {j : Nat} {x y : Hd} (h : Above K (j + 1) x) (hy : K[j]? = some y) (hl : lessH x y = true) : Above K j x := fun t ht => by
  have hlt := (List.getElem?_eq_some_iff.1 hy).1
  rw [List.drop_eq_getElem_cons hlt, (List.getElem?_eq_some_iff.1 hy).2] at ht
  rcases List.mem_cons.1 ht with rfl | ht
  · exact hl
  · exact h t ht
theorem Above.stab {K : List Hd} {k : Nat} {x : Hd} (h : Above K k x) : Stab lessH (K ++ [x]) (insAt K k x) := by
  unfold insAt
  have e : K ++ [x] = K.take k ++ (K.drop k ++ [x]) := by rw [← List.append_assoc, List.take_append_drop]
  rw [e]
  refine (Stab.refl _).app ?_
  exact stab_swap swo_less (U := K.drop k) (V := [x]) fun u hu v hv => by
    rw [List.mem_singleton] at hv
    rw [hv]
    exact h u hu
theorem Above.ord {K : List Hd} {k : Nat} {x : Hd} (h : Above K k x) (hO : Ord lessH K) (hs : k = 0 ∨ ∃ y, K[k - 1]? = some y ∧ lessH x y = false) : Ord lessH (insAt K k x) := by
  have e : K = K.take k ++ K.drop k := (List.take_append_drop k K).symm
  unfold Ord at hO ⊢
  rw [e] at hO
  obtain ⟨o1, o2, o3⟩ := List.pairwise_append.1 hO
  unfold insAt
  refine List.pairwise_append.2 ⟨o1, List.pairwise_cons.2 ⟨fun t ht => swo_asymm swo_less (h t ht), o2⟩, fun a ha b hb => ?_⟩
  rcases List.mem_cons.1 hb with rfl | hb
  · rcases hs with rfl | ⟨y, hy, hl⟩
    · simp at ha
    · obtain ⟨i, hi⟩ := List.getElem?_of_mem ha
      have hil := (List.getElem?_eq_some_iff.1 hi).1
      rw [List.length_take] at hil
      rw [List.getElem?_take_of_lt (by omega)] at hi
      have hyl := (List.getElem?_eq_some_iff.1 hy).1
      by_cases hik : i = k - 1
      · subst hik
        rw [hi] at hy
        injection hy with hy
        rw [hy]
        exact hl
      · have h3 : lessH y a = false := by
          have hO2 : Ord lessH K := by
            unfold Ord
            rw [e]
            exact hO
          have := List.pairwise_iff_getElem.1 hO2 i (k - 1) (by omega) hyl (by omega)
          rwa [(List.getElem?_eq_some_iff.1 hi).2, (List.getElem?_eq_some_iff.1 hy).2] at this
        exact swo_less.ntrans _ y _ hl h3
  · exact o3 a ha b hb
/-- What the reference's Heads answers. -/
def HeadsQ (S : List La) (w : World) (e : Ending) (w' : World) : Prop :=
  ∃ (A : Option Addr) (m c : Nat) (K : List Hd), e = .returned (.slice A m c) ∧ Below w.heap.size w w' ∧ w'.ownsRow w.heap.size 58 7 (.slice A m c) m (cellsBy encHd K) ∧ Ord lessH K ∧ Stab lessH (toldL S) K
theorem las_head {w : World} {b p : Nat} {x : La} {A A' : Option Addr} {n c n' c' : Nat} (h : w.rangeAt b p [.int .i64 x.h.age, .int .i64 x.h.kind, .int .i64 x.h.id, .int .i64 x.h.adv, .int .i64 x.h.seq, .int .i64 x.h.sum, .int .i64 x.h.long, .slice A n c, .slice A' n' c']) : w.rangeAt b p [.int .i64 x.h.age, .int .i64 x.h.kind, .int .i64 x.h.id, .int .i64 x.h.adv, .int .i64 x.h.seq, .int .i64 x.h.sum, .int .i64 x.h.long] := fun j v hj => by
  have hl := (List.getElem?_eq_some_iff.1 hj).1
  refine h j v ?_
  rw [← hj, ← List.getElem?_append_left (l₂ := [.slice A n c, .slice A' n' c']) hl]
  rfl
theorem item_range {w : World} {base n c j : Nat} {g : Nat} {L : List Hd} {x : Hd} (h : w.ownsRow base 58 7 (.slice (some ⟨g, 0, none⟩) n c) n (cellsBy encHd L)) (hj : L[j]? = some x) : w.rangeAt g (j * 7) [.int .i64 x.age, .int .i64 x.kind, .int .i64 x.id, .int .i64 x.adv, .int .i64 x.seq, .int .i64 x.sum, .int .i64 x.long] := fun i v hv => by
  have hi := (List.getElem?_eq_some_iff.1 hv).1
  obtain ⟨g', e, -, -, -, -, hc⟩ := own_item encHd_len (by omega) h hj
  injection e with e
  injection e with e
  subst e
  rw [hc i (by simpa using hi)]
  exact hv
set_option maxRecDepth 20000 in
set_option maxHeartbeats 16000000 in
theorem heads_any {w : World} {A : Option Addr} {n c : Nat} {S : List La} {B : Nat} (hS : Las w B A n S) (hB : B ≤ w.heap.size) (hn : n ≤ 100) : Calls Try.prog 16 #[.slice A n c] w (HeadsQ S w) := by
  generalize hQ : HeadsQ S w = Q
  have HQ := Lib.hid hQ
  have HS := Lib.hid hS
  have O0 := Lib.hid (World.ownsRow_nil w w.heap.size 58 7)
  have B0 := Lib.hid (Below.refl w.heap.size w)
  generalize hbm : w.heap.size = bm at *
  have HBM := Lib.hid hbm
  clear hQ hS hbm
  have mixed : Try.prog.follows .mixedOrders = true := by kernel_rfl
  go_enter Try.func16, Try.ntmps16
  go_wp2_with fail
  go_loopw [3, 4] (fun s3 s4 wr => ∃ (k m c' : Nat) (A' : Option Addr) (K : List Hd), s4 = .int .i64 k ∧ s3 = .slice A' m c' ∧ k ≤ n ∧ m ≤ k ∧ Hid (wr.ownsRow bm 58 7 (.slice A' m c') m (cellsBy encHd K)) ∧ Hid (Ord lessH K) ∧ Hid (Stab lessH (toldL (S.take k)) K) ∧ Hid (Below bm w wr)) (fun _ s4 _ => n - (intOf s4).toNat)
  case atStart => exact ⟨0, 0, 0, none, [], rfl, rfl, Nat.zero_le _, Nat.le_refl _, Lib.hid (by simpa [cellsBy] using O0.out), Lib.hid List.Pairwise.nil, Lib.hid (Stab.refl _), B0⟩
  case round =>
    clear O0 B0
    obtain ⟨k, m, c', A', K, rfl, rfl, hk, hmk, OW, OO, OS, BW⟩ := hrel
    by_cases hlt : k < n
    · have hlt' : (k : Int) < (n : Int) := by omega
      obtain ⟨b, o, x, A1, n1, c1, A2, n2, c2, rfl, hb, hx, hr, -, -, -, -⟩ := las_item (HS.out.below (BW.out.mono (by rw [HBM.out] at *; exact hB))) hlt
      have HR := Lib.hid (las_head hr)
      have HX := Lib.hid hx
      have hz : bm ≤ wr.heap.size := by have := BW.out.size; have := HBM.out; omega
      have x0 : wr.cell? ⟨b, o + k * 9, none⟩ = some (.int .i64 x.h.age) := hr 0 _ rfl
      have HT := Lib.hid (toldL_snoc (S.take k) x)
      rw [← take_snocA S k x HX.out] at HT
      clear hr hx HX
      cases hg : goneB x
      · have HT2 := Lib.hid (show toldL (S.take (k + 1)) = toldL (S.take k) ++ [x.h] by
          have := HT.out
          rwa [hg, if_neg (by decide)] at this)
        have d60 : (x.h.age == 60) = false := hg
        clear HT hg
        go_wp2_with (first | refine wpList_load_row 58 _ _ (by rfl) (.tmp 24) rfl (by rfl) HR.out Try.underlying58 rfl (by kernel_rfl) ?_ | (at_builtin; refine wpList_app_hd rfl (.tmp 20) (.tmp 26) rfl x.h (by rfl) (by rfl) OW.out (by omega) hz ?_; intro A3 c3 w3 HO3 HB3))
        have hKm := own_lenH encHd_len (by omega) OW.out
        have B3 := Lib.hid (BW.out.trans HB3.out)
        have O3 := Lib.hid (show w3.ownsRow bm 58 7 (.slice A3 (m + 1) c3) (m + 1) (cellsBy encHd (insAt K m x.h)) by rw [← hKm, insAt_end, hKm]; exact HO3.out)
        have AB := Lib.hid (show Above K m x.h by rw [← hKm]; exact Above.end_ K x.h)
        have HKM := Lib.hid hKm
        obtain ⟨y, hy⟩ : ∃ y, y = x.h := ⟨_, rfl⟩
        rw [← hy] at O3 AB HT2
        clear HO3 HB3 OW BW HR x0 d60 hz hKm hy
        obtain ⟨M, hM⟩ : ∃ M, M = m + 1 := ⟨_, rfl⟩
        rw [← hM] at O3 ⊢
        have eM : (M : Int) - 1 = (m : Int) := by omega
        have w_m : IntKind.i64.wrap (m : Int) = (m : Int) := by rw [IntKind.wrap_i64]; omega
        have hMm : M ≤ k + 1 := by omega
        have hmM : m < M := by omega
        clear hM
        go_wp2_with fail
        go_loopw [5] (fun s5 wi => ∃ j : Nat, s5 = .int .i64 j ∧ j ≤ m ∧ Hid (wi.ownsRow bm 58 7 (.slice A3 M c3) M (cellsBy encHd (insAt K j y))) ∧ Hid (Above K j y) ∧ Hid (Below bm w wi)) (fun s5 _ => (intOf s5).toNat)
        case atStart => exact ⟨m, by first | rfl | go_num, Nat.le_refl _, O3, AB, B3⟩
        case round =>
          clear O3 AB B3 eM w_m
          obtain ⟨j, rfl, hj, OI, AI, BI⟩ := hrel
          by_cases h0 : j = 0
          · subst h0
            have d0 : decide ((0 : Int) < ((0 : Nat) : Int)) = false := by simp
            have B4 := Lib.hid (fun q => BI.out.trans (⟨rfl, rfl, rfl, Nat.le_refl _, fun _ _ => rfl⟩ : Below bm wr (wr.drewN q)))
            have O4 := Lib.hid (fun q => own_chg OI.out (Chg.of_below (F := fun _ => False) (⟨rfl, rfl, rfl, Nat.le_refl _, fun _ _ => rfl⟩ : Below wr.heap.size wr (wr.drewN q))) (fun _ _ hf => hf))
            have OO4 := Lib.hid (AI.out.ord OO.out (.inl rfl))
            have OS4 := Lib.hid (show Stab lessH (toldL (S.take (k + 1))) (insAt K 0 y) by rw [HT2.out]; exact (OS.out.app (Stab.refl [y])).trans AI.out.stab)
            go_wp2_with fail
            go_quiet (fail)
            clear OI BI AI OO OS HT2
            go_wp2
            go_roundw
            case rel => exact ⟨k + 1, M, c3, A3, _, by go_num, by first | rfl | go_num, by omega, by omega, Lib.hid (O4.out nq), OO4, OS4, Lib.hid (B4.out nq)⟩
            case measure => simp [intOf]; omega
          · obtain ⟨i, hi⟩ : ∃ i, j = i + 1 := ⟨j - 1, by omega⟩
            have d0 : decide (0 < j) = true := by simp; omega
            have hiK : i < K.length := by have := HKM.out; omega
            obtain ⟨z, hz⟩ : ∃ z, K[i]? = some z := ⟨_, List.getElem?_eq_getElem hiK⟩
            have hyj := insAt_at K j y (by omega)
            have hzi := insAt_before K j i y z (by omega) hz
            obtain ⟨g, rfl, hgb, hgl, hMc, hcm, haty⟩ := own_item encHd_len (by omega) OI.out hyj
            obtain ⟨g2, e2, -, -, -, -, hatz⟩ := own_item encHd_len (by omega) OI.out hzi
            injection e2 with e2
            injection e2 with e2
            subst e2
            unfold maxLen at hcm
            have e1 : (j : Int) - 1 = (i : Int) := by omega
            have w_i : IntKind.i64.wrap (i : Int) = (i : Int) := by rw [IntKind.wrap_i64]; omega
            have j_u : (j : Int) < (M : Int) := by omega
            have i_u : (i : Int) < (M : Int) := by omega
            have hjM : j < M := by omega
            have hiM : i < M := by omega
            have a0 : wr.cell? ⟨g, j * 7, none⟩ = some (.int .i64 y.age) := haty 0 (by omega)
            have a1 : wr.cell? ⟨g, j * 7 + 1, none⟩ = some (.int .i64 y.kind) := haty 1 (by omega)
            have a2 : wr.cell? ⟨g, j * 7 + 2, none⟩ = some (.int .i64 y.id) := haty 2 (by omega)
            have a3 : wr.cell? ⟨g, j * 7 + 3, none⟩ = some (.int .i64 y.adv) := haty 3 (by omega)
            have a4 : wr.cell? ⟨g, j * 7 + 4, none⟩ = some (.int .i64 y.seq) := haty 4 (by omega)
            have a5 : wr.cell? ⟨g, j * 7 + 5, none⟩ = some (.int .i64 y.sum) := haty 5 (by omega)
            have a6 : wr.cell? ⟨g, j * 7 + 6, none⟩ = some (.int .i64 y.long) := haty 6 (by omega)
            have b0 : wr.cell? ⟨g, i * 7, none⟩ = some (.int .i64 z.age) := hatz 0 (by omega)
            have b1 : wr.cell? ⟨g, i * 7 + 1, none⟩ = some (.int .i64 z.kind) := hatz 1 (by omega)
            have b2 : wr.cell? ⟨g, i * 7 + 2, none⟩ = some (.int .i64 z.id) := hatz 2 (by omega)
            have b3 : wr.cell? ⟨g, i * 7 + 3, none⟩ = some (.int .i64 z.adv) := hatz 3 (by omega)
            have b4 : wr.cell? ⟨g, i * 7 + 4, none⟩ = some (.int .i64 z.seq) := hatz 4 (by omega)
            have b5 : wr.cell? ⟨g, i * 7 + 5, none⟩ = some (.int .i64 z.sum) := hatz 5 (by omega)
            have b6 : wr.cell? ⟨g, i * 7 + 6, none⟩ = some (.int .i64 z.long) := hatz 6 (by omega)
            clear haty hatz hyj hzi
            have ga0 := fun n os => cell_grown (n := n) (os := os) hgl a0
            have ga1 := fun n os => cell_grown (n := n) (os := os) hgl a1
            have ga2 := fun n os => cell_grown (n := n) (os := os) hgl a2
            have ga3 := fun n os => cell_grown (n := n) (os := os) hgl a3
            have ga4 := fun n os => cell_grown (n := n) (os := os) hgl a4
            have ga5 := fun n os => cell_grown (n := n) (os := os) hgl a5
            have ga6 := fun n os => cell_grown (n := n) (os := os) hgl a6
            have gb0 := fun n os => cell_grown (n := n) (os := os) hgl b0
            have gb1 := fun n os => cell_grown (n := n) (os := os) hgl b1
            have gb2 := fun n os => cell_grown (n := n) (os := os) hgl b2
            have gb3 := fun n os => cell_grown (n := n) (os := os) hgl b3
            have gb4 := fun n os => cell_grown (n := n) (os := os) hgl b4
            have gb5 := fun n os => cell_grown (n := n) (os := os) hgl b5
            have gb6 := fun n os => cell_grown (n := n) (os := os) hgl b6
            clear a0 a1 a2 a3 a4 a5 a6 b0 b1 b2 b3 b4 b5 b6
            have p1 := fun n os => Calls.grown_of (key13_grown y (grow (wr.drewN n) os))
            have p2 := fun n os => Calls.grown_of (key13_grown z (grow (wr.drewN n) os))
            have p3 := fun n os => Calls.grown_of (less_grown (keyH y) (keyH z) (grow (wr.drewN n) os))
            unfold keyH at p3
            dsimp only at p3
            rw [show lessKy ⟨y.kind, y.id, y.adv⟩ ⟨z.kind, z.id, z.adv⟩ = lessH y z from rfl] at p3
            obtain ⟨v, hv⟩ : ∃ v, lessH y z = v := ⟨_, rfl⟩
            rw [hv] at p3
            have HV := Lib.hid hv
            have HZ := Lib.hid hz
            have HJ := Lib.hid hi
            have hgr : ∀ n os, Below wr.heap.size wr (grow (wr.drewN n) os) := fun n os => below_grown13 ⟨n, os, rfl⟩
            have B4 := Lib.hid (fun n os => BI.out.trans ((hgr n os).mono (by have := BI.out.size; have := HBM.out; omega)))
            have O4 := Lib.hid (fun n os => own_chg OI.out (Chg.of_below (F := fun _ => False) (hgr n os)) (fun _ _ hf => hf))
            clear hv hz hi hiK OI BI h0 hgr
            go_wp2_with fail
            go_quiet_grown (first | (go_at_call 35; first | with_reducible exact p1 _ _ | with_reducible exact p2 _ _) | (go_at_call 34; with_reducible exact p3 _ _))
            clear p1 p2 p3 ga0 ga1 ga2 ga3 ga4 ga5 ga6 gb0 gb1 gb2 gb3 gb4 gb5 gb6
            have O5 := Lib.hid (O4.out nq osq)
            have B5 := Lib.hid (B4.out nq osq)
            clear O4 B4
            generalize grow (wr.drewN nq) osq = w0 at *
            cases v
            · have OO4 := Lib.hid (AI.out.ord OO.out (.inr ⟨z, by rw [HJ.out, Nat.add_sub_cancel]; exact HZ.out, HV.out⟩))
              have OS4 := Lib.hid (show Stab lessH (toldL (S.take (k + 1))) (insAt K j y) by rw [HT2.out]; exact (OS.out.app (Stab.refl [y])).trans AI.out.stab)
              clear AI OO OS HT2 HJ HV HZ
              go_wp2
              go_roundw
              case rel => exact ⟨k + 1, M, c3, _, _, by go_num, by first | rfl | go_num, by omega, by omega, O5, OO4, OS4, B5⟩
              case measure => simp [intOf]; omega
            · have hzi2 := Lib.hid (insAt_before K j i y z (by have := HJ.out; omega) HZ.out)
              have hyj2 := Lib.hid (insAt_at K j y (by have := HKM.out; omega))
              have AI2 := Lib.hid (show Above K i y by
                have := AI.out
                rw [HJ.out] at this
                exact this.step HZ.out HV.out)
              have SW := Lib.hid (show ((insAt K j y).set j z).set i y = insAt K i y by
                rw [HJ.out]
                exact insAt_swap K i y z HZ.out)
              have hz5 : bm ≤ w0.heap.size := by have := B5.out.size; have := HBM.out; omega
              have RY := Lib.hid (item_range O5.out hyj2.out)
              have O6 := Lib.hid (O5.out.alloc (.cells #[.int .i64 y.age, .int .i64 y.kind, .int .i64 y.id, .int .i64 y.adv, .int .i64 y.seq, .int .i64 y.sum, .int .i64 y.long] 58))
              have B6 := Lib.hid (B5.out.alloc hz5 (.cells #[.int .i64 y.age, .int .i64 y.kind, .int .i64 y.id, .int .i64 y.adv, .int .i64 y.seq, .int .i64 y.sum, .int .i64 y.long] 58))
              have K6 := Lib.hid (Blk.new w0 58 #[.int .i64 y.age, .int .i64 y.kind, .int .i64 y.id, .int .i64 y.adv, .int .i64 y.seq, .int .i64 y.sum, .int .i64 y.long])
              have RZ := Lib.hid (item_range O6.out hzi2.out)
              have NG := Lib.hid (show w0.heap.size ≠ g from by
                have := O5.out.2
                intro e
                rcases this with ⟨hv, _⟩ | ⟨g', cap, cur, hv, hb', hg', -⟩
                · cases hv
                · cases hv
                  have := (Array.getElem?_eq_some_iff.1 hg').1
                  omega)
              clear AI hzi2 hyj2 HZ HV
              go_wp2_with (first
                | refine wpList_load_row 58 _ _ (by rfl) (.tmp 51) rfl (by rfl) RY.out Try.underlying58 rfl (by kernel_rfl) ?_
                | refine wpList_load_row 58 _ _ (by rfl) (.tmp 58) rfl (by rfl) RZ.out Try.underlying58 rfl (by kernel_rfl) ?_
                | (refine wpList_over_hd z rfl (.tmp 60) (.tmp 59) rfl (by rfl) (by rfl) O6.out hjM ?_; intro w7 HO7 HC7; have K7 := Lib.hid (K6.out.chg HC7.out NG.out); have R7 := Lib.hid (show w7.rangeAt w0.heap.size 0 [.int .i64 y.age, .int .i64 y.kind, .int .i64 y.id, .int .i64 y.adv, .int .i64 y.seq, .int .i64 y.sum, .int .i64 y.long] from blk_range7 K7.out))
                | refine wpList_load_row 58 _ _ (by rfl) (.tmp 6) rfl (by rfl) R7.out Try.underlying58 rfl (by kernel_rfl) ?_
                | (refine wpList_over_hd y rfl (.tmp 65) (.tmp 64) rfl (by rfl) (by rfl) HO7.out hiM ?_; intro w8 HO8 HC8))
              have O8 := Lib.hid (show w8.ownsRow bm 58 7 (.slice (some ⟨g, 0, none⟩) M c3) M (cellsBy encHd (insAt K i y)) by rw [← SW.out]; exact HO8.out)
              have B8 := Lib.hid ((B6.out.trans (HC7.out.to_below (fun t ht => by rw [ht]; exact hgb) (Nat.le_trans hz5 (by simp)))).trans (HC8.out.to_below (fun t ht => by rw [ht]; exact hgb) (Nat.le_trans (Nat.le_trans hz5 (by simp)) HC7.out.size)))
              clear HO7 HC7 HO8 HC8 K6 K7 R7 RY RZ O6 O5 B5 B6 SW NG HJ hz5
              go_wp2
              go_roundw
              case rel => exact ⟨i, by go_num, by omega, O8, AI2, B8⟩
              case measure => simp [intOf]; omega
      · have HT2 := Lib.hid (show toldL (S.take (k + 1)) = toldL (S.take k) by
          have := HT.out
          rwa [hg, if_pos rfl] at this)
        have d60 : (x.h.age == 60) = true := hg
        have OS2 := Lib.hid (show Stab lessH (toldL (S.take (k + 1))) K by rw [HT2.out]; exact OS.out)
        clear HT hg HT2 OS HR
        go_wp2
        go_roundw
        case rel => exact ⟨k + 1, m, c', A', K, by go_num, rfl, by omega, by omega, OW, OO, OS2, BW⟩
        case measure => simp [intOf]; omega
    · have hlt' : ¬ (k : Int) < (n : Int) := by omega
      have HT := Lib.hid (show toldL (S.take k) = toldL S by
        rw [List.take_of_length_le (by have := HS.out.1; omega)])
      rw [HT.out] at OS
      go_wp2
      show Q (.returned (.slice A' m c')) wr
      rw [← HQ.out]
      exact ⟨A', m, c', K, rfl, by rw [HBM.out]; exact BW.out, by rw [HBM.out]; exact OW.out, OO.out, OS.out⟩
end Go.Proofs.Ytjinleakjkbbgaa
