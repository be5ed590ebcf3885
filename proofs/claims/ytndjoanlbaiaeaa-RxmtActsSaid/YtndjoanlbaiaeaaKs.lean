/- The document's list of a neighbor: its keys, in order. Conditions: at most 100000 rows, numbers of 64 bits. -/
import Derived.Test.YtndjoanlbaiaeaaKr
import Derived.Test.YtndjoanlbaiaeaaKn
namespace Go.Proofs.Ytndjoanlbaiaeaa
open Go.RowKit Go.Lib Go.Sort Go.Deep

/-- A row with a key put at place k. -/
def insAtK (K : List Ky) (k : Nat) (x : Ky) : List Ky := K.take k ++ x :: K.drop k
theorem insAtK_len (K : List Ky) (k : Nat) (x : Ky) : (insAtK K k x).length = K.length + 1 := by
  unfold insAtK
  rw [List.length_append, List.length_cons, List.length_take, List.length_drop]
  omega
theorem insAtK_end (K : List Ky) (x : Ky) : insAtK K K.length x = K ++ [x] := by
  unfold insAtK
  rw [List.take_length, List.drop_length]
theorem insAtK_at (K : List Ky) (k : Nat) (x : Ky) (hk : k ≤ K.length) : (insAtK K k x)[k]? = some x := by
  unfold insAtK
  rw [List.getElem?_append_right (by rw [List.length_take]; omega), List.length_take, show k - min k K.length = 0 by omega]
  rfl
theorem insAtK_before (K : List Ky) (k j : Nat) (x y : Ky) (hj : j < k) (hy : K[j]? = some y) : (insAtK K k x)[j]? = some y := by
  have := (List.getElem?_eq_some_iff.1 hy).1
  unfold insAtK
  rw [List.getElem?_append_left (by rw [List.length_take]; omega), List.getElem?_take_of_lt hj, hy]
theorem insAtK_swap (K : List Ky) (j : Nat) (x y : Ky) (hy : K[j]? = some y) : ((insAtK K (j + 1) x).set (j + 1) y).set j x = insAtK K j x := by
  have hl := (List.getElem?_eq_some_iff.1 hy).1
  have e : K.take (j + 1) = K.take j ++ [y] := by rw [List.take_add_one, hy]; rfl
  unfold insAtK
  rw [e, drop_at hy]
  have h1 : (K.take j).length = j := by rw [List.length_take]; omega
  generalize K.drop (j + 1) = D
  generalize hP : K.take j = P at *
  subst h1
  simp
/-- All behind place k are above x. -/
def AboveK (K : List Ky) (k : Nat) (x : Ky) : Prop := ∀ t ∈ K.drop k, lessKy x t = true
theorem AboveK.end_ (K : List Ky) (x : Ky) : AboveK K K.length x := fun t ht => by
  rw [List.drop_length] at ht
  cases ht
theorem AboveK.step {K : List Ky} {j : Nat} {x y : Ky} (h : AboveK K (j + 1) x) (hy : K[j]? = some y) (hl : lessKy x y = true) : AboveK K j x := fun t ht => by
  rw [drop_at hy] at ht
  rcases List.mem_cons.1 ht with rfl | ht
  · exact hl
  · exact h t ht
/-- Put in its place, it is in order. -/
theorem AboveK.done {P K : List Ky} {k : Nat} {x : Ky} (hK : K = srtK P) (h : AboveK K k x) (hx : x ∉ P) (hs : k = 0 ∨ ∃ y, K[k - 1]? = some y ∧ lessKy x y = false) : insAtK K k x = srtK (P ++ [x]) := by
  have hSt : Strict K := by rw [hK]; exact (srt_all P).1
  have hmem : ∀ y, y ∈ K ↔ y ∈ P := by rw [hK]; exact (srt_all P).2
  have e : K = K.take k ++ K.drop k := (List.take_append_drop k K).symm
  have hlow : ∀ a ∈ K.take k, lessKy a x = true := fun a ha => by
    rcases hs with rfl | ⟨y, hy, hl⟩
    · simp at ha
    · have hyx : lessKy y x = true := lessKy_total hl (fun e => hx (by rw [e]; exact (hmem y).1 (List.mem_of_getElem? hy)))
      obtain ⟨i, hi⟩ := List.getElem?_of_mem ha
      have hil := (List.getElem?_eq_some_iff.1 hi).1
      rw [List.length_take] at hil
      rw [List.getElem?_take_of_lt (by omega)] at hi
      have hyl := (List.getElem?_eq_some_iff.1 hy).1
      by_cases hik : i = k - 1
      · subst hik
        rw [hi] at hy
        injection hy with hy
        rw [hy]
        exact hyx
      · have h3 := List.pairwise_iff_getElem.1 hSt i (k - 1) (by omega) hyl (by omega)
        rw [(List.getElem?_eq_some_iff.1 hi).2, (List.getElem?_eq_some_iff.1 hy).2] at h3
        exact lessKy_trans h3 hyx
  have hS2 : Strict (insAtK K k x) := by
    unfold Strict at hSt ⊢
    rw [e] at hSt
    obtain ⟨o1, o2, o3⟩ := List.pairwise_append.1 hSt
    unfold insAtK
    refine List.pairwise_append.2 ⟨o1, List.pairwise_cons.2 ⟨h, o2⟩, fun a ha b hb => ?_⟩
    rcases List.mem_cons.1 hb with rfl | hb
    · exact hlow a ha
    · exact o3 a ha b hb
  refine ky_ext hS2 (srt_all _).1 fun y => ?_
  rw [(srt_all _).2, List.mem_append, List.mem_singleton, ← hmem]
  unfold insAtK
  conv => rhs; rw [e]
  rw [List.mem_append, List.mem_append, List.mem_cons]
  constructor
  · rintro (h | h | h)
    · exact .inl (.inl h)
    · exact .inr h
    · exact .inl (.inr h)
  · rintro ((h | h) | h)
    · exact .inl h
    · exact .inr (.inr h)
    · exact .inr (.inl h)
theorem ky_set : ∀ (M : List Ky) (k : Nat) (y : Ky), k < M.length → kyCells (M.set k y) = (((kyCells M).set (k * 3) (.int .i64 y.kind)).set (k * 3 + 1) (.int .i64 y.id)).set (k * 3 + 2) (.int .i64 y.adv)
  | [], k, y, h => by simp at h
  | x :: M, 0, y, _ => by simp [kyCells_cons]
  | x :: M, k + 1, y, h => by
    have ih := ky_set M k y (by simpa using h)
    rw [List.set_cons_succ, kyCells_cons, ih, kyCells_cons]
    rw [show (k + 1) * 3 = k * 3 + 1 + 1 + 1 by omega]
    simp only [List.cons_append, List.nil_append, List.set_cons_succ]
theorem own_putK {w : World} {base n b c j : Nat} {L : List Ky} (h : w.ownsRow base 34 3 (.slice (some ⟨b, 0, none⟩) n c) n (kyCells L)) (hj : j < L.length) (y : Ky) :
    (w.setCells b (j * 3) (encKy y)).ownsRow base 34 3 (.slice (some ⟨b, 0, none⟩) n c) n (kyCells (L.set j y)) := by
  have h1 := own_setCells (encKy y) (j * 3) w _ h
  rw [ky_set L j y hj]
  exact h1
theorem encKy_ones (y : Ky) : ∀ v ∈ encKy y, v.oneCell' = true := fun v hv => by
  simp [encKy] at hv
  rcases hv with rfl | rfl | rfl <;> rfl
/-- A key stored over an item of a row. -/
theorem wpList_over_ky {ops : Array Oper} {rest : List Oper} {op : Oper} {a : Act} {w : World} {Q : Exit → Act → World → Prop} {base n c g k : Nat} {L : List Ky} (y : Ky) (hg : op.guard = none) (x v : Operand) (ho : op.op = .store 34 x v) (hx : a.eval x = .pointer (some ⟨g, k * 3, none⟩)) (hv : a.eval v = .agg #[.int .i64 y.kind, .int .i64 y.id, .int .i64 y.adv])
    (hown : w.ownsRow base 34 3 (.slice (some ⟨g, 0, none⟩) n c) n (kyCells L)) (hk : k < n)
    (hn : ∀ w', Hid (w'.ownsRow base 34 3 (.slice (some ⟨g, 0, none⟩) n c) n (kyCells (L.set k y))) → Hid (Chg (fun q => q = g) w w') → wpList Try.prog ops Q rest (a.put op.dst undef) w') : wpList Try.prog ops Q (op :: rest) a w :=
  wpList_store_mid hg 34 x v ho g (k * 3) (encKy y).toArray hx hv (own_thereH hown hk) (by kernel_rfl) (all_oneCell_toArray (encKy_ones y)) (hn _ (Lib.hid (own_putK hown (by rw [own_lenK hown]; exact hk) y)) (Lib.hid (chg_setCells g _ _ _)))
theorem onL_snoc (L : List Rw) (x : Rw) (n : Int × Int) : onL (L ++ [x]) n = if x.n = n then onL L n ++ [x.k] else onL L n := by
  unfold onL
  rw [List.filter_append]
  by_cases h : x.n = n
  · rw [if_pos h, List.filter_cons_of_pos (by simp [h])]
    simp
  · rw [if_neg h, List.filter_cons_of_neg (by simp [h])]
    simp
theorem take_snocR {L : List Rw} {k : Nat} {x : Rw} (hx : L[k]? = some x) : L.take (k + 1) = L.take k ++ [x] := by rw [List.take_add_one, hx]; rfl
theorem onL_fresh {L : List Rw} (hn : L.Nodup) {k : Nat} {x : Rw} (hx : L[k]? = some x) : x.k ∉ onL (L.take k) x.n := fun hm => by
  have h1 := mem_onL.1 hm
  have h2 : (L.take (k + 1)).Nodup := hn.sublist (List.take_sublist _ _)
  rw [take_snocR hx] at h2
  exact (List.nodup_append.1 h2).2.2 x h1 x (List.mem_singleton.2 rfl) rfl
/-- What List answers. -/
def ListQ (K : List Ky) (w : World) (e : Ending) (w' : World) : Prop := ∃ (A : Option Addr) (m c : Nat), e = .returned (.slice A m c) ∧ Below w.heap.size w w' ∧ w'.ownsRow w.heap.size 34 3 (.slice A m c) m (kyCells (srtK K))
set_option maxRecDepth 20000 in
set_option maxHeartbeats 16000000 in
theorem list_r {w : World} {lo g : Nat} {L : List Rw} {F : Nat → Prop} (h : RrIs w lo g L F) (hnd : L.Nodup) (n : Int × Int) (hl : L.length ≤ 100000) : Calls Try.prog 18 #[.pointer (some ⟨g, 0, none⟩), .int .i64 n.1, .int .i64 n.2] w (ListQ (onL L n) w) := by
  obtain ⟨-, A, nn, c, hB, -, hO, -⟩ := h
  generalize hQ : ListQ (onL L n) w = Q
  have HQ := Lib.hid hQ
  have HLN := Lib.hid (own_lenH encRw_len (by omega) hO)
  have HO := Lib.hid hO
  have HB := Lib.hid hB
  have HND := Lib.hid hnd
  have hgl := hB.lt
  have O0 := Lib.hid (World.ownsRow_nil w w.heap.size 34 3)
  have B0 := Lib.hid (Below.refl w.heap.size w)
  have hnn : nn ≤ 100000 := by have := HLN.out; omega
  generalize hbm : w.heap.size = bm at *
  have HBM := Lib.hid hbm
  clear hQ hO hB hnd hl hbm
  have mixed : Try.prog.follows .mixedOrders = true := by kernel_rfl
  go_enter Try.func18, Try.ntmps18
  go_wp2_with fail
  go_loopw [7, 8] (fun s7 s8 wr => ∃ (k m c' : Nat) (A' : Option Addr), s8 = .int .i64 k ∧ s7 = .slice A' m c' ∧ k ≤ nn ∧ m ≤ k ∧ Hid (wr.ownsRow bm 34 3 (.slice A' m c') m (kyCells (srtK (onL (L.take k) n)))) ∧ Hid (Below bm w wr)) (fun _ s8 _ => nn - (intOf s8).toNat)
  case atStart => exact ⟨0, 0, 0, none, rfl, rfl, Nat.zero_le _, Nat.le_refl _, Lib.hid (by simpa [kyCells, onL, srtK] using O0.out), B0⟩
  case round =>
    clear O0 B0
    obtain ⟨k, m, c', A', rfl, rfl, hk, hmk, OW, BW⟩ := hrel
    have HBB := Lib.hid (show Below w.heap.size w wr by rw [HBM.out]; exact BW.out)
    have hz : bm ≤ wr.heap.size := by have := BW.out.size; have := HBM.out; omega
    have c0 := (HB.out.below HBB.out (by rw [HBM.out]; exact hgl)).cell 0
    simp at c0
    by_cases hlt : k < nn
    · have hlt' : (k : Int) < (nn : Int) := by omega
      obtain ⟨x, hx⟩ : ∃ x, L[k]? = some x := ⟨_, List.getElem?_eq_getElem (by have := HLN.out; omega)⟩
      obtain ⟨q, rfl, -, hql, hnc, hcq, y0, y1, y2, y3, y4⟩ := own_rw (own_below2 HO.out HBB.out) hx
      unfold maxLen at hcq
      have HS := Lib.hid (onL_snoc (L.take k) x n)
      rw [← take_snocR hx] at HS
      have HFR := Lib.hid (onL_fresh HND.out hx)
      clear hx
      by_cases he : x.n = n
      · have HS2 := Lib.hid (show onL (L.take (k + 1)) n = onL (L.take k) n ++ [x.k] by rw [HS.out, if_pos he])
        have HF2 := Lib.hid (show x.k ∉ onL (L.take k) n by rw [← he]; exact HFR.out)
        have d1 : (x.n.1 != n.1) = false := by rw [he]; simp
        have d2 : (x.n.2 != n.2) = false := by rw [he]; simp
        clear he HS HFR
        obtain ⟨y, hy⟩ : ∃ y, y = x.k := ⟨_, rfl⟩
        rw [← hy] at y2 y3 y4 HS2 HF2
        clear hy
        obtain ⟨P, hP⟩ : ∃ P, onL (L.take k) n = P := ⟨_, rfl⟩
        rw [hP] at OW HS2 HF2
        obtain ⟨K, hK⟩ : ∃ K, K = srtK P := ⟨_, rfl⟩
        rw [← hK] at OW
        have HKP := Lib.hid hK
        clear hP hK
        go_wp2_with (at_builtin; refine wpList_app_ky3 rfl (.tmp 42) (.tmp 51) rfl y (g := wr.heap.size) rfl (by rfl) (by rfl) OW.out (by omega) hz ?_; intro A3 c3 w3 HO3 HC3)
        have hKm := own_lenK OW.out
        have B3 := Lib.hid (BW.out.trans (HC3.out.to_below (fun q hq => (OW.out.lt q hq).1) hz))
        have O3 := Lib.hid (show w3.ownsRow bm 34 3 (.slice A3 (m + 1) c3) (m + 1) (kyCells (insAtK K m y)) by rw [← hKm, insAtK_end, hKm]; exact HO3.out)
        have AB := Lib.hid (show AboveK K m y by rw [← hKm]; exact AboveK.end_ K y)
        have HKM := Lib.hid hKm
        clear HO3 HC3 OW BW hz hKm d1 d2 y0 y1 y2 y3 y4 c0 HBB
        obtain ⟨M, hM⟩ : ∃ M, M = m + 1 := ⟨_, rfl⟩
        rw [← hM] at O3 ⊢
        have eM : (M : Int) - 1 = (m : Int) := by omega
        have w_m : IntKind.i64.wrap (m : Int) = (m : Int) := by rw [IntKind.wrap_i64]; omega
        have hMm : M ≤ k + 1 := by omega
        have hmM : m < M := by omega
        clear hM
        go_wp2_with fail
        go_loopw [9] (fun s9 wi => ∃ j : Nat, s9 = .int .i64 j ∧ j ≤ m ∧ Hid (wi.ownsRow bm 34 3 (.slice A3 M c3) M (kyCells (insAtK K j y))) ∧ Hid (AboveK K j y) ∧ Hid (Below bm w wi)) (fun s9 _ => (intOf s9).toNat)
        case atStart => exact ⟨m, by first | rfl | go_num, Nat.le_refl _, O3, AB, B3⟩
        case round =>
          clear O3 AB B3 eM w_m
          obtain ⟨j, rfl, hj, OI, AI, BI⟩ := hrel
          by_cases h0 : j = 0
          · subst h0
            have d0 : decide ((0 : Int) < ((0 : Nat) : Int)) = false := by simp
            have B4 := Lib.hid (fun q => BI.out.trans (⟨rfl, rfl, rfl, Nat.le_refl _, fun _ _ => rfl⟩ : Below bm wr (wr.drewN q)))
            have O4 := Lib.hid (fun q => own_chg OI.out (Chg.of_below (F := fun _ => False) (⟨rfl, rfl, rfl, Nat.le_refl _, fun _ _ => rfl⟩ : Below wr.heap.size wr (wr.drewN q))) (fun _ _ hf => hf))
            have E4 := Lib.hid (show insAtK K 0 y = srtK (onL (L.take (k + 1)) n) by rw [HS2.out]; exact AI.out.done HKP.out HF2.out (.inl rfl))
            rw [E4.out] at O4
            go_wp2_with fail
            go_quiet (fail)
            clear OI BI AI HS2 E4
            go_wp2
            go_roundw
            case rel => exact ⟨k + 1, M, c3, A3, by go_num, by first | rfl | go_num, by omega, by omega, Lib.hid (O4.out nq), Lib.hid (B4.out nq)⟩
            case measure => simp [intOf]; omega
          · obtain ⟨i, hi⟩ : ∃ i, j = i + 1 := ⟨j - 1, by omega⟩
            have d0 : decide (0 < j) = true := by simp; omega
            have hiK : i < K.length := by have := HKM.out; omega
            obtain ⟨z, hz⟩ : ∃ z, K[i]? = some z := ⟨_, List.getElem?_eq_getElem hiK⟩
            have hyj := insAtK_at K j y (by omega)
            have hzi := insAtK_before K j i y z (by omega) hz
            obtain ⟨g2, rfl, hgb, hgl2, hMc, hcm, a0, a1, a2⟩ := own_kyH OI.out hyj
            obtain ⟨g3, e2, -, -, -, -, b0, b1, b2⟩ := own_kyH OI.out hzi
            injection e2 with e2
            injection e2 with e2
            subst e2
            unfold maxLen at hcm
            have e1 : (j : Int) - 1 = (i : Int) := by omega
            have w_i : IntKind.i64.wrap (i : Int) = (i : Int) := by rw [IntKind.wrap_i64]; omega
            have j_u : (j : Int) < (M : Int) := by omega
            have i_u : (i : Int) < (M : Int) := by omega
            have hjM : j < M := by omega
            have hiM : i < M := by omega
            clear hyj hzi
            have ga0 := fun n os => cell_grown (n := n) (os := os) hgl2 a0
            have ga1 := fun n os => cell_grown (n := n) (os := os) hgl2 a1
            have ga2 := fun n os => cell_grown (n := n) (os := os) hgl2 a2
            have gb0 := fun n os => cell_grown (n := n) (os := os) hgl2 b0
            have gb1 := fun n os => cell_grown (n := n) (os := os) hgl2 b1
            have gb2 := fun n os => cell_grown (n := n) (os := os) hgl2 b2
            clear a0 a1 a2 b0 b1 b2
            have p3 := fun n os => Calls.grown_of (less_grown y z (grow (wr.drewN n) os))
            obtain ⟨v, hv⟩ : ∃ v, lessKy y z = v := ⟨_, rfl⟩
            rw [hv] at p3
            have HV := Lib.hid hv
            have HZ := Lib.hid hz
            have HJ := Lib.hid hi
            have hgr : ∀ n os, Below wr.heap.size wr (grow (wr.drewN n) os) := fun n os => below_grown13 ⟨n, os, rfl⟩
            have hbz : bm ≤ wr.heap.size := by have := BI.out.size; have := HBM.out; omega
            have B4 := Lib.hid (fun n os => BI.out.trans ((hgr n os).mono hbz))
            have O4 := Lib.hid (fun n os => own_chg OI.out (Chg.of_below (F := fun _ => False) (hgr n os)) (fun _ _ hf => hf))
            clear hv hz hi hiK OI BI h0 hgr hbz
            go_wp2_with fail
            go_quiet_grown (first | (go_at_call 29; with_reducible exact p3 _ _))
            clear p3 ga0 ga1 ga2 gb0 gb1 gb2
            have O5 := Lib.hid (O4.out nq osq)
            have B5 := Lib.hid (B4.out nq osq)
            clear O4 B4
            generalize grow (wr.drewN nq) osq = w0 at *
            cases v
            · have E4 := Lib.hid (show insAtK K j y = srtK (onL (L.take (k + 1)) n) by
                rw [HS2.out]
                exact AI.out.done HKP.out HF2.out (.inr ⟨z, by rw [HJ.out, Nat.add_sub_cancel]; exact HZ.out, HV.out⟩))
              rw [E4.out] at O5
              clear AI HS2 HJ HV HZ E4
              go_wp2
              go_roundw
              case rel => exact ⟨k + 1, M, c3, _, by go_num, by first | rfl | go_num, by omega, by omega, O5, B5⟩
              case measure => simp [intOf]; omega
            · have hzi2 := Lib.hid (insAtK_before K j i y z (by have := HJ.out; omega) HZ.out)
              have hyj2 := Lib.hid (insAtK_at K j y (by have := HKM.out; omega))
              have AI2 := Lib.hid (show AboveK K i y by
                have := AI.out
                rw [HJ.out] at this
                exact this.step HZ.out HV.out)
              have SW := Lib.hid (show ((insAtK K j y).set j z).set i y = insAtK K i y by
                rw [HJ.out]
                exact insAtK_swap K i y z HZ.out)
              have hz5 : bm ≤ w0.heap.size := by have := B5.out.size; have := HBM.out; omega
              have O6 := Lib.hid (O5.out.alloc (.cells #[.int .i64 y.kind, .int .i64 y.id, .int .i64 y.adv] 34))
              have B6 := Lib.hid (B5.out.alloc hz5 (.cells #[.int .i64 y.kind, .int .i64 y.id, .int .i64 y.adv] 34))
              have K6 := Lib.hid (Blk.new w0 34 #[.int .i64 y.kind, .int .i64 y.id, .int .i64 y.adv])
              have RY := Lib.hid (key_range O5.out hyj2.out)
              have RZ := Lib.hid (key_range O6.out hzi2.out)
              have NG := Lib.hid (show w0.heap.size ≠ g2 from by
                have := O5.out.2
                intro e
                rcases this with ⟨hv, _⟩ | ⟨g', cap, cur, hv, hb', hg', -⟩
                · cases hv
                · cases hv
                  have := (Array.getElem?_eq_some_iff.1 hg').1
                  omega)
              clear AI hzi2 hyj2 HZ HV
              go_wp2_with (first
                | refine wpList_load_row 34 _ _ (by rfl) (.tmp 74) rfl (by rfl) RY.out Try.underlying34 rfl (by kernel_rfl) ?_
                | refine wpList_load_row 34 _ _ (by rfl) (.tmp 81) rfl (by rfl) RZ.out Try.underlying34 rfl (by kernel_rfl) ?_
                | (refine wpList_over_ky z rfl (.tmp 83) (.tmp 82) rfl (by rfl) (by rfl) O6.out hjM ?_; intro w7 HO7 HC7; have K7 := Lib.hid (K6.out.chg HC7.out NG.out); have R7 := Lib.hid (show w7.rangeAt w0.heap.size 0 [.int .i64 y.kind, .int .i64 y.id, .int .i64 y.adv] from blk_range7 K7.out))
                | refine wpList_load_row 34 _ _ (by rfl) (.tmp 10) rfl (by rfl) R7.out Try.underlying34 rfl (by kernel_rfl) ?_
                | (refine wpList_over_ky y rfl (.tmp 88) (.tmp 87) rfl (by rfl) (by rfl) HO7.out hiM ?_; intro w8 HO8 HC8))
              have O8 := Lib.hid (show w8.ownsRow bm 34 3 (.slice (some ⟨g2, 0, none⟩) M c3) M (kyCells (insAtK K i y)) by rw [← SW.out]; exact HO8.out)
              have B8 := Lib.hid ((B6.out.trans (HC7.out.to_below (fun t ht => by rw [ht]; exact hgb) (Nat.le_trans hz5 (by simp)))).trans (HC8.out.to_below (fun t ht => by rw [ht]; exact hgb) (Nat.le_trans (Nat.le_trans hz5 (by simp)) HC7.out.size)))
              clear HO7 HC7 HO8 HC8 K6 K7 R7 RY RZ O6 O5 B5 B6 SW NG HJ hz5
              go_wp2
              go_roundw
              case rel => exact ⟨i, by go_num, by omega, O8, AI2, B8⟩
              case measure => simp [intOf]; omega
      · have HS2 := Lib.hid (show onL (L.take (k + 1)) n = onL (L.take k) n by rw [HS.out, if_neg he])
        have OW2 := Lib.hid (show wr.ownsRow bm 34 3 (.slice A' m c') m (kyCells (srtK (onL (L.take (k + 1)) n))) by rw [HS2.out]; exact OW.out)
        by_cases h1 : x.n.1 = n.1
        · have h2 : ¬ x.n.2 = n.2 := fun e => he (Prod.ext h1 e)
          have d1 : (x.n.1 != n.1) = false := by simp [h1]
          have d2 : (x.n.2 != n.2) = true := by simp [h2]
          clear h1 h2 he HS HFR OW HBB
          go_wp2
          go_roundw
          case rel => exact ⟨k + 1, m, c', A', by go_num, rfl, by omega, by omega, OW2, BW⟩
          case measure => simp [intOf]; omega
        · have d1 : (x.n.1 != n.1) = true := by simp [h1]
          clear h1 he HS HFR OW HBB
          go_wp2
          go_roundw
          case rel => exact ⟨k + 1, m, c', A', by go_num, rfl, by omega, by omega, OW2, BW⟩
          case measure => simp [intOf]; omega
    · have hlt' : ¬ (k : Int) < (nn : Int) := by omega
      have HT := Lib.hid (show L.take k = L from List.take_of_length_le (by have := HLN.out; omega))
      rw [HT.out] at OW
      go_wp2
      show Q (.returned (.slice A' m c')) wr
      rw [← HQ.out]
      exact ⟨A', m, c', rfl, by rw [HBM.out]; exact BW.out, by rw [HBM.out]; exact OW.out⟩
end Go.Proofs.Ytndjoanlbaiaeaa
