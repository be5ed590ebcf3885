/- The document's lists in memory: rows; Find, Has. Conditions: at most 100000 rows, numbers of 64 bits. -/
import Derived.Test.YtndjoanlbaiaeaaKu
import Derived.Test.YtndjoanlbaiaeaaKh
import Derived.Test.YtndjoanlbaiaeaaJai
import Derived.Test.YtndjoanlbaiaeaaJal
namespace Go.Proofs.Ytndjoanlbaiaeaa
open Go.RowKit Go.Lib Go.Sort Go.Deep

def encRw (x : Rw) : List Value := [.int .i64 x.n.1, .int .i64 x.n.2, .int .i64 x.k.kind, .int .i64 x.k.id, .int .i64 x.k.adv]
theorem encRw_len (x : Rw) : (encRw x).length = 5 := rfl
theorem encRw_ones (x : Rw) : ∀ v ∈ encRw x, v.oneCell' = true := fun v hv => by
  simp [encRw] at hv
  rcases hv with rfl | rfl | rfl | rfl | rfl <;> rfl
theorem infoRw : (Try.prog.info? 61).map (fun i => (i.zero, i.size, i.bytes)) = some (some (.agg #[.int .i64 0, .int .i64 0, .int .i64 0, .int .i64 0, .int .i64 0]), 5, 40) := by kernel_rfl
def okRw (x : Rw) : Prop := wfN x.n ∧ wfKy x.k
/-- Block g is the document's lists, L, on the blocks of F alone. -/
def RrIs (w : World) (lo g : Nat) (L : List Rw) (F : Nat → Prop) : Prop :=
  (∀ x ∈ L, okRw x) ∧ ∃ (A : Option Addr) (n c : Nat), Blk w g 29 #[.slice A n c] ∧ lo ≤ g ∧ w.ownsRow lo 61 5 (.slice A n c) n (cellsBy encRw L) ∧ ∀ q, F q ↔ q = g ∨ (Value.slice A n c).ownBlock = some q
section
variable {w w' : World} {lo g : Nat} {L L' : List Rw} {F F' : Nat → Prop}
theorem RrIs.foot (h : RrIs w lo g L F) {q : Nat} (hq : F q) : lo ≤ q ∧ q < w.heap.size := by
  obtain ⟨-, A, n, c, hB, hl, hO, hF⟩ := h
  rcases (hF q).1 hq with rfl | h
  · exact ⟨hl, hB.lt⟩
  · exact hO.lt q h
theorem RrIs.chg (h : RrIs w lo g L F) (hc : Chg F' w w') (hd : ∀ q, F q → ¬ F' q) : RrIs w' lo g L F := by
  obtain ⟨hw, A, n, c, hB, hl, hO, hF⟩ := h
  exact ⟨hw, A, n, c, hB.chg hc (hd g ((hF g).2 (.inl rfl))), hl, own_chg hO hc (fun q hq => hd q ((hF q).2 (.inr hq))), hF⟩
theorem RrIs.below (h : RrIs w lo g L F) (hb : Below w.heap.size w w') : RrIs w' lo g L F := h.chg (Chg.of_below (F := fun _ => False) hb) (fun _ _ hf => hf)
def RrQ (w : World) (lo g : Nat) (L' : List Rw) (F : Nat → Prop) (w' : World) : Prop := ∃ F', RrIs w' lo g L' F' ∧ Chg F w w' ∧ ∀ q, F' q → F q ∨ w.heap.size ≤ q
theorem RrQ.same (h : RrIs w lo g L F) (hb : Below w.heap.size w w') : RrQ w lo g L F w' := ⟨F, h.below hb, Chg.of_below hb, fun _ hq => .inl hq⟩
/-- A new row is laid. -/
theorem RrQ.laid {m c' : Nat} {A' : Option Addr} {bm : Nat} (h : RrIs w lo g L F) (hb : Below w.heap.size w w') (hbm : w.heap.size ≤ bm) (hw' : ∀ x ∈ L', okRw x) (ho : w'.ownsRow bm 61 5 (.slice A' m c') m (cellsBy encRw L')) : RrQ w lo g L' F (w'.setCell ⟨g, 0, none⟩ (.slice A' m c')) := by
  obtain ⟨-, A, n, c, hB, hl, hO, hF⟩ := h
  have hgl := hB.lt
  have hB' := (hB.below hb hB.lt).put 0 (.slice A' m c')
  have hO' := own_set ho ⟨g, 0, none⟩ (.slice A' m c') (show g < bm by omega)
  refine ⟨fun q => q = g ∨ (Value.slice A' m c').ownBlock = some q, ⟨hw', A', m, c', by simpa using hB', hl, own_low hO' (by omega), fun q => Iff.rfl⟩, ?_, fun q hq => ?_⟩
  · refine (Chg.of_below (F := F) hb).trans (Chg.of_grown (F := F) (grown_setCell w' ⟨g, 0, none⟩ (.slice A' m c')) (fun k e => ?_)) (fun q hq => .inl hq)
    injection e with e
    exact (hF k).2 (.inl e.symm)
  · rcases hq with rfl | hq
    · exact .inl ((hF q).2 (.inl rfl))
    · have := (ho.lt q hq).1
      exact .inr (by omega)
theorem own_rw {base n c : Nat} {A : Option Addr} (h : w.ownsRow base 61 5 (.slice A n c) n (cellsBy encRw L)) {j : Nat} {x : Rw} (hj : L[j]? = some x) :
    ∃ q, A = some ⟨q, 0, none⟩ ∧ base ≤ q ∧ q < w.heap.size ∧ n ≤ c ∧ c ≤ maxLen ∧ w.cell? ⟨q, j * 5, none⟩ = some (.int .i64 x.n.1) ∧ w.cell? ⟨q, j * 5 + 1, none⟩ = some (.int .i64 x.n.2) ∧ w.cell? ⟨q, j * 5 + 2, none⟩ = some (.int .i64 x.k.kind) ∧ w.cell? ⟨q, j * 5 + 3, none⟩ = some (.int .i64 x.k.id) ∧ w.cell? ⟨q, j * 5 + 4, none⟩ = some (.int .i64 x.k.adv) := by
  obtain ⟨q, h1, h2, h3, h4, h5, h6⟩ := own_item encRw_len (by omega) h hj
  exact ⟨q, h1, h2, h3, h4, h5, h6 0 (by omega), h6 1 (by omega), h6 2 (by omega), h6 3 (by omega), h6 4 (by omega)⟩
end
/-- A row's place; -1: there is none. -/
def findR (L : List Rw) (x : Rw) : Int := match L.findIdx? fun y => decide (y = x) with
  | none => -1
  | some i => (i : Int)
theorem findR_none {L : List Rw} {x : Rw} (h : ∀ y ∈ L, y ≠ x) : findR L x = -1 := by
  have e : (L.findIdx? fun y => decide (y = x)) = none := by
    rw [List.findIdx?_eq_none_iff]
    intro y hy
    exact decide_eq_false (h y hy)
  unfold findR
  rw [e]
theorem findR_at {L : List Rw} {x : Rw} {j : Nat} (hj : L[j]? = some x) (hn : ∀ m y, m < j → L[m]? = some y → y ≠ x) : findR L x = (j : Int) := by
  obtain ⟨hl, he⟩ := List.getElem?_eq_some_iff.1 hj
  have e : (L.findIdx? fun y => decide (y = x)) = some j := by
    rw [List.findIdx?_eq_some_iff_getElem]
    refine ⟨hl, by rw [he]; exact decide_eq_true rfl, fun m hm hs => ?_⟩
    exact hn m L[m] hm (List.getElem?_eq_getElem (by omega)) (of_decide_eq_true hs)
  unfold findR
  rw [e]
theorem findR_cases (L : List Rw) (x : Rw) : (findR L x = -1 ∧ x ∉ L) ∨ ∃ i : Nat, findR L x = (i : Int) ∧ L[i]? = some x := by
  unfold findR
  cases h : L.findIdx? fun y => decide (y = x) with
  | none =>
    refine .inl ⟨rfl, fun hx => ?_⟩
    rw [List.findIdx?_eq_none_iff] at h
    have := h x hx
    simp at this
  | some i =>
    rw [List.findIdx?_eq_some_iff_getElem] at h
    obtain ⟨hl, he, -⟩ := h
    refine .inr ⟨i, rfl, ?_⟩
    rw [List.getElem?_eq_getElem hl, of_decide_eq_true he]
set_option maxRecDepth 20000 in
set_option maxHeartbeats 8000000 in
theorem find_g {w : World} {lo g : Nat} {L : List Rw} {F : Nat → Prop} (h : RrIs w lo g L F) (n : Int × Int) (hn : wfN n) (k : Ky) (hk : wfKy k) : Calls Try.prog 24 #[.pointer (some ⟨g, 0, none⟩), .int .i64 n.1, .int .i64 n.2, .agg #[.int .i64 k.kind, .int .i64 k.id, .int .i64 k.adv]] w fun e w' => e = .returned (.int .i64 (findR L ⟨n, k⟩)) ∧ ∃ q os', w' = grow (w.drewN q) os' := by
  obtain ⟨hw, A, nn, c, hB, -, hO, -⟩ := h
  generalize hv : findR L ⟨n, k⟩ = v
  have HV := Lib.hid hv
  have HLN := Lib.hid (own_lenH encRw_len (by omega) hO)
  have HW := Lib.hid hw
  have HNK := Lib.hid (show okRw ⟨n, k⟩ from ⟨hn, hk⟩)
  have HO0 := Lib.hid (hO.alloc (.cells #[.int .i64 k.kind, .int .i64 k.id, .int .i64 k.adv] 34))
  have HB0 := Lib.hid (hB.alloc (.cells #[.int .i64 k.kind, .int .i64 k.id, .int .i64 k.adv] 34))
  have K0 := Lib.hid (Blk.new w 34 #[.int .i64 k.kind, .int .i64 k.id, .int .i64 k.adv])
  have HG := Lib.hid (fun d => show ∃ q os', (w.alloc (.cells #[.int .i64 k.kind, .int .i64 k.id, .int .i64 k.adv] 34)).drewN d = grow (w.drewN q) os' from ⟨d, _, by rw [alloc_eq_grow]; rfl⟩)
  clear hv hO hB hw hn hk
  go_enter Try.func24, Try.ntmps24
  go_wp2_with fail
  generalize w.alloc (.cells #[.int .i64 k.kind, .int .i64 k.id, .int .i64 k.adv] 34) = w0 at *
  obtain ⟨k0, k1, k2⟩ := K0.out.three
  have c0 := HB0.out.cell 0
  simp at c0
  go_loopw [9] (fun i wr => ∃ j d : Nat, j ≤ nn ∧ i = .int .i64 j ∧ Hid (∀ m x, m < j → L[m]? = some x → x ≠ ⟨n, k⟩) ∧ wr = w0.drewN d) (fun i _ => nn - (intOf i).toNat)
  case atStart => exact ⟨0, 0, Nat.zero_le _, rfl, Lib.hid (fun _ _ h => absurd h (by omega)), rfl⟩
  case round =>
    obtain ⟨j, d, hj, rfl, HNO, rfl⟩ := hrel
    by_cases hlt : j < nn
    · have hlt' : (j : Int) < nn := by omega
      obtain ⟨x, hx⟩ : ∃ x, L[j]? = some x := ⟨_, List.getElem?_eq_getElem (by have := HLN.out; omega)⟩
      have HX := Lib.hid hx
      obtain ⟨q, rfl, -, hql, hnc, hcm, y0, y1, y2, y3, y4⟩ := own_rw HO0.out hx
      unfold maxLen at hcm
      have eR := fun W => equalRw (HW.out x (List.mem_of_getElem? hx)) HNK.out W
      obtain ⟨v2, hv2⟩ : ∃ v2, decide (x = ⟨n, k⟩) = v2 := ⟨_, rfl⟩
      rw [hv2] at eR
      dsimp only at eR
      have HV2 := Lib.hid hv2
      clear hx hv2
      go_wp2_with fail
      go_quiet (fail)
      clear eR y0 y1 y2 y3 y4
      cases v2
      · have HN2 := Lib.hid (show ∀ m y, m < j + 1 → L[m]? = some y → y ≠ ⟨n, k⟩ from fun m y hm hy => by
          by_cases hmj : m = j
          · subst hmj
            rw [HX.out] at hy
            injection hy with hy
            subst hy
            exact of_decide_eq_false HV2.out
          · exact HNO.out m y (by omega) hy)
        go_wp2
        go_roundw
        case rel => exact ⟨j + 1, _, by omega, by go_num, HN2, rfl⟩
        case measure => simp [intOf]; omega
      · have HE := Lib.hid (findR_at (by rw [HX.out, of_decide_eq_true HV2.out]) HNO.out)
        obtain rfl : v = (j : Int) := by rw [← HV.out]; exact HE.out
        clear HE
        go_wp2
        go_ret
        exact ⟨rfl, by rw [World.drewN_drewN]; exact HG.out _⟩
    · have hlt' : ¬ (j : Int) < nn := by omega
      have HE := Lib.hid (findR_none (L := L) (x := ⟨n, k⟩) (fun y hy => by
        obtain ⟨m, hm⟩ := List.getElem?_of_mem hy
        have hml := (List.getElem?_eq_some_iff.1 hm).1
        exact HNO.out m y (by have := HLN.out; omega) hm))
      obtain rfl : v = -1 := by rw [← HV.out]; exact HE.out
      clear HE
      go_wp2
      go_ret
      exact ⟨rfl, HG.out _⟩
set_option maxRecDepth 20000 in
set_option maxHeartbeats 8000000 in
theorem hasR_g {w : World} {lo g : Nat} {L : List Rw} {F : Nat → Prop} (h : RrIs w lo g L F) (k : Ky) : Calls Try.prog 26 #[.pointer (some ⟨g, 0, none⟩), .agg #[.int .i64 k.kind, .int .i64 k.id, .int .i64 k.adv]] w fun e w' => e = .returned (.bool (hasK L k)) ∧ ∃ q os', w' = grow (w.drewN q) os' := by
  obtain ⟨-, A, nn, c, hB, -, hO, -⟩ := h
  generalize hv : hasK L k = v
  have HV := Lib.hid hv
  have HLN := Lib.hid (own_lenH encRw_len (by omega) hO)
  have HO0 := Lib.hid (hO.alloc (.cells #[.int .i64 k.kind, .int .i64 k.id, .int .i64 k.adv] 34))
  have HB0 := Lib.hid (hB.alloc (.cells #[.int .i64 k.kind, .int .i64 k.id, .int .i64 k.adv] 34))
  have K0 := Lib.hid (Blk.new w 34 #[.int .i64 k.kind, .int .i64 k.id, .int .i64 k.adv])
  have HG := Lib.hid (fun d => show ∃ q os', (w.alloc (.cells #[.int .i64 k.kind, .int .i64 k.id, .int .i64 k.adv] 34)).drewN d = grow (w.drewN q) os' from ⟨d, _, by rw [alloc_eq_grow]; rfl⟩)
  clear hv hO hB
  go_enter Try.func26, Try.ntmps26
  go_wp2_with fail
  generalize w.alloc (.cells #[.int .i64 k.kind, .int .i64 k.id, .int .i64 k.adv] 34) = w0 at *
  obtain ⟨k0, k1, k2⟩ := K0.out.three
  have c0 := HB0.out.cell 0
  simp at c0
  go_loopw [5] (fun i wr => ∃ j d : Nat, j ≤ nn ∧ i = .int .i64 j ∧ Hid (∀ m x, m < j → L[m]? = some x → x.k ≠ k) ∧ wr = w0.drewN d) (fun i _ => nn - (intOf i).toNat)
  case atStart => exact ⟨0, 0, Nat.zero_le _, rfl, Lib.hid (fun _ _ h => absurd h (by omega)), rfl⟩
  case round =>
    obtain ⟨j, d, hj, rfl, HNO, rfl⟩ := hrel
    by_cases hlt : j < nn
    · have hlt' : (j : Int) < nn := by omega
      obtain ⟨x, hx⟩ : ∃ x, L[j]? = some x := ⟨_, List.getElem?_eq_getElem (by have := HLN.out; omega)⟩
      have HX := Lib.hid hx
      obtain ⟨q, rfl, -, hql, hnc, hcm, y0, y1, y2, y3, y4⟩ := own_rw HO0.out hx
      unfold maxLen at hcm
      have eR := fun W => equalKy x.k k W
      obtain ⟨v2, hv2⟩ : ∃ v2, sameKy x.k k = v2 := ⟨_, rfl⟩
      rw [hv2] at eR
      have HV2 := Lib.hid hv2
      clear hx hv2 y0 y1
      go_wp2_with fail
      go_quiet (fail)
      clear eR y2 y3 y4
      cases v2
      · have HN2 := Lib.hid (show ∀ m y, m < j + 1 → L[m]? = some y → y.k ≠ k from fun m y hm hy => by
          by_cases hmj : m = j
          · subst hmj
            rw [HX.out] at hy
            injection hy with hy
            subst hy
            intro e
            have := HV2.out
            rw [(sameKy_iff _ _).2 e] at this
            cases this
          · exact HNO.out m y (by omega) hy)
        go_wp2
        go_roundw
        case rel => exact ⟨j + 1, _, by omega, by go_num, HN2, rfl⟩
        case measure => simp [intOf]; omega
      · have HE := Lib.hid (show hasK L k = true from by
          rw [hasK_iff]
          refine ⟨x.n, ?_⟩
          have e := (sameKy_iff _ _).1 HV2.out
          rw [← e]
          exact List.mem_of_getElem? HX.out)
        obtain rfl : v = true := by rw [← HV.out]; exact HE.out
        clear HE
        go_wp2
        go_ret
        exact ⟨rfl, by rw [World.drewN_drewN]; exact HG.out _⟩
    · have hlt' : ¬ (j : Int) < nn := by omega
      have HE := Lib.hid (show hasK L k = false from by
        cases hh : hasK L k with
        | false => rfl
        | true =>
          obtain ⟨n, hn⟩ := hasK_iff.1 hh
          obtain ⟨m, hm⟩ := List.getElem?_of_mem hn
          have hml := (List.getElem?_eq_some_iff.1 hm).1
          exact absurd rfl (HNO.out m _ (by have := HLN.out; omega) hm))
      obtain rfl : v = false := by rw [← HV.out]; exact HE.out
      clear HE
      go_wp2
      go_ret
      exact ⟨rfl, HG.out _⟩
end Go.Proofs.Ytndjoanlbaiaeaa
