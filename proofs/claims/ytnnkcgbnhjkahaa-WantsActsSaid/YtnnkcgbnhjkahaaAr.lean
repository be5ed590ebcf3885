/- The reference's list of what is wanted, in memory; its Find. Conditions: at most 100000 heads. -/
import Derived.Test.YtnnkcgbnhjkahaaAi
import Derived.Test.YtnnkcgbnhjkahaaAx
import Derived.Test.YtnnkcgbnhjkahaaJas
import Derived.Test.YtnnkcgbnhjkahaaJaq
namespace Go.Proofs.Ytnnkcgbnhjkahaa
open Go.RowKit Go.Lib Go.Sort Go.Deep

/-- Block g is the reference's list of what is wanted, S, on the blocks of F alone. -/
def RwIs (w : World) (lo g : Nat) (S : List Hd) (F : Nat → Prop) : Prop :=
  ∃ (A : Option Addr) (n c : Nat), Blk w g 29 #[.slice A n c] ∧ lo ≤ g ∧ w.ownsRow lo 38 7 (.slice A n c) n (cellsBy encHd S) ∧ ∀ q, F q ↔ q = g ∨ (Value.slice A n c).ownBlock = some q
theorem RwIs.foot {w : World} {lo g : Nat} {S : List Hd} {F : Nat → Prop} (h : RwIs w lo g S F) {q : Nat} (hq : F q) : lo ≤ q ∧ q < w.heap.size := by
  obtain ⟨A, n, c, hB, hl, hO, hF⟩ := h
  rcases (hF q).1 hq with rfl | h
  · exact ⟨hl, hB.lt⟩
  · exact hO.lt q h
theorem RwIs.chg {w w' : World} {lo g : Nat} {S : List Hd} {F F' : Nat → Prop} (h : RwIs w lo g S F) (hc : Chg F' w w') (hd : ∀ q, F q → ¬ F' q) : RwIs w' lo g S F := by
  obtain ⟨A, n, c, hB, hl, hO, hF⟩ := h
  exact ⟨A, n, c, hB.chg hc (hd g ((hF g).2 (.inl rfl))), hl, own_chg hO hc (fun q hq => hd q ((hF q).2 (.inr hq))), hF⟩
theorem RwIs.below {w w' : World} {lo g : Nat} {S : List Hd} {F : Nat → Prop} (h : RwIs w lo g S F) (hb : Below w.heap.size w w') : RwIs w' lo g S F := h.chg (Chg.of_below (F := fun _ => False) hb) (fun _ _ hf => hf)
/-- A key's place; -1: it isn't wanted. -/
def findI (S : List Hd) (k : Ky) : Int := match placeH S k with
  | none => -1
  | some i => (i : Int)
theorem findI_none {S : List Hd} {k : Ky} (h : ∀ x ∈ S, keyH x ≠ k) : findI S k = -1 := by
  have e : placeH S k = none := by
    unfold placeH
    rw [List.findIdx?_eq_none_iff]
    intro x hx
    cases hs : sameKy (keyH x) k
    · rfl
    · exact absurd ((sameKy_iff _ _).1 hs) (h x hx)
  unfold findI
  rw [e]
theorem findI_at {S : List Hd} {k : Ky} {j : Nat} {x : Hd} (hj : S[j]? = some x) (hk : keyH x = k) (hn : ∀ m y, m < j → S[m]? = some y → keyH y ≠ k) : findI S k = (j : Int) := by
  obtain ⟨hl, he⟩ := List.getElem?_eq_some_iff.1 hj
  have e : placeH S k = some j := by
    unfold placeH
    rw [List.findIdx?_eq_some_iff_getElem]
    refine ⟨hl, by rw [he]; exact (sameKy_iff _ _).2 hk, fun m hm hs => ?_⟩
    exact hn m S[m] hm (List.getElem?_eq_getElem (by omega)) ((sameKy_iff _ _).1 hs)
  unfold findI
  rw [e]
set_option maxRecDepth 20000 in
set_option maxHeartbeats 8000000 in
theorem find_r {w : World} {lo g : Nat} {S : List Hd} {F : Nat → Prop} (h : RwIs w lo g S F) (k : Ky) : Calls Try.prog 24 #[.pointer (some ⟨g, 0, none⟩), .agg #[.int .i64 k.kind, .int .i64 k.id, .int .i64 k.adv]] w fun e w' => e = .returned (.int .i64 (findI S k)) ∧ Below w.heap.size w w' := by
  obtain ⟨A, n, c, hB, -, hO, -⟩ := h
  generalize hv : findI S k = v
  have HV := Lib.hid hv
  have HSN := Lib.hid (own_lenH encHd_len (by omega) hO)
  have HO := Lib.hid hO
  have HB := Lib.hid hB
  have hgl := hB.lt
  clear hv hO hB
  have B0 := Lib.hid ((Below.refl w.heap.size w).alloc (Nat.le_refl _) (.cells #[.int .i64 k.kind, .int .i64 k.id, .int .i64 k.adv] 47))
  have K0 := Lib.hid (Blk.new w 47 #[.int .i64 k.kind, .int .i64 k.id, .int .i64 k.adv])
  have mixed : Try.prog.follows .mixedOrders = true := by kernel_rfl
  go_enter Try.func24, Try.ntmps24
  go_wp2_with fail
  generalize hw0 : w.alloc (.cells #[.int .i64 k.kind, .int .i64 k.id, .int .i64 k.adv] 47) = w0 at *
  have hs0 := B0.out.size
  have hlk := K0.out.lt
  have hgl0 : g < w0.heap.size := by omega
  clear hw0
  go_loopw [5] (fun i wr => ∃ j : Nat, j ≤ n ∧ i = .int .i64 j ∧ Hid (∀ m x, m < j → S[m]? = some x → keyH x ≠ k) ∧ Hid (Below w0.heap.size w0 wr)) (fun i _ => n - (intOf i).toNat)
  case atStart => exact ⟨0, Nat.zero_le _, rfl, Lib.hid (fun _ _ h => absurd h (by omega)), Lib.hid (Below.refl _ _)⟩
  case round =>
    obtain ⟨j, hj, rfl, HNO, hb⟩ := hrel
    have hsz := hb.out.size
    have HW := Lib.hid (B0.out.trans (hb.out.mono hs0))
    have c0 := (HB.out.below HW.out hgl).cell 0
    simp at c0
    have hgr0 : g < wr.heap.size := by omega
    by_cases hlt : j < n
    · have hlt' : (j : Int) < n := by omega
      obtain ⟨x, hx⟩ : ∃ x, S[j]? = some x := ⟨_, List.getElem?_eq_getElem (by have := HSN.out; omega)⟩
      obtain ⟨q, rfl, -, hql, -, hnc, hcm, hr⟩ := item_range7 (own_below2 HO.out HW.out) hx
      unfold maxLen at hcm
      obtain ⟨z0, z1, z2, z3, z4, z5, z6⟩ := cells7 hr
      obtain ⟨y0, y1, y2⟩ := (K0.out.below hb.out hlk).three
      have hyl : w.heap.size < wr.heap.size := by omega
      have HX := Lib.hid hx
      have gc0 := fun n os => cell_grown (n := n) (os := os) hgr0 c0
      have gz0 := fun n os => cell_grown (n := n) (os := os) hql z0
      have gz1 := fun n os => cell_grown (n := n) (os := os) hql z1
      have gz2 := fun n os => cell_grown (n := n) (os := os) hql z2
      have gz3 := fun n os => cell_grown (n := n) (os := os) hql z3
      have gz4 := fun n os => cell_grown (n := n) (os := os) hql z4
      have gz5 := fun n os => cell_grown (n := n) (os := os) hql z5
      have gz6 := fun n os => cell_grown (n := n) (os := os) hql z6
      have gy0 := fun n os => cell_grown (n := n) (os := os) hyl y0
      have gy1 := fun n os => cell_grown (n := n) (os := os) hyl y1
      have gy2 := fun n os => cell_grown (n := n) (os := os) hyl y2
      have p1 := fun n os => Calls.grown_of (key13_grown x (grow (wr.drewN n) os))
      have eK := fun W => equalKy (keyH x) k W
      obtain ⟨v2, hv2⟩ : ∃ v, sameKy (keyH x) k = v := ⟨_, rfl⟩
      rw [hv2] at eK
      unfold keyH at eK
      dsimp only at eK
      have HV2 := Lib.hid hv2
      have hgr := Lib.hid (fun n os => below_grown13 (w := wr) (w' := grow (wr.drewN n) os) ⟨n, os, rfl⟩)
      clear z1 z2 z3 z4 z5 z6 z0 y0 y1 y2 hr hx hv2
      go_wp2_with fail
      clear c0
      go_quiet_grown (first | (go_at_call 22; with_reducible exact p1 _ _))
      have W4 := Lib.hid (hgr.out nq osq)
      clear hgr p1 eK gc0 gz0 gz1 gz2 gz3 gz4 gz5 gz6 gy0 gy1 gy2
      generalize grow (wr.drewN nq) osq = w4 at *
      have B4 := Lib.hid (hb.out.trans (W4.out.mono hsz))
      have hz4 := W4.out.size
      cases v2
      · have HN2 := Lib.hid (show ∀ m y, m < j + 1 → S[m]? = some y → keyH y ≠ k from fun m y hm hy => by
          by_cases hmj : m = j
          · subst hmj
            rw [HX.out] at hy
            injection hy with hy
            subst hy
            intro e
            have := HV2.out
            rw [(sameKy_iff _ _).2 e] at this
            cases this
          · exact HNO.out m y (by omega) hy)
        clear W4
        go_wp2
        go_roundw
        case rel => exact ⟨j + 1, by omega, by go_num, HN2, B4⟩
        case measure => simp [intOf]; omega
      · have HE := Lib.hid (findI_at HX.out ((sameKy_iff _ _).1 HV2.out) HNO.out)
        obtain rfl : v = (j : Int) := by rw [← HV.out]; exact HE.out
        clear HE
        go_wp2
        go_ret
        exact ⟨rfl, B0.out.trans (B4.out.mono hs0)⟩
    · have hlt' : ¬ (j : Int) < n := by omega
      have HE := Lib.hid (findI_none (S := S) (k := k) (fun x hx => by
        obtain ⟨m, hm⟩ := List.getElem?_of_mem hx
        have hml := (List.getElem?_eq_some_iff.1 hm).1
        exact HNO.out m x (by have := HSN.out; omega) hm))
      obtain rfl : v = -1 := by rw [← HV.out]; exact HE.out
      clear HE
      go_wp2
      go_ret
      exact ⟨rfl, HW.out⟩
end Go.Proofs.Ytnnkcgbnhjkahaa
