/- What a database lacks of a head; Get of one that is not there. Conditions: keys of 64 bits, ages from 0 to 60 where they are compared. -/
import Derived.Test.YtiibefgdlmjdgaaGreatUr
import Derived.Test.YtiibefgdlmjdgaaGreatUq
import Derived.Test.YtiibefgdlmjdgaaGreatUm
namespace Go.Proofs.YtiibefgdlmjdgaaGreat
open Go.RowKit Go.Lib Go.Sort Go.Deep

/-- Does a database that holds S lack a head? -/
def lackB (S : List La) (h : Hd) : Bool := match getL S (keyH h) with
  | none => true
  | some x => decide (0 < nw h x.h)
/-- At which place a key stands. -/
def placeK (out : List Hd) (k : Ky) : Option Nat := out.findIdx? fun h => sameKy (keyH h) k
/-- One head more. -/
def lackStep (S : List La) (out : List Hd) (h : Hd) : List Hd := if lackB S h = true then (match placeK out (keyH h) with
  | none => out ++ [h]
  | some i => match out[i]? with
    | some g => if 0 < nw h g then out.set i h else out
    | none => out) else out
/-- What it lacks of heads. -/
def lacksL (S : List La) (L : List Hd) : List Hd := L.foldl (lackStep S) []
theorem lacksL_snoc (S : List La) (L : List Hd) (h : Hd) : lacksL S (L ++ [h]) = lackStep S (lacksL S L) h := by
  unfold lacksL
  rw [List.foldl_append]
  rfl
/-- R tells at which place each key of out stands. -/
structure PlOk (out : List Hd) (R : List Pl) : Prop where
  len : R.length = out.length
  at_ : ∀ r ∈ R, ∃ h, out[r.i]? = some h ∧ keyH h = r.k
  of : ∀ i h, out[i]? = some h → ∃ r ∈ R, r.k = keyH h ∧ r.i = i
theorem PlOk.nil : PlOk [] [] := ⟨rfl, fun r hr => (by cases hr), fun i h hi => (by simp at hi)⟩
theorem PlOk.none {out : List Hd} {R : List Pl} (h : PlOk out R) {k : Ky} (hg : getP R k = none) : placeK out k = none ∧ ∀ x ∈ out, keyH x ≠ k := by
  have h1 : ∀ x ∈ out, keyH x ≠ k := fun x hx e => by
    obtain ⟨i, hi⟩ := List.getElem?_of_mem hx
    obtain ⟨r, hr, e1, -⟩ := h.of i x hi
    exact getP_none hg r hr (e1.trans e)
  refine ⟨?_, h1⟩
  unfold placeK
  rw [List.findIdx?_eq_none_iff]
  intro x hx
  cases hs : sameKy (keyH x) k
  · rfl
  · exact absurd ((sameKy_iff _ _).1 hs) (h1 x hx)
theorem PlOk.some {out : List Hd} {R : List Pl} (h : PlOk out R) (hn : R.Pairwise fun r s => r.k ≠ s.k) {k : Ky} {r : Pl} (hg : getP R k = some r) : placeK out k = some r.i ∧ ∃ g, out[r.i]? = some g ∧ keyH g = k := by
  obtain ⟨hr, e⟩ := getP_some hg
  obtain ⟨g, hg1, hg2⟩ := h.at_ r hr
  have hlt := (List.getElem?_eq_some_iff.1 hg1).1
  refine ⟨?_, g, hg1, hg2.trans e⟩
  unfold placeK
  rw [List.findIdx?_eq_some_iff_getElem]
  refine ⟨hlt, ?_, fun j hj => ?_⟩
  · rw [(List.getElem?_eq_some_iff.1 hg1).2, (sameKy_iff _ _).2 (hg2.trans e)]
  · intro hs
    have hjl : j < out.length := by omega
    obtain ⟨r2, hr2, e2, e3⟩ := h.of j out[j] (List.getElem?_eq_getElem hjl)
    have e4 : r2.k = r.k := by rw [e2, (sameKy_iff _ _).1 hs, e]
    have := pw_eq hn r2 hr2 r hr e4
    rw [this] at e3
    omega
theorem PlOk.snoc {out : List Hd} {R : List Pl} (h : PlOk out R) (x : Hd) (hg : getP R (keyH x) = Option.none) : PlOk (out ++ [x]) (⟨keyH x, out.length⟩ :: restP R (keyH x)) := by
  have hR : restP R (keyH x) = R := by
    unfold restP
    rw [List.filter_eq_self]
    intro s hs
    cases hk : sameKy s.k (keyH x)
    · rfl
    · exact absurd ((sameKy_iff _ _).1 hk) (getP_none hg s hs)
  rw [hR]
  refine ⟨by simp [h.len], fun r hr => ?_, fun i y hi => ?_⟩
  · rcases List.mem_cons.1 hr with rfl | hr
    · exact ⟨x, by simp, rfl⟩
    · obtain ⟨g, hg1, hg2⟩ := h.at_ r hr
      have hlt := (List.getElem?_eq_some_iff.1 hg1).1
      exact ⟨g, by rw [List.getElem?_append_left hlt]; exact hg1, hg2⟩
  · by_cases hlt : i < out.length
    · rw [List.getElem?_append_left hlt] at hi
      obtain ⟨r, hr, e1, e2⟩ := h.of i y hi
      exact ⟨r, List.mem_cons_of_mem _ hr, e1, e2⟩
    · rw [List.getElem?_append_right (by omega)] at hi
      have h0 : i - out.length = 0 := by
        rcases Nat.eq_zero_or_pos (i - out.length) with h0 | h0
        · exact h0
        · rw [List.getElem?_eq_none (by simp; omega)] at hi
          cases hi
      rw [h0] at hi
      injection hi with hi
      subst hi
      exact ⟨_, List.mem_cons_self, rfl, by show out.length = i; omega⟩
theorem PlOk.set {out : List Hd} {R : List Pl} (h : PlOk out R) {i : Nat} {g : Hd} (hi : out[i]? = Option.some g) (x : Hd) (hk : keyH x = keyH g) : PlOk (out.set i x) R := by
  have hlt := (List.getElem?_eq_some_iff.1 hi).1
  refine ⟨by rw [List.length_set]; exact h.len, fun r hr => ?_, fun j y hj => ?_⟩
  · obtain ⟨y, hy1, hy2⟩ := h.at_ r hr
    by_cases e : r.i = i
    · refine ⟨x, by rw [e, List.getElem?_set_self hlt], ?_⟩
      rw [hk, ← hy2]
      rw [e, hi] at hy1
      injection hy1 with hy1
      rw [hy1]
    · exact ⟨y, by rw [List.getElem?_set_ne (Ne.symm e)]; exact hy1, hy2⟩
  · by_cases e : j = i
    · subst e
      rw [List.getElem?_set_self hlt] at hj
      injection hj with hj
      subst hj
      obtain ⟨r, hr, e1, e2⟩ := h.of j g hi
      exact ⟨r, hr, e1.trans hk.symm, e2⟩
    · rw [List.getElem?_set_ne (Ne.symm e)] at hj
      exact h.of j y hj
def zeroLa : La := ⟨⟨0, 0, 0, 0, 0, 0, 0⟩, [], []⟩
/-- A database, or none, in memory. -/
def DbV (w : World) (v : Value) (S : List La) (F : Nat → Prop) : Prop := (v = .pointer none ∧ S = []) ∨ ∃ (lo p : Nat) (room : Int), v = .pointer (some ⟨p, 0, none⟩) ∧ PDb w lo p room S F ∧ SortL S
theorem DbV.below {w w' : World} {v : Value} {S : List La} {F : Nat → Prop} (h : DbV w v S F) (hb : Below w.heap.size w w') : DbV w' v S F := by
  rcases h with h | ⟨lo, p, room, e, hd, hs⟩
  · exact .inl h
  · exact .inr ⟨lo, p, room, e, hd.chg (Chg.of_below (F := fun _ => False) hb) (fun _ _ hf => hf), hs⟩
theorem get_nil (k : Ky) (w : World) : Calls Tryz.prog 16 #[.pointer none, .agg #[.int .i64 k.kind, .int .i64 k.id, .int .i64 k.adv]] w fun e w' => e = .returned (.tuple #[.agg #[.int .i64 0, .int .i64 0, .int .i64 0, .int .i64 0, .int .i64 0, .int .i64 0, .int .i64 0, .slice none 0 0, .slice none 0 0], .bool false]) ∧ Below w.heap.size w w' := by
  have B0 := Lib.hid (((Below.refl w.heap.size w).alloc (Nat.le_refl _) (.cells #[.int .i64 k.kind, .int .i64 k.id, .int .i64 k.adv] 48)).alloc (by simp) (.cells #[.int .i64 0, .int .i64 0, .int .i64 0, .int .i64 0, .int .i64 0, .int .i64 0, .int .i64 0, .slice none 0 0, .slice none 0 0] 44))
  have K1 := Blk.new (w.alloc (.cells #[.int .i64 k.kind, .int .i64 k.id, .int .i64 k.adv] 48)) 44 #[.int .i64 0, .int .i64 0, .int .i64 0, .int .i64 0, .int .i64 0, .int .i64 0, .int .i64 0, .slice none 0 0, .slice none 0 0]
  rw [show (w.alloc (.cells #[.int .i64 k.kind, .int .i64 k.id, .int .i64 k.adv] 48)).heap.size = w.heap.size + 1 by simp] at K1
  obtain ⟨o0, o1, o2, o3, o4, o5, o6, o7, o8⟩ := K1.nine
  clear K1
  go_enter Tryz.func16, Tryz.ntmps16
  go_wp2
  refine bodyPost_ret (v := .tuple #[.agg #[.int .i64 0, .int .i64 0, .int .i64 0, .int .i64 0, .int .i64 0, .int .i64 0, .int .i64 0, .slice none 0 0, .slice none 0 0], .bool false]) (by simp [results, Tryz.results16, go_sem, *]) rfl ?_
  exact ⟨rfl, B0.out⟩
theorem get_v {w : World} {v : Value} {S : List La} {F : Nat → Prop} (h : DbV w v S F) (k : Ky) (hk : wfKy k) :
    Calls Tryz.prog 16 #[v, .agg #[.int .i64 k.kind, .int .i64 k.id, .int .i64 k.adv]] w fun e w' => Below w.heap.size w w' ∧ ∃ (x : Option La) (A : Option Addr) (n c : Nat) (A' : Option Addr) (n' c' : Nat), x = getL S k ∧ e = .returned (.tuple #[.agg #[.int .i64 (x.getD zeroLa).h.age, .int .i64 (x.getD zeroLa).h.kind, .int .i64 (x.getD zeroLa).h.id, .int .i64 (x.getD zeroLa).h.adv, .int .i64 (x.getD zeroLa).h.seq, .int .i64 (x.getD zeroLa).h.sum, .int .i64 (x.getD zeroLa).h.long, .slice A n c, .slice A' n' c'], .bool x.isSome]) := by
  rcases h with ⟨rfl, rfl⟩ | ⟨lo, p, room, rfl, hd, hs⟩
  · refine (get_nil k w).mono ?_
    rintro e w' ⟨rfl, hb⟩
    exact ⟨hb, none, none, 0, 0, none, 0, 0, rfl, rfl⟩
  · refine (get_db hd hs k hk).mono ?_
    rintro e w' ⟨hb, hg⟩
    rcases hg with ⟨h1, rfl⟩ | ⟨x, A, n, c, A', n', c', h1, rfl, -⟩
    · exact ⟨hb, none, none, 0, 0, none, 0, 0, h1.symm, rfl⟩
    · exact ⟨hb, some x, A, n, c, A', n', c', h1.symm, rfl⟩
set_option maxRecDepth 8000 in
set_option maxHeartbeats 4000000 in
theorem lacks_any {w : World} {v : Value} {S : List La} {F : Nat → Prop} (h : DbV w v S F) (x : Hd) (hk : wfKy (keyH x)) (ha : ∀ y, getL S (keyH x) = some y → ageB x = true ∧ ageB y.h = true) :
    Calls Tryz.prog 24 #[v, .agg #[.int .i64 x.age, .int .i64 x.kind, .int .i64 x.id, .int .i64 x.adv, .int .i64 x.seq, .int .i64 x.sum, .int .i64 x.long]] w fun e w' => e = .returned (.bool (lackB S x)) ∧ Below w.heap.size w w' := by
  obtain ⟨r, hr⟩ : ∃ r, lackB S x = r := ⟨_, rfl⟩
  rw [hr]
  have HR := Lib.hid hr
  have HA := Lib.hid ha
  have HK := Lib.hid hk
  have B0 := Lib.hid ((Below.refl w.heap.size w).alloc (Nat.le_refl _) (.cells #[.int .i64 x.age, .int .i64 x.kind, .int .i64 x.id, .int .i64 x.adv, .int .i64 x.seq, .int .i64 x.sum, .int .i64 x.long] 40))
  have HD0 := Lib.hid (h.below B0.out)
  have K0 := Lib.hid (Blk.new w 40 #[.int .i64 x.age, .int .i64 x.kind, .int .i64 x.id, .int .i64 x.adv, .int .i64 x.seq, .int .i64 x.sum, .int .i64 x.long])
  have R0 := Lib.hid (blk_range7 K0.out)
  clear hr ha hk h
  go_enter Tryz.func24, Tryz.ntmps24
  go_wp2_with (first | refine wpList_load_row 40 _ _ (by rfl) (.tmp 3) rfl (by rfl) R0.out Tryz.underlying40 rfl (by kernel_rfl) ?_)
  refine (keyOf_any x _).mono ?_
  rintro e1 w1 ⟨rfl, hb1⟩
  generalize w.alloc (.cells #[.int .i64 x.age, .int .i64 x.kind, .int .i64 x.id, .int .i64 x.adv, .int .i64 x.seq, .int .i64 x.sum, .int .i64 x.long] 40) = w0 at *
  have hz0 := B0.out.size
  have B1 := Lib.hid (B0.out.trans (hb1.mono hz0))
  have D1 := Lib.hid (HD0.out.below hb1)
  have K1 := Lib.hid (K0.out.below hb1 K0.out.lt)
  clear hb1 R0 K0 B0 HD0 hz0
  go_wp2_with fail
  refine (get_v D1.out (keyH x) HK.out).mono ?_
  rintro e2 w2 ⟨hb2, y, A, n, c, A', n', c', hy, rfl⟩
  have B2 := Lib.hid (B1.out.trans (hb2.mono B1.out.size))
  have K2 := Lib.hid (K1.out.below hb2 K1.out.lt)
  have HY := Lib.hid hy
  clear hb2 K1 B1 D1 hy
  cases y with
  | none =>
    have HT := Lib.hid (show true = r by rw [← HR.out]; unfold lackB; rw [← HY.out])
    have B3 := Lib.hid (B2.out.alloc B2.out.size (.cells #[.int .i64 zeroLa.h.age, .int .i64 zeroLa.h.kind, .int .i64 zeroLa.h.id, .int .i64 zeroLa.h.adv, .int .i64 zeroLa.h.seq, .int .i64 zeroLa.h.sum, .int .i64 zeroLa.h.long, .slice A n c, .slice A' n' c'] 44))
    clear HR HA HY
    dsimp only [Option.getD_none, Option.isSome_none]
    go_wp2
    go_ret
    exact ⟨by rw [← HT.out]; rfl, B3.out⟩
  | some y =>
    have hab := HA.out y HY.out.symm
    have HT := Lib.hid (show decide (0 < nw x y.h) = r by rw [← HR.out]; unfold lackB; rw [← HY.out])
    have HAB := Lib.hid hab
    have B3 := Lib.hid (B2.out.alloc B2.out.size (.cells #[.int .i64 y.h.age, .int .i64 y.h.kind, .int .i64 y.h.id, .int .i64 y.h.adv, .int .i64 y.h.seq, .int .i64 y.h.sum, .int .i64 y.h.long, .slice A n c, .slice A' n' c'] 44))
    have K3 := Lib.hid (K2.out.alloc (.cells #[.int .i64 y.h.age, .int .i64 y.h.kind, .int .i64 y.h.id, .int .i64 y.h.adv, .int .i64 y.h.seq, .int .i64 y.h.sum, .int .i64 y.h.long, .slice A n c, .slice A' n' c'] 44))
    have R3 := Lib.hid (blk_range7 K3.out)
    have RX := Lib.hid (show (w2.alloc (.cells #[.int .i64 y.h.age, .int .i64 y.h.kind, .int .i64 y.h.id, .int .i64 y.h.adv, .int .i64 y.h.seq, .int .i64 y.h.sum, .int .i64 y.h.long, .slice A n c, .slice A' n' c'] 44)).rangeAt w2.heap.size 0 [.int .i64 y.h.age, .int .i64 y.h.kind, .int .i64 y.h.id, .int .i64 y.h.adv, .int .i64 y.h.seq, .int .i64 y.h.sum, .int .i64 y.h.long] from head_range (Blk.new w2 44 #[.int .i64 y.h.age, .int .i64 y.h.kind, .int .i64 y.h.id, .int .i64 y.h.adv, .int .i64 y.h.seq, .int .i64 y.h.sum, .int .i64 y.h.long, .slice A n c, .slice A' n' c']))
    clear HR HA HY hab K2 K3 B2
    dsimp only [Option.getD_some, Option.isSome_some]
    go_wp2_with (first | refine wpList_load_row 40 _ _ (by rfl) (.tmp 3) rfl (by rfl) R3.out Tryz.underlying40 rfl (by kernel_rfl) ?_ | refine wpList_load_row 40 _ _ (by rfl) (.tmp 18) rfl (by rfl) RX.out Tryz.underlying40 rfl (by kernel_rfl) ?_)
    refine (newer_any x y.h _ HAB.out.1 HAB.out.2).mono ?_
    rintro e3 w3 ⟨rfl, hb3⟩
    have B4 := Lib.hid (B3.out.trans (hb3.mono B3.out.size))
    clear hb3 B3 R3 RX
    go_wp2
    go_ret
    exact ⟨by rw [← HT.out]; rfl, B4.out⟩
end Go.Proofs.YtiibefgdlmjdgaaGreat
