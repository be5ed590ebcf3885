/- The reference's Put that is refused: a description that isn't right, and one of a new key where there is no room. Conditions: at most 1000 items. · Plain facts on databases: lists of descriptions in the order of their keys. No program, no conditions. · The reference's database in memory: what it holds, on which blocks it hangs, and what its calls make of it. Conditions: none but what the words say. · The reference's database: its calls, as what they make of the list that it holds. Conditions: what the words say; lists of at most 1000 items. · The reference's database: Tick and Put, as what they make of the list that it holds. Conditions: what the words say. · What a database of the program must do, said of any words Dv for 'it lies so in memory'. Conditions: none; it is asked of the program elsewhere. -/
import Derived.Test.YtfdfdmbnggpnbaaGreatJak
namespace Go.Proofs.YtfdfdmbnggpnbaaGreat
open Go.RowKit

set_option maxRecDepth 8000 in
set_option maxHeartbeats 8000000 in
theorem r7put_full (g : Nat) (A2 : Option Addr) (n2 c2 : Nat) (room : Int) (R : List Rc) (base : Nat) (h : Hd) (L : List Lk) (M : List Int) (A A' : Option Addr) (n c n' c' B : Nat) (w : World) (hL : Lnk w B A n L) (hM : Row .i64 w B A' n' M) (hB : B ≤ w.heap.size) (hn : n ≤ 1000) (hn' : n' ≤ 1000) (hr : rightB h L M = true)
    (hD : Blk w g 65 #[.slice A2 n2 c2, .int .i64 room]) (hO : w.ownsRow base 44 9 (.slice A2 n2 c2) n2 (rcCells R)) (hn2 : n2 ≤ 1000) (hfind : findR R (keyH h) = -1) (hfull : room ≤ n2) :
    Calls Tryz.prog 23 #[.pointer (some ⟨g, 0, none⟩), .agg #[.int .i64 h.age, .int .i64 h.kind, .int .i64 h.id, .int .i64 h.adv, .int .i64 h.seq, .int .i64 h.sum, .int .i64 h.long, .slice A n c, .slice A' n' c']] w fun e w' => e = .returned (.int .i64 7) ∧ Below w.heap.size w w' := by
  have HL := Lib.hid hL
  have HM := Lib.hid hM
  have HR := Lib.hid hr
  have HD := Lib.hid hD
  have HO := Lib.hid hO
  have hgl := hD.lt
  have hl2 := hO.1
  rw [rcCells_length] at hl2
  clear hL hM hr hD hO
  have K0 := Lib.hid (Blk.new w 44 #[.int .i64 h.age, .int .i64 h.kind, .int .i64 h.id, .int .i64 h.adv, .int .i64 h.seq, .int .i64 h.sum, .int .i64 h.long, .slice A n c, .slice A' n' c'])
  have B0 := Lib.hid ((Below.refl w.heap.size w).alloc (Nat.le_refl _) (.cells #[.int .i64 h.age, .int .i64 h.kind, .int .i64 h.id, .int .i64 h.adv, .int .i64 h.seq, .int .i64 h.sum, .int .i64 h.long, .slice A n c, .slice A' n' c'] 44))
  go_enter Tryz.func23, Tryz.ntmps23
  go_wp2_with (refine wpList_load_rc (r := ⟨h, ⟨A, n, c⟩, ⟨A', n', c'⟩⟩) (by rfl) (.tmp 3) rfl (by rfl) (rcAt_blk K0.out) ?_)
  have hl0 := K0.out.lt
  have hs0 := B0.out.size
  refine (refRight_any h L M A A' n c n' c' B _ (HL.out.below (B0.out.mono hB)) (HM.out.below (B0.out.mono hB)) (by omega) (by unfold maxLen; omega) (by unfold maxLen; omega)).mono ?_
  rintro e1 w1 ⟨rfl, hb1⟩
  rw [HR.out]
  have B1 := Lib.hid (B0.out.trans (hb1.mono hs0))
  have K1 := Lib.hid (K0.out.below hb1 hl0)
  have hs1 := B1.out.size
  have hl1 := K1.out.lt
  have HD1 := Lib.hid (HD.out.below B1.out hgl)
  have HO1 := Lib.hid (own_below2 HO.out B1.out)
  clear hb1 K0 B0 hl0 hs0
  have HV := Lib.hid (show findR R ⟨h.kind, h.id, h.adv⟩ = -1 from hfind)
  clear hfind
  have c0 := HD1.out.cell 0
  have c1 := HD1.out.cell 1
  obtain ⟨k0, k1, k2, k3, k4, k5, k6, k7, k8⟩ := K1.out.nine
  have hgl1 : g < w1.heap.size := by omega
  have BR := Below.refl w1.heap.size w1
  have d2 : decide (room ≤ (n2 : Int)) = true := by simpa using hfull
  go_upto_region 3 with fail
  go_region_held3 (fun w' => Below w1.heap.size w1 w' ∧ (∀ b o, b < w1.heap.size → w'.cell? ⟨b, o, none⟩ = w1.cell? ⟨b, o, none⟩)) ((refine keepW ?_; first | with_reducible exact hB2q | with_reducible exact hB1q | with_reducible exact BR | with_reducible exact ⟨rfl, rfl, rfl, Nat.le_refl _, fun _ _ => rfl⟩))
    (first
      | (go_at_call 42; refine (r7key_any ⟨h, ⟨A, n, c⟩, ⟨A', n', c'⟩⟩ _).mono ?_; rintro ea wa ⟨rfl, hba⟩; have hB1q := Below.trans (And.left ‹_›) (hba.mono (Below.size (And.left ‹_›))))
      | (go_at_call 26; refine (r7find_any g A2 n2 c2 room R ⟨h.kind, h.id, h.adv⟩ base _ (HD1.out.below (And.left ‹_›) hgl1) (own_below2 HO1.out (And.left ‹_›)) hn2).mono ?_; rintro eb wb ⟨rfl, hbb⟩; rw [HV.out]; have hB2q := Below.trans (And.left ‹_›) (hbb.mono (Below.size (And.left ‹_›)))))
  have BF := Lib.hid (B1.out.trans (hB2q.mono hs1))
  clear hB2q hB1q
  go_wp2
  go_ret
  exact ⟨rfl, BF.out⟩

set_option maxRecDepth 8000 in
set_option maxHeartbeats 8000000 in
theorem r7put_no (p : Value) (h : Hd) (L : List Lk) (M : List Int) (A A' : Option Addr) (n c n' c' B : Nat) (w : World) (hL : Lnk w B A n L) (hM : Row .i64 w B A' n' M) (hB : B ≤ w.heap.size) (hn : n ≤ 1000) (hn' : n' ≤ 1000) (hr : rightB h L M = false) :
    Calls Tryz.prog 23 #[p, .agg #[.int .i64 h.age, .int .i64 h.kind, .int .i64 h.id, .int .i64 h.adv, .int .i64 h.seq, .int .i64 h.sum, .int .i64 h.long, .slice A n c, .slice A' n' c']] w fun e w' => e = .returned (.int .i64 1) ∧ Below w.heap.size w w' := by
  have HL := Lib.hid hL
  have HM := Lib.hid hM
  have HR := Lib.hid hr
  clear hL hM hr
  have K0 := Lib.hid (Blk.new w 44 #[.int .i64 h.age, .int .i64 h.kind, .int .i64 h.id, .int .i64 h.adv, .int .i64 h.seq, .int .i64 h.sum, .int .i64 h.long, .slice A n c, .slice A' n' c'])
  have B0 := Lib.hid ((Below.refl w.heap.size w).alloc (Nat.le_refl _) (.cells #[.int .i64 h.age, .int .i64 h.kind, .int .i64 h.id, .int .i64 h.adv, .int .i64 h.seq, .int .i64 h.sum, .int .i64 h.long, .slice A n c, .slice A' n' c'] 44))
  go_enter Tryz.func23, Tryz.ntmps23
  go_wp2_with (refine wpList_load_rc (r := ⟨h, ⟨A, n, c⟩, ⟨A', n', c'⟩⟩) (by rfl) (.tmp 3) rfl (by rfl) (rcAt_blk K0.out) ?_)
  have hl0 := K0.out.lt
  have hs0 := B0.out.size
  refine (refRight_any h L M A A' n c n' c' B _ (HL.out.below (B0.out.mono hB)) (HM.out.below (B0.out.mono hB)) (by omega) (by unfold maxLen; omega) (by unfold maxLen; omega)).mono ?_
  rintro e1 w1 ⟨rfl, hb1⟩
  rw [HR.out]
  have B1 := Lib.hid (B0.out.trans (hb1.mono hs0))
  clear hb1
  go_wp2
  go_ret
  exact ⟨rfl, B1.out⟩
end Go.Proofs.YtfdfdmbnggpnbaaGreat
namespace Go.Proofs.YtfdfdmbnggpnbaaGreat

theorem lessKy_iff (a b : Ky) : lessKy a b = true ↔ a.kind < b.kind ∨ (a.kind = b.kind ∧ (a.id < b.id ∨ (a.id = b.id ∧ a.adv < b.adv))) := by
  unfold lessKy
  by_cases h1 : a.kind = b.kind
  · rw [if_neg (by simp [h1])]
    by_cases h2 : a.id = b.id
    · rw [if_neg (by simp [h2]), decide_eq_true_iff]
      omega
    · rw [if_pos h2, decide_eq_true_iff]
      omega
  · rw [if_pos h1, decide_eq_true_iff]
    omega
theorem lessKy_irrefl (a : Ky) : lessKy a a = false := by
  cases h : lessKy a a
  · rfl
  · rw [lessKy_iff] at h
    omega
theorem lessKy_trans {a b c : Ky} (h1 : lessKy a b = true) (h2 : lessKy b c = true) : lessKy a c = true := by
  rw [lessKy_iff] at h1 h2 ⊢
  omega
theorem lessKy_total {a b : Ky} (h : lessKy a b = false) (hne : a ≠ b) : lessKy b a = true := by
  cases h2 : lessKy b a
  · exfalso
    apply hne
    have n1 : ¬ lessKy a b = true := by rw [h]; decide
    have n2 : ¬ lessKy b a = true := by rw [h2]; decide
    rw [lessKy_iff] at n1 n2
    obtain ⟨a1, a2, a3⟩ := a
    obtain ⟨b1, b2, b3⟩ := b
    simp only at n1 n2
    congr 1 <;> omega
  · rfl
/-- Two lists, item by item. -/
def All2 {α β : Type} (P : α → β → Prop) (R : List α) (S : List β) : Prop := R.length = S.length ∧ ∀ (j : Nat) (r : α) (x : β), R[j]? = some r → S[j]? = some x → P r x
section
variable {α β : Type} {P Q : α → β → Prop}
theorem All2.nil : All2 P [] [] := ⟨rfl, fun j r x h => by simp at h⟩
theorem All2.cons {r : α} {x : β} {R : List α} {S : List β} (h : P r x) (t : All2 P R S) : All2 P (r :: R) (x :: S) :=
  ⟨by simp [t.1], fun j r' x' h1 h2 => by
    cases j with
    | zero =>
      simp at h1 h2
      subst h1 h2
      exact h
    | succ j => exact t.2 j r' x' (by simpa using h1) (by simpa using h2)⟩
theorem All2.head {r : α} {x : β} {R : List α} {S : List β} (h : All2 P (r :: R) (x :: S)) : P r x ∧ All2 P R S :=
  ⟨h.2 0 r x (by simp) (by simp), by have := h.1; simp at this; exact this, fun j r' x' h1 h2 => h.2 (j + 1) r' x' (by simpa using h1) (by simpa using h2)⟩
theorem All2.imp {R : List α} {S : List β} (h : All2 P R S) (hi : ∀ r x, P r x → Q r x) : All2 Q R S := ⟨h.1, fun j r x h1 h2 => hi r x (h.2 j r x h1 h2)⟩
theorem All2.at {R : List α} {S : List β} (h : All2 P R S) {j : Nat} {r : α} (hr : R[j]? = some r) : ∃ x, S[j]? = some x ∧ P r x := by
  have hj := (List.getElem?_eq_some_iff.1 hr).1
  have hs : S[j]? = some (S[j]'(by rw [← h.1]; exact hj)) := List.getElem?_eq_getElem _
  exact ⟨_, hs, h.2 j r _ hr hs⟩
theorem All2.at' {R : List α} {S : List β} (h : All2 P R S) {j : Nat} {x : β} (hx : S[j]? = some x) : ∃ r, R[j]? = some r ∧ P r x := by
  have hj := (List.getElem?_eq_some_iff.1 hx).1
  have hs : R[j]? = some (R[j]'(by rw [h.1]; exact hj)) := List.getElem?_eq_getElem _
  exact ⟨_, hs, h.2 j _ x hs hx⟩
theorem All2.map {γ δ : Type} {P' : γ → δ → Prop} {f : α → γ} {g : β → δ} {R : List α} {S : List β} (h : All2 P R S) (hi : ∀ r x, P r x → P' (f r) (g x)) : All2 P' (R.map f) (S.map g) := by
  induction R generalizing S with
  | nil =>
    cases S with
    | nil => exact ⟨rfl, fun j r x h => by simp at h⟩
    | cons x S => have := h.1; simp at this
  | cons r R ih =>
    cases S with
    | nil => have := h.1; simp at this
    | cons x S => exact All2.cons (hi _ _ h.head.1) (ih h.head.2)
theorem All2.eraseIdx {R : List α} {S : List β} (h : All2 P R S) (i : Nat) : All2 P (R.eraseIdx i) (S.eraseIdx i) := by
  induction R generalizing S i with
  | nil =>
    cases S with
    | nil => exact All2.nil
    | cons x S => have := h.1; simp at this
  | cons r R ih =>
    cases S with
    | nil => have := h.1; simp at this
    | cons x S =>
      cases i with
      | zero => exact h.head.2
      | succ i => exact All2.cons h.head.1 (ih h.head.2 i)
end
/-- A description's key. -/
def kyL (x : La) : Ky := keyH x.h
/-- A database in order, with one more; without one; a tick on. -/
def insL (x : La) : List La → List La
  | [] => [x]
  | y :: S => if lessKy (kyL x) (kyL y) = true then x :: y :: S else y :: insL x S
def dropL (S : List La) (k : Ky) : List La := S.filter fun x => !sameKy (kyL x) k
def tickL (x : La) : La := if x.h.age < 60 then { x with h := { x.h with age := x.h.age + 1 } } else x
def getL (S : List La) (k : Ky) : Option La := S.find? fun x => sameKy (kyL x) k
/-- In order. -/
def SortL (S : List La) : Prop := S.Pairwise fun a b => lessKy (kyL a) (kyL b) = true
theorem SortL.tail {x : La} {S : List La} (h : SortL (x :: S)) : SortL S := (List.pairwise_cons.1 h).2
theorem SortL.head {x : La} {S : List La} (h : SortL (x :: S)) : ∀ y ∈ S, lessKy (kyL x) (kyL y) = true := (List.pairwise_cons.1 h).1
theorem mem_insL {x y : La} : ∀ {S : List La}, y ∈ insL x S ↔ y = x ∨ y ∈ S
  | [] => by simp [insL]
  | z :: S => by
    unfold insL
    split
    · simp
    · rw [List.mem_cons, mem_insL (S := S), List.mem_cons]
      constructor
      · rintro (h | h | h)
        · exact .inr (.inl h)
        · exact .inl h
        · exact .inr (.inr h)
      · rintro (h | h | h)
        · exact .inr (.inl h)
        · exact .inl h
        · exact .inr (.inr h)
theorem sort_insL {x : La} : ∀ {S : List La}, SortL S → (∀ y ∈ S, kyL y ≠ kyL x) → SortL (insL x S)
  | [], _, _ => by simp [insL, SortL]
  | y :: S, h, hn => by
    unfold insL
    split
    · rename_i hl
      refine List.pairwise_cons.2 ⟨fun z hz => ?_, h⟩
      rcases List.mem_cons.1 hz with rfl | hz
      · exact hl
      · exact lessKy_trans hl (h.head z hz)
    · rename_i hl
      refine List.pairwise_cons.2 ⟨fun z hz => ?_, sort_insL h.tail (fun z hz => hn z (by simp [hz]))⟩
      rcases mem_insL.1 hz with rfl | hz
      · exact lessKy_total (by simpa using hl) (fun e => hn y (by simp) e.symm)
      · exact h.head z hz
theorem sort_drop {S : List La} (h : SortL S) (k : Ky) : SortL (dropL S k) := h.filter _
theorem mem_drop {S : List La} {k : Ky} {x : La} : x ∈ dropL S k ↔ x ∈ S ∧ kyL x ≠ k := by
  unfold dropL
  rw [List.mem_filter]
  have : sameKy (kyL x) k = true ↔ kyL x = k := sameKy_iff _ _
  simp [← this]
theorem insL_length (x : La) : ∀ S : List La, (insL x S).length = S.length + 1
  | [] => rfl
  | y :: S => by
    unfold insL
    split
    · rfl
    · simp [insL_length x S]
/-- Of a key there is at most one. -/
theorem sort_one : ∀ {S : List La}, SortL S → ∀ x ∈ S, ∀ y ∈ S, kyL x = kyL y → x = y
  | z :: S, h, x, hx, y, hy, e => by
    rcases List.mem_cons.1 hx with rfl | hx'
    · rcases List.mem_cons.1 hy with rfl | hy'
      · rfl
      · have := h.head y hy'
        rw [e, lessKy_irrefl] at this
        cases this
    · rcases List.mem_cons.1 hy with rfl | hy'
      · have := h.head x hx'
        rw [e, lessKy_irrefl] at this
        cases this
      · exact sort_one h.tail x hx' y hy' e
theorem getL_some {S : List La} {k : Ky} {x : La} (h : getL S k = some x) : x ∈ S ∧ kyL x = k := by
  unfold getL at h
  have h1 := List.find?_some h
  exact ⟨List.mem_of_find?_eq_some h, (sameKy_iff _ _).1 h1⟩
theorem getL_none {S : List La} {k : Ky} : getL S k = none ↔ ∀ x ∈ S, kyL x ≠ k := by
  unfold getL
  rw [List.find?_eq_none]
  constructor
  · intro h x hx e
    exact h x hx ((sameKy_iff _ _).2 e)
  · intro h x hx e
    exact h x hx ((sameKy_iff _ _).1 e)
theorem getL_mem {S : List La} (hs : SortL S) {x : La} (hx : x ∈ S) : getL S (kyL x) = some x := by
  cases h : getL S (kyL x) with
  | none => exact absurd rfl (getL_none.1 h x hx)
  | some y =>
    obtain ⟨h1, h2⟩ := getL_some h
    rw [sort_one hs y h1 x hx h2]

/-- The reference's list, item by item. -/
theorem all2_ins {P : Rc → La → Prop} (hk : ∀ r x, P r x → r.h = x.h) {r : Rc} {x : La} (hp : P r x) : ∀ {R : List Rc} {S : List La}, All2 P R S → All2 P (insR (keyH r.h) r R) (insL x S)
  | [], [], _ => All2.cons hp All2.nil
  | [], y :: S, h => by have := h.1; simp at this
  | r' :: R, [], h => by have := h.1; simp at this
  | r' :: R, y :: S, h => by
    have e1 := hk _ _ hp
    have e2 := hk _ _ h.head.1
    unfold insR insL kyL
    rw [e1, e2]
    split
    · exact All2.cons hp (All2.cons h.head.1 h.head.2)
    · rw [← e1]
      exact All2.cons h.head.1 (all2_ins hk hp h.head.2)
theorem findFrom_spec (k : Ky) : ∀ (R : List Rc) (i : Nat), (findFrom k R i = -1 ∧ ∀ r ∈ R, keyH r.h ≠ k) ∨ ∃ (j : Nat) (r : Rc), findFrom k R i = ((i + j : Nat) : Int) ∧ R[j]? = some r ∧ keyH r.h = k
  | [], _ => .inl ⟨rfl, fun _ h => by cases h⟩
  | r :: R, i => by
    unfold findFrom
    by_cases h : sameKy (keyH r.h) k = true
    · rw [if_pos h]
      exact .inr ⟨0, r, rfl, by simp, (sameKy_iff _ _).1 h⟩
    · rw [if_neg h]
      rcases findFrom_spec k R (i + 1) with ⟨h1, h2⟩ | ⟨j, x, h1, h2, h3⟩
      · refine .inl ⟨h1, fun y hy e => ?_⟩
        rcases List.mem_cons.1 hy with rfl | hy
        · exact h ((sameKy_iff _ _).2 e)
        · exact h2 y hy e
      · exact .inr ⟨j + 1, x, by rw [h1]; congr 1; omega, by simpa using h2, h3⟩
theorem findR_spec (R : List Rc) (k : Ky) : (findR R k = -1 ∧ ∀ r ∈ R, keyH r.h ≠ k) ∨ ∃ (j : Nat) (r : Rc), findR R k = (j : Int) ∧ R[j]? = some r ∧ keyH r.h = k := by
  rcases findFrom_spec k R 0 with h | ⟨j, r, h1, h2⟩
  · exact .inl h
  · exact .inr ⟨j, r, by unfold findR; rw [h1]; congr 1; omega, h2⟩
theorem dropL_none {S : List La} {k : Ky} (h : ∀ x ∈ S, kyL x ≠ k) : dropL S k = S := by
  unfold dropL
  rw [List.filter_eq_self]
  intro x hx
  have := h x hx
  cases hs : sameKy (kyL x) k
  · rfl
  · exact absurd ((sameKy_iff _ _).1 hs) this
theorem dropL_at {k : Ky} : ∀ {S : List La} {j : Nat} {x : La}, SortL S → S[j]? = some x → kyL x = k → dropL S k = S.eraseIdx j
  | [], _, _, _, h, _ => by simp at h
  | y :: S, 0, x, hs, h, hk => by
    simp at h
    subst h
    have h1 : dropL S k = S := dropL_none (fun z hz e => by
      have := hs.head z hz
      rw [hk, e, lessKy_irrefl] at this
      cases this)
    have h2 : sameKy (kyL y) k = true := (sameKy_iff _ _).2 hk
    unfold dropL at h1 ⊢
    rw [List.filter_cons, h2]
    simpa using h1
  | y :: S, j + 1, x, hs, h, hk => by
    have hx : x ∈ S := List.mem_of_getElem? (by simpa using h)
    have h2 : sameKy (kyL y) k = false := by
      cases hs2 : sameKy (kyL y) k
      · rfl
      · have e := (sameKy_iff _ _).1 hs2
        have := hs.head x hx
        rw [hk, e, lessKy_irrefl] at this
        cases this
    have ih := dropL_at (S := S) (j := j) hs.tail (by simpa using h) hk
    unfold dropL at ih ⊢
    rw [List.filter_cons, h2]
    simpa using ih
theorem all2_drop {P : Rc → La → Prop} (hk : ∀ r x, P r x → r.h = x.h) {R : List Rc} {S : List La} (h : All2 P R S) (hs : SortL S) (k : Ky) : All2 P (dropI R (findR R k)) (dropL S k) := by
  rcases findR_spec R k with ⟨h1, h2⟩ | ⟨j, r, h1, h2, h3⟩
  · rw [h1, dropL_none (fun x hx e => by
      obtain ⟨m, hm⟩ := List.getElem?_of_mem hx
      obtain ⟨r, hr, hp⟩ := h.at' hm
      exact h2 r (List.mem_of_getElem? hr) (by rw [hk _ _ hp]; exact e))]
    exact h
  · obtain ⟨x, hx, hp⟩ := h.at h2
    have hkx : kyL x = k := by unfold kyL; rw [← hk _ _ hp]; exact h3
    rw [h1, dropL_at hs hx hkx]
    unfold dropI
    rw [if_neg (by omega)]
    exact h.eraseIdx _
/-- Whether there is one. -/
theorem all2_find {P : Rc → La → Prop} (hk : ∀ r x, P r x → r.h = x.h) {R : List Rc} {S : List La} (h : All2 P R S) (hs : SortL S) (k : Ky) : (getL S k = none ∧ findR R k = -1) ∨ ∃ (j : Nat) (r : Rc) (x : La), getL S k = some x ∧ findR R k = (j : Int) ∧ R[j]? = some r ∧ S[j]? = some x ∧ P r x := by
  rcases findR_spec R k with ⟨h1, h2⟩ | ⟨j, r, h1, h2, h3⟩
  · refine .inl ⟨getL_none.2 (fun x hx e => ?_), h1⟩
    obtain ⟨m, hm⟩ := List.getElem?_of_mem hx
    obtain ⟨r, hr, hp⟩ := h.at' hm
    exact h2 r (List.mem_of_getElem? hr) (by rw [hk _ _ hp]; exact e)
  · obtain ⟨x, hx, hp⟩ := h.at h2
    have hkx : kyL x = k := by unfold kyL; rw [← hk _ _ hp]; exact h3
    exact .inr ⟨j, r, x, by rw [← hkx]; exact getL_mem hs (List.mem_of_getElem? hx), h1, h2, hx, hp⟩
end Go.Proofs.YtfdfdmbnggpnbaaGreat
namespace Go.Proofs.YtfdfdmbnggpnbaaGreat
open Go.RowKit

/-- Only blocks of F, and new ones, have turned. -/
structure Chg (F : Nat → Prop) (w w' : World) : Prop where
  os : w'.os = w.os
  tape : w'.tape = w.tape
  output : w'.output = w.output
  size : w.heap.size ≤ w'.heap.size
  block : ∀ k, k < w.heap.size → ¬ F k → w'.heap[k]? = w.heap[k]?
section
variable {F F' : Nat → Prop} {w w' w'' : World}
theorem Chg.refl (F : Nat → Prop) (w : World) : Chg F w w := ⟨rfl, rfl, rfl, Nat.le_refl _, fun _ _ _ => rfl⟩
theorem Chg.of_below (h : Below w.heap.size w w') : Chg F w w' := ⟨h.os, h.tape, h.output, h.size, fun k hk _ => h.block k hk⟩
theorem Chg.of_grown {row : Option Nat} (h : w.grownBy w' row) (hr : ∀ k, row = some k → F k) : Chg F w w' := ⟨h.os, h.tape, h.output, h.size, fun k hk hn => h.block k hk (fun e => hn (hr k e.symm))⟩
theorem Chg.to_below {B : Nat} (h : Chg F w w') (hF : ∀ k, F k → B ≤ k) (hB : B ≤ w.heap.size) : Below B w w' := ⟨h.os, h.tape, h.output, h.size, fun k hk => h.block k (by omega) (fun hf => by have := hF k hf; omega)⟩
/-- One change, and another one: F grows by new blocks alone. -/
theorem Chg.trans (h : Chg F w w') (h' : Chg F' w' w'') (hF : ∀ k, F' k → F k ∨ w.heap.size ≤ k) : Chg F w w'' :=
  ⟨h'.os.trans h.os, h'.tape.trans h.tape, h'.output.trans h.output, Nat.le_trans h.size h'.size, fun k hk hn => (h'.block k (Nat.lt_of_lt_of_le hk h.size) (fun hf => by
    rcases hF k hf with h1 | h1
    · exact hn h1
    · omega)).trans (h.block k hk hn)⟩
end
theorem own_chg {F : Nat → Prop} {w w' : World} {b n size : Nat} {t : TypeId} {v : Value} {xs : List Value} (ho : w.ownsRow b t size v n xs) (h : Chg F w w') (hv : ∀ q, v.ownBlock = some q → ¬ F q) : w'.ownsRow b t size v n xs := by
  refine ⟨ho.1, ?_⟩
  rcases ho.2 with hn | ⟨g, cap, cur, rfl, hb, hg, rest⟩
  · exact .inl hn
  · exact .inr ⟨g, cap, cur, rfl, hb, (h.block g (Array.getElem?_eq_some_iff.1 hg).1 (hv g rfl)).trans hg, rest⟩
theorem Blk.chg {F : Nat → Prop} {w w' : World} {g : Nat} {t : TypeId} {cs : Array Value} (hb : Blk w g t cs) (h : Chg F w w') (hF : ¬ F g) : Blk w' g t cs := (h.block g hb.lt hF).trans hb

/-- A description in memory of the call's own. -/
def RcIs (w : World) (lo : Nat) (r : Rc) (x : La) : Prop :=
  r.h = x.h ∧ w.ownsRow lo 86 4 (.slice r.p.a r.p.n r.p.c) r.p.n (lkCells x.L) ∧ x.L.length = r.p.n ∧ w.ownsRow lo 3 1 (.slice r.q.a r.q.n r.q.c) r.q.n (x.M.map (Value.int .i64)) ∧ x.M.length = r.q.n
/-- On which blocks it hangs. -/
def rcFoot (r : Rc) (q : Nat) : Prop := (Value.slice r.p.a r.p.n r.p.c).ownBlock = some q ∨ (Value.slice r.q.a r.q.n r.q.c).ownBlock = some q
theorem RcIs.chg {F : Nat → Prop} {w w' : World} {lo : Nat} {r : Rc} {x : La} (h : RcIs w lo r x) (hc : Chg F w w') (hf : ∀ q, rcFoot r q → ¬ F q) : RcIs w' lo r x :=
  ⟨h.1, own_chg h.2.1 hc (fun q hq => hf q (.inl hq)), h.2.2.1, own_chg h.2.2.2.1 hc (fun q hq => hf q (.inr hq)), h.2.2.2.2⟩
theorem RcIs.foot {w : World} {lo : Nat} {r : Rc} {x : La} (h : RcIs w lo r x) {q : Nat} (hq : rcFoot r q) : lo ≤ q ∧ q < w.heap.size := by
  rcases hq with hq | hq
  · exact h.2.1.lt q hq
  · exact h.2.2.2.1.lt q hq
theorem RcIs.mono {w : World} {lo lo' : Nat} {r : Rc} {x : La} (h : RcIs w lo r x) (hl : lo' ≤ lo) : RcIs w lo' r x := ⟨h.1, own_low h.2.1 hl, h.2.2.1, own_low h.2.2.2.1 hl, h.2.2.2.2⟩
/-- Lists of a description lie in no block of a database, and of a list of descriptions. -/
theorem RcIs.apart {w : World} {lo b n : Nat} {r : Rc} {x : La} {v : Value} {xs : List Value} (h : RcIs w lo r x) (ho : w.ownsRow b 44 9 v n xs) {q : Nat} (hq : rcFoot r q) : v.ownBlock ≠ some q := by
  intro e
  rcases hq with hq | hq
  · rcases own_apart ho h.2.1 (by decide) with h1 | h1
    · rw [h1] at hq
      cases hq
    · exact h1 (hq.trans e.symm)
  · rcases own_apart ho h.2.2.2.1 (by decide) with h1 | h1
    · rw [h1] at hq
      cases hq
    · exact h1 (hq.trans e.symm)
theorem own_ne_blk {w : World} {b n size g : Nat} {t t' : TypeId} {v : Value} {xs : List Value} {cs : Array Value} (h : w.ownsRow b t size v n xs) (hB : Blk w g t' cs) (ht : t ≠ t') : v.ownBlock ≠ some g := by
  intro e
  rcases h.2 with ⟨rfl, _⟩ | ⟨q, cap, cur, rfl, _, hg, _⟩
  · cases e
  · injection e with e
    subst e
    have h1 : w.heap[q]? = some (.cells cs t' (0, 0)) := hB
    rw [h1] at hg
    injection hg with hg
    injection hg with _ hg
    exact ht hg.symm
theorem RcIs.ne_db {w : World} {lo g : Nat} {r : Rc} {x : La} {cs : Array Value} (h : RcIs w lo r x) (hB : Blk w g 65 cs) {q : Nat} (hq : rcFoot r q) : q ≠ g := by
  rintro rfl
  rcases hq with hq | hq
  · exact own_ne_blk h.2.1 hB (by decide) hq
  · exact own_ne_blk h.2.2.2.1 hB (by decide) hq
/-- A list of descriptions, read. -/
theorem las_of_own {w : World} {base n c : Nat} {A : Option Addr} {R : List Rc} {S : List La} {lo : Nat} (h : w.ownsRow base 44 9 (.slice A n c) n (rcCells R)) (ha : All2 (RcIs w lo) R S) (hs : ∀ x ∈ S, x.L.length ≤ 1000 ∧ x.M.length ≤ 1000) : Las w w.heap.size A n S := by
  have hl := h.1
  rw [rcCells_length] at hl
  refine ⟨by rw [← ha.1]; omega, fun hn => ?_⟩
  obtain ⟨r0, hr0⟩ : ∃ r, R[0]? = some r := ⟨R[0]'(by omega), List.getElem?_eq_getElem (by omega)⟩
  obtain ⟨b, rfl, -, hb1, -, -, -⟩ := own_rc h hr0
  refine ⟨b, 0, rfl, hb1, fun j x hx => ?_⟩
  obtain ⟨r, hr, hp⟩ := ha.at' hx
  obtain ⟨b', e', -, -, -, -, hat⟩ := own_rc h hr
  injection e' with e'
  injection e' with e'
  subst e'
  rw [Nat.zero_add]
  obtain ⟨k0, k1, k2, k3, k4, k5, k6, k7, k8⟩ := hat.nine
  obtain ⟨A1, c1, e1, h1, h2, h3⟩ := lnk_of_own hp.2.1 hp.2.2.1
  injection e1 with e1 _ e2
  subst e1 e2
  obtain ⟨A2, c2, e3, h4, h5, h6⟩ := row_of_ints hp.2.2.2.1 hp.2.2.2.2
  injection e3 with e3 _ e4
  subst e3 e4
  rw [hp.1] at k0 k1 k2 k3 k4 k5 k6
  have hb := hs x (List.mem_of_getElem? hx)
  have e5 := hp.2.2.1
  have e6 := hp.2.2.2.2
  exact ⟨⟨k0, k1, k2, k3, k4, k5, k6⟩, r.p.a, r.p.n, r.p.c, r.q.a, r.q.n, r.q.c, k7, k8, h3, h6, by unfold maxLen; omega, by unfold maxLen; omega⟩

/-- Right descriptions: their lists are short, their ages from 0 to 60; sealed, or a tick on, they are right. -/
theorem right_other (a k i v s x y x' y' : Int) (L : List Lk) (M : List Int) : rightB ⟨a, k, i, v, s, x, y⟩ L M = rightB ⟨a, k, i, v, s, x', y'⟩ L M := rfl
theorem right_seal {h : Hd} {L : List Lk} {M : List Int} : rightB (sealHd h L M) L M = rightB h L M := by
  obtain ⟨a, k, i, v, s, x, y⟩ := h
  exact right_other a k i v s _ _ x y L M
theorem right_age {x : La} (h : rightB x.h x.L x.M = true) : 0 ≤ x.h.age ∧ x.h.age ≤ 60 := (right_facts h).1
end Go.Proofs.YtfdfdmbnggpnbaaGreat
namespace Go.Proofs.YtfdfdmbnggpnbaaGreat
open Go.RowKit

/-- Block g is a database of so much room that holds S, and hangs on the blocks of F alone, all from lo on. -/
def RefDb (w : World) (lo g : Nat) (room : Int) (S : List La) (F : Nat → Prop) : Prop :=
  ∃ (A : Option Addr) (n c : Nat) (R : List Rc), Blk w g 65 #[.slice A n c, .int .i64 room] ∧ lo ≤ g ∧ w.ownsRow lo 44 9 (.slice A n c) n (rcCells R) ∧ All2 (RcIs w lo) R S ∧ SortL S ∧ (S.length : Int) ≤ room ∧ room ≤ 40 ∧ (∀ x ∈ S, rightB x.h x.L x.M = true) ∧
    (∀ q, F q ↔ q = g ∨ (Value.slice A n c).ownBlock = some q ∨ ∃ r ∈ R, rcFoot r q)
theorem all2_mem {α β : Type} {P : α → β → Prop} {R : List α} {S : List β} (h : All2 P R S) {r : α} (hr : r ∈ R) : ∃ x ∈ S, P r x := by
  obtain ⟨j, hj⟩ := List.getElem?_of_mem hr
  obtain ⟨x, hx, hp⟩ := h.at hj
  exact ⟨x, List.mem_of_getElem? hx, hp⟩
theorem all2_imp {α β : Type} {P Q : α → β → Prop} {R : List α} {S : List β} (h : All2 P R S) (hi : ∀ r ∈ R, ∀ x, P r x → Q r x) : All2 Q R S := ⟨h.1, fun j r x h1 h2 => hi r (List.mem_of_getElem? h1) x (h.2 j r x h1 h2)⟩
theorem RefDb.foot {w : World} {lo g : Nat} {room : Int} {S : List La} {F : Nat → Prop} (h : RefDb w lo g room S F) {q : Nat} (hq : F q) : lo ≤ q ∧ q < w.heap.size := by
  obtain ⟨A, n, c, R, hB, hlo, hO, hA, -, -, -, -, hF⟩ := h
  rcases (hF q).1 hq with rfl | h1 | ⟨r, hr, h1⟩
  · exact ⟨hlo, hB.lt⟩
  · exact hO.lt q h1
  · obtain ⟨x, _, hx⟩ := all2_mem hA hr
    exact hx.foot h1
theorem RefDb.chg {w w' : World} {lo g : Nat} {room : Int} {S : List La} {F F' : Nat → Prop} (h : RefDb w lo g room S F) (hc : Chg F' w w') (hd : ∀ q, F q → ¬ F' q) : RefDb w' lo g room S F := by
  obtain ⟨A, n, c, R, hB, hlo, hO, hA, h1, h2, h3, h4, hF⟩ := h
  exact ⟨A, n, c, R, hB.chg hc (hd g ((hF g).2 (.inl rfl))), hlo, own_chg hO hc (fun q hq => hd q ((hF q).2 (.inr (.inl hq)))), all2_imp hA (fun r hr x hx => hx.chg hc (fun q hq => hd q ((hF q).2 (.inr (.inr ⟨r, hr, hq⟩))))), h1, h2, h3, h4, hF⟩
theorem right_short {x : La} (h : rightB x.h x.L x.M = true) : x.L.length ≤ 1000 ∧ x.M.length ≤ 1000 := by
  obtain ⟨_, h2, _, _, _, h6, h7⟩ := right_facts h
  by_cases hk : x.h.kind = 1
  · obtain ⟨e1, e2, _⟩ := h6 hk
    rw [e1]
    exact ⟨by omega, by simp⟩
  · obtain ⟨e1, e2⟩ := h7 (by omega)
    have := rise_len x.M 0 e2 (by omega)
    rw [e1]
    exact ⟨by simp, by omega⟩
/-- The list that it holds, read. -/
theorem RefDb.list {w : World} {lo g : Nat} {room : Int} {S : List La} {F : Nat → Prop} (h : RefDb w lo g room S F) : ∃ (A : Option Addr) (n c : Nat), Blk w g 65 #[.slice A n c, .int .i64 room] ∧ Las w w.heap.size A n S ∧ n ≤ 40 := by
  obtain ⟨A, n, c, R, hB, hlo, hO, hA, h1, h2, h3, h4, hF⟩ := h
  have hl := hO.1
  rw [rcCells_length] at hl
  have := hA.1
  exact ⟨A, n, c, hB, las_of_own hO hA (fun x hx => right_short (h4 x hx)), by omega⟩

theorem r7New_db (r : Int) (w : World) : Calls Tryz.prog 22 #[.int .i64 r] w
    fun e w' => e = .returned (.pointer (some ⟨w.heap.size, 0, none⟩)) ∧ Below w.heap.size w w' ∧ ∃ F, RefDb w' w.heap.size w.heap.size (roomOf r) [] F := by
  refine (r7new_any r w).mono ?_
  rintro e w' ⟨rfl, hB, hb⟩
  refine ⟨rfl, hb, fun q => q = w.heap.size, none, 0, 0, [], hB, Nat.le_refl _, World.ownsRow_nil _ _ _ _, All2.nil, List.Pairwise.nil, by have := roomOf_bd r; simp; omega, (roomOf_bd r).2, fun x hx => (by cases hx), fun q => ?_⟩
  simp [Value.ownBlock]

theorem r7Find_db {w : World} {lo g : Nat} {room : Int} {S : List La} {F : Nat → Prop} (h : RefDb w lo g room S F) (k : Ky) : Calls Tryz.prog 26 #[.pointer (some ⟨g, 0, none⟩), .agg #[.int .i64 k.kind, .int .i64 k.id, .int .i64 k.adv]] w
    fun e w' => ∃ v : Int, e = .returned (.int .i64 v) ∧ Below w.heap.size w w' ∧ ((getL S k = none ∧ v = -1) ∨ ∃ (j : Nat) (x : La), getL S k = some x ∧ v = (j : Int) ∧ S[j]? = some x) := by
  obtain ⟨A, n, c, R, hB, hlo, hO, hA, h1, h2, h3, h4, hF⟩ := h
  have hl := hO.1
  rw [rcCells_length] at hl
  have := hA.1
  refine (r7find_any g A n c room R k lo w hB hO (by omega)).mono ?_
  rintro e w' ⟨rfl, hb⟩
  refine ⟨_, rfl, hb, ?_⟩
  rcases all2_find (fun r x hp => hp.1) hA h1 k with ⟨e1, e2⟩ | ⟨j, r, x, e1, e2, e3, e4, _⟩
  · exact .inl ⟨e1, e2⟩
  · exact .inr ⟨j, x, e1, e2, e4⟩
theorem mem_dropI {R : List Rc} {i : Int} {r : Rc} (h : r ∈ dropI R i) : r ∈ R := by
  unfold dropI at h
  split at h
  · exact h
  · exact List.mem_of_mem_eraseIdx h
theorem mem_insR {k : Ky} {x r : Rc} : ∀ {R : List Rc}, r ∈ insR k x R → r = x ∨ r ∈ R
  | [], h => by simpa [insR] using h
  | y :: R, h => by
    unfold insR at h
    split at h
    · rcases List.mem_cons.1 h with h | h
      · exact .inl h
      · exact .inr h
    · rcases List.mem_cons.1 h with h | h
      · exact .inr (by simp [h])
      · rcases mem_insR h with h | h
        · exact .inl h
        · exact .inr (by simp [h])
end Go.Proofs.YtfdfdmbnggpnbaaGreat
namespace Go.Proofs.YtfdfdmbnggpnbaaGreat
open Go.RowKit

theorem kyCells_at (K : List Ky) : ∀ (j : Nat) (k : Ky), K[j]? = some k → ∀ i, i < 3 → (kyCells K)[j * 3 + i]? = [Value.int .i64 k.kind, .int .i64 k.id, .int .i64 k.adv][i]? := by
  induction K with
  | nil => intro j h hx; simp at hx
  | cons x l ih =>
    intro j h hx i hi
    rw [kyCells_cons]
    cases j with
    | zero =>
      simp at hx
      subst hx
      rw [List.getElem?_append_left (by simp; omega)]
      simp
    | succ j =>
      rw [List.getElem?_append_right (by simp; omega)]
      have e : (j + 1) * 3 + i - [Value.int .i64 x.kind, .int .i64 x.id, .int .i64 x.adv].length = j * 3 + i := by simp; omega
      rw [e]
      exact ih j h (by simpa using hx) i hi
/-- A description, sealed. -/
def sealL (x : La) : La := ⟨sealHd x.h x.L x.M, x.L, x.M⟩
/-- What Put answers, and leaves. -/
def putE (room : Int) (S : List La) (x : La) : Int := if rightB x.h x.L x.M = false then 1 else if (getL S (kyL x)).isNone = true ∧ room ≤ (S.length : Int) then 7 else 0
def putS (room : Int) (S : List La) (x : La) : List La := if putE room S x = 0 then insL (sealL x) (dropL S (kyL x)) else S
theorem dropL_less {S : List La} {k : Ky} (hs : SortL S) {x : La} (h : getL S k = some x) : (dropL S k).length + 1 = S.length := by
  obtain ⟨h1, h2⟩ := getL_some h
  obtain ⟨j, hj⟩ := List.getElem?_of_mem h1
  rw [dropL_at hs hj h2, List.length_eraseIdx]
  have := (List.getElem?_eq_some_iff.1 hj).1
  rw [if_pos this]
  omega
theorem put_go {w : World} {lo g : Nat} {room : Int} {S : List La} {F : Nat → Prop} (hd : RefDb w lo g room S F) (hlo : lo ≤ w.heap.size) (h : Hd) (L : List Lk) (M : List Int) (A A' : Option Addr) (n c n' c' B : Nat) (hL : Lnk w B A n L) (hM : Row .i64 w B A' n' M) (hB : B ≤ lo) (hn : n ≤ 1000) (hn' : n' ≤ 1000)
    (hr : rightB h L M = true) (e1 : putE room S ⟨h, L, M⟩ = 0) (hfull : ¬ ((getL S (kyL ⟨h, L, M⟩)).isNone = true ∧ room ≤ (S.length : Int))) (hroom : ((dropL S (kyL ⟨h, L, M⟩)).length : Int) + 1 ≤ room) :
    Calls Tryz.prog 23 #[.pointer (some ⟨g, 0, none⟩), .agg #[.int .i64 h.age, .int .i64 h.kind, .int .i64 h.id, .int .i64 h.adv, .int .i64 h.seq, .int .i64 h.sum, .int .i64 h.long, .slice A n c, .slice A' n' c']] w
    fun e w' => e = .returned (.int .i64 (putE room S ⟨h, L, M⟩)) ∧ ∃ F', RefDb w' lo g room (putS room S ⟨h, L, M⟩) F' ∧ Chg F w w' ∧ ∀ q, F' q → F q ∨ w.heap.size ≤ q := by
  obtain ⟨A0, n0, c0, R, hDB, hlg, hO, hA, h1, h2, h3, h4, hF⟩ := hd
  have hl := hO.1
  rw [rcCells_length] at hl
  have hln := hA.1
  have hky : kyL ⟨h, L, M⟩ = keyH h := rfl
  rw [hky] at hfull hroom
  refine (r7put_ok g A0 n0 c0 room R lo h L M A A' n c n' c' B w hL hM (by omega) hn hn' hr hDB hO (by omega) (by omega) (fun e => hfull ?_)).mono ?_
  · rcases all2_find (fun r x hp => hp.1) hA h1 (keyH h) with ⟨g1, g2⟩ | ⟨j, r, x, g1, g2, g3, g4, _⟩
    · exact ⟨by rw [g1]; rfl, by omega⟩
    · omega
  · rintro e w' ⟨rfl, A3, n3, c3, x, hB', hO', hX, hg⟩
    have hcg : Chg (fun q => q = g) w w' := Chg.of_grown hg (fun q hq => by injection hq with hq; exact hq.symm)
    have hcF : Chg F w w' := ⟨hcg.os, hcg.tape, hcg.output, hcg.size, fun q hq hn => hcg.block q hq (fun e => hn ((hF q).2 (.inl e)))⟩
    have hA' : All2 (RcIs w' lo) R S := all2_imp hA (fun r hr x hx => hx.chg hcg (fun q hq e => hx.ne_db hDB hq e))
    have hxs : RcIs w' lo x (sealL ⟨h, L, M⟩) := ⟨hX.1, own_low hX.2.1 hlo, hX.2.2.1, own_low hX.2.2.2.1 hlo, hX.2.2.2.2⟩
    have hxk : keyH x.h = keyH h := by rw [hX.1]; rfl
    have e2 : putS room S ⟨h, L, M⟩ = insL (sealL ⟨h, L, M⟩) (dropL S (keyH h)) := by unfold putS; rw [e1, if_pos rfl]; rfl
    rw [e1, e2]
    have hks : kyL (sealL ⟨h, L, M⟩) = keyH h := rfl
    have hall : All2 (RcIs w' lo) (insR (keyH h) x (dropI R (findR R (keyH h)))) (insL (sealL ⟨h, L, M⟩) (dropL S (keyH h))) := by
      rw [← hxk]
      exact all2_ins (fun r x hp => hp.1) hxs (all2_drop (fun r x hp => hp.1) hA' h1 (keyH x.h))
    refine ⟨rfl, fun q => q = g ∨ (Value.slice A3 n3 c3).ownBlock = some q ∨ ∃ r ∈ insR (keyH h) x (dropI R (findR R (keyH h))), rcFoot r q, ⟨A3, n3, c3, _, hB', hlg, own_low hO' hlo, hall, sort_insL (sort_drop h1 _) (fun y hy => by rw [hks]; exact (mem_drop.1 hy).2), by rw [insL_length]; push_cast; exact hroom, h3, fun y hy => ?_, fun q => Iff.rfl⟩, hcF, fun q hq => ?_⟩
    · rcases mem_insL.1 hy with rfl | hy
      · show rightB (sealHd h L M) L M = true
        rw [right_seal]
        exact hr
      · exact h4 y (mem_drop.1 hy).1
    · rcases hq with hq | hq | ⟨r, hr, hq⟩
      · exact .inl ((hF q).2 (.inl hq))
      · exact .inr (hO'.lt q hq).1
      · rcases mem_insR hr with rfl | hr
        · rcases hq with hq | hq
          · exact .inr (hX.2.1.lt q hq).1
          · exact .inr (hX.2.2.2.1.lt q hq).1
        · exact .inl ((hF q).2 (.inr (.inr ⟨r, mem_dropI hr, hq⟩)))
theorem r7Put_db {w : World} {lo g : Nat} {room : Int} {S : List La} {F : Nat → Prop} (hd : RefDb w lo g room S F) (hlo : lo ≤ w.heap.size) (h : Hd) (L : List Lk) (M : List Int) (A A' : Option Addr) (n c n' c' B : Nat) (hL : Lnk w B A n L) (hM : Row .i64 w B A' n' M) (hB : B ≤ lo) (hn : n ≤ 1000) (hn' : n' ≤ 1000) :
    Calls Tryz.prog 23 #[.pointer (some ⟨g, 0, none⟩), .agg #[.int .i64 h.age, .int .i64 h.kind, .int .i64 h.id, .int .i64 h.adv, .int .i64 h.seq, .int .i64 h.sum, .int .i64 h.long, .slice A n c, .slice A' n' c']] w
    fun e w' => e = .returned (.int .i64 (putE room S ⟨h, L, M⟩)) ∧ ∃ F', RefDb w' lo g room (putS room S ⟨h, L, M⟩) F' ∧ Chg F w w' ∧ ∀ q, F' q → F q ∨ w.heap.size ≤ q := by
  have hd0 := hd
  obtain ⟨A0, n0, c0, R, hDB, hlg, hO, hA, h1, h2, h3, h4, hF⟩ := hd
  have hl := hO.1
  rw [rcCells_length] at hl
  have hln := hA.1
  cases hr : rightB h L M
  · have e1 : putE room S ⟨h, L, M⟩ = 1 := by unfold putE; rw [if_pos hr]
    have e2 : putS room S ⟨h, L, M⟩ = S := by unfold putS; rw [e1, if_neg (by decide)]
    rw [e1, e2]
    refine (r7put_no (.pointer (some ⟨g, 0, none⟩)) h L M A A' n c n' c' B w hL hM (by omega) hn hn' hr).mono ?_
    rintro e w' ⟨rfl, hb⟩
    exact ⟨rfl, F, hd0.chg (F' := fun _ => False) (Chg.of_below hb) (fun _ _ hf => hf), Chg.of_below hb, fun q hq => .inl hq⟩
  · have hky : kyL ⟨h, L, M⟩ = keyH h := rfl
    rcases all2_find (fun r x hp => hp.1) hA h1 (keyH h) with ⟨g1, g2⟩ | ⟨j, r, x, g1, g2, g3, g4, _⟩
    · by_cases hfull : room ≤ (S.length : Int)
      · have e1 : putE room S ⟨h, L, M⟩ = 7 := by unfold putE; rw [if_neg (by rw [hr]; decide), if_pos ⟨by rw [hky, g1]; rfl, hfull⟩]
        have e2 : putS room S ⟨h, L, M⟩ = S := by unfold putS; rw [e1, if_neg (by decide)]
        rw [e1, e2]
        refine (r7put_full g A0 n0 c0 room R lo h L M A A' n c n' c' B w hL hM (by omega) hn hn' hr hDB hO (by omega) g2 (by omega)).mono ?_
        rintro e w' ⟨rfl, hb⟩
        exact ⟨rfl, F, hd0.chg (F' := fun _ => False) (Chg.of_below hb) (fun _ _ hf => hf), Chg.of_below hb, fun q hq => .inl hq⟩
      · have e1 : putE room S ⟨h, L, M⟩ = 0 := by unfold putE; rw [if_neg (by rw [hr]; decide), if_neg (fun e => hfull e.2)]
        exact put_go hd0 hlo h L M A A' n c n' c' B hL hM hB hn hn' hr e1 (by rw [hky]; exact fun e => hfull e.2) (by rw [hky, dropL_none (getL_none.1 g1)]; omega)
    · have e1 : putE room S ⟨h, L, M⟩ = 0 := by unfold putE; rw [if_neg (by rw [hr]; decide), if_neg (fun e => by have := e.1; rw [hky, g1] at this; cases this)]
      exact put_go hd0 hlo h L M A A' n c n' c' B hL hM hB hn hn' hr e1 (by rw [hky, g1]; exact fun e => by cases e.1) (by rw [hky]; have := dropL_less h1 g1; omega)
end Go.Proofs.YtfdfdmbnggpnbaaGreat
namespace Go.Proofs.YtfdfdmbnggpnbaaGreat
open Go.RowKit

/-- A key of three numbers of 64 bits. -/
def wfKy (k : Ky) : Prop := (-9223372036854775808 ≤ k.kind ∧ k.kind ≤ 9223372036854775807) ∧ (-9223372036854775808 ≤ k.id ∧ k.id ≤ 9223372036854775807) ∧ (-9223372036854775808 ≤ k.adv ∧ k.adv ≤ 9223372036854775807)
/-- What Get answers. -/
def GetOk (w : World) (S : List La) (k : Ky) (e : Ending) (w' : World) : Prop :=
  (getL S k = none ∧ e = .returned (.tuple #[.agg #[.int .i64 0, .int .i64 0, .int .i64 0, .int .i64 0, .int .i64 0, .int .i64 0, .int .i64 0, .slice none 0 0, .slice none 0 0], .bool false])) ∨
  ∃ (x : La) (A : Option Addr) (n c : Nat) (A' : Option Addr) (n' c' : Nat), getL S k = some x ∧ e = .returned (.tuple #[.agg #[.int .i64 x.h.age, .int .i64 x.h.kind, .int .i64 x.h.id, .int .i64 x.h.adv, .int .i64 x.h.seq, .int .i64 x.h.sum, .int .i64 x.h.long, .slice A n c, .slice A' n' c'], .bool true]) ∧ w'.ownsRow w.heap.size 86 4 (.slice A n c) n (lkCells x.L) ∧ x.L.length = n ∧ w'.ownsRow w.heap.size 3 1 (.slice A' n' c') n' (x.M.map (Value.int .i64)) ∧ x.M.length = n'
set_option maxRecDepth 8000 in
set_option maxHeartbeats 2000000 in
theorem keyOf_any (h : Hd) (w : World) : Calls Tryz.prog 17 #[.agg #[.int .i64 h.age, .int .i64 h.kind, .int .i64 h.id, .int .i64 h.adv, .int .i64 h.seq, .int .i64 h.sum, .int .i64 h.long]] w
    fun e w' => e = .returned (.agg #[.int .i64 h.kind, .int .i64 h.id, .int .i64 h.adv]) ∧ Below w.heap.size w w' := by
  have B0 := Lib.hid (below_new2 w (.cells #[.int .i64 h.age, .int .i64 h.kind, .int .i64 h.id, .int .i64 h.adv, .int .i64 h.seq, .int .i64 h.sum, .int .i64 h.long] 40) (.cells #[.int .i64 h.kind, .int .i64 h.id, .int .i64 h.adv] 48))
  go_enter Tryz.func17, Tryz.ntmps17
  go_wp2
  refine bodyPost_ret (v := .agg #[.int .i64 h.kind, .int .i64 h.id, .int .i64 h.adv]) (by simp [results, Tryz.results17, go_sem, *]) rfl ?_
  exact ⟨rfl, B0.out⟩

end Go.Proofs.YtfdfdmbnggpnbaaGreat
