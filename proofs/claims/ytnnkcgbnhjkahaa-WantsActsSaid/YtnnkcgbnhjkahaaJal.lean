/- The reference's Put: an error, or the list with it in its place. Conditions: at most 1000 items. · The reference's Put that is refused: a description that isn't right, and one of a new key where there is no room. Conditions: at most 1000 items. · Plain facts on databases: lists of descriptions in the order of their keys. No program, no conditions. -/
import Derived.Test.YtnnkcgbnhjkahaaJak
namespace Go.Proofs.Ytnnkcgbnhjkahaa
open Go.RowKit

/-- A list with an item of key k ahead of the first greater one. -/
def insR (k : Ky) (x : Rc) : List Rc → List Rc
  | [] => [x]
  | r :: R => if lessKy k (keyH r.h) = true then x :: r :: R else r :: insR k x R
theorem insR_no {k : Ky} {x r : Rc} {R : List Rc} (h : lessKy k (keyH r.h) = false) : insR k x (r :: R) = r :: insR k x R := by
  rw [insR, if_neg (by rw [h]; decide)]
theorem insR_yes {k : Ky} {x r : Rc} {R : List Rc} (h : lessKy k (keyH r.h) = true) : insR k x (r :: R) = x :: r :: R := by
  rw [insR, if_pos h]
theorem insR_take {k : Ky} {x : Rc} : ∀ {R : List Rc} {j : Nat}, (∀ (m : Nat) (y : Rc), m < j → R[m]? = some y → lessKy k (keyH y.h) = false) → insR k x R = R.take j ++ insR k x (R.drop j)
  | R, 0, _ => by simp
  | [], j + 1, _ => by simp
  | r :: R, j + 1, h => by
    have h0 := h 0 r (by omega) (by simp)
    have ih := insR_take (k := k) (x := x) (R := R) (j := j) (fun m y hm hy => h (m + 1) y (by omega) (by simpa using hy))
    rw [insR_no h0, ih]
    simp
theorem insR_here {k : Ky} {x : Rc} {R : List Rc} {j : Nat} {r : Rc} (hr : R[j]? = some r) (h : ∀ (m : Nat) (y : Rc), m < j → R[m]? = some y → lessKy k (keyH y.h) = false) (hl : lessKy k (keyH r.h) = true) : insR k x R = R.take j ++ x :: R.drop j := by
  have hj := (List.getElem?_eq_some_iff.1 hr).1
  have er := (List.getElem?_eq_some_iff.1 hr).2
  rw [insR_take h, List.drop_eq_getElem_cons hj, er, insR_yes hl]
theorem insR_end {k : Ky} {x : Rc} {R : List Rc} (h : ∀ (m : Nat) (y : Rc), m < R.length → R[m]? = some y → lessKy k (keyH y.h) = false) : insR k x R = R ++ [x] := by
  rw [insR_take h, List.take_length, List.drop_length]
  rfl

/-- Rows of unlike items lie apart. -/
theorem own_apart {w : World} {b b' n n' size size' : Nat} {t t' : TypeId} {v v' : Value} {xs xs' : List Value} (h : w.ownsRow b t size v n xs) (h' : w.ownsRow b' t' size' v' n' xs') (ht : t ≠ t') : v'.ownBlock = none ∨ v'.ownBlock ≠ v.ownBlock := by
  rcases h'.2 with ⟨rfl, _⟩ | ⟨g', cap', cur', rfl, _, hg', _⟩
  · exact .inl rfl
  · rcases h.2 with ⟨rfl, _⟩ | ⟨g, cap, cur, rfl, _, hg, _⟩
    · exact .inr (by simp [Value.ownBlock])
    · refine .inr (fun e => ?_)
      simp [Value.ownBlock] at e
      subst e
      rw [hg] at hg'
      injection hg' with hg'
      injection hg' with _ e2
      exact ht e2
theorem Below.grown0 {w w' : World} (h : Below w.heap.size w w') : w.grownBy w' none := grown_below h
/-- A description of the call's own: sealed, its lists in memory of their own. -/
def XOk (w : World) (lo : Nat) (h : Hd) (L : List Lk) (M : List Int) (x : Rc) : Prop :=
  x.h = sealHd h L M ∧ w.ownsRow lo 96 4 (.slice x.p.a x.p.n x.p.c) x.p.n (lkCells L) ∧ L.length = x.p.n ∧ w.ownsRow lo 3 1 (.slice x.q.a x.q.n x.q.c) x.q.n (M.map (Value.int .i64)) ∧ M.length = x.q.n
theorem XOk.below {w w' : World} {lo : Nat} {h : Hd} {L : List Lk} {M : List Int} {x : Rc} (hx : XOk w lo h L M x) (hb : Below w.heap.size w w') : XOk w' lo h L M x := ⟨hx.1, own_below2 hx.2.1 hb, hx.2.2.1, own_below2 hx.2.2.2.1 hb, hx.2.2.2.2⟩
theorem XOk.alloc {w : World} {lo : Nat} {h : Hd} {L : List Lk} {M : List Int} {x : Rc} (hx : XOk w lo h L M x) (o : Obj) : XOk (w.alloc o) lo h L M x := ⟨hx.1, hx.2.1.alloc o, hx.2.2.1, hx.2.2.2.1.alloc o, hx.2.2.2.2⟩
/-- .. while a list of descriptions grows. -/
theorem XOk.grown {w w' : World} {lo b n : Nat} {h : Hd} {L : List Lk} {M : List Int} {x : Rc} {v : Value} {xs : List Value} (hx : XOk w lo h L M x) (ho : w.ownsRow b 62 9 v n xs) (hg : w.grownBy w' v.ownBlock) : XOk w' lo h L M x :=
  ⟨hx.1, hx.2.1.kept hg (own_apart ho hx.2.1 (by decide)), hx.2.2.1, hx.2.2.2.1.kept hg (own_apart ho hx.2.2.2.1 (by decide)), hx.2.2.2.2⟩
theorem XOk.cellDb {w : World} {lo g : Nat} {h : Hd} {L : List Lk} {M : List Int} {x : Rc} {cs : Array Value} (hx : XOk w lo h L M x) (hB : Blk w g 68 cs) (u : Value) : XOk (w.setCell ⟨g, 0, none⟩ u) lo h L M x := by
  have hk : ∀ {t : TypeId} {size n : Nat} {v : Value} {xs : List Value}, t ≠ 68 → w.ownsRow lo t size v n xs → (w.setCell ⟨g, 0, none⟩ u).ownsRow lo t size v n xs := by
    intro t size n v xs ht ho
    refine own_ne ho _ _ (fun e => ?_)
    rcases ho.2 with ⟨rfl, _⟩ | ⟨b, cap, cur, rfl, _, hg, _⟩
    · cases e
    · simp [Value.ownBlock] at e
      subst e
      have h1 : w.heap[b]? = some (.cells cs 68 (0, 0)) := hB
      rw [h1] at hg
      injection hg with hg
      injection hg with _ e2
      exact ht e2.symm
  exact ⟨hx.1, hk (by decide) hx.2.1, hx.2.2.1, hk (by decide) hx.2.2.2.1, hx.2.2.2.2⟩
/-- Of a list R the first j items have been taken over; f: x has been laid in. -/
def Mid (w : World) (lo : Nat) (h : Hd) (L : List Lk) (M : List Int) (k : Ky) (R : List Rc) (j : Nat) (f : Bool) (xs : List Rc) : Prop :=
  (f = false → xs = R.take j ∧ ∀ (m : Nat) (y : Rc), m < j → R[m]? = some y → lessKy k (keyH y.h) = false) ∧ (f = true → ∃ x, XOk w lo h L M x ∧ xs ++ R.drop j = insR k x R)
section
variable {w w' : World} {lo : Nat} {h : Hd} {L : List Lk} {M : List Int} {k : Ky} {R xs : List Rc} {j : Nat} {f : Bool}
theorem Mid.start : Mid w lo h L M k R 0 false [] := by
  refine ⟨fun _ => ⟨by simp, fun m y hm _ => absurd hm (by omega)⟩, fun e => ?_⟩
  cases e
theorem Mid.move (hm : Mid w lo h L M k R j f xs) (hx : ∀ x, XOk w lo h L M x → XOk w' lo h L M x) : Mid w' lo h L M k R j f xs :=
  ⟨hm.1, fun e => by
    obtain ⟨x, h1, h2⟩ := hm.2 e
    exact ⟨x, hx x h1, h2⟩⟩
theorem Mid.no {r : Rc} (hm : Mid w lo h L M k R j f xs) (hr : R[j]? = some r) (hn : (!f && lessKy k (keyH r.h)) = false) : Mid w lo h L M k R (j + 1) f (xs ++ [r]) := by
  have hj := (List.getElem?_eq_some_iff.1 hr).1
  have er := (List.getElem?_eq_some_iff.1 hr).2
  refine ⟨fun e => ?_, fun e => ?_⟩
  · obtain ⟨h1, h2⟩ := hm.1 e
    rw [e] at hn
    refine ⟨by rw [h1, List.take_succ_eq_append_getElem hj, er], fun m y hmj hy => ?_⟩
    by_cases hmj' : m = j
    · subst hmj'
      rw [hr] at hy
      injection hy with hy
      subst hy
      simpa using hn
    · exact h2 m y (by omega) hy
  · obtain ⟨x, h1, h2⟩ := hm.2 e
    refine ⟨x, h1, ?_⟩
    rw [← h2, List.append_assoc, List.drop_eq_getElem_cons hj, er]
    rfl
theorem Mid.yes {r x : Rc} (hm : Mid w lo h L M k R j false xs) (hr : R[j]? = some r) (hy : lessKy k (keyH r.h) = true) (hx : XOk w' lo h L M x) : Mid w' lo h L M k R (j + 1) true (xs ++ [x] ++ [r]) := by
  have hj := (List.getElem?_eq_some_iff.1 hr).1
  have er := (List.getElem?_eq_some_iff.1 hr).2
  obtain ⟨h1, h2⟩ := hm.1 rfl
  refine ⟨fun e => (by cases e), fun _ => ⟨x, hx, ?_⟩⟩
  rw [insR_here hr h2 hy, h1, List.drop_eq_getElem_cons hj, er]
  simp
theorem Mid.end_yes (hm : Mid w lo h L M k R j true xs) (hj : R.length ≤ j) : ∃ x, XOk w lo h L M x ∧ xs = insR k x R := by
  obtain ⟨x, h1, h2⟩ := hm.2 rfl
  rw [List.drop_of_length_le hj, List.append_nil] at h2
  exact ⟨x, h1, h2⟩
theorem Mid.end_no {x : Rc} (hm : Mid w lo h L M k R j false xs) (hj : R.length ≤ j) : xs ++ [x] = insR k x R := by
  obtain ⟨h1, h2⟩ := hm.1 rfl
  rw [List.take_of_length_le hj] at h1
  rw [h1, insR_end (fun m y hm hy => h2 m y (by omega) hy)]
end
theorem xok_of_seal {w : World} {lo : Nat} {h : Hd} {L : List Lk} {M : List Int} {A : Option Addr} {n c : Nat} {A' : Option Addr} {n' c' : Nat} (h1 : w.ownsRow lo 96 4 (.slice A n c) n (lkCells L)) (h2 : L.length = n) (h3 : w.ownsRow lo 3 1 (.slice A' n' c') n' (M.map (Value.int .i64))) (h4 : M.length = n') : XOk w lo h L M ⟨sealHd h L M, ⟨A, n, c⟩, ⟨A', n', c'⟩⟩ := ⟨rfl, h1, h2, h3, h4⟩
/-- What Put leaves. -/
def PutR7 (w : World) (g : Nat) (room : Int) (R : List Rc) (h : Hd) (L : List Lk) (M : List Int) (e : Ending) (w' : World) : Prop :=
  e = .returned (.int .i64 0) ∧ ∃ A' n' c' x, Blk w' g 68 #[.slice A' n' c', .int .i64 room] ∧ w'.ownsRow w.heap.size 62 9 (.slice A' n' c') n' (rcCells (insR (keyH h) x (dropI R (findR R (keyH h))))) ∧ XOk w' w.heap.size h L M x ∧ w.grownBy w' (some g)

set_option maxRecDepth 8000 in
set_option maxHeartbeats 16000000 in
theorem r7put_ok (g : Nat) (A2 : Option Addr) (n2 c2 : Nat) (room : Int) (R : List Rc) (base : Nat) (h : Hd) (L : List Lk) (M : List Int) (A A' : Option Addr) (n c n' c' B : Nat) (w : World) (hL : Lnk w B A n L) (hM : Row .i64 w B A' n' M) (hB : B ≤ w.heap.size) (hn : n ≤ 1000) (hn' : n' ≤ 1000) (hr : rightB h L M = true)
    (hD : Blk w g 68 #[.slice A2 n2 c2, .int .i64 room]) (hO : w.ownsRow base 62 9 (.slice A2 n2 c2) n2 (rcCells R)) (hn2 : n2 ≤ 1000) (hBg : B ≤ g) (hfull : ¬ (findR R (keyH h) < 0 ∧ room ≤ n2)) :
    Calls Try.prog 29 #[.pointer (some ⟨g, 0, none⟩), .agg #[.int .i64 h.age, .int .i64 h.kind, .int .i64 h.id, .int .i64 h.adv, .int .i64 h.seq, .int .i64 h.sum, .int .i64 h.long, .slice A n c, .slice A' n' c']] w (PutR7 w g room R h L M) := by
  generalize hQ : PutR7 w g room R h L M = Q
  have HQ := Lib.hid hQ
  clear hQ
  have HL := Lib.hid hL
  have HM := Lib.hid hM
  have HR := Lib.hid hr
  have HD := Lib.hid hD
  have HO := Lib.hid hO
  have hgl := hD.lt
  have hl2 := hO.1
  rw [rcCells_length] at hl2
  clear hL hM hr hD hO
  have K0 := Lib.hid (Blk.new w 62 #[.int .i64 h.age, .int .i64 h.kind, .int .i64 h.id, .int .i64 h.adv, .int .i64 h.seq, .int .i64 h.sum, .int .i64 h.long, .slice A n c, .slice A' n' c'])
  have B0 := Lib.hid ((Below.refl w.heap.size w).alloc (Nat.le_refl _) (.cells #[.int .i64 h.age, .int .i64 h.kind, .int .i64 h.id, .int .i64 h.adv, .int .i64 h.seq, .int .i64 h.sum, .int .i64 h.long, .slice A n c, .slice A' n' c'] 62))
  go_enter Try.func29, Try.ntmps29
  go_wp2_with (refine wpList_load_rc (r := ⟨h, ⟨A, n, c⟩, ⟨A', n', c'⟩⟩) (by rfl) (.tmp 3) rfl (by rfl) (rcAt_blk K0.out) ?_)
  have hl0 := K0.out.lt
  have hs0 := B0.out.size
  refine (refRight_any h L M A A' n c n' c' B _ (HL.out.below (B0.out.mono hB)) (HM.out.below (B0.out.mono hB)) (by omega) (by unfold maxLen; omega) (by unfold maxLen; omega)).mono ?_
  rintro e1 w1 ⟨rfl, hb1⟩
  rw [HR.out]
  have B1 := Lib.hid (B0.out.trans (hb1.mono hs0))
  have K1 := Lib.hid (K0.out.below hb1 hl0)
  have hs1 := B1.out.size
  have hl1 := K1.out.lt
  have HD1 := Lib.hid (HD.out.below B1.out hgl)
  have HO1 := Lib.hid (own_below2 HO.out B1.out)
  clear hb1 K0 B0 hl0 hs0
  obtain ⟨v, hv⟩ : ∃ v, findR R (keyH h) = v := ⟨_, rfl⟩
  have hvb := findR_bd R (keyH h)
  rw [hv] at hvb hfull
  have HV := Lib.hid (show findR R ⟨h.kind, h.id, h.adv⟩ = v from hv)
  clear hv
  have c0 := HD1.out.cell 0
  have c1 := HD1.out.cell 1
  obtain ⟨k0, k1, k2, k3, k4, k5, k6, k7, k8⟩ := K1.out.nine
  have hgl1 : g < w1.heap.size := by omega
  have BR := Below.refl w1.heap.size w1
  have BRd : Below w1.heap.size w1 w1.drew := ⟨rfl, rfl, rfl, Nat.le_refl _, fun _ _ => rfl⟩
  go_upto_region 3 with fail
  go_cut [27] (fun s27 wx => s27 = .bool false ∧ Hid (Below w1.heap.size w1 wx))
  case first =>
    by_cases hv0 : v < 0
    · have d1 : decide (v < 0) = true := by simpa using hv0
      have d2 : decide (room ≤ (n2 : Int)) = false := by
        have : ¬ room ≤ (n2 : Int) := fun e => hfull ⟨hv0, e⟩
        simpa using this
      go_region_held3 (fun w' => Below w1.heap.size w1 w' ∧ (∀ b o, b < w1.heap.size → w'.cell? ⟨b, o, none⟩ = w1.cell? ⟨b, o, none⟩)) ((refine keepW ?_; first | with_reducible exact hB2q | with_reducible exact hB1q | with_reducible exact BR | with_reducible exact ⟨rfl, rfl, rfl, Nat.le_refl _, fun _ _ => rfl⟩))
        (first
          | (go_at_call 46; refine (r7key_any ⟨h, ⟨A, n, c⟩, ⟨A', n', c'⟩⟩ _).mono ?_; rintro ea wa ⟨rfl, hba⟩; have hB1q := Below.trans (And.left ‹_›) (hba.mono (Below.size (And.left ‹_›))))
          | (go_at_call 31; refine (r7find_any g A2 n2 c2 room R ⟨h.kind, h.id, h.adv⟩ base _ (HD1.out.below (And.left ‹_›) hgl1) (own_below2 HO1.out (And.left ‹_›)) hn2).mono ?_; rintro eb wb ⟨rfl, hbb⟩; rw [HV.out]; have hB2q := Below.trans (And.left ‹_›) (hbb.mono (Below.size (And.left ‹_›)))))
      go_wp2_with fail
      go_meet
      exact ⟨rfl, Lib.hid hB2q⟩
    · obtain ⟨jv, rfl⟩ : ∃ jv : Nat, v = jv := ⟨v.toNat, by omega⟩
      have d1 : decide ((jv : Int) < 0) = false := by simp
      refine wp_region_noPanic ?_
      refine wp_region_held_drew (S := fun w' => Below w1.heap.size w1 w') (by kernel_rfl) BRd (fun hHeld => ?_)
      refine wpAnyH_take (i := 0) (oi := { dst := Option.some 11, op := Go.Op.move (Go.Operand.tmp 0), type := 57, pos := "ref.go:80", after := #[], guard := Option.none }) (v := ?_) rfl (by kernel_rfl) (by kernel_rfl) (by kernel_rfl) (fun _ _ _ h => h) (Or.inl ⟨by rfl, ?_⟩) hHeld ?_
      rotate_left 1
      · intro ww hSw
        try dsimp only at hSw
        go_simp
        try with_reducible rfl
      try simp only [Act.put, List.setIfInBounds_toArray, List.set_cons_zero, List.set_cons_succ]
      refine wpAnyH_take (i := 1) (oi := { dst := Option.some 12, op := Go.Op.load 62 (Go.Operand.tmp 3), type := 62, pos := "ref.go:80", after := #[], guard := Option.none }) (v := .agg #[.int .i64 h.age, .int .i64 h.kind, .int .i64 h.id, .int .i64 h.adv, .int .i64 h.seq, .int .i64 h.sum, .int .i64 h.long, .slice A n c, .slice A' n' c']) rfl (by kernel_rfl) (by kernel_rfl) (by kernel_rfl) (fun _ _ _ h => h) (yieldsIf_load_mid (by rfl) 62 (.tmp 3) rfl w.heap.size 0 rfl (Rc.cells ⟨h, ⟨A, n, c⟩, ⟨A', n', c'⟩⟩) _ (fun _ hb => (rcAt_blk (r := ⟨h, ⟨A, n, c⟩, ⟨A', n', c'⟩⟩) (K1.out.below hb hl1)).range) Try.underlying62 rfl (by kernel_rfl)) hHeld ?_
      try simp only [Act.put, List.setIfInBounds_toArray, List.set_cons_zero, List.set_cons_succ]
      refine wpAnyH_ready (rs := [2]) (by kernel_rfl) (by simp) ?_
      refine AllReadyH.cons (o := { dst := Option.some 13, op := Go.Op.call { callee := Go.Callee.value (Go.Operand.func 46), args := #[Go.Operand.tmp 12], argTypes := #[62] }, type := 47, pos := "ref.go:80", after := #[{ on := 1, ground := Go.Ground.data }], guard := Option.none }) rfl (fun K hK => ?_) AllReadyH.nil
      go_simp
      refine (r7key_any ⟨h, ⟨A, n, c⟩, ⟨A', n', c'⟩⟩ _).mono ?_
      rintro ea wa ⟨rfl, hba⟩
      have hC1 := BRd.trans (hba.mono BRd.size)
      clear hba hHeld
      refine hK.out _ _ hC1 (fun hHeld => ?_)
      clear hK K
      try dsimp only
      refine wpAnyH_ready (rs := [3]) (by kernel_rfl) (by simp) ?_
      refine AllReadyH.cons (o := { dst := Option.some 14, op := Go.Op.call { callee := Go.Callee.value (Go.Operand.func 31), args := #[Go.Operand.tmp 11, Go.Operand.tmp 13], argTypes := #[57, 47] }, type := 3, pos := "ref.go:80", after := #[{ on := 0, ground := Go.Ground.data }, { on := 2, ground := Go.Ground.data }, { on := 2, ground := Go.Ground.chain }], guard := Option.none }) rfl (fun K hK => ?_) AllReadyH.nil
      go_simp
      refine (r7find_any g A2 n2 c2 room R ⟨h.kind, h.id, h.adv⟩ base _ (HD1.out.below hC1 hgl1) (own_below2 HO1.out hC1) hn2).mono ?_
      rintro eb wb ⟨rfl, hbb⟩
      rw [HV.out]
      have hC2 := hC1.trans (hbb.mono hC1.size)
      clear hbb hHeld
      refine hK.out _ _ hC2 (fun hHeld => ?_)
      clear hK K
      try simp only [Act.put, List.setIfInBounds_toArray, List.set_cons_zero, List.set_cons_succ]
      refine wpAnyH_take (i := 4) (oi := { dst := Option.some 15, op := Go.Op.binOp Go.BinOp.lss 3 (Go.Operand.tmp 14) (Go.Operand.const (Go.Value.int Go.IntKind.i64 0)) 3, type := 4, pos := "ref.go:80", after := #[{ on := 3, ground := Go.Ground.data }], guard := Option.none }) (v := ?_) rfl (by kernel_rfl) (by kernel_rfl) (by kernel_rfl) (fun _ _ _ h => h) (Or.inl ⟨by rfl, ?_⟩) hHeld ?_
      rotate_left 1
      · intro ww hSw
        try dsimp only at hSw
        go_simp
        try with_reducible rfl
      try simp only [Act.put, List.setIfInBounds_toArray, List.set_cons_zero, List.set_cons_succ]
      refine wpAnyH_take (i := 5) (oi := { dst := Option.some 16, op := Go.Op.move (Go.Operand.tmp 15), type := 4, pos := "ref.go:80", after := #[{ on := 4, ground := Go.Ground.data }, { on := 3, ground := Go.Ground.chain }], guard := Option.none }) (v := ?_) rfl (by kernel_rfl) (by kernel_rfl) (by kernel_rfl) (fun _ _ _ h => h) (Or.inl ⟨by rfl, ?_⟩) hHeld ?_
      rotate_left 1
      · intro ww hSw
        try dsimp only at hSw
        go_simp
        try with_reducible rfl
      try simp only [Act.put, List.setIfInBounds_toArray, List.set_cons_zero, List.set_cons_succ]
      refine wpAnyH_take (i := 6) (oi := { dst := Option.some 17, op := Go.Op.move (Go.Operand.tmp 0), type := 57, pos := "ref.go:80", after := #[{ on := 5, ground := Go.Ground.guard }], guard := Option.some (5, Bool.true) }) (v := undef) rfl (by kernel_rfl) (by kernel_rfl) (by kernel_rfl) (fun _ _ _ h => h) (Or.inr ⟨by rfl, rfl⟩) hHeld ?_
      try simp only [Act.put, List.setIfInBounds_toArray, List.set_cons_zero, List.set_cons_succ]
      refine wpAnyH_take (i := 7) (oi := { dst := Option.some 18, op := Go.Op.nilCheck (Go.Operand.tmp 17), type := 0, pos := "ref.go:80", after := #[{ on := 6, ground := Go.Ground.data }, { on := 5, ground := Go.Ground.guard }], guard := Option.some (5, Bool.true) }) (v := undef) rfl (by kernel_rfl) (by kernel_rfl) (by kernel_rfl) (fun _ _ _ h => h) (Or.inr ⟨by rfl, rfl⟩) hHeld ?_
      try simp only [Act.put, List.setIfInBounds_toArray, List.set_cons_zero, List.set_cons_succ]
      refine wpAnyH_take (i := 8) (oi := { dst := Option.some 19, op := Go.Op.fieldAddr 68 (Go.Operand.tmp 18) 0, type := 0, pos := "ref.go:80", after := #[{ on := 7, ground := Go.Ground.data }, { on := 5, ground := Go.Ground.guard }], guard := Option.some (5, Bool.true) }) (v := undef) rfl (by kernel_rfl) (by kernel_rfl) (by kernel_rfl) (fun _ _ _ h => h) (Or.inr ⟨by rfl, rfl⟩) hHeld ?_
      try simp only [Act.put, List.setIfInBounds_toArray, List.set_cons_zero, List.set_cons_succ]
      refine wpAnyH_take (i := 9) (oi := { dst := Option.some 20, op := Go.Op.load 53 (Go.Operand.tmp 19), type := 53, pos := "ref.go:80", after := #[{ on := 8, ground := Go.Ground.data }, { on := 5, ground := Go.Ground.guard }], guard := Option.some (5, Bool.true) }) (v := undef) rfl (by kernel_rfl) (by kernel_rfl) (by kernel_rfl) (fun _ _ _ h => h) (Or.inr ⟨by rfl, rfl⟩) hHeld ?_
      try simp only [Act.put, List.setIfInBounds_toArray, List.set_cons_zero, List.set_cons_succ]
      refine wpAnyH_take (i := 10) (oi := { dst := Option.some 21, op := Go.Op.call { callee := Go.Callee.builtin Go.Builtin.len, args := #[Go.Operand.tmp 20], argTypes := #[53] }, type := 3, pos := "ref.go:80", after := #[{ on := 9, ground := Go.Ground.data }, { on := 5, ground := Go.Ground.guard }], guard := Option.some (5, Bool.true) }) (v := undef) rfl (by kernel_rfl) (by kernel_rfl) (by kernel_rfl) (fun _ _ _ h => h) (Or.inr ⟨by rfl, rfl⟩) hHeld ?_
      try simp only [Act.put, List.setIfInBounds_toArray, List.set_cons_zero, List.set_cons_succ]
      refine wpAnyH_take (i := 11) (oi := { dst := Option.some 22, op := Go.Op.move (Go.Operand.tmp 0), type := 57, pos := "ref.go:80", after := #[{ on := 5, ground := Go.Ground.guard }], guard := Option.some (5, Bool.true) }) (v := undef) rfl (by kernel_rfl) (by kernel_rfl) (by kernel_rfl) (fun _ _ _ h => h) (Or.inr ⟨by rfl, rfl⟩) hHeld ?_
      try simp only [Act.put, List.setIfInBounds_toArray, List.set_cons_zero, List.set_cons_succ]
      refine wpAnyH_take (i := 12) (oi := { dst := Option.some 23, op := Go.Op.nilCheck (Go.Operand.tmp 22), type := 0, pos := "ref.go:80", after := #[{ on := 11, ground := Go.Ground.data }, { on := 5, ground := Go.Ground.guard }], guard := Option.some (5, Bool.true) }) (v := undef) rfl (by kernel_rfl) (by kernel_rfl) (by kernel_rfl) (fun _ _ _ h => h) (Or.inr ⟨by rfl, rfl⟩) hHeld ?_
      try simp only [Act.put, List.setIfInBounds_toArray, List.set_cons_zero, List.set_cons_succ]
      refine wpAnyH_take (i := 13) (oi := { dst := Option.some 24, op := Go.Op.fieldAddr 68 (Go.Operand.tmp 23) 1, type := 0, pos := "ref.go:80", after := #[{ on := 12, ground := Go.Ground.data }, { on := 5, ground := Go.Ground.guard }], guard := Option.some (5, Bool.true) }) (v := undef) rfl (by kernel_rfl) (by kernel_rfl) (by kernel_rfl) (fun _ _ _ h => h) (Or.inr ⟨by rfl, rfl⟩) hHeld ?_
      try simp only [Act.put, List.setIfInBounds_toArray, List.set_cons_zero, List.set_cons_succ]
      refine wpAnyH_take (i := 14) (oi := { dst := Option.some 25, op := Go.Op.load 3 (Go.Operand.tmp 24), type := 3, pos := "ref.go:80", after := #[{ on := 13, ground := Go.Ground.data }, { on := 5, ground := Go.Ground.guard }], guard := Option.some (5, Bool.true) }) (v := undef) rfl (by kernel_rfl) (by kernel_rfl) (by kernel_rfl) (fun _ _ _ h => h) (Or.inr ⟨by rfl, rfl⟩) hHeld ?_
      try simp only [Act.put, List.setIfInBounds_toArray, List.set_cons_zero, List.set_cons_succ]
      refine wpAnyH_take (i := 15) (oi := { dst := Option.some 26, op := Go.Op.binOp Go.BinOp.geq 3 (Go.Operand.tmp 21) (Go.Operand.tmp 25) 3, type := 4, pos := "ref.go:80", after := #[{ on := 10, ground := Go.Ground.data }, { on := 14, ground := Go.Ground.data }, { on := 5, ground := Go.Ground.guard }], guard := Option.some (5, Bool.true) }) (v := undef) rfl (by kernel_rfl) (by kernel_rfl) (by kernel_rfl) (fun _ _ _ h => h) (Or.inr ⟨by rfl, rfl⟩) hHeld ?_
      try simp only [Act.put, List.setIfInBounds_toArray, List.set_cons_zero, List.set_cons_succ]
      refine wpAnyH_take (i := 16) (oi := { dst := Option.some 27, op := Go.Op.pick (Go.Operand.tmp 16) (Go.Operand.tmp 26) (Go.Operand.const (Go.Value.bool false)), type := 4, pos := "ref.go:80", after := #[{ on := 5, ground := Go.Ground.data }, { on := 15, ground := Go.Ground.data }], guard := Option.none }) (v := ?_) rfl (by kernel_rfl) (by kernel_rfl) (by kernel_rfl) (fun _ _ _ h => h) (Or.inl ⟨by rfl, ?_⟩) hHeld ?_
      rotate_left 1
      · intro ww hSw
        try dsimp only at hSw
        go_simp
        try with_reducible rfl
      try simp only [Act.put, List.setIfInBounds_toArray, List.set_cons_zero, List.set_cons_succ]
      refine wpAnyH_done (by kernel_rfl) ?_ _
      refine NoPanic.normal ?_
      go_wp2_with fail
      go_meet
      exact ⟨rfl, Lib.hid hC2⟩
  case rest =>
    obtain ⟨rfl, hb2⟩ := hcut
    rename World => w2
    have B2 := Lib.hid (B1.out.trans (hb2.out.mono hs1))
    have K2 := Lib.hid (K1.out.below hb2.out hl1)
    have HD2 := Lib.hid (HD1.out.below hb2.out hgl1)
    have HO2 := Lib.hid (own_below2 HO1.out hb2.out)
    have hs2 := B2.out.size
    have hl2' := K2.out.lt
    clear hb2 k0 k1 k2 k3 k4 k5 k6 k7 k8 c0 c1 K1 HD1 HO1 B1 BR
    go_wp2_with (refine wpList_load_rc (r := ⟨h, ⟨A, n, c⟩, ⟨A', n', c'⟩⟩) (by rfl) (.tmp 3) rfl (by rfl) (rcAt_blk K2.out) ?_)
    refine (r7key_any ⟨h, ⟨A, n, c⟩, ⟨A', n', c'⟩⟩ _).mono ?_
    rintro e3 w3 ⟨rfl, hb3⟩
    have K3 := Lib.hid (K2.out.below hb3 hl2')
    have HD3 := Lib.hid (HD2.out.below hb3 HD2.out.lt)
    have HO3 := Lib.hid (own_below2 HO2.out hb3)
    have B3 := Lib.hid (B2.out.trans (hb3.mono hs2))
    have hs3 := B3.out.size
    have hl3 := K3.out.lt
    clear hb3 K2 HD2 HO2 B2 hl2'
    go_wp2_with fail
    refine (r7drop_any g A2 n2 c2 room R ⟨h.kind, h.id, h.adv⟩ base _ HD3.out HO3.out hn2).mono ?_
    rintro e4 w4 ⟨rfl, A3, n3, c3, hd4, ho4, hg4⟩
    rw [HV.out] at ho4 ⊢
    have hl4 := ho4.1
    rw [rcCells_length] at hl4
    have HG4 := Lib.hid (grown_then (grown_but (grown_below B3.out) (some g)) hg4)
    have HBw := Lib.hid (show Below B w w4 from ⟨HG4.out.os, HG4.out.tape, HG4.out.output, HG4.out.size, fun k hk => HG4.out.block k (by omega) (by simp; omega)⟩)
    have HL4 := Lib.hid (HL.out.below HBw.out)
    have HM4 := Lib.hid (HM.out.below HBw.out)
    have HD4 := Lib.hid hd4
    have HO4 := Lib.hid ho4
    have K4 := Lib.hid (show Blk w4 w.heap.size 62 #[.int .i64 h.age, .int .i64 h.kind, .int .i64 h.id, .int .i64 h.adv, .int .i64 h.seq, .int .i64 h.sum, .int .i64 h.long, .slice A n c, .slice A' n' c'] from (hg4.block w.heap.size hl3 (by simp; omega)).trans K3.out)
    have hs4 := HG4.out.size
    have hl4' := K4.out.lt
    have hn3 : n3 ≤ 1000 := by
      have h1 : (dropI R v).length ≤ R.length := by
        unfold dropI
        split
        · exact Nat.le_refl _
        · exact List.length_eraseIdx_le _ _
      omega
    have HDR := Lib.hid (show dropI R (findR R (keyH h)) = dropI R v by rw [show findR R (keyH h) = v from HV.out])
    clear hd4 ho4 hg4 K3 HD3 HO3 B3
    generalize hR1 : dropI R v = R1 at *
    clear hR1
    have hgl4 : g < w4.heap.size := by omega
    go_wp2_with fail
    go_loopw [5, 6, 7] (fun o d i wr => ∃ (j m c5 : Nat) (A5 : Option Addr) (f : Bool) (xs : List Rc), j ≤ n3 ∧ i = .int .i64 j ∧ o = .slice A5 m c5 ∧ d = .bool f ∧ m ≤ j + 1 ∧ Hid (wr.ownsRow w4.heap.size 62 9 (.slice A5 m c5) m (rcCells xs)) ∧ Hid (Mid wr w.heap.size h L M (keyH h) R1 j f xs) ∧ Hid (Below w4.heap.size w4 wr)) (fun _ _ i _ => n3 - (intOf i).toNat)
    case atStart => exact ⟨0, 0, 0, none, false, [], Nat.zero_le _, rfl, rfl, rfl, by omega, Lib.hid (World.ownsRow_nil _ _ _ _), Lib.hid Mid.start, Lib.hid (Below.refl _ _)⟩
    case round =>
    obtain ⟨j, m, c5, A5, f, xs, hj, rfl, rfl, rfl, hmj, HX, HMid, hb⟩ := hrel
    have hsz := hb.out.size
    have HDr := Lib.hid (HD4.out.below hb.out hgl4)
    have HOr := Lib.hid (own_below2 HO4.out hb.out)
    have Kr := Lib.hid (K4.out.below hb.out hl4')
    have hlr := Kr.out.lt
    have hgr : g < wr.heap.size := by omega
    have c0 := HDr.out.cell 0
    by_cases hlt : j < n3
    · have hlt' : (j : Int) < n3 := by omega
      obtain ⟨r, hr⟩ : ∃ r, R1[j]? = some r := ⟨R1[j]'(by omega), List.getElem?_eq_getElem (by omega)⟩
      have HRJ := Lib.hid hr
      obtain ⟨b, rfl, -, hb1, hnc, hcm, hat⟩ := own_rc HOr.out hr
      unfold maxLen at hcm
      have HAT := Lib.hid hat
      clear hat hr
      obtain ⟨k0, k1, k2, k3, k4, k5, k6, k7, k8⟩ := Kr.out.nine
      obtain ⟨y0, y1, y2, y3, y4, y5, y6, y7, y8⟩ := HAT.out.nine
      go_upto_region 11 with fail
      go_cut [55] (fun s55 wx => s55 = .bool (!f && lessKy (keyH h) (keyH r.h)) ∧ Hid (Below wr.heap.size wr wx))
      case first =>
        cases f
        · have BR := Below.refl wr.heap.size wr
          have p1 : b < wr.heap.size := hb1
          go_region_held3 (fun w' => Below wr.heap.size wr w' ∧ (∀ b o, b < wr.heap.size → w'.cell? ⟨b, o, none⟩ = wr.cell? ⟨b, o, none⟩)) ((refine keepW ?_; first | with_reducible exact hB3q | with_reducible exact hB2q | with_reducible exact hB1q | with_reducible exact BR | with_reducible exact ⟨rfl, rfl, rfl, Nat.le_refl _, fun _ _ => rfl⟩))
            (first
              | (go_at_call 46; with_reducible refine (r7key_any ⟨h, ⟨A, n, c⟩, ⟨A', n', c'⟩⟩ _).mono ?_; rintro ea wa ⟨rfl, hba⟩; have hB1q := Below.trans (And.left ‹_›) (hba.mono (Below.size (And.left ‹_›))))
              | (go_at_call 46; with_reducible refine (r7key_any r _).mono ?_; rintro eb wb ⟨rfl, hbb⟩; have hB2q := Below.trans (And.left ‹_›) (hbb.mono (Below.size (And.left ‹_›))))
              | (go_at_call 48; refine (r7less_any ⟨h.kind, h.id, h.adv⟩ ⟨r.h.kind, r.h.id, r.h.adv⟩ _).mono ?_; rintro ec wc ⟨rfl, hbc⟩; have hB3q := Below.trans (And.left ‹_›) (hbc.mono (Below.size (And.left ‹_›)))))
          go_wp2_with fail
          go_meet
          exact ⟨rfl, Lib.hid hB3q⟩
        · go_quiet (fail)
          go_wp2_with fail
          go_meet
          exact ⟨rfl, Lib.hid (below_drewN (Below.refl _ _) _)⟩
      case rest =>
        obtain ⟨rfl, hbx⟩ := hcut
        rename World => wx
        have HDx := Lib.hid (HDr.out.below hbx.out hgr)
        have HXx := Lib.hid (own_below2 HX.out hbx.out)
        have HMx := Lib.hid (HMid.out.move (w' := wx) (fun x hx => hx.below hbx.out))
        have HATx := Lib.hid (HAT.out.below hbx.out hb1)
        have Kx := Lib.hid (Kr.out.below hbx.out hlr)
        have Bx := Lib.hid (hb.out.trans (hbx.out.mono hsz))
        have hsx := Bx.out.size
        have HXL := Lib.hid HX.out.1
        have hbx1 : b < wx.heap.size := by have := hbx.out.size; omega
        have hlx := Kx.out.lt
        clear k0 k1 k2 k3 k4 k5 k6 k7 k8 y0 y1 y2 y3 y4 y5 y6 y7 y8 c0 HDr HX HMid HAT Kr hb HOr hbx
        have c0 := HDx.out.cell 0
        cases hbb : (!f && lessKy (keyH h) (keyH r.h))
        · have HN := Lib.hid hbb
          clear hbb
          go_wp2_with (first
            | (refine wpList_load_rc (by rfl) (.tmp 67) rfl (by rfl) HATx.out ?_)
            | (at_builtin; refine wpList_append_any rfl (.tmp 61) (.tmp 69) 53 62 (.agg #[.int .i64 0, .int .i64 0, .int .i64 0, .int .i64 0, .int .i64 0, .int .i64 0, .int .i64 0, .slice none 0 0, .slice none 0 0]) 9 104 Try.underlying53 Try.infoLsa rfl (by decide) (by decide) rfl w4.heap.size (.slice A5 m c5) m (rcCells xs) (by rfl) (HXx.out.alloc _) (some ⟨wx.heap.size, 0, none⟩) 1 1 r.cells (by rfl) (by rfl) (fun h => by cases h) (news_new wx 62 r.cells) (fun u hu => rcCells_ones [r] u (by rw [rcCells_cons, List.mem_append]; exact .inl hu)) (by omega) (by simp; omega) ?_; intro v2 w5 ho2 hg2))
          obtain ⟨A6, c6, rfl⟩ := own_slice ho2.out
          have HM5 := Lib.hid ((HMx.out.no HRJ.out HN.out).move (w' := w5) (fun x hx => (hx.alloc _).grown (HXx.out.alloc _) hg2.out))
          have HB5 := Lib.hid ((Bx.out.alloc (by omega) _).trans (own_keeps7 (HXx.out.alloc _) hg2.out (by simp; omega)))
          have HX5 := Lib.hid (show w5.ownsRow w4.heap.size 62 9 (.slice A6 (m + 1) c6) (m + 1) (rcCells (xs ++ [r])) by
            rw [rcCells_append]
            have h2 := ho2.out
            simpa [rcCells] using h2)
          clear ho2 hg2
          go_wp2
          go_roundw
          case rel => exact ⟨j + 1, m + 1, c6, A6, f, xs ++ [r], by omega, by go_num, rfl, rfl, by omega, HX5, HM5, HB5⟩
          case measure => simp [intOf]; omega
        · have hbb' := hbb
          simp only [Bool.and_eq_true, Bool.not_eq_true'] at hbb'
          obtain ⟨rfl, hle⟩ := hbb'
          have HLE := Lib.hid hle
          clear hbb hle
          go_wp2_with (refine wpList_load_rc (r := ⟨h, ⟨A, n, c⟩, ⟨A', n', c'⟩⟩) (by rfl) (.tmp 3) rfl (by rfl) (rcAt_blk Kx.out) ?_)
          refine (r7sealed_any h L M A A' n c n' c' B _ (HL4.out.below (Bx.out.mono (by omega))) (HM4.out.below (Bx.out.mono (by omega))) (by omega) hn hn' HR.out).mono ?_
          rintro e5 w5 ⟨A7, n7, c7, A8, n8, c8, rfl, ho7, hq7, ho8, hq8, hb5⟩
          have HXS := Lib.hid (xok_of_seal (h := h) (own_low ho7 (show w.heap.size ≤ wx.heap.size by omega)) hq7 (own_low ho8 (show w.heap.size ≤ wx.heap.size by omega)) hq8)
          have HD5 := Lib.hid (HDx.out.below hb5 HDx.out.lt)
          have HX5 := Lib.hid (own_below2 HXx.out hb5)
          have HAT5 := Lib.hid (HATx.out.below hb5 (by have := hbx1; omega))
          have K5 := Lib.hid (Kx.out.below hb5 hlx)
          have B5 := Lib.hid (Bx.out.trans (hb5.mono hsx))
          have HM5 := Lib.hid HMx.out
          have hs5 := B5.out.size
          have hb5' : b < w5.heap.size := by have := hb5.size; omega
          clear ho7 hq7 ho8 hq8 hb5 HDx HXx HATx Kx Bx c0
          go_upto_region 14 with (at_builtin; refine wpList_append_any rfl (.tmp 56) (.tmp 59) 53 62 (.agg #[.int .i64 0, .int .i64 0, .int .i64 0, .int .i64 0, .int .i64 0, .int .i64 0, .int .i64 0, .slice none 0 0, .slice none 0 0]) 9 104 Try.underlying53 Try.infoLsa rfl (by decide) (by decide) rfl w4.heap.size (.slice A5 (m) c5) (m) (rcCells xs) (by rfl) (HX5.out.alloc _) (some ⟨w5.heap.size, 0, none⟩) 1 1 (Rc.cells ⟨sealHd h L M, ⟨A7, n7, c7⟩, ⟨A8, n8, c8⟩⟩) (by rfl) (by rfl) (fun h => by cases h) (news_new w5 62 (Rc.cells ⟨sealHd h L M, ⟨A7, n7, c7⟩, ⟨A8, n8, c8⟩⟩)) (fun u hu => rcCells_ones [⟨sealHd h L M, ⟨A7, n7, c7⟩, ⟨A8, n8, c8⟩⟩] u (by rw [rcCells_cons, List.mem_append]; exact .inl hu)) (by omega) (by simp; omega) ?_; intro v2 w6 ho2 hg2)
          obtain ⟨A6, c6, rfl⟩ := own_slice ho2.out
          have hk6 := own_keeps7 (HX5.out.alloc _) hg2.out (by simp; omega)
          have HXS6 := Lib.hid ((HXS.out.alloc _).grown (HX5.out.alloc _) hg2.out)
          have HB6 := Lib.hid ((B5.out.alloc (by omega) _).trans hk6)
          have HX6 := Lib.hid (show w6.ownsRow w4.heap.size 62 9 (.slice A6 (m + 1) c6) (m + 1) (rcCells (xs ++ [⟨sealHd h L M, ⟨A7, n7, c7⟩, ⟨A8, n8, c8⟩⟩])) by
            rw [rcCells_append]
            have h2 := ho2.out
            simpa [rcCells] using h2)
          have hs6 := HB6.out.size
          clear ho2 hg2 hk6 HX5 HD5 HAT5 K5 HXS B5
          have HD6 := Lib.hid (HD4.out.below HB6.out hgl4)
          have HO6 := Lib.hid (own_below2 HO4.out HB6.out)
          obtain ⟨b', e', -, hb1', -, -, hat'⟩ := own_rc HO6.out HRJ.out
          injection e' with e'
          injection e' with e'
          subst e'
          have HAT6 := Lib.hid hat'
          clear hat'
          have c0 := HD6.out.cell 0
          go_wp2_with (first
            | (refine wpList_load_rc (by rfl) (.tmp 67) rfl (by rfl) HAT6.out ?_)
            | (at_builtin; refine wpList_append_any rfl (.tmp 61) (.tmp 69) 53 62 (.agg #[.int .i64 0, .int .i64 0, .int .i64 0, .int .i64 0, .int .i64 0, .int .i64 0, .int .i64 0, .slice none 0 0, .slice none 0 0]) 9 104 Try.underlying53 Try.infoLsa rfl (by decide) (by decide) rfl w4.heap.size (.slice A6 (m + 1) c6) (m + 1) (rcCells (xs ++ [⟨sealHd h L M, ⟨A7, n7, c7⟩, ⟨A8, n8, c8⟩⟩])) (by rfl) (HX6.out.alloc _) (some ⟨w6.heap.size, 0, none⟩) 1 1 (Rc.cells r) (by rfl) (by rfl) (fun h => by cases h) (news_new w6 62 (Rc.cells r)) (fun u hu => rcCells_ones [r] u (by rw [rcCells_cons, List.mem_append]; exact .inl hu)) (by omega) (by simp; omega) ?_; intro v3 w7 ho3 hg3))
          obtain ⟨A9, c9, rfl⟩ := own_slice ho3.out
          have hk7 := own_keeps7 (HX6.out.alloc _) hg3.out (by simp; omega)
          have HM7 := Lib.hid (HMx.out.yes (w' := w7) HRJ.out HLE.out ((HXS6.out.alloc _).grown (HX6.out.alloc _) hg3.out))
          have HB7 := Lib.hid ((HB6.out.alloc (by omega) _).trans hk7)
          have HX7 := Lib.hid (show w7.ownsRow w4.heap.size 62 9 (.slice A9 (m + 1 + 1) c9) (m + 1 + 1) (rcCells (xs ++ [⟨sealHd h L M, ⟨A7, n7, c7⟩, ⟨A8, n8, c8⟩⟩] ++ [r])) by
            rw [rcCells_append _ [r]]
            have h2 := ho3.out
            simpa [rcCells] using h2)
          have hmj2 : m ≤ j := by
            have h1 := (HMx.out.1 rfl).1
            have h2 := HXL.out
            rw [h1, rcCells_length] at h2
            simp at h2
            omega
          clear ho3 hg3 hk7
          go_roundw
          case rel => exact ⟨j + 1, m + 1 + 1, c9, A9, true, xs ++ [⟨sealHd h L M, ⟨A7, n7, c7⟩, ⟨A8, n8, c8⟩⟩] ++ [r], by omega, by go_num, rfl, rfl, by omega, HX7, HM7, HB7⟩
          case measure => simp [intOf]; omega
    · have hR : R1.length ≤ j := by omega
      cases f
      · obtain ⟨k0, k1, k2, k3, k4, k5, k6, k7, k8⟩ := Kr.out.nine
        have HLr := Lib.hid (HL4.out.below (hb.out.mono (by omega)))
        have HMr := Lib.hid (HM4.out.below (hb.out.mono (by omega)))
        go_wp2_with (refine wpList_load_rc (r := ⟨h, ⟨A, n, c⟩, ⟨A', n', c'⟩⟩) (by rfl) (.tmp 3) rfl (by rfl) (rcAt_blk Kr.out) ?_)
        refine (r7sealed_any h L M A A' n c n' c' B _ HLr.out HMr.out (by omega) hn hn' HR.out).mono ?_
        rintro e5 w5 ⟨A7, n7, c7, A8, n8, c8, rfl, ho7, hq7, ho8, hq8, hb5⟩
        have HXS := Lib.hid (xok_of_seal (h := h) (own_low ho7 (show w.heap.size ≤ wr.heap.size by omega)) hq7 (own_low ho8 (show w.heap.size ≤ wr.heap.size by omega)) hq8)
        have HX5 := Lib.hid (own_below2 HX.out hb5)
        have B5 := Lib.hid (hb.out.trans (hb5.mono hsz))
        have hs5 := B5.out.size
        have HD5 := Lib.hid (HD4.out.below B5.out hgl4)
        clear ho7 hq7 ho8 hq8 hb5 c0
        have c0 := HD5.out.cell 0
        have f0 := HD5.out.frozen 0
        go_upto_region 17 with (at_builtin; refine wpList_append_any rfl (.tmp 73) (.tmp 76) 53 62 (.agg #[.int .i64 0, .int .i64 0, .int .i64 0, .int .i64 0, .int .i64 0, .int .i64 0, .int .i64 0, .slice none 0 0, .slice none 0 0]) 9 104 Try.underlying53 Try.infoLsa rfl (by decide) (by decide) rfl w4.heap.size (.slice A5 (m) c5) (m) (rcCells xs) (by rfl) (HX5.out.alloc _) (some ⟨w5.heap.size, 0, none⟩) 1 1 (Rc.cells ⟨sealHd h L M, ⟨A7, n7, c7⟩, ⟨A8, n8, c8⟩⟩) (by rfl) (by rfl) (fun h => by cases h) (news_new w5 62 (Rc.cells ⟨sealHd h L M, ⟨A7, n7, c7⟩, ⟨A8, n8, c8⟩⟩)) (fun u hu => rcCells_ones [⟨sealHd h L M, ⟨A7, n7, c7⟩, ⟨A8, n8, c8⟩⟩] u (by rw [rcCells_cons, List.mem_append]; exact .inl hu)) (by omega) (by simp; omega) ?_; intro v2 w6 ho2 hg2)
        obtain ⟨A6, c6, rfl⟩ := own_slice ho2.out
        have hk6 := own_keeps7 (HX5.out.alloc _) hg2.out (by simp; omega)
        have HXO := Lib.hid ((HXS.out.alloc _).grown (HX5.out.alloc _) hg2.out)
        have HBz := Lib.hid ((B5.out.alloc (by omega) _).trans hk6)
        have HXz := Lib.hid (show w6.ownsRow w4.heap.size 62 9 (.slice A6 (m + 1) c6) (m + 1) (rcCells (insR (keyH h) ⟨sealHd h L M, ⟨A7, n7, c7⟩, ⟨A8, n8, c8⟩⟩ R1)) by
          rw [← HMid.out.end_no hR, rcCells_append]
          have h2 := ho2.out
          simpa [rcCells] using h2)
        clear ho2 hg2 hk6 HX5 HD5 HXS B5 c0 f0
        have HDz := Lib.hid (HD4.out.below HBz.out hgl4)
        have c0 := HDz.out.cell 0
        have f0 := HDz.out.frozen 0
        go_wp2
        rw [← HQ.out]
        refine ⟨rfl, A6, m + 1, c6, ⟨sealHd h L M, ⟨A7, n7, c7⟩, ⟨A8, n8, c8⟩⟩, HDz.out.put0 _, ?_, ?_, ?_⟩
        · rw [HDR.out]
          exact own_low (own_ne HXz.out _ _ (own_not HXz.out (.inl hgl4))) hs4
        · exact HXO.out.cellDb HDz.out _
        · exact grown_then (grown_then HG4.out (grown_but (Below.grown0 HBz.out) (some g))) (grown_setCell _ ⟨g, 0, none⟩ _)
      · obtain ⟨x, hxo, hxs⟩ := HMid.out.end_yes hR
        have HXO := Lib.hid hxo
        have HXz := Lib.hid (show wr.ownsRow w4.heap.size 62 9 (.slice A5 m c5) m (rcCells (insR (keyH h) x R1)) by rw [← hxs]; exact HX.out)
        have HBz := hb
        have HDz := HDr
        have f0 := HDz.out.frozen 0
        clear hxo hxs
        go_wp2
        rw [← HQ.out]
        refine ⟨rfl, A5, m, c5, x, HDz.out.put0 _, ?_, ?_, ?_⟩
        · rw [HDR.out]
          exact own_low (own_ne HXz.out _ _ (own_not HXz.out (.inl hgl4))) hs4
        · exact HXO.out.cellDb HDz.out _
        · exact grown_then (grown_then HG4.out (grown_but (Below.grown0 HBz.out) (some g))) (grown_setCell _ ⟨g, 0, none⟩ _)
end Go.Proofs.Ytnnkcgbnhjkahaa
namespace Go.Proofs.Ytnnkcgbnhjkahaa
open Go.RowKit

set_option maxRecDepth 8000 in
set_option maxHeartbeats 8000000 in
theorem r7put_full (g : Nat) (A2 : Option Addr) (n2 c2 : Nat) (room : Int) (R : List Rc) (base : Nat) (h : Hd) (L : List Lk) (M : List Int) (A A' : Option Addr) (n c n' c' B : Nat) (w : World) (hL : Lnk w B A n L) (hM : Row .i64 w B A' n' M) (hB : B ≤ w.heap.size) (hn : n ≤ 1000) (hn' : n' ≤ 1000) (hr : rightB h L M = true)
    (hD : Blk w g 68 #[.slice A2 n2 c2, .int .i64 room]) (hO : w.ownsRow base 62 9 (.slice A2 n2 c2) n2 (rcCells R)) (hn2 : n2 ≤ 1000) (hfind : findR R (keyH h) = -1) (hfull : room ≤ n2) :
    Calls Try.prog 29 #[.pointer (some ⟨g, 0, none⟩), .agg #[.int .i64 h.age, .int .i64 h.kind, .int .i64 h.id, .int .i64 h.adv, .int .i64 h.seq, .int .i64 h.sum, .int .i64 h.long, .slice A n c, .slice A' n' c']] w fun e w' => e = .returned (.int .i64 7) ∧ Below w.heap.size w w' := by
  have HL := Lib.hid hL
  have HM := Lib.hid hM
  have HR := Lib.hid hr
  have HD := Lib.hid hD
  have HO := Lib.hid hO
  have hgl := hD.lt
  have hl2 := hO.1
  rw [rcCells_length] at hl2
  clear hL hM hr hD hO
  have K0 := Lib.hid (Blk.new w 62 #[.int .i64 h.age, .int .i64 h.kind, .int .i64 h.id, .int .i64 h.adv, .int .i64 h.seq, .int .i64 h.sum, .int .i64 h.long, .slice A n c, .slice A' n' c'])
  have B0 := Lib.hid ((Below.refl w.heap.size w).alloc (Nat.le_refl _) (.cells #[.int .i64 h.age, .int .i64 h.kind, .int .i64 h.id, .int .i64 h.adv, .int .i64 h.seq, .int .i64 h.sum, .int .i64 h.long, .slice A n c, .slice A' n' c'] 62))
  go_enter Try.func29, Try.ntmps29
  go_wp2_with (refine wpList_load_rc (r := ⟨h, ⟨A, n, c⟩, ⟨A', n', c'⟩⟩) (by rfl) (.tmp 3) rfl (by rfl) (rcAt_blk K0.out) ?_)
  have hl0 := K0.out.lt
  have hs0 := B0.out.size
  refine (refRight_any h L M A A' n c n' c' B _ (HL.out.below (B0.out.mono hB)) (HM.out.below (B0.out.mono hB)) (by omega) (by unfold maxLen; omega) (by unfold maxLen; omega)).mono ?_
  rintro e1 w1 ⟨rfl, hb1⟩
  rw [HR.out]
  have B1 := Lib.hid (B0.out.trans (hb1.mono hs0))
  have K1 := Lib.hid (K0.out.below hb1 hl0)
  have hs1 := B1.out.size
  have hl1 := K1.out.lt
  have HD1 := Lib.hid (HD.out.below B1.out hgl)
  have HO1 := Lib.hid (own_below2 HO.out B1.out)
  clear hb1 K0 B0 hl0 hs0
  have HV := Lib.hid (show findR R ⟨h.kind, h.id, h.adv⟩ = -1 from hfind)
  clear hfind
  have c0 := HD1.out.cell 0
  have c1 := HD1.out.cell 1
  obtain ⟨k0, k1, k2, k3, k4, k5, k6, k7, k8⟩ := K1.out.nine
  have hgl1 : g < w1.heap.size := by omega
  have BR := Below.refl w1.heap.size w1
  have d2 : decide (room ≤ (n2 : Int)) = true := by simpa using hfull
  go_upto_region 3 with fail
  go_region_held3 (fun w' => Below w1.heap.size w1 w' ∧ (∀ b o, b < w1.heap.size → w'.cell? ⟨b, o, none⟩ = w1.cell? ⟨b, o, none⟩)) ((refine keepW ?_; first | with_reducible exact hB2q | with_reducible exact hB1q | with_reducible exact BR | with_reducible exact ⟨rfl, rfl, rfl, Nat.le_refl _, fun _ _ => rfl⟩))
    (first
      | (go_at_call 46; refine (r7key_any ⟨h, ⟨A, n, c⟩, ⟨A', n', c'⟩⟩ _).mono ?_; rintro ea wa ⟨rfl, hba⟩; have hB1q := Below.trans (And.left ‹_›) (hba.mono (Below.size (And.left ‹_›))))
      | (go_at_call 31; refine (r7find_any g A2 n2 c2 room R ⟨h.kind, h.id, h.adv⟩ base _ (HD1.out.below (And.left ‹_›) hgl1) (own_below2 HO1.out (And.left ‹_›)) hn2).mono ?_; rintro eb wb ⟨rfl, hbb⟩; rw [HV.out]; have hB2q := Below.trans (And.left ‹_›) (hbb.mono (Below.size (And.left ‹_›)))))
  have BF := Lib.hid (B1.out.trans (hB2q.mono hs1))
  clear hB2q hB1q
  go_wp2
  go_ret
  exact ⟨rfl, BF.out⟩

set_option maxRecDepth 8000 in
set_option maxHeartbeats 8000000 in
theorem r7put_no (p : Value) (h : Hd) (L : List Lk) (M : List Int) (A A' : Option Addr) (n c n' c' B : Nat) (w : World) (hL : Lnk w B A n L) (hM : Row .i64 w B A' n' M) (hB : B ≤ w.heap.size) (hn : n ≤ 1000) (hn' : n' ≤ 1000) (hr : rightB h L M = false) :
    Calls Try.prog 29 #[p, .agg #[.int .i64 h.age, .int .i64 h.kind, .int .i64 h.id, .int .i64 h.adv, .int .i64 h.seq, .int .i64 h.sum, .int .i64 h.long, .slice A n c, .slice A' n' c']] w fun e w' => e = .returned (.int .i64 1) ∧ Below w.heap.size w w' := by
  have HL := Lib.hid hL
  have HM := Lib.hid hM
  have HR := Lib.hid hr
  clear hL hM hr
  have K0 := Lib.hid (Blk.new w 62 #[.int .i64 h.age, .int .i64 h.kind, .int .i64 h.id, .int .i64 h.adv, .int .i64 h.seq, .int .i64 h.sum, .int .i64 h.long, .slice A n c, .slice A' n' c'])
  have B0 := Lib.hid ((Below.refl w.heap.size w).alloc (Nat.le_refl _) (.cells #[.int .i64 h.age, .int .i64 h.kind, .int .i64 h.id, .int .i64 h.adv, .int .i64 h.seq, .int .i64 h.sum, .int .i64 h.long, .slice A n c, .slice A' n' c'] 62))
  go_enter Try.func29, Try.ntmps29
  go_wp2_with (refine wpList_load_rc (r := ⟨h, ⟨A, n, c⟩, ⟨A', n', c'⟩⟩) (by rfl) (.tmp 3) rfl (by rfl) (rcAt_blk K0.out) ?_)
  have hl0 := K0.out.lt
  have hs0 := B0.out.size
  refine (refRight_any h L M A A' n c n' c' B _ (HL.out.below (B0.out.mono hB)) (HM.out.below (B0.out.mono hB)) (by omega) (by unfold maxLen; omega) (by unfold maxLen; omega)).mono ?_
  rintro e1 w1 ⟨rfl, hb1⟩
  rw [HR.out]
  have B1 := Lib.hid (B0.out.trans (hb1.mono hs0))
  clear hb1
  go_wp2
  go_ret
  exact ⟨rfl, B1.out⟩
end Go.Proofs.Ytnnkcgbnhjkahaa
namespace Go.Proofs.Ytnnkcgbnhjkahaa

theorem lessKy_iff (a b : Ky) : lessKy a b = true ↔ a.kind < b.kind ∨ (a.kind = b.kind ∧ (a.id < b.id ∨ (a.id = b.id ∧ a.adv < b.adv))) := by
  unfold lessKy
  by_cases h1 : a.kind = b.kind
  · rw [if_neg (by simp [h1])]
    by_cases h2 : a.id = b.id
    · rw [if_neg (by simp [h2]), decide_eq_true_iff]
      omega
    · rw [if_pos h2, decide_eq_true_iff]
      omega
  · rw [if_pos h1, decide_eq_true_iff]
    omega
theorem lessKy_irrefl (a : Ky) : lessKy a a = false := by
  cases h : lessKy a a
  · rfl
  · rw [lessKy_iff] at h
    omega
theorem lessKy_trans {a b c : Ky} (h1 : lessKy a b = true) (h2 : lessKy b c = true) : lessKy a c = true := by
  rw [lessKy_iff] at h1 h2 ⊢
  omega
theorem lessKy_total {a b : Ky} (h : lessKy a b = false) (hne : a ≠ b) : lessKy b a = true := by
  cases h2 : lessKy b a
  · exfalso
    apply hne
    have n1 : ¬ lessKy a b = true := by rw [h]; decide
    have n2 : ¬ lessKy b a = true := by rw [h2]; decide
    rw [lessKy_iff] at n1 n2
    obtain ⟨a1, a2, a3⟩ := a
    obtain ⟨b1, b2, b3⟩ := b
    simp only at n1 n2
    congr 1 <;> omega
  · rfl
/-- Two lists, item by item. -/
def All2 {α β : Type} (P : α → β → Prop) (R : List α) (S : List β) : Prop := R.length = S.length ∧ ∀ (j : Nat) (r : α) (x : β), R[j]? = some r → S[j]? = some x → P r x
section
variable {α β : Type} {P Q : α → β → Prop}
theorem All2.nil : All2 P [] [] := ⟨rfl, fun j r x h => by simp at h⟩
theorem All2.cons {r : α} {x : β} {R : List α} {S : List β} (h : P r x) (t : All2 P R S) : All2 P (r :: R) (x :: S) :=
  ⟨by simp [t.1], fun j r' x' h1 h2 => by
    cases j with
    | zero =>
      simp at h1 h2
      subst h1 h2
      exact h
    | succ j => exact t.2 j r' x' (by simpa using h1) (by simpa using h2)⟩
theorem All2.head {r : α} {x : β} {R : List α} {S : List β} (h : All2 P (r :: R) (x :: S)) : P r x ∧ All2 P R S :=
  ⟨h.2 0 r x (by simp) (by simp), by have := h.1; simp at this; exact this, fun j r' x' h1 h2 => h.2 (j + 1) r' x' (by simpa using h1) (by simpa using h2)⟩
theorem All2.imp {R : List α} {S : List β} (h : All2 P R S) (hi : ∀ r x, P r x → Q r x) : All2 Q R S := ⟨h.1, fun j r x h1 h2 => hi r x (h.2 j r x h1 h2)⟩
theorem All2.at {R : List α} {S : List β} (h : All2 P R S) {j : Nat} {r : α} (hr : R[j]? = some r) : ∃ x, S[j]? = some x ∧ P r x := by
  have hj := (List.getElem?_eq_some_iff.1 hr).1
  have hs : S[j]? = some (S[j]'(by rw [← h.1]; exact hj)) := List.getElem?_eq_getElem _
  exact ⟨_, hs, h.2 j r _ hr hs⟩
theorem All2.at' {R : List α} {S : List β} (h : All2 P R S) {j : Nat} {x : β} (hx : S[j]? = some x) : ∃ r, R[j]? = some r ∧ P r x := by
  have hj := (List.getElem?_eq_some_iff.1 hx).1
  have hs : R[j]? = some (R[j]'(by rw [h.1]; exact hj)) := List.getElem?_eq_getElem _
  exact ⟨_, hs, h.2 j _ x hs hx⟩
theorem All2.map {γ δ : Type} {P' : γ → δ → Prop} {f : α → γ} {g : β → δ} {R : List α} {S : List β} (h : All2 P R S) (hi : ∀ r x, P r x → P' (f r) (g x)) : All2 P' (R.map f) (S.map g) := by
  induction R generalizing S with
  | nil =>
    cases S with
    | nil => exact ⟨rfl, fun j r x h => by simp at h⟩
    | cons x S => have := h.1; simp at this
  | cons r R ih =>
    cases S with
    | nil => have := h.1; simp at this
    | cons x S => exact All2.cons (hi _ _ h.head.1) (ih h.head.2)
theorem All2.eraseIdx {R : List α} {S : List β} (h : All2 P R S) (i : Nat) : All2 P (R.eraseIdx i) (S.eraseIdx i) := by
  induction R generalizing S i with
  | nil =>
    cases S with
    | nil => exact All2.nil
    | cons x S => have := h.1; simp at this
  | cons r R ih =>
    cases S with
    | nil => have := h.1; simp at this
    | cons x S =>
      cases i with
      | zero => exact h.head.2
      | succ i => exact All2.cons h.head.1 (ih h.head.2 i)
end
/-- A description's key. -/
def kyL (x : La) : Ky := keyH x.h
/-- A database in order, with one more; without one; a tick on. -/
def insL (x : La) : List La → List La
  | [] => [x]
  | y :: S => if lessKy (kyL x) (kyL y) = true then x :: y :: S else y :: insL x S
def dropL (S : List La) (k : Ky) : List La := S.filter fun x => !sameKy (kyL x) k
def tickL (x : La) : La := if x.h.age < 60 then { x with h := { x.h with age := x.h.age + 1 } } else x
def getL (S : List La) (k : Ky) : Option La := S.find? fun x => sameKy (kyL x) k
/-- In order. -/
def SortL (S : List La) : Prop := S.Pairwise fun a b => lessKy (kyL a) (kyL b) = true
theorem SortL.tail {x : La} {S : List La} (h : SortL (x :: S)) : SortL S := (List.pairwise_cons.1 h).2
theorem SortL.head {x : La} {S : List La} (h : SortL (x :: S)) : ∀ y ∈ S, lessKy (kyL x) (kyL y) = true := (List.pairwise_cons.1 h).1
theorem mem_insL {x y : La} : ∀ {S : List La}, y ∈ insL x S ↔ y = x ∨ y ∈ S
  | [] => by simp [insL]
  | z :: S => by
    unfold insL
    split
    · simp
    · rw [List.mem_cons, mem_insL (S := S), List.mem_cons]
      constructor
      · rintro (h | h | h)
        · exact .inr (.inl h)
        · exact .inl h
        · exact .inr (.inr h)
      · rintro (h | h | h)
        · exact .inr (.inl h)
        · exact .inl h
        · exact .inr (.inr h)
theorem sort_insL {x : La} : ∀ {S : List La}, SortL S → (∀ y ∈ S, kyL y ≠ kyL x) → SortL (insL x S)
  | [], _, _ => by simp [insL, SortL]
  | y :: S, h, hn => by
    unfold insL
    split
    · rename_i hl
      refine List.pairwise_cons.2 ⟨fun z hz => ?_, h⟩
      rcases List.mem_cons.1 hz with rfl | hz
      · exact hl
      · exact lessKy_trans hl (h.head z hz)
    · rename_i hl
      refine List.pairwise_cons.2 ⟨fun z hz => ?_, sort_insL h.tail (fun z hz => hn z (by simp [hz]))⟩
      rcases mem_insL.1 hz with rfl | hz
      · exact lessKy_total (by simpa using hl) (fun e => hn y (by simp) e.symm)
      · exact h.head z hz
theorem sort_drop {S : List La} (h : SortL S) (k : Ky) : SortL (dropL S k) := h.filter _
theorem mem_drop {S : List La} {k : Ky} {x : La} : x ∈ dropL S k ↔ x ∈ S ∧ kyL x ≠ k := by
  unfold dropL
  rw [List.mem_filter]
  have : sameKy (kyL x) k = true ↔ kyL x = k := sameKy_iff _ _
  simp [← this]
theorem insL_length (x : La) : ∀ S : List La, (insL x S).length = S.length + 1
  | [] => rfl
  | y :: S => by
    unfold insL
    split
    · rfl
    · simp [insL_length x S]
/-- Of a key there is at most one. -/
theorem sort_one : ∀ {S : List La}, SortL S → ∀ x ∈ S, ∀ y ∈ S, kyL x = kyL y → x = y
  | z :: S, h, x, hx, y, hy, e => by
    rcases List.mem_cons.1 hx with rfl | hx'
    · rcases List.mem_cons.1 hy with rfl | hy'
      · rfl
      · have := h.head y hy'
        rw [e, lessKy_irrefl] at this
        cases this
    · rcases List.mem_cons.1 hy with rfl | hy'
      · have := h.head x hx'
        rw [e, lessKy_irrefl] at this
        cases this
      · exact sort_one h.tail x hx' y hy' e
theorem getL_some {S : List La} {k : Ky} {x : La} (h : getL S k = some x) : x ∈ S ∧ kyL x = k := by
  unfold getL at h
  have h1 := List.find?_some h
  exact ⟨List.mem_of_find?_eq_some h, (sameKy_iff _ _).1 h1⟩
theorem getL_none {S : List La} {k : Ky} : getL S k = none ↔ ∀ x ∈ S, kyL x ≠ k := by
  unfold getL
  rw [List.find?_eq_none]
  constructor
  · intro h x hx e
    exact h x hx ((sameKy_iff _ _).2 e)
  · intro h x hx e
    exact h x hx ((sameKy_iff _ _).1 e)
theorem getL_mem {S : List La} (hs : SortL S) {x : La} (hx : x ∈ S) : getL S (kyL x) = some x := by
  cases h : getL S (kyL x) with
  | none => exact absurd rfl (getL_none.1 h x hx)
  | some y =>
    obtain ⟨h1, h2⟩ := getL_some h
    rw [sort_one hs y h1 x hx h2]

/-- The reference's list, item by item. -/
theorem all2_ins {P : Rc → La → Prop} (hk : ∀ r x, P r x → r.h = x.h) {r : Rc} {x : La} (hp : P r x) : ∀ {R : List Rc} {S : List La}, All2 P R S → All2 P (insR (keyH r.h) r R) (insL x S)
  | [], [], _ => All2.cons hp All2.nil
  | [], y :: S, h => by have := h.1; simp at this
  | r' :: R, [], h => by have := h.1; simp at this
  | r' :: R, y :: S, h => by
    have e1 := hk _ _ hp
    have e2 := hk _ _ h.head.1
    unfold insR insL kyL
    rw [e1, e2]
    split
    · exact All2.cons hp (All2.cons h.head.1 h.head.2)
    · rw [← e1]
      exact All2.cons h.head.1 (all2_ins hk hp h.head.2)
theorem findFrom_spec (k : Ky) : ∀ (R : List Rc) (i : Nat), (findFrom k R i = -1 ∧ ∀ r ∈ R, keyH r.h ≠ k) ∨ ∃ (j : Nat) (r : Rc), findFrom k R i = ((i + j : Nat) : Int) ∧ R[j]? = some r ∧ keyH r.h = k
  | [], _ => .inl ⟨rfl, fun _ h => by cases h⟩
  | r :: R, i => by
    unfold findFrom
    by_cases h : sameKy (keyH r.h) k = true
    · rw [if_pos h]
      exact .inr ⟨0, r, rfl, by simp, (sameKy_iff _ _).1 h⟩
    · rw [if_neg h]
      rcases findFrom_spec k R (i + 1) with ⟨h1, h2⟩ | ⟨j, x, h1, h2, h3⟩
      · refine .inl ⟨h1, fun y hy e => ?_⟩
        rcases List.mem_cons.1 hy with rfl | hy
        · exact h ((sameKy_iff _ _).2 e)
        · exact h2 y hy e
      · exact .inr ⟨j + 1, x, by rw [h1]; congr 1; omega, by simpa using h2, h3⟩
theorem findR_spec (R : List Rc) (k : Ky) : (findR R k = -1 ∧ ∀ r ∈ R, keyH r.h ≠ k) ∨ ∃ (j : Nat) (r : Rc), findR R k = (j : Int) ∧ R[j]? = some r ∧ keyH r.h = k := by
  rcases findFrom_spec k R 0 with h | ⟨j, r, h1, h2⟩
  · exact .inl h
  · exact .inr ⟨j, r, by unfold findR; rw [h1]; congr 1; omega, h2⟩
theorem dropL_none {S : List La} {k : Ky} (h : ∀ x ∈ S, kyL x ≠ k) : dropL S k = S := by
  unfold dropL
  rw [List.filter_eq_self]
  intro x hx
  have := h x hx
  cases hs : sameKy (kyL x) k
  · rfl
  · exact absurd ((sameKy_iff _ _).1 hs) this
theorem dropL_at {k : Ky} : ∀ {S : List La} {j : Nat} {x : La}, SortL S → S[j]? = some x → kyL x = k → dropL S k = S.eraseIdx j
  | [], _, _, _, h, _ => by simp at h
  | y :: S, 0, x, hs, h, hk => by
    simp at h
    subst h
    have h1 : dropL S k = S := dropL_none (fun z hz e => by
      have := hs.head z hz
      rw [hk, e, lessKy_irrefl] at this
      cases this)
    have h2 : sameKy (kyL y) k = true := (sameKy_iff _ _).2 hk
    unfold dropL at h1 ⊢
    rw [List.filter_cons, h2]
    simpa using h1
  | y :: S, j + 1, x, hs, h, hk => by
    have hx : x ∈ S := List.mem_of_getElem? (by simpa using h)
    have h2 : sameKy (kyL y) k = false := by
      cases hs2 : sameKy (kyL y) k
      · rfl
      · have e := (sameKy_iff _ _).1 hs2
        have := hs.head x hx
        rw [hk, e, lessKy_irrefl] at this
        cases this
    have ih := dropL_at (S := S) (j := j) hs.tail (by simpa using h) hk
    unfold dropL at ih ⊢
    rw [List.filter_cons, h2]
    simpa using ih
theorem all2_drop {P : Rc → La → Prop} (hk : ∀ r x, P r x → r.h = x.h) {R : List Rc} {S : List La} (h : All2 P R S) (hs : SortL S) (k : Ky) : All2 P (dropI R (findR R k)) (dropL S k) := by
  rcases findR_spec R k with ⟨h1, h2⟩ | ⟨j, r, h1, h2, h3⟩
  · rw [h1, dropL_none (fun x hx e => by
      obtain ⟨m, hm⟩ := List.getElem?_of_mem hx
      obtain ⟨r, hr, hp⟩ := h.at' hm
      exact h2 r (List.mem_of_getElem? hr) (by rw [hk _ _ hp]; exact e))]
    exact h
  · obtain ⟨x, hx, hp⟩ := h.at h2
    have hkx : kyL x = k := by unfold kyL; rw [← hk _ _ hp]; exact h3
    rw [h1, dropL_at hs hx hkx]
    unfold dropI
    rw [if_neg (by omega)]
    exact h.eraseIdx _
/-- Whether there is one. -/
theorem all2_find {P : Rc → La → Prop} (hk : ∀ r x, P r x → r.h = x.h) {R : List Rc} {S : List La} (h : All2 P R S) (hs : SortL S) (k : Ky) : (getL S k = none ∧ findR R k = -1) ∨ ∃ (j : Nat) (r : Rc) (x : La), getL S k = some x ∧ findR R k = (j : Int) ∧ R[j]? = some r ∧ S[j]? = some x ∧ P r x := by
  rcases findR_spec R k with ⟨h1, h2⟩ | ⟨j, r, h1, h2, h3⟩
  · refine .inl ⟨getL_none.2 (fun x hx e => ?_), h1⟩
    obtain ⟨m, hm⟩ := List.getElem?_of_mem hx
    obtain ⟨r, hr, hp⟩ := h.at' hm
    exact h2 r (List.mem_of_getElem? hr) (by rw [hk _ _ hp]; exact e)
  · obtain ⟨x, hx, hp⟩ := h.at h2
    have hkx : kyL x = k := by unfold kyL; rw [← hk _ _ hp]; exact h3
    exact .inr ⟨j, r, x, by rw [← hkx]; exact getL_mem hs (List.mem_of_getElem? hx), h1, h2, hx, hp⟩
end Go.Proofs.Ytnnkcgbnhjkahaa
