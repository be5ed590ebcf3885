/- The reference's Set; an item of a row written over. Conditions: what the words say. -/
import Derived.Test.YtfapphndfgoknaaHj
import Derived.Test.YtfapphndfgoknaaHm
namespace Go.Proofs.Ytfapphndfgoknaa
open Go.RowKit Go.Deep

def setAll : List Value → Nat → List Value → List Value
  | xs, _, [] => xs
  | xs, p, v :: r => setAll (xs.set p v) (p + 1) r
theorem setAll_is (post : List Value) : ∀ (vs rest pre : List Value), rest.length = vs.length → setAll (pre ++ rest ++ post) pre.length vs = pre ++ vs ++ post
  | [], rest, pre, hl => by
    have : rest = [] := List.eq_nil_of_length_eq_zero hl
    subst this
    rfl
  | v :: r, [], pre, hl => by simp at hl
  | v :: r, u :: rest, pre, hl => by
    have h2 := setAll_is post r rest (pre ++ [v]) (by simpa using hl)
    rw [List.length_append, List.length_singleton] at h2
    unfold setAll
    have e : (pre ++ u :: rest ++ post).set pre.length v = (pre ++ [v]) ++ rest ++ post := by simp
    rw [e, h2]
    simp
theorem own_setCells {b c n size base : Nat} {t : TypeId} : ∀ (vs : List Value) (p : Nat) (w : World) (xs : List Value), w.ownsRow base t size (.slice (some ⟨b, 0, none⟩) n c) n xs → (w.setCells b p vs).ownsRow base t size (.slice (some ⟨b, 0, none⟩) n c) n (setAll xs p vs)
  | [], _, _, _, h => h
  | v :: r, p, _, _, h => own_setCells r (p + 1) _ _ (own_set1 h p v)
theorem own_put7 {w : World} {base n b c j : Nat} {L : List Pe} (h : w.ownsRow base 47 7 (.slice (some ⟨b, 0, none⟩) n c) n (cellsBy encPe L)) (hj : j < L.length) (y : Pe) :
    (w.setCells b (j * 7) (encPe y)).ownsRow base 47 7 (.slice (some ⟨b, 0, none⟩) n c) n (cellsBy encPe (L.set j y)) := by
  have h1 := own_setCells (encPe y) (j * 7) w _ h
  have e0 : L = L.take j ++ [L[j]] ++ L.drop (j + 1) := by simp
  have e1 : setAll (cellsBy encPe L) (j * 7) (encPe y) = cellsBy encPe (L.set j y) := by
    have hl : (cellsBy encPe (L.take j)).length = j * 7 := by rw [by_length encPe_len]; simp; omega
    have e2 : cellsBy encPe L = cellsBy encPe (L.take j) ++ encPe L[j] ++ cellsBy encPe (L.drop (j + 1)) := by
      conv => lhs; rw [e0]
      rw [by_append, by_append, by_one]
    rw [e2, ← hl, setAll_is _ (encPe y) (encPe L[j]) (cellsBy encPe (L.take j)) rfl, List.set_eq_take_append_cons_drop, if_pos hj, by_append, by_cons]
    simp
  rw [e1] at h1
  exact h1
theorem own_there {w : World} {base n c k size : Nat} {A : Option Addr} {t : TypeId} {xs : List Value} {g : Nat} (h : w.ownsRow base t size (.slice A n c) n xs) (hA : A = some ⟨g, 0, none⟩) (hk : k < n) : w.there g (k * size) size := by
  subst hA
  rcases h.2 with ⟨hv, _⟩ | ⟨g', cap, cur, hv, hb, hg, h1, h2, h3, h4⟩
  · cases hv
  · cases hv
    have hB : Blk w g t cur := hg
    refine hB.thereAll _ _ ?_
    have : (k + 1) * size ≤ c * size := Nat.mul_le_mul_right _ (by omega)
    rw [Nat.succ_mul] at this
    omega
theorem range_chg2 {F : Nat → Prop} {w w' : World} {b : Nat} {y : Pe} (hB : Blk w b 47 #[.int .i64 y.id, .int .i64 y.prio, .int .i64 y.dr, .int .i64 y.bdr, .int .i64 y.st, .bool y.two, .int .i64 y.tick]) (h : Chg F w w') (hb : ¬ F b) : w'.rangeAt b 0 (encPe y) := (hB.chg h hb).range7
/-- A neighbor of the reference's list is written over. -/
theorem RDb.over {w : World} {q : Nat} {G : Nat → Prop} {sf lan : Int} {X : List Pe} {g n c k : Nat} (h : RDb w q G sf lan X (some ⟨g, 0, none⟩) n c) (hk : k < n) (y : Pe) :
    RDb (w.setCells g (k * 7) (encPe y)) q G sf lan (X.set k y) (some ⟨g, 0, none⟩) n c ∧ Chg G w (w.setCells g (k * 7) (encPe y)) := by
  have hc := chg_setCells g (encPe y) (k * 7) w
  have hG : G g := h.gr g rfl
  have hq : q ≠ g := fun e => h.ne (by rw [e]; rfl)
  refine ⟨⟨h.obj.chg hc hq, own_put7 h.row (by rw [h.len]; exact hk) y, h.gq, h.gr, fun k hk => Nat.lt_of_lt_of_le (h.gl k hk) hc.size⟩, hc.os, hc.tape, hc.output, hc.size, fun k hk hn => hc.block k hk (fun e => hn (e ▸ hG))⟩
set_option maxRecDepth 8000 in
set_option maxHeartbeats 4000000 in
theorem set_ref {w : World} {q : Nat} {G : Nat → Prop} {sf lan : Int} {X : List Pe} {A : Option Addr} {n c : Nat} (i s : Int) (h : RDb w q G sf lan X A n c) (hs : Srt X) :
    Calls Try.prog 16 #[.pointer (some ⟨q, 0, none⟩), .int .i64 i, .int .i64 s] w fun e w' => e = .returned (.bool (setB X i s)) ∧ RDb w' q G sf lan (setX X i s) A n c ∧ Chg G w w' := by
  generalize hQ : (fun (e : Ending) (w' : World) => e = .returned (.bool (setB X i s)) ∧ RDb w' q G sf lan (setX X i s) A n c ∧ Chg G w w') = Q
  have HQ := Lib.hid hQ
  have HLEN := Lib.hid h.len
  have HD := Lib.hid h
  have HN := Lib.hid (show n ≤ 1000 by have := h.len; have := hs.len; omega)
  have HS := Lib.hid hs
  clear hQ h hs
  have HQF := Lib.hid (show setB X i s = false → Q (.returned (.bool false)) w from fun e => by
    rw [← HQ.out]
    refine ⟨by rw [e], ?_, Chg.refl _ _⟩
    unfold setX
    rw [e]
    exact HD.out)
  rcases posI_cases i X with ⟨e1, e2⟩ | ⟨k, x, e1, e2, e3⟩
  · have HE1 := Lib.hid e1
    have HF := Lib.hid (HQF.out (by unfold setB; rw [e2]; rfl))
    clear e1 e2
    go_enter Try.func16, Try.ntmps16
    go_wp2_with fail
    refine (find_ref i HD.out HN.out).mono ?_
    rintro e1 w1 ⟨rfl, hq⟩
    rw [hq, HE1.out]
    clear hq w1
    go_wp2
    exact HF.out
  · have HE1 := Lib.hid e1
    have HE2 := Lib.hid e2
    have HE3 := Lib.hid e3
    have hkn : k < n := by have := (List.getElem?_eq_some_iff.1 e2).1; have := HLEN.out; omega
    have hkn' : (k : Int) < n := by omega
    have hk0 : (0 : Int) ≤ (k : Int) := by omega
    have hkd : decide ((k : Int) < 0) = false := by simp
    obtain ⟨g, rfl, -, hgl, hnc, hcm, hrg, -, -⟩ := own_pe HD.out.row e2
    have RG := Lib.hid hrg
    unfold maxLen at hcm
    clear e1 e2 e3 hrg
    by_cases h1 : s < 0
    · have d1 : decide (s < 0) = true := by simpa using h1
      have HF := Lib.hid (HQF.out (by unfold setB; simp; omega))
      clear h1
      go_enter Try.func16, Try.ntmps16
      go_wp2_with fail
      refine (find_ref i HD.out HN.out).mono ?_
      rintro e1 w1 ⟨rfl, hq⟩
      rw [hq, HE1.out]
      clear hq w1
      go_wp2
      exact HF.out
    · have d1 : decide (s < 0) = false := by simpa using h1
      by_cases h2 : 6 < s
      · have d2 : decide (6 < s) = true := by simpa using h2
        have HF := Lib.hid (HQF.out (by unfold setB; simp; omega))
        clear h1 h2
        go_enter Try.func16, Try.ntmps16
        go_wp2_with fail
        refine (find_ref i HD.out HN.out).mono ?_
        rintro e1 w1 ⟨rfl, hq⟩
        rw [hq, HE1.out]
        clear hq w1
        go_wp2
        exact HF.out
      · have d2 : decide (6 < s) = false := by simpa using h2
        have HB := Lib.hid (show setB X i s = true by unfold setB; rw [HE3.out]; simp; omega)
        have HX := Lib.hid (show X.set k (setP s x) = setX X i s by
          unfold setX wasP
          rw [HB.out, if_pos rfl, HE3.out]
          exact set_put (show (setP s x).id = i from (findP_is HE3.out).2) HS.out.rise HE2.out (findP_is HE3.out).2)
        clear h1 h2
        obtain ⟨c0, c1, c2⟩ := HD.out.cells
        have hql := HD.out.obj.lt
        go_enter Try.func16, Try.ntmps16
        go_wp2_with fail
        refine (find_ref i HD.out HN.out).mono ?_
        rintro e1 w1 ⟨rfl, hq⟩
        rw [hq, HE1.out]
        clear hq w1
        go_upto_region 5 with (refine wpList_load_pe (y := x) (by rfl) _ rfl (by rfl) RG.out ?_)
        have B1 := Lib.hid ((Below.refl w.heap.size w).alloc (Nat.le_refl _) (.cells #[.int .i64 x.id, .int .i64 x.prio, .int .i64 x.dr, .int .i64 x.bdr, .int .i64 x.st, .bool x.two, .int .i64 x.tick] 47))
        have K1 := Lib.hid (Blk.new w 47 #[.int .i64 x.id, .int .i64 x.prio, .int .i64 x.dr, .int .i64 x.bdr, .int .i64 x.st, .bool x.two, .int .i64 x.tick])
        have D1 := Lib.hid (HD.out.below B1.out)
        have HGL := Lib.hid HD.out.gl
        generalize w.alloc (.cells #[.int .i64 x.id, .int .i64 x.prio, .int .i64 x.dr, .int .i64 x.bdr, .int .i64 x.st, .bool x.two, .int .i64 x.tick] 47) = w1 at *
        generalize hr : w.heap.size = r at *
        have HR := Lib.hid hr
        clear hr c0 c1 c2 hql hgl
        have z4 := K1.out.frozen 4
        obtain ⟨k0, k1, k2, k3, k4, k5, k6⟩ := K1.out.seven
        have hl1 := K1.out.lt
        go_upto_region 6 with fail
        have K2 := Lib.hid (show Blk (w1.setCell ⟨r, 4, none⟩ (.int .i64 s)) r 47 #[.int .i64 x.id, .int .i64 x.prio, .int .i64 x.dr, .int .i64 x.bdr, .int .i64 s, .bool x.two, .int .i64 x.tick] from K1.out.put 4 _)
        have HC12 := Lib.hid (chg_put (F := fun k => k = r) w1 (a := ⟨r, 4, none⟩) (.int .i64 s) rfl)
        have D2 := Lib.hid (D1.out.chg HC12.out (fun k hk e => by have := HGL.out k hk; omega))
        have B2 := Lib.hid (B1.out.setCell (p := ⟨r, 4, none⟩) (Nat.le_refl _) (.int .i64 s))
        clear K1 HC12 D1 B1 z4 k0 k1 k2 k3 k4 k5 k6 hl1
        generalize w1.setCell ⟨r, 4, none⟩ (.int .i64 s) = w2 at *
        obtain ⟨y, hy⟩ : ∃ y, setP s x = y := ⟨_, rfl⟩
        have HY := Lib.hid hy
        have KY := Lib.hid (show Blk w2 r 47 #[.int .i64 y.id, .int .i64 y.prio, .int .i64 y.dr, .int .i64 y.bdr, .int .i64 y.st, .bool y.two, .int .i64 y.tick] by rw [← hy]; exact K2.out)
        clear hy K2
        have K3 := Lib.hid KY.out.drew
        have D3 := Lib.hid (show RDb w2.drew q G sf lan X (some ⟨g, 0, none⟩) n c from ⟨D2.out.obj.drew, own_drew7 D2.out.row, D2.out.gq, D2.out.gr, D2.out.gl⟩)
        have B3 := Lib.hid (show Below r w w2.drew from below_drewN B2.out 1)
        clear KY D2 B2
        have hS := And.intro D3.out.cells.2.2 K3.out.range7
        refine wp_region_noPanic ?_
        refine wp_region_held_drew (S := fun w' => w'.cell? ⟨q, 2, none⟩ = some (.slice (some ⟨g, 0, none⟩) n c) ∧ w'.rangeAt r 0 (encPe y)) (by kernel_rfl) hS (fun hHeld => ?_)
        change wpAnyH _ _ _ _ _ _ _ _ w2.drew
        generalize w2.drew = w3 at *
        clear hS
        have hql := D3.out.obj.lt
        have hgl := (D3.out.row.lt g rfl).2
        refine wpAnyH_take (i := 0) (oi := { dst := Option.some 31, op := Go.Op.move (Go.Operand.tmp 0), type := 26, pos := "ref.go:115", after := #[], guard := Option.none }) (v := ?_) rfl (by kernel_rfl) (by kernel_rfl) (by kernel_rfl) (fun _ _ _ h => h) (Or.inl ⟨by rfl, ?_⟩) hHeld ?_
        rotate_left 1
        · intro ww hSw
          try dsimp only at hSw
          go_simp
          try with_reducible rfl
        try simp only [Act.put, List.setIfInBounds_toArray, List.set_cons_zero, List.set_cons_succ]
        refine wpAnyH_take (i := 1) (oi := { dst := Option.some 32, op := Go.Op.nilCheck (Go.Operand.tmp 31), type := 0, pos := "ref.go:115", after := #[{ on := 0, ground := Go.Ground.data }], guard := Option.none }) (v := ?_) rfl (by kernel_rfl) (by kernel_rfl) (by kernel_rfl) (fun _ _ _ h => h) (Or.inl ⟨by rfl, ?_⟩) hHeld ?_
        rotate_left 1
        · intro ww hSw
          try dsimp only at hSw
          go_simp
          try with_reducible rfl
        try simp only [Act.put, List.setIfInBounds_toArray, List.set_cons_zero, List.set_cons_succ]
        refine wpAnyH_take (i := 2) (oi := { dst := Option.some 33, op := Go.Op.fieldAddr 29 (Go.Operand.tmp 32) 2, type := 0, pos := "ref.go:115", after := #[{ on := 1, ground := Go.Ground.data }], guard := Option.none }) (v := ?_) rfl (by kernel_rfl) (by kernel_rfl) (by kernel_rfl) (fun _ _ _ h => h) (Or.inl ⟨by rfl, ?_⟩) hHeld ?_
        rotate_left 1
        · intro ww hSw
          try dsimp only at hSw
          go_simp
          try with_reducible rfl
        try simp only [Act.put, List.setIfInBounds_toArray, List.set_cons_zero, List.set_cons_succ]
        refine wpAnyH_take (i := 3) (oi := { dst := Option.some 34, op := Go.Op.load 27 (Go.Operand.tmp 33), type := 27, pos := "ref.go:115", after := #[{ on := 2, ground := Go.Ground.data }], guard := Option.none }) (v := ?_) rfl (by kernel_rfl) (by kernel_rfl) (by kernel_rfl) (fun _ _ _ h => h) (Or.inl ⟨by rfl, ?_⟩) hHeld ?_
        rotate_left 1
        · intro ww hSw
          try dsimp only at hSw
          go_simp
          try with_reducible rfl
        try simp only [Act.put, List.setIfInBounds_toArray, List.set_cons_zero, List.set_cons_succ]
        refine wpAnyH_take (i := 4) (oi := { dst := Option.some 35, op := Go.Op.move (Go.Operand.tmp 7), type := 3, pos := "ref.go:115", after := #[], guard := Option.none }) (v := ?_) rfl (by kernel_rfl) (by kernel_rfl) (by kernel_rfl) (fun _ _ _ h => h) (Or.inl ⟨by rfl, ?_⟩) hHeld ?_
        rotate_left 1
        · intro ww hSw
          try dsimp only at hSw
          go_simp
          try with_reducible rfl
        try simp only [Act.put, List.setIfInBounds_toArray, List.set_cons_zero, List.set_cons_succ]
        refine wpAnyH_take (i := 5) (oi := { dst := Option.some 36, op := Go.Op.load 47 (Go.Operand.tmp 8), type := 47, pos := "ref.go:115", after := #[], guard := Option.none }) (v := (.agg #[.int .i64 y.id, .int .i64 y.prio, .int .i64 y.dr, .int .i64 y.bdr, .int .i64 y.st, .bool y.two, .int .i64 y.tick])) rfl (by kernel_rfl) (by kernel_rfl) (by kernel_rfl) (fun _ _ _ h => h) (yieldsIf_load_mid (by rfl) 47 (.tmp 8) rfl r 0 rfl (encPe y) _ (fun _ hb => hb.2) Try.underlying47 rfl (by kernel_rfl)) hHeld ?_
        try simp only [Act.put, List.setIfInBounds_toArray, List.set_cons_zero, List.set_cons_succ]
        refine wpAnyH_take (i := 6) (oi := { dst := Option.some 37, op := Go.Op.indexAddr 27 (Go.Operand.tmp 34) (Go.Operand.tmp 35), type := 0, pos := "ref.go:115", after := #[{ on := 3, ground := Go.Ground.data }, { on := 4, ground := Go.Ground.data }, { on := 0, ground := Go.Ground.phase }, { on := 1, ground := Go.Ground.phase }, { on := 2, ground := Go.Ground.phase }, { on := 3, ground := Go.Ground.phase }, { on := 4, ground := Go.Ground.phase }, { on := 5, ground := Go.Ground.phase }], guard := Option.none }) (v := ?_) rfl (by kernel_rfl) (by kernel_rfl) (by kernel_rfl) (fun _ _ _ h => h) (Or.inl ⟨by rfl, ?_⟩) hHeld ?_
        rotate_left 1
        · intro ww hSw
          try dsimp only at hSw
          go_simp
          try with_reducible rfl
        try simp only [Act.put, List.setIfInBounds_toArray, List.set_cons_zero, List.set_cons_succ]
        refine wpAnyH_ready (rs := [7]) (by kernel_rfl) (by simp) ?_
        refine AllReadyH.cons (o := { dst := Option.none, op := Go.Op.store 47 (Go.Operand.tmp 37) (Go.Operand.tmp 36), type := 0, pos := "ref.go:115", after := #[{ on := 6, ground := Go.Ground.data }, { on := 5, ground := Go.Ground.data }, { on := 0, ground := Go.Ground.phase }, { on := 1, ground := Go.Ground.phase }, { on := 2, ground := Go.Ground.phase }, { on := 3, ground := Go.Ground.phase }, { on := 4, ground := Go.Ground.phase }, { on := 5, ground := Go.Ground.phase }], guard := Option.none }) rfl (fun K hK => ?_) AllReadyH.nil
        obtain ⟨hD4, hC4⟩ := D3.out.over hkn y
        refine wp_store_mid 47 (.tmp 37) (.tmp 36) rfl g (k * 7) #[.int .i64 y.id, .int .i64 y.prio, .int .i64 y.dr, .int .i64 y.bdr, .int .i64 y.st, .bool y.two, .int .i64 y.tick] rfl rfl (own_there D3.out.row rfl hkn) (by kernel_rfl) (by kernel_rfl) ?_
        change K _ (w3.setCells g (k * 7) (encPe y))
        have D4 := Lib.hid hD4
        have C4 := Lib.hid hC4
        clear hD4 hC4
        refine hK.out _ _ (And.intro D4.out.cells.2.2 (range_chg2 K3.out C4.out (fun hk => by have := HGL.out r hk; omega))) (fun hHeld => ?_)
        clear hK K
        try simp only [Act.put]
        refine wpAnyH_done (by kernel_rfl) ?_ _
        refine NoPanic.normal ?_
        clear hHeld
        generalize w3.setCells g (k * 7) (encPe y) = w4 at *
        go_wp2
        show Q (.returned (.bool true)) w4
        rw [← HQ.out]
        refine ⟨by rw [HB.out], ?_, (Chg.of_below (F := G) (by rw [HR.out]; exact B3.out)).trans C4.out (fun k hk => .inl hk)⟩
        rw [← HX.out, HY.out]
        exact D4.out
end Go.Proofs.Ytfapphndfgoknaa
