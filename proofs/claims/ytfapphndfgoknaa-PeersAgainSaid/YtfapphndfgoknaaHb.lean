/- Neighbors in memory: the program's list, the reference's. No conditions. -/
import Derived.Test.YtfapphndfgoknaaHa
import Derived.Test.YtfapphndfgoknaaWa
import Derived.StillTailTactics
import Derived.Laws.StructEq
import Derived.ChangeKeysEq
import Derived.Laws.EntriesVeiled
namespace Go.Proofs.Ytfapphndfgoknaa
open Go.RowKit Go.Deep

section
variable {α : Type} {enc : α → List Value} {k : Nat}
/-- The cells of items, one behind the other. -/
def cellsBy (enc : α → List Value) (L : List α) : List Value := L.flatMap enc
theorem by_cons (x : α) (L : List α) : cellsBy enc (x :: L) = enc x ++ cellsBy enc L := by simp [cellsBy]
theorem by_append (L M : List α) : cellsBy enc (L ++ M) = cellsBy enc L ++ cellsBy enc M := by simp [cellsBy]
theorem by_one (x : α) : cellsBy enc [x] = enc x := by simp [cellsBy]
theorem by_length (hk : ∀ x, (enc x).length = k) (L : List α) : (cellsBy enc L).length = L.length * k := by
  induction L with
  | nil => simp [cellsBy]
  | cons x L ih => rw [by_cons, List.length_append, ih, hk, List.length_cons, Nat.succ_mul, Nat.add_comm]
theorem by_ones (h1 : ∀ x, ∀ v ∈ enc x, v.oneCell' = true) (L : List α) : ∀ v ∈ cellsBy enc L, v.oneCell' = true := by
  intro v hv
  obtain ⟨x, _, hx⟩ := List.mem_flatMap.1 hv
  exact h1 x v hx
theorem by_at (hk : ∀ x, (enc x).length = k) : ∀ (L : List α) (j : Nat) (x : α), L[j]? = some x → ∀ i, i < k → (cellsBy enc L)[j * k + i]? = (enc x)[i]?
  | [], j, x, h, i, hi => by simp at h
  | y :: L, 0, x, h, i, hi => by
    simp at h
    subst h
    rw [by_cons, Nat.zero_mul, Nat.zero_add, List.getElem?_append_left (by rw [hk]; exact hi)]
  | y :: L, j + 1, x, h, i, hi => by
    have := by_at hk L j x (by simpa using h) i hi
    rw [by_cons, List.getElem?_append_right (by rw [hk, Nat.succ_mul]; omega), hk, ← this]
    congr 1
    rw [Nat.succ_mul]
    omega
/-- A row of the call's own, item j of it. -/
theorem own_item {w : World} {base n : Nat} {ty : TypeId} {A : Option Addr} {c : Nat} {L : List α} (hk : ∀ x, (enc x).length = k) (hk0 : 0 < k) (h : w.ownsRow base ty k (.slice A n c) n (cellsBy enc L)) {j : Nat} {x : α} (hj : L[j]? = some x) :
    ∃ g, A = some ⟨g, 0, none⟩ ∧ base ≤ g ∧ g < w.heap.size ∧ n ≤ c ∧ c ≤ maxLen ∧ ∀ i, i < k → w.cell? ⟨g, j * k + i, none⟩ = (enc x)[i]? := by
  have hl := h.1
  rw [by_length hk] at hl
  have hln : L.length = n := Nat.eq_of_mul_eq_mul_right hk0 hl
  have hjl := (List.getElem?_eq_some_iff.1 hj).1
  rcases h.2 with ⟨_, hn⟩ | ⟨g, cap, cur, hv, hb, hg, h1, h2, h3, h4⟩
  · omega
  · cases hv
    refine ⟨g, rfl, hb, (Array.getElem?_eq_some_iff.1 hg).1, h1, h2, fun i hi => ?_⟩
    have hB : Blk w g ty cur := hg
    have hlt : j * k + i < n * k := by
      have : (j + 1) * k ≤ n * k := Nat.mul_le_mul_right k (by omega)
      rw [Nat.succ_mul] at this
      omega
    rw [hB.cell, ← by_at hk L j x hj i hi, ← h4, List.getElem?_take, if_pos hlt]
    simp
theorem own_len {w : World} {base n : Nat} {ty : TypeId} {v : Value} {L : List α} (hk : ∀ x, (enc x).length = k) (hk0 : 0 < k) (h : w.ownsRow base ty k v n (cellsBy enc L)) : L.length = n := by
  have hl := h.1
  rw [by_length hk] at hl
  exact Nat.eq_of_mul_eq_mul_right hk0 hl
end
theorem own_blk {w : World} {g : Nat} {ty : TypeId} {xs : List Value} {n size base : Nat} (h : Blk w g ty xs.toArray) (hl : xs.length = n * size) (hn : n ≤ maxLen) (hb : base ≤ g) : w.ownsRow base ty size (.slice (some ⟨g, 0, none⟩) n n) n xs :=
  ⟨hl, .inr ⟨g, n, xs.toArray, rfl, hb, h, Nat.le_refl _, hn, by simp [hl], by simp [← hl]⟩⟩

theorem own_set1 {w : World} {base n size b c : Nat} {t : TypeId} {xs : List Value} (h : w.ownsRow base t size (.slice (some ⟨b, 0, none⟩) n c) n xs) (p : Nat) (u : Value) :
    (w.setCell ⟨b, p, none⟩ u).ownsRow base t size (.slice (some ⟨b, 0, none⟩) n c) n (xs.set p u) := by
  refine ⟨by rw [List.length_set]; exact h.1, ?_⟩
  rcases h.2 with ⟨hv, _⟩ | ⟨g, cap, cur, hv, hb, hg, h1, h2, h3, h4⟩
  · cases hv
  · injection hv with e1 e2 e3
    injection e1 with e1
    injection e1 with e1
    subst e1 e3
    have hB : Blk w b t cur := hg
    refine .inr ⟨b, c, cur.setIfInBounds p u, rfl, hb, hB.put p u, h1, h2, by simpa using h3, ?_⟩
    rw [← h4]
    simp [List.take_set]

theorem by_set1 {α : Type} {enc : α → List Value} {k : Nat} (hk : ∀ x, (enc x).length = k) : ∀ {L : List α} {j : Nat} {x : α} (x' : α) (i : Nat) (u : Value), L[j]? = some x → i < k → enc x' = (enc x).set i u → cellsBy enc (L.set j x') = (cellsBy enc L).set (j * k + i) u
  | [], j, x, x', i, u, h, _, _ => by simp at h
  | y :: L, 0, x, x', i, u, h, hi, he => by
    simp at h
    subst h
    rw [List.set_cons_zero, by_cons, by_cons, he, Nat.zero_mul, Nat.zero_add, List.set_append_left _ _ (by rw [hk]; exact hi)]
  | y :: L, j + 1, x, x', i, u, h, hi, he => by
    have ih := by_set1 hk (L := L) (j := j) x' i u (by simpa using h) hi he
    rw [List.set_cons_succ, by_cons, by_cons, ih, List.set_append_right _ _ (by rw [hk, Nat.succ_mul]; omega), hk]
    congr 2
    rw [Nat.succ_mul]
    omega

def encPe (x : Pe) : List Value := [.int .i64 x.id, .int .i64 x.prio, .int .i64 x.dr, .int .i64 x.bdr, .int .i64 x.st, .bool x.two, .int .i64 x.tick]
theorem encPe_len (x : Pe) : (encPe x).length = 7 := rfl
theorem encPe_ones (x : Pe) : ∀ v ∈ encPe x, v.oneCell' = true := by
  intro v hv
  simp [encPe] at hv
  rcases hv with rfl | rfl | rfl | rfl | rfl | rfl | rfl <;> rfl
def encCd (x : Cd) : List Value := [.int .i64 x.id, .int .i64 x.prio, .int .i64 x.dr, .int .i64 x.bdr]
theorem encCd_len (x : Cd) : (encCd x).length = 4 := rfl
theorem encCd_ones (x : Cd) : ∀ v ∈ encCd x, v.oneCell' = true := by
  intro v hv
  simp [encCd] at hv
  rcases hv with rfl | rfl | rfl | rfl <;> rfl
def encI (z : Int) : List Value := [.int .i64 z]
theorem encI_len (z : Int) : (encI z).length = 1 := rfl
theorem encI_ones (z : Int) : ∀ v ∈ encI z, v.oneCell' = true := by
  intro v hv
  simp [encI] at hv
  rw [hv]
  rfl
theorem infoPe : (Try.prog.info? 47).map (fun i => (i.zero, i.size, i.bytes)) = some (some (.agg #[.int .i64 0, .int .i64 0, .int .i64 0, .int .i64 0, .int .i64 0, .bool false, .int .i64 0]), 7, 56) := by kernel_rfl
theorem infoCd : (Try.prog.info? 69).map (fun i => (i.zero, i.size, i.bytes)) = some (some (.agg #[.int .i64 0, .int .i64 0, .int .i64 0, .int .i64 0]), 4, 32) := by kernel_rfl
theorem infoI : (Try.prog.info? 3).map (fun i => (i.zero, i.size, i.bytes)) = some (some (.int .i64 0), 1, 8) := by kernel_rfl
theorem Blk.seven {w : World} {g : Nat} {t : TypeId} {a0 a1 a2 a3 a4 a5 a6 : Value} (h : Blk w g t #[a0, a1, a2, a3, a4, a5, a6]) : w.cell? ⟨g, 0, none⟩ = some a0 ∧ w.cell? ⟨g, 1, none⟩ = some a1 ∧ w.cell? ⟨g, 2, none⟩ = some a2 ∧ w.cell? ⟨g, 3, none⟩ = some a3 ∧ w.cell? ⟨g, 4, none⟩ = some a4 ∧ w.cell? ⟨g, 5, none⟩ = some a5 ∧ w.cell? ⟨g, 6, none⟩ = some a6 :=
  ⟨h.cell 0, h.cell 1, h.cell 2, h.cell 3, h.cell 4, h.cell 5, h.cell 6⟩
theorem Blk.six {w : World} {g : Nat} {t : TypeId} {a0 a1 a2 a3 a4 a5 : Value} (h : Blk w g t #[a0, a1, a2, a3, a4, a5]) : w.cell? ⟨g, 0, none⟩ = some a0 ∧ w.cell? ⟨g, 1, none⟩ = some a1 ∧ w.cell? ⟨g, 2, none⟩ = some a2 ∧ w.cell? ⟨g, 3, none⟩ = some a3 ∧ w.cell? ⟨g, 4, none⟩ = some a4 ∧ w.cell? ⟨g, 5, none⟩ = some a5 :=
  ⟨h.cell 0, h.cell 1, h.cell 2, h.cell 3, h.cell 4, h.cell 5⟩
theorem Blk.five {w : World} {g : Nat} {t : TypeId} {a0 a1 a2 a3 a4 : Value} (h : Blk w g t #[a0, a1, a2, a3, a4]) : w.cell? ⟨g, 0, none⟩ = some a0 ∧ w.cell? ⟨g, 1, none⟩ = some a1 ∧ w.cell? ⟨g, 2, none⟩ = some a2 ∧ w.cell? ⟨g, 3, none⟩ = some a3 ∧ w.cell? ⟨g, 4, none⟩ = some a4 :=
  ⟨h.cell 0, h.cell 1, h.cell 2, h.cell 3, h.cell 4⟩
theorem Blk.one {w : World} {g : Nat} {t : TypeId} {a0 : Value} (h : Blk w g t #[a0]) : w.cell? ⟨g, 0, none⟩ = some a0 := h.cell 0
/-- Where a neighbor lies, as the array tells. -/
def ptrP (X : List Pe) (bk : Int → Nat) (i : Int) : Value := .pointer ((findP X i).map fun _ => ⟨bk i, 0, none⟩)
def tabP (X : List Pe) (bk : Int → Nat) : List Value := (List.range 16).map fun (k : Nat) => ptrP X bk k
def objP (sf lan : Int) (X : List Pe) (bk : Int → Nat) : List Value := .int .i64 sf :: .int .i64 lan :: tabP X bk
theorem tabP_len (X : List Pe) (bk : Int → Nat) : (tabP X bk).length = 16 := by simp [tabP]
theorem tabP_at (X : List Pe) (bk : Int → Nat) (k : Nat) (hk : k < 16) : (tabP X bk)[k]? = some (ptrP X bk k) := by simp [tabP, hk]
theorem tabP_ones (X : List Pe) (bk : Int → Nat) : ∀ v ∈ tabP X bk, v.oneCell' = true := by
  intro v hv
  obtain ⟨k, -, rfl⟩ := List.mem_map.1 hv
  rfl
/-- The program's list at block p, with all its blocks in F. -/
structure PDb (w : World) (p : Nat) (F : Nat → Prop) (sf lan : Int) (X : List Pe) (bk : Int → Nat) : Prop where
  obj : Blk w p 57 (objP sf lan X bk).toArray
  row : ∀ x ∈ X, Blk w (bk x.id) 47 #[.int .i64 x.id, .int .i64 x.prio, .int .i64 x.dr, .int .i64 x.bdr, .int .i64 x.st, .bool x.two, .int .i64 x.tick]
  inj : ∀ x ∈ X, ∀ y ∈ X, bk x.id = bk y.id → x.id = y.id
  srt : Srt X
  me : 1 ≤ sf ∧ sf ≤ 15
  net : 0 ≤ lan ∧ lan ≤ 3
  fp : F p
  fb : ∀ x ∈ X, F (bk x.id)
  fl : ∀ k, F k → k < w.heap.size
def PD (w : World) (p : Nat) (F : Nat → Prop) (sf lan : Int) (X : List Pe) : Prop := ∃ bk, PDb w p F sf lan X bk
section
variable {w w' : World} {p q : Nat} {F G : Nat → Prop} {sf lan : Int} {X : List Pe} {bk : Int → Nat}
theorem PDb.below (h : PDb w p F sf lan X bk) (hb : Below w.heap.size w w') : PDb w' p F sf lan X bk :=
  ⟨h.obj.below hb h.obj.lt, fun x hx => (h.row x hx).below hb (h.row x hx).lt, h.inj, h.srt, h.me, h.net, h.fp, h.fb, fun k hk => Nat.lt_of_lt_of_le (h.fl k hk) hb.size⟩
theorem PDb.chg (h : PDb w p F sf lan X bk) (hc : Chg G w w') (hd : ∀ k, F k → ¬ G k) : PDb w' p F sf lan X bk :=
  ⟨h.obj.chg hc (hd _ h.fp), fun x hx => (h.row x hx).chg hc (hd _ (h.fb x hx)), h.inj, h.srt, h.me, h.net, h.fp, h.fb, fun k hk => Nat.lt_of_lt_of_le (h.fl k hk) hc.size⟩
theorem PDb.cells (h : PDb w p F sf lan X bk) : w.cell? ⟨p, 0, none⟩ = some (.int .i64 sf) ∧ w.cell? ⟨p, 1, none⟩ = some (.int .i64 lan) ∧ p < w.heap.size := ⟨h.obj.cell 0, h.obj.cell 1, h.obj.lt⟩
theorem PDb.at (h : PDb w p F sf lan X bk) (k : Nat) (hk : k < 16) : w.cell? ⟨p, 2 + k, none⟩ = some (ptrP X bk k) := by
  rw [h.obj.cell]
  have := tabP_at X bk k hk
  simp [objP, Nat.add_comm 2 k]
  exact this
theorem PDb.tab (h : PDb w p F sf lan X bk) : w.rangeAt p 2 (tabP X bk) := by
  intro j v hv
  have hj : j < 16 := by have := (List.getElem?_eq_some_iff.1 hv).1; rwa [tabP_len] at this
  rw [h.at j hj, ← hv, tabP_at X bk j hj]
theorem PDb.found (h : PDb w p F sf lan X bk) {i : Int} {x : Pe} (hf : findP X i = some x) : Blk w (bk i) 47 #[.int .i64 x.id, .int .i64 x.prio, .int .i64 x.dr, .int .i64 x.bdr, .int .i64 x.st, .bool x.two, .int .i64 x.tick] := by
  obtain ⟨hm, hi⟩ := findP_is hf
  have := h.row x hm
  rwa [← hi]
theorem PDb.ne (h : PDb w p F sf lan X bk) {x : Pe} (hx : x ∈ X) : bk x.id ≠ p := by
  intro e
  have h1 : w.heap[bk x.id]? = _ := h.row x hx
  have h2 : w.heap[p]? = _ := h.obj
  rw [e, h2] at h1
  injection h1 with h1
  injection h1 with _ h1
  exact absurd h1 (by decide)
/-- A neighbor's block is another one now. -/
theorem PDb.put (h : PDb w p F sf lan X bk) {y : Pe} {g : Nat} (hg : Blk w g 47 #[.int .i64 y.id, .int .i64 y.prio, .int .i64 y.dr, .int .i64 y.bdr, .int .i64 y.st, .bool y.two, .int .i64 y.tick]) (hf : ¬ F g) (hy : 1 ≤ y.id ∧ y.id ≤ 15) (ht : 0 ≤ y.tick ∧ y.tick ≤ 1048576) :
    PDb (w.setCell ⟨p, 2 + y.id.toNat, none⟩ (.pointer (some ⟨g, 0, none⟩))) p (fun k => F k ∨ k = g) sf lan (putP y X) (fun i => if i = y.id then g else bk i) := by
  have hgp : g ≠ p := fun e => hf (by rw [e]; exact h.fp)
  have hbk : ∀ x ∈ putP y X, x.id = y.id ∧ x = y ∨ x.id ≠ y.id ∧ x ∈ X := fun x hx => by
    have hs := h.srt.put hy ht
    have h1 := hs.find hx
    rw [find_put h.srt.rise] at h1
    by_cases e : x.id = y.id
    · rw [if_pos e] at h1
      injection h1 with h1
      exact .inl ⟨e, h1.symm⟩
    · rw [if_neg e] at h1
      exact .inr ⟨e, (findP_is h1).1⟩
  refine ⟨?_, fun x hx => ?_, fun x hx z hz => ?_, h.srt.put hy ht, h.me, h.net, .inl h.fp, fun x hx => ?_, fun k hk => ?_⟩
  · have h1 := h.obj.put (2 + y.id.toNat) (.pointer (some ⟨g, 0, none⟩))
    have e : (objP sf lan X bk).toArray.setIfInBounds (2 + y.id.toNat) (.pointer (some ⟨g, 0, none⟩)) = (objP sf lan (putP y X) (fun i => if i = y.id then g else bk i)).toArray := by
      rw [List.setIfInBounds_toArray]
      congr 1
      apply List.ext_getElem?
      intro j
      rw [List.getElem?_set]
      match j with
      | 0 => simp [objP]
      | 1 => simp [objP]; omega
      | j + 2 =>
        by_cases hj : j < 16
        · have e1 : (objP sf lan X bk)[j + 2]? = some (ptrP X bk j) := by
            have := tabP_at X bk j hj
            simpa [objP] using this
          have e2 : (objP sf lan (putP y X) (fun i => if i = y.id then g else bk i))[j + 2]? = some (ptrP (putP y X) (fun i => if i = y.id then g else bk i) j) := by
            have := tabP_at (putP y X) (fun i => if i = y.id then g else bk i) j hj
            simpa [objP] using this
          rw [e1, e2]
          have hl : 2 + y.id.toNat < (objP sf lan X bk).length := by simp [objP, tabP_len]; omega
          by_cases hji : (j : Int) = y.id
          · rw [if_pos (by omega), if_pos hl]
            unfold ptrP
            rw [find_put h.srt.rise, if_pos hji]
            simp [hji]
          · rw [if_neg (by omega)]
            unfold ptrP
            rw [find_put h.srt.rise, if_neg hji]
            simp [hji]
        · have e1 : (objP sf lan X bk)[j + 2]? = none := List.getElem?_eq_none (by simp [objP, tabP_len]; omega)
          have e2 : (objP sf lan (putP y X) (fun i => if i = y.id then g else bk i))[j + 2]? = none := List.getElem?_eq_none (by simp [objP, tabP_len]; omega)
          rw [e1, e2, if_neg (by omega)]
    rw [e] at h1
    exact h1
  · rcases hbk x hx with ⟨e, rfl⟩ | ⟨e, hm⟩
    · rw [if_pos rfl]
      exact hg.far hgp _
    · rw [if_neg e]
      exact (h.row x hm).far (h.ne hm) _
  · have n1 : ∀ z ∈ X, bk z.id ≠ g := fun z hz e => hf (by rw [← e]; exact h.fb z hz)
    intro he
    rcases hbk x hx with ⟨e, rfl⟩ | ⟨e, hm⟩ <;> rcases hbk z hz with ⟨e2, rfl⟩ | ⟨e2, hm2⟩
    · rfl
    · simp only [if_neg e2] at he
      exact absurd he.symm (n1 z hm2)
    · simp only [if_neg e] at he
      exact absurd he (n1 x hm)
    · simp only [if_neg e, if_neg e2] at he
      exact h.inj x hm z hm2 he
  · rcases hbk x hx with ⟨e, rfl⟩ | ⟨e, hm⟩
    · exact .inr (if_pos rfl)
    · rw [if_neg e]
      exact .inl (h.fb x hm)
  · simp [World.setCell]
    rcases hk with hk | rfl
    · exact h.fl k hk
    · exact hg.lt
/-- A neighbor's block is written. -/
theorem PDb.write (h : PDb w p F sf lan X bk) {i : Int} {x : Pe} (hf : findP X i = some x) (s : Int) :
    PDb (w.setCell ⟨bk i, 4, none⟩ (.int .i64 s)) p F sf lan (putP (setP s x) X) bk := by
  obtain ⟨hm, hi⟩ := findP_is hf
  have hy := h.srt.ids x hm
  have ht := h.srt.ticks x hm
  have hid : (setP s x).id = x.id := rfl
  have hs := h.srt.put (y := setP s x) hy ht
  have hbk : ∀ z ∈ putP (setP s x) X, z.id = x.id ∧ z = setP s x ∨ z.id ≠ x.id ∧ z ∈ X := fun z hz => by
    have h1 := hs.find hz
    rw [find_put h.srt.rise, hid] at h1
    by_cases e : z.id = x.id
    · rw [if_pos e] at h1
      injection h1 with h1
      exact .inl ⟨e, h1.symm⟩
    · rw [if_neg e] at h1
      exact .inr ⟨e, (findP_is h1).1⟩
  have hobj : objP sf lan (putP (setP s x) X) bk = objP sf lan X bk := by
    unfold objP tabP
    congr 2
    refine List.map_congr_left (fun k _ => ?_)
    unfold ptrP
    rw [find_put h.srt.rise, hid]
    by_cases e : (k : Int) = x.id
    · rw [if_pos e, e, hi, hf]
      rfl
    · rw [if_neg e]
  refine ⟨?_, fun z hz => ?_, fun z hz z2 hz2 he => ?_, hs, h.me, h.net, h.fp, fun z hz => ?_, fun k hk => by simpa [World.setCell] using h.fl k hk⟩
  · rw [hobj]
    exact h.obj.far (by rw [← hi]; exact (h.ne hm).symm) _
  · rcases hbk z hz with ⟨e, rfl⟩ | ⟨e, hm2⟩
    · have h1 := (h.row x hm).put 4 (.int .i64 s)
      rw [hi] at h1
      have h2 : (setP s x).id = i := hi
      rw [h2]
      simpa [setP, hi] using h1
    · refine (h.row z hm2).far (fun e2 => e ?_) _
      rw [← hi] at e2
      exact h.inj z hm2 x hm e2
  · rcases hbk z hz with ⟨e, -⟩ | ⟨e, hm1⟩ <;> rcases hbk z2 hz2 with ⟨e2, -⟩ | ⟨e2, hm2⟩
    · rw [e, e2]
    · rw [e] at he ⊢
      exact h.inj x hm z2 hm2 he
    · rw [e2] at he ⊢
      exact h.inj z hm1 x hm he
    · exact h.inj z hm1 z2 hm2 he
  · rcases hbk z hz with ⟨e, -⟩ | ⟨e, hm2⟩
    · rw [e]
      exact h.fb x hm
    · exact h.fb z hm2
/-- A neighbor is struck out. -/
theorem PDb.drop (h : PDb w p F sf lan X bk) {i : Int} (hi : 1 ≤ i ∧ i ≤ 15) : PDb (w.setCell ⟨p, 2 + i.toNat, none⟩ (.pointer none)) p F sf lan (dropX X i) bk := by
  refine ⟨?_, fun x hx => ?_, fun x hx z hz => h.inj x (List.mem_filter.1 hx).1 z (List.mem_filter.1 hz).1, h.srt.drop i, h.me, h.net, h.fp, fun x hx => h.fb x (List.mem_filter.1 hx).1, fun k hk => by simpa [World.setCell] using h.fl k hk⟩
  · have h1 := h.obj.put (2 + i.toNat) (.pointer none)
    have e : (objP sf lan X bk).toArray.setIfInBounds (2 + i.toNat) (.pointer none) = (objP sf lan (dropX X i) bk).toArray := by
      rw [List.setIfInBounds_toArray]
      congr 1
      apply List.ext_getElem?
      intro j
      rw [List.getElem?_set]
      match j with
      | 0 => simp [objP]
      | 1 => simp [objP]; omega
      | j + 2 =>
        by_cases hj : j < 16
        · have e1 : (objP sf lan X bk)[j + 2]? = some (ptrP X bk j) := by
            have := tabP_at X bk j hj
            simpa [objP] using this
          have e2 : (objP sf lan (dropX X i) bk)[j + 2]? = some (ptrP (dropX X i) bk j) := by
            have := tabP_at (dropX X i) bk j hj
            simpa [objP] using this
          rw [e1, e2]
          have hl : 2 + i.toNat < (objP sf lan X bk).length := by simp [objP, tabP_len]; omega
          by_cases hji : (j : Int) = i
          · rw [if_pos (by omega), if_pos hl]
            unfold ptrP
            rw [find_drop, if_pos hji]
            rfl
          · rw [if_neg (by omega)]
            unfold ptrP
            rw [find_drop, if_neg hji]
        · have e1 : (objP sf lan X bk)[j + 2]? = none := List.getElem?_eq_none (by simp [objP, tabP_len]; omega)
          have e2 : (objP sf lan (dropX X i) bk)[j + 2]? = none := List.getElem?_eq_none (by simp [objP, tabP_len]; omega)
          rw [e1, e2, if_neg (by omega)]
    rw [e] at h1
    exact h1
  · have hm := (List.mem_filter.1 hx).1
    exact (h.row x hm).far (h.ne hm) _
end
/-- The reference's list at block q, with all its blocks in G. -/
structure RDb (w : World) (q : Nat) (G : Nat → Prop) (sf lan : Int) (X : List Pe) (A : Option Addr) (n c : Nat) : Prop where
  obj : Blk w q 29 #[.int .i64 sf, .int .i64 lan, .slice A n c]
  row : w.ownsRow 0 47 7 (.slice A n c) n (cellsBy encPe X)
  gq : G q
  gr : ∀ k, (Value.slice A n c).ownBlock = some k → G k
  gl : ∀ k, G k → k < w.heap.size
def RD (w : World) (q : Nat) (G : Nat → Prop) (sf lan : Int) (X : List Pe) : Prop := ∃ A n c, RDb w q G sf lan X A n c
section
variable {w w' : World} {q : Nat} {F G : Nat → Prop} {sf lan : Int} {X : List Pe} {A : Option Addr} {n c : Nat}
theorem RDb.below (h : RDb w q G sf lan X A n c) (hb : Below w.heap.size w w') : RDb w' q G sf lan X A n c :=
  ⟨h.obj.below hb h.obj.lt, own_below2 h.row hb, h.gq, h.gr, fun k hk => Nat.lt_of_lt_of_le (h.gl k hk) hb.size⟩
theorem RDb.chg (h : RDb w q G sf lan X A n c) (hc : Chg F w w') (hd : ∀ k, G k → ¬ F k) : RDb w' q G sf lan X A n c :=
  ⟨h.obj.chg hc (hd _ h.gq), own_chg h.row hc (fun k hk => hd _ (h.gr k hk)), h.gq, h.gr, fun k hk => Nat.lt_of_lt_of_le (h.gl k hk) hc.size⟩
theorem RDb.len (h : RDb w q G sf lan X A n c) : X.length = n := own_len encPe_len (by omega) h.row
theorem RDb.cells (h : RDb w q G sf lan X A n c) : w.cell? ⟨q, 0, none⟩ = some (.int .i64 sf) ∧ w.cell? ⟨q, 1, none⟩ = some (.int .i64 lan) ∧ w.cell? ⟨q, 2, none⟩ = some (.slice A n c) := h.obj.three
theorem RDb.ne (h : RDb w q G sf lan X A n c) : (Value.slice A n c).ownBlock ≠ some q := own_ne_blk h.row h.obj (by decide)
end
theorem own_pe {w : World} {base n : Nat} {A : Option Addr} {c : Nat} {L : List Pe} (h : w.ownsRow base 47 7 (.slice A n c) n (cellsBy encPe L)) {j : Nat} {x : Pe} (hj : L[j]? = some x) :
    ∃ g, A = some ⟨g, 0, none⟩ ∧ base ≤ g ∧ g < w.heap.size ∧ n ≤ c ∧ c ≤ maxLen ∧ w.rangeAt g (j * 7) (encPe x) ∧ w.cell? ⟨g, j * 7, none⟩ = some (.int .i64 x.id) ∧ w.cell? ⟨g, j * 7 + 6, none⟩ = some (.int .i64 x.tick) := by
  obtain ⟨g, h1, h2, h3, h4, h5, h6⟩ := own_item encPe_len (by omega) h hj
  refine ⟨g, h1, h2, h3, h4, h5, fun k v hv => ?_, h6 0 (by omega), h6 6 (by omega)⟩
  rw [h6 k (by have := (List.getElem?_eq_some_iff.1 hv).1; simpa [encPe] using this), hv]
theorem run_index16 {cs : Array Value} {v : Value} {j : Nat} (hj : j < 16) (hc : cs[j]? = some v) (W : World) : (Instr.index 55 (.agg cs) (.int .i64 (j : Int))).run Try.prog W = .ok v W := by
  have h0 : (0 : Int) ≤ (j : Int) ∧ (j : Int) < ((16 : Nat) : Int) := by omega
  have h1 : (Try.prog.info? 54).map (fun i => i.size) = some 1 := by kernel_rfl
  have hrp : (part 54 cs j).run Try.prog W = .ok v W := by simp [part, isAgg, run_underlying Try.underlying54, hc]
  cases hq : Try.prog.info? 54 with
  | none => rw [hq] at h1; cases h1
  | some i =>
    have hi : i.size = 1 := by rw [hq] at h1; simpa using h1
    simp [Instr.index, asIntOf, run_underlying Try.underlying55, sizeOf, typeInfo, hq, hi, hrp]
    omega
end Go.Proofs.Ytfapphndfgoknaa
