/- The reference's Drop: the list without the one of a key, in new memory. Conditions: at most 1000 items. · The reference's Tick: each item's age is one more, in place; the keys of those that came to be 60. Conditions: at most 1000 items, of ages from 0 to 60. · The reference's Sealed: a copy with its sum and length. Conditions: a right description. -/
import Derived.Test.YtnnkcgbnhjkahaaJaj
import Derived.Test.YtnnkcgbnhjkahaaJai
import Derived.Test.YtnnkcgbnhjkahaaJae
namespace Go.Proofs.Ytnnkcgbnhjkahaa
open Go.RowKit

theorem Try.infoLsa : (Try.prog.info? 62).map (fun i => (i.zero, i.size, i.bytes)) = some (some (.agg #[.int .i64 0, .int .i64 0, .int .i64 0, .int .i64 0, .int .i64 0, .int .i64 0, .int .i64 0, .slice none 0 0, .slice none 0 0]), 9, 104) := by kernel_rfl

theorem own_keeps7 {w w' : World} {b : Nat} {t : TypeId} {size n : Nat} {v : Value} {xs : List Value} (ho : w.ownsRow b t size v n xs) (hg : w.grownBy w' v.ownBlock) (hb : b ≤ w.heap.size) : Below b w w' :=
  (Below.refl b w).grown hg hb fun k hk => by
    rcases ho.2 with ⟨rfl, _⟩ | ⟨g, _, _, rfl, hbg, _⟩
    · cases hk
    · simp [Value.ownBlock] at hk
      omega

/-- What lies in a new block, as a slice of one item. -/
theorem news_new (w : World) (t : TypeId) (cs : List Value) : ∀ ad, (some ⟨w.heap.size, 0, none⟩ : Option Addr) = some ad → ∀ j u, cs[j]? = some u → (w.alloc (.cells cs.toArray t)).cell? (ad.add j) = some u := by
  intro ad e j u hu
  injection e with e
  subst e
  rw [addr_add, Nat.zero_add, (Blk.new w t cs.toArray).cell]
  simpa using hu

/-- A list without its item at place i; -1: the whole list. -/
def dropI (R : List Rc) (i : Int) : List Rc := if i < 0 then R else R.eraseIdx i.toNat
/-- Of it the first j items have been looked at. -/
def dropTo (R : List Rc) (i : Int) (j : Nat) : List Rc := if i < 0 then R.take j else (R.take j).eraseIdx i.toNat
theorem dropTo_all (R : List Rc) (i : Int) (j : Nat) (h : R.length ≤ j) : dropTo R i j = dropI R i := by
  unfold dropTo dropI
  rw [List.take_of_length_le h]
theorem dropTo_zero (R : List Rc) (i : Int) : dropTo R i 0 = [] := by
  unfold dropTo
  split <;> simp
theorem dropTo_at (R : List Rc) (j : Nat) (hj : j < R.length) : dropTo R j (j + 1) = dropTo R j j := by
  unfold dropTo
  rw [if_neg (by omega), if_neg (by omega)]
  have e : (j : Int).toNat = j := by omega
  have hl : (R.take j).length = j := by simp; omega
  have h1 : (R.take j ++ [R[j]]).eraseIdx j = R.take j := by
    rw [List.eraseIdx_append_of_length_le (by omega), hl, Nat.sub_self]
    simp
  rw [e, List.take_succ_eq_append_getElem hj, h1, List.eraseIdx_of_length_le (by omega)]
theorem dropTo_next (R : List Rc) (i : Int) (j : Nat) (r : Rc) (hr : R[j]? = some r) (hij : i ≠ j) : dropTo R i (j + 1) = dropTo R i j ++ [r] := by
  have hj := (List.getElem?_eq_some_iff.1 hr).1
  have er := (List.getElem?_eq_some_iff.1 hr).2
  unfold dropTo
  have et : R.take (j + 1) = R.take j ++ [r] := by rw [List.take_succ_eq_append_getElem hj, er]
  split
  · exact et
  · rw [et]
    by_cases hlt : i.toNat < j
    · rw [List.eraseIdx_append_of_lt_length (by simp; omega)]
    · rw [List.eraseIdx_of_length_le (by simp; omega), List.eraseIdx_of_length_le (by simp; omega)]
theorem findFrom_bd (k : Ky) : ∀ (R : List Rc) (i : Nat), findFrom k R i = -1 ∨ (i : Int) ≤ findFrom k R i ∧ findFrom k R i < i + R.length
  | [], _ => .inl rfl
  | r :: R, i => by
    unfold findFrom
    split
    · right
      simp
      omega
    · rcases findFrom_bd k R (i + 1) with h | h
      · exact .inl h
      · right
        simp
        omega
theorem findR_bd (R : List Rc) (k : Ky) : findR R k = -1 ∨ 0 ≤ findR R k ∧ findR R k < R.length := by
  rcases findFrom_bd k R 0 with h | h
  · exact .inl h
  · right
    unfold findR
    omega

theorem grown_below {w w' : World} (h : Below w.heap.size w w') : w.grownBy w' none := ⟨h.os, h.tape, h.output, h.size, fun i hi _ => h.block i hi⟩
theorem grown_but {a c : World} (h : a.grownBy c none) (row : Option Nat) : a.grownBy c row := ⟨h.os, h.tape, h.output, h.size, fun i hi _ => h.block i hi (by simp)⟩
theorem grown_then {a b c : World} {row : Option Nat} (h : a.grownBy b row) (k : b.grownBy c row) : a.grownBy c row :=
  ⟨k.os.trans h.os, k.tape.trans h.tape, k.output.trans h.output, Nat.le_trans h.size k.size, fun i hi hne => (k.block i (Nat.lt_of_lt_of_le hi h.size) hne).trans (h.block i hi hne)⟩
theorem Blk.put0 {w : World} {g : Nat} {t : TypeId} {a b : Value} (h : Blk w g t #[a, b]) (u : Value) : Blk (w.setCell ⟨g, 0, none⟩ u) g t #[u, b] := by
  have h9 := h.put 0 u
  simpa using h9

/-- What Drop leaves. -/
def DropR (w : World) (g : Nat) (room : Int) (R : List Rc) (i : Int) (e : Ending) (w' : World) : Prop :=
  e = .returned (.bool (decide (0 ≤ i))) ∧ ∃ A' n' c', Blk w' g 68 #[.slice A' n' c', .int .i64 room] ∧ w'.ownsRow w.heap.size 62 9 (.slice A' n' c') n' (rcCells (dropI R i)) ∧ w.grownBy w' (some g)

set_option maxRecDepth 8000 in
set_option maxHeartbeats 8000000 in
theorem r7drop_any (g : Nat) (A : Option Addr) (n c : Nat) (room : Int) (R : List Rc) (k : Ky) (base : Nat) (w : World) (hB : Blk w g 68 #[.slice A n c, .int .i64 room]) (hO : w.ownsRow base 62 9 (.slice A n c) n (rcCells R)) (hn : n ≤ 1000) :
    Calls Try.prog 47 #[.pointer (some ⟨g, 0, none⟩), .agg #[.int .i64 k.kind, .int .i64 k.id, .int .i64 k.adv]] w (DropR w g room R (findR R k)) := by
  generalize hQ : DropR w g room R (findR R k) = Q
  have HQ := Lib.hid hQ
  clear hQ
  have hl := hO.1
  rw [rcCells_length] at hl
  have HO := Lib.hid hO
  have HB := Lib.hid hB
  have hgl := hB.lt
  clear hO hB
  have B0 := Lib.hid ((Below.refl w.heap.size w).alloc (Nat.le_refl _) (.cells #[.int .i64 k.kind, .int .i64 k.id, .int .i64 k.adv] 47))
  have K0 := Lib.hid (Blk.new w 47 #[.int .i64 k.kind, .int .i64 k.id, .int .i64 k.adv])
  go_enter Try.func47, Try.ntmps47
  go_wp2_with fail
  refine (r7find_any g A n c room R k base _ (HB.out.below B0.out hgl) ((own_below2 HO.out B0.out)) hn).mono ?_
  rintro e1 w0 ⟨rfl, hb1⟩
  have B1 := Lib.hid (B0.out.trans (hb1.mono (by simp)))
  have hs0 := B1.out.size
  clear hb1 B0 K0
  obtain ⟨v, hv⟩ : ∃ v, findR R k = v := ⟨_, rfl⟩
  have hvb := findR_bd R k
  rw [hv] at hvb
  have HV := Lib.hid hv
  rw [hv]
  clear hv
  have hgl0 : g < w0.heap.size := by omega
  have HB1 := Lib.hid (HB.out.below B1.out hgl)
  have c0 := HB1.out.cell 0
  go_wp2_with fail
  clear c0
  go_loopw [6, 7] (fun o i wr => ∃ (j m c' : Nat) (A' : Option Addr), j ≤ n ∧ i = .int .i64 j ∧ o = .slice A' m c' ∧ m ≤ j ∧ Hid (wr.ownsRow w0.heap.size 62 9 (.slice A' m c') m (rcCells (dropTo R v j))) ∧ Hid (Below w0.heap.size w0 wr)) (fun _ i _ => n - (intOf i).toNat)
  case atStart => exact ⟨0, 0, 0, none, Nat.zero_le _, rfl, rfl, Nat.le_refl _, Lib.hid (by rw [dropTo_zero]; exact World.ownsRow_nil _ _ _ _), Lib.hid (Below.refl _ _)⟩
  case round =>
    obtain ⟨j, m, c', A', hj, rfl, rfl, hmj, HM, hb⟩ := hrel
    have hsz := hb.out.size
    have HBr := Lib.hid (HB1.out.below hb.out hgl0)
    have c0 := HBr.out.cell 0
    have c1 := HBr.out.cell 1
    by_cases hlt : j < n
    · have hlt' : (j : Int) < n := by omega
      by_cases hat : (j : Int) = v
      · have HN := Lib.hid (show dropTo R v (j + 1) = dropTo R v j by rw [← hat]; exact dropTo_at R j (by omega))
        have d1 : ((j : Int) != v) = false := by simp [hat]
        clear hat
        go_wp2_with fail
        go_roundw
        case rel => exact ⟨j + 1, m, c', A', by omega, by go_num, rfl, by omega, Lib.hid (by rw [HN.out]; exact HM.out), hb⟩
        case measure => simp [intOf]; omega
      · obtain ⟨r, hr⟩ : ∃ r, R[j]? = some r := ⟨R[j]'(by omega), List.getElem?_eq_getElem (by omega)⟩
        have HN := Lib.hid (dropTo_next R v j r hr (fun e => hat e.symm))
        have d1 : ((j : Int) != v) = true := by simp [hat]
        clear hat
        obtain ⟨b, rfl, -, hb1, hnc, hcm, hat⟩ := own_rc HO.out hr
        unfold maxLen at hcm
        have HAT := Lib.hid (hat.below (B1.out.trans (hb.out.mono hs0)) hb1)
        clear hat hr
        go_wp2_with (first
          | (refine wpList_load_rc (by rfl) (.tmp 29) rfl (by rfl) HAT.out ?_)
          | (at_builtin; refine wpList_append_any rfl (.tmp 23) (.tmp 31) 53 62 (.agg #[.int .i64 0, .int .i64 0, .int .i64 0, .int .i64 0, .int .i64 0, .int .i64 0, .int .i64 0, .slice none 0 0, .slice none 0 0]) 9 104 Try.underlying53 Try.infoLsa rfl (by decide) (by decide) rfl w0.heap.size (.slice A' m c') m (rcCells (dropTo R v j)) (by rfl) (HM.out.alloc _) (some ⟨wr.heap.size, 0, none⟩) 1 1 r.cells (by rfl) (by rfl) (fun h => by cases h) (news_new wr 62 r.cells) (fun u hu => rcCells_ones [r] u (by rw [rcCells_cons, List.mem_append]; exact .inl hu)) (by omega) (by simp; omega) ?_; intro v2 w2 ho2 hg2))
        obtain ⟨A2, c2, rfl⟩ := own_slice ho2.out
        have hsz2 := hg2.out.size
        have HO2 := Lib.hid (show w2.ownsRow w0.heap.size 62 9 (.slice A2 (m + 1) c2) (m + 1) (rcCells (dropTo R v (j + 1))) by
          rw [HN.out, rcCells_append]
          have h2 := ho2.out
          simpa [rcCells] using h2)
        have HB2 := Lib.hid ((hb.out.alloc hsz _).trans (own_keeps7 (HM.out.alloc _) hg2.out (by simp; omega)))
        clear ho2 hg2
        go_wp2
        go_roundw
        case rel => exact ⟨j + 1, m + 1, c2, A2, by omega, by go_num, rfl, by omega, HO2, HB2⟩
        case measure => simp [intOf]; omega
    · have hf : w.frozen? ⟨g, 0, none⟩ = false := HB.out.frozen 0
      have hfr := HBr.out.frozen 0
      have HE := Lib.hid (show dropTo R v j = dropI R v from dropTo_all R v j (by omega))
      have hne : ∀ (x : Option Nat), wr.ownsRow w0.heap.size 62 9 (.slice A' m c') m (rcCells (dropTo R v j)) → (Value.slice A' m c').ownBlock ≠ some g := fun _ h => own_not h (.inl hgl0)
      go_wp2
      rw [← HQ.out, HV.out]
      refine ⟨rfl, A', m, c', HBr.out.put0 _, ?_, ?_⟩
      · rw [← HE.out]
        exact own_low (own_ne HM.out _ _ (hne none HM.out)) hs0
      · exact grown_then (grown_but (grown_below (B1.out.trans (hb.out.mono hs0))) _) (grown_setCell wr ⟨g, 0, none⟩ _)
end Go.Proofs.Ytnnkcgbnhjkahaa
namespace Go.Proofs.Ytnnkcgbnhjkahaa
open Go.RowKit

theorem Try.infoKey : (Try.prog.info? 47).map (fun i => (i.zero, i.size, i.bytes)) = some (some (.agg #[.int .i64 0, .int .i64 0, .int .i64 0]), 3, 24) := by kernel_rfl

theorem grown_set9 (w : World) (b p : Nat) (v0 v1 v2 v3 v4 v5 v6 v7 v8 : Value) :
    w.grownBy (((((((((w.setCell ⟨b, p, none⟩ v0).setCell ⟨b, p + 1, none⟩ v1).setCell ⟨b, p + 2, none⟩ v2).setCell ⟨b, p + 3, none⟩ v3).setCell ⟨b, p + 4, none⟩ v4).setCell ⟨b, p + 5, none⟩ v5).setCell ⟨b, p + 6, none⟩ v6).setCell ⟨b, p + 7, none⟩ v7).setCell ⟨b, p + 8, none⟩ v8) (some b) :=
  grown_then (grown_then (grown_then (grown_then (grown_then (grown_then (grown_then (grown_then (grown_setCell w ⟨b, p, none⟩ v0) (grown_setCell _ ⟨b, p + 1, none⟩ v1)) (grown_setCell _ ⟨b, p + 2, none⟩ v2)) (grown_setCell _ ⟨b, p + 3, none⟩ v3)) (grown_setCell _ ⟨b, p + 4, none⟩ v4)) (grown_setCell _ ⟨b, p + 5, none⟩ v5)) (grown_setCell _ ⟨b, p + 6, none⟩ v6)) (grown_setCell _ ⟨b, p + 7, none⟩ v7)) (grown_setCell _ ⟨b, p + 8, none⟩ v8)
/-- An item, a tick on. -/
def tickR (r : Rc) : Rc := if r.h.age < 60 then { r with h := { r.h with age := r.h.age + 1 } } else r
/-- The keys of those that come to be 60. -/
def tickKeys (R : List Rc) : List Ky := (R.filter fun r => decide (r.h.age = 59)).map fun r => keyH r.h
end Go.Proofs.Ytnnkcgbnhjkahaa
namespace Go.Proofs.Ytnnkcgbnhjkahaa
open Go.RowKit

theorem refLsaBytes_any (h : Hd) (L : List Lk) (M : List Int) (A A' : Option Addr) (n c n' c' B m : Nat) (w : World) (hL : Lnk w B A n L) (hM : Row .i64 w B A' n' M) (hB : B ≤ w.heap.size) (hr : rightB h L M = true) (hm : (lsaBytes h L M).length = m) :
    Calls Try.prog 56 #[.agg #[.int .i64 h.age, .int .i64 h.kind, .int .i64 h.id, .int .i64 h.adv, .int .i64 h.seq, .int .i64 h.sum, .int .i64 h.long, .slice A n c, .slice A' n' c']] w (PutA w (lsaBytes h L M) m) := by
  obtain ⟨_, h2, _, _, _, h6, h7⟩ := right_facts hr
  by_cases hk : h.kind = 1
  · obtain ⟨e1, e2, _⟩ := h6 hk
    exact refLsaBytes_rt h L M A A' n c n' c' B m w hL hM.1 hB (by have := hL.1; omega) (by rw [← hM.1, e1]; rfl) (by simp [hk]) hm
  · obtain ⟨e1, e2⟩ := h7 (by omega)
    exact refLsaBytes_net h L M A A' n c n' c' B m w hL.1 hM hB (by rw [← hL.1, e1]; rfl) (by have := rise_len M 0 e2 (by omega); have := hM.1; omega) (by simp [hk]) hm
theorem below_grown0 {w w' : World} (h : w.grownBy w' none) : Below w.heap.size w w' := ⟨h.os, h.tape, h.output, h.size, fun k hk => h.block k hk (by simp)⟩
theorem Blk.put7 {w : World} {g : Nat} {t : TypeId} {a0 a1 a2 a3 a4 a5 a6 a7 a8 : Value} (h : Blk w g t #[a0, a1, a2, a3, a4, a5, a6, a7, a8]) (u : Value) : Blk (w.setCell ⟨g, 7, none⟩ u) g t #[a0, a1, a2, a3, a4, a5, a6, u, a8] := by
  have h9 := h.put 7 u
  simpa using h9
theorem Blk.put8 {w : World} {g : Nat} {t : TypeId} {a0 a1 a2 a3 a4 a5 a6 a7 a8 : Value} (h : Blk w g t #[a0, a1, a2, a3, a4, a5, a6, a7, a8]) (u : Value) : Blk (w.setCell ⟨g, 8, none⟩ u) g t #[a0, a1, a2, a3, a4, a5, a6, a7, u] := by
  have h9 := h.put 8 u
  simpa using h9
theorem Blk.put5 {w : World} {g : Nat} {t : TypeId} {a0 a1 a2 a3 a4 a5 a6 a7 a8 : Value} (h : Blk w g t #[a0, a1, a2, a3, a4, a5, a6, a7, a8]) (u : Value) : Blk (w.setCell ⟨g, 5, none⟩ u) g t #[a0, a1, a2, a3, a4, u, a6, a7, a8] := by
  have h9 := h.put 5 u
  simpa using h9
theorem Blk.put6 {w : World} {g : Nat} {t : TypeId} {a0 a1 a2 a3 a4 a5 a6 a7 a8 : Value} (h : Blk w g t #[a0, a1, a2, a3, a4, a5, a6, a7, a8]) (u : Value) : Blk (w.setCell ⟨g, 6, none⟩ u) g t #[a0, a1, a2, a3, a4, a5, u, a7, a8] := by
  have h9 := h.put 6 u
  simpa using h9
theorem sum_piece (h : Hd) (L : List Lk) (M : List Int) : ((lsaBytes h L M).drop 16).take 2 = sumBytes h L M := by
  obtain ⟨X, Y, _, _, _, _, h5, h6⟩ := fill_parts h L M
  have e : lsaBytes h L M = (enc h.age 2 ++ midBytes h) ++ (X :: Y :: (enc (20 + ((bodyBytes h L M).length : Int)) 2 ++ bodyBytes h L M)) := by
    unfold lsaBytes
    rw [raw_take, h6, List.append_assoc]
  have hl : (enc h.age 2 ++ midBytes h).length = 16 := by rw [List.length_append, enc_length, midBytes_length]
  rw [e, List.drop_left' hl, h5]
  rfl

set_option maxRecDepth 8000 in
set_option maxHeartbeats 8000000 in
theorem r7sealed_any (h : Hd) (L : List Lk) (M : List Int) (A A' : Option Addr) (n c n' c' B : Nat) (w : World) (hL : Lnk w B A n L) (hM : Row .i64 w B A' n' M) (hB : B ≤ w.heap.size) (hn : n ≤ 1000) (hn' : n' ≤ 1000) (hr : rightB h L M = true) :
    Calls Try.prog 37 #[.agg #[.int .i64 h.age, .int .i64 h.kind, .int .i64 h.id, .int .i64 h.adv, .int .i64 h.seq, .int .i64 h.sum, .int .i64 h.long, .slice A n c, .slice A' n' c']] w (SealOk w (sealHd h L M) L M) := by
  generalize hQ : SealOk w (sealHd h L M) L M = Q
  have HQ := Lib.hid hQ
  clear hQ
  have HL := Lib.hid hL
  have HM := Lib.hid hM
  have HR := Lib.hid hr
  clear hL hM hr
  have K0 := Lib.hid ((Blk.new w 62 #[.int .i64 h.age, .int .i64 h.kind, .int .i64 h.id, .int .i64 h.adv, .int .i64 h.seq, .int .i64 h.sum, .int .i64 h.long, .slice A n c, .slice A' n' c']).alloc (.cells #[.int .i64 0, .int .i64 0, .int .i64 0, .int .i64 0, .int .i64 0, .int .i64 0, .int .i64 0, .slice none 0 0, .slice none 0 0] 62))
  have K1 := Lib.hid (blk_new1 w (.cells #[.int .i64 h.age, .int .i64 h.kind, .int .i64 h.id, .int .i64 h.adv, .int .i64 h.seq, .int .i64 h.sum, .int .i64 h.long, .slice A n c, .slice A' n' c'] 62) 62 #[.int .i64 0, .int .i64 0, .int .i64 0, .int .i64 0, .int .i64 0, .int .i64 0, .int .i64 0, .slice none 0 0, .slice none 0 0])
  have B0 := Lib.hid (below_new2 w (.cells #[.int .i64 h.age, .int .i64 h.kind, .int .i64 h.id, .int .i64 h.adv, .int .i64 h.seq, .int .i64 h.sum, .int .i64 h.long, .slice A n c, .slice A' n' c'] 62) (.cells #[.int .i64 0, .int .i64 0, .int .i64 0, .int .i64 0, .int .i64 0, .int .i64 0, .int .i64 0, .slice none 0 0, .slice none 0 0] 62))
  go_enter Try.func37, Try.ntmps37
  go_upto_region 1 with fail
  generalize (w.alloc (.cells #[.int .i64 h.age, .int .i64 h.kind, .int .i64 h.id, .int .i64 h.adv, .int .i64 h.seq, .int .i64 h.sum, .int .i64 h.long, .slice A n c, .slice A' n' c'] 62)).alloc (.cells #[.int .i64 0, .int .i64 0, .int .i64 0, .int .i64 0, .int .i64 0, .int .i64 0, .int .i64 0, .slice none 0 0, .slice none 0 0] 62) = w0 at *
  have hs0 := B0.out.size
  have hl0 := K0.out.lt
  have hl1 := K1.out.lt
  obtain ⟨m, hm⟩ : ∃ m, (lsaBytes h L M).length = m := ⟨_, rfl⟩
  have HLN := Lib.hid hm
  have hm20 : 20 ≤ m := by
    have := lsaBytes_length h L M
    omega
  have HML := Lib.hid (show (m : Int) = (sealHd h L M).long by
    have h1 := lsaBytes_length h L M
    have h2 : (sealHd h L M).long = 20 + ((bodyBytes h L M).length : Int) := rfl
    omega)
  clear hm
  go_wp2_with (refine wpList_load_rc (r := ⟨h, ⟨A, n, c⟩, ⟨A', n', c'⟩⟩) (by rfl) (.tmp 1) rfl (by rfl) (rcAt_blk K0.out) ?_)
  refine (refLsaBytes_any h L M A A' n c n' c' B m _ (HL.out.below (B0.out.mono hB)) (HM.out.below (B0.out.mono hB)) (by omega) HR.out HLN.out).mono ?_
  rintro e1 w1 ⟨v1, rfl, ha1⟩
  obtain ⟨A1, c1, rfl, hc1, hm1, hr1⟩ := ha1.form
  have B1 := Lib.hid (B0.out.trans (ha1.2.mono hs0))
  have R1 := Lib.hid hr1
  have C1 := Lib.hid hm1
  have K01 := Lib.hid (K0.out.below ha1.2 hl0)
  have K11 := Lib.hid (K1.out.below ha1.2 hl1)
  have hs1 := B1.out.size
  have hl01 := K01.out.lt
  have hl11 := K11.out.lt
  clear ha1 hr1 hm1 K0 K1 B0
  obtain ⟨k0, k1, k2, k3, k4, k5, k6, k7, k8⟩ := K01.out.nine
  go_upto_region 3 with fail
  have KX := Lib.hid (Blk.new w1 62 #[.int .i64 h.age, .int .i64 h.kind, .int .i64 h.id, .int .i64 h.adv, .int .i64 h.seq, .int .i64 h.sum, .int .i64 h.long, .slice none 0 0, .slice none 0 0])
  have B2 := Lib.hid (B1.out.alloc hs1 (.cells #[.int .i64 h.age, .int .i64 h.kind, .int .i64 h.id, .int .i64 h.adv, .int .i64 h.seq, .int .i64 h.sum, .int .i64 h.long, .slice none 0 0, .slice none 0 0] 62))
  have K02 := Lib.hid (K01.out.alloc (.cells #[.int .i64 h.age, .int .i64 h.kind, .int .i64 h.id, .int .i64 h.adv, .int .i64 h.seq, .int .i64 h.sum, .int .i64 h.long, .slice none 0 0, .slice none 0 0] 62))
  have K12 := Lib.hid (K11.out.alloc (.cells #[.int .i64 h.age, .int .i64 h.kind, .int .i64 h.id, .int .i64 h.adv, .int .i64 h.seq, .int .i64 h.sum, .int .i64 h.long, .slice none 0 0, .slice none 0 0] 62))
  have R2 := Lib.hid (R1.out.alloc (Nat.le_refl _) (.cells #[.int .i64 h.age, .int .i64 h.kind, .int .i64 h.id, .int .i64 h.adv, .int .i64 h.seq, .int .i64 h.sum, .int .i64 h.long, .slice none 0 0, .slice none 0 0] 62))
  generalize hX : w1.heap.size = X at *
  generalize w1.alloc (.cells #[.int .i64 h.age, .int .i64 h.kind, .int .i64 h.id, .int .i64 h.adv, .int .i64 h.seq, .int .i64 h.sum, .int .i64 h.long, .slice none 0 0, .slice none 0 0] 62) = w2 at *
  have hlX := KX.out.lt
  have hs2 := B2.out.size
  have HB2 := Lib.hid (show B ≤ w2.heap.size by omega)
  have HL2 := Lib.hid (HL.out.below (B2.out.mono hB))
  have HM2 := Lib.hid (HM.out.below (B2.out.mono hB))
  clear k0 k1 k2 k3 k4 k5 k6 k7 k8 hX K01 K11 R1 B1
  obtain ⟨k0, k1, k2, k3, k4, k5, k6, k7, k8⟩ := K02.out.nine
  obtain ⟨x0, x1, x2, x3, x4, x5, x6, x7, x8⟩ := KX.out.nine
  have fx := KX.out.frozen 7
  go_upto_region 4 with (at_builtin; refine wpList_append_any rfl (.tmp 11) (.tmp 13) 59 96 (.agg #[.int .i64 0, .int .i64 0, .int .i64 0, .int .i64 0]) 4 32 Try.underlying59 Try.info53 rfl (by decide) (by decide) rfl w2.heap.size (.slice none 0 0) 0 [] (by rfl) (by exact World.ownsRow_nil _ _ _ _) A n c (lkCells L) (by rfl) (by rw [lkCells_length, HL.out.1]) HL2.out.cells.1 HL2.out.cells.2 (lkCells_ones L) (by omega) (Nat.le_refl _) ?_; intro v2 w3 ho2 hg2; obtain ⟨A2, c2, rfl⟩ := own_slice ho2.out; have KX3 := Lib.hid (show Blk w3 X 62 #[.int .i64 h.age, .int .i64 h.kind, .int .i64 h.id, .int .i64 h.adv, .int .i64 h.seq, .int .i64 h.sum, .int .i64 h.long, .slice none 0 0, .slice none 0 0] from (hg2.out.block X hlX (by simp [Value.ownBlock])).trans KX.out); have fx3 := KX3.out.frozen 7; obtain ⟨y0, y1, y2, y3, y4, y5, y6, y7, y8⟩ := KX3.out.nine)
  have HO4 := Lib.hid (show (w3.setCell ⟨X, 7, none⟩ (.slice A2 n c2)).ownsRow w2.heap.size 96 4 (.slice A2 n c2) n (lkCells L) by
    have h1 := ho2.out
    rw [Nat.zero_add, List.nil_append] at h1
    exact own_set h1 _ _ hlX)
  have KX4 := Lib.hid (show Blk (w3.setCell ⟨X, 7, none⟩ (.slice A2 n c2)) X 62 #[.int .i64 h.age, .int .i64 h.kind, .int .i64 h.id, .int .i64 h.adv, .int .i64 h.seq, .int .i64 h.sum, .int .i64 h.long, .slice A2 n c2, .slice none 0 0] from KX3.out.put7 _)
  have BX := Lib.hid (((below_grown0 hg2.out).mono (Nat.le_of_lt hlX)).setCell (p := ⟨X, 7, none⟩) (Nat.le_refl _) (.slice A2 n c2))
  have hs3 : w2.heap.size ≤ (w3.setCell ⟨X, 7, none⟩ (.slice A2 n c2)).heap.size := BX.out.size
  rw [Nat.zero_add] at *
  clear ho2 hg2 KX3 fx3 y0 y1 y2 y3 y4 y5 y6 y7 y8 x0 x1 x2 x3 x4 x5 x6 x7 x8 fx k0 k1 k2 k3 k4 k5 k6 k7 k8 KX
  generalize w3.setCell ⟨X, 7, none⟩ (.slice A2 n c2) = w4 at *
  have K04 := Lib.hid (K02.out.below BX.out hl01)
  have K14 := Lib.hid (K12.out.below BX.out hl11)
  have R4 := Lib.hid (R2.out.below BX.out)
  have HM4 := Lib.hid (HM2.out.below (BX.out.mono (by omega)))
  have B4 := Lib.hid (B2.out.trans (BX.out.mono (by omega)))
  have hlX4 := KX4.out.lt
  clear K02 K12 R2 HL2 HM2 B2 BX
  obtain ⟨k0, k1, k2, k3, k4, k5, k6, k7, k8⟩ := K04.out.nine
  obtain ⟨x0, x1, x2, x3, x4, x5, x6, x7, x8⟩ := KX4.out.nine
  have fx := KX4.out.frozen 8
  go_upto_region 5 with (at_builtin; refine wpList_append_any rfl (.tmp 17) (.tmp 19) 60 3 (.int .i64 0) 1 8 Try.underlying60 Try.info3 rfl (by decide) (by decide) rfl w4.heap.size (.slice none 0 0) 0 [] (by rfl) (by exact World.ownsRow_nil _ _ _ _) A' n' c' (M.map (Value.int .i64)) (by rfl) (by rw [List.length_map, HM.out.1, Nat.mul_one]) HM4.out.cells.1 HM4.out.cells.2 (oneCell_ints _ _) (by omega) (Nat.le_refl _) ?_; intro v3 w5 ho3 hg3; obtain ⟨A3, c3, rfl⟩ := own_slice ho3.out; have KX5 := Lib.hid (show Blk w5 X 62 #[.int .i64 h.age, .int .i64 h.kind, .int .i64 h.id, .int .i64 h.adv, .int .i64 h.seq, .int .i64 h.sum, .int .i64 h.long, .slice A2 n c2, .slice none 0 0] from (hg3.out.block X hlX4 (by simp [Value.ownBlock])).trans KX4.out); have fx3 := KX5.out.frozen 8; obtain ⟨y0, y1, y2, y3, y4, y5, y6, y7, y8⟩ := KX5.out.nine)
  have HO6 := Lib.hid (show (w5.setCell ⟨X, 8, none⟩ (.slice A3 n' c3)).ownsRow w4.heap.size 3 1 (.slice A3 n' c3) n' (M.map (Value.int .i64)) by
    have h1 := ho3.out
    rw [Nat.zero_add, List.nil_append] at h1
    exact own_set h1 _ _ hlX4)
  have HOL6 := Lib.hid (show (w5.setCell ⟨X, 8, none⟩ (.slice A3 n' c3)).ownsRow w2.heap.size 96 4 (.slice A2 n c2) n (lkCells L) from own_set (HO4.out.kept hg3.out (by cases hb : (Value.slice A2 n c2).ownBlock <;> simp [Value.ownBlock])) _ _ hlX)
  have KX6 := Lib.hid (show Blk (w5.setCell ⟨X, 8, none⟩ (.slice A3 n' c3)) X 62 #[.int .i64 h.age, .int .i64 h.kind, .int .i64 h.id, .int .i64 h.adv, .int .i64 h.seq, .int .i64 h.sum, .int .i64 h.long, .slice A2 n c2, .slice A3 n' c3] from KX5.out.put8 _)
  have BX := Lib.hid (((below_grown0 hg3.out).mono (Nat.le_of_lt hlX4)).setCell (p := ⟨X, 8, none⟩) (Nat.le_refl _) (.slice A3 n' c3))
  have hs5 : w4.heap.size ≤ (w5.setCell ⟨X, 8, none⟩ (.slice A3 n' c3)).heap.size := BX.out.size
  rw [Nat.zero_add] at *
  clear ho3 hg3 KX5 fx3 y0 y1 y2 y3 y4 y5 y6 y7 y8 x0 x1 x2 x3 x4 x5 x6 x7 x8 fx k0 k1 k2 k3 k4 k5 k6 k7 k8 KX4 HO4
  generalize w5.setCell ⟨X, 8, none⟩ (.slice A3 n' c3) = w6 at *
  have K16 := Lib.hid (K14.out.below BX.out hl11)
  have R6 := Lib.hid (R4.out.below BX.out)
  have B6 := Lib.hid (B4.out.trans (BX.out.mono (by omega)))
  have hlX6 := KX6.out.lt
  clear K04 K14 R4 HM4 B4 BX
  obtain ⟨b1, o1, rfl, hb1, hc1'⟩ := R6.out.2 (by omega)
  have HC1 := Lib.hid hc1'
  clear hc1'
  have R7 := Lib.hid (cut_some (some ⟨b1, o1, none⟩) m 16 2 (by omega) .u8 w6 X _ R6.out)
  obtain ⟨x0, x1, x2, x3, x4, x5, x6, x7, x8⟩ := KX6.out.nine
  have fx5 := KX6.out.frozen 5
  have fx6 := KX6.out.frozen 6
  have hcm := C1.out
  unfold maxLen at hcm
  obtain ⟨sm, hsm⟩ : ∃ sm, lsaSum h L M = sm := ⟨_, rfl⟩
  have HSM := Lib.hid hsm
  have HNS := Lib.hid (show num (((lsaBytes h L M).drop 16).take 2) = sm by rw [sum_piece, ← hsm]; rfl)
  clear hsm
  go_wp2_with fail
  refine (number_any (some ⟨b1, o1 + 16, none⟩) 2 (c1 - 16) X _ _ (by have h7 := R7.out; simpa [addr_add] using h7) (((lsaBytes_byt h L M).drop 16).take 2) (by omega)).mono ?_
  rintro e7 w7 ⟨rfl, rfl⟩
  rw [HNS.out]
  go_upto_region 7 with fail
  have KX8 := Lib.hid (show Blk ((w6.setCell ⟨X, 5, none⟩ (.int .i64 sm)).setCell ⟨X, 6, none⟩ (.int .i64 m)) X 62 #[.int .i64 h.age, .int .i64 h.kind, .int .i64 h.id, .int .i64 h.adv, .int .i64 h.seq, .int .i64 sm, .int .i64 m, .slice A2 n c2, .slice A3 n' c3] from (KX6.out.put5 _).put6 _)
  have BX := Lib.hid (((Below.refl X w6).setCell (p := ⟨X, 5, none⟩) (Nat.le_refl _) (.int .i64 sm)).setCell (p := ⟨X, 6, none⟩) (Nat.le_refl _) (.int .i64 m))
  have HOL8 := Lib.hid (own_set (own_set HOL6.out ⟨X, 5, none⟩ (.int .i64 sm) hlX) ⟨X, 6, none⟩ (.int .i64 m) hlX)
  have HO8 := Lib.hid (own_set (own_set HO6.out ⟨X, 5, none⟩ (.int .i64 sm) hlX4) ⟨X, 6, none⟩ (.int .i64 m) hlX4)
  have hs8 : w6.heap.size ≤ ((w6.setCell ⟨X, 5, none⟩ (.int .i64 sm)).setCell ⟨X, 6, none⟩ (.int .i64 m)).heap.size := BX.out.size
  clear x0 x1 x2 x3 x4 x5 x6 x7 x8 fx5 fx6 R7 HC1 KX6
  generalize (w6.setCell ⟨X, 5, none⟩ (.int .i64 sm)).setCell ⟨X, 6, none⟩ (.int .i64 m) = w8 at *
  have K18 := Lib.hid (K16.out.below BX.out hl11)
  have B8 := Lib.hid (B6.out.trans (BX.out.mono (by omega)))
  obtain ⟨z0, z1, z2, z3, z4, z5, z6, z7, z8⟩ := K18.out.nine
  have f0 := K18.out.frozen 0
  have f1 := K18.out.frozen 1
  have f2 := K18.out.frozen 2
  have f3 := K18.out.frozen 3
  have f4 := K18.out.frozen 4
  have f5 := K18.out.frozen 5
  have f6 := K18.out.frozen 6
  have f7 := K18.out.frozen 7
  have f8 := K18.out.frozen 8
  go_wp2_with (refine wpList_load_rc (r := ⟨⟨h.age, h.kind, h.id, h.adv, h.seq, sm, m⟩, ⟨A2, n, c2⟩, ⟨A3, n', c3⟩⟩) (by rfl) (.tmp 4) rfl (by rfl) (rcAt_blk KX8.out) ?_)
  refine bodyPost_ret (v := .agg #[.int .i64 h.age, .int .i64 h.kind, .int .i64 h.id, .int .i64 h.adv, .int .i64 h.seq, .int .i64 sm, .int .i64 m, .slice A2 n c2, .slice A3 n' c3]) (by simp [results, Try.results37, go_sem, *]) rfl ?_
  have h9 : w8.grownBy (((((((((w8.setCell ⟨w.heap.size + 1, 0, none⟩ (.int .i64 h.age)).setCell ⟨w.heap.size + 1, 1, none⟩ (.int .i64 h.kind)).setCell ⟨w.heap.size + 1, 2, none⟩ (.int .i64 h.id)).setCell ⟨w.heap.size + 1, 3, none⟩ (.int .i64 h.adv)).setCell ⟨w.heap.size + 1, 4, none⟩ (.int .i64 h.seq)).setCell ⟨w.heap.size + 1, 5, none⟩ (.int .i64 sm)).setCell ⟨w.heap.size + 1, 6, none⟩ (.int .i64 m)).setCell ⟨w.heap.size + 1, 7, none⟩ (.slice A2 n c2)).setCell ⟨w.heap.size + 1, 8, none⟩ (.slice A3 n' c3)) (some (w.heap.size + 1)) := grown_set9 w8 (w.heap.size + 1) 0 (.int .i64 h.age) (.int .i64 h.kind) (.int .i64 h.id) (.int .i64 h.adv) (.int .i64 h.seq) (.int .i64 sm) (.int .i64 m) (.slice A2 n c2) (.slice A3 n' c3)
  have H9 := Lib.hid h9
  clear h9
  generalize (((((((((w8.setCell ⟨w.heap.size + 1, 0, none⟩ (.int .i64 h.age)).setCell ⟨w.heap.size + 1, 1, none⟩ (.int .i64 h.kind)).setCell ⟨w.heap.size + 1, 2, none⟩ (.int .i64 h.id)).setCell ⟨w.heap.size + 1, 3, none⟩ (.int .i64 h.adv)).setCell ⟨w.heap.size + 1, 4, none⟩ (.int .i64 h.seq)).setCell ⟨w.heap.size + 1, 5, none⟩ (.int .i64 sm)).setCell ⟨w.heap.size + 1, 6, none⟩ (.int .i64 m)).setCell ⟨w.heap.size + 1, 7, none⟩ (.slice A2 n c2)).setCell ⟨w.heap.size + 1, 8, none⟩ (.slice A3 n' c3)) = w9 at *
  rw [← HQ.out]
  refine ⟨A2, n, c2, A3, n', c3, by rw [HML.out, ← HSM.out]; rfl, own_low (HOL8.out.kept H9.out (.inr (own_not HOL8.out (.inl (by omega))))) (by omega), HL.out.1, own_low (HO8.out.kept H9.out (.inr (own_not HO8.out (.inl (by omega))))) (by omega), HM.out.1, B8.out.grown H9.out (by omega) (fun k hk => by injection hk with hk; omega)⟩
end Go.Proofs.Ytnnkcgbnhjkahaa
