/- The calls fresh of package lsa: a list's items in memory of their own. Conditions: at most 50 items. · Plain facts: what is put is got. No program, no conditions. -/
import Derived.Test.YtnnkcgbnhjkahaaJag
namespace Go.Proofs.Ytnnkcgbnhjkahaa
open Go.RowKit

/-- append of whatever slice, nil let in, to a row of the call's own. -/
theorem run_append_any (w : World) (t e ty : TypeId) (z : Value) (size bytes : Nat) (ht : Try.prog.underlying t = some (.slice e)) (hinfo : (Try.prog.info? e).map (fun i => (i.zero, i.size, i.bytes)) = some (some z, size, bytes)) (hzs : z.cells.size = size) (hsz : 0 < size) (hby : bytes ≤ 1024)
    (base : Nat) (v : Value) (n : Nat) (xs : List Value) (hown : w.ownsRow base e size v n xs) (A : Option Addr) (m c : Nat) (news : List Value) (hl : news.length = m * size) (hA : A = none → m = 0)
    (hnews : ∀ ad, A = some ad → ∀ j u, news[j]? = some u → w.cell? (ad.add j) = some u) (h1 : ∀ u ∈ news, u.oneCell' = true) (hz : n + m ≤ 1048576) (hbase : base ≤ w.heap.size) :
    ∃ v' w', (Builtin.append_ #[t, t] ty #[v, .slice A m c]).run Try.prog w = .ok v' w' ∧ w'.ownsRow base e size v' (n + m) (xs ++ news) ∧ w.grownBy w' v.ownBlock := by
  obtain ⟨i0, hi, hz0, hz1, hz2⟩ := info_parts hinfo
  cases A with
  | none =>
    have hm := hA rfl
    subst hm
    have hl0 : news = [] := List.eq_nil_of_length_eq_zero (by omega)
    subst hl0
    refine ⟨v, w, ?_, by simpa using hown, ⟨rfl, rfl, rfl, Nat.le_refl _, fun _ _ _ => rfl⟩⟩
    rcases hown.2 with ⟨rfl, rfl⟩ | ⟨g, cap, cur, rfl, _, _, hnc, _⟩
    · simp [Builtin.append_, run_underlying ht, sizeOf, typeInfo, hi, Builtin.lenOf, Builtin.firstCells]
    · simp [Builtin.append_, run_underlying ht, sizeOf, typeInfo, hi, Builtin.lenOf, Builtin.firstCells, hnc, storeCells]
  | some ad =>
    have hb : (n + m) * bytes ≤ 1048576 * 1024 := Nat.mul_le_mul hz hby
    obtain ⟨v', w', h1, h2, h3, _, h5⟩ := run_append_own_at (P := Try.prog) w base t ty e i0 z size bytes ht hi hz0 hz1 hz2 hzs hsz v n xs hown ad m c news hl (hnews ad rfl) h1 (by unfold maxLen; omega) (by omega) hbase
    exact ⟨v', w', h1, h2, h3⟩
theorem wpList_append_any {w : World} {ops : Array Oper} {rest : List Oper} {o : Oper} {a : Act} {Q : Exit → Act → World → Prop} (hgd : o.guard = none) (s x : Operand) (t e : TypeId) (z : Value) (size bytes : Nat)
    (ht : Try.prog.underlying t = some (.slice e)) (hinfo : (Try.prog.info? e).map (fun i => (i.zero, i.size, i.bytes)) = some (some z, size, bytes)) (hzs : z.cells.size = size) (hsz : 0 < size) (hby : bytes ≤ 1024)
    (ho : o.op = .call { callee := .builtin .append, args := #[s, x], argTypes := #[t, t] }) (base : Nat) (v : Value) (n : Nat) (xs : List Value) (hs : a.eval s = v) (hown : w.ownsRow base e size v n xs)
    (A : Option Addr) (m c : Nat) (news : List Value) (hx : a.eval x = .slice A m c) (hl : news.length = m * size) (hA : A = none → m = 0)
    (hnews : ∀ ad, A = some ad → ∀ j u, news[j]? = some u → w.cell? (ad.add j) = some u) (h1 : ∀ u ∈ news, u.oneCell' = true) (hz : n + m ≤ 1048576) (hbase : base ≤ w.heap.size)
    (h : ∀ v' w', Hid (w'.ownsRow base e size v' (n + m) (xs ++ news)) → Hid (w.grownBy w' v.ownBlock) → wpList Try.prog ops Q rest (a.put o.dst v') w') : wpList Try.prog ops Q (o :: rest) a w := by
  refine wpList_plain hgd fun K hK => ?_
  obtain ⟨v', w', hrun, h2, h3⟩ := run_append_any w t e o.type z size bytes ht hinfo hzs hsz hby base v n xs hown A m c news hl hA hnews h1 hz hbase
  unfold Oper.wp execOp
  simp only [ho, resolve, invoke, builtin, Sem.run_bind, Sem.run_pure, Result.andThen_ok, List.map_toArray, List.map_cons, List.map_nil, hs, hx, hrun]
  exact hK _ _ (h v' w' h2 h3)

theorem addr_add (b o j : Nat) : (⟨b, o, none⟩ : Addr).add j = ⟨b, o + j, none⟩ := by
  unfold Addr.add
  split <;> simp_all
theorem lkCells_length (L : List Lk) : (lkCells L).length = L.length * 4 := by
  induction L with
  | nil => rfl
  | cons x l ih => simp [lkCells, ih]; omega
theorem lkCells_ones (L : List Lk) : ∀ u ∈ lkCells L, u.oneCell' = true := by
  induction L with
  | nil => intro u hu; cases hu
  | cons x l ih =>
    intro u hu
    simp only [lkCells, List.mem_cons] at hu
    rcases hu with rfl | rfl | rfl | rfl | hu
    · rfl
    · rfl
    · rfl
    · rfl
    · exact ih u hu
/-- The cells of links that a slice leads to. -/
theorem Lnk.cells {w : World} {B n : Nat} {A : Option Addr} {L : List Lk} (h : Lnk w B A n L) : (A = none → n = 0) ∧ ∀ ad, A = some ad → ∀ j u, (lkCells L)[j]? = some u → w.cell? (ad.add j) = some u := by
  constructor
  · intro e
    rcases Nat.eq_zero_or_pos n with h0 | h0
    · exact h0
    · obtain ⟨_, _, e2, _⟩ := h.2 h0
      rw [e] at e2
      cases e2
  · intro ad e j u hu
    have hj : j < L.length * 4 := by
      rcases Nat.lt_or_ge j (L.length * 4) with hj | hj
      · exact hj
      · rw [List.getElem?_eq_none (by rw [lkCells_length]; exact hj)] at hu
        cases hu
    have hn := h.1
    obtain ⟨b, o, e2, _, hc⟩ := h.2 (by omega)
    rw [e] at e2
    injection e2 with e2
    subst e2
    obtain ⟨c0, c1, c2, c3⟩ := hc (j / 4) (by omega)
    obtain ⟨d0, d1, d2, d3⟩ := lkCells_get L (j / 4) (by omega)
    rw [addr_add]
    have hm : j % 4 = 0 ∨ j % 4 = 1 ∨ j % 4 = 2 ∨ j % 4 = 3 := by omega
    have ej := Nat.div_add_mod j 4
    rcases hm with hm | hm | hm | hm
    · have e3 : j = j / 4 * 4 := by omega
      rw [e3] at hu ⊢
      rw [d0] at hu
      injection hu with hu
      subst hu
      exact c0
    · have e3 : j = j / 4 * 4 + 1 := by omega
      rw [e3] at hu ⊢
      rw [d1] at hu
      injection hu with hu
      subst hu
      exact c1
    · have e3 : j = j / 4 * 4 + 2 := by omega
      rw [e3] at hu ⊢
      rw [d2] at hu
      injection hu with hu
      subst hu
      exact c2
    · have e3 : j = j / 4 * 4 + 3 := by omega
      rw [e3] at hu ⊢
      rw [d3] at hu
      injection hu with hu
      subst hu
      exact c3
theorem Row.cells {k : IntKind} {w : World} {B n : Nat} {A : Option Addr} {l : List Int} (h : Row k w B A n l) : (A = none → n = 0) ∧ ∀ ad, A = some ad → ∀ j u, (l.map (Value.int k))[j]? = some u → w.cell? (ad.add j) = some u := by
  constructor
  · intro e
    rcases Nat.eq_zero_or_pos n with h0 | h0
    · exact h0
    · obtain ⟨_, _, e2, _⟩ := h.2 h0
      rw [e] at e2
      cases e2
  · intro ad e j u hu
    rw [List.getElem?_map] at hu
    have hl := h.1
    have hj : j < n := by
      rcases Nat.lt_or_ge j n with hj | hj
      · exact hj
      · rw [List.getElem?_eq_none (by omega)] at hu; cases hu
    obtain ⟨b, o, e2, _, hc⟩ := h.2 (by omega)
    rw [e] at e2
    injection e2 with e2
    subst e2
    have h1 := hc j hj
    rw [List.getD_eq_getElem?_getD] at h1
    rw [List.getElem?_eq_getElem (by omega)] at hu h1
    simp at hu h1
    subst hu
    rw [addr_add]
    exact h1

/-- A row of the call's own is answered. -/
def FreshOk (w : World) (e : TypeId) (size n : Nat) (xs : List Value) (x : Ending) (w' : World) : Prop := ∃ v, x = .returned v ∧ w'.ownsRow w.heap.size e size v n xs ∧ Below w.heap.size w w'

set_option maxRecDepth 4000 in
set_option maxHeartbeats 2000000 in
theorem freshL_any (A : Option Addr) (n c B : Nat) (L : List Lk) (w : World) (h : Lnk w B A n L) (hn : n ≤ 1048576) : Calls Try.prog 67 #[.slice A n c] w (FreshOk w 96 4 n (lkCells L)) := by
  generalize hQ : FreshOk w 96 4 n (lkCells L) = Q
  have HQ := Lib.hid hQ
  have HL := Lib.hid h
  clear hQ h
  go_enter Try.func67, Try.ntmps67
  go_wp2_with (at_builtin; refine wpList_append_any rfl (.const (.slice none 0 0)) (.tmp 3) 59 96 (.agg #[.int .i64 0, .int .i64 0, .int .i64 0, .int .i64 0]) 4 32 Try.underlying59 Try.info53 rfl (by decide) (by decide) rfl w.heap.size (.slice none 0 0) 0 [] (by rfl) (by exact World.ownsRow_nil _ _ _ _) A n c (lkCells L) (by rfl) (by rw [lkCells_length, HL.out.1]) HL.out.cells.1 HL.out.cells.2 (lkCells_ones L) (by omega) (Nat.le_refl _) ?_; intro v2 w2 ho2 hg2)
  rw [← HQ.out]
  refine ⟨_, rfl, ?_, (Below.refl _ _).grown hg2.out (Nat.le_refl _) (fun k hk => by cases hk)⟩
  have h1 := ho2.out
  rw [Nat.zero_add, List.nil_append] at h1
  exact h1
set_option maxRecDepth 4000 in
set_option maxHeartbeats 2000000 in
theorem freshI_any (A : Option Addr) (n c B : Nat) (M : List Int) (w : World) (h : Row .i64 w B A n M) (hn : n ≤ 1048576) : Calls Try.prog 68 #[.slice A n c] w (FreshOk w 3 1 n (M.map (Value.int .i64))) := by
  generalize hQ : FreshOk w 3 1 n (M.map (Value.int .i64)) = Q
  have HQ := Lib.hid hQ
  have HL := Lib.hid h
  clear hQ h
  go_enter Try.func68, Try.ntmps68
  go_wp2_with (at_builtin; refine wpList_append_any rfl (.const (.slice none 0 0)) (.tmp 3) 60 3 (.int .i64 0) 1 8 Try.underlying60 Try.info3 rfl (by decide) (by decide) rfl w.heap.size (.slice none 0 0) 0 [] (by rfl) (by exact World.ownsRow_nil _ _ _ _) A n c (M.map (Value.int .i64)) (by rfl) (by rw [List.length_map, HL.out.1, Nat.mul_one]) HL.out.cells.1 HL.out.cells.2 (oneCell_ints _ _) (by omega) (Nat.le_refl _) ?_; intro v2 w2 ho2 hg2)
  rw [← HQ.out]
  refine ⟨_, rfl, ?_, (Below.refl _ _).grown hg2.out (Nat.le_refl _) (fun k hk => by cases hk)⟩
  have h1 := ho2.out
  rw [Nat.zero_add, List.nil_append] at h1
  exact h1
end Go.Proofs.Ytnnkcgbnhjkahaa
namespace Go.Proofs.Ytnnkcgbnhjkahaa

/-- The word at a place, out of three pieces. -/
theorem wordAt_mid (l a b c : List Int) (p w : Nat) (hl : l = a ++ (b ++ c)) (ha : a.length = p) (hb : b.length = w) : wordAt l p w = num b := by
  subst hl
  unfold wordAt
  rw [List.drop_left' ha, List.take_left' hb]
/-- A head out of its pieces. -/
theorem head_pieces (p0 p1 p2 p3 p4 p5 p6 p7 r : List Int) (h0 : p0.length = 2) (h1 : p1.length = 1) (h2 : p2.length = 1) (h3 : p3.length = 4) (h4 : p4.length = 4) (h5 : p5.length = 4) (h6 : p6.length = 2) (h7 : p7.length = 2) :
    headOf (p0 ++ (p1 ++ (p2 ++ (p3 ++ (p4 ++ (p5 ++ (p6 ++ (p7 ++ r)))))))) = ⟨num p0, num p2, num p3, num p4, sgn (num p5), num p6, num p7⟩ ∧ wordAt (p0 ++ (p1 ++ (p2 ++ (p3 ++ (p4 ++ (p5 ++ (p6 ++ (p7 ++ r)))))))) 2 1 = num p1 := by
  constructor
  · unfold headOf
    rw [wordAt_mid _ [] p0 (p1 ++ (p2 ++ (p3 ++ (p4 ++ (p5 ++ (p6 ++ (p7 ++ r))))))) 0 2 (by simp) rfl h0,
      wordAt_mid _ (p0 ++ p1) p2 (p3 ++ (p4 ++ (p5 ++ (p6 ++ (p7 ++ r))))) 3 1 (by simp) (by simp [h0, h1]) h2,
      wordAt_mid _ (p0 ++ (p1 ++ p2)) p3 (p4 ++ (p5 ++ (p6 ++ (p7 ++ r)))) 4 4 (by simp) (by simp [h0, h1, h2]) h3,
      wordAt_mid _ (p0 ++ (p1 ++ (p2 ++ p3))) p4 (p5 ++ (p6 ++ (p7 ++ r))) 8 4 (by simp) (by simp [h0, h1, h2, h3]) h4,
      wordAt_mid _ (p0 ++ (p1 ++ (p2 ++ (p3 ++ p4)))) p5 (p6 ++ (p7 ++ r)) 12 4 (by simp) (by simp [h0, h1, h2, h3, h4]) h5,
      wordAt_mid _ (p0 ++ (p1 ++ (p2 ++ (p3 ++ (p4 ++ p5))))) p6 (p7 ++ r) 16 2 (by simp) (by simp [h0, h1, h2, h3, h4, h5]) h6,
      wordAt_mid _ (p0 ++ (p1 ++ (p2 ++ (p3 ++ (p4 ++ (p5 ++ p6)))))) p7 r 18 2 (by simp) (by simp [h0, h1, h2, h3, h4, h5, h6]) h7]
  · exact wordAt_mid _ p0 p1 _ 2 1 rfl h0 h1
/-- The two bytes of a description's sum. -/
def sumBytes (h : Hd) (L : List Lk) (M : List Int) : List Int := ((ffill ((rawBytes h L M 0).drop 2) 14).drop 14).take 2
theorem fill_parts (h : Hd) (L : List Lk) (M : List Int) : ∃ X Y, 0 ≤ X ∧ X ≤ 254 ∧ 0 ≤ Y ∧ Y ≤ 254 ∧ sumBytes h L M = [X, Y] ∧ ffill ((rawBytes h L M 0).drop 2) 14 = midBytes h ++ (X :: Y :: (enc (20 + ((bodyBytes h L M).length : Int)) 2 ++ bodyBytes h L M)) := by
  have e : ∃ X Y, 0 ≤ X ∧ X ≤ 254 ∧ 0 ≤ Y ∧ Y ≤ 254 ∧ ffill ((rawBytes h L M 0).drop 2) 14 = midBytes h ++ (X :: Y :: (enc (20 + ((bodyBytes h L M).length : Int)) 2 ++ bodyBytes h L M)) := by
    rw [raw_drop, enc_two]
    unfold ffill
    exact ⟨_, _, (lackX_bd _ _ _).1, (lackX_bd _ _ _).2, (lackY_bd _ _).1, (lackY_bd _ _).2, put2_mid (midBytes h) _ _ _ _ _ 14 (midBytes_length h)⟩
  obtain ⟨X, Y, h1, h2, h3, h4, h5⟩ := e
  refine ⟨X, Y, h1, h2, h3, h4, ?_, h5⟩
  unfold sumBytes
  rw [h5, List.drop_left' (midBytes_length h)]
  rfl
/-- A description's sum. -/
def lsaSum (h : Hd) (L : List Lk) (M : List Int) : Int := num (sumBytes h L M)
theorem lsaBytes_parts (h : Hd) (L : List Lk) (M : List Int) : lsaBytes h L M = enc h.age 2 ++ (enc 0 1 ++ (enc h.kind 1 ++ (enc h.id 4 ++ (enc h.adv 4 ++ (enc h.seq 4 ++ (sumBytes h L M ++ (enc (20 + ((bodyBytes h L M).length : Int)) 2 ++ bodyBytes h L M))))))) := by
  obtain ⟨X, Y, _, _, _, _, h5, h6⟩ := fill_parts h L M
  unfold lsaBytes
  rw [raw_take, h6, h5]
  simp [midBytes]
theorem sumBytes_length (h : Hd) (L : List Lk) (M : List Int) : (sumBytes h L M).length = 2 := by
  obtain ⟨X, Y, _, _, _, _, h5, _⟩ := fill_parts h L M
  rw [h5]; rfl
/-- The head, sealed. -/
def sealHd (h : Hd) (L : List Lk) (M : List Int) : Hd := { h with sum := lsaSum h L M, long := 20 + ((bodyBytes h L M).length : Int) }

theorem right_facts {h : Hd} {L : List Lk} {M : List Int} (hr : rightB h L M = true) : (0 ≤ h.age ∧ h.age ≤ 60) ∧ (1 ≤ h.kind ∧ h.kind ≤ 2) ∧ (1 ≤ h.adv ∧ h.adv ≤ 15) ∧ (-2147483647 ≤ h.seq ∧ h.seq ≤ 2147483647) ∧ (0 ≤ h.id ∧ h.id ≤ 63) ∧ (h.kind = 1 → M = [] ∧ L.length ≤ 4 ∧ L.all linkB = true) ∧ (h.kind = 2 → L = [] ∧ riseB 0 M = true) := by
  unfold rightB headB at hr
  simp only [Bool.and_eq_true, inB_iff] at hr
  obtain ⟨⟨h1, h2, h3, h4⟩, h5⟩ := hr
  by_cases hk : h.kind = 1
  · rw [if_pos hk] at h5
    unfold routerB at h5
    simp only [Bool.and_eq_true, decide_eq_true_iff] at h5
    exact ⟨h1, h2, h3, h4, by omega, fun _ => ⟨List.eq_nil_of_length_eq_zero h5.2.1, h5.2.2.1, h5.2.2.2⟩, fun e => by omega⟩
  · rw [if_neg hk] at h5
    unfold networkB at h5
    simp only [Bool.and_eq_true, decide_eq_true_iff, inB_iff] at h5
    exact ⟨h1, h2, h3, h4, h5.1, fun e => absurd e hk, fun _ => ⟨List.eq_nil_of_length_eq_zero h5.2.1, h5.2.2.2⟩⟩
theorem rise_len : ∀ (M : List Int) (a : Int), riseB a M = true → a ≤ 15 → (M.length : Int) ≤ 15 - a
  | [], _, _, _ => by simp; omega
  | m :: M, a, h, ha => by
    simp only [riseB, Bool.and_eq_true, inB_iff] at h
    have := rise_len M m h.2 h.1.2
    simp only [List.length_cons]
    omega
theorem body_small {h : Hd} {L : List Lk} {M : List Int} (hr : rightB h L M = true) : (bodyBytes h L M).length ≤ 60 := by
  obtain ⟨_, h2, _, _, _, h6, h7⟩ := right_facts hr
  unfold bodyBytes
  split
  · rename_i hk
    have := h6 hk
    rw [List.length_append, enc_length, linksBytes_length]
    omega
  · rename_i hk
    have h8 := h7 (by omega)
    have := rise_len M 0 h8.2 (by omega)
    rw [encs_length]
    omega

/-- The head of a right description's bytes, whatever stands behind. -/
theorem headOf_put {h : Hd} {L : List Lk} {M : List Int} (hr : rightB h L M = true) (more : List Int) : headOf (lsaBytes h L M ++ more) = sealHd h L M ∧ (lsaBytes h L M ++ more).getD 2 0 = 0 := by
  obtain ⟨h1, h2, h3, h4, h5, _, _⟩ := right_facts hr
  have hb := body_small hr
  have hp := head_pieces (enc h.age 2) (enc 0 1) (enc h.kind 1) (enc h.id 4) (enc h.adv 4) (enc h.seq 4) (sumBytes h L M) (enc (20 + ((bodyBytes h L M).length : Int)) 2) (bodyBytes h L M ++ more) (enc_length _ _) (enc_length _ _) (enc_length _ _) (enc_length _ _) (enc_length _ _) (enc_length _ _) (sumBytes_length h L M) (enc_length _ _)
  have e : lsaBytes h L M ++ more = enc h.age 2 ++ (enc 0 1 ++ (enc h.kind 1 ++ (enc h.id 4 ++ (enc h.adv 4 ++ (enc h.seq 4 ++ (sumBytes h L M ++ (enc (20 + ((bodyBytes h L M).length : Int)) 2 ++ (bodyBytes h L M ++ more)))))))) := by
    rw [lsaBytes_parts]
    simp
  rw [← e] at hp
  have hlen := lsaBytes_length h L M
  rw [wordAt_one _ 2 (by rw [List.length_append]; omega)] at hp
  rw [hp.1, hp.2]
  refine ⟨?_, by rw [num_enc 0 1 (by omega) (by omega)]; rfl⟩
  unfold sealHd lsaSum
  rw [num_enc _ 2 (by omega) (by omega), num_enc _ 1 (by omega) (by omega), num_enc _ 4 (by omega) (by omega), num_enc _ 4 (by omega) (by omega), num_enc _ 4 (by omega) (by omega), num_enc _ 2 (by omega) (by omega)]
  have e0 : h.age % 256 ^ 2 = h.age := by omega
  have e1 : h.kind % 256 ^ 1 = h.kind := by omega
  have e2 : h.id % 256 ^ 4 = h.id := by omega
  have e3 : h.adv % 256 ^ 4 = h.adv := by omega
  have e4 : sgn (h.seq % 256 ^ 4) = h.seq := by
    unfold sgn
    split <;> omega
  have e5 : (20 + ((bodyBytes h L M).length : Int)) % 256 ^ 2 = 20 + ((bodyBytes h L M).length : Int) := by omega
  rw [e0, e1, e2, e3, e4, e5]
theorem okHead_put {h : Hd} {L : List Lk} {M : List Int} (hr : rightB h L M = true) (more : List Int) : okHead (lsaBytes h L M ++ more) = true := by
  obtain ⟨h1, h2⟩ := headOf_put hr more
  unfold okHead
  rw [h1, h2]
  have h3 : headB h = true := by
    unfold rightB at hr
    rw [Bool.and_eq_true] at hr
    exact hr.1
  have h4 : headB (sealHd h L M) = headB h := rfl
  rw [h4, h3]
  rfl
end Go.Proofs.Ytnnkcgbnhjkahaa
