/- Keys in memory, and what the method want of packet's reader leaves. No conditions. · Plain facts: descriptions in a row, and each kind's part of a packet: what is told is put as the very bytes, what is put is told. No program, no conditions. -/
import Derived.Test.YtekhgkkgmkodmaaGreatJav
import Derived.Test.YtekhgkkgmkodmaaGreatJat
import Derived.Test.YtekhgkkgmkodmaaGreatJau
namespace Go.Proofs.YtekhgkkgmkodmaaGreat
open Go.RowKit

theorem Tryz.infoKy : (Tryz.prog.info? 56).map (fun i => (i.zero, i.size, i.bytes)) = some (some (.agg #[.int .i64 0, .int .i64 0, .int .i64 0]), 3, 24) := by kernel_rfl
/-- The cells of keys, one behind the other. -/
def kyCells : List Ky → List Value
  | [] => []
  | h :: l => .int .i64 h.kind :: .int .i64 h.id :: .int .i64 h.adv :: kyCells l
theorem kyCells_one (y1 y2 y3 : Int) : ∀ u ∈ [Value.int .i64 y1, .int .i64 y2, .int .i64 y3], u.oneCell' = true := by
  intro u hu
  simp at hu
  rcases hu with rfl | rfl | rfl <;> rfl
theorem kyCells_snoc (l : List Ky) (h : Ky) : kyCells (l ++ [h]) = kyCells l ++ [.int .i64 h.kind, .int .i64 h.id, .int .i64 h.adv] := by
  induction l with
  | nil => rfl
  | cons x l ih => simp [kyCells, ih]
theorem kyCells_get (l : List Ky) (j : Nat) (h : Ky) (hj : l[j]? = some h) : (kyCells l)[j * 3]? = some (.int .i64 h.kind) ∧ (kyCells l)[j * 3 + 1]? = some (.int .i64 h.id) ∧ (kyCells l)[j * 3 + 2]? = some (.int .i64 h.adv) := by
  induction l generalizing j with
  | nil => simp at hj
  | cons x l ih =>
    cases j with
    | zero =>
      obtain rfl : x = h := by simpa using hj
      simp [kyCells]
    | succ j =>
      have := ih j (by simpa using hj)
      rw [show (j + 1) * 3 = j * 3 + 3 from by omega]
      simpa [kyCells] using this
theorem kys_of_own {w : World} {base n : Nat} {v : Value} {L : List Ky} (h : w.ownsRow base 56 3 v n (kyCells L)) (hn : L.length = n) (hb : ∀ x ∈ L, 0 ≤ x.id ∧ x.id < 4294967296) : ∃ A c, v = .slice A n c ∧ n ≤ c ∧ c ≤ maxLen ∧ Kys w w.heap.size A n L := by
  refine arr_of_own (P := KyAt) h hn fun g j x _ hx hc => ?_
  obtain ⟨h0, h1, h2⟩ := kyCells_get L j x hx
  have := hb x (List.mem_of_getElem? hx)
  exact ⟨hc _ _ h0, hc _ _ h1, hc _ _ h2, by omega, by omega⟩
theorem kyDec_at (l : List Int) (p : Nat) : kyDec ((l.drop p).take 12) = ⟨wordAt l p 4, wordAt l (p + 4) 4, wordAt l (p + 8) 4⟩ := by
  unfold kyDec wordAt
  simp only [List.drop_take, List.take_take, List.drop_drop]
  rfl
theorem kysAt_succ (l : List Int) (a k : Nat) : kysAt l a (k + 1) = kysAt l a k ++ [⟨wordAt l (a + 12 * k) 4, wordAt l (a + 12 * k + 4) 4, wordAt l (a + 12 * k + 8) 4⟩] := by
  unfold kysAt
  rw [decs_succ, kyDec_at]
/-- What want leaves. -/
def WantR (w : World) (g q : Nat) (kd sd : Int) (wr0 : Bool) (l : List Int) (x : Ending) (w' : World) : Prop :=
  ∃ A k c, x = .returned (.tuple #[]) ∧ k = (l.length - 24) / 12 ∧ w'.ownsRow w.heap.size 56 3 (.slice A k c) k (kyCells (kysAt l 24 k)) ∧ RS w' g q ⟨kd, sd, 0, 0, 0, 0, 0, ⟨none, 0, 0⟩, false, false, false, 0, ⟨none, 0, 0⟩, ⟨A, k, c⟩, ⟨none, 0, 0⟩, ⟨none, 0, 0⟩⟩ wr0 0 l (24 + 12 * k) ∧ Below g w w'
/-- The method want keeps its contract. -/
def WantOk : Prop := ∀ (g q : Nat) (kd sd : Int) (wr0 : Bool) (l : List Int) (w : World), RS w g q (zeroP kd sd) wr0 0 l 24 → l.length ≤ 1048576 → 24 ≤ l.length →
  Calls Tryz.prog 91 #[.pointer (some ⟨g, 0, none⟩)] w (WantR w g q kd sd wr0 l)
end Go.Proofs.YtekhgkkgmkodmaaGreat
namespace Go.Proofs.YtekhgkkgmkodmaaGreat

theorem linkBytes_of (l : List Int) (p : Nat) (hb : Byt l) (h : p + 12 ≤ l.length) (hz : wordAt l (p + 9) 1 = 0) : linkBytes (lkAt l p) = (l.drop p).take 12 := by
  unfold linkBytes lkAt
  simp only []
  rw [enc_zero l (p + 9) hb (by omega) hz, enc_word l p 4 hb (by omega) (by omega), enc_word l (p + 4) 4 hb (by omega) (by omega), enc_word l (p + 8) 1 hb (by omega) (by omega), enc_word l (p + 10) 2 hb (by omega) (by omega)]
  rw [cut_join l (p + 9) 1 2 (p + 10) rfl, cut_join l (p + 8) 1 3 (p + 9) rfl, cut_join l (p + 4) 4 4 (p + 8) rfl, cut_join l p 4 8 (p + 4) rfl]
theorem lks_bytes (l : List Int) (hb : Byt l) : ∀ k, 4 + 12 * k ≤ l.length → zerosB l k = true → linksBytes (lks l k) = (l.drop 4).take (12 * k)
  | 0, _, _ => by simp [lks, linksBytes]
  | k + 1, h, hz => by
    rw [zerosB_succ, Bool.and_eq_true, decide_eq_true_iff] at hz
    rw [lks_succ, linksBytes_append, lks_bytes l hb k (by omega) hz.1]
    have e : linksBytes [lkAt l (4 + 12 * k)] = (l.drop (4 + 12 * k)).take 12 := by
      rw [linksBytes, linksBytes, List.append_nil]
      exact linkBytes_of l _ hb (by omega) hz.2
    rw [e, cut_join l 4 (12 * k) 12 _ rfl, Nat.mul_succ]
theorem links_sound (l : List Int) (hb : Byt l) (h : okLinks l = true) : enc ((lks l (many l)).length : Int) 4 ++ linksBytes (lks l (many l)) = l := by
  unfold okLinks at h
  simp only [Bool.and_eq_true, decide_eq_true_iff] at h
  obtain ⟨h1, h2, h3⟩ := h
  have hm : l.length = 4 + 12 * many l := by unfold many; omega
  have hw : wordAt l 0 4 = (many l : Int) := by omega
  rw [lks_bytes l hb _ (by omega) h3, lks_length, ← hw, enc_word l 0 4 hb (by omega) (by omega), cut_join l 0 4 _ 4 rfl, List.drop_zero]
  exact List.take_of_length_le (by omega)
theorem words_eq (l : List Int) (k : Nat) : words l k = wordsAt l 0 k := by
  unfold words wordsAt
  simp
/-- A description that is got, right and sealed, has the very bytes. -/
theorem lsa_sound (b : List Int) (hb : Byt b) (he : gErr b = 0) (hs : laB ⟨gHead b, gLinks b, gMembers b⟩ = true) : lsaBytes (gHead b) (gLinks b) (gMembers b) = getT b := by
  have hH : gHead b = headOf (getT b) := by unfold gHead; rw [if_pos he]
  have hL : gLinks b = tL (getT b) := by unfold gLinks; rw [if_pos he]
  have hM : gMembers b = tM (getT b) := by unfold gMembers; rw [if_pos he]
  have hbt : Byt (getT b) := hb.take _
  unfold gErr at he
  split at he
  · cases he
  · rename_i h20
    split at he
    · cases he
    · rename_i hlong
      split at he
      · cases he
      · rename_i hl20
        split at he
        · cases he
        · split at he
          · rename_i hok
            have hlt : (getT b).length = longOf b := by unfold getT; rw [List.length_take]; omega
            unfold laB at hs
            simp only [Bool.and_eq_true, sameHd_iff] at hs
            rw [hH, hL, hM] at hs ⊢
            generalize getT b = t at *
            obtain ⟨_, hse⟩ := hs
            unfold okTold at hok
            simp only [Bool.and_eq_true] at hok
            obtain ⟨hoh, hob, _⟩ := hok
            unfold okHead at hoh
            rw [Bool.and_eq_true, decide_eq_true_iff] at hoh
            have hsum : (headOf t).sum = lsaSum (headOf t) (tL t) (tM t) := by
              conv => lhs; rw [hse]
              rfl
            have hln : (headOf t).long = 20 + ((bodyBytes (headOf t) (tL t) (tM t)).length : Int) := by
              conv => lhs; rw [hse]
              rfl
            have hsb : sumBytes (headOf t) (tL t) (tM t) = enc (headOf t).sum 2 := by
              rw [hsum]
              unfold lsaSum
              refine (enc_num 2 _ (sumBytes_length _ _ _) (by omega) ?_).symm
              obtain ⟨X, Y, h1, h2, h3, h4, h5, _⟩ := fill_parts (headOf t) (tL t) (tM t)
              rw [h5]
              intro x hx
              simp at hx
              rcases hx with rfl | rfl <;> omega
            have hbody : bodyBytes (headOf t) (tL t) (tM t) = t.drop 20 := by
              unfold bodyBytes
              unfold okBody at hob
              split
              · rename_i hk
                rw [if_pos hk] at hob
                unfold tL
                rw [if_pos hk]
                exact links_sound (t.drop 20) (hbt.drop 20) hob
              · rename_i hk
                rw [if_neg hk, decide_eq_true_iff] at hob
                unfold tM
                rw [if_neg hk, words_eq, encs_wordsAt _ _ _ (hbt.drop 20) (by omega), List.drop_zero]
                exact List.take_of_length_le (by omega)
            rw [lsaBytes_parts, hsb, ← hln]
            have hh := headBytes_of t (by omega) hbt hoh.1
            have e : headBytes (headOf t) ++ bodyBytes (headOf t) (tL t) (tM t) = t := by
              rw [hh, hbody, List.take_append_drop]
            conv => rhs; rw [← e]
            simp [headBytes]
          · cases he

/-- So many descriptions, one behind the other: those that are got, the first error, and what is left. -/
def updR : Nat → List Int → List La × Int × List Int
  | 0, b => ([], 0, b)
  | n + 1, b => if gErr b = 0 then (⟨gHead b, gLinks b, gMembers b⟩ :: (updR n (b.drop (longOf b))).1, (updR n (b.drop (longOf b))).2) else ([], gErr b, b)
theorem updR_sound : ∀ (n : Nat) (b : List Int), Byt b → (updR n b).2 = (0, []) → (∀ x ∈ (updR n b).1, laB x = true) → lsasBs (updR n b).1 = b ∧ (updR n b).1.length = n
  | 0, b, _, h, _ => by
    simp only [updR, Prod.mk.injEq, true_and] at h
    subst h
    exact ⟨rfl, rfl⟩
  | n + 1, b, hb, h, ha => by
    unfold updR at h ha ⊢
    by_cases he : gErr b = 0
    · rw [if_pos he] at h ha ⊢
      simp only [List.mem_cons, forall_eq_or_imp] at h ha
      obtain ⟨i1, i2⟩ := updR_sound n (b.drop (longOf b)) (hb.drop _) h ha.2
      refine ⟨?_, by simp [i2]⟩
      show lsaBytes (gHead b) (gLinks b) (gMembers b) ++ lsasBs (updR n (b.drop (longOf b))).1 = b
      rw [i1, lsa_sound b hb he ha.1]
      unfold getT
      exact List.take_append_drop _ _
    · rw [if_neg he] at h
      simp only [Prod.mk.injEq] at h
      exact absurd h.1 he
theorem longOf_put {h : Hd} {L : List Lk} {M : List Int} (hr : rightB h L M = true) (more : List Int) : longOf (lsaBytes h L M ++ more) = (lsaBytes h L M).length := by
  have hh := headOf_put hr more
  have e : wordAt (lsaBytes h L M ++ more) 18 2 = (headOf (lsaBytes h L M ++ more)).long := rfl
  unfold longOf
  rw [e, hh.1, lsaBytes_length]
  show (20 + ((bodyBytes h L M).length : Int)).toNat = _
  omega
theorem updR_put : ∀ (L : List La), (∀ x ∈ L, laB x = true) → updR L.length (lsasBs L) = (L, 0, [])
  | [], _ => rfl
  | x :: L, h => by
    have hx := h x (List.mem_cons_self ..)
    have ih := updR_put L fun y hy => h y (List.mem_cons_of_mem _ hy)
    have hr := la_right hx
    obtain ⟨g1, g2, g3, g4⟩ := get_put hr (lsasBs L)
    have hl := longOf_put hr (lsasBs L)
    unfold laB at hx
    rw [Bool.and_eq_true, sameHd_iff] at hx
    show updR (L.length + 1) (lsaBytes x.h x.L x.M ++ lsasBs L) = _
    unfold updR
    rw [if_pos g1, hl, List.drop_left, ih, g2, g3, g4, ← hx.2]

/-- Hello. -/
theorem hello_sound (l : List Int) (hb : Byt l) (k : Nat) (hl : l.length = 40 + 4 * k) (hz : wordAt l 26 1 = 0) : helloBs (wordAt l 24 2) (wordAt l 28 4) (wordAt l 27 1) (wordAt l 32 4) (wordAt l 36 4) (wordsAt l 40 k) = l.drop 24 := by
  unfold helloBs
  rw [enc_zero l 26 hb (by omega) hz, enc_word l 24 2 hb (by omega) (by omega), enc_word l 28 4 hb (by omega) (by omega), enc_word l 27 1 hb (by omega) (by omega), enc_word l 32 4 hb (by omega) (by omega), enc_word l 36 4 hb (by omega) (by omega), encs_wordsAt l 40 k hb (by omega)]
  rw [cut_join l 36 4 _ 40 rfl, cut_join l 32 4 _ 36 rfl, cut_join l 28 4 _ 32 rfl, cut_join l 27 1 _ 28 rfl, cut_join l 26 1 _ 27 rfl, cut_join l 24 2 _ 26 rfl]
  exact List.take_of_length_le (by simp; omega)
theorem hello_complete (l pre : List Int) (hp : pre.length = 24) (e d p dr bdr : Int) (S : List Int) (hl : l = pre ++ helloBs e d p dr bdr S) (h : helloB e d p dr bdr S = true) :
    wordAt l 24 2 = e ∧ wordAt l 26 1 = 0 ∧ wordAt l 27 1 = p ∧ wordAt l 28 4 = d ∧ wordAt l 32 4 = dr ∧ wordAt l 36 4 = bdr ∧ wordsAt l 40 S.length = S ∧ l.length = 40 + 4 * S.length := by
  unfold helloB at h
  simp only [Bool.and_eq_true, inB_iff] at h
  obtain ⟨h1, h2, h3, h4, h5, h6⟩ := h
  unfold helloBs at hl
  have w1 := wordAt_mid l pre (enc e 2) _ 24 2 hl hp (enc_length _ _)
  have w2 := wordAt_mid l (pre ++ enc e 2) (enc 0 1) (enc p 1 ++ (enc d 4 ++ (enc dr 4 ++ (enc bdr 4 ++ encs 4 S)))) 26 1 (by rw [hl]; simp) (by simp [hp, enc_length]) (enc_length _ _)
  have w3 := wordAt_mid l (pre ++ (enc e 2 ++ enc 0 1)) (enc p 1) (enc d 4 ++ (enc dr 4 ++ (enc bdr 4 ++ encs 4 S))) 27 1 (by rw [hl]; simp) (by simp [hp, enc_length]) (enc_length _ _)
  have w4 := wordAt_mid l (pre ++ (enc e 2 ++ (enc 0 1 ++ enc p 1))) (enc d 4) (enc dr 4 ++ (enc bdr 4 ++ encs 4 S)) 28 4 (by rw [hl]; simp) (by simp [hp, enc_length]) (enc_length _ _)
  have w5 := wordAt_mid l (pre ++ (enc e 2 ++ (enc 0 1 ++ (enc p 1 ++ enc d 4)))) (enc dr 4) (enc bdr 4 ++ encs 4 S) 32 4 (by rw [hl]; simp) (by simp [hp, enc_length]) (enc_length _ _)
  have w6 := wordAt_mid l (pre ++ (enc e 2 ++ (enc 0 1 ++ (enc p 1 ++ (enc d 4 ++ enc dr 4))))) (enc bdr 4) (encs 4 S) 36 4 (by rw [hl]; simp) (by simp [hp, enc_length]) (enc_length _ _)
  have w7 := wordsAt_encs S (pre ++ (enc e 2 ++ (enc 0 1 ++ (enc p 1 ++ (enc d 4 ++ (enc dr 4 ++ enc bdr 4)))))) [] 40 (by simp [hp, enc_length]) (fun x hx => by have := rise_bd S 0 h6 x hx; omega)
  have el : pre ++ (enc e 2 ++ (enc 0 1 ++ (enc p 1 ++ (enc d 4 ++ (enc dr 4 ++ enc bdr 4))))) ++ (encs 4 S ++ []) = l := by rw [hl]; simp
  rw [el] at w7
  rw [num_enc _ 2 (by omega) (by omega)] at w1
  rw [num_enc _ 1 (by omega) (by omega)] at w2 w3
  rw [num_enc _ 4 (by omega) (by omega)] at w4 w5 w6
  refine ⟨by rw [w1]; omega, by rw [w2]; rfl, by rw [w3]; omega, by rw [w4]; omega, by rw [w5]; omega, by rw [w6]; omega, w7, ?_⟩
  rw [hl]
  simp [hp, enc_length, encs_length]
  omega
/-- Dd. -/
theorem dd_sound (l : List Int) (hb : Byt l) (k : Nat) (hl : l.length = 32 + 20 * k) (h0 : wordAt l 24 2 = 0) (hz : wordAt l 26 1 = 0) (i m s : Bool) (hf : wordAt l 27 1 = flagN i m s) (hok : okHds l 32 k = true) : ddBs i m s (wordAt l 28 4) (hdsAt l 32 k) = l.drop 24 := by
  unfold ddBs
  rw [enc_zero l 26 hb (by omega) hz, ← h0, ← hf, enc_word l 24 2 hb (by omega) (by omega), enc_word l 27 1 hb (by omega) (by omega), enc_word l 28 4 hb (by omega) (by omega), headsBs_hdsAt l 32 k hb (by omega) hok]
  rw [cut_join l 28 4 _ 32 rfl, cut_join l 27 1 _ 28 rfl, cut_join l 26 1 _ 27 rfl, cut_join l 24 2 _ 26 rfl]
  exact List.take_of_length_le (by simp; omega)
theorem dd_complete (l pre : List Int) (hp : pre.length = 24) (i m s : Bool) (q : Int) (L : List Hd) (hl : l = pre ++ ddBs i m s q L) (h : ddB i m s q L = true) :
    wordAt l 24 2 = 0 ∧ wordAt l 26 1 = 0 ∧ wordAt l 27 1 = flagN i m s ∧ wordAt l 28 4 = q ∧ hdsAt l 32 L.length = L ∧ okHds l 32 L.length = true ∧ l.length = 32 + 20 * L.length := by
  have hpc := piece_len (dd_piece h)
  unfold ddB at h
  simp only [Bool.and_eq_true] at h
  obtain ⟨_, h2, _⟩ := h
  rw [fit_iff 4 _ (by omega) (by omega), decide_eq_true_iff, num_enc _ 4 (by omega) (by omega)] at h2
  unfold ddBs at hl
  have w1 := wordAt_mid l pre (enc 0 2) _ 24 2 hl hp (enc_length _ _)
  have w2 := wordAt_mid l (pre ++ enc 0 2) (enc 0 1) (enc (flagN i m s) 1 ++ (enc q 4 ++ headsBs L)) 26 1 (by rw [hl]; simp) (by simp [hp, enc_length]) (enc_length _ _)
  have w3 := wordAt_mid l (pre ++ (enc 0 2 ++ enc 0 1)) (enc (flagN i m s) 1) (enc q 4 ++ headsBs L) 27 1 (by rw [hl]; simp) (by simp [hp, enc_length]) (enc_length _ _)
  have w4 := wordAt_mid l (pre ++ (enc 0 2 ++ (enc 0 1 ++ enc (flagN i m s) 1))) (enc q 4) (headsBs L) 28 4 (by rw [hl]; simp) (by simp [hp, enc_length]) (enc_length _ _)
  have el : pre ++ (enc 0 2 ++ (enc 0 1 ++ (enc (flagN i m s) 1 ++ enc q 4))) ++ (headsBs L ++ []) = l := by rw [hl]; simp
  have w5 := hdsAt_headsBs L (pre ++ (enc 0 2 ++ (enc 0 1 ++ (enc (flagN i m s) 1 ++ enc q 4)))) [] 32 (by simp [hp, enc_length]) hpc.2.2
  have w6 := okHds_headsBs L (pre ++ (enc 0 2 ++ (enc 0 1 ++ (enc (flagN i m s) 1 ++ enc q 4)))) [] 32 (by simp [hp, enc_length]) hpc.2.2
  rw [el] at w5 w6
  rw [num_enc _ 2 (by omega) (by omega)] at w1
  rw [num_enc _ 1 (by omega) (by omega)] at w2 w3
  rw [num_enc _ 4 (by omega) (by omega)] at w4
  refine ⟨by rw [w1]; rfl, by rw [w2]; rfl, ?_, by rw [w4]; exact h2, w5, w6, ?_⟩
  · rw [w3]
    cases i <;> cases m <;> cases s <;> rfl
  · rw [hl]
    simp [hp, enc_length, headsBs_length]
    omega
theorem flags_of (fl : Int) (h0 : 0 ≤ fl) (h7 : fl ≤ 7) : flagN (bits .and .i64 fl 4 != 0) (bits .and .i64 fl 2 != 0) (bits .and .i64 fl 1 != 0) = fl := by
  have : fl = 0 ∨ fl = 1 ∨ fl = 2 ∨ fl = 3 ∨ fl = 4 ∨ fl = 5 ∨ fl = 6 ∨ fl = 7 := by omega
  rcases this with rfl | rfl | rfl | rfl | rfl | rfl | rfl | rfl <;> rfl
theorem flagN_of (i m s : Bool) : (bits .and .i64 (flagN i m s) 4 != 0) = i ∧ (bits .and .i64 (flagN i m s) 2 != 0) = m ∧ (bits .and .i64 (flagN i m s) 1 != 0) = s ∧ 0 ≤ flagN i m s ∧ flagN i m s ≤ 7 := by
  cases i <;> cases m <;> cases s <;> refine ⟨rfl, rfl, rfl, by decide, by decide⟩
end Go.Proofs.YtekhgkkgmkodmaaGreat
