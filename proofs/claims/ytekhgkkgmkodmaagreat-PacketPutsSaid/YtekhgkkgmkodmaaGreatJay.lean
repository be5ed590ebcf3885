/- Plain facts: what comes of each kind's reader: what is got has the very bytes, and what was put is got. No program, no conditions. -/
import Derived.Test.YtekhgkkgmkodmaaGreatJaw
namespace Go.Proofs.YtekhgkkgmkodmaaGreat

/-- All was read, and nothing was wrong. -/
def Okk (wr : Bool) (er : Int) (l : List Int) (a : Nat) (e : Int) : Prop := er = 0 ∧ wr = false ∧ e = 0 ∧ a = l.length
/-- The numbers of two packets are the same. -/
def SameN (v v0 : Pv) : Prop := v.kind = v0.kind ∧ v.sender = v0.sender ∧ v.every = v0.every ∧ v.dead = v0.dead ∧ v.prio = v0.prio ∧ v.dr = v0.dr ∧ v.bdr = v0.bdr ∧ v.ini = v0.ini ∧ v.mor = v0.mor ∧ v.mas = v0.mas ∧ v.seq = v0.seq
/-- What comes of a kind's reader. -/
def Outcome (l : List Int) (kd sd : Int) (wr0 : Bool) (v : Pv) (pl : Pl) (wr : Bool) (er : Int) (a : Nat) (e : Int) : Prop :=
  v.kind = kd ∧ v.sender = sd ∧ (Okk wr er l a e → wr0 = false ∧ (rightP v pl = true → bodyBs v pl = l.drop 24)) ∧
  (∀ v0 pl0, rightP v0 pl0 = true → v0.kind = kd → v0.sender = sd → l.drop 24 = bodyBs v0 pl0 → wr0 = false → Okk wr er l a e ∧ SameN v v0 ∧ pl = pl0)

theorem nx_ok {l : List Int} {a m a' : Nat} {e y e' : Int} (h : NxP l a e m y a' e') (he : e' = 0) : e = 0 ∧ a + m ≤ l.length ∧ y = wordAt l a m ∧ a' = a + m := by
  rcases h with ⟨h1, h2, h3, h4, _⟩ | ⟨h1, _⟩
  · exact ⟨h1, h2, h3, h4⟩
  · omega
theorem nx_go {l : List Int} {a m a' : Nat} {y e' : Int} (h : NxP l a 0 m y a' e') (hl : a + m ≤ l.length) : y = wordAt l a m ∧ a' = a + m ∧ e' = 0 := by
  rcases h with ⟨_, _, h3, h4, h5⟩ | ⟨_, h2, _⟩
  · exact ⟨h3, h4, h5⟩
  · have := h2 rfl
    omega
/-- What a kind doesn't have is zero. -/
theorem only_facts {v : Pv} {l : Pl} (h : rightP v l = true) : (v.kind ≠ 1 → (v.every = 0 ∧ v.dead = 0 ∧ v.prio = 0 ∧ v.dr = 0 ∧ v.bdr = 0) ∧ l.seen = []) ∧ (v.kind ≠ 2 → (v.ini = false ∧ v.mor = false ∧ v.mas = false ∧ v.seq = 0) ∧ l.heads = []) ∧ (v.kind ≠ 3 → l.wants = []) ∧ (v.kind ≠ 4 → l.lsas = []) ∧ (v.kind ≠ 5 → l.acks = []) := by
  have h1 := (right_parts h).2.1
  unfold onlyB sameF at h1
  simp only [Bool.and_eq_true, Bool.or_eq_true, decide_eq_true_iff] at h1
  obtain ⟨a1, a2, a3, a4, a5⟩ := h1
  refine ⟨fun hk => ?_, fun hk => ?_, fun hk => ?_, fun hk => ?_, fun hk => ?_⟩
  · have b := a1.resolve_left hk
    unfold zeroH at b
    simp only [Bool.and_eq_true, decide_eq_true_iff] at b
    exact ⟨⟨b.1, b.2.1, b.2.2.1, b.2.2.2.1, b.2.2.2.2.1⟩, List.eq_nil_of_length_eq_zero b.2.2.2.2.2⟩
  · have b := a2.resolve_left hk
    unfold zeroD at b
    simp only [Bool.and_eq_true, decide_eq_true_iff, Bool.not_eq_true'] at b
    exact ⟨⟨b.1, b.2.1, b.2.2.1, b.2.2.2.1⟩, List.eq_nil_of_length_eq_zero b.2.2.2.2⟩
  · exact List.eq_nil_of_length_eq_zero (a3.resolve_left hk)
  · exact List.eq_nil_of_length_eq_zero (a4.resolve_left hk)
  · exact List.eq_nil_of_length_eq_zero (a5.resolve_left hk)
theorem pl_ext {p : Pl} {a b c d e} (h1 : p.seen = a) (h2 : p.heads = b) (h3 : p.wants = c) (h4 : p.lsas = d) (h5 : p.acks = e) : (⟨a, b, c, d, e⟩ : Pl) = p := by
  cases p
  simp_all
theorem whole (l : List Int) {b : List Int} (h : l.drop 24 = b) : l = l.take 24 ++ b := by rw [← h, List.take_append_drop]
theorem take24 (l : List Int) (h : 24 ≤ l.length) : (l.take 24).length = 24 := by rw [List.length_take]; omega

theorem hello_out (l : List Int) (hb : Byt l) (h24 : 24 ≤ l.length) (sd : Int) (wr0 : Bool) {x0 y x1 x2 x3 x4 : Int} {a1 a2 a3 a4 a5 a6 : Nat} {e1 e2 e3 e4 e5 e6 : Int} (A : Option Addr) (k c : Nat) (n1 : NxP l 24 0 2 x0 a1 e1) (n2 : NxP l a1 e1 1 y a2 e2) (n3 : NxP l a2 e2 1 x1 a3 e3) (n4 : NxP l a3 e3 4 x2 a4 e4) (n5 : NxP l a4 e4 4 x3 a5 e5) (n6 : NxP l a5 e5 4 x4 a6 e6) (hk : k = (l.length - a6) / 4) :
    Outcome l 1 sd wr0 ⟨1, sd, x0, x2, x1, x3, x4, ⟨A, k, c⟩, false, false, false, 0, ⟨none, 0, 0⟩, ⟨none, 0, 0⟩, ⟨none, 0, 0⟩, ⟨none, 0, 0⟩⟩ ⟨wordsAt l a6 k, [], [], [], []⟩ (wr0 || decide (y ≠ 0)) 0 (a6 + 4 * k) e6 := by
  refine ⟨rfl, rfl, ?_, ?_⟩
  · rintro ⟨_, hw, he, ha⟩
    obtain ⟨o5, b6, v6, q6⟩ := nx_ok n6 he
    obtain ⟨o4, b5, v5, q5⟩ := nx_ok n5 o5
    obtain ⟨o3, b4, v4, q4⟩ := nx_ok n4 o4
    obtain ⟨o2, b3, v3, q3⟩ := nx_ok n3 o3
    obtain ⟨o1, b2, v2, q2⟩ := nx_ok n2 o2
    obtain ⟨_, b1, v1, q1⟩ := nx_ok n1 o1
    subst q1 q2 q3 q4 q5 q6
    rw [Bool.or_eq_false_iff, decide_eq_false_iff_not, Decidable.not_not] at hw
    refine ⟨hw.1, fun _ => ?_⟩
    have hz : wordAt l 26 1 = 0 := v2.symm.trans hw.2
    show helloBs x0 x2 x1 x3 x4 (wordsAt l 40 k) = l.drop 24
    rw [v1, v3, v4, v5, v6]
    exact hello_sound l hb k (by omega) hz
  · intro v0 pl0 hr hkd hsd hl hw0
    obtain ⟨_, hp⟩ := right_parts hr
    have hp := hp.2
    unfold partB at hp
    rw [if_pos hkd] at hp
    unfold bodyBs at hl
    rw [if_pos hkd] at hl
    obtain ⟨c1, c2, c3, c4, c5, c6, c7, c8⟩ := hello_complete l (l.take 24) (take24 l h24) _ _ _ _ _ _ (whole l hl) hp
    obtain ⟨v1, rfl, rfl⟩ := nx_go n1 (by omega)
    obtain ⟨v2, rfl, rfl⟩ := nx_go n2 (by omega)
    obtain ⟨v3, rfl, rfl⟩ := nx_go n3 (by omega)
    obtain ⟨v4, rfl, rfl⟩ := nx_go n4 (by omega)
    obtain ⟨v5, rfl, rfl⟩ := nx_go n5 (by omega)
    obtain ⟨v6, rfl, rfl⟩ := nx_go n6 (by omega)
    have hk2 : k = pl0.seen.length := by omega
    have hy : y = 0 := v2.trans c2
    obtain ⟨_, f2, f3, f4, f5⟩ := only_facts hr
    obtain ⟨g2, l2⟩ := f2 (by omega)
    refine ⟨⟨rfl, by rw [hw0, hy]; rfl, rfl, by omega⟩, ⟨hkd.symm, hsd.symm, v1.trans c1, v4.trans c4, v3.trans c3, v5.trans c5, v6.trans c6, g2.1.symm, g2.2.1.symm, g2.2.2.1.symm, g2.2.2.2.symm⟩, ?_⟩
    refine pl_ext ?_ l2 (f3 (by omega)) (f4 (by omega)) (f5 (by omega))
    rw [hk2]
    exact c7.symm
theorem dd_out (l : List Int) (hb : Byt l) (h24 : 24 ≤ l.length) (sd : Int) (wr0 : Bool) {y1 y2 fl sq : Int} {a1 a2 a3 a4 : Nat} {e1 e2 e3 e4 : Int} (A : Option Addr) (k c : Nat) (n1 : NxP l 24 0 2 y1 a1 e1) (n2 : NxP l a1 e1 1 y2 a2 e2) (n3 : NxP l a2 e2 1 fl a3 e3) (n4 : NxP l a3 e3 4 sq a4 e4) (hk : k = (l.length - a4) / 20) :
    Outcome l 2 sd wr0 ⟨2, sd, 0, 0, 0, 0, 0, ⟨none, 0, 0⟩, bits .and .i64 fl 4 != 0, bits .and .i64 fl 2 != 0, bits .and .i64 fl 1 != 0, sq, ⟨A, k, c⟩, ⟨none, 0, 0⟩, ⟨none, 0, 0⟩, ⟨none, 0, 0⟩⟩ ⟨[], hdsAt l a4 k, [], [], []⟩ ((((wr0 || decide (y1 ≠ 0)) || decide (y2 ≠ 0)) || decide (7 < fl)) || !okHds l a4 k) 0 (a4 + 20 * k) e4 := by
  refine ⟨rfl, rfl, ?_, ?_⟩
  · rintro ⟨_, hw, he, ha⟩
    obtain ⟨o3, b4, v4, q4⟩ := nx_ok n4 he
    obtain ⟨o2, b3, v3, q3⟩ := nx_ok n3 o3
    obtain ⟨o1, b2, v2, q2⟩ := nx_ok n2 o2
    obtain ⟨_, b1, v1, q1⟩ := nx_ok n1 o1
    subst q1 q2 q3 q4
    simp only [Bool.or_eq_false_iff, decide_eq_false_iff_not, Decidable.not_not, Bool.not_eq_false'] at hw
    obtain ⟨⟨⟨⟨w0, w1⟩, w2⟩, w3⟩, w4⟩ := hw
    refine ⟨w0, fun _ => ?_⟩
    have hbd := wordAt_bd l hb 27 1 (by omega)
    have v3' : fl = wordAt l 27 1 := v3
    have hf := flags_of fl (by omega) (by omega)
    show ddBs _ _ _ sq (hdsAt l 32 k) = l.drop 24
    rw [v4]
    exact dd_sound l hb k (by omega) (v1.symm.trans w1) (v2.symm.trans w2) _ _ _ (v3'.symm.trans hf.symm) w4
  · intro v0 pl0 hr hkd hsd hl hw0
    obtain ⟨_, hp⟩ := right_parts hr
    have hp := hp.2
    unfold partB at hp
    rw [if_neg (by omega), if_pos hkd] at hp
    unfold bodyBs at hl
    rw [if_neg (by omega), if_pos hkd] at hl
    obtain ⟨c1, c2, c3, c4, c5, c6, c7⟩ := dd_complete l (l.take 24) (take24 l h24) _ _ _ _ _ (whole l hl) hp
    obtain ⟨v1, rfl, rfl⟩ := nx_go n1 (by omega)
    obtain ⟨v2, rfl, rfl⟩ := nx_go n2 (by omega)
    obtain ⟨v3, rfl, rfl⟩ := nx_go n3 (by omega)
    obtain ⟨v4, rfl, rfl⟩ := nx_go n4 (by omega)
    have hk2 : k = pl0.heads.length := by omega
    have hy1 : y1 = 0 := v1.trans c1
    have hy2 : y2 = 0 := v2.trans c2
    have hfl : fl = flagN v0.ini v0.mor v0.mas := v3.trans c3
    obtain ⟨q1, q2, q3, q4, q5⟩ := flagN_of v0.ini v0.mor v0.mas
    rw [← hfl] at q1 q2 q3 q4 q5
    obtain ⟨f1, _, f3, f4, f5⟩ := only_facts hr
    obtain ⟨g1, l1⟩ := f1 (by omega)
    have c6' : okHds l 32 k = true := by rw [hk2]; exact c6
    refine ⟨⟨rfl, ?_, rfl, by omega⟩, ⟨hkd.symm, hsd.symm, g1.1.symm, g1.2.1.symm, g1.2.2.1.symm, g1.2.2.2.1.symm, g1.2.2.2.2.symm, q1, q2, q3, v4.trans c4⟩, ?_⟩
    · show ((((wr0 || decide (y1 ≠ 0)) || decide (y2 ≠ 0)) || decide (7 < fl)) || !okHds l 32 k) = false
      rw [hw0, hy1, hy2, c6', decide_eq_false (show ¬ 7 < fl by omega)]
      rfl
    · refine pl_ext l1 ?_ (f3 (by omega)) (f4 (by omega)) (f5 (by omega))
      rw [hk2]
      exact c5.symm
theorem want_out (l : List Int) (hb : Byt l) (h24 : 24 ≤ l.length) (sd : Int) (wr0 : Bool) (A : Option Addr) (k c : Nat) (hk : k = (l.length - 24) / 12) :
    Outcome l 3 sd wr0 ⟨3, sd, 0, 0, 0, 0, 0, ⟨none, 0, 0⟩, false, false, false, 0, ⟨none, 0, 0⟩, ⟨A, k, c⟩, ⟨none, 0, 0⟩, ⟨none, 0, 0⟩⟩ ⟨[], [], kysAt l 24 k, [], []⟩ wr0 0 (24 + 12 * k) 0 := by
  refine ⟨rfl, rfl, ?_, ?_⟩
  · rintro ⟨_, hw, _, ha⟩
    refine ⟨hw, fun _ => ?_⟩
    show keysBs (kysAt l 24 k) = l.drop 24
    rw [keysBs_kysAt l 24 k hb (by omega)]
    exact List.take_of_length_le (by simp; omega)
  · intro v0 pl0 hr hkd hsd hl hw0
    obtain ⟨_, hp⟩ := right_parts hr
    have hp := hp.2
    unfold partB at hp
    rw [if_neg (by omega), if_neg (by omega), if_pos hkd] at hp
    unfold bodyBs at hl
    rw [if_neg (by omega), if_neg (by omega), if_pos hkd] at hl
    have hpc := piece_len hp
    have hw := whole l hl
    have hlen : l.length = 24 + 12 * pl0.wants.length := by
      have h1 := congrArg List.length hl
      rw [List.length_drop, keysBs_length] at h1
      omega
    have hk2 : k = pl0.wants.length := by omega
    have c1 := kysAt_keysBs pl0.wants (l.take 24) [] 24 (take24 l h24) hpc.2.2
    rw [List.append_nil, ← hw] at c1
    obtain ⟨f1, f2, _, f4, f5⟩ := only_facts hr
    obtain ⟨g1, l1⟩ := f1 (by omega)
    obtain ⟨g2, l2⟩ := f2 (by omega)
    refine ⟨⟨rfl, hw0, rfl, by omega⟩, ⟨hkd.symm, hsd.symm, g1.1.symm, g1.2.1.symm, g1.2.2.1.symm, g1.2.2.2.1.symm, g1.2.2.2.2.symm, g2.1.symm, g2.2.1.symm, g2.2.2.1.symm, g2.2.2.2.symm⟩, ?_⟩
    refine pl_ext l1 l2 ?_ (f4 (by omega)) (f5 (by omega))
    rw [hk2]
    exact c1.symm
theorem update_out (l : List Int) (hb : Byt l) (h24 : 24 ≤ l.length) (sd : Int) (wr0 : Bool) {m a1 a2 : Nat} {e1 : Int} {bs : List Int} (A : Option Addr) (k c : Nat) {L : List La} {er : Int} {wr : Bool} (n1 : NxP l 24 0 4 m a1 e1) (hbs : (e1 = 0 ∧ bs = l.drop a1 ∧ a2 = l.length) ∨ (e1 = 3 ∧ bs = [])) (hL : (updR m bs).1 = L) (her : (updR m bs).2.1 = er) (hwr : wr = (wr0 || (decide (er = 0) && decide (0 < (updR m bs).2.2.length)))) :
    Outcome l 4 sd wr0 ⟨4, sd, 0, 0, 0, 0, 0, ⟨none, 0, 0⟩, false, false, false, 0, ⟨none, 0, 0⟩, ⟨none, 0, 0⟩, ⟨A, k, c⟩, ⟨none, 0, 0⟩⟩ ⟨[], [], [], L, []⟩ wr er a2 e1 := by
  refine ⟨rfl, rfl, ?_, ?_⟩
  · rintro ⟨he, hw, h1, ha⟩
    rcases hbs with ⟨_, rfl, _⟩ | ⟨h3, _⟩
    · obtain ⟨_, b1, v1, rfl⟩ := nx_ok n1 h1
      rw [hwr, he, Bool.or_eq_false_iff] at hw
      simp only [decide_true, Bool.true_and, decide_eq_false_iff_not] at hw
      obtain ⟨w0, w1⟩ := hw
      refine ⟨w0, fun hr => ?_⟩
      have hp := (right_parts hr).2.2
      unfold partB at hp
      rw [if_neg (by simp), if_neg (by simp), if_neg (by simp), if_pos rfl] at hp
      have hpc := piece_len hp
      have h2 : (updR m (l.drop (24 + 4))).2 = (0, []) := by
        have e1 : (updR m (l.drop (24 + 4))).2.1 = 0 := her.trans he
        have e2 : (updR m (l.drop (24 + 4))).2.2 = [] := List.eq_nil_of_length_eq_zero (by omega)
        exact Prod.ext e1 e2
      obtain ⟨s1, s2⟩ := updR_sound m (l.drop (24 + 4)) (hb.drop _) h2 (by rw [hL]; exact hpc.2.2)
      rw [hL] at s1 s2
      show enc L.length 4 ++ lsasBs L = l.drop 24
      rw [s1, s2, v1, enc_word l 24 4 hb (by omega) b1]
      have e3 := List.take_append_drop 4 (l.drop 24)
      rw [List.drop_drop] at e3
      exact e3
    · omega
  · intro v0 pl0 hr hkd hsd hl hw0
    obtain ⟨_, hp⟩ := right_parts hr
    have hp := hp.2
    unfold partB at hp
    rw [if_neg (by omega), if_neg (by omega), if_neg (by omega), if_pos hkd] at hp
    unfold bodyBs at hl
    rw [if_neg (by omega), if_neg (by omega), if_neg (by omega), if_pos hkd] at hl
    have hpc := piece_len hp
    unfold updBs at hl
    have hw := whole l hl
    have hlen := congrArg List.length hl
    rw [List.length_drop, List.length_append, enc_length] at hlen
    have w1 := wordAt_mid l (l.take 24) (enc pl0.lsas.length 4) (lsasBs pl0.lsas) 24 4 hw (take24 l h24) (enc_length _ _)
    rw [num_enc _ 4 (by omega) (by omega)] at w1
    obtain ⟨v1, rfl, rfl⟩ := nx_go n1 (by omega)
    have hm : m = pl0.lsas.length := by omega
    have hd : l.drop 28 = lsasBs pl0.lsas := by
      have h1 := congrArg (List.drop 4) hl
      rw [List.drop_drop, List.drop_left' (enc_length _ _)] at h1
      exact h1
    rcases hbs with ⟨_, rfl, rfl⟩ | ⟨h3, _⟩
    · have hu := updR_put pl0.lsas hpc.2.2
      rw [← hd, ← hm] at hu
      have hu' : updR m (l.drop (24 + 4)) = (pl0.lsas, 0, []) := hu
      rw [hu'] at hL her hwr
      obtain ⟨f1, f2, f3, _, f5⟩ := only_facts hr
      obtain ⟨g1, l1⟩ := f1 (by omega)
      obtain ⟨g2, l2⟩ := f2 (by omega)
      refine ⟨⟨her.symm, ?_, rfl, rfl⟩, ⟨hkd.symm, hsd.symm, g1.1.symm, g1.2.1.symm, g1.2.2.1.symm, g1.2.2.2.1.symm, g1.2.2.2.2.symm, g2.1.symm, g2.2.1.symm, g2.2.2.1.symm, g2.2.2.2.symm⟩, ?_⟩
      · rw [hwr, hw0]
        simp
      · exact pl_ext l1 l2 (f3 (by omega)) hL (f5 (by omega))
    · omega
theorem ack_out (l : List Int) (hb : Byt l) (h24 : 24 ≤ l.length) (sd : Int) (wr0 : Bool) (A : Option Addr) (k c : Nat) (hk : k = (l.length - 24) / 20) :
    Outcome l 5 sd wr0 ⟨5, sd, 0, 0, 0, 0, 0, ⟨none, 0, 0⟩, false, false, false, 0, ⟨none, 0, 0⟩, ⟨none, 0, 0⟩, ⟨none, 0, 0⟩, ⟨A, k, c⟩⟩ ⟨[], [], [], [], hdsAt l 24 k⟩ (wr0 || !okHds l 24 k) 0 (24 + 20 * k) 0 := by
  refine ⟨rfl, rfl, ?_, ?_⟩
  · rintro ⟨_, hw, _, ha⟩
    rw [Bool.or_eq_false_iff, Bool.not_eq_false'] at hw
    refine ⟨hw.1, fun _ => ?_⟩
    show headsBs (hdsAt l 24 k) = l.drop 24
    rw [headsBs_hdsAt l 24 k hb (by omega) hw.2]
    exact List.take_of_length_le (by simp; omega)
  · intro v0 pl0 hr hkd hsd hl hw0
    obtain ⟨_, hp⟩ := right_parts hr
    have hp := hp.2
    unfold partB at hp
    rw [if_neg (by omega), if_neg (by omega), if_neg (by omega), if_neg (by omega), if_pos hkd] at hp
    unfold bodyBs at hl
    rw [if_neg (by omega), if_neg (by omega), if_neg (by omega), if_neg (by omega)] at hl
    have hpc := piece_len hp
    have hw := whole l hl
    have hlen : l.length = 24 + 20 * pl0.acks.length := by
      have h1 := congrArg List.length hl
      rw [List.length_drop, headsBs_length] at h1
      omega
    have hk2 : k = pl0.acks.length := by omega
    have c1 := hdsAt_headsBs pl0.acks (l.take 24) [] 24 (take24 l h24) hpc.2.2
    have c2 := okHds_headsBs pl0.acks (l.take 24) [] 24 (take24 l h24) hpc.2.2
    rw [List.append_nil, ← hw, ← hk2] at c1 c2
    obtain ⟨f1, f2, f3, f4, _⟩ := only_facts hr
    obtain ⟨g1, l1⟩ := f1 (by omega)
    obtain ⟨g2, l2⟩ := f2 (by omega)
    refine ⟨⟨rfl, by rw [hw0, c2]; rfl, rfl, by omega⟩, ⟨hkd.symm, hsd.symm, g1.1.symm, g1.2.1.symm, g1.2.2.1.symm, g1.2.2.2.1.symm, g1.2.2.2.2.symm, g2.1.symm, g2.2.1.symm, g2.2.2.1.symm, g2.2.2.2.symm⟩, ?_⟩
    exact pl_ext l1 l2 (f3 (by omega)) (f4 (by omega)) c1.symm
end Go.Proofs.YtekhgkkgmkodmaaGreat
