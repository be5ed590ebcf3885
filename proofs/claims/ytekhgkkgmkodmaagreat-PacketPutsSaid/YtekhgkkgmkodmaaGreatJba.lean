/- Plain facts on all of a packet's bytes: those that were put are told, and what is told has the very bytes, but of the sum. No program, no conditions. -/
import Derived.Test.YtekhgkkgmkodmaaGreatJay
import Derived.Test.YtekhgkkgmkodmaaGreatJas
namespace Go.Proofs.YtekhgkkgmkodmaaGreat

/-- A packet's bytes, piece by piece. -/
theorem pkt_parts (v : Pv) (l : Pl) : ∃ X Y, pktBytes v l = enc 2 1 ++ (enc v.kind 1 ++ (enc (24 + ((bodyBs v l).length : Int)) 2 ++ (enc v.sender 4 ++ (enc 0 4 ++ ([X, Y] ++ (enc 0 2 ++ (enc 0 4 ++ (enc 0 4 ++ bodyBs v l)))))))) := by
  have e : pktBs v l = (enc 2 1 ++ (enc v.kind 1 ++ (enc (24 + ((bodyBs v l).length : Int)) 2 ++ (enc v.sender 4 ++ enc 0 4)))) ++ (0 :: 0 :: (enc 0 2 ++ (enc 0 4 ++ (enc 0 4 ++ bodyBs v l)))) := by
    simp [pktBs, headP, enc_two, byteAt]
  have hl : (enc 2 1 ++ (enc v.kind 1 ++ (enc (24 + ((bodyBs v l).length : Int)) 2 ++ (enc v.sender 4 ++ enc 0 4)))).length = 12 := by simp [enc_length]
  have f : ∀ x, ∃ X Y, fillL x 12 = put2 (put2 x 12 0 0) 12 X Y := fun x => ⟨_, _, rfl⟩
  obtain ⟨X, Y, h⟩ := f (pktBs v l)
  refine ⟨X, Y, ?_⟩
  unfold pktBytes
  rw [h, e, put2_mid _ _ _ _ _ _ 12 hl, put2_mid _ _ _ _ _ _ 12 hl]
  simp
/-- Were these bytes put? -/
def Puts (l : List Int) : Prop := ∃ v0 pl0, rightP v0 pl0 = true ∧ l = pktBytes v0 pl0
theorem rightP_kind {v : Pv} {l : Pl} (h : rightP v l = true) : (1 ≤ v.kind ∧ v.kind ≤ 5) ∧ (1 ≤ v.sender ∧ v.sender ≤ 15) := by
  obtain ⟨h1, _, h3⟩ := right_parts h
  rw [inB_iff] at h1
  refine ⟨?_, h1⟩
  unfold partB at h3
  by_cases k1 : v.kind = 1
  · omega
  by_cases k2 : v.kind = 2
  · omega
  by_cases k3 : v.kind = 3
  · omega
  by_cases k4 : v.kind = 4
  · omega
  by_cases k5 : v.kind = 5
  · omega
  rw [if_neg k1, if_neg k2, if_neg k3, if_neg k4, if_neg k5] at h3
  cases h3
theorem puts_facts {l : List Int} {v : Pv} {pl : Pl} (hr : rightP v pl = true) (hl : l = pktBytes v pl) : lenOk l = true ∧ plong l = l.length ∧ wordAt l 1 1 = v.kind ∧ wordAt l 4 4 = v.sender ∧ wrongB l = false ∧ l.drop 24 = bodyBs v pl ∧ goodB l = true ∧ 24 ≤ l.length ∧ l.length ≤ 324 := by
  obtain ⟨hk, hs⟩ := rightP_kind hr
  obtain ⟨hb1, hb2⟩ := body_len (right_parts hr).2.2
  have hlen := pktBytes_length v pl
  obtain ⟨X, Y, hp⟩ := pkt_parts v pl
  rw [← hl] at hp hlen
  generalize bodyBs v pl = b at *
  have w0 := wordAt_mid l [] (enc 2 1) _ 0 1 hp rfl (enc_length _ _)
  have w1 := wordAt_mid l (enc 2 1) (enc v.kind 1) _ 1 1 hp (enc_length _ _) (enc_length _ _)
  have w2 := wordAt_mid l (enc 2 1 ++ enc v.kind 1) (enc (24 + (b.length : Int)) 2) (enc v.sender 4 ++ (enc 0 4 ++ ([X, Y] ++ (enc 0 2 ++ (enc 0 4 ++ (enc 0 4 ++ b)))))) 2 2 (by rw [hp]; simp) (by simp [enc_length]) (enc_length _ _)
  have w4 := wordAt_mid l (enc 2 1 ++ (enc v.kind 1 ++ enc (24 + (b.length : Int)) 2)) (enc v.sender 4) (enc 0 4 ++ ([X, Y] ++ (enc 0 2 ++ (enc 0 4 ++ (enc 0 4 ++ b))))) 4 4 (by rw [hp]; simp) (by simp [enc_length]) (enc_length _ _)
  have w8 := wordAt_mid l (enc 2 1 ++ (enc v.kind 1 ++ (enc (24 + (b.length : Int)) 2 ++ enc v.sender 4))) (enc 0 4) ([X, Y] ++ (enc 0 2 ++ (enc 0 4 ++ (enc 0 4 ++ b)))) 8 4 (by rw [hp]; simp) (by simp [enc_length]) (enc_length _ _)
  have w14 := wordAt_mid l (enc 2 1 ++ (enc v.kind 1 ++ (enc (24 + (b.length : Int)) 2 ++ (enc v.sender 4 ++ (enc 0 4 ++ [X, Y]))))) (enc 0 2) (enc 0 4 ++ (enc 0 4 ++ b)) 14 2 (by rw [hp]; simp) (by simp [enc_length]) (enc_length _ _)
  have w16 := wordAt_mid l (enc 2 1 ++ (enc v.kind 1 ++ (enc (24 + (b.length : Int)) 2 ++ (enc v.sender 4 ++ (enc 0 4 ++ ([X, Y] ++ enc 0 2)))))) (enc 0 4) (enc 0 4 ++ b) 16 4 (by rw [hp]; simp) (by simp [enc_length]) (enc_length _ _)
  have w20 := wordAt_mid l (enc 2 1 ++ (enc v.kind 1 ++ (enc (24 + (b.length : Int)) 2 ++ (enc v.sender 4 ++ (enc 0 4 ++ ([X, Y] ++ (enc 0 2 ++ enc 0 4))))))) (enc 0 4) b 20 4 (by rw [hp]; simp) (by simp [enc_length]) (enc_length _ _)
  rw [num_enc _ 1 (by omega) (by omega)] at w0 w1
  rw [num_enc _ 2 (by omega) (by omega)] at w2 w14
  rw [num_enc _ 4 (by omega) (by omega)] at w4 w8 w16 w20
  have w1' : wordAt l 1 1 = v.kind := by rw [w1]; omega
  have w4' : wordAt l 4 4 = v.sender := by rw [w4]; omega
  have hpl : plong l = l.length := by unfold plong; rw [w2]; omega
  have hg : goodB l = true := by
    unfold goodB
    rw [decide_eq_true_iff]
    refine ⟨by omega, by omega, ?_⟩
    rw [hl]
    unfold pktBytes
    exact fillL_sum (pktBs_byt v pl) 12 rfl (by rw [pktBs_length]; have := pktBytes_length v pl; rw [← hl] at this; omega)
  refine ⟨?_, hpl, w1', w4', ?_, ?_, hg, by omega, by omega⟩
  · unfold lenOk
    rw [w1', hpl]
    simp only [Bool.and_eq_true, decide_eq_true_iff, inB_iff, Bool.or_eq_true]
    exact ⟨w0, hk, by omega, by omega, .inl (by omega)⟩
  · unfold wrongB
    rw [w8, w14, w16, w20]
    rfl
  · have e : l = (enc 2 1 ++ (enc v.kind 1 ++ (enc (24 + (b.length : Int)) 2 ++ (enc v.sender 4 ++ (enc 0 4 ++ ([X, Y] ++ (enc 0 2 ++ (enc 0 4 ++ enc 0 4)))))))) ++ b := by rw [hp]; simp
    rw [e]
    exact List.drop_left' (by simp [enc_length])
/-- These bytes tell this packet. -/
def Tells (l : List Int) (v : Pv) (pl : Pl) : Prop :=
  lenOk l = true ∧ plong l = l.length ∧ wordAt l 1 1 = v.kind ∧ wordAt l 4 4 = v.sender ∧ wrongB l = false ∧ bodyBs v pl = l.drop 24 ∧ 24 ≤ l.length
/-- What is told has the very bytes, but of the sum. -/
theorem tells_bytes {l : List Int} {v : Pv} {pl : Pl} (hb : Byt l) (h : Tells l v pl) : ∃ X Y, pktBytes v pl = l.take 12 ++ ([X, Y] ++ l.drop 14) := by
  obtain ⟨h1, h2, h3, h4, h5, h6, h7⟩ := h
  obtain ⟨X, Y, hp⟩ := pkt_parts v pl
  refine ⟨X, Y, ?_⟩
  rw [hp, h6]
  unfold lenOk at h1
  simp only [Bool.and_eq_true, decide_eq_true_iff] at h1
  unfold wrongB at h5
  simp only [Bool.or_eq_false_iff, decide_eq_false_iff_not, Decidable.not_not] at h5
  obtain ⟨⟨⟨⟨_, z8⟩, z14⟩, z16⟩, z20⟩ := h5
  have hlw : (24 + ((l.drop 24).length : Int)) = wordAt l 2 2 := by
    have hbd := wordAt_bd l hb 2 2 (by omega)
    unfold plong at h2
    rw [List.length_drop]
    omega
  have e2 : enc 2 1 = (l.drop 0).take 1 := by rw [← enc_word l 0 1 hb (by omega) (by omega), h1.1]
  have e8 : (l.drop 8).take 4 = enc 0 4 := by rw [← enc_word l 8 4 hb (by omega) (by omega), z8]
  have e14 : (l.drop 14).take 2 = enc 0 2 := by rw [← enc_word l 14 2 hb (by omega) (by omega), z14]
  have e16 : (l.drop 16).take 4 = enc 0 4 := by rw [← enc_word l 16 4 hb (by omega) (by omega), z16]
  have e20 : (l.drop 20).take 4 = enc 0 4 := by rw [← enc_word l 20 4 hb (by omega) (by omega), z20]
  have hA : enc 2 1 ++ (enc v.kind 1 ++ (enc (24 + ((l.drop 24).length : Int)) 2 ++ (enc v.sender 4 ++ enc 0 4))) = l.take 12 := by
    rw [hlw, ← h3, ← h4, e2, ← e8, enc_word l 1 1 hb (by omega) (by omega), enc_word l 2 2 hb (by omega) (by omega), enc_word l 4 4 hb (by omega) (by omega)]
    rw [cut_join l 4 4 4 8 rfl, cut_join l 2 2 8 4 rfl, cut_join l 1 1 10 2 rfl, cut_join l 0 1 11 1 rfl, List.drop_zero]
  have hB : enc 0 2 ++ (enc 0 4 ++ (enc 0 4 ++ l.drop 24)) = l.drop 14 := by
    have e3 : enc 0 4 ++ l.drop 24 = l.drop 20 := by
      have := List.take_append_drop 4 (l.drop 20)
      rw [List.drop_drop, e20] at this
      exact this
    have e2' : enc 0 4 ++ l.drop 20 = l.drop 16 := by
      have := List.take_append_drop 4 (l.drop 16)
      rw [List.drop_drop, e16] at this
      exact this
    have e1 := List.take_append_drop 2 (l.drop 14)
    rw [List.drop_drop, e14] at e1
    rw [e3, e2']
    exact e1
  rw [← hA, ← hB]
  simp
theorem right_same {v v0 : Pv} {pl : Pl} (h : SameN v v0) : rightP v pl = rightP v0 pl := by
  obtain ⟨h1, h2, h3, h4, h5, h6, h7, h8, h9, h10, h11⟩ := h
  unfold rightP onlyB sameF partB
  rw [h1, h2, h3, h4, h5, h6, h7, h8, h9, h10, h11]
end Go.Proofs.YtekhgkkgmkodmaaGreat
