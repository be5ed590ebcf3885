/- Plain facts on a description's bytes: the sum stands over what is behind the age. No program, no conditions. -/
import Derived.Test.YtidncajbedgplaaLsG
import Derived.Test.YtidncajbedgplaaFlS
namespace Go.Proofs.Ytidncajbedgplaa

/-- The head with its length, and what stands behind it, before the sum is set. -/
def rawBytes (h : Hd) (L : List Lk) (M : List Int) (s : Int) : List Int := headBytes { h with sum := s, long := 20 + (bodyBytes h L M).length } ++ bodyBytes h L M
/-- A description's bytes. -/
def lsaBytes (h : Hd) (L : List Lk) (M : List Int) : List Int := (rawBytes h L M 0).take 2 ++ ffill ((rawBytes h L M 0).drop 2) 14
theorem rawBytes_length (h : Hd) (L : List Lk) (M : List Int) (s : Int) : (rawBytes h L M s).length = 20 + (bodyBytes h L M).length := by
  rw [rawBytes, List.length_append, headBytes_length]
theorem rawBytes_byt (h : Hd) (L : List Lk) (M : List Int) (s : Int) : Byt (rawBytes h L M s) := (headBytes_byt _).append (bodyBytes_byt _ _ _)
theorem lsaBytes_length (h : Hd) (L : List Lk) (M : List Int) : (lsaBytes h L M).length = 20 + (bodyBytes h L M).length := by
  rw [lsaBytes, List.length_append, ffill_length, List.length_take, List.length_drop, rawBytes_length]
  omega
theorem lsaBytes_byt (h : Hd) (L : List Lk) (M : List Int) : Byt (lsaBytes h L M) := ((rawBytes_byt h L M 0).take 2).append (ffill_byt ((rawBytes_byt h L M 0).drop 2) 14)
/-- What stands between the age and the sum. -/
def midBytes (h : Hd) : List Int := enc 0 1 ++ (enc h.kind 1 ++ (enc h.id 4 ++ (enc h.adv 4 ++ enc h.seq 4)))
theorem midBytes_length (h : Hd) : (midBytes h).length = 14 := by simp [midBytes, enc_length]
theorem enc_two (n : Int) : enc n 2 = [byteAt n 1, byteAt n 0] := rfl
theorem rawBytes_parts (h : Hd) (L : List Lk) (M : List Int) (s : Int) : rawBytes h L M s = enc h.age 2 ++ (midBytes h ++ (enc s 2 ++ (enc (20 + ((bodyBytes h L M).length : Int)) 2 ++ bodyBytes h L M))) := by
  simp [rawBytes, headBytes, midBytes]
theorem raw_take (h : Hd) (L : List Lk) (M : List Int) (s : Int) : (rawBytes h L M s).take 2 = enc h.age 2 := by
  rw [rawBytes_parts]
  exact List.take_left' (enc_length _ _)
theorem raw_drop (h : Hd) (L : List Lk) (M : List Int) (s : Int) : (rawBytes h L M s).drop 2 = midBytes h ++ (enc s 2 ++ (enc (20 + ((bodyBytes h L M).length : Int)) 2 ++ bodyBytes h L M)) := by
  rw [rawBytes_parts]
  exact List.drop_left' (enc_length _ _)
theorem put2_mid (a r : List Int) (p q x y : Int) (k : Nat) (hk : a.length = k) : put2 (a ++ (p :: q :: r)) k x y = a ++ (x :: y :: r) := by
  subst hk
  unfold put2
  rw [List.set_append_right _ _ (Nat.le_refl _), Nat.sub_self, List.set_cons_zero, List.set_append_right _ _ (by omega)]
  simp
/-- Fill asks nothing of the two bytes that it sets. -/
theorem ffill_mid (a r : List Int) (p q p' q' : Int) (k : Nat) (hk : a.length = k) : ffill (a ++ (p :: q :: r)) k = ffill (a ++ (p' :: q' :: r)) k := by
  have e1 : fzero (a ++ (p :: q :: r)) k = fzero (a ++ (p' :: q' :: r)) k := by
    rw [fzero_eq, fzero_eq, put2_mid a r p q 0 0 k hk, put2_mid a r p' q' 0 0 k hk]
  unfold ffill
  rw [e1]
  have e2 : (a ++ (p :: q :: r)).length = (a ++ (p' :: q' :: r)).length := by simp
  rw [e2, put2_mid a r p q _ _ k hk, put2_mid a r p' q' _ _ k hk]
theorem ffill_take (l : List Int) (k : Nat) : (ffill l k).take k = l.take k := by
  unfold ffill put2
  rw [List.take_set_of_le (by omega), List.take_set_of_le (by omega)]
theorem ffill_drop (l : List Int) (k : Nat) : (ffill l k).drop (k + 2) = l.drop (k + 2) := by
  unfold ffill put2
  rw [List.drop_set_of_lt (by omega), List.drop_set_of_lt (by omega)]
/-- As package lsa lays them: what leads up to the sum, and the rest of what was filled. -/
theorem sealed_bytes (h : Hd) (L : List Lk) (M : List Int) : (rawBytes h L M h.sum).take 16 ++ (ffill ((rawBytes h L M h.sum).drop 2) 14).drop 14 = lsaBytes h L M := by
  have e1 : ffill ((rawBytes h L M h.sum).drop 2) 14 = ffill ((rawBytes h L M 0).drop 2) 14 := by
    rw [raw_drop, raw_drop, enc_two, enc_two]
    exact ffill_mid (midBytes h) _ _ _ _ _ 14 (midBytes_length h)
  have e2 : (rawBytes h L M h.sum).take 16 = (rawBytes h L M 0).take 2 ++ (ffill ((rawBytes h L M 0).drop 2) 14).take 14 := by
    rw [ffill_take, raw_take, raw_drop]
    rw [rawBytes_parts, ← List.append_assoc, List.take_left' (by simp [enc_length, midBytes_length]), List.take_left' (midBytes_length h)]
  rw [e1, e2, List.append_assoc, List.take_append_drop]
  rfl
end Go.Proofs.Ytidncajbedgplaa
