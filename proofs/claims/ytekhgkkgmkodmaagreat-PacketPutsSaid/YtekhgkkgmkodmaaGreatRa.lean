/- The small calls of the reference of packets: in, noHello, noDd, and which heads may be. Conditions: the lists read as such. -/
import Derived.Test.YtekhgkkgmkodmaaGreatJam
namespace Go.Proofs.YtekhgkkgmkodmaaGreat
open Go.RowKit

/-- May a head be, as the reference asks? -/
def rhd (h : Hd) : Bool := headB h && (inB h.id 0 4294967295 && (inB h.sum 0 65535 && inB h.long 0 65535))
theorem hdB_is (h : Hd) : hdB h = rhd h := by
  have hp := head_pieces (enc h.age 2) (enc 0 1) (enc h.kind 1) (enc h.id 4) (enc h.adv 4) (enc h.seq 4) (enc h.sum 2) (enc h.long 2) [] (enc_length _ _) (enc_length _ _) (enc_length _ _) (enc_length _ _) (enc_length _ _) (enc_length _ _) (enc_length _ _) (enc_length _ _)
  rw [List.append_nil] at hp
  have e : headBytes h = enc h.age 2 ++ (enc 0 1 ++ (enc h.kind 1 ++ (enc h.id 4 ++ (enc h.adv 4 ++ (enc h.seq 4 ++ (enc h.sum 2 ++ enc h.long 2)))))) := rfl
  rw [← e] at hp
  obtain ⟨hp1, hp2⟩ := hp
  rw [num_enc _ 2 (by omega) (by omega), num_enc _ 1 (by omega) (by omega), num_enc _ 4 (by omega) (by omega), num_enc _ 4 (by omega) (by omega), num_enc _ 4 (by omega) (by omega), num_enc _ 2 (by omega) (by omega), num_enc _ 2 (by omega) (by omega)] at hp1
  rw [wordAt_one _ 2 (by rw [headBytes_length]; omega), num_enc 0 1 (by omega) (by omega)] at hp2
  rw [Bool.eq_iff_iff]
  unfold hdB rhd okHead
  simp only [Bool.and_eq_true, sameHd_iff, decide_eq_true_eq]
  constructor
  · rintro ⟨⟨-, h2⟩, h3⟩
    rw [h3] at h2
    rw [h3] at hp1
    have i1 := congrArg Hd.id hp1
    have i2 := congrArg Hd.sum hp1
    have i3 := congrArg Hd.long hp1
    dsimp only at i1 i2 i3
    refine ⟨h2, ?_, ?_, ?_⟩
    · rw [inB_iff]; omega
    · rw [inB_iff]; omega
    · rw [inB_iff]; omega
  · rintro ⟨h0, h1, h2, h3⟩
    rw [inB_iff] at h1 h2 h3
    have hb := h0
    unfold headB at hb
    simp only [Bool.and_eq_true, inB_iff] at hb
    have e0 : h.age % 256 ^ 2 = h.age := by omega
    have e1 : h.kind % 256 ^ 1 = h.kind := by omega
    have e2 : h.id % 256 ^ 4 = h.id := by omega
    have e3 : h.adv % 256 ^ 4 = h.adv := by omega
    have e4 : sgn (h.seq % 256 ^ 4) = h.seq := by
      unfold sgn
      split <;> omega
    have e5 : h.sum % 256 ^ 2 = h.sum := by omega
    have e6 : h.long % 256 ^ 2 = h.long := by omega
    have hh : headOf (headBytes h) = h := by
      rw [hp1, e0, e1, e2, e3, e4, e5, e6]
    rw [hh]
    refine ⟨⟨?_, h0⟩, rfl⟩
    rw [hp2]
    rfl
theorem hds_is (L : List Hd) : L.all hdB = L.all rhd := by
  rw [show hdB = rhd from funext hdB_is]
theorem fit4_is (x : Int) : fitB 4 x = inB x 0 4294967295 := by
  rw [Bool.eq_iff_iff, inB_iff]
  unfold fitB
  simp only [decide_eq_true_eq]
  constructor
  · intro h; omega
  · intro h; omega

theorem r5In_any (n a b : Int) (w : World) : Calls Tryz.prog 17 #[.int .i64 n, .int .i64 a, .int .i64 b] w fun e w' => e = .returned (.bool (inB n a b)) ∧ w = w' := by
  by_cases h : a ≤ n
  · have HI := Lib.hid (show inB n a b = decide (n ≤ b) by simp [inB, h])
    go_enter Tryz.func17, Tryz.ntmps17
    go_wp2
    go_ret
    exact ⟨ret_bool HI.out.symm, rfl⟩
  · have HI := Lib.hid (show inB n a b = false by simp [inB, h])
    have hd : decide (a ≤ n) = false := by simpa using h
    go_enter Tryz.func17, Tryz.ntmps17
    go_wp2
    go_ret
    exact ⟨ret_bool HI.out.symm, rfl⟩
theorem r5In_is (n a b : Int) (x : Bool) (w : World) (h : inB n a b = x) : Calls Tryz.prog 17 #[.int .i64 n, .int .i64 a, .int .i64 b] w fun e w' => e = .returned (.bool x) ∧ w = w' := by
  rw [← h]; exact r5In_any n a b w

set_option maxRecDepth 4000 in
set_option maxHeartbeats 4000000 in
theorem r5NoHello_any (e d p dr bdr : Int) (A : Option Addr) (n c : Nat) (S : List Int) (w : World) (hS : S.length = n) (hn : n ≤ maxLen) :
    Calls Tryz.prog 18 #[.agg #[.int .i64 e, .int .i64 d, .int .i64 p, .int .i64 dr, .int .i64 bdr, .slice A n c]] w fun x w' => x = .returned (.bool (zeroH e d p dr bdr S)) ∧ Below w.heap.size w w' := by
  unfold maxLen at hn
  have H1 := Lib.hid hS
  clear hS
  by_cases hce : e = 0
  · subst hce
    by_cases hcd : d = 0
    · subst hcd
      by_cases hcp : p = 0
      · subst hcp
        by_cases hcdr : dr = 0
        · subst hcdr
          by_cases hcbdr : bdr = 0
          · subst hcbdr
            by_cases hn0 : n = 0
            · subst hn0
              have HE := Lib.hid (show zeroH 0 0 0 0 0 S = true by simp [zeroH, H1.out])
              go_enter Tryz.func18, Tryz.ntmps18
              go_wp2
              go_ret
              exact ⟨ret_bool HE.out.symm, (Below.refl _ _).alloc (Nat.le_refl _) _⟩
            · have hd : ((n : Int) == 0) = false := by simp; omega
              have HE := Lib.hid (show zeroH 0 0 0 0 0 S = false by simp [zeroH, H1.out, hn0])
              clear hn0
              go_enter Tryz.func18, Tryz.ntmps18
              go_wp2
              go_ret
              exact ⟨ret_bool HE.out.symm, (Below.refl _ _).alloc (Nat.le_refl _) _⟩
          · have hd : (bdr == 0) = false := by simp [hcbdr]
            have HE := Lib.hid (show zeroH 0 0 0 0 bdr S = false by simp [zeroH, hcbdr])
            clear hcbdr
            go_enter Tryz.func18, Tryz.ntmps18
            go_wp2
            go_ret
            exact ⟨ret_bool HE.out.symm, (Below.refl _ _).alloc (Nat.le_refl _) _⟩
        · have hd : (dr == 0) = false := by simp [hcdr]
          have HE := Lib.hid (show zeroH 0 0 0 dr bdr S = false by simp [zeroH, hcdr])
          clear hcdr
          go_enter Tryz.func18, Tryz.ntmps18
          go_wp2
          go_ret
          exact ⟨ret_bool HE.out.symm, (Below.refl _ _).alloc (Nat.le_refl _) _⟩
      · have hd : (p == 0) = false := by simp [hcp]
        have HE := Lib.hid (show zeroH 0 0 p dr bdr S = false by simp [zeroH, hcp])
        clear hcp
        go_enter Tryz.func18, Tryz.ntmps18
        go_wp2
        go_ret
        exact ⟨ret_bool HE.out.symm, (Below.refl _ _).alloc (Nat.le_refl _) _⟩
    · have hd : (d == 0) = false := by simp [hcd]
      have HE := Lib.hid (show zeroH 0 d p dr bdr S = false by simp [zeroH, hcd])
      clear hcd
      go_enter Tryz.func18, Tryz.ntmps18
      go_wp2
      go_ret
      exact ⟨ret_bool HE.out.symm, (Below.refl _ _).alloc (Nat.le_refl _) _⟩
  · have hd : (e == 0) = false := by simp [hce]
    have HE := Lib.hid (show zeroH e d p dr bdr S = false by simp [zeroH, hce])
    clear hce
    go_enter Tryz.func18, Tryz.ntmps18
    go_wp2
    go_ret
    exact ⟨ret_bool HE.out.symm, (Below.refl _ _).alloc (Nat.le_refl _) _⟩

set_option maxRecDepth 4000 in
set_option maxHeartbeats 4000000 in
theorem r5NoDd_any (i m s : Bool) (q : Int) (A : Option Addr) (n c : Nat) (L : List Hd) (w : World) (hS : L.length = n) (hn : n ≤ maxLen) :
    Calls Tryz.prog 19 #[.agg #[.bool i, .bool m, .bool s, .int .i64 q, .slice A n c]] w fun x w' => x = .returned (.bool (zeroD i m s q L)) ∧ Below w.heap.size w w' := by
  unfold maxLen at hn
  have H1 := Lib.hid hS
  clear hS
  cases i
  · cases m
    · cases s
      · by_cases hq : q = 0
        · subst hq
          by_cases hn0 : n = 0
          · subst hn0
            have HE := Lib.hid (show zeroD false false false 0 L = true by simp [zeroD, H1.out])
            go_enter Tryz.func19, Tryz.ntmps19
            go_wp2
            go_ret
            exact ⟨ret_bool HE.out.symm, (Below.refl _ _).alloc (Nat.le_refl _) _⟩
          · have hd : ((n : Int) == 0) = false := by simp; omega
            have HE := Lib.hid (show zeroD false false false 0 L = false by simp [zeroD, H1.out, hn0])
            clear hn0
            go_enter Tryz.func19, Tryz.ntmps19
            go_wp2
            go_ret
            exact ⟨ret_bool HE.out.symm, (Below.refl _ _).alloc (Nat.le_refl _) _⟩
        · have hd : (q == 0) = false := by simp [hq]
          have HE := Lib.hid (show zeroD false false false q L = false by simp [zeroD, hq])
          clear hq
          go_enter Tryz.func19, Tryz.ntmps19
          go_wp2
          go_ret
          exact ⟨ret_bool HE.out.symm, (Below.refl _ _).alloc (Nat.le_refl _) _⟩
      · have HE := Lib.hid (show zeroD false false true q L = false by simp [zeroD])
        go_enter Tryz.func19, Tryz.ntmps19
        go_wp2
        go_ret
        exact ⟨ret_bool HE.out.symm, (Below.refl _ _).alloc (Nat.le_refl _) _⟩
    · have HE := Lib.hid (show zeroD false true s q L = false by simp [zeroD])
      go_enter Tryz.func19, Tryz.ntmps19
      go_wp2
      go_ret
      exact ⟨ret_bool HE.out.symm, (Below.refl _ _).alloc (Nat.le_refl _) _⟩
  · have HE := Lib.hid (show zeroD true m s q L = false by simp [zeroD])
    go_enter Tryz.func19, Tryz.ntmps19
    go_wp2
    go_ret
    exact ⟨ret_bool HE.out.symm, (Below.refl _ _).alloc (Nat.le_refl _) _⟩
end Go.Proofs.YtekhgkkgmkodmaaGreat
