/- The call body of package lsa: what stands behind the head. Conditions: at most 50 links and 50 members. -/
import Derived.Test.YtidncajbedgplaaLsF
namespace Go.Proofs.Ytidncajbedgplaa
open Go.RowKit

/-- The twelve bytes of a link. -/
def linkBytes (k : Lk) : List Int := enc k.id 4 ++ (enc k.data 4 ++ (enc k.kind 1 ++ (enc 0 1 ++ enc k.cost 2)))
theorem linkBytes_length (k : Lk) : (linkBytes k).length = 12 := by simp [linkBytes, enc_length]
theorem linkBytes_byt (k : Lk) : Byt (linkBytes k) := by
  unfold linkBytes
  repeat' (first | exact enc_byt _ _ | refine Byt.append ?_ ?_)
/-- All links' bytes. -/
def linksBytes : List Lk → List Int
  | [] => []
  | k :: l => linkBytes k ++ linksBytes l
theorem linksBytes_append (a b : List Lk) : linksBytes (a ++ b) = linksBytes a ++ linksBytes b := by
  induction a with
  | nil => rfl
  | cons x a ih => simp [linksBytes, ih]
theorem linksBytes_length (l : List Lk) : (linksBytes l).length = l.length * 12 := by
  induction l with
  | nil => rfl
  | cons x l ih => simp only [linksBytes, List.length_append, linkBytes_length, ih, List.length_cons]; omega
theorem linksBytes_byt (l : List Lk) : Byt (linksBytes l) := by
  induction l with
  | nil => exact Byt.nil
  | cons x l ih => exact (linkBytes_byt x).append ih
theorem linksBytes_snoc (l : List Lk) (k : Nat) (h : k < l.length) : linksBytes (l.take (k + 1)) = linksBytes (l.take k) ++ linkBytes (l.getD k ⟨0, 0, 0, 0⟩) := by
  rw [List.take_succ_eq_append_getElem h, linksBytes_append, List.getD_eq_getElem?_getD, List.getElem?_eq_getElem h]
  simp [linksBytes]
/-- What stands behind the head. -/
def bodyBytes (h : Hd) (L : List Lk) (M : List Int) : List Int := if h.kind = 1 then enc L.length 4 ++ linksBytes L else encs 4 M
theorem bodyBytes_byt (h : Hd) (L : List Lk) (M : List Int) : Byt (bodyBytes h L M) := by
  unfold bodyBytes
  split
  · exact (enc_byt _ _).append (linksBytes_byt _)
  · exact encs_byt _ _

theorem Blk.nine {w : World} {g : Nat} {t : TypeId} {a0 a1 a2 a3 a4 a5 a6 a7 a8 : Value} (h : Blk w g t #[a0, a1, a2, a3, a4, a5, a6, a7, a8]) :
    w.cell? ⟨g, 0, none⟩ = some a0 ∧ w.cell? ⟨g, 1, none⟩ = some a1 ∧ w.cell? ⟨g, 2, none⟩ = some a2 ∧ w.cell? ⟨g, 3, none⟩ = some a3 ∧ w.cell? ⟨g, 4, none⟩ = some a4 ∧ w.cell? ⟨g, 5, none⟩ = some a5 ∧ w.cell? ⟨g, 6, none⟩ = some a6 ∧ w.cell? ⟨g, 7, none⟩ = some a7 ∧ w.cell? ⟨g, 8, none⟩ = some a8 :=
  ⟨h.cell 0, h.cell 1, h.cell 2, h.cell 3, h.cell 4, h.cell 5, h.cell 6, h.cell 7, h.cell 8⟩
theorem Blk.four {w : World} {g : Nat} {t : TypeId} {a0 a1 a2 a3 : Value} (h : Blk w g t #[a0, a1, a2, a3]) :
    w.cell? ⟨g, 0, none⟩ = some a0 ∧ w.cell? ⟨g, 1, none⟩ = some a1 ∧ w.cell? ⟨g, 2, none⟩ = some a2 ∧ w.cell? ⟨g, 3, none⟩ = some a3 :=
  ⟨h.cell 0, h.cell 1, h.cell 2, h.cell 3⟩

set_option maxHeartbeats 4000000 in
theorem body_any (h : Hd) (L : List Lk) (M : List Int) (A A' : Option Addr) (n c n' c' B m : Nat) (w : World) (hL : Lnk w B A n L) (hM : Row .i64 w B A' n' M) (hB : B ≤ w.heap.size) (hn : n ≤ 50) (hn' : n' ≤ 50) (hk : h.kind = 1 ∨ h.kind = 2) (hm : (bodyBytes h L M).length = m) :
    Calls Try.prog 45 #[.agg #[.int .i64 h.age, .int .i64 h.kind, .int .i64 h.id, .int .i64 h.adv, .int .i64 h.seq, .int .i64 h.sum, .int .i64 h.long, .slice A n c, .slice A' n' c']] w
    (PutN w (bodyBytes h L M) m) := by
  generalize hQ : PutN w (bodyBytes h L M) m = Q
  have HQ := Lib.hid hQ
  have HL := Lib.hid hL
  have HM := Lib.hid hM
  have HN := Lib.hid hL.1
  have Hm := Lib.hid hm
  clear hQ hL hM hm
  have B0 := Lib.hid ((Below.refl w.heap.size w).alloc (Nat.le_refl _) (.cells #[.int .i64 h.age, .int .i64 h.kind, .int .i64 h.id, .int .i64 h.adv, .int .i64 h.seq, .int .i64 h.sum, .int .i64 h.long, .slice A n c, .slice A' n' c'] 27))
  have K0 := Lib.hid (Blk.new w 27 #[.int .i64 h.age, .int .i64 h.kind, .int .i64 h.id, .int .i64 h.adv, .int .i64 h.seq, .int .i64 h.sum, .int .i64 h.long, .slice A n c, .slice A' n' c'])
  by_cases h2 : h.kind = 2
  · have hd : (h.kind == 2) = true := by simp [h2]
    have HV := Lib.hid (show bodyBytes h L M = encs 4 M by unfold bodyBytes; rw [if_neg (by omega)])
    clear h2 hk
    go_enter Try.func45, Try.ntmps45
    go_wp2_with fail
    refine (put_any none A' 0 0 n' c' 0 B 4 [] M _ Row.nil (HM.out.alloc hB _) (Nat.zero_le _) (by simp; omega) (by omega) (by omega)).mono ?_
    intro e1 w1 hp
    have ev : [] ++ encs (hold 4).toNat M = bodyBytes h L M := by rw [HV.out]; rfl
    rw [ev] at hp
    obtain ⟨A1, c1, rfl, hc1, hm1, hr1, hb1⟩ := putN_of m hp Hm.out
    have R1 := Lib.hid hr1
    have B1 := Lib.hid (B0.out.trans (hb1.mono (by simp)))
    clear ev hp hr1 hb1
    go_wp2
    rw [← HQ.out]
    exact ⟨_, _, rfl, hc1, hm1, R1.out, B1.out⟩
  · have hd : (h.kind == 2) = false := by simp [h2]
    have HV := Lib.hid (show bodyBytes h L M = enc L.length 4 ++ linksBytes L by unfold bodyBytes; rw [if_pos (by omega)])
    clear h2 hk
    go_enter Try.func45, Try.ntmps45
    go_wp2_with fail
    refine (put_new none 0 0 4 4 1 4 [] [(n : Int)] (enc n 4) _ _ (by simp) rfl rfl (by simp [encs]) Row.nil (by omega) (by omega) rfl).mono ?_
    rintro e1 w1 ⟨A1, c1, rfl, hc1, hm1, hr1, hb1⟩
    have R1 := Lib.hid hr1
    have K1 := Lib.hid (K0.out.below hb1 (by simp))
    have B1 := Lib.hid (B0.out.trans (hb1.mono (by simp)))
    have hz1 := hb1.size
    simp only [World.size_alloc] at hz1
    obtain ⟨k0, k1, k2, k3, k4, k5, k6, k7, k8⟩ := K1.out.nine
    clear hr1 hb1 K0 B0
    go_wp2_with fail
    clear k0 k1 k2 k3 k4 k5 k6 k7 k8
    go_loopw [3, 21] (fun b i wr => ∃ (k : Nat) (A2 : Option Addr) (c2 : Nat), k ≤ n ∧ i = .int .i64 k ∧ b = .slice A2 (4 + k * 12) c2 ∧ 4 + k * 12 ≤ c2 ∧ c2 ≤ maxLen ∧ Hid (Row .u8 wr wr.heap.size A2 (4 + k * 12) (enc n 4 ++ linksBytes (L.take k))) ∧ Hid (Below w.heap.size w wr)) (fun _ i _ => n - (intOf i).toNat)
    case atStart => exact ⟨0, A1, c1, Nat.zero_le _, rfl, rfl, hc1, hm1, Lib.hid (by simpa [linksBytes] using R1.out), B1⟩
    case round =>
      obtain ⟨k, A2, c2, hk, rfl, rfl, hc2, hm2, hr, hb⟩ := hrel
      by_cases hlt : k < n
      · obtain ⟨b, o, rfl, hbb, hc⟩ := (HL.out.below (hb.out.mono hB)).2 (by omega)
        obtain ⟨d0, d1, d2, d3⟩ := hc k hlt
        clear hc
        generalize hk2 : L.getD k ⟨0, 0, 0, 0⟩ = kk at d0 d1 d2 d3
        have HK := Lib.hid hk2
        have HB2 := fun o => Lib.hid (hb.out.alloc hb.out.size o)
        have HKB := Lib.hid (Blk.new wr 53 #[.int .i64 kk.kind, .int .i64 kk.id, .int .i64 kk.data, .int .i64 kk.cost])
        clear hk2
        go_wp2_with fail
        refine (put_new A2 (4 + k * 12) c2 4 (4 + k * 12 + 8) 2 4 (enc n 4 ++ linksBytes (L.take k)) [kk.id, kk.data] (enc n 4 ++ linksBytes (L.take k) ++ (enc kk.id 4 ++ enc kk.data 4)) _ _ (by simp) rfl rfl (by simp [encs]) ((hr.out.alloc (Nat.le_refl _) _).more (by simp)) (by omega) (by omega) rfl).mono ?_
        rintro e2 w2 ⟨A3, c3, rfl, hc3, hm3, hr3, hb3⟩
        have R3 := Lib.hid hr3
        have K3 := Lib.hid (HKB.out.below hb3 (by simp))
        have B3 := Lib.hid ((HB2 _).out.trans (hb3.mono (by have := hb.out.size; simp; omega)))
        have hz3 := hb3.size
        simp only [World.size_alloc] at hz3
        clear hr3 hb3 HKB d0 d1 d2 d3
        obtain ⟨k0, k1, k2, k3⟩ := K3.out.four
        go_wp2_with fail
        refine (put_new A3 (4 + k * 12 + 8) c3 1 (4 + k * 12 + 10) 2 1 _ [kk.kind, 0] (enc n 4 ++ linksBytes (L.take k) ++ (enc kk.id 4 ++ (enc kk.data 4 ++ (enc kk.kind 1 ++ enc 0 1)))) _ _ rfl rfl rfl (by simp [encs]) R3.out (by omega) (by omega) rfl).mono ?_
        rintro e3 w3 ⟨A4, c4, rfl, hc4, hm4, hr4, hb4⟩
        have R4 := Lib.hid hr4
        have K4 := Lib.hid (K3.out.below hb4 (by omega))
        have B4 := Lib.hid (B3.out.trans (hb4.mono B3.out.size))
        have hz4 := hb4.size
        clear hr4 hb4 K3 B3 R3 k0 k1 k2 k3
        obtain ⟨k0, k1, k2, k3⟩ := K4.out.four
        go_wp2_with fail
        refine (put_new A4 (4 + k * 12 + 10) c4 2 (4 + (k + 1) * 12) 1 2 _ [kk.cost] (enc n 4 ++ linksBytes (L.take (k + 1))) _ _ rfl rfl rfl (by rw [linksBytes_snoc L k (by rw [HN.out]; exact hlt), HK.out]; simp [encs, linkBytes]) R4.out (by omega) (by omega) (by omega)).mono ?_
        rintro e4 w4 ⟨A5, c5, rfl, hc5, hm5, hr5, hb5⟩
        have R5 := Lib.hid hr5
        have B5 := Lib.hid (B4.out.trans (hb5.mono B4.out.size))
        clear hr5 hb5 K4 B4 R4 k0 k1 k2 k3
        go_wp2
        go_roundw
        case rel => exact ⟨k + 1, A5, c5, by omega, by go_num, rfl, hc5, hm5, R5, B5⟩
        case measure => simp [intOf]; omega
      · obtain rfl : k = n := by omega
        have h1 := hr.out
        rw [List.take_of_length_le (by rw [HN.out]; omega), ← HN.out, ← HV.out] at h1
        have HB := Lib.hid h1
        have hl : 4 + k * 12 = m := by rw [← Hm.out, HV.out, List.length_append, enc_length, linksBytes_length, HN.out]
        have HLm := Lib.hid hl
        clear h1 hl
        go_wp2
        rw [← HQ.out, ← HLm.out]
        refine ⟨A2, c2, rfl, hc2, hm2, ?_, hb.out⟩
        have h2 := HB.out
        rw [HN.out] at h2
        exact h2
end Go.Proofs.Ytidncajbedgplaa
