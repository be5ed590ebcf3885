/- The call body of package lsa: what stands behind the head. Conditions: at most 50 links and 50 members. · Plain facts on the two sums of bytes modulo 255. No program, no conditions. · Plain facts on a description's bytes: the sum stands over what is behind the age. No program, no conditions. · Whole numbers as float64: they are put, added, compared with 0 and made whole exactly. Conditions: below 2^53. · The small calls of package fletch: left and held, and what float64 and complex128 do with whole numbers. Conditions: the numbers are below 2^53. · The calls both, lacking, Sums and Whole of package fletch. Conditions: the slice reads as bytes. -/
import Derived.Laws.FloatArith
import Derived.Laws.ComplexArith
import Derived.Test.YtnnkcgbnhjkahaaJac
import Derived.Test.YtnnkcgbnhjkahaaJaa
namespace Go.Proofs.Ytnnkcgbnhjkahaa
open Go.RowKit

/-- The twelve bytes of a link. -/
def linkBytes (k : Lk) : List Int := enc k.id 4 ++ (enc k.data 4 ++ (enc k.kind 1 ++ (enc 0 1 ++ enc k.cost 2)))
theorem linkBytes_length (k : Lk) : (linkBytes k).length = 12 := by simp [linkBytes, enc_length]
theorem linkBytes_byt (k : Lk) : Byt (linkBytes k) := by
  unfold linkBytes
  repeat' (first | exact enc_byt _ _ | refine Byt.append ?_ ?_)
/-- All links' bytes. -/
def linksBytes : List Lk → List Int
  | [] => []
  | k :: l => linkBytes k ++ linksBytes l
theorem linksBytes_append (a b : List Lk) : linksBytes (a ++ b) = linksBytes a ++ linksBytes b := by
  induction a with
  | nil => rfl
  | cons x a ih => simp [linksBytes, ih]
theorem linksBytes_length (l : List Lk) : (linksBytes l).length = l.length * 12 := by
  induction l with
  | nil => rfl
  | cons x l ih => simp only [linksBytes, List.length_append, linkBytes_length, ih, List.length_cons]; omega
theorem linksBytes_byt (l : List Lk) : Byt (linksBytes l) := by
  induction l with
  | nil => exact Byt.nil
  | cons x l ih => exact (linkBytes_byt x).append ih
theorem linksBytes_snoc (l : List Lk) (k : Nat) (h : k < l.length) : linksBytes (l.take (k + 1)) = linksBytes (l.take k) ++ linkBytes (l.getD k ⟨0, 0, 0, 0⟩) := by
  rw [List.take_succ_eq_append_getElem h, linksBytes_append, List.getD_eq_getElem?_getD, List.getElem?_eq_getElem h]
  simp [linksBytes]
/-- What stands behind the head. -/
def bodyBytes (h : Hd) (L : List Lk) (M : List Int) : List Int := if h.kind = 1 then enc L.length 4 ++ linksBytes L else encs 4 M
theorem bodyBytes_byt (h : Hd) (L : List Lk) (M : List Int) : Byt (bodyBytes h L M) := by
  unfold bodyBytes
  split
  · exact (enc_byt _ _).append (linksBytes_byt _)
  · exact encs_byt _ _

theorem Blk.nine {w : World} {g : Nat} {t : TypeId} {a0 a1 a2 a3 a4 a5 a6 a7 a8 : Value} (h : Blk w g t #[a0, a1, a2, a3, a4, a5, a6, a7, a8]) :
    w.cell? ⟨g, 0, none⟩ = some a0 ∧ w.cell? ⟨g, 1, none⟩ = some a1 ∧ w.cell? ⟨g, 2, none⟩ = some a2 ∧ w.cell? ⟨g, 3, none⟩ = some a3 ∧ w.cell? ⟨g, 4, none⟩ = some a4 ∧ w.cell? ⟨g, 5, none⟩ = some a5 ∧ w.cell? ⟨g, 6, none⟩ = some a6 ∧ w.cell? ⟨g, 7, none⟩ = some a7 ∧ w.cell? ⟨g, 8, none⟩ = some a8 :=
  ⟨h.cell 0, h.cell 1, h.cell 2, h.cell 3, h.cell 4, h.cell 5, h.cell 6, h.cell 7, h.cell 8⟩
theorem Blk.four {w : World} {g : Nat} {t : TypeId} {a0 a1 a2 a3 : Value} (h : Blk w g t #[a0, a1, a2, a3]) :
    w.cell? ⟨g, 0, none⟩ = some a0 ∧ w.cell? ⟨g, 1, none⟩ = some a1 ∧ w.cell? ⟨g, 2, none⟩ = some a2 ∧ w.cell? ⟨g, 3, none⟩ = some a3 :=
  ⟨h.cell 0, h.cell 1, h.cell 2, h.cell 3⟩

set_option maxRecDepth 4000 in
set_option maxHeartbeats 4000000 in
theorem body_any (h : Hd) (L : List Lk) (M : List Int) (A A' : Option Addr) (n c n' c' B m : Nat) (w : World) (hL : Lnk w B A n L) (hM : Row .i64 w B A' n' M) (hB : B ≤ w.heap.size) (hn : n ≤ 50) (hn' : n' ≤ 50) (hk : h.kind = 1 ∨ h.kind = 2) (hm : (bodyBytes h L M).length = m) :
    Calls Try.prog 95 #[.agg #[.int .i64 h.age, .int .i64 h.kind, .int .i64 h.id, .int .i64 h.adv, .int .i64 h.seq, .int .i64 h.sum, .int .i64 h.long, .slice A n c, .slice A' n' c']] w
    (PutN w (bodyBytes h L M) m) := by
  generalize hQ : PutN w (bodyBytes h L M) m = Q
  have HQ := Lib.hid hQ
  have HL := Lib.hid hL
  have HM := Lib.hid hM
  have HN := Lib.hid hL.1
  have Hm := Lib.hid hm
  clear hQ hL hM hm
  have B0 := Lib.hid ((Below.refl w.heap.size w).alloc (Nat.le_refl _) (.cells #[.int .i64 h.age, .int .i64 h.kind, .int .i64 h.id, .int .i64 h.adv, .int .i64 h.seq, .int .i64 h.sum, .int .i64 h.long, .slice A n c, .slice A' n' c'] 62))
  have K0 := Lib.hid (Blk.new w 62 #[.int .i64 h.age, .int .i64 h.kind, .int .i64 h.id, .int .i64 h.adv, .int .i64 h.seq, .int .i64 h.sum, .int .i64 h.long, .slice A n c, .slice A' n' c'])
  by_cases h2 : h.kind = 2
  · have hd : (h.kind == 2) = true := by simp [h2]
    have HV := Lib.hid (show bodyBytes h L M = encs 4 M by unfold bodyBytes; rw [if_neg (by omega)])
    clear h2 hk
    go_enter Try.func95, Try.ntmps95
    go_wp2_with fail
    refine (put_any none A' 0 0 n' c' 0 B 4 [] M _ Row.nil (HM.out.alloc hB _) (Nat.zero_le _) (by simp; omega) (by omega) (by omega)).mono ?_
    intro e1 w1 hp
    have ev : [] ++ encs (hold 4).toNat M = bodyBytes h L M := by rw [HV.out]; rfl
    rw [ev] at hp
    obtain ⟨A1, c1, rfl, hc1, hm1, hr1, hb1⟩ := putN_of m hp Hm.out
    have R1 := Lib.hid hr1
    have B1 := Lib.hid (B0.out.trans (hb1.mono (by simp)))
    clear ev hp hr1 hb1
    go_wp2
    rw [← HQ.out]
    exact ⟨_, _, rfl, hc1, hm1, R1.out, B1.out⟩
  · have hd : (h.kind == 2) = false := by simp [h2]
    have HV := Lib.hid (show bodyBytes h L M = enc L.length 4 ++ linksBytes L by unfold bodyBytes; rw [if_pos (by omega)])
    clear h2 hk
    go_enter Try.func95, Try.ntmps95
    go_wp2_with fail
    refine (put_new none 0 0 4 4 1 4 [] [(n : Int)] (enc n 4) _ _ (by simp) rfl rfl (by simp [encs]) Row.nil (by omega) (by omega) rfl).mono ?_
    rintro e1 w1 ⟨A1, c1, rfl, hc1, hm1, hr1, hb1⟩
    have R1 := Lib.hid hr1
    have K1 := Lib.hid (K0.out.below hb1 (by simp))
    have B1 := Lib.hid (B0.out.trans (hb1.mono (by simp)))
    have hz1 := hb1.size
    simp only [World.size_alloc] at hz1
    obtain ⟨k0, k1, k2, k3, k4, k5, k6, k7, k8⟩ := K1.out.nine
    clear hr1 hb1 K0 B0
    go_wp2_with fail
    clear k0 k1 k2 k3 k4 k5 k6 k7 k8
    go_loopw [3, 21] (fun b i wr => ∃ (k : Nat) (A2 : Option Addr) (c2 : Nat), k ≤ n ∧ i = .int .i64 k ∧ b = .slice A2 (4 + k * 12) c2 ∧ 4 + k * 12 ≤ c2 ∧ c2 ≤ maxLen ∧ Hid (Row .u8 wr wr.heap.size A2 (4 + k * 12) (enc n 4 ++ linksBytes (L.take k))) ∧ Hid (Below w.heap.size w wr)) (fun _ i _ => n - (intOf i).toNat)
    case atStart => exact ⟨0, A1, c1, Nat.zero_le _, rfl, rfl, hc1, hm1, Lib.hid (by simpa [linksBytes] using R1.out), B1⟩
    case round =>
      obtain ⟨k, A2, c2, hk, rfl, rfl, hc2, hm2, hr, hb⟩ := hrel
      by_cases hlt : k < n
      · obtain ⟨b, o, rfl, hbb, hc⟩ := (HL.out.below (hb.out.mono hB)).2 (by omega)
        obtain ⟨d0, d1, d2, d3⟩ := hc k hlt
        clear hc
        generalize hk2 : L.getD k ⟨0, 0, 0, 0⟩ = kk at d0 d1 d2 d3
        have HK := Lib.hid hk2
        have HB2 := fun o => Lib.hid (hb.out.alloc hb.out.size o)
        have HKB := Lib.hid (Blk.new wr 96 #[.int .i64 kk.kind, .int .i64 kk.id, .int .i64 kk.data, .int .i64 kk.cost])
        clear hk2
        go_wp2_with fail
        refine (put_new A2 (4 + k * 12) c2 4 (4 + k * 12 + 8) 2 4 (enc n 4 ++ linksBytes (L.take k)) [kk.id, kk.data] (enc n 4 ++ linksBytes (L.take k) ++ (enc kk.id 4 ++ enc kk.data 4)) _ _ (by simp) rfl rfl (by simp [encs]) ((hr.out.alloc (Nat.le_refl _) _).more (by simp)) (by omega) (by omega) rfl).mono ?_
        rintro e2 w2 ⟨A3, c3, rfl, hc3, hm3, hr3, hb3⟩
        have R3 := Lib.hid hr3
        have K3 := Lib.hid (HKB.out.below hb3 (by simp))
        have B3 := Lib.hid ((HB2 _).out.trans (hb3.mono (by have := hb.out.size; simp; omega)))
        have hz3 := hb3.size
        simp only [World.size_alloc] at hz3
        clear hr3 hb3 HKB d0 d1 d2 d3
        obtain ⟨k0, k1, k2, k3⟩ := K3.out.four
        go_wp2_with fail
        refine (put_new A3 (4 + k * 12 + 8) c3 1 (4 + k * 12 + 10) 2 1 _ [kk.kind, 0] (enc n 4 ++ linksBytes (L.take k) ++ (enc kk.id 4 ++ (enc kk.data 4 ++ (enc kk.kind 1 ++ enc 0 1)))) _ _ rfl rfl rfl (by simp [encs]) R3.out (by omega) (by omega) rfl).mono ?_
        rintro e3 w3 ⟨A4, c4, rfl, hc4, hm4, hr4, hb4⟩
        have R4 := Lib.hid hr4
        have K4 := Lib.hid (K3.out.below hb4 (by omega))
        have B4 := Lib.hid (B3.out.trans (hb4.mono B3.out.size))
        have hz4 := hb4.size
        clear hr4 hb4 K3 B3 R3 k0 k1 k2 k3
        obtain ⟨k0, k1, k2, k3⟩ := K4.out.four
        go_wp2_with fail
        refine (put_new A4 (4 + k * 12 + 10) c4 2 (4 + (k + 1) * 12) 1 2 _ [kk.cost] (enc n 4 ++ linksBytes (L.take (k + 1))) _ _ rfl rfl rfl (by rw [linksBytes_snoc L k (by rw [HN.out]; exact hlt), HK.out]; simp [encs, linkBytes]) R4.out (by omega) (by omega) (by omega)).mono ?_
        rintro e4 w4 ⟨A5, c5, rfl, hc5, hm5, hr5, hb5⟩
        have R5 := Lib.hid hr5
        have B5 := Lib.hid (B4.out.trans (hb5.mono B4.out.size))
        clear hr5 hb5 K4 B4 R4 k0 k1 k2 k3
        go_wp2
        go_roundw
        case rel => exact ⟨k + 1, A5, c5, by omega, by go_num, rfl, hc5, hm5, R5, B5⟩
        case measure => simp [intOf]; omega
      · obtain rfl : k = n := by omega
        have h1 := hr.out
        rw [List.take_of_length_le (by rw [HN.out]; omega), ← HN.out, ← HV.out] at h1
        have HB := Lib.hid h1
        have hl : 4 + k * 12 = m := by rw [← Hm.out, HV.out, List.length_append, enc_length, linksBytes_length, HN.out]
        have HLm := Lib.hid hl
        clear h1 hl
        go_wp2
        rw [← HQ.out, ← HLm.out]
        refine ⟨A2, c2, rfl, hc2, hm2, ?_, hb.out⟩
        have h2 := HB.out
        rw [HN.out] at h2
        exact h2
end Go.Proofs.Ytnnkcgbnhjkahaa
namespace Go.Proofs.Ytnnkcgbnhjkahaa

/-- The sum of all. -/
def ffst : List Int → Int
  | [] => 0
  | b :: l => b + ffst l
/-- The sum of each times how many stand from it on. -/
def fsnd : List Int → Int
  | [] => 0
  | b :: l => (l.length + 1 : Int) * b + fsnd l
theorem ffst_append (a b : List Int) : ffst (a ++ b) = ffst a + ffst b := by
  induction a with
  | nil => simp [ffst]
  | cons x a ih => simp only [List.cons_append, ffst, ih]; omega
theorem fsnd_append (a b : List Int) : fsnd (a ++ b) = fsnd a + b.length * ffst a + fsnd b := by
  induction a with
  | nil => simp [fsnd, ffst]
  | cons x a ih =>
    simp only [List.cons_append, fsnd, ffst, ih, List.length_append]
    grind
theorem ffst_snoc (l : List Int) (b : Int) : ffst (l ++ [b]) = ffst l + b := by
  rw [ffst_append]; simp [ffst]
theorem fsnd_snoc (l : List Int) (b : Int) : fsnd (l ++ [b]) = fsnd l + (ffst l + b) := by
  rw [fsnd_append]; simp [fsnd]; omega
theorem ffst_set (l : List Int) (k : Nat) (h : k < l.length) (y : Int) : ffst (l.set k y) = ffst l + (y - l.getD k 0) := by
  induction l generalizing k with
  | nil => simp at h
  | cons x l ih =>
    cases k with
    | zero => simp [ffst]; omega
    | succ k =>
      have := ih k (by simpa using h)
      simp only [List.set_cons_succ, ffst, this, List.getD_cons_succ]; omega
theorem fsnd_set (l : List Int) (k : Nat) (h : k < l.length) (y : Int) : fsnd (l.set k y) = fsnd l + ((l.length : Int) - k) * (y - l.getD k 0) := by
  induction l generalizing k with
  | nil => simp at h
  | cons x l ih =>
    cases k with
    | zero =>
      simp only [List.set_cons_zero, fsnd, List.getD_cons_zero, List.length_cons]
      grind
    | succ k =>
      have := ih k (by simpa using h)
      simp only [List.set_cons_succ, fsnd, this, List.getD_cons_succ, List.length_set, List.length_cons]
      grind
theorem ffst_bd (l : List Int) (h : Byt l) : 0 ≤ ffst l ∧ ffst l ≤ 255 * l.length := by
  induction l with
  | nil => simp [ffst]
  | cons x l ih =>
    have h1 := h x (List.mem_cons_self ..)
    have h2 := ih (fun y hy => h y (List.mem_cons_of_mem _ hy))
    simp only [ffst, List.length_cons]
    omega

/-- Behind the bytes l: both sums modulo 255, as whole numbers. -/
def Two (l : List Int) (x y : Nat) : Prop := (x : Int) = ffst l % 255 ∧ (y : Int) = fsnd l % 255
theorem Two.nil : Two [] 0 0 := ⟨rfl, rfl⟩
theorem Two.lt {l : List Int} {x y : Nat} (h : Two l x y) : x < 255 ∧ y < 255 := by
  have h1 := h.1
  have h2 := h.2
  omega
theorem Two.snoc {l : List Int} {x y : Nat} (h : Two l x y) (z : Nat) : Two (l ++ [(z : Int)]) ((x + z) % 255) ((y + (x + z)) % 255) := by
  have h1 := h.1
  have h2 := h.2
  unfold Two
  rw [ffst_snoc, fsnd_snoc]
  omega
theorem two_of (l : List Int) : ∃ x y, Two l x y := ⟨(ffst l % 255).toNat, (fsnd l % 255).toNat, by unfold Two; omega⟩
theorem Two.unique {l : List Int} {x y u v : Nat} (h : Two l x y) (k : Two l u v) : x = u ∧ y = v := by
  have h1 := h.1
  have h2 := h.2
  have k1 := k.1
  have k2 := k.2
  omega

/-- Are bytes whole? -/
def wholeB (l : List Int) : Bool := decide (0 < l.length ∧ ffst l % 255 = 0 ∧ fsnd l % 255 = 0)
theorem Two.whole {l : List Int} {x y : Nat} (h : Two l x y) (h0 : 0 < l.length) : wholeB l = (decide (x = 0) && decide (y = 0)) := by
  have h1 := h.1
  have h2 := h.2
  unfold wholeB
  rw [Bool.eq_iff_iff]
  simp [h0]
  omega

/-- Bytes with two zeros from k on. -/
def fzero (l : List Int) (k : Nat) : List Int := (l.set k 0).set (k + 1) 0
/-- Bytes with two others from k on. -/
def put2 (l : List Int) (k : Nat) (x y : Int) : List Int := (l.set k x).set (k + 1) y
theorem put2_length (l : List Int) (k : Nat) (x y : Int) : (put2 l k x y).length = l.length := by simp [put2]
theorem fzero_eq (l : List Int) (k : Nat) : fzero l k = put2 l k 0 0 := rfl
theorem put2_put2 (l : List Int) (k : Nat) (a b x y : Int) : put2 (put2 l k a b) k x y = put2 l k x y := by
  unfold put2
  rw [List.set_comm _ _ (by omega : k + 1 ≠ k), List.set_set, List.set_set]
theorem set_byt {l : List Int} (h : Byt l) (k : Nat) {y : Int} (h0 : 0 ≤ y) (h1 : y ≤ 255) : Byt (l.set k y) := fun x hx => by
  rcases List.mem_or_eq_of_mem_set hx with hx | rfl
  · exact h x hx
  · exact ⟨h0, h1⟩
theorem put2_byt {l : List Int} (h : Byt l) (k : Nat) {x y : Int} (h0 : 0 ≤ x) (h1 : x ≤ 255) (k0 : 0 ≤ y) (k1 : y ≤ 255) : Byt (put2 l k x y) := set_byt (set_byt h k h0 h1) (k + 1) k0 k1
theorem put2_at (l : List Int) (k : Nat) (h : k + 1 < l.length) (x y : Int) : (put2 l k x y).getD k 0 = x ∧ (put2 l k x y).getD (k + 1) 0 = y := by
  unfold put2
  constructor
  · rw [List.getD_eq_getElem?_getD, List.getElem?_set_ne (by omega), List.getElem?_set_self (by omega)]; rfl
  · rw [List.getD_eq_getElem?_getD, List.getElem?_set_self (by simpa using h)]; rfl
theorem put2_fst (l : List Int) (k : Nat) (h : k + 1 < l.length) (x y : Int) : ffst (put2 l k x y) = ffst (fzero l k) + (x + y) := by
  have e : put2 l k x y = put2 (fzero l k) k x y := (put2_put2 l k 0 0 x y).symm
  have h0 := put2_at l k h 0 0
  have hl := put2_length l k 0 0
  rw [e]
  rw [fzero_eq]
  generalize put2 l k 0 0 = z at *
  unfold put2
  rw [ffst_set _ _ (by simp; omega), ffst_set _ _ (by omega), List.getD_eq_getElem?_getD (i := k + 1), List.getElem?_set_ne (by omega), ← List.getD_eq_getElem?_getD, h0.1, h0.2]
  omega
theorem put2_snd (l : List Int) (k : Nat) (h : k + 1 < l.length) (x y : Int) : fsnd (put2 l k x y) = fsnd (fzero l k) + (((l.length : Int) - k - 1) * (x + y) + x) := by
  have e : put2 l k x y = put2 (fzero l k) k x y := (put2_put2 l k 0 0 x y).symm
  have h0 := put2_at l k h 0 0
  have hl := put2_length l k 0 0
  rw [e]
  rw [fzero_eq]
  generalize put2 l k 0 0 = z at *
  unfold put2
  rw [fsnd_set _ _ (by simp; omega), fsnd_set _ _ (by omega), List.getD_eq_getElem?_getD (i := k + 1), List.getElem?_set_ne (by omega), ← List.getD_eq_getElem?_getD, h0.1, h0.2, List.length_set, hl]
  push_cast
  grind

/-- The first byte that is lacking, of both sums of the rest and how many stand from the second one on. -/
def lackX (x y s : Int) : Int := (s % 255 * x - y) % 255
/-- The second one. -/
def lackY (x X : Int) : Int := (-x - X) % 255
theorem lackX_bd (x y s : Int) : 0 ≤ lackX x y s ∧ lackX x y s ≤ 254 := by unfold lackX; omega
theorem lackY_bd (x X : Int) : 0 ≤ lackY x X ∧ lackY x X ≤ 254 := by unfold lackY; omega
/-- Bytes, made whole from k on. -/
def ffill (l : List Int) (k : Nat) : List Int :=
  put2 l k (lackX (ffst (fzero l k) % 255) (fsnd (fzero l k) % 255) ((l.length : Int) - k - 1)) (lackY (ffst (fzero l k) % 255) (lackX (ffst (fzero l k) % 255) (fsnd (fzero l k) % 255) ((l.length : Int) - k - 1)))
theorem ffill_length (l : List Int) (k : Nat) : (ffill l k).length = l.length := put2_length _ _ _ _
theorem ffill_byt {l : List Int} (h : Byt l) (k : Nat) : Byt (ffill l k) := by
  have h1 := lackX_bd (ffst (fzero l k) % 255) (fsnd (fzero l k) % 255) ((l.length : Int) - k - 1)
  have h2 := lackY_bd (ffst (fzero l k) % 255) (lackX (ffst (fzero l k) % 255) (fsnd (fzero l k) % 255) ((l.length : Int) - k - 1))
  exact put2_byt h k h1.1 (by omega) h2.1 (by omega)
theorem mod_of (a b q : Int) (h : a = b + 255 * q) : a % 255 = b % 255 := by omega

/-- Two bytes of which the sum is right: both sums are, just if the first byte is the one that is lacking. -/
theorem whole_iff (l : List Int) (k : Nat) (h : k + 1 < l.length) (i j : Int) (hi : 0 ≤ i) (hi2 : i ≤ 254) (hj : j = (-(ffst (fzero l k) % 255) - i) % 255) :
    wholeB (put2 l k i j) = decide (i = lackX (ffst (fzero l k) % 255) (fsnd (fzero l k) % 255) ((l.length : Int) - k - 1)) := by
  unfold wholeB
  rw [put2_fst l k h, put2_snd l k h, put2_length, decide_eq_decide]
  generalize ffst (fzero l k) = a at *
  generalize fsnd (fzero l k) = b at *
  generalize (l.length : Int) - k - 1 = s
  have hl : 0 < l.length := by omega
  unfold lackX
  obtain ⟨qa, ha⟩ : ∃ q, a % 255 = a + 255 * q := ⟨-(a / 255), by omega⟩
  obtain ⟨qb, hb⟩ : ∃ q, b % 255 = b + 255 * q := ⟨-(b / 255), by omega⟩
  obtain ⟨qs, hs⟩ : ∃ q, s % 255 = s + 255 * q := ⟨-(s / 255), by omega⟩
  obtain ⟨qj, hqj⟩ : ∃ q, j = -a - i + 255 * q := by
    refine ⟨-qa - ((-(a % 255) - i) / 255), ?_⟩
    have : (-(a % 255) - i) % 255 = (-(a % 255) - i) - 255 * ((-(a % 255) - i) / 255) := by omega
    rw [hj, this, ha]; omega
  have e1 : (a + (i + j)) % 255 = 0 := by rw [hqj]; omega
  have e2 : b + (s * (i + j) + i) = b + i - s * a + 255 * (s * qj) := by rw [hqj]; grind
  have e3 : s % 255 * (a % 255) - b % 255 = s * a - b + 255 * (s * qa + qs * a + 255 * (qs * qa) - qb) := by rw [ha, hb, hs]; grind
  rw [mod_of _ _ _ e2, mod_of _ _ _ e3, e1]
  generalize s * a = p
  omega
end Go.Proofs.Ytnnkcgbnhjkahaa
namespace Go.Proofs.Ytnnkcgbnhjkahaa

/-- The head with its length, and what stands behind it, before the sum is set. -/
def rawBytes (h : Hd) (L : List Lk) (M : List Int) (s : Int) : List Int := headBytes { h with sum := s, long := 20 + (bodyBytes h L M).length } ++ bodyBytes h L M
/-- A description's bytes. -/
def lsaBytes (h : Hd) (L : List Lk) (M : List Int) : List Int := (rawBytes h L M 0).take 2 ++ ffill ((rawBytes h L M 0).drop 2) 14
theorem rawBytes_length (h : Hd) (L : List Lk) (M : List Int) (s : Int) : (rawBytes h L M s).length = 20 + (bodyBytes h L M).length := by
  rw [rawBytes, List.length_append, headBytes_length]
theorem rawBytes_byt (h : Hd) (L : List Lk) (M : List Int) (s : Int) : Byt (rawBytes h L M s) := (headBytes_byt _).append (bodyBytes_byt _ _ _)
theorem lsaBytes_length (h : Hd) (L : List Lk) (M : List Int) : (lsaBytes h L M).length = 20 + (bodyBytes h L M).length := by
  rw [lsaBytes, List.length_append, ffill_length, List.length_take, List.length_drop, rawBytes_length]
  omega
theorem lsaBytes_byt (h : Hd) (L : List Lk) (M : List Int) : Byt (lsaBytes h L M) := ((rawBytes_byt h L M 0).take 2).append (ffill_byt ((rawBytes_byt h L M 0).drop 2) 14)
/-- What stands between the age and the sum. -/
def midBytes (h : Hd) : List Int := enc 0 1 ++ (enc h.kind 1 ++ (enc h.id 4 ++ (enc h.adv 4 ++ enc h.seq 4)))
theorem midBytes_length (h : Hd) : (midBytes h).length = 14 := by simp [midBytes, enc_length]
theorem enc_two (n : Int) : enc n 2 = [byteAt n 1, byteAt n 0] := rfl
theorem rawBytes_parts (h : Hd) (L : List Lk) (M : List Int) (s : Int) : rawBytes h L M s = enc h.age 2 ++ (midBytes h ++ (enc s 2 ++ (enc (20 + ((bodyBytes h L M).length : Int)) 2 ++ bodyBytes h L M))) := by
  simp [rawBytes, headBytes, midBytes]
theorem raw_take (h : Hd) (L : List Lk) (M : List Int) (s : Int) : (rawBytes h L M s).take 2 = enc h.age 2 := by
  rw [rawBytes_parts]
  exact List.take_left' (enc_length _ _)
theorem raw_drop (h : Hd) (L : List Lk) (M : List Int) (s : Int) : (rawBytes h L M s).drop 2 = midBytes h ++ (enc s 2 ++ (enc (20 + ((bodyBytes h L M).length : Int)) 2 ++ bodyBytes h L M)) := by
  rw [rawBytes_parts]
  exact List.drop_left' (enc_length _ _)
theorem put2_mid (a r : List Int) (p q x y : Int) (k : Nat) (hk : a.length = k) : put2 (a ++ (p :: q :: r)) k x y = a ++ (x :: y :: r) := by
  subst hk
  unfold put2
  rw [List.set_append_right _ _ (Nat.le_refl _), Nat.sub_self, List.set_cons_zero, List.set_append_right _ _ (by omega)]
  simp
/-- Fill asks nothing of the two bytes that it sets. -/
theorem ffill_mid (a r : List Int) (p q p' q' : Int) (k : Nat) (hk : a.length = k) : ffill (a ++ (p :: q :: r)) k = ffill (a ++ (p' :: q' :: r)) k := by
  have e1 : fzero (a ++ (p :: q :: r)) k = fzero (a ++ (p' :: q' :: r)) k := by
    rw [fzero_eq, fzero_eq, put2_mid a r p q 0 0 k hk, put2_mid a r p' q' 0 0 k hk]
  unfold ffill
  rw [e1]
  have e2 : (a ++ (p :: q :: r)).length = (a ++ (p' :: q' :: r)).length := by simp
  rw [e2, put2_mid a r p q _ _ k hk, put2_mid a r p' q' _ _ k hk]
theorem ffill_take (l : List Int) (k : Nat) : (ffill l k).take k = l.take k := by
  unfold ffill put2
  rw [List.take_set_of_le (by omega), List.take_set_of_le (by omega)]
/-- As package lsa lays them: what leads up to the sum, and the rest of what was filled. -/
theorem sealed_bytes (h : Hd) (L : List Lk) (M : List Int) : (rawBytes h L M h.sum).take 16 ++ (ffill ((rawBytes h L M h.sum).drop 2) 14).drop 14 = lsaBytes h L M := by
  have e1 : ffill ((rawBytes h L M h.sum).drop 2) 14 = ffill ((rawBytes h L M 0).drop 2) 14 := by
    rw [raw_drop, raw_drop, enc_two, enc_two]
    exact ffill_mid (midBytes h) _ _ _ _ _ 14 (midBytes_length h)
  have e2 : (rawBytes h L M h.sum).take 16 = (rawBytes h L M 0).take 2 ++ (ffill ((rawBytes h L M 0).drop 2) 14).take 14 := by
    rw [ffill_take, raw_take, raw_drop]
    rw [rawBytes_parts, ← List.append_assoc, List.take_left' (by simp [enc_length, midBytes_length]), List.take_left' (midBytes_length h)]
  rw [e1, e2, List.append_assoc, List.take_append_drop]
  rfl
end Go.Proofs.Ytnnkcgbnhjkahaa
namespace Go.Proofs.Ytnnkcgbnhjkahaa
open Ieee

theorem log2_shift (n k : Nat) (h : n ≠ 0) : (n * 2 ^ k).log2 = n.log2 + k := by
  have hp : 0 < 2 ^ k := Nat.two_pow_pos k
  have h1 := (Nat.le_log2 h).1 (Nat.le_refl n.log2)
  have h2 := (Nat.log2_lt h).1 (Nat.lt_succ_self n.log2)
  have hn : n * 2 ^ k ≠ 0 := Nat.mul_ne_zero h (by omega)
  apply Nat.le_antisymm
  · refine Nat.le_of_lt_succ ((Nat.log2_lt hn).2 ?_)
    rw [show (n.log2 + k).succ = n.log2.succ + k from by omega, Nat.pow_add]
    exact Nat.mul_lt_mul_of_pos_right h2 hp
  · refine (Nat.le_log2 hn).2 ?_
    rw [Nat.pow_add]
    exact Nat.mul_le_mul_right _ h1

/-- Nothing is lost where what is dropped is 0. -/
theorem cut_exact (way : Toward) (hw : way = .even ∨ way = .zero) (n k : Nat) : way.cut false (n * 2 ^ k) k = n := by
  unfold Toward.cut
  by_cases h : n = 0
  · subst h
    rcases hw with rfl | rfl <;> simp
  · have e : min k ((n * 2 ^ k).log2 + 2) = k := by rw [log2_shift n k h]; omega
    have hp : 0 < 2 ^ k := Nat.two_pow_pos k
    simp only [e, Nat.one_shiftLeft, Nat.mul_mod_left, Nat.mul_div_cancel _ hp]
    rcases hw with rfl | rfl <;> simp

theorem format_f64 : FloatKind.f64.format = double := rfl

/-- The word of a whole number above 0. -/
theorem nearest_pos (n M : Nat) (h0 : n ≠ 0) (h : n < 2 ^ 53) : double.nearest false (n * 2 ^ M) (-(M : Int)) = (n.log2 + 1022) * 2 ^ 52 + n * 2 ^ (52 - n.log2) := by
  have hl : n.log2 ≤ 52 := Nat.le_of_lt_succ ((Nat.log2_lt h0).2 h)
  have h1 := (Nat.le_log2 h0).1 (Nat.le_refl n.log2)
  have h2 := (Nat.log2_lt h0).1 (Nat.lt_succ_self n.log2)
  have hp : 0 < 2 ^ M := Nat.two_pow_pos M
  have hm : n * 2 ^ M ≠ 0 := Nat.mul_ne_zero h0 (by omega)
  have k2 : n * 2 ^ (52 - n.log2) < 2 ^ 53 := by
    have := Nat.mul_lt_mul_of_pos_right h2 (Nat.two_pow_pos (52 - n.log2))
    rw [← Nat.pow_add, show n.log2 + 1 + (52 - n.log2) = 53 from by omega] at this
    exact this
  unfold Format.nearest
  rw [if_neg hm]
  simp only [log2_shift n M h0]
  have e1 : max (-(M : Int) + ((n.log2 + M : Nat) : Int) - (double.fractionBits : Int)) double.leastPlace = (n.log2 : Int) - 52 := by
    have a : double.leastPlace = -1074 := by decide
    have b : double.fractionBits = 52 := rfl
    rw [a, b]
    omega
  rw [e1]
  have e2 : (((n.log2 : Int) - 52) - double.leastPlace).toNat = n.log2 + 1022 := by
    have a : double.leastPlace = -1074 := by decide
    rw [a]
    omega
  rw [e2]
  have e3 : Toward.even.cut false ((n * 2 ^ M) <<< (-(M : Int) - ((n.log2 : Int) - 52)).toNat) (((n.log2 : Int) - 52) - -(M : Int)).toNat = n * 2 ^ (52 - n.log2) := by
    by_cases hc : 52 - n.log2 ≤ M
    · have a : (-(M : Int) - ((n.log2 : Int) - 52)).toNat = 0 := by omega
      have b : (((n.log2 : Int) - 52) - -(M : Int)).toNat = M - (52 - n.log2) := by omega
      rw [a, b, Nat.shiftLeft_zero]
      have c : n * 2 ^ M = n * 2 ^ (52 - n.log2) * 2 ^ (M - (52 - n.log2)) := by
        rw [Nat.mul_assoc, ← Nat.pow_add]; congr 2; omega
      rw [c]
      exact cut_exact _ (.inl rfl) _ _
    · have a : (-(M : Int) - ((n.log2 : Int) - 52)).toNat = 52 - n.log2 - M := by omega
      have b : (((n.log2 : Int) - 52) - -(M : Int)).toNat = 0 := by omega
      rw [a, b, Nat.shiftLeft_eq, Nat.mul_assoc, ← Nat.pow_add]
      have c := cut_exact .even (.inl rfl) (n * 2 ^ (M + (52 - n.log2 - M))) 0
      rw [Nat.pow_zero, Nat.mul_one] at c
      rw [c]
      congr 2
      omega
  rw [e3]
  have hb : double.binade = 2 ^ 52 := rfl
  have hi : double.infRung = 2047 * 2 ^ 52 := by decide
  rw [hb, hi, Nat.min_eq_left (by omega)]
  rfl

/-- The word of a whole number. -/
def flo (n : Nat) : Nat := floatOfInt .f64 n
theorem flo_eq (n : Nat) : flo n = double.nearest false n 0 := by
  unfold flo floatOfInt FloatKind.nearest FloatKind.encode
  have : decide ((n : Int) < 0) = false := by simp
  rw [this]
  rfl
theorem flo_zero : flo 0 = 0 := by decide
theorem nearest_flo (n M : Nat) (h : n < 2 ^ 53) : double.nearest false (n * 2 ^ M) (-(M : Int)) = flo n := by
  rw [flo_eq]
  by_cases h0 : n = 0
  · subst h0
    simp [Format.nearest]
  · rw [nearest_pos n M h0 h]
    have := nearest_pos n 0 h0 h
    simp only [Nat.pow_zero, Nat.mul_one] at this
    exact this.symm

theorem read_zero : double.read 0 = .number false 0 (-1074) := by decide
theorem read_flo (n : Nat) (h : n < 2 ^ 53) : ∃ k : Nat, k ≤ 1074 ∧ double.read (flo n) = .number false (n * 2 ^ k) (-(k : Int)) := by
  by_cases h0 : n = 0
  · subst h0
    generalize hE : 1074 = E
    refine ⟨E, Nat.le_refl _, ?_⟩
    rw [flo_zero, Nat.zero_mul, ← hE]
    exact read_zero
  · have hl : n.log2 ≤ 52 := Nat.le_of_lt_succ ((Nat.log2_lt h0).2 h)
    have h1 := (Nat.le_log2 h0).1 (Nat.le_refl n.log2)
    have h2 := (Nat.log2_lt h0).1 (Nat.lt_succ_self n.log2)
    have k2 : n * 2 ^ (52 - n.log2) < 2 ^ 53 := by
      have := Nat.mul_lt_mul_of_pos_right h2 (Nat.two_pow_pos (52 - n.log2))
      rw [← Nat.pow_add, show n.log2 + 1 + (52 - n.log2) = 53 from by omega] at this
      exact this
    have k1 : 2 ^ 52 ≤ n * 2 ^ (52 - n.log2) := by
      have := Nat.mul_le_mul_right (2 ^ (52 - n.log2)) h1
      rw [← Nat.pow_add, show n.log2 + (52 - n.log2) = 52 from by omega] at this
      exact this
    have e := nearest_flo n 0 h
    rw [nearest_pos n 0 h0 h] at e
    rw [← e]
    refine ⟨52 - n.log2, by omega, ?_⟩
    generalize n * 2 ^ (52 - n.log2) = m at *
    generalize n.log2 = L at *
    have hb : double.binade = 4503599627370496 := by decide
    have hi : double.infRung = 9218868437227405312 := by decide
    have hs : double.signWeight = 9223372036854775808 := by decide
    have hl' : double.leastPlace = -1074 := by decide
    have p52 : 2 ^ 52 = 4503599627370496 := by decide
    have p53 : 2 ^ 53 = 9007199254740992 := by decide
    rw [p52] at k1 ⊢
    rw [p53] at k2
    clear h h1 h2 e p52 p53
    refine (fun (key : ∀ W, W = (L + 1022) * 4503599627370496 + m → double.read W = .number false m (-((52 - L : Nat) : Int))) => key _ rfl) (fun W hW => ?_)
    unfold Format.read
    simp only [hb, hi, hs, hl']
    have a1 : W % 9223372036854775808 = W := Nat.mod_eq_of_lt (by omega)
    have a2 : W / 9223372036854775808 = 0 := Nat.div_eq_of_lt (by omega)
    have a3 : 4503599627370496 + W % 4503599627370496 = m := by omega
    have a4 : W / 4503599627370496 = L + 1023 := by omega
    rw [a1, a2, a3, a4, if_neg (by omega), if_pos (by omega)]
    have a5 : (-1074 : Int) + ((L + 1023 - 1 : Nat) : Int) = -((52 - L : Nat) : Int) := by omega
    rw [a5]
    rfl

theorem signed_up (n i M : Nat) (h : i ≤ M) : signed false (n * 2 ^ i) ((-(i : Int)) - (-(M : Int))).toNat = ((n * 2 ^ M : Nat) : Int) := by
  have e : ((-(i : Int)) - (-(M : Int))).toNat = M - i := by omega
  unfold signed
  rw [e, Nat.shiftLeft_eq, Nat.mul_assoc, ← Nat.pow_add, show i + (M - i) = M from by omega]
  rfl

theorem add_flo (a b : Nat) (h : a + b < 2 ^ 53) : floatBits .add .f64 (flo a) (flo b) = some (flo (a + b)) := by
  obtain ⟨i, hi, ei⟩ := read_flo a (by omega)
  obtain ⟨j, hj, ej⟩ := read_flo b (by omega)
  show Format.add double (flo a) (flo b) = _
  unfold Format.add
  rw [ei, ej]
  simp only [Datum.sum]
  have hm : min (-(i : Int)) (-(j : Int)) = -((max i j : Nat) : Int) := by omega
  rw [hm, signed_up a i (max i j) (by omega), signed_up b j (max i j) (by omega)]
  generalize max i j = M at *
  have e : ((a * 2 ^ M : Nat) : Int) + ((b * 2 ^ M : Nat) : Int) = (((a + b) * 2 ^ M : Nat) : Int) := by rw [Nat.add_mul]; rfl
  rw [e]
  have e2 : (if (((a + b) * 2 ^ M : Nat) : Int) = 0 then (false && false) else decide ((((a + b) * 2 ^ M : Nat) : Int) < 0)) = false := by
    split
    · rfl
    · exact decide_eq_false (by omega)
  rw [e2, Int.natAbs_natCast]
  simp only [Option.map_some, Format.write]
  rw [nearest_flo (a + b) M h]

theorem int_flo (n : Nat) (h : n < 2 ^ 53) : floatToIntVal .f64 (flo n) .i64 = some n := by
  obtain ⟨k, hk, e⟩ := read_flo n h
  unfold floatToIntVal FloatKind.decode
  rw [format_f64, e]
  have e1 : ((-(k : Int))).toNat = 0 := by omega
  have e2 : (- -(k : Int)).toNat = k := by omega
  simp only [Datum.toInt, Datum.integral, e1, e2, Nat.shiftLeft_zero, cut_exact .zero (.inr rfl), signed]
  have hb : IntKind.i64.min ≤ (n : Int) ∧ (n : Int) ≤ IntKind.i64.max := by
    have a : IntKind.i64.min = -9223372036854775808 := by decide
    have b : IntKind.i64.max = 9223372036854775807 := by decide
    rw [a, b]
    omega
  simpa using hb

end Go.Proofs.Ytnnkcgbnhjkahaa
namespace Go.Proofs.Ytnnkcgbnhjkahaa
open Go.RowKit

theorem run_int_flo (n : Nat) (h : n < 9007199254740992) (W : World) : (convert 159 3 (.float .f64 (flo n))).run Try.prog W = .ok (.int .i64 n) W :=
  run_convert_float_int W 159 3 .f64 .i64 (flo n) n (by rw [Try.underlying159]; rfl) Try.underlying3 (int_flo n (by omega))
theorem run_add_fst (x y z : Nat) (h : x + y + z < 9007199254740992) (W : World) : (binOp .add 149 (.complex .f64 (flo x) (flo y)) (.complex .f64 (floatOfInt .f64 (z : Int)) 0)).run Try.prog W = .ok (.complex .f64 (flo (x + z)) (flo y)) W := by
  refine run_complex_sum W .add (.inl rfl) 149 .f64 _ _ _ _ _ _ ?_
  have h1 := add_flo x z (by omega)
  have h2 := add_flo y 0 (by omega)
  rw [flo_zero] at h2
  unfold cSumBits
  show Option.bind (floatBits .add .f64 (flo x) (flo z)) _ = _
  rw [h1, h2]
  rfl
theorem run_add_snd (x y z : Nat) (h : x + y + z < 9007199254740992) (W : World) : (binOp .add 149 (.complex .f64 (flo x) (flo y)) (.complex .f64 0 (flo z))).run Try.prog W = .ok (.complex .f64 (flo x) (flo (y + z))) W := by
  refine run_complex_sum W .add (.inl rfl) 149 .f64 _ _ _ _ _ _ ?_
  have h1 := add_flo x 0 (by omega)
  have h2 := add_flo y z (by omega)
  rw [flo_zero] at h1
  unfold cSumBits
  rw [h1, h2]
  rfl

theorem left_eq (n : Int) : (wrap64 (n.tmod 255 + 255)).tmod 255 = n % 255 := by
  have h1 : -255 < n.tmod 255 ∧ n.tmod 255 < 255 := ⟨by have := Int.lt_tmod_of_pos n (b := 255) (by omega); omega, Int.tmod_lt_of_pos n (by omega)⟩
  have h2 : n = 255 * (n.tdiv 255) + n.tmod 255 := (Int.mul_tdiv_add_tmod n 255).symm
  have h3 : wrap64 (n.tmod 255 + 255) = n.tmod 255 + 255 := by unfold wrap64; omega
  rw [h3, Int.tmod_eq_emod_of_nonneg (by omega)]
  omega
theorem fleft_any (n : Int) (w : World) : Calls Try.prog 123 #[.int .i64 n] w fun e w' => e = .returned (.int .i64 (n % 255)) ∧ w = w' := by
  go_enter Try.func123, Try.ntmps123
  go_wp2
  go_ret
  exact ⟨ret_int (left_eq n), rfl⟩

theorem fheld_any (n : Nat) (h : n < 9007199254740992) (w : World) : Calls Try.prog 124 #[.float .f64 (flo n)] w fun e w' => e = .returned (.float .f64 (flo (n % 255))) ∧ w = w' := by
  have hcv := run_int_flo n h
  go_enter Try.func124, Try.ntmps124
  go_wp2_with fail
  refine (fleft_any n _).mono ?_
  rintro e1 w1 ⟨rfl, rfl⟩
  obtain ⟨m, hm⟩ : ∃ m : Nat, m = n % 255 := ⟨_, rfl⟩
  have e : (n : Int) % 255 = (m : Int) := by omega
  have HM := Lib.hid hm
  rw [e]
  clear e hm
  go_wp2
  go_ret
  exact ⟨by rw [← HM.out]; rfl, rfl⟩
end Go.Proofs.Ytnnkcgbnhjkahaa
namespace Go.Proofs.Ytnnkcgbnhjkahaa
open Go.RowKit

set_option maxRecDepth 4000 in
set_option maxHeartbeats 1000000 in
theorem both_any (A : Option Addr) (n c B : Nat) (l : List Int) (w : World) (hr : Row .u8 w B A n l) (hby : Byt l) (hn : n ≤ maxLen) (x0 y0 : Nat) (ht : Two l x0 y0) :
    Calls Try.prog 111 #[.slice A n c] w fun e w' => e = .returned (.complex .f64 (flo x0) (flo y0)) ∧ w = w' := by
  unfold maxLen at hn
  have HR := Lib.hid hr
  have HY := Lib.hid hby
  have HT := Lib.hid ht
  clear hr hby ht
  go_enter Try.func111, Try.ntmps111
  go_wp2_with fail
  go_loop [3, 8] (fun s i => ∃ q x y : Nat, q ≤ n ∧ i = .int .i64 q ∧ s = .complex .f64 (flo x) (flo y) ∧ Hid (Two (l.take q) x y)) (fun _ i => n - (intOf i).toNat)
  case atStart => exact ⟨0, 0, 0, Nat.zero_le _, rfl, by rw [flo_zero], Lib.hid Two.nil⟩
  case round =>
    obtain ⟨q, x, y, hq, rfl, rfl, hacc⟩ := hrel
    have hlen := HR.out.1
    by_cases hlt : q < n
    · obtain ⟨b, o, rfl, hb, hc⟩ := HR.out.2 (by omega)
      have hx := hc q hlt
      have hbx := HY.out.getD q
      have hs := take_snoc l q (by omega)
      obtain ⟨z, hz⟩ := Int.eq_ofNat_of_zero_le hbx.1
      rw [hz] at hx hbx hs
      have hlo := hacc.out.lt
      have hnx := hacc.out.snoc z
      rw [← hs] at hnx
      have HN := Lib.hid hnx
      have ha1 := run_add_fst x y z (by omega)
      have ha2 := run_add_snd (x + z) y (x + z) (by omega)
      clear hc hs hnx hz hlen hacc
      go_wp2_with fail
      refine (fheld_any (x + z) (by omega) _).mono ?_
      rintro e1 w1 ⟨rfl, rfl⟩
      go_wp2_with fail
      refine (fheld_any (y + (x + z)) (by omega) _).mono ?_
      rintro e1 w1 ⟨rfl, rfl⟩
      clear ha1 ha2
      generalize (x + z) % 255 = x1 at *
      generalize (y + (x + z)) % 255 = y1 at *
      go_wp2
      go_round
      case rel => exact ⟨q + 1, x1, y1, by omega, by go_num, rfl, HN⟩
      case measure => simp [intOf]; omega
    · obtain rfl : q = n := by omega
      have ha := hacc.out
      rw [List.take_of_length_le (by omega)] at ha
      obtain ⟨rfl, rfl⟩ := ha.unique HT.out
      clear ha hlen
      go_wp2
      go_ret
      exact ⟨rfl, rfl⟩

set_option maxRecDepth 4000 in
set_option maxHeartbeats 1000000 in
theorem lacking_any (x y : Nat) (s X Y : Int) (hx : x < 255) (hy : y < 255) (h0 : 0 ≤ s) (h1 : s ≤ 9223372036854775807) (hX : X = lackX x y s) (hY : Y = lackY x X) (w : World) :
    Calls Try.prog 110 #[.complex .f64 (flo x) (flo y), .int .i64 s] w fun e w' => e = .returned (.tuple #[.int .u8 X, .int .u8 Y]) ∧ w = w' := by
  have cx := run_int_flo x (by omega)
  have cy := run_int_flo y (by omega)
  have hp0 : 0 ≤ s % 255 * (x : Int) := Int.mul_nonneg (by omega) (by omega)
  have hp1 : s % 255 * (x : Int) ≤ 254 * 254 := Int.mul_le_mul (by omega) (by omega) (by omega) (by omega)
  have hbx := lackX_bd x y s
  rw [← hX] at hbx
  have hby := lackY_bd x X
  rw [← hY] at hby
  have HX := Lib.hid (show (s % 255 * x - y) % 255 = X from hX.symm)
  have HY := Lib.hid (show (-(x : Int) - X) % 255 = Y from hY.symm)
  clear hX hY
  go_enter Try.func110, Try.ntmps110
  go_wp2_with fail
  refine (fleft_any _ _).mono ?_
  rintro e1 w1 ⟨rfl, rfl⟩
  rw [HX.out]
  clear cx cy hp0 hp1
  go_wp2_with fail
  refine (fleft_any _ _).mono ?_
  rintro e1 w1 ⟨rfl, rfl⟩
  rw [HY.out]
  go_wp2
  go_ret2
  exact ⟨rfl, rfl⟩
end Go.Proofs.Ytnnkcgbnhjkahaa
