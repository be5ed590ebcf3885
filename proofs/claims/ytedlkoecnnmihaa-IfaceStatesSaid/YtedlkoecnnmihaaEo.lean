/- The reference of elections: one go. Conditions: numbers unlike, from 1 on; less than 2^20 candidates. -/
import Derived.Test.YtedlkoecnnmihaaEn
namespace Go.Proofs.Ytedlkoecnnmihaa
open Go.RowKit
/-- The first one that answers a question. -/
def fq (q : Cd → Bool) (l : List Cd) : Int := ((l.find? q).map (·.id)).getD 0
theorem fq_next {q : Cd → Bool} {S : List Cd} {j : Nat} {x : Cd} (h1 : ∀ c ∈ S, 1 ≤ c.id) (hx : S[j]? = some x) : fq q (S.take (j + 1)) = if fq q (S.take j) = 0 then (if q x = true then x.id else 0) else fq q (S.take j) := by
  unfold fq
  rw [take_snocA S j x hx, List.find?_append]
  cases hf : (S.take j).find? q with
  | none =>
    simp only [Option.none_or, Option.map_none, Option.getD_none, if_true]
    cases hq : q x <;> simp [List.find?, hq]
  | some y =>
    have := h1 y (List.mem_of_mem_take (List.mem_of_find?_eq_some hf))
    simp only [Option.some_or, Option.map_some, Option.getD_some]
    rw [if_neg (by omega)]
theorem fq_all {q : Cd → Bool} {S : List Cd} {j : Nat} (h : fq q (S.take j) ≠ 0) : fq q S = fq q (S.take j) := by
  have e : S = S.take j ++ S.drop j := (List.take_append_drop j S).symm
  generalize S.drop j = D at e
  unfold fq at h ⊢
  rw [e, List.find?_append]
  rw [← e]
  cases hf : (S.take j).find? q with
  | none => rw [hf] at h; exact absurd rfl h
  | some y => rfl
theorem fq_best {q : Cd → Bool} {L S : List Cd} (ha : ApartC L) (hp : S.Perm (mayC L)) (hs : SortedC S) {q' : Int → Bool} (hq : ∀ c ∈ L, q c = q' c.id) : fq q S = bidC L q' := by
  have hm : ∀ c, c ∈ S ↔ c ∈ L ∧ 0 < c.prio := fun c => by
    rw [hp.mem_iff, mayC, List.mem_filter]
    simp
  unfold fq
  cases hf : S.find? q with
  | none =>
    refine (ha.best.none ?_).symm
    rintro i ⟨c, hc, rfl, hpr⟩
    have := List.find?_eq_none.1 hf c ((hm c).2 ⟨hc, hpr⟩)
    rw [← hq c hc]
    simpa using this
  | some x =>
    obtain ⟨h1, l1, l2, h2, h3⟩ := List.find?_eq_some_iff_append.1 hf
    have hx := (hm x).1 (by rw [h2]; simp)
    refine (ha.best.is ⟨x, hx.1, rfl, hx.2⟩ (by rw [← hq x hx.1]; exact h1) ?_).symm
    rintro i ⟨c, hc, rfl, hpr⟩ hqi
    have hcS := (hm c).2 ⟨hc, hpr⟩
    rw [h2] at hcS hs
    rcases List.mem_append.1 hcS with h | h
    · have := h3 c h
      rw [hq c hc, hqi] at this
      simp at this
    · rcases List.mem_cons.1 h with rfl | h
      · exact Or.inl rfl
      · exact Or.inr ⟨x, hx.1, c, hc, rfl, rfl, (List.pairwise_cons.1 (List.pairwise_append.1 hs).2.1).1 c h⟩
theorem perm_ids {L S : List Cd} (ha : ApartC L) (hp : S.Perm (mayC L)) : ∀ c ∈ S, 1 ≤ c.id := fun c hc => ha.2 c (List.mem_filter.1 (hp.mem_iff.1 hc)).1
def qDr (c : Cd) : Bool := c.dr == c.id
def qB (c : Cd) : Bool := !(c.dr == c.id) && c.bdr == c.id
def qN (c : Cd) : Bool := !(c.dr == c.id)
theorem go_fq {L S : List Cd} (ha : ApartC L) (hp : S.Perm (mayC L)) (hs : SortedC S) : goC L = (if fq qDr S = 0 then (if fq qB S = 0 then fq qN S else fq qB S) else fq qDr S, if fq qB S = 0 then fq qN S else fq qB S) := by
  rw [fq_best (q := qDr) ha hp hs (q' := fun i => drC L i == i) (fun c hc => by rw [drC_is ha hc]; rfl), fq_best (q := qB) ha hp hs (q' := fun i => !(drC L i == i) && bdrC L i == i) (fun c hc => by rw [drC_is ha hc, bdrC_is ha hc]; rfl), fq_best (q := qN) ha hp hs (q' := fun i => !(drC L i == i)) (fun c hc => by rw [drC_is ha hc]; rfl)]
  exact (goP_is L).symm
theorem Blk.two {w : World} {g : Nat} {t : TypeId} {a0 a1 : Value} (h : Blk w g t #[a0, a1]) : w.cell? ⟨g, 0, none⟩ = some a0 ∧ w.cell? ⟨g, 1, none⟩ = some a1 := ⟨h.cell 0, h.cell 1⟩

set_option maxRecDepth 8000 in
set_option maxHeartbeats 8000000 in
theorem rgo_any {w : World} {B n c : Nat} {A : Option Addr} {L : List Cd} (hs : Cds w B A n L) (hB : B ≤ w.heap.size) (ha : ApartC L) (hn : n < 1048576) :
    Calls Try.prog 25 #[.slice A n c] w fun e w' => e = .returned (.agg #[.int .i64 (goC L).1, .int .i64 (goC L).2]) ∧ Below w.heap.size w w' := by
  have HP := Lib.hid (hs.more hB)
  have HAP := Lib.hid ha
  clear hs ha
  obtain ⟨rd, hrd⟩ : ∃ r, r = (goC L).1 := ⟨_, rfl⟩
  obtain ⟨rb, hrb⟩ : ∃ r, r = (goC L).2 := ⟨_, rfl⟩
  rw [← hrd, ← hrb]
  have HRES := Lib.hid (show goC L = (rd, rb) by rw [hrd, hrb])
  clear hrd hrb
  have R0 := Lib.hid (Blk.new w 50 #[.int .i64 0, .int .i64 0])
  have B0 := Lib.hid ((Below.refl w.heap.size w).alloc (Nat.le_refl _) (.cells #[.int .i64 0, .int .i64 0] 50))
  go_enter Try.func25, Try.ntmps25
  go_wp2_with fail
  generalize w.alloc (.cells #[.int .i64 0, .int .i64 0] 50) = w0 at *
  have hs0 := B0.out.size
  have hr0 := R0.out.lt
  refine (sorted_any ((HP.out.below B0.out).more hs0) (Nat.le_refl _) HAP.out hn).mono ?_
  rintro e1 w1 ⟨⟨A1, m, c1, S, rfl, ho1, hp1, hs1, hmn⟩, hb1⟩
  have R1 := Lib.hid (R0.out.below hb1 hr0)
  have B1 := Lib.hid (B0.out.trans (hb1.mono hs0))
  have HS := Lib.hid (own_cds ho1)
  have HLEN := Lib.hid (own_len encCd_len (by omega) ho1)
  have HFQ := Lib.hid (go_fq HAP.out hp1 hs1)
  have HID := Lib.hid (perm_ids HAP.out hp1)
  have hr1 := R1.out.lt
  clear ho1 hp1 hs1 hb1 R0 B0 hr0 hs0 HAP HP
  have KT := Lib.hid (Blk.new w1 50 #[.int .i64 0, .int .i64 0])
  have BT := Lib.hid ((Below.refl w1.heap.size w1).alloc (Nat.le_refl _) (.cells #[.int .i64 0, .int .i64 0] 50))
  go_wp2_with fail
  generalize hp : w1.heap.size = p at *
  generalize w1.alloc (.cells #[.int .i64 0, .int .i64 0] 50) = w2 at *
  go_loopw [5] (fun i wr => ∃ (j : Nat) (d b : Int), j ≤ m ∧ i = .int .i64 j ∧ Hid (d = fq qDr (S.take j)) ∧ Hid (b = fq qB (S.take j)) ∧ Hid (Blk wr p 50 #[.int .i64 d, .int .i64 b]) ∧ Hid (Below p w1 wr)) (fun i _ => m - (intOf i).toNat)
  case atStart => exact ⟨0, 0, 0, Nat.zero_le _, rfl, Lib.hid rfl, Lib.hid rfl, KT, BT⟩
  case round =>
    clear KT BT
    obtain ⟨j, d, b, hj, rfl, HD, HBD, KT, HB⟩ := hrel
    have hpl := KT.out.lt
    obtain ⟨k0, k1⟩ := KT.out.two
    have z0 := KT.out.frozen 0
    have z1 := KT.out.frozen 1
    by_cases hlt : j < m
    · have hlt' : (j : Int) < m := by omega
      obtain ⟨g, o, x, rfl, hgp, hx, hat⟩ := Arr.at (HS.out.below HB.out) hlt
      obtain ⟨y0, y1, y2, y3⟩ := hat
      have HN1 := Lib.hid (show fq qDr (S.take (j + 1)) = if d = 0 then (if qDr x = true then x.id else 0) else d by rw [fq_next HID.out hx, ← HD.out])
      have HN2 := Lib.hid (show fq qB (S.take (j + 1)) = if b = 0 then (if qB x = true then x.id else 0) else b by rw [fq_next HID.out hx, ← HBD.out])
      clear hx

      by_cases hA : x.dr = x.id
      · have dA : (x.dr == x.id) = true := by simp [hA]
        have dN : (x.dr != x.id) = false := by simp [hA]
        have HE2 := Lib.hid (show b = fq qB (S.take (j + 1)) by rw [HN2.out, show qB x = false by simp [qB, hA]]; by_cases h : b = 0 <;> simp [h])
        by_cases h0 : d = 0
        · have d0 : (d == 0) = true := by simp [h0]
          have HE1 := Lib.hid (show x.id = fq qDr (S.take (j + 1)) by rw [HN1.out, if_pos h0, show qDr x = true by simp [qDr, hA]]; rfl)
          clear hA h0
          have KE := Lib.hid (show Blk (wr.setCell ⟨p, 0, none⟩ (.int .i64 x.id)) p 50 #[.int .i64 x.id, .int .i64 b] by
            have h9 := (KT.out.put 0 (.int .i64 x.id))
            simp only [List.setIfInBounds_toArray, List.set_cons_zero] at h9
            exact h9)
          go_upto_region 6 with fail
          go_quiet (fail)
          go_upto_region 8 with fail
          go_quiet (fail)
          go_wp2_with fail
          go_roundw
          case rel => exact ⟨j + 1, x.id, b, by omega, by go_num, HE1, HE2, Lib.hid KE.out, Lib.hid (below_drewN ((below_drewN HB.out _).setCell (p := ⟨p, 0, none⟩) (Nat.le_refl _) _) _)⟩
          case measure => simp [intOf]; omega
        · have d0 : (d == 0) = false := by simp [h0]
          have HE1 := Lib.hid (show d = fq qDr (S.take (j + 1)) by rw [HN1.out, if_neg h0])
          clear hA h0
          have KE := Lib.hid (show Blk wr p 50 #[.int .i64 d, .int .i64 b] by
            have h9 := KT.out
            exact h9)
          go_upto_region 6 with fail
          go_quiet (fail)
          go_upto_region 8 with fail
          go_quiet (fail)
          go_wp2_with fail
          go_roundw
          case rel => exact ⟨j + 1, d, b, by omega, by go_num, HE1, HE2, Lib.hid KE.out, Lib.hid (below_drewN HB.out _)⟩
          case measure => simp [intOf]; omega
      · have dA : (x.dr == x.id) = false := by simp [hA]
        have dN : (x.dr != x.id) = true := by simp [hA]
        have HE1 := Lib.hid (show d = fq qDr (S.take (j + 1)) by rw [HN1.out, show qDr x = false by simp [qDr, hA]]; by_cases h : d = 0 <;> simp [h])
        by_cases hB2 : x.bdr = x.id
        · have dB : (x.bdr == x.id) = true := by simp [hB2]
          by_cases h0 : b = 0
          · have d0 : (b == 0) = true := by simp [h0]
            have HE2 := Lib.hid (show x.id = fq qB (S.take (j + 1)) by rw [HN2.out, if_pos h0, show qB x = true by simp [qB, hA, hB2]]; rfl)
            clear hA hB2 h0
            have KE := Lib.hid (show Blk (wr.setCell ⟨p, 1, none⟩ (.int .i64 x.id)) p 50 #[.int .i64 d, .int .i64 x.id] by
              have h9 := (KT.out.put 1 (.int .i64 x.id))
              simp only [List.setIfInBounds_toArray, List.set_cons_zero, List.set_cons_succ] at h9
              exact h9)
            go_upto_region 6 with fail
            go_quiet (fail)
            go_upto_region 8 with fail
            go_quiet (fail)
            go_wp2_with fail
            go_roundw
            case rel => exact ⟨j + 1, d, x.id, by omega, by go_num, HE1, HE2, Lib.hid KE.out, Lib.hid ((below_drewN HB.out _).setCell (p := ⟨p, 1, none⟩) (Nat.le_refl _) _)⟩
            case measure => simp [intOf]; omega
          · have d0 : (b == 0) = false := by simp [h0]
            have HE2 := Lib.hid (show b = fq qB (S.take (j + 1)) by rw [HN2.out, if_neg h0])
            clear hA hB2 h0
            have KE := Lib.hid (show Blk wr p 50 #[.int .i64 d, .int .i64 b] by
              have h9 := KT.out
              exact h9)
            go_upto_region 6 with fail
            go_quiet (fail)
            go_upto_region 8 with fail
            go_quiet (fail)
            go_wp2_with fail
            go_roundw
            case rel => exact ⟨j + 1, d, b, by omega, by go_num, HE1, HE2, Lib.hid KE.out, Lib.hid (below_drewN HB.out _)⟩
            case measure => simp [intOf]; omega
        · have dB : (x.bdr == x.id) = false := by simp [hB2]
          have HE2 := Lib.hid (show b = fq qB (S.take (j + 1)) by rw [HN2.out, show qB x = false by simp [qB, hB2]]; by_cases h : b = 0 <;> simp [h])
          clear hA hB2
          have KE := Lib.hid (show Blk wr p 50 #[.int .i64 d, .int .i64 b] by
            have h9 := KT.out
            exact h9)
          go_upto_region 6 with fail
          go_quiet (fail)
          go_upto_region 8 with fail
          go_quiet (fail)
          go_wp2_with fail
          go_roundw
          case rel => exact ⟨j + 1, d, b, by omega, by go_num, HE1, HE2, Lib.hid KE.out, Lib.hid (below_drewN HB.out _)⟩
          case measure => simp [intOf]; omega
    · have hjm : j = m := by omega
      have HDE := Lib.hid (show d = fq qDr S by rw [HD.out, hjm, ← HLEN.out, List.take_length])
      have HBE := Lib.hid (show b = fq qB S by rw [HBD.out, hjm, ← HLEN.out, List.take_length])
      clear hjm
      obtain ⟨b0, hb0⟩ : ∃ b0, b0 = b := ⟨_, rfl⟩
      have HB0 := Lib.hid hb0
      clear hb0
      go_wp2_with fail
      clear k0 k1 z0 z1 hlt
      go_loopw [6] (fun i wx => ∃ (k : Nat) (e : Int), k ≤ m ∧ i = .int .i64 k ∧ Hid (e = if b0 = 0 then fq qN (S.take k) else b0) ∧ Hid (Blk wx p 50 #[.int .i64 d, .int .i64 e]) ∧ Hid (Below p w1 wx)) (fun i _ => m - (intOf i).toNat)
      case atStart => exact ⟨0, b, Nat.zero_le _, rfl, Lib.hid (by rw [HB0.out]; by_cases h : b = 0 <;> simp [h, fq]), KT, HB⟩
      case round =>
        clear KT HB hpl
        obtain ⟨k, e, hk, rfl, HE, KT, HB⟩ := hrel
        have hpl := KT.out.lt
        obtain ⟨k0, k1⟩ := KT.out.two
        have z0 := KT.out.frozen 0
        have z1 := KT.out.frozen 1
        have HFIN := Lib.hid (fun (h : k = m ∨ e ≠ 0) => show (if d = 0 then e else d, e) = (rd, rb) by
          have he : e = if fq qB S = 0 then fq qN S else fq qB S := by
            rw [HE.out, HB0.out, HBE.out]
            by_cases hz : fq qB S = 0
            · rw [if_pos hz, if_pos hz]
              rcases h with h | h
              · rw [h, ← HLEN.out, List.take_length]
              · rw [HE.out, HB0.out, HBE.out, if_pos hz] at h
                exact (fq_all h).symm
            · rw [if_neg hz, if_neg hz]
          rw [← HRES.out, HFQ.out, ← he, ← HDE.out])
        by_cases hlk : k < m
        · have hlk' : (k : Int) < m := by omega
          by_cases he0 : e = 0
          · have d1 : (e == 0) = true := by simp [he0]
            obtain ⟨g, o, x, rfl, hgp, hx, hat⟩ := Arr.at (HS.out.below HB.out) hlk
            obtain ⟨y0, y1, y2, y3⟩ := hat
            have HN1 := Lib.hid (show (if b0 = 0 then fq qN (S.take (k + 1)) else b0) = if qN x = true then x.id else 0 by
              have h9 := HE.out
              rw [he0] at h9
              by_cases hz : b0 = 0
              · rw [if_pos hz] at h9 ⊢
                rw [fq_next HID.out hx, ← h9, if_pos rfl]
              · rw [if_neg hz] at h9
                exact absurd h9.symm hz)
            have HE0 := Lib.hid he0
            clear hx he0 HFIN
            by_cases hA : x.dr = x.id
            · have dN : (x.dr != x.id) = false := by simp [hA]
              have HE2 := Lib.hid (show (0 : Int) = if b0 = 0 then fq qN (S.take (k + 1)) else b0 by rw [HN1.out, show qN x = false by simp [qN, hA]]; rfl)
              have HEV := Lib.hid (show e = if b0 = 0 then fq qN (S.take (k + 1)) else b0 by rw [HE0.out]; exact HE2.out)
              clear hA
              go_wp2_with fail
              go_quiet (fail)
              go_wp2_with fail
              go_roundw
              case rel => exact ⟨k + 1, e, by omega, by go_num, HEV, Lib.hid KT.out, Lib.hid (below_drewN HB.out _)⟩
              case measure => simp [intOf]; omega
            · have dN : (x.dr != x.id) = true := by simp [hA]
              have HE2 := Lib.hid (show x.id = if b0 = 0 then fq qN (S.take (k + 1)) else b0 by rw [HN1.out, show qN x = true by simp [qN, hA]]; rfl)
              have KE := Lib.hid (show Blk (wr.setCell ⟨p, 1, none⟩ (.int .i64 x.id)) p 50 #[.int .i64 d, .int .i64 x.id] by
                have h9 := KT.out.put 1 (.int .i64 x.id)
                simp only [List.setIfInBounds_toArray, List.set_cons_zero, List.set_cons_succ] at h9
                exact h9)
              clear hA
              go_wp2_with fail
              go_quiet (fail)
              go_wp2_with fail
              go_roundw
              case rel => exact ⟨k + 1, x.id, by omega, by go_num, HE2, Lib.hid KE.out, Lib.hid ((below_drewN HB.out _).setCell (p := ⟨p, 1, none⟩) (Nat.le_refl _) _)⟩
              case measure => simp [intOf]; omega
          · have d1 : (e == 0) = false := by simp [he0]
            have hfin := HFIN.out (Or.inr he0)
            have RX := Lib.hid (R1.out.below HB.out hr1)
            have BX := Lib.hid (B1.out.trans (HB.out.mono (by rw [← hp]; exact B1.out.size)))
            have hrl := RX.out.lt
            have hrp : w.heap.size ≠ p := by omega
            have hrp2 : w.heap.size ≤ p := by omega
            obtain ⟨q0, q1⟩ := RX.out.two
            have f0 := RX.out.frozen 0
            have f1 := RX.out.frozen 1
            clear HFIN he0
            by_cases hd0 : d = 0
            · have dd : (d == 0) = true := by simp [hd0]
              rw [if_pos hd0] at hfin
              injection hfin with g1 g2
              subst g1 g2
              clear hd0
              go_wp2
              refine bodyPost_ret (v := .agg #[.int .i64 e, .int .i64 e]) (by simp [results, Try.results25, go_sem, *]) rfl ?_
              exact ⟨rfl, ((BX.out.setCell (p := ⟨p, 0, none⟩) hrp2 _).setCell (p := ⟨w.heap.size, 0, none⟩) (Nat.le_refl _) _).setCell (p := ⟨w.heap.size, 1, none⟩) (Nat.le_refl _) _⟩
            · have dd : (d == 0) = false := by simp [hd0]
              rw [if_neg hd0] at hfin
              injection hfin with g1 g2
              subst g1 g2
              clear hd0
              go_wp2
              refine bodyPost_ret (v := .agg #[.int .i64 d, .int .i64 e]) (by simp [results, Try.results25, go_sem, *]) rfl ?_
              exact ⟨rfl, (BX.out.setCell (p := ⟨w.heap.size, 0, none⟩) (Nat.le_refl _) _).setCell (p := ⟨w.heap.size, 1, none⟩) (Nat.le_refl _) _⟩
        · have hkm : k = m := by omega
          have hfin := HFIN.out (Or.inl hkm)
          have RX := Lib.hid (R1.out.below HB.out hr1)
          have BX := Lib.hid (B1.out.trans (HB.out.mono (by rw [← hp]; exact B1.out.size)))
          have hrl := RX.out.lt
          have hrp : w.heap.size ≠ p := by omega
          have hrp2 : w.heap.size ≤ p := by omega
          obtain ⟨q0, q1⟩ := RX.out.two
          have f0 := RX.out.frozen 0
          have f1 := RX.out.frozen 1
          clear HFIN hkm
          by_cases hd0 : d = 0
          · have dd : (d == 0) = true := by simp [hd0]
            rw [if_pos hd0] at hfin
            injection hfin with g1 g2
            subst g1 g2
            clear hd0
            go_wp2
            refine bodyPost_ret (v := .agg #[.int .i64 e, .int .i64 e]) (by simp [results, Try.results25, go_sem, *]) rfl ?_
            exact ⟨rfl, ((BX.out.setCell (p := ⟨p, 0, none⟩) hrp2 _).setCell (p := ⟨w.heap.size, 0, none⟩) (Nat.le_refl _) _).setCell (p := ⟨w.heap.size, 1, none⟩) (Nat.le_refl _) _⟩
          · have dd : (d == 0) = false := by simp [hd0]
            rw [if_neg hd0] at hfin
            injection hfin with g1 g2
            subst g1 g2
            clear hd0
            go_wp2
            refine bodyPost_ret (v := .agg #[.int .i64 d, .int .i64 e]) (by simp [results, Try.results25, go_sem, *]) rfl ?_
            exact ⟨rfl, (BX.out.setCell (p := ⟨w.heap.size, 0, none⟩) (Nat.le_refl _) _).setCell (p := ⟨w.heap.size, 1, none⟩) (Nat.le_refl _) _⟩

end Go.Proofs.Ytedlkoecnnmihaa
