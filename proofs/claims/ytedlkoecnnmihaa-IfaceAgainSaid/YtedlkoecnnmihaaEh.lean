/- The program's best one of a list of candidates. No conditions. -/
import Derived.Test.YtedlkoecnnmihaaEg
namespace Go.Proofs.Ytedlkoecnnmihaa
open Go.RowKit

/-- The best one so far, as the program finds it. -/
def stepP (q : Cd → Bool) (f c : Cd) : Cd := if 0 < c.prio ∧ q c = true ∧ btr c f = true then c else f
def bestP (q : Cd → Bool) (L : List Cd) : Cd := L.foldl (stepP q) ⟨0, 0, 0, 0⟩
theorem bestP_next {q : Cd → Bool} {L : List Cd} {j : Nat} {x : Cd} (h : L[j]? = some x) : bestP q (L.take (j + 1)) = stepP q (bestP q (L.take j)) x := by
  unfold bestP
  rw [take_snocA L j x h, List.foldl_append]
  rfl
/-- What the fold keeps. -/
def Best2 (q : Cd → Bool) (S : List Cd) (f : Cd) : Prop := (f = ⟨0, 0, 0, 0⟩ ∧ ∀ c ∈ S, 0 < c.prio → q c = false) ∨ (f ∈ S ∧ 0 < f.prio ∧ q f = true ∧ ∀ c ∈ S, 0 < c.prio → q c = true → c = f ∨ btr f c = true)
theorem best2_step {q : Cd → Bool} {S : List Cd} {f x : Cd} (hu : UnlikeC (S ++ [x])) (h : Best2 q S f) : Best2 q (S ++ [x]) (stepP q f x) := by
  unfold stepP
  by_cases hc : 0 < x.prio ∧ q x = true ∧ btr x f = true
  · rw [if_pos hc]
    refine Or.inr ⟨by simp, hc.1, hc.2.1, fun c hm hp hq => ?_⟩
    rcases List.mem_append.1 hm with hm | hm
    · rcases h with ⟨_, h⟩ | ⟨_, _, _, h⟩
      · rw [h c hm hp] at hq
        cases hq
      · rcases h c hm hp hq with rfl | e
        · exact Or.inr hc.2.2
        · exact Or.inr (btr_trans hc.2.2 e)
    · exact Or.inl (List.mem_singleton.1 hm)
  · rw [if_neg hc]
    rcases h with ⟨rfl, h⟩ | ⟨h1, h2, h3, h⟩
    · refine Or.inl ⟨rfl, fun c hm hp => ?_⟩
      rcases List.mem_append.1 hm with hm | hm
      · exact h c hm hp
      · obtain rfl := List.mem_singleton.1 hm
        cases hq : q c
        · rfl
        · refine absurd ⟨hp, hq, ?_⟩ hc
          simp [btr]
          omega
    · refine Or.inr ⟨List.mem_append.2 (Or.inl h1), h2, h3, fun c hm hp hq => ?_⟩
      rcases List.mem_append.1 hm with hm | hm
      · exact h c hm hp hq
      · obtain rfl := List.mem_singleton.1 hm
        cases hb : btr c f
        · rcases btr_tot hb with e | e
          · exact Or.inr e
          · exact Or.inl (hu _ (by simp) _ (by simp [h1]) e)
        · exact absurd ⟨hp, hq, hb⟩ hc
theorem best2_all {q : Cd → Bool} : ∀ (M S : List Cd) (f : Cd), UnlikeC (S ++ M) → Best2 q S f → Best2 q (S ++ M) (M.foldl (stepP q) f)
  | [], S, f, _, h => by simpa using h
  | x :: M, S, f, hu, h => by
    have hu' : UnlikeC (S ++ [x] ++ M) := by simpa using hu
    have := best2_all M (S ++ [x]) (stepP q f x) hu' (best2_step (fun a ha b hb => hu' a (List.mem_append.2 (Or.inl ha)) b (List.mem_append.2 (Or.inl hb))) h)
    simpa using this
theorem bestP_is {q : Cd → Bool} {L : List Cd} (hu : UnlikeC L) (h1 : ∀ c ∈ L, 1 ≤ c.id) {q' : Int → Bool} (hq : ∀ c ∈ L, q c = q' c.id) : (bestP q L).id = bidC L q' := by
  have hB := bidC_best hu h1
  have h := best2_all (q := q) L [] ⟨0, 0, 0, 0⟩ (by simpa using hu) (Or.inl ⟨rfl, fun c hc => by cases hc⟩)
  rw [List.nil_append] at h
  change Best2 q L (bestP q L) at h
  generalize bestP q L = f at *
  rcases h with ⟨rfl, h⟩ | ⟨h2, h3, h4, h⟩
  · refine (hB.none ?_).symm
    rintro i ⟨c, hc, rfl, hp⟩
    rw [← hq c hc]
    exact h c hc hp
  · refine (hB.is ⟨f, h2, rfl, h3⟩ (by rw [← hq f h2]; exact h4) ?_).symm
    rintro i ⟨c, hc, rfl, hp⟩ hqi
    rcases h c hc hp (by rw [hq c hc]; exact hqi) with rfl | e
    · exact Or.inl rfl
    · exact Or.inr ⟨f, h2, c, hc, rfl, rfl, e⟩
theorem stepP_no {q : Cd → Bool} {f c : Cd} (h : ¬ (0 < c.prio ∧ q c = true ∧ btr c f = true)) : stepP q f c = f := if_neg h
theorem stepP_so {q : Cd → Bool} {f c : Cd} (h : 0 < c.prio ∧ q c = true ∧ btr c f = true) : stepP q f c = c := if_pos h

set_option maxRecDepth 8000 in
set_option maxHeartbeats 4000000 in
theorem best_any {w : World} {B n c : Nat} {A : Option Addr} {L : List Cd} (g : Nat) (q : Cd → Bool) (hg : ∀ args w, (callFunc g args).run Try.prog w = .ok (.enter g args) w)
    (hq : ∀ (x : Cd) (W : World), Calls Try.prog g #[.agg #[.int .i64 x.id, .int .i64 x.prio, .int .i64 x.dr, .int .i64 x.bdr]] W fun e W' => e = .returned (.bool (q x)) ∧ Below W.heap.size W W') (hs : Cds w B A n L) (hB : B ≤ w.heap.size) (hn : n ≤ maxLen) :
    Calls Try.prog 33 #[.slice A n c, .func (.func g) #[] #[]] w fun e w' => e = .returned (.int .i64 (bestP q L).id) ∧ Below w.heap.size w w' := by
  unfold maxLen at hn
  have HP := Lib.hid (hs.more hB)
  have HLEN := Lib.hid hs.1
  have HQ := Lib.hid hq
  have B0 := Lib.hid ((Below.refl w.heap.size w).alloc (Nat.le_refl _) (.cells #[.int .i64 0, .int .i64 0, .int .i64 0, .int .i64 0] 31))
  have K0 := Lib.hid (Blk.new w 31 #[.int .i64 0, .int .i64 0, .int .i64 0, .int .i64 0])
  clear hs hq
  go_enter Try.func33, Try.ntmps33
  go_wp2_with fail
  go_loopw [10] (fun i wr => ∃ j : Nat, j ≤ n ∧ i = .int .i64 j ∧ Hid (∃ f : Cd, f = bestP q (L.take j) ∧ Blk wr w.heap.size 31 #[.int .i64 f.id, .int .i64 f.prio, .int .i64 f.dr, .int .i64 f.bdr]) ∧ Hid (Below w.heap.size w wr)) (fun i _ => n - (intOf i).toNat)
  case atStart => exact ⟨0, Nat.zero_le _, rfl, Lib.hid ⟨⟨0, 0, 0, 0⟩, rfl, K0.out⟩, B0⟩
  case round =>
    obtain ⟨j, hj, rfl, HF, HB⟩ := hrel
    obtain ⟨f, hf, hfb⟩ := HF.out
    have KF := Lib.hid hfb
    have HFE := Lib.hid hf
    have hpl := hfb.lt
    clear hf hfb HF
    by_cases hlt : j < n
    · have hlt' : (j : Int) < n := by omega
      obtain ⟨b, o, x, rfl, hbb, hx, hat⟩ := Arr.at (HP.out.below HB.out) hlt
      have HN := Lib.hid (show bestP q (L.take (j + 1)) = stepP q f x by rw [HFE.out]; exact bestP_next hx)
      have BN := Lib.hid (HB.out.alloc HB.out.size (.cells #[.int .i64 x.id, .int .i64 x.prio, .int .i64 x.dr, .int .i64 x.bdr] 31))
      have KN := Lib.hid (Blk.new wr 31 #[.int .i64 x.id, .int .i64 x.prio, .int .i64 x.dr, .int .i64 x.bdr])
      have KFN := Lib.hid (KF.out.alloc (.cells #[.int .i64 x.id, .int .i64 x.prio, .int .i64 x.dr, .int .i64 x.bdr] 31))
      obtain ⟨y0, y1, y2, y3⟩ := hat
      clear hx
      by_cases hp : 0 < x.prio
      · have dp : decide (0 < x.prio) = true := by simpa using hp
        go_wp2_with fail
        generalize wr.alloc (.cells #[.int .i64 x.id, .int .i64 x.prio, .int .i64 x.dr, .int .i64 x.bdr] 31) = wn at *
        have hln := KN.out.lt
        have hfn := KFN.out.lt
        clear y0 y1 y2 y3
        refine (HQ.out x _).mono ?_
        rintro e1 w1 ⟨rfl, hb1⟩
        have B1 := Lib.hid (BN.out.trans (hb1.mono BN.out.size))
        have K1 := Lib.hid (KN.out.below hb1 hln)
        have F1 := Lib.hid (KFN.out.below hb1 hfn)
        have hl1 := K1.out.lt
        have hf1 := F1.out.lt
        clear hb1
        cases hqx : q x
        · have HN2 := Lib.hid (show bestP q (L.take (j + 1)) = f by rw [HN.out]; exact stepP_no (fun h => by rw [hqx] at h; cases h.2.1))
          clear hqx
          go_wp2_with fail
          go_roundw
          case rel => exact ⟨j + 1, by omega, by go_num, Lib.hid ⟨f, HN2.out.symm, F1.out⟩, B1⟩
          case measure => simp [intOf]; omega
        · obtain ⟨k0, k1, k2, k3⟩ := K1.out.four
          obtain ⟨f0, f1, f2, f3⟩ := F1.out.four
          have HQX := Lib.hid hqx
          have HPX := Lib.hid hp
          clear hqx hp
          go_wp2_with fail
          refine (better_any x f _).mono ?_
          rintro e2 w2 ⟨rfl, hb2⟩
          have B2 := Lib.hid (B1.out.trans (hb2.mono B1.out.size))
          have K2 := Lib.hid (K1.out.below hb2 hl1)
          have F2 := Lib.hid (F1.out.below hb2 hf1)
          have hl2 := K2.out.lt
          have hf2 := F2.out.lt
          clear hb2 k0 k1 k2 k3 f0 f1 f2 f3
          cases hbt : btr x f
          · have HN2 := Lib.hid (show bestP q (L.take (j + 1)) = f by rw [HN.out]; exact stepP_no (fun h => by rw [hbt] at h; cases h.2.2))
            clear hbt
            go_wp2_with fail
            go_roundw
            case rel => exact ⟨j + 1, by omega, by go_num, Lib.hid ⟨f, HN2.out.symm, F2.out⟩, B2⟩
            case measure => simp [intOf]; omega
          · have HN2 := Lib.hid (show bestP q (L.take (j + 1)) = x by rw [HN.out]; exact stepP_so ⟨HPX.out, HQX.out, hbt⟩)
            obtain ⟨k0, k1, k2, k3⟩ := K2.out.four
            have z0 := F2.out.frozen 0
            have z1 := F2.out.frozen 1
            have z2 := F2.out.frozen 2
            have z3 := F2.out.frozen 3
            obtain ⟨f0, f1, f2, f3⟩ := F2.out.four
            have F3 := Lib.hid (show Blk ((((w2.setCell ⟨w.heap.size, 0, none⟩ (.int .i64 x.id)).setCell ⟨w.heap.size, 1, none⟩ (.int .i64 x.prio)).setCell ⟨w.heap.size, 2, none⟩ (.int .i64 x.dr)).setCell ⟨w.heap.size, 3, none⟩ (.int .i64 x.bdr)) w.heap.size 31 #[.int .i64 x.id, .int .i64 x.prio, .int .i64 x.dr, .int .i64 x.bdr] by
              have h9 := (((F2.out.put 0 (.int .i64 x.id)).put 1 (.int .i64 x.prio)).put 2 (.int .i64 x.dr)).put 3 (.int .i64 x.bdr)
              simp only [List.setIfInBounds_toArray, List.set_cons_zero, List.set_cons_succ] at h9
              exact h9)
            have B3 := Lib.hid ((((B2.out.setCell (p := ⟨w.heap.size, 0, none⟩) (Nat.le_refl _) (.int .i64 x.id)).setCell (p := ⟨w.heap.size, 1, none⟩) (Nat.le_refl _) (.int .i64 x.prio)).setCell (p := ⟨w.heap.size, 2, none⟩) (Nat.le_refl _) (.int .i64 x.dr)).setCell (p := ⟨w.heap.size, 3, none⟩) (Nat.le_refl _) (.int .i64 x.bdr))
            clear hbt
            go_wp2_with fail
            go_roundw
            case rel => exact ⟨j + 1, by omega, by go_num, Lib.hid ⟨x, HN2.out.symm, F3.out⟩, B3⟩
            case measure => simp [intOf]; omega
      · have dp : decide (0 < x.prio) = false := by simpa using hp
        have HN2 := Lib.hid (show bestP q (L.take (j + 1)) = f by rw [HN.out]; exact stepP_no (fun h => hp h.1))
        clear hp
        go_wp2_with fail
        go_roundw
        case rel => exact ⟨j + 1, by omega, by go_num, Lib.hid ⟨f, HN2.out.symm, KFN.out⟩, BN⟩
        case measure => simp [intOf]; omega
    · have hjn : j = n := by omega
      have HT := Lib.hid (show L.take j = L by rw [hjn, ← HLEN.out, List.take_length])
      clear hjn
      obtain ⟨k0, k1, k2, k3⟩ := KF.out.four
      go_wp2
      go_ret
      exact ⟨by rw [HFE.out, HT.out]; rfl, HB.out⟩

end Go.Proofs.Ytedlkoecnnmihaa
