/- begin of the program. Conditions: at most 100 descriptions. -/
import Derived.Test.YtjinleakjkbbgaaBg
import Derived.Test.YtjinleakjkbbgaaUz
namespace Go.Proofs.Ytjinleakjkbbgaa
open Go.RowKit Go.Lib Go.Sort Go.Deep

section
variable {α : Type} {lt : α → α → Bool}
theorem Stab.mem (hS : SWO lt) {A B : List α} (h : Stab lt A B) {x : α} : x ∈ B ↔ x ∈ A := by
  have hx : eqv lt x x = true := eqv_iff.2 ⟨hS.irrefl x, hS.irrefl x⟩
  have e := h.2 x
  constructor
  · intro hb
    have : x ∈ B.filter (eqv lt x) := List.mem_filter.2 ⟨hb, hx⟩
    rw [e] at this
    exact (List.mem_filter.1 this).1
  · intro hb
    have : x ∈ A.filter (eqv lt x) := List.mem_filter.2 ⟨hb, hx⟩
    rw [← e] at this
    exact (List.mem_filter.1 this).1
/-- There is one stable order. -/
theorem stab_unique (hS : SWO lt) : ∀ {A B : List α}, Ord lt A → Ord lt B → Stab lt A B → A = B
  | [], B, _, _, h => (List.eq_nil_of_length_eq_zero h.1).symm
  | x :: A, [], _, _, h => by have := h.1; simp at this
  | x :: A, y :: B, ha, hb, h => by
    obtain ⟨a1, a2⟩ := List.pairwise_cons.1 ha
    obtain ⟨b1, b2⟩ := List.pairwise_cons.1 hb
    have hxy : lt x y = false := by
      rcases List.mem_cons.1 ((h.mem hS).2 (List.mem_cons_self (a := x) (l := A))) with e | e
      · rw [e]; exact hS.irrefl _
      · exact b1 x e
    have hyx : lt y x = false := by
      rcases List.mem_cons.1 ((h.mem hS).1 (List.mem_cons_self (a := y) (l := B))) with e | e
      · rw [e]; exact hS.irrefl _
      · exact a1 y e
    have hx : eqv lt x x = true := eqv_iff.2 ⟨hS.irrefl x, hS.irrefl x⟩
    have hx2 : eqv lt x y = true := eqv_iff.2 ⟨hxy, hyx⟩
    have e := h.2 x
    rw [List.filter_cons_of_pos hx, List.filter_cons_of_pos hx2] at e
    injection e with e1 e2
    subst e1
    congr 1
    refine stab_unique hS a2 b2 ⟨by have := h.1; simp at this; exact this, fun z => ?_⟩
    have ez := h.2 z
    by_cases hz : eqv lt z y = true
    · rw [List.filter_cons_of_pos hz, List.filter_cons_of_pos hz] at ez
      injection ez
    · rw [List.filter_cons_of_neg hz, List.filter_cons_of_neg hz] at ez
      exact ez
end
/-- K are the heads that are told of S, in order. -/
def Told (S : List La) (K : List Hd) : Prop := Ord lessH K ∧ Stab lessH (toldL S) K
theorem told_len {S : List La} {K : List Hd} (h : Told S K) : K.length ≤ S.length := by
  have h2 := h.2.1
  have h4 : (toldL S).length ≤ S.length := by
    unfold toldL
    rw [List.length_map]
    exact List.length_filter_le _ _
  omega
/-- The blocks of F, and those that were made. -/
def Fp (F : Nat → Prop) (w w' : World) : Nat → Prop := fun q => F q ∨ (w.heap.size ≤ q ∧ q < w'.heap.size)
section
variable {w w' : World} {F : Nat → Prop} {p : Nat} {x : Ex}
theorem ExAt.wide {F' : Nat → Prop} (h : ExAt w F p x) (hF : ∀ q, F q → F' q) : ExAt w F' p x := by
  obtain ⟨hok, hfp, a, hB, hh⟩ := h
  exact ⟨hok, hF _ hfp, a, hB, hh.wide (fun q hq => ⟨hF _ hq.1, hq.2⟩)⟩
theorem sum_heads {w w' : World} {p : Nat} {A : Option Addr} {n c : Nat} {K : List Hd} (hp : w.heap.size ≤ p) (hB : Blk w' p 91 #[.slice A n c]) (hO : w'.ownsRow w.heap.size 58 7 (.slice A n c) n (cellsBy encHd K)) : HeadsAt w' (fun q => w.heap.size ≤ q ∧ q < w'.heap.size) (some ⟨p, 0, none⟩) K := .inr ⟨p, A, n, c, rfl, sum_new hp hB hO⟩
set_option maxRecDepth 8000 in
set_option maxHeartbeats 4000000 in
theorem beginX (pc : Pc) {A : Option Addr} {n c B : Nat} {S : List La} {K : List Hd} (hp : okSeq pc.seq = true) (hx : ExAt w F p x) (hS : Las w B A n S) (hBw : B ≤ w.heap.size) (hFB : ∀ q, F q → B ≤ q) (hn : n ≤ 100) (hK : Told S K) :
    Calls Try.prog 28 #[.pointer (some ⟨p, 0, none⟩), .agg #[.bool pc.init, .bool pc.more, .bool pc.master, .int .u32 pc.seq], .slice A n c] w fun e w' => e = .returned (.tuple #[]) ∧ ExAt w' (Fp F w w') p (beginE x pc K) ∧ Chg F w w' := by
  have hKl := told_len hK
  have hSl := hS.1
  obtain ⟨hok, hfp, h, hB, hh⟩ := hx
  have GO := Lib.hid (hok.begin (K := K) hp (by omega))
  have HF := Lib.hid hfp
  have HK := Lib.hid hK
  have HN := Lib.hid (show K.length ≤ 1000 by omega)
  have HS := Lib.hid hS
  have hpw := hB.lt
  have f3 := hB.frozen 3
  have c3 : w.cell? ⟨p, 3, none⟩ = some (.bool x.agreed) := hB.cell 3
  have C1 := Lib.hid ((chg_put (F := F) (a := ⟨p, 3, none⟩) w (.bool true) HF.out).trans (Chg.of_below (F := F) ((Below.refl (w.setCell ⟨p, 3, none⟩ (.bool true)).heap.size _).alloc (Nat.le_refl _) (.cells #[.bool pc.init, .bool pc.more, .bool pc.master, .int .u32 pc.seq] 65))) (fun q hq => .inl hq))
  have K1 := Lib.hid ((hB.put 3 (.bool true)).alloc (.cells #[.bool pc.init, .bool pc.more, .bool pc.master, .int .u32 pc.seq] 65))
  have N1 := Lib.hid (show Blk ((w.setCell ⟨p, 3, none⟩ (.bool true)).alloc (.cells #[.bool pc.init, .bool pc.more, .bool pc.master, .int .u32 pc.seq] 65)) w.heap.size 65 #[.bool pc.init, .bool pc.more, .bool pc.master, .int .u32 pc.seq] by
    have := Blk.new (w.setCell ⟨p, 3, none⟩ (.bool true)) 65 #[.bool pc.init, .bool pc.more, .bool pc.master, .int .u32 pc.seq]
    simpa using this)
  have HZ := Lib.hid (show w.heap.size < ((w.setCell ⟨p, 3, none⟩ (.bool true)).alloc (.cells #[.bool pc.init, .bool pc.more, .bool pc.master, .int .u32 pc.seq] 65)).heap.size from N1.out.lt)
  obtain ⟨v, hv⟩ : ∃ v, decide (x.other < x.self) = v := ⟨_, rfl⟩
  have HV := Lib.hid hv
  have HBW := Lib.hid hBw
  have HFB := Lib.hid hFB
  clear hFB
  clear hKl hSl hok hfp hh hp hB hK hS
  go_enter Try.func28, Try.ntmps28
  go_wp2_with fail
  generalize (w.setCell ⟨p, 3, none⟩ (.bool true)).alloc (.cells #[.bool pc.init, .bool pc.more, .bool pc.master, .int .u32 pc.seq] 65) = w1 at *
  obtain ⟨z, hz⟩ : ∃ z, w.heap.size = z := ⟨_, rfl⟩
  rw [hz] at N1 hpw HZ HBW ⊢
  have HZ2 := Lib.hid hz
  clear hz f3 c3 hBw
  have hpl := K1.out.lt
  have c0 : w1.cell? ⟨p, 0, none⟩ = some (.int .i64 x.self) := K1.out.cell 0
  have c1 : w1.cell? ⟨p, 1, none⟩ = some (.int .i64 x.other) := K1.out.cell 1
  have c4 : w1.cell? ⟨p, 4, none⟩ = some (.bool x.leads) := K1.out.cell 4
  have f4 := K1.out.frozen 4
  go_still_tail 12, (by kernel_rfl)
  change wpList Try.prog _ _ _ _ w1.drew
  have K1a := Lib.hid (K1.out.drew)
  have N1a := Lib.hid (N1.out.drew)
  have C1a := Lib.hid (C1.out.trans (⟨rfl, rfl, rfl, Nat.le_refl _, fun _ _ _ => rfl⟩ : Chg F w1 w1.drew) (fun q hq => .inl hq))
  have HZa := Lib.hid (show z < w1.drew.heap.size from HZ.out)
  clear c0 c1 c4 f4 hpl K1 N1 C1 HZ
  generalize w1.drew = w2 at *
  clear w1
  have hpl := K1a.out.lt
  have c4 : w2.cell? ⟨p, 4, none⟩ = some (.bool x.leads) := K1a.out.cell 4
  have f4 := K1a.out.frozen 4
  have K2 := Lib.hid (show Blk (w2.setCell ⟨p, 4, none⟩ (.bool v)) p 68 (exC { x with agreed := true, leads := decide (x.other < x.self), K := K } h) by rw [HV.out]; exact K1a.out.put 4 (.bool v))
  have N2 := Lib.hid (N1a.out.far (p := ⟨p, 4, none⟩) (by simp; omega) (.bool v))
  have C2 := Lib.hid (C1a.out.trans (chg_put (F := F) (a := ⟨p, 4, none⟩) _ (.bool v) HF.out) (fun q hq => .inl hq))
  have HZ3 := Lib.hid (show z < (w2.setCell ⟨p, 4, none⟩ (.bool v)).heap.size by simpa using HZa.out)
  clear K1a N1a C1a HZa hv
  go_wp2_with fail
  clear hpl c4 f4
  generalize w2.setCell ⟨p, 4, none⟩ (.bool v) = w3 at *
  clear w2
  have B3 := Lib.hid (C2.out.to_below HFB.out (by rw [HZ2.out]; exact HBW.out))
  have HBZ := Lib.hid (Nat.le_trans HBW.out (Nat.le_of_lt HZ3.out))
  refine (new_any (HS.out.below B3.out) HBZ.out hn).mono ?_
  rintro e4 w4 ⟨q, A1, N1, c1, K', rfl, hb4, hq4, hB4, hO4, hOrd, hStab⟩
  have hKK : K' = K := (stab_unique swo_less HK.out.1 hOrd (HK.out.2.symm.trans hStab)).symm
  subst hKK
  have H4 := Lib.hid (sum_heads hq4 hB4 hO4)
  have K4 := Lib.hid (K2.out.below hb4 K2.out.lt)
  have N4 := Lib.hid (N2.out.below hb4 N2.out.lt)
  have C4 := Lib.hid (C2.out.trans (Chg.of_below (F := F) hb4) (fun q hq => .inl hq))
  have HPQ := Lib.hid (show p ≠ q by have := K2.out.lt; omega)
  have HZP := Lib.hid (show ∀ k, w3.heap.size ≤ k → k ≠ p ∧ k ≠ z ∧ w.heap.size ≤ k from fun k hk => by
    have h1 := K2.out.lt
    have h2 := N2.out.lt
    have h3 := C2.out.size
    omega)
  clear hb4 hq4 hB4 hO4 hOrd hStab K2 N2 C2 HZ3 B3 HBZ HK HS
  have hpl := K4.out.lt
  have f14 := K4.out.frozen 14
  have c14 : w4.cell? ⟨p, 14, none⟩ = some (.pointer h) := K4.out.cell 14
  have N5 := Lib.hid (N4.out.far (p := ⟨p, 14, none⟩) (by simp; omega) (.pointer (some ⟨q, 0, none⟩)))
  have R5 := Lib.hid (show (w4.setCell ⟨p, 14, none⟩ (.pointer (some ⟨q, 0, none⟩))).rangeAt z 0 [.bool pc.init, .bool pc.more, .bool pc.master, .int .u32 pc.seq] from fun j v hv => by
    rw [Nat.zero_add, N5.out.cell, ← hv]
    simp)
  go_wp2_with (refine wpList_load_row 65 _ _ (by rfl) (.tmp 4) rfl (by rfl) R5.out Try.underlying65 rfl (by kernel_rfl) ?_)
  have K5 := Lib.hid (show Blk (w4.setCell ⟨p, 14, none⟩ (.pointer (some ⟨q, 0, none⟩))) p 68 (exC { x with agreed := true, leads := decide (x.other < x.self), K := K' } (some ⟨q, 0, none⟩)) from K4.out.put 14 (.pointer (some ⟨q, 0, none⟩)))
  have C5 := Lib.hid (C4.out.trans (chg_put (F := F) (a := ⟨p, 14, none⟩) _ (.pointer (some ⟨q, 0, none⟩)) HF.out) (fun q hq => .inl hq))
  have H5 := Lib.hid (show HeadsAt (w4.setCell ⟨p, 14, none⟩ (.pointer (some ⟨q, 0, none⟩))) (fun k => w3.heap.size ≤ k ∧ k < w4.heap.size) (some ⟨q, 0, none⟩) K' from H4.out.chg (chg_put (F := fun k => k = p) _ _ rfl) (fun k hk e => (HZP.out k hk.1).1 e))
  have HS5 := Lib.hid (show w4.heap.size ≤ (w4.setCell ⟨p, 14, none⟩ (.pointer (some ⟨q, 0, none⟩))).heap.size by simp)
  clear hpl f14 c14 N5 R5 N4 K4 C4 H4
  generalize w4.setCell ⟨p, 14, none⟩ (.pointer (some ⟨q, 0, none⟩)) = w5 at *
  refine (takeX pc K5.out).mono ?_
  rintro e6 w6 ⟨rfl, hb6, hc6⟩
  have K6 := Lib.hid hb6
  have C6 := Lib.hid (C5.out.trans (hc6.wide (F' := F) (fun k hk => by rw [hk]; exact HF.out)) (fun k hk => .inl hk))
  have H6 := Lib.hid (H5.out.chg hc6 (fun k hk e => (HZP.out k hk.1).1 e))
  have HS6 := Lib.hid (Nat.le_trans HS5.out hc6.size)
  clear hb6 hc6 K5 C5 H5 HS5
  clear w5
  go_wp2_with fail
  refine (sayX (x := takeE { x with agreed := true, leads := decide (x.other < x.self), K := K' } pc) K6.out H6.out HN.out).mono ?_
  rintro e7 w7 ⟨rfl, hb7, hc7⟩
  go_wp2
  refine bodyPost_end (results_none rfl _ _ _) rfl ?_
  refine ⟨rfl, ⟨GO.out, .inl HF.out, some ⟨q, 0, none⟩, hb7, (H6.out.chg hc7 (fun k hk e => (HZP.out k hk.1).1 e)).wide (fun k hk => ⟨.inr ⟨(HZP.out k hk.1).2.2, ?_⟩, (HZP.out k hk.1).1⟩)⟩, C6.out.trans (hc7.wide (F' := F) (fun k hk => by rw [hk]; exact HF.out)) (fun k hk => .inl hk)⟩
  have := HS6.out
  have := hc7.size
  have := hk.2
  omega
end
end Go.Proofs.Ytjinleakjkbbgaa
