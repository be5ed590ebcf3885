/- Say of the program; of no exchange. Conditions: what the words say. -/
import Derived.Test.YtjinleakjkbbgaaBj
import Derived.Deep.RegionHeld3
namespace Go.Proofs.Ytjinleakjkbbgaa
open Go.RowKit Go.Lib Go.Sort Go.Deep

/-- What Say answers: the piece, with a row of heads of the call's own. -/
def SayQ (x : Ex) (w : World) (e : Ending) (w' : World) : Prop :=
  ∃ (A : Option Addr) (m c : Nat), e = .returned (.tuple #[.agg #[.bool x.said.init, .bool x.said.more, .bool x.said.master, .int .i64 x.said.seq, .slice A m c], .bool true]) ∧ Below w.heap.size w w' ∧ w'.ownsRow w.heap.size 58 7 (.slice A m c) m (cellsBy encHd (x.K.take 3))
theorem own_base {w : World} {b b' n size : Nat} {t : TypeId} {v : Value} {xs : List Value} (h : w.ownsRow b t size v n xs) (hb : b' ≤ b) : w.ownsRow b' t size v n xs := by
  refine ⟨h.1, ?_⟩
  rcases h.2 with h2 | ⟨g, cap, cur, h1, h2, h3⟩
  · exact .inl h2
  · exact .inr ⟨g, cap, cur, h1, Nat.le_trans hb h2, h3⟩
theorem keepZ {w w' : World} {z : Nat} (h : Chg (fun k => k = z) w w') : ∀ b o, b < w.heap.size → b ≠ z → w'.cell? ⟨b, o, none⟩ = w.cell? ⟨b, o, none⟩ :=
  fun b o hb hne => World.cell?_of_block (a := ⟨b, o, none⟩) (h.block b hb hne)
theorem chg_five (w : World) (z : Nat) (v0 v1 v2 v3 v4 : Value) : Chg (fun k => k = z) w (((((w.setCell ⟨z, 0, none⟩ v0).setCell ⟨z, 1, none⟩ v1).setCell ⟨z, 2, none⟩ v2).setCell ⟨z, 3, none⟩ v3).setCell ⟨z, 4, none⟩ v4) :=
  chg_setCells z [v0, v1, v2, v3, v4] 0 w
section
variable {w : World} {F : Nat → Prop} {p : Nat} {x : Ex}
set_option maxRecDepth 8000 in
set_option maxHeartbeats 8000000 in
theorem sayO (hx : ExAt w F p x) : Calls Try.prog 21 #[.pointer (some ⟨p, 0, none⟩)] w (SayQ x w) := by
  generalize hQ : SayQ x w = Q
  have HQ := Lib.hid hQ
  have hw := i64_of_u32 hx.ok.said
  have HN := Lib.hid hx.ok.len
  have hxl := hx.lt
  have B1 := Lib.hid ((Below.refl w.heap.size w).alloc (Nat.le_refl _) (.cells #[.bool false, .bool false, .bool false, .int .i64 0, .slice none 0 0] 33))
  have X1 := Lib.hid (hx.below B1.out)
  have N1 := Lib.hid (Blk.new w 33 #[.bool false, .bool false, .bool false, .int .i64 0, .slice none 0 0])
  clear hQ hx
  obtain ⟨h, hB, hh⟩ := X1.out.mem
  have hpl := hB.lt
  have c10 : (w.alloc (.cells #[.bool false, .bool false, .bool false, .int .i64 0, .slice none 0 0] 33)).cell? ⟨p, 10, none⟩ = some (.bool x.said.init) := hB.cell 10
  have c11 : (w.alloc (.cells #[.bool false, .bool false, .bool false, .int .i64 0, .slice none 0 0] 33)).cell? ⟨p, 11, none⟩ = some (.bool x.said.more) := hB.cell 11
  have c12 : (w.alloc (.cells #[.bool false, .bool false, .bool false, .int .i64 0, .slice none 0 0] 33)).cell? ⟨p, 12, none⟩ = some (.bool x.said.master) := hB.cell 12
  have c13 : (w.alloc (.cells #[.bool false, .bool false, .bool false, .int .i64 0, .slice none 0 0] 33)).cell? ⟨p, 13, none⟩ = some (.int .u32 x.said.seq) := hB.cell 13
  have B2 := Lib.hid (B1.out.alloc (by simp) (.cells #[.bool x.said.init, .bool x.said.more, .bool x.said.master, .int .u32 x.said.seq] 65))
  have X2 := Lib.hid (X1.out.below ((Below.refl (w.alloc (.cells #[.bool false, .bool false, .bool false, .int .i64 0, .slice none 0 0] 33)).heap.size _).alloc (Nat.le_refl _) (.cells #[.bool x.said.init, .bool x.said.more, .bool x.said.master, .int .u32 x.said.seq] 65)))
  have N2 := Lib.hid (N1.out.alloc (.cells #[.bool x.said.init, .bool x.said.more, .bool x.said.master, .int .u32 x.said.seq] 65))
  have M2 := Lib.hid (show Blk ((w.alloc (.cells #[.bool false, .bool false, .bool false, .int .i64 0, .slice none 0 0] 33)).alloc (.cells #[.bool x.said.init, .bool x.said.more, .bool x.said.master, .int .u32 x.said.seq] 65)) (w.heap.size + 1) 65 #[.bool x.said.init, .bool x.said.more, .bool x.said.master, .int .u32 x.said.seq] by
    have := Blk.new (w.alloc (.cells #[.bool false, .bool false, .bool false, .int .i64 0, .slice none 0 0] 33)) 65 #[.bool x.said.init, .bool x.said.more, .bool x.said.master, .int .u32 x.said.seq]
    simpa using this)
  clear N1 X1 B1
  go_enter Try.func21, Try.ntmps21
  go_wp2_with fail
  clear hpl c10 c11 c12 c13 hB hh
  generalize (w.alloc (.cells #[.bool false, .bool false, .bool false, .int .i64 0, .slice none 0 0] 33)).alloc (.cells #[.bool x.said.init, .bool x.said.more, .bool x.said.master, .int .u32 x.said.seq] 65) = w2 at *
  obtain ⟨z, hz⟩ : ∃ z, w.heap.size = z := ⟨_, rfl⟩
  rw [hz] at N2 M2 hxl ⊢
  have hpz : p ≠ z := by omega
  have hzp : z + 1 ≠ z := by omega
  have HZ := Lib.hid hz
  clear hz h
  obtain ⟨h, hB, hh⟩ := X2.out.mem
  have HH := Lib.hid (show HeadsAt w2.drew (fun q => F q ∧ q ≠ p) h x.K from hh.move (fun _ _ _ => rfl) (Nat.le_refl _))
  have c14 : w2.cell? ⟨p, 14, none⟩ = some (.pointer h) := hB.cell 14
  have hpl := hB.lt
  obtain ⟨m0, m1, m2, m3⟩ := M2.out.four
  have hml := M2.out.lt
  obtain ⟨n0, n1, n2, n3, n4⟩ := N2.out.five
  have hnl := N2.out.lt
  have BR : Below w2.heap.size w2 w2.drew := ⟨rfl, rfl, rfl, Nat.le_refl _, fun _ _ => rfl⟩
  have CR : Chg (fun k => k = z) w2 w2.drew := Chg.of_below BR
  clear hB hh
  go_region_held3 (fun w' => ∀ b o, b < w2.heap.size → b ≠ z → w'.cell? ⟨b, o, none⟩ = w2.cell? ⟨b, o, none⟩) ((refine keepZ ?_; first | with_reducible exact CR | with_reducible exact CR5 | with_reducible exact CR6)) (first | (go_at_call 37; refine (pieceO HH.out HN.out).mono ?_; rintro e5 w5 ⟨A5, m5, c5, rfl, hb5, hO5⟩; have BR5 := BR.trans (show Below w2.heap.size w2.drew w5 from hb5); have CR5 : Chg (fun k => k = z) w2 w5 := Chg.of_below BR5; have CR6 := CR5.trans (chg_five w5 z (.bool x.said.init) (.bool x.said.more) (.bool x.said.master) (.int .i64 x.said.seq) (.slice A5 m5 c5)) (fun q hq => .inl hq); have N5 := N2.out.below BR5 hnl; have f0 := N5.frozen 0; have f1 := N5.frozen 1; have f2 := N5.frozen 2; have f3 := N5.frozen 3; have f4 := N5.frozen 4; obtain ⟨s0, s1, s2, s3, s4⟩ := N5.five; have hsl := N5.lt))
  all_goals
    have K6 := Lib.hid (show Blk (((((w5.setCell ⟨z, 0, none⟩ (.bool x.said.init)).setCell ⟨z, 1, none⟩ (.bool x.said.more)).setCell ⟨z, 2, none⟩ (.bool x.said.master)).setCell ⟨z, 3, none⟩ (.int .i64 x.said.seq)).setCell ⟨z, 4, none⟩ (.slice A5 m5 c5)) z 33 #[.bool x.said.init, .bool x.said.more, .bool x.said.master, .int .i64 x.said.seq, .slice A5 m5 c5] from ((((N5.put 0 _).put 1 _).put 2 _).put 3 _).put 4 _)
    have O6 := Lib.hid (own_chg hO5 (chg_five w5 z (.bool x.said.init) (.bool x.said.more) (.bool x.said.master) (.int .i64 x.said.seq) (.slice A5 m5 c5)) (fun q hq e => by
      have h1 := own_base_le hO5 hq
      have h2 : w2.heap.size ≤ q := h1
      omega))
    have C6 := Lib.hid CR6
    clear CR6 CR5 BR5 N5 f0 f1 f2 f3 f4 s0 s1 s2 s3 s4 hsl hO5 hb5
    generalize ((((w5.setCell ⟨z, 0, none⟩ (.bool x.said.init)).setCell ⟨z, 1, none⟩ (.bool x.said.more)).setCell ⟨z, 2, none⟩ (.bool x.said.master)).setCell ⟨z, 3, none⟩ (.int .i64 x.said.seq)).setCell ⟨z, 4, none⟩ (.slice A5 m5 c5) = w6 at *
    obtain ⟨k0, k1, k2, k3, k4⟩ := K6.out.five
    go_wp2
    refine bodyPost_ret (v := .tuple #[.agg #[.bool x.said.init, .bool x.said.more, .bool x.said.master, .int .i64 x.said.seq, .slice A5 m5 c5], .bool true]) (by simp [results, Try.results21, go_sem, *]) rfl ?_
    rw [← HQ.out]
    refine ⟨A5, m5, c5, rfl, B2.out.trans (C6.out.to_below (fun q hq => by rw [hq, ← HZ.out]; exact Nat.le_refl _) B2.out.size), ?_⟩
    exact own_base O6.out (by have := B2.out.size; exact this)
end
/-- Of no exchange. -/
theorem agreedN (w : World) : Calls Try.prog 23 #[.pointer none] w fun e w' => e = .returned (.bool false) ∧ w' = w := by
  go_enter Try.func23, Try.ntmps23
  go_wp2
  go_ret
  exact ⟨rfl, rfl⟩
theorem leadsN (w : World) : Calls Try.prog 20 #[.pointer none] w fun e w' => e = .returned (.bool false) ∧ w' = w := by
  go_enter Try.func20, Try.ntmps20
  go_wp2
  go_ret
  exact ⟨rfl, rfl⟩
theorem doneN (w : World) : Calls Try.prog 19 #[.pointer none] w fun e w' => e = .returned (.bool false) ∧ w' = w := by
  go_enter Try.func19, Try.ntmps19
  go_wp2
  go_ret
  exact ⟨rfl, rfl⟩
theorem seqN (w : World) : Calls Try.prog 24 #[.pointer none] w fun e w' => e = .returned (.int .i64 0) ∧ w' = w := by
  go_enter Try.func24, Try.ntmps24
  go_wp2
  go_ret
  exact ⟨rfl, rfl⟩
theorem sayN (w : World) : Calls Try.prog 21 #[.pointer none] w fun e w' => e = .returned (.tuple #[.agg #[.bool false, .bool false, .bool false, .int .i64 0, .slice none 0 0], .bool false]) ∧ Below w.heap.size w w' := by
  go_enter Try.func21, Try.ntmps21
  go_wp2
  refine bodyPost_ret (v := .tuple #[.agg #[.bool false, .bool false, .bool false, .int .i64 0, .slice none 0 0], .bool false]) (by simp [results, Try.results21, go_sem, *]) rfl ?_
  exact ⟨rfl, (Below.refl _ _).alloc (Nat.le_refl _) _⟩
theorem hearN (v1 v2 v3 v4 v5 : Value) (A : Option Addr) (n c : Nat) (w : World) : Calls Try.prog 13 #[.pointer none, .agg #[v1, v2, v3, v4, v5], .slice A n c] w fun e w' => e = .returned (.int .i64 0) ∧ Below w.heap.size w w' := by
  go_enter Try.func13, Try.ntmps13
  go_wp2
  go_ret
  exact ⟨rfl, (Below.refl _ _).alloc (Nat.le_refl _) _⟩
set_option maxRecDepth 8000 in
set_option maxHeartbeats 4000000 in
/-- alike, Same of the reference. -/
theorem alike_any (a b : Pc) (A A' : Option Addr) (n c n' c' : Nat) (w : World) : Calls Try.prog 33 #[.agg #[.bool a.init, .bool a.more, .bool a.master, .int .i64 a.seq, .slice A n c], .agg #[.bool b.init, .bool b.more, .bool b.master, .int .i64 b.seq, .slice A' n' c']] w fun e w' => e = .returned (.bool (decide (a = b))) ∧ ∃ q os', w' = grow (w.drewN q) os' := by
  obtain ⟨a0, a1, a2, a3⟩ := a
  obtain ⟨b0, b1, b2, b3⟩ := b
  have HG := Lib.hid (show ∃ q os', (w.alloc (.cells #[.bool a0, .bool a1, .bool a2, .int .i64 a3, .slice A n c] 33)).alloc (.cells #[.bool b0, .bool b1, .bool b2, .int .i64 b3, .slice A' n' c'] 33) = grow (w.drewN q) os' from ⟨0, _, by rw [alloc_eq_grow, alloc_eq_grow, grow_grow]; rfl⟩)
  by_cases h1 : a0 = b0
  · by_cases h2 : a1 = b1
    · by_cases h3 : a2 = b2
      · have HE := Lib.hid (show (a3 == b3) = decide ((⟨a0, a1, a2, a3⟩ : Pc) = ⟨b0, b1, b2, b3⟩) by by_cases h : a3 = b3 <;> simp [h, h1, h2, h3])
        subst h1 h2 h3
        have d1 : (a0 == a0) = true := by simp
        have d2 : (a1 == a1) = true := by simp
        have d3 : (a2 == a2) = true := by simp
        go_enter Try.func33, Try.ntmps33
        go_wp2
        go_ret
        exact ⟨ret_bool HE.out, HG.out⟩
      · have HE := Lib.hid (show false = decide ((⟨a0, a1, a2, a3⟩ : Pc) = ⟨b0, b1, b2, b3⟩) by simp [h3])
        have d3 : (a2 == b2) = false := by simpa using h3
        subst h1 h2
        have d1 : (a0 == a0) = true := by simp
        have d2 : (a1 == a1) = true := by simp
        clear h3
        go_enter Try.func33, Try.ntmps33
        go_wp2
        go_ret
        exact ⟨ret_bool HE.out, HG.out⟩
    · have HE := Lib.hid (show false = decide ((⟨a0, a1, a2, a3⟩ : Pc) = ⟨b0, b1, b2, b3⟩) by simp [h2])
      have d2 : (a1 == b1) = false := by simpa using h2
      subst h1
      have d1 : (a0 == a0) = true := by simp
      clear h2
      go_enter Try.func33, Try.ntmps33
      go_wp2
      go_ret
      exact ⟨ret_bool HE.out, HG.out⟩
  · have HE := Lib.hid (show false = decide ((⟨a0, a1, a2, a3⟩ : Pc) = ⟨b0, b1, b2, b3⟩) by simp [h1])
    have d1 : (a0 == b0) = false := by simpa using h1
    clear h1
    go_enter Try.func33, Try.ntmps33
    go_wp2
    go_ret
    exact ⟨ret_bool HE.out, HG.out⟩
end Go.Proofs.Ytjinleakjkbbgaa
