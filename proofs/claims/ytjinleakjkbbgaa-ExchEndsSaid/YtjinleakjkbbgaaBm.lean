/- One side of two in memory; it hears the other one. Conditions: at most 100 descriptions, at most 1000 heads. -/
import Derived.Test.YtjinleakjkbbgaaBl
import Derived.Deep.RegionLaw
namespace Go.Proofs.Ytjinleakjkbbgaa
open Go.RowKit Go.Lib Go.Sort Go.Deep

/-- append onto a row of the call's own, of any other row; where the new one lies. -/
theorem run_append_at (w : World) (t e ty : TypeId) (z : Value) (size bytes : Nat)
    (ht : Try.prog.underlying t = some (.slice e)) (hinfo : (Try.prog.info? e).map (fun i => (i.zero, i.size, i.bytes)) = some (some z, size, bytes)) (hzs : z.cells.size = size) (hsz : 0 < size) (hby : bytes ≤ 1024)
    (base : Nat) (v : Value) (n : Nat) (xs : List Value) (hown : w.ownsRow base e size v n xs) (A : Option Addr) (m c : Nat) (news : List Value) (hl : news.length = m * size) (hA : A = none → m = 0)
    (hnews : ∀ ad, A = some ad → ∀ j u, news[j]? = some u → w.cell? (ad.add j) = some u) (h1 : ∀ u ∈ news, u.oneCell' = true) (hz : n + m ≤ 1048576) (hbase : base ≤ w.heap.size) :
    ∃ v' w', (Builtin.append_ #[t, t] ty #[v, .slice A m c]).run Try.prog w = .ok v' w' ∧ w'.ownsRow base e size v' (n + m) (xs ++ news) ∧ w.grownBy w' v.ownBlock ∧ (v'.ownBlock = v.ownBlock ∨ v'.ownBlock = some w.heap.size) := by
  obtain ⟨i0, hi, hz0, hz1, hz2⟩ := info_parts hinfo
  cases A with
  | none =>
    have hm := hA rfl
    subst hm
    have hl0 : news = [] := List.eq_nil_of_length_eq_zero (by omega)
    subst hl0
    refine ⟨v, w, ?_, by simpa using hown, ⟨rfl, rfl, rfl, Nat.le_refl _, fun _ _ _ => rfl⟩, .inl rfl⟩
    rcases hown.2 with ⟨rfl, rfl⟩ | ⟨g, cap, cur, rfl, _, _, hnc, _⟩
    · simp [Builtin.append_, run_underlying ht, sizeOf, typeInfo, hi, Builtin.lenOf, Builtin.firstCells]
    · simp [Builtin.append_, run_underlying ht, sizeOf, typeInfo, hi, Builtin.lenOf, Builtin.firstCells, hnc, storeCells]
  | some ad =>
    have hb : (n + m) * bytes ≤ 1048576 * 1024 := Nat.mul_le_mul hz hby
    obtain ⟨v', w', h1, h2, h3, _, h5⟩ := run_append_own_at (P := Try.prog) w base t ty e i0 z size bytes ht hi hz0 hz1 hz2 hzs hsz v n xs hown ad m c news hl (hnews ad rfl) h1 (by unfold maxLen; omega) (by omega) hbase
    exact ⟨v', w', h1, h2, h3, h5⟩
theorem step_append_at {w : World} {ops : Array Oper} {o : Oper} {a : Act} {K : Act → World → Prop} {Q : Exit → Act → World → Prop} {E : Prop} (hgd : o.guard = none) (s x : Operand) (t e : TypeId) (z : Value) (size bytes : Nat)
    (ht : Try.prog.underlying t = some (.slice e)) (hinfo : (Try.prog.info? e).map (fun i => (i.zero, i.size, i.bytes)) = some (some z, size, bytes)) (hzs : z.cells.size = size) (hsz : 0 < size) (hby : bytes ≤ 1024)
    (ho : o.op = .call { callee := .builtin .append, args := #[s, x], argTypes := #[t, t] }) (base : Nat) (v : Value) (n : Nat) (xs : List Value) (hs : a.eval s = v) (hown : w.ownsRow base e size v n xs)
    (A : Option Addr) (m c : Nat) (news : List Value) (hx : a.eval x = .slice A m c) (hl : news.length = m * size) (hA : A = none → m = 0)
    (hnews : ∀ ad, A = some ad → ∀ j u, news[j]? = some u → w.cell? (ad.add j) = some u) (h1 : ∀ u ∈ news, u.oneCell' = true) (hz : n + m ≤ 1048576) (hbase : base ≤ w.heap.size)
    (h : ∀ v' w', Hid (w'.ownsRow base e size v' (n + m) (xs ++ news)) → Hid (w.grownBy w' v.ownBlock) → Hid (v'.ownBlock = v.ownBlock ∨ v'.ownBlock = some w.heap.size) → K (a.put o.dst v') w') : if Region.wanted o (yielded ops a.tmps) = true then Oper.wp Try.prog o a w K Q else E := by
  have hw : Region.wanted o (yielded ops a.tmps) = true := by simp [Region.wanted, hgd]
  rw [if_pos hw]
  obtain ⟨v', w', hrun, h2, h3, h4⟩ := run_append_at w t e o.type z size bytes ht hinfo hzs hsz hby base v n xs hown A m c news hl hA hnews h1 hz hbase
  unfold Oper.wp execOp
  simp only [ho, resolve, invoke, builtin, Sem.run_bind, Sem.run_pure, Result.andThen_ok, List.map_toArray, List.map_cons, List.map_nil, hs, hx, hrun]
  exact h v' w' h2 h3 h4
/-- One side in memory: its block s, its exchange's p, what it took; all on blocks of F, no two of the three on one. -/
structure SdAt (w : World) (F : Nat → Prop) (s p : Nat) (A : Option Addr) (n c : Nat) (d : Sd) : Prop where
  fs : F s
  bound : ∀ q, F q → q < w.heap.size
  mem : ∃ (E : Nat → Prop) (At : Option Addr) (nt ct : Nat), Blk w s 48 #[.pointer (some ⟨p, 0, none⟩), .slice A n c, .slice At nt ct] ∧ w.ownsRow 0 58 7 (.slice At nt ct) nt (cellsBy encHd d.took) ∧ ExAt w E p d.x ∧
    (∀ q, E q → F q ∧ q ≠ s) ∧ (∀ g, (Value.slice At nt ct).ownBlock = some g → F g ∧ g ≠ s ∧ ¬ E g)
section
variable {w w' : World} {F F' : Nat → Prop} {s p : Nat} {A : Option Addr} {n c : Nat} {d : Sd}
theorem own_move {w w' : World} {b n size : Nat} {t : TypeId} {v : Value} {xs : List Value} (h : w.ownsRow b t size v n xs) (hm : ∀ g, v.ownBlock = some g → w'.heap[g]? = w.heap[g]?) : w'.ownsRow b t size v n xs := by
  refine ⟨h.1, ?_⟩
  rcases h.2 with h2 | ⟨g, cap, cur, rfl, h2, h3, h4⟩
  · exact .inl h2
  · exact .inr ⟨g, cap, cur, rfl, h2, (hm g rfl).trans h3, h4⟩
theorem SdAt.move (h : SdAt w F s p A n c d) (hk : ∀ q, F q → q < w.heap.size → w'.heap[q]? = w.heap[q]?) (hz : w.heap.size ≤ w'.heap.size) : SdAt w' F s p A n c d := by
  obtain ⟨E, At, nt, ct, hb, ho, hx, hE, hg⟩ := h.mem
  have hk' : ∀ q, F q → w'.heap[q]? = w.heap[q]? := fun q hq => hk q hq (h.bound q hq)
  exact ⟨h.fs, fun q hq => Nat.lt_of_lt_of_le (h.bound q hq) hz, E, At, nt, ct, (hk' s h.fs).trans hb, own_move ho (fun g e => hk' g (hg g e).1), hx.move (fun q hq hl => hk q (hE q hq).1 hl) hz, hE, hg⟩
theorem SdAt.chg (h : SdAt w F s p A n c d) (hc : Chg F' w w') (hF : ∀ q, F q → ¬ F' q) : SdAt w' F s p A n c d := h.move (fun q hq hl => hc.block q hl (hF q hq)) hc.size
theorem SdAt.below (h : SdAt w F s p A n c d) (hb : Below w.heap.size w w') : SdAt w' F s p A n c d := h.move (fun q _ hl => hb.block q hl) hb.size
theorem SdAt.drewN (h : SdAt w F s p A n c d) (q : Nat) : SdAt (w.drewN q) F s p A n c d := h.move (fun _ _ _ => rfl) (Nat.le_refl _)
end
/-- What hears leaves. -/
def HearsQ (F : Nat → Prop) (s p : Nat) (A : Option Addr) (n c : Nat) (K : List Hd) (a b : Sd) (w : World) (e : Ending) (w' : World) : Prop :=
  e = .returned (.bool (decide (hearsC K a b ≠ 3))) ∧ SdAt w' (Fp F w w') s p A n c (hearsS K a b) ∧ Chg F w w'
set_option maxRecDepth 8000 in
set_option maxHeartbeats 8000000 in
theorem hears_any {w : World} {F G : Nat → Prop} {s p s' p' : Nat} {A A' : Option Addr} {n c n' c' B : Nat} {S : List La} {K : List Hd} {a b : Sd} (hA : SdAt w F s p A n c a) (hB : SdAt w G s' p' A' n' c' b)
    (hS : Las w B A n S) (hBw : B ≤ w.heap.size) (hFB : ∀ q, F q → B ≤ q) (hn : n ≤ 100) (hK : Told S K) (ht : a.took.length ≤ 1000) :
    Calls Try.prog 17 #[.pointer (some ⟨s, 0, none⟩), .pointer (some ⟨s', 0, none⟩)] w (HearsQ F s p A n c K a b w) := by
  generalize hQ : HearsQ F s p A n c K a b w = Q
  have HQ := Lib.hid hQ
  have HA := Lib.hid hA
  have HB := Lib.hid hB
  have HS := Lib.hid hS
  have HBW := Lib.hid hBw
  have HFB := Lib.hid hFB
  have HK := Lib.hid hK
  obtain ⟨E', At', nt', ct', hb', ho', hx', hE', hg'⟩ := hB.mem
  have c0 : w.cell? ⟨s', 0, none⟩ = some (.pointer (some ⟨p', 0, none⟩)) := hb'.cell 0
  have hsl := hb'.lt
  have HX' := Lib.hid hx'
  clear hQ hA hB hS hBw hFB hK hb' ho' hx' hE' hg'
  go_enter Try.func17, Try.ntmps17
  go_wp2_with fail
  refine (sayO HX'.out).mono ?_
  rintro e1 w1 ⟨A1, m1, c1, rfl, hb1, hO1⟩
  have HM := Lib.hid (own_lenH encHd_len (by omega) hO1)
  have hm3 : m1 ≤ 3 := by have := HM.out; rw [List.length_take] at this; omega
  have BW2 := Lib.hid (hb1.alloc hb1.size (.cells #[.bool b.x.said.init, .bool b.x.said.more, .bool b.x.said.master, .int .i64 b.x.said.seq, .slice A1 m1 c1] 33))
  have N2 := Lib.hid (Blk.new w1 33 #[.bool b.x.said.init, .bool b.x.said.more, .bool b.x.said.master, .int .i64 b.x.said.seq, .slice A1 m1 c1])
  have SA2 := Lib.hid (HA.out.below BW2.out)
  have O2 := Lib.hid (hO1.alloc (.cells #[.bool b.x.said.init, .bool b.x.said.more, .bool b.x.said.master, .int .i64 b.x.said.seq, .slice A1 m1 c1] 33))
  obtain ⟨hsq0, hsq1⟩ := (okSeq_iff _).1 HX'.out.ok.said
  have HZ1 := Lib.hid (show w.heap.size ≤ w1.heap.size from hb1.size)
  have HFW := Lib.hid HA.out.bound
  have HFS := Lib.hid HA.out.fs
  clear c0 hsl HX' hb1 hO1 HA HB
  go_wp2_with fail
  obtain ⟨z, hz⟩ : ∃ z, w1.heap.size = z := ⟨_, rfl⟩
  generalize w1.alloc (.cells #[.bool b.x.said.init, .bool b.x.said.more, .bool b.x.said.master, .int .i64 b.x.said.seq, .slice A1 m1 c1] 33) = w2 at *
  rw [hz] at N2 HZ1 ⊢
  clear hz w1
  obtain ⟨n0, n1, n2, n3, n4⟩ := N2.out.five
  have hnl := N2.out.lt
  obtain ⟨E, At, nt, ct, hb, ho, hx, hE, hg⟩ := SA2.out.mem
  have s0 : w2.cell? ⟨s, 0, none⟩ = some (.pointer (some ⟨p, 0, none⟩)) := hb.cell 0
  have s1 : w2.cell? ⟨s, 1, none⟩ = some (.slice A n c) := hb.cell 1
  have hsl := hb.lt
  have HE := Lib.hid hE
  have HG := Lib.hid hg
  have KS3 := Lib.hid (show Blk w2.drew s 48 #[.pointer (some ⟨p, 0, none⟩), .slice A n c, .slice At nt ct] from hb)
  have X3 := Lib.hid (show ExAt w2.drew E p a.x from hx.move (fun _ _ _ => rfl) (Nat.le_refl _))
  have T3 := Lib.hid (show w2.drew.ownsRow 0 58 7 (.slice At nt ct) nt (cellsBy encHd a.took) from ho)
  have N3 := Lib.hid (show Blk w2.drew z 33 #[.bool b.x.said.init, .bool b.x.said.more, .bool b.x.said.master, .int .i64 b.x.said.seq, .slice A1 m1 c1] from N2.out)
  have O3 := Lib.hid (show w2.drew.ownsRow w.heap.size 58 7 (.slice A1 m1 c1) m1 (cellsBy encHd (b.x.K.take 3)) from O2.out)
  have BW3 := Lib.hid (BW2.out.trans (⟨rfl, rfl, rfl, Nat.le_refl _, fun _ _ => rfl⟩ : Below w.heap.size w2 w2.drew))
  clear hE hg hb ho hx O2 BW2 SA2 N2
  go_still_tail 9, (by kernel_rfl)
  change wpList Try.prog _ _ _ _ w2.drew
  clear n0 n1 n2 n3 n4 hnl s0 s1 hsl
  generalize w2.drew = w3 at *
  clear w2
  go_wp2_with fail
  refine (hearX b.x.said (Ah := A1) (nh := m1) (ch := c1) (by omega) (by omega) X3.out (fun q hq => Nat.lt_of_lt_of_le (HFW.out q (HE.out q hq).1) BW3.out.size) (HS.out.below (BW3.out.mono HBW.out)) (Nat.le_trans HBW.out BW3.out.size) (fun q hq => HFB.out q (HE.out q hq).1) hn HK.out).mono ?_
  rintro e4 w4 ⟨rfl, hx4, hc4⟩
  have HR := Lib.hid (show hearE a.x b.x.said (b.x.K.take 3).length K = hearE a.x b.x.said m1 K by rw [HM.out])
  have HC := Lib.hid (show hearsC K a b = (hearE a.x b.x.said m1 K).1 by unfold hearsC; rw [HR.out])
  have HD := Lib.hid (show hearsS K a b = ⟨(hearE a.x b.x.said m1 K).2, if hearsC K a b = 2 then a.took ++ b.x.K.take 3 else a.took⟩ by unfold hearsS; rw [HR.out])
  generalize hearE a.x b.x.said m1 K = rr at *
  obtain ⟨v, y⟩ := rr
  dsimp only at hx4 HC HD ⊢
  have HSW := Lib.hid (show s < w.heap.size from HFW.out s HFS.out)
  have KS4 := Lib.hid (KS3.out.chg hc4 (fun he => (HE.out s he).2 rfl))
  have T4 := Lib.hid (own_move T3.out (fun g e => hc4.block g (Nat.lt_of_lt_of_le (HFW.out g (HG.out g e).1) BW3.out.size) (HG.out g e).2.2))
  have HEW := Lib.hid (show ∀ q, w.heap.size ≤ q → ¬ E q from fun q hq he => by have := HFW.out q (HE.out q he).1; omega)
  have N4 := Lib.hid (N3.out.chg hc4 (HEW.out z HZ1.out))
  have O4 := Lib.hid (own_chg O3.out hc4 (fun q hq => HEW.out q (own_base_le O3.out hq)))
  have C4 := Lib.hid ((Chg.of_below (F := F) (w' := w3) BW3.out).trans (hc4.wide (F' := F) (fun q hq => (HE.out q hq).1)) (fun q hq => .inl hq))
  have X4 := Lib.hid hx4
  have HZ3 := Lib.hid BW3.out.size
  have HZ4 := Lib.hid hc4.size
  clear hx4 hc4 KS3 T3 N3 O3 BW3 X3 HR
  by_cases h2 : v = 2
  · subst h2
    have HN := Lib.hid (own_lenH encHd_len (by omega) T4.out)
    have KS5 := Lib.hid (show Blk w4.drew s 48 #[.pointer (some ⟨p, 0, none⟩), .slice A n c, .slice At nt ct] from KS4.out)
    have X5 := Lib.hid (show ExAt w4.drew (Fp E w3 w4) p y from X4.out.move (fun _ _ _ => rfl) (Nat.le_refl _))
    have T5 := Lib.hid (show w4.drew.ownsRow 0 58 7 (.slice At nt ct) nt (cellsBy encHd a.took) from T4.out)
    have O5 := Lib.hid (show w4.drew.ownsRow w.heap.size 58 7 (.slice A1 m1 c1) m1 (cellsBy encHd (b.x.K.take 3)) from O4.out)
    have C5 := Lib.hid (C4.out.trans (⟨rfl, rfl, rfl, Nat.le_refl _, fun _ _ _ => rfl⟩ : Chg F w4 w4.drew) (fun q hq => .inl hq))
    have HZ5 := Lib.hid (show w4.heap.size ≤ w4.drew.heap.size from Nat.le_refl _)
    clear KS4 T4 O4 C4 X4
    have c2 : w4.drew.cell? ⟨s, 2, none⟩ = some (.slice At nt ct) := KS5.out.cell 2
    have c4 : w4.drew.cell? ⟨z, 4, none⟩ = some (.slice A1 m1 c1) := N4.out.cell 4
    have hsl : s < w4.drew.heap.size := KS5.out.lt
    have hzl : z < w4.drew.heap.size := N4.out.lt
    have hcl := (own_hds O5.out).cells
    go_wp2_with fail
    go_region_law (first | (refine step_append_at (by rfl) (.tmp 32) (.tmp 34) 31 58 (.agg #[.int .i64 0, .int .i64 0, .int .i64 0, .int .i64 0, .int .i64 0, .int .i64 0, .int .i64 0]) 7 56 Try.underlying31 infoHd rfl (by decide) (by decide) (by rfl) 0 (.slice At nt ct) nt (cellsBy encHd a.took) (by rfl) T5.out A1 m1 c1 (cellsBy encHd (b.x.K.take 3)) (by rfl) (by rw [by_length encHd_len, HM.out]) hcl.1 hcl.2 (by_ones encHd_ones _) (by have := HN.out; omega) (Nat.zero_le _) ?_; intro v6 w6 ho6 hg6 hw6; obtain ⟨A6, c6, rfl⟩ := own_slice ho6.out; have KS6 := (KS5.out.chg (Chg.of_grown (F := fun k => (Value.slice At nt ct).ownBlock = some k) hg6.out (fun k hk => hk)) (fun e => (HG.out s e).2.1 rfl)); have hsl6 := KS6.lt; have s2 : w6.cell? ⟨s, 2, none⟩ = some (.slice At nt ct) := KS6.cell 2; have f2 := KS6.frozen 2))
    all_goals
      go_wp2
      have hcc : decide (hearsC K a b ≠ 3) = true := by rw [HC.out]; decide
      show Q (.returned (.bool true)) _
      rw [← HQ.out]
      unfold HearsQ
      rw [hcc, HD.out, HC.out, if_pos rfl]
      have C6 : Chg F w w6 := C5.out.trans (Chg.of_grown (F := F) hg6.out (fun k hk => (HG.out k hk).1)) (fun q hq => .inl hq)
      have C7 : Chg F w (w6.setCell ⟨s, 2, none⟩ (.slice A6 (nt + m1) c6)) := C6.trans (chg_put (F := F) _ _ HFS.out) (fun q hq => .inl hq)
      have z5 := hg6.out.size
      have z7 : (w6.setCell ⟨s, 2, none⟩ (.slice A6 (nt + m1) c6)).heap.size = w6.heap.size := by simp
      have h3 := HZ3.out
      have h4 := HZ4.out
      have h5 := HZ5.out
      have hsw := HSW.out
      refine ⟨rfl, ⟨.inl HFS.out, fun q hq => ?_, Fp E w3 w4, A6, nt + m1, c6, KS6.put 2 _, ?_, ?_, fun q hq => ?_, fun g hg => ?_⟩, C7⟩
      · rcases hq with hq | hq
        · have := HFW.out q hq
          omega
        · exact hq.2
      · rw [by_append]
        exact own_move ho6.out (fun g e => Below.heap_setCell _ _ _ _ (by
          rcases hw6.out with h | h
          · exact (HG.out g (by rw [← h]; exact e)).2.1
          · rw [h] at e
            injection e with e
            show g ≠ s
            omega))
      · refine (X5.out.chg (Chg.of_grown (F := fun k => (Value.slice At nt ct).ownBlock = some k) hg6.out (fun k hk => hk)) (fun q hq e => ?_)).chg (chg_put (F := fun k => k = s) _ _ rfl) (fun q hq e => ?_)
        · rcases hq with hq | hq
          · exact (HG.out q e).2.2 hq
          · have := HFW.out q (HG.out q e).1
            omega
        · rcases hq with hq | hq
          · exact (HE.out q hq).2 e
          · omega
      · rcases hq with hq | hq
        · exact ⟨.inl (HE.out q hq).1, (HE.out q hq).2⟩
        · exact ⟨.inr (by omega), by omega⟩
      · rcases hw6.out with h | h
        · rw [h] at hg
          obtain ⟨g1, g2, g3⟩ := HG.out g hg
          refine ⟨.inl g1, g2, fun e => ?_⟩
          rcases e with e | e
          · exact g3 e
          · have := HFW.out g g1
            omega
        · rw [h] at hg
          injection hg with hg
          have hgl : w4.drew.heap.size < w6.heap.size := by
            rcases ho6.out.2 with ⟨e1, e2⟩ | ⟨g', cap, cur, e1, e2, e3, e4⟩
            · rw [e1] at h
              cases h
            · rw [e1] at h
              injection h with h
              have h : g' = w4.drew.heap.size := h
              rw [← h]
              exact (Array.getElem?_eq_some_iff.1 e3).1
          refine ⟨.inr (by omega), by omega, fun e => ?_⟩
          rcases e with e | e
          · exact HEW.out g (by omega) e
          · omega
  · have d2 : (v == 2) = false := by simpa using h2
    have d3 : decide (hearsC K a b ≠ 3) = (v != 3) := by
      rw [HC.out]
      by_cases h : v = 3 <;> simp [h]
    have HD2 := Lib.hid d3
    have H2 := Lib.hid h2
    clear d3 h2
    go_wp2
    show Q (.returned (.bool (v != 3))) _
    rw [← HQ.out]
    unfold HearsQ
    rw [HD2.out, HD.out, HC.out, if_neg H2.out]
    have h3 := HZ3.out
    have h4 := HZ4.out
    have hsw := HSW.out
    refine ⟨rfl, ⟨.inl HFS.out, fun q hq => ?_, Fp E w3 w4, At, nt, ct, KS4.out, T4.out, X4.out, fun q hq => ?_, fun g hg => ?_⟩, C4.out⟩
    · rcases hq with hq | hq
      · have := HFW.out q hq
        omega
      · exact hq.2
    · rcases hq with hq | hq
      · exact ⟨.inl (HE.out q hq).1, (HE.out q hq).2⟩
      · exact ⟨.inr (by omega), by omega⟩
    · obtain ⟨g1, g2, g3⟩ := HG.out g hg
      refine ⟨.inl g1, g2, fun e => ?_⟩
      rcases e with e | e
      · exact g3 e
      · have := HFW.out g g1
        omega
end Go.Proofs.Ytjinleakjkbbgaa
