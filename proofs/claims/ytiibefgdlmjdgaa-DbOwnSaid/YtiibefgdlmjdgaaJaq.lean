/- Copies that are handed out, and the walk of the statement DbOwn, of any database that does what it must. Conditions: the lists read so. -/
import Derived.Test.YtiibefgdlmjdgaaJan
import Derived.Test.YtiibefgdlmjdgaaJap
namespace Go.Proofs.Ytiibefgdlmjdgaa
open Go.RowKit

/-- Items of z numbers each that may be written, not in block bl. -/
def WrS (w : World) (base top bl z : Nat) (s : Sv) : Prop := s.n = 0 ∨ ∃ b, s.a = some ⟨b, 0, none⟩ ∧ base ≤ b ∧ b ≠ bl ∧ b < top ∧ s.n ≤ s.c ∧ s.c ≤ maxLen ∧ ∀ q, q < s.n * z → (∃ v, w.cell? ⟨b, q, none⟩ = some (.int .i64 v)) ∧ w.frozen? ⟨b, q, none⟩ = false
/-- Descriptions in block bl whose items may be written. -/
def Wr (w : World) (base top bl : Nat) (R : List Rc) : Prop := (∀ j r, R[j]? = some r → RcAt w bl (j * 9) r) ∧ bl < top ∧ ∀ r ∈ R, WrS w base top bl 4 r.p ∧ WrS w base top bl 1 r.q
theorem WrS.below {w w' : World} {base top bl z : Nat} {s : Sv} (h : WrS w base top bl z s) (hb : Below top w w') : WrS w' base top bl z s := by
  rcases h with h | ⟨b, h1, h2, h3, h4, h5, h6, h7⟩
  · exact .inl h
  · refine .inr ⟨b, h1, h2, h3, h4, h5, h6, fun q hq => ?_⟩
    obtain ⟨⟨v, hv⟩, hf⟩ := h7 q hq
    exact ⟨⟨v, (hb.cell (p := ⟨b, q, none⟩) h4).trans hv⟩, (hb.frozen (p := ⟨b, q, none⟩) h4).trans hf⟩
theorem Wr.below {w w' : World} {base top bl : Nat} {R : List Rc} (h : Wr w base top bl R) (hb : Below top w w') : Wr w' base top bl R :=
  ⟨fun j r hj i hi => (hb.cell (p := ⟨bl, j * 9 + i, none⟩) h.2.1).trans (h.1 j r hj i hi), h.2.1, fun r hr => ⟨(h.2.2 r hr).1.below hb, (h.2.2 r hr).2.below hb⟩⟩
theorem WrS.set {w : World} {base top bl z b p : Nat} {s : Sv} {v : Int} (h : WrS w base top bl z s) : WrS (w.setCell ⟨b, p, none⟩ (.int .i64 v)) base top bl z s := by
  rcases h with h | ⟨c, h1, h2, h3, h4, h5, h6, h7⟩
  · exact .inl h
  · refine .inr ⟨c, h1, h2, h3, h4, h5, h6, fun q hq => ?_⟩
    obtain ⟨⟨u, hu⟩, hf⟩ := h7 q hq
    refine ⟨?_, by simpa using hf⟩
    by_cases e : (⟨b, p, none⟩ : Addr) = ⟨c, q, none⟩
    · exact ⟨v, by rw [e]; exact World.cell?_setCell_same (h := hu) ..⟩
    · exact ⟨u, by rw [World.cell?_setCell_other (h := e)]; exact hu⟩
theorem Wr.set {w : World} {base top bl b p : Nat} {R : List Rc} {v : Int} (h : Wr w base top bl R) (hb : b ≠ bl) : Wr (w.setCell ⟨b, p, none⟩ (.int .i64 v)) base top bl R := by
  refine ⟨fun j r hj i hi => ?_, h.2.1, fun r hr => ⟨(h.2.2 r hr).1.set, (h.2.2 r hr).2.set⟩⟩
  rw [World.cell?_setCell_far _ _ _ _ hb]
  exact h.1 j r hj i hi
/-- What a copy is made of may be written. -/
theorem wrs_own {w : World} {base bl z n c : Nat} {t : TypeId} {A : Option Addr} {xs : List Value} (h : w.ownsRow base t z (.slice A n c) n xs) (hx : ∀ u ∈ xs, ∃ v : Int, u = .int .i64 v) {tb : TypeId} {cb : Array Value} (hbl : w.heap[bl]? = some (.cells cb tb (0, 0))) (ht : t ≠ tb) : WrS w base w.heap.size bl z ⟨A, n, c⟩ := by
  have hl := h.1
  rcases h.2 with ⟨_, h0⟩ | ⟨g, cap, cur, hv, hb, hh, h1, h2, h3, h4⟩
  · exact .inl h0
  injection hv with e1 _ e2
  subst e1 e2
  refine .inr ⟨g, rfl, hb, ?_, (Array.getElem?_eq_some_iff.1 hh).1, h1, h2, fun q hq => ?_⟩
  · intro e
    subst e
    rw [hh] at hbl
    injection hbl with hbl
    injection hbl with _ e3
    exact ht e3
  · have hq' : q < xs.length := by rw [hl]; exact hq
    obtain ⟨v, hv⟩ := hx _ (List.getElem_mem hq')
    have hcur : cur[q]? = some xs[q] := by
      have h5 : (cur.toList.take (n * z))[q]? = some xs[q] := by rw [h4]; exact List.getElem?_eq_getElem hq'
      rw [List.getElem?_take_of_lt hq] at h5
      simpa using h5
    refine ⟨⟨v, ?_⟩, ?_⟩
    · rw [← hv, ← hcur]
      simp [World.cell?, hh]
    · simp [World.frozen?, hh]

theorem lkCells_int : ∀ (L : List Lk), ∀ u ∈ lkCells L, ∃ v : Int, u = .int .i64 v
  | [], u, hu => by cases hu
  | l :: L, u, hu => by
    simp only [lkCells, List.mem_cons] at hu
    rcases hu with rfl | rfl | rfl | rfl | hu
    · exact ⟨_, rfl⟩
    · exact ⟨_, rfl⟩
    · exact ⟨_, rfl⟩
    · exact ⟨_, rfl⟩
    · exact lkCells_int L u hu
/-- A slice of copies with one more behind it: all that hangs on them may be written. -/
theorem copies_wr {w w' : World} {base g n c cap : Nat} {A : Option Addr} {R : List Rc} {S : List La} {rx : Rc} {x : La}
    (h1 : w.ownsRow base 34 9 (.slice A n c) n (rcCells R)) (ha : All2 (RcIs w base) R S) (hx : RcIs w base rx x)
    (hg : w.grownBy w' (Value.slice A n c).ownBlock) (ho : w'.ownsRow base 34 9 (.slice (some ⟨g, 0, none⟩) (n + 1) cap) (n + 1) (rcCells R ++ rx.cells)) : Wr w' base w'.heap.size g (R ++ [rx]) ∧ n + 1 ≤ cap ∧ cap ≤ maxLen := by
  have ho' : w'.ownsRow base 34 9 (.slice (some ⟨g, 0, none⟩) (n + 1) cap) (n + 1) (rcCells (R ++ [rx])) := by
    rw [rcCells_append]
    simpa [rcCells] using ho
  have hcg : Chg (fun q => (Value.slice A n c).ownBlock = some q) w w' := Chg.of_grown hg (fun k hk => hk)
  have hall : ∀ r ∈ R ++ [rx], ∃ y, RcIs w' base r y := by
    intro r hr
    obtain ⟨y, hy⟩ : ∃ y, RcIs w base r y := by
      rcases List.mem_append.1 hr with hr | hr
      · obtain ⟨y, _, hy⟩ := all2_mem ha hr
        exact ⟨y, hy⟩
      · rw [List.mem_singleton] at hr
        subst hr
        exact ⟨x, hx⟩
    exact ⟨y, hy.chg hcg (fun q hq => hy.apart h1 hq)⟩
  rcases ho'.2 with ⟨hv, _⟩ | ⟨g', cap', cur, hv, hb, hh, h2, h3, h4, h5⟩
  · cases hv
  injection hv with e1 _ e2
  injection e1 with e1
  injection e1 with e1
  subst e1 e2
  refine ⟨⟨fun j r hj => ?_, (Array.getElem?_eq_some_iff.1 hh).1, fun r hr => ?_⟩, h2, h3⟩
  · obtain ⟨b, e, _, _, _, _, hat⟩ := own_rc ho' hj
    injection e with e
    injection e with e
    subst e
    exact hat
  · obtain ⟨y, _, hy1, _, hy2, _⟩ := hall r hr
    refine ⟨wrs_own hy1 (fun u hu => ?_) hh (by decide), wrs_own hy2 (fun u hu => ?_) hh (by decide)⟩
    · exact lkCells_int y.L u hu
    · obtain ⟨v, _, rfl⟩ := List.mem_map.1 hu
      exact ⟨v, rfl⟩
theorem step_append_grow7 {ops : Array Oper} {o : Oper} {a : Act} {w : World} {K : Act → World → Prop} {Q : Exit → Act → World → Prop} {E : Prop} (hgd : o.guard = none) (s x : Operand) (t e : TypeId) (z : Value) (size bytes : Nat)
    (ht : Try.prog.underlying t = some (.slice e)) (hinfo : (Try.prog.info? e).map (fun i => (i.zero, i.size, i.bytes)) = some (some z, size, bytes)) (hzs : z.cells.size = size) (hsz : 0 < size) (hby : bytes ≤ 1024)
    (ho : o.op = .call { callee := .builtin .append, args := #[s, x], argTypes := #[t, t] }) (base : Nat) (v : Value) (n : Nat) (xs : List Value) (hs : a.eval s = v) (hown : w.ownsRow base e size v n xs)
    (b : Nat) (news : List Value) (hx : a.eval x = .slice (some ⟨b, 0, none⟩) 1 1) (hl : news.length = size) (hb : Blk w b e news.toArray) (h1 : ∀ u ∈ news, u.oneCell' = true) (hn : n ≤ 1048576) (hbase : base ≤ w.heap.size)
    (hK : ∀ v' w', Hid (w'.ownsRow base e size v' (n + 1) (xs ++ news)) → Hid (w.grownBy w' v.ownBlock) → Hid (v'.ownBlock = v.ownBlock ∨ v'.ownBlock = some w.heap.size) → K (a.put o.dst v') w') : if Region.wanted o (yielded ops a.tmps) = true then Oper.wp Try.prog o a w K Q else E := by
  have hw : Region.wanted o (yielded ops a.tmps) = true := by simp [Region.wanted, hgd]
  rw [if_pos hw]
  obtain ⟨i0, hi, hz0, hz1, hz2⟩ := info_parts hinfo
  have hnews : ∀ j u, news[j]? = some u → w.cell? ((⟨b, 0, none⟩ : Addr).add j) = some u := by
    intro j u hu
    rw [addr_add, hb.cell, Nat.zero_add, List.getElem?_toArray]
    exact hu
  have hbb : (n + 1) * bytes ≤ 1048577 * 1024 := Nat.mul_le_mul (by omega) hby
  obtain ⟨v', w', hrun, h2, h3, h4⟩ := run_append_own_at (P := Try.prog) w base t o.type e i0 z size bytes ht hi hz0 hz1 hz2 hzs hsz v n xs hown ⟨b, 0, none⟩ 1 1 news (by omega) hnews h1 (by unfold maxLen; omega) (by omega) hbase
  unfold Oper.wp execOp
  simp only [ho, resolve, invoke, builtin, Sem.run_bind, Sem.run_pure, Result.andThen_ok, List.map_toArray, List.map_cons, List.map_nil, hs, hx, hrun]
  exact hK v' w' h2 h3 h4.2

theorem own_fin {wb wx w' : World} {base b0 na ca : Nat} {Aa : Option Addr} {Ra : List Rc} {x y : La} {rx : Rc} {v' : Value} (hx : RcIs wb base rx x) (Bx : Below wb.heap.size wb wx) (hoa : wx.ownsRow b0 34 9 (.slice Aa na ca) na (rcCells Ra)) (hra : All2 (RcIs wx b0) Ra [y]) (h1 : base ≤ b0) (h2 : wb.heap.size ≤ b0) (hbs : b0 ≤ wx.heap.size)
    (ho' : w'.ownsRow base 34 9 v' (na + 1) (rcCells Ra ++ rx.cells)) (hg' : wx.grownBy w' (Value.slice Aa na ca).ownBlock) : ∃ g cap, v' = .slice (some ⟨g, 0, none⟩) 2 cap ∧ 2 ≤ cap ∧ cap ≤ 9223372036854775807 ∧ Wr w' base w'.heap.size g (Ra ++ [rx]) ∧ (Ra ++ [rx]).length = 2 ∧ Below wb.heap.size wb w' := by
  have hn : na = 1 := by
    have e1 := hra.1
    have e2 := hoa.1
    rw [rcCells_length] at e2
    simp at e1
    omega
  subst hn
  rcases ho'.2 with ⟨_, h0⟩ | ⟨g, cap, cur, rfl, hb, hh, h3, h4, h5⟩
  · omega
  obtain ⟨hw, hc, hm⟩ := copies_wr (own_low hoa h1) (hra.imp (fun r x h => h.mono h1)) (hx.chg (F := fun _ => False) (Chg.of_below Bx) (fun _ _ hf => hf)) hg' ho'
  unfold maxLen at hm
  have e1 := hra.1
  refine ⟨g, cap, rfl, hc, hm, hw, by simp at e1 ⊢; omega, Bx.trans ((own_keeps7 hoa hg' hbs).mono h2)⟩

theorem own_put {h : Hd} {L : List Lk} {M : List Int} (hr : rightB h L M = true) (ha : h.age ≤ 60) : putE 3 [] ⟨h, L, M⟩ = 0 ∧ putS 3 [] ⟨h, L, M⟩ = [agd h L M h.age] := by
  have e : putE 3 [] ⟨h, L, M⟩ = 0 := by
    unfold putE
    rw [if_neg (by rw [hr]; decide), if_neg (fun e => absurd e.2 (by decide))]
  refine ⟨e, ?_⟩
  unfold putS
  rw [e, if_pos rfl, agd_seal ha]
  rfl
theorem agd_hd {h : Hd} {L : List Lk} {M : List Int} (ha : h.age ≤ 60) : (agd h L M h.age).h = sealHd h L M := by
  rw [← agd_seal ha]
  rfl
set_option maxRecDepth 100000 in
set_option maxHeartbeats 16000000 in
theorem own_walk {Dv : World → Nat → Nat → Int → List La → (Nat → Prop) → Prop} (D : DevOk Dv) (h : Hd) (L : List Lk) (M : List Int) (A A' : Option Addr) (n c n' c' : Nat) (w : World) (hL : Lnk w w.heap.size A n L) (hM : Row .i64 w w.heap.size A' n' M) (hn : n ≤ maxLen) (hn' : n' ≤ maxLen) :
    Calls Try.prog 4 #[.agg #[.int .i64 h.age, .int .i64 h.kind, .int .i64 h.id, .int .i64 h.adv, .int .i64 h.seq, .int .i64 h.sum, .int .i64 h.long, .slice A n c, .slice A' n' c']] w fun e w' => e = .returned (.bool true) ∧ Below w.heap.size w w' := by
  have HL := Lib.hid hL
  have HM := Lib.hid hM
  have HN := Lib.hid hn
  have HN' := Lib.hid hn'
  clear hL hM hn hn'
  have K0 := Lib.hid (Blk.new w 34 #[.int .i64 h.age, .int .i64 h.kind, .int .i64 h.id, .int .i64 h.adv, .int .i64 h.seq, .int .i64 h.sum, .int .i64 h.long, .slice A n c, .slice A' n' c'])
  have B0 := Lib.hid ((Below.refl w.heap.size w).alloc (Nat.le_refl _) (.cells #[.int .i64 h.age, .int .i64 h.kind, .int .i64 h.id, .int .i64 h.adv, .int .i64 h.seq, .int .i64 h.sum, .int .i64 h.long, .slice A n c, .slice A' n' c'] 34))
  go_enter Try.func4, Try.ntmps4
  go_wp2_with fail
  have hl0 := K0.out.lt
  have hs0 := B0.out.size
  refine (wakes_dev D _).mono ?_
  rintro e1 w1 ⟨rfl, hb1⟩
  have B1 := Lib.hid (B0.out.trans (hb1.mono hs0))
  have K1 := Lib.hid (K0.out.below hb1 hl0)
  have hs1 := B1.out.size
  have hl1 := K1.out.lt
  clear hb1 K0 B0 hl0 hs0
  go_wp2_with (refine wpList_load_rc (r := ⟨h, ⟨A, n, c⟩, ⟨A', n', c'⟩⟩) (by rfl) (.tmp 1) rfl (by rfl) (rcAt_blk K1.out) ?_)
  refine (refRight_any h L M A A' n c n' c' w.heap.size _ (HL.out.below B1.out) (HM.out.below B1.out) hs1 HN.out HN'.out).mono ?_
  rintro e2 w2 ⟨rfl, hb2⟩
  have B2 := Lib.hid (B1.out.trans (hb2.mono hs1))
  have K2 := Lib.hid (K1.out.below hb2 hl1)
  have hs2 := B2.out.size
  have hl2 := K2.out.lt
  clear hb2 K1 B1 hl1 hs1
  cases hr : rightB h L M
  · go_wp2
    go_ret
    exact ⟨rfl, B2.out⟩
  have HR := Lib.hid hr
  have hage := (right_facts hr).1
  have hsh := right_short (x := ⟨h, L, M⟩) hr
  have hn50 : n ≤ 50 := by
    obtain ⟨_, h2, _, _, _, h6, h7⟩ := right_facts hr
    have := HL.out.1
    by_cases hk : h.kind = 1
    · have := (h6 hk).2.1
      omega
    · rw [(h7 (by omega)).1] at this
      simp at this
      omega
  have hn50' : n' ≤ 50 := by
    obtain ⟨_, h2, _, _, _, h6, h7⟩ := right_facts hr
    have := HM.out.1
    by_cases hk : h.kind = 1
    · rw [(h6 hk).1] at this
      simp at this
      omega
    · have := rise_len M 0 (h7 (by omega)).2 (by omega)
      omega
  clear hr
  go_wp2_with fail
  refine (D.new 3 _).mono ?_
  rintro e3 w3 ⟨p, F3, rfl, hb3, hd3⟩
  rw [show roomOf 3 = 3 by decide] at hd3
  have HD3 := Lib.hid hd3
  have B3 := Lib.hid (B2.out.trans (hb3.mono hs2))
  have K3 := Lib.hid (K2.out.below hb3 hl2)
  have hs23 := hb3.size
  have hs3 := B3.out.size
  have hl3 := K3.out.lt
  have HF3 := Lib.hid (show ∀ q, F3 q → q < w3.heap.size from fun q hq => (D.foot hd3 hq).2)
  clear hd3 hb3 K2 B2
  go_wp2_with (refine wpList_load_rc (r := ⟨h, ⟨A, n, c⟩, ⟨A', n', c'⟩⟩) (by rfl) (.tmp 1) rfl (by rfl) (rcAt_blk K3.out) ?_)
  refine (r7sealed_any h L M A A' n c n' c' w.heap.size _ (HL.out.below B3.out) (HM.out.below B3.out) hs3 (by omega) (by omega) HR.out).mono ?_
  rintro e4 w4 ⟨As, ns, cs, As', ns', cs', rfl, ho1, ho2, ho3, ho4, hb4⟩
  have B4 := Lib.hid (B3.out.trans (hb4.mono hs3))
  have K4 := Lib.hid (K3.out.below hb4 hl3)
  have HD4 := Lib.hid (D.chg HD3.out (F' := fun _ => False) (Chg.of_below hb4) (fun _ _ hf => hf))
  have hs34 := hb4.size
  have hl4 := K4.out.lt
  obtain ⟨A1s, c1s, e1, -, -, q3⟩ := lnk_of_own ho1 ho2
  injection e1 with e1 _ e2
  subst e1 e2
  obtain ⟨A2s, c2s, e3, -, -, q6⟩ := row_of_ints ho3 ho4
  injection e3 with e3 _ e4
  subst e3 e4
  obtain rfl : ns = n := ho2.symm.trans HL.out.1
  obtain rfl : ns' = n' := ho4.symm.trans HM.out.1
  have HLS := Lib.hid q3
  have HMS := Lib.hid q6
  have HO1s := Lib.hid ho1
  have HO2s := Lib.hid ho3
  clear ho1 ho2 ho3 ho4 q3 q6 hb4 K3 B3 HD3 HLS HMS
  generalize hse : sealHd h L M = sh
  have HSE := Lib.hid hse
  clear hse
  have OB := Lib.hid ((Below.refl w4.heap.size w4).alloc (Nat.le_refl _) (.cells #[.int .i64 sh.age, .int .i64 sh.kind, .int .i64 sh.id, .int .i64 sh.adv, .int .i64 sh.seq, .int .i64 sh.sum, .int .i64 sh.long, .slice As ns cs, .slice As' ns' cs'] 34))
  have KO := Lib.hid (Blk.new w4 34 #[.int .i64 sh.age, .int .i64 sh.kind, .int .i64 sh.id, .int .i64 sh.adv, .int .i64 sh.seq, .int .i64 sh.sum, .int .i64 sh.long, .slice As ns cs, .slice As' ns' cs'])
  go_upto_region 7 with fail
  obtain ⟨O, hO⟩ : ∃ O, w4.heap.size = O := ⟨_, rfl⟩
  rw [hO] at KO
  have K5 := Lib.hid (K4.out.below OB.out hl4)
  have B5 := Lib.hid (B4.out.trans (OB.out.mono (by omega)))
  have HD5 := Lib.hid (D.chg HD4.out (F' := fun _ => False) (Chg.of_below OB.out) (fun _ _ hf => hf))
  have OB5 := Lib.hid OB.out
  clear OB HD4 K4
  generalize w4.alloc (.cells #[.int .i64 sh.age, .int .i64 sh.kind, .int .i64 sh.id, .int .i64 sh.adv, .int .i64 sh.seq, .int .i64 sh.sum, .int .i64 sh.long, .slice As ns cs, .slice As' ns' cs'] 34) = w5 at *
  rw [hO]
  have hlO := KO.out.lt
  have hs45 := OB5.out.size
  have hl5 := K5.out.lt
  go_wp2_with (refine wpList_load_rc (r := ⟨h, ⟨A, ns, c⟩, ⟨A', ns', c'⟩⟩) (by rfl) (.tmp 1) rfl (by rfl) (rcAt_blk K5.out) ?_)
  refine (D.put HD5.out List.Pairwise.nil (by omega) h L M A A' ns c ns' c' w.heap.size (HL.out.below B5.out) (HM.out.below B5.out) (by omega) hn50 hn50').mono ?_
  rintro e6 w6 ⟨rfl, F6, hd6, hc6, hg6⟩
  rw [(own_put HR.out hage.2).2] at hd6
  rw [(own_put HR.out hage.2).1]
  have HD6 := Lib.hid hd6
  have HD6 := Lib.hid hd6
  have B56 := Lib.hid (hc6.to_below (fun q hq => (D.foot HD5.out hq).1) (by omega))
  have B6 := Lib.hid (B5.out.trans (B56.out.mono hs2))
  have K6 := Lib.hid (K5.out.below B56.out (by omega))
  have KO6 := Lib.hid (KO.out.chg hc6 (fun hf => by have := HF3.out O hf; omega))
  have HO1 := Lib.hid (own_chg (own_below2 HO1s.out OB5.out) hc6 (fun q hq hf => by
    have h1 := (World.ownsRow.lt HO1s.out q hq).1
    have h2 := HF3.out q hf
    omega))
  have HO2 := Lib.hid (own_chg (own_below2 HO2s.out OB5.out) hc6 (fun q hq hf => by
    have h1 := (World.ownsRow.lt HO2s.out q hq).1
    have h2 := HF3.out q hf
    omega))
  obtain ⟨A1t, c1t, e1, -, -, q3⟩ := lnk_of_own HO1.out HL.out.1
  injection e1 with e1 _ e2
  subst e1 e2
  obtain ⟨A2t, c2t, e3, -, -, q6⟩ := row_of_ints HO2.out HM.out.1
  injection e3 with e3 _ e4
  subst e3 e4
  have HLS := Lib.hid q3
  have HMS := Lib.hid q6
  have hs6 := B6.out.size
  have hs56 := hc6.size
  have hl6 := K6.out.lt
  have hlO6 := KO6.out.lt
  clear hd6 hc6 hg6 HD5 K5 KO q3 q6 HO1 HO2 HO1s HO2s B56 OB5 B5 B4 HF3
  obtain ⟨k0, k1, k2, k3, k4, k5, k6, k7, k8⟩ := K6.out.nine
  go_wp2_with fail
  refine (keyOf_any h _).mono ?_
  rintro e7 w7 ⟨rfl, hb7⟩
  have B7 := Lib.hid (B6.out.trans (hb7.mono hs6))
  have KO7 := Lib.hid (KO6.out.below hb7 hlO6)
  have HLS7 := Lib.hid (HLS.out.below hb7)
  have HMS7 := Lib.hid (HMS.out.below hb7)
  have HD7 := Lib.hid (D.chg HD6.out (F' := fun _ => False) (Chg.of_below hb7) (fun _ _ hf => hf))
  have hs67 := hb7.size
  have hlO7 := KO7.out.lt
  clear hb7 KO6 HLS HMS HD6 K6 B6 k0 k1 k2 k3 k4 k5 k6 k7 k8
  have YB := Lib.hid ((Below.refl w7.heap.size w7).alloc (Nat.le_refl _) (.cells #[.int .i64 h.kind, .int .i64 h.id, .int .i64 h.adv] 38))
  have KY := Lib.hid (Blk.new w7 38 #[.int .i64 h.kind, .int .i64 h.id, .int .i64 h.adv])
  go_upto_region 10 with fail
  obtain ⟨Y, hY⟩ : ∃ Y, w7.heap.size = Y := ⟨_, rfl⟩
  rw [hY] at KY
  have B8 := Lib.hid (B7.out.trans (YB.out.mono (by omega)))
  have KO8 := Lib.hid (KO7.out.below YB.out hlO7)
  have HLS8 := Lib.hid (HLS7.out.below (YB.out.mono hs67))
  have HMS8 := Lib.hid (HMS7.out.below (YB.out.mono hs67))
  have HD8 := Lib.hid (D.chg HD7.out (F' := fun _ => False) (Chg.of_below YB.out) (fun _ _ hf => hf))
  have hs78 := YB.out.size
  clear YB HD7 KO7 B7 HLS7 HMS7
  generalize w7.alloc (.cells #[.int .i64 h.kind, .int .i64 h.id, .int .i64 h.adv] 38) = w8 at *
  rw [hY]
  have hlY := KY.out.lt
  have hlO8 := KO8.out.lt
  go_wp2_with fail
  go_loopw [27] (fun i wr => ∃ k : Nat, k ≤ 2 ∧ i = .int .i64 k ∧ Hid (Dv wr w2.heap.size p 3 [agd h L M h.age] F6) ∧ Hid (Below w8.heap.size w8 wr)) (fun i _ => 2 - (intOf i).toNat)
  case atStart => exact ⟨0, by omega, rfl, HD8, Lib.hid (Below.refl _ _)⟩
  case round =>
  obtain ⟨k, hk, rfl, HDr, hb⟩ := hrel
  generalize wr = wk at *
  have hsz := hb.out.size
  have Br := Lib.hid (B8.out.trans (hb.out.mono (by omega)))
  have KYr := Lib.hid (KY.out.below hb.out hlY)
  have KOr := Lib.hid (KO8.out.below hb.out hlO8)
  have HLr := Lib.hid (HLS8.out.below (hb.out.mono (show w6.heap.size ≤ w8.heap.size by omega)))
  have HMr := Lib.hid (HMS8.out.below (hb.out.mono (show w6.heap.size ≤ w8.heap.size by omega)))
  by_cases hlt0 : ¬ k < 2
  · go_wp2
    go_ret
    exact ⟨rfl, Br.out⟩
  have hlt : (k : Int) < 2 := by omega
  clear hlt0
  obtain ⟨y0, y1, y2⟩ := KYr.out.three
  go_wp2_with fail
  refine (D.get HDr.out (by simp [SortL]) ⟨h.kind, h.id, h.adv⟩ (right_wf HR.out)).mono ?_
  rintro e9 w9 ⟨hb9, hget⟩
  have HD9 := Lib.hid (D.chg HDr.out (F' := fun _ => False) (Chg.of_below hb9) (fun _ _ hf => hf))
  have B9 := Lib.hid (hb.out.trans (hb9.mono hsz))
  have KO9 := Lib.hid (KOr.out.below hb9 KOr.out.lt)
  have HL9 := Lib.hid (HLr.out.below (hb9.mono (show w6.heap.size ≤ wk.heap.size by omega)))
  have HM9 := Lib.hid (HMr.out.below (hb9.mono (show w6.heap.size ≤ wk.heap.size by omega)))
  have C9 := Lib.hid hb9
  have hs9 := hb9.size
  clear hb9 KOr HLr HMr y0 y1 y2
  rcases hget with ⟨hno, -⟩ | ⟨x, Ag, ng, cg, Ag', ng', cg', hx, rfl, hg1, hg2, hg3, hg4⟩
  · rw [agd_get] at hno
    cases hno
  rw [agd_get] at hx
  injection hx with hx
  subst hx
  rw [agd_hd hage.2, HSE.out]
  obtain rfl : ng = ns := hg2.symm.trans HL.out.1
  obtain rfl : ng' = ns' := hg4.symm.trans HM.out.1
  have HG1 := Lib.hid (show w9.ownsRow wk.heap.size 61 4 (.slice Ag ng cg) ng (lkCells L) from hg1)
  have HG2 := Lib.hid (show w9.ownsRow wk.heap.size 3 1 (.slice Ag' ng' cg') ng' (M.map (Value.int .i64)) from hg3)
  clear hg1 hg2 hg3 hg4
  have XB := Lib.hid ((Below.refl w9.heap.size w9).alloc (Nat.le_refl _) (.cells #[.int .i64 sh.age, .int .i64 sh.kind, .int .i64 sh.id, .int .i64 sh.adv, .int .i64 sh.seq, .int .i64 sh.sum, .int .i64 sh.long, .slice Ag ng cg, .slice Ag' ng' cg'] 34))
  have KX := Lib.hid (Blk.new w9 34 #[.int .i64 sh.age, .int .i64 sh.kind, .int .i64 sh.id, .int .i64 sh.adv, .int .i64 sh.seq, .int .i64 sh.sum, .int .i64 sh.long, .slice Ag ng cg, .slice Ag' ng' cg'])
  go_upto_region 13 with fail
  obtain ⟨X, hX⟩ : ∃ X, w9.heap.size = X := ⟨_, rfl⟩
  rw [hX] at KX
  have Ca := Lib.hid (C9.out.trans (XB.out.mono hs9))
  have Ba := Lib.hid (B9.out.trans (XB.out.mono (by omega)))
  have KOa := Lib.hid (KO9.out.below XB.out KO9.out.lt)
  have HLa := Lib.hid (HL9.out.below (XB.out.mono (show w6.heap.size ≤ w9.heap.size by omega)))
  have HMa := Lib.hid (HM9.out.below (XB.out.mono (show w6.heap.size ≤ w9.heap.size by omega)))
  have HG1a := Lib.hid (own_below2 HG1.out XB.out)
  have HG2a := Lib.hid (own_below2 HG2.out XB.out)
  have HDa := Lib.hid (D.chg HD9.out (F' := fun _ => False) (Chg.of_below XB.out) (fun _ _ hf => hf))
  have hsa := XB.out.size
  clear XB B9 KO9 HL9 HM9 HG1 HG2 HD9
  generalize w9.alloc (.cells #[.int .i64 sh.age, .int .i64 sh.kind, .int .i64 sh.id, .int .i64 sh.adv, .int .i64 sh.seq, .int .i64 sh.sum, .int .i64 sh.long, .slice Ag ng cg, .slice Ag' ng' cg'] 34) = wa at *
  rw [hX]
  have hlX := KX.out.lt
  obtain ⟨A1g, c1g, e1, -, -, q3⟩ := lnk_of_own HG1a.out HL.out.1
  injection e1 with e1 _ e2
  subst e1 e2
  obtain ⟨A2g, c2g, e3, -, -, q6⟩ := row_of_ints HG2a.out HM.out.1
  injection e3 with e3 _ e4
  subst e3 e4
  go_wp2_with (first
    | (refine wpList_load_rc (r := ⟨sh, ⟨Ag, ng, cg⟩, ⟨Ag', ng', cg'⟩⟩) (by rfl) (.tmp 6) rfl (by rfl) (rcAt_blk KX.out) ?_)
    | (refine wpList_load_rc (r := ⟨sh, ⟨As, ng, cs⟩, ⟨As', ng', cs'⟩⟩) (by rfl) (.tmp 4) rfl (by rfl) (rcAt_blk KOa.out) ?_))
  refine (refSame_yes sh L M Ag Ag' As As' ng cg ng' cg' cs cs' wa.heap.size w6.heap.size _ q3 q6 HLa.out HMa.out (Nat.le_refl _) (by omega) HN.out HN'.out).mono ?_
  rintro e10 wb ⟨rfl, hbb⟩
  have Cb := Lib.hid (Ca.out.trans (hbb.mono (show wk.heap.size ≤ wa.heap.size by omega)))
  have Bb := Lib.hid (Ba.out.trans (hbb.mono (show w8.heap.size ≤ wa.heap.size by omega)))
  have KXb := Lib.hid (KX.out.below hbb hlX)
  have HG1b := Lib.hid (own_below2 HG1a.out hbb)
  have HG2b := Lib.hid (own_below2 HG2a.out hbb)
  have HDb := Lib.hid (D.chg HDa.out (F' := fun _ => False) (Chg.of_below hbb) (fun _ _ hf => hf))
  have hsb := hbb.size
  have hlXb := KXb.out.lt
  clear hbb q3 q6 HLa HMa KOa HG1a HG2a HDa Ba KX
  go_upto_region 15 with fail
  go_cut [27, 47, 48, 49] from 28 to 84 (fun s27 s47 s48 s49 wy => ∃ (bl c2 : Nat) (R : List Rc), s27 = .int .i64 k ∧ s47 = .slice (some ⟨bl, 0, none⟩) 2 c2 ∧ 2 ≤ c2 ∧ c2 ≤ 9223372036854775807 ∧ s48 = .int .i64 2 ∧ s49 = .int .i64 0 ∧ R.length = 2 ∧ Hid (Wr wy wk.heap.size wy.heap.size bl R) ∧ Hid (Below wk.heap.size wb wy))
  case first =>
    rename_i J9 K9 hJ9 hK9
    have BRd : Below wb.heap.size wb wb.drew := ⟨rfl, rfl, rfl, Nat.le_refl _, fun _ _ => rfl⟩
    refine wp_region_noPanic ?_
    refine wp_region_held_drew (S := fun w' => Below wb.heap.size wb w') (by kernel_rfl) BRd (fun hHeld => ?_)
    refine wpAnyH_take (i := 0) (oi := { dst := Option.some 43, op := Go.Op.move (Go.Operand.tmp 3), type := 25, pos := "law.go:90", after := #[], guard := Option.none }) (v := ?_) rfl (by kernel_rfl) (by kernel_rfl) (by kernel_rfl) (fun _ _ _ h => h) (Or.inl ⟨by rfl, ?_⟩) hHeld ?_
    rotate_left 1
    · intro ww hSw
      go_simp
      try with_reducible rfl
    try simp only [Act.put, List.setIfInBounds_toArray, List.set_cons_zero, List.set_cons_succ]
    refine wpAnyH_take (i := 6) (oi := { dst := Option.some 49, op := Go.Op.move (Go.Operand.const (Go.Value.int Go.IntKind.i64 0)), type := 3, pos := "law.go:90", after := #[], guard := Option.none }) (v := ?_) rfl (by kernel_rfl) (by kernel_rfl) (by kernel_rfl) (fun _ _ _ h => h) (Or.inl ⟨by rfl, ?_⟩) hHeld ?_
    rotate_left 1
    · intro ww hSw
      go_simp
      try with_reducible rfl
    try simp only [Act.put, List.setIfInBounds_toArray, List.set_cons_zero, List.set_cons_succ]
    refine wpAnyH_take (i := 2) (oi := { dst := Option.some 45, op := Go.Op.load 34 (Go.Operand.tmp 6), type := 34, pos := "law.go:90", after := #[], guard := Option.none }) (v := .agg #[.int .i64 sh.age, .int .i64 sh.kind, .int .i64 sh.id, .int .i64 sh.adv, .int .i64 sh.seq, .int .i64 sh.sum, .int .i64 sh.long, .slice Ag ng cg, .slice Ag' ng' cg']) rfl (by kernel_rfl) (by kernel_rfl) (by kernel_rfl) (fun _ _ _ h => h) (yieldsIf_load_mid (by rfl) 34 (.tmp 6) rfl X 0 rfl [.int .i64 sh.age, .int .i64 sh.kind, .int .i64 sh.id, .int .i64 sh.adv, .int .i64 sh.seq, .int .i64 sh.sum, .int .i64 sh.long, .slice Ag ng cg, .slice Ag' ng' cg'] _ (fun _ hb => blk_range7 (KXb.out.below hb hlXb)) Try.underlying34 rfl (by kernel_rfl)) hHeld ?_
    try simp only [Act.put, List.setIfInBounds_toArray, List.set_cons_zero, List.set_cons_succ]
    refine wpAnyH_ready (rs := [1, 3]) (by kernel_rfl) (by simp) ?_
    refine AllReadyH.cons (o := { dst := Option.some 44, op := Go.Op.call { callee := Go.Callee.value (Go.Operand.func 25), args := #[Go.Operand.tmp 43], argTypes := #[25] }, type := 51, pos := "law.go:90", after := #[{ on := 0, ground := Go.Ground.data }], guard := Option.none }) rfl (fun K hK => ?_) (AllReadyH.cons (o := { dst := Option.some 46, op := Go.Op.buildSlice 51 1 #[(0, Go.Operand.tmp 45)], type := 51, pos := "law.go:90", after := #[{ on := 2, ground := Go.Ground.data }], guard := Option.none }) rfl (fun K hK => ?_) (AllReadyH.nil))
    · go_simp
      refine (D.all (D.chg HDb.out (F' := fun _ => False) (Chg.of_below BRd) (fun _ _ hf => hf)) (by simp [SortL])).mono ?_
      rintro e11 wz ⟨Aa, na, ca, Ra, rfl, hbz, hoa, hra⟩
      have hBz := BRd.trans (hbz.mono BRd.size)
      have hna : na = 1 := by
        have e1 := hra.1
        have e2 := hoa.1
        rw [rcCells_length] at e2
        simp at e1
        omega
      subst hna
      refine hK.out _ _ hBz (fun hHeld => ?_)
      clear hK K
      try simp only [Act.put, List.setIfInBounds_toArray, List.set_cons_zero, List.set_cons_succ]
      refine wpAnyH_ready (rs := [3]) (by kernel_rfl) (by simp) ?_
      refine AllReadyH.cons (o := { dst := Option.some 46, op := Go.Op.buildSlice 51 1 #[(0, Go.Operand.tmp 45)], type := 51, pos := "law.go:90", after := #[{ on := 2, ground := Go.Ground.data }], guard := Option.none }) rfl (fun K hK => ?_) (AllReadyH.nil)
      · go_simp
        have hBs := hBz.trans (((Below.refl wz.heap.size wz).alloc (Nat.le_refl _) (.cells #[.int .i64 sh.age, .int .i64 sh.kind, .int .i64 sh.id, .int .i64 sh.adv, .int .i64 sh.seq, .int .i64 sh.sum, .int .i64 sh.long, .slice Ag ng cg, .slice Ag' ng' cg'] 34)).mono hBz.size)
        refine hK.out _ _ hBs (fun hHeld => ?_)
        clear hK K
        try simp only [Act.put, List.setIfInBounds_toArray, List.set_cons_zero, List.set_cons_succ]
        refine wpAnyH_ready (rs := [4]) (by kernel_rfl) (by simp) ?_
        refine AllReadyH.cons (o := { dst := Option.some 47, op := Go.Op.call { callee := Go.Callee.builtin Go.Builtin.append, args := #[Go.Operand.tmp 44, Go.Operand.tmp 46], argTypes := #[51, 51] }, type := 51, pos := "law.go:90", after := #[{ on := 1, ground := Go.Ground.data }, { on := 3, ground := Go.Ground.data }, { on := 1, ground := Go.Ground.chain }], guard := Option.none }) rfl (fun K hK => ?_) (AllReadyH.nil)
        · have HB0 := Lib.hid (show wb.drew.heap.size ≤ (wz.alloc (.cells #[.int .i64 sh.age, .int .i64 sh.kind, .int .i64 sh.id, .int .i64 sh.adv, .int .i64 sh.seq, .int .i64 sh.sum, .int .i64 sh.long, .slice Ag ng cg, .slice Ag' ng' cg'] 34)).heap.size from Nat.le_trans hbz.size (by simp))
          have HOA := Lib.hid (hoa.alloc (.cells #[.int .i64 sh.age, .int .i64 sh.kind, .int .i64 sh.id, .int .i64 sh.adv, .int .i64 sh.seq, .int .i64 sh.sum, .int .i64 sh.long, .slice Ag ng cg, .slice Ag' ng' cg'] 34))
          have BXz := Lib.hid ((Below.refl wz.heap.size wz).alloc (Nat.le_refl _) (.cells #[.int .i64 sh.age, .int .i64 sh.kind, .int .i64 sh.id, .int .i64 sh.adv, .int .i64 sh.seq, .int .i64 sh.sum, .int .i64 sh.long, .slice Ag ng cg, .slice Ag' ng' cg'] 34))
          have HRA := Lib.hid (hra.imp (fun r x h => h.chg (F := fun _ => False) (Chg.of_below BXz.out) (fun _ _ hf => hf)))
          have BX := Lib.hid (hBz.trans (BXz.out.mono hBz.size))
          refine step_append_grow7 (by rfl) (.tmp 44) (.tmp 46) 51 34 (.agg #[.int .i64 0, .int .i64 0, .int .i64 0, .int .i64 0, .int .i64 0, .int .i64 0, .int .i64 0, .slice none 0 0, .slice none 0 0]) 9 104 Try.underlying51 Try.infoLsa rfl (by decide) (by decide) (by rfl) wk.heap.size (.slice Aa 1 ca) 1 (rcCells Ra) (by rfl) (own_low HOA.out (by have h := BRd.size; omega)) wz.heap.size (Rc.cells ⟨sh, ⟨Ag, ng, cg⟩, ⟨Ag', ng', cg'⟩⟩) (by rfl) rfl (Blk.new wz 34 #[.int .i64 sh.age, .int .i64 sh.kind, .int .i64 sh.id, .int .i64 sh.adv, .int .i64 sh.seq, .int .i64 sh.sum, .int .i64 sh.long, .slice Ag ng cg, .slice Ag' ng' cg']) (fun u hu => rcCells_ones [⟨sh, ⟨Ag, ng, cg⟩, ⟨Ag', ng', cg'⟩⟩] u (by rw [rcCells_cons, List.mem_append]; exact .inl hu)) (by omega) (by have := BX.out.size; omega) ?_
          intro v' w' ho' hg' ha'
          obtain ⟨g, cap, rfl, hc, hm, hw, hrl, hbl⟩ := own_fin (x := ⟨sh, L, M⟩) (rx := ⟨sh, ⟨Ag, ng, cg⟩, ⟨Ag', ng', cg'⟩⟩) ⟨rfl, HG1b.out, HL.out.1, HG2b.out, HM.out.1⟩ BX.out HOA.out HRA.out (by have h := BRd.size; omega) (by have h := BRd.size; omega) (by have := BX.out.size; have := HB0.out; omega) ho'.out hg'.out
          have HWF := Lib.hid hw
          have HBL := Lib.hid (hbl.mono (show wk.heap.size ≤ wb.heap.size by omega))
          refine hK.out _ _ hbl (fun hHeld => ?_)
          clear hK K
          try simp only [Act.put, List.setIfInBounds_toArray, List.set_cons_zero, List.set_cons_succ]
          refine wpAnyH_take (i := 5) (oi := { dst := Option.some 48, op := Go.Op.call { callee := Go.Callee.builtin Go.Builtin.len, args := #[Go.Operand.tmp 47], argTypes := #[51] }, type := 3, pos := "law.go:90", after := #[{ on := 4, ground := Go.Ground.data }], guard := Option.none }) (v := ?_) rfl (by kernel_rfl) (by kernel_rfl) (by kernel_rfl) (fun _ _ _ h => h) (Or.inl ⟨by rfl, ?_⟩) hHeld ?_
          rotate_left 1
          · intro ww hSw
            go_simp
            try with_reducible rfl
          try simp only [Act.put, List.setIfInBounds_toArray, List.set_cons_zero, List.set_cons_succ]
          refine wpAnyH_done (by kernel_rfl) ?_ _
          refine NoPanic.normal ?_
          refine hK9 _ _ ?_
          go_meet
          exact ⟨g, cap, _, rfl, rfl, hc, hm, rfl, rfl, hrl, HWF, HBL⟩
    · go_simp
      have hBs := BRd.trans (((Below.refl wb.drew.heap.size wb.drew).alloc (Nat.le_refl _) (.cells #[.int .i64 sh.age, .int .i64 sh.kind, .int .i64 sh.id, .int .i64 sh.adv, .int .i64 sh.seq, .int .i64 sh.sum, .int .i64 sh.long, .slice Ag ng cg, .slice Ag' ng' cg'] 34)).mono BRd.size)
      refine hK.out _ _ hBs (fun hHeld => ?_)
      clear hK K
      try simp only [Act.put, List.setIfInBounds_toArray, List.set_cons_zero, List.set_cons_succ]
      refine wpAnyH_ready (rs := [1]) (by kernel_rfl) (by simp) ?_
      refine AllReadyH.cons (o := { dst := Option.some 44, op := Go.Op.call { callee := Go.Callee.value (Go.Operand.func 25), args := #[Go.Operand.tmp 43], argTypes := #[25] }, type := 51, pos := "law.go:90", after := #[{ on := 0, ground := Go.Ground.data }], guard := Option.none }) rfl (fun K hK => ?_) (AllReadyH.nil)
      · go_simp
        refine (D.all (D.chg HDb.out (F' := fun _ => False) (Chg.of_below hBs) (fun _ _ hf => hf)) (by simp [SortL])).mono ?_
        rintro e11 wz ⟨Aa, na, ca, Ra, rfl, hbz, hoa, hra⟩
        have hBz := hBs.trans (hbz.mono hBs.size)
        have hna : na = 1 := by
          have e1 := hra.1
          have e2 := hoa.1
          rw [rcCells_length] at e2
          simp at e1
          omega
        subst hna
        refine hK.out _ _ hBz (fun hHeld => ?_)
        clear hK K
        try simp only [Act.put, List.setIfInBounds_toArray, List.set_cons_zero, List.set_cons_succ]
        refine wpAnyH_ready (rs := [4]) (by kernel_rfl) (by simp) ?_
        refine AllReadyH.cons (o := { dst := Option.some 47, op := Go.Op.call { callee := Go.Callee.builtin Go.Builtin.append, args := #[Go.Operand.tmp 44, Go.Operand.tmp 46], argTypes := #[51, 51] }, type := 51, pos := "law.go:90", after := #[{ on := 1, ground := Go.Ground.data }, { on := 3, ground := Go.Ground.data }, { on := 1, ground := Go.Ground.chain }], guard := Option.none }) rfl (fun K hK => ?_) (AllReadyH.nil)
        · have HB0 := Lib.hid (show (wb.drew.alloc (.cells #[.int .i64 sh.age, .int .i64 sh.kind, .int .i64 sh.id, .int .i64 sh.adv, .int .i64 sh.seq, .int .i64 sh.sum, .int .i64 sh.long, .slice Ag ng cg, .slice Ag' ng' cg'] 34)).heap.size ≤ wz.heap.size from hbz.size)
          have HOA := Lib.hid hoa
          have HRA := Lib.hid hra
          have BX := Lib.hid hBz
          refine step_append_grow7 (by rfl) (.tmp 44) (.tmp 46) 51 34 (.agg #[.int .i64 0, .int .i64 0, .int .i64 0, .int .i64 0, .int .i64 0, .int .i64 0, .int .i64 0, .slice none 0 0, .slice none 0 0]) 9 104 Try.underlying51 Try.infoLsa rfl (by decide) (by decide) (by rfl) wk.heap.size (.slice Aa 1 ca) 1 (rcCells Ra) (by rfl) (own_low HOA.out (by have h := hBs.size; omega)) wb.heap.size (Rc.cells ⟨sh, ⟨Ag, ng, cg⟩, ⟨Ag', ng', cg'⟩⟩) (by rfl) rfl ((Blk.new wb.drew 34 #[.int .i64 sh.age, .int .i64 sh.kind, .int .i64 sh.id, .int .i64 sh.adv, .int .i64 sh.seq, .int .i64 sh.sum, .int .i64 sh.long, .slice Ag ng cg, .slice Ag' ng' cg']).below hbz (by simp)) (fun u hu => rcCells_ones [⟨sh, ⟨Ag, ng, cg⟩, ⟨Ag', ng', cg'⟩⟩] u (by rw [rcCells_cons, List.mem_append]; exact .inl hu)) (by omega) (by have := BX.out.size; omega) ?_
          intro v' w' ho' hg' ha'
          obtain ⟨g, cap, rfl, hc, hm, hw, hrl, hbl⟩ := own_fin (x := ⟨sh, L, M⟩) (rx := ⟨sh, ⟨Ag, ng, cg⟩, ⟨Ag', ng', cg'⟩⟩) ⟨rfl, HG1b.out, HL.out.1, HG2b.out, HM.out.1⟩ BX.out HOA.out HRA.out (by have h := hBs.size; omega) (by have h := hBs.size; omega) (by have := BX.out.size; have := HB0.out; omega) ho'.out hg'.out
          have HWF := Lib.hid hw
          have HBL := Lib.hid (hbl.mono (show wk.heap.size ≤ wb.heap.size by omega))
          refine hK.out _ _ hbl (fun hHeld => ?_)
          clear hK K
          try simp only [Act.put, List.setIfInBounds_toArray, List.set_cons_zero, List.set_cons_succ]
          refine wpAnyH_take (i := 5) (oi := { dst := Option.some 48, op := Go.Op.call { callee := Go.Callee.builtin Go.Builtin.len, args := #[Go.Operand.tmp 47], argTypes := #[51] }, type := 3, pos := "law.go:90", after := #[{ on := 4, ground := Go.Ground.data }], guard := Option.none }) (v := ?_) rfl (by kernel_rfl) (by kernel_rfl) (by kernel_rfl) (fun _ _ _ h => h) (Or.inl ⟨by rfl, ?_⟩) hHeld ?_
          rotate_left 1
          · intro ww hSw
            go_simp
            try with_reducible rfl
          try simp only [Act.put, List.setIfInBounds_toArray, List.set_cons_zero, List.set_cons_succ]
          refine wpAnyH_done (by kernel_rfl) ?_ _
          refine NoPanic.normal ?_
          refine hK9 _ _ ?_
          go_meet
          exact ⟨g, cap, _, rfl, rfl, hc, hm, rfl, rfl, hrl, HWF, HBL⟩
  case rest =>
  obtain ⟨bl, c2, R, rfl, rfl, hc2, hc2', rfl, rfl, hR, HW, Bc⟩ := hcut
  rename World => wy
  have hsc := Bc.out.size
  have hbly := HW.out.2.1
  have Ccy := Lib.hid (Cb.out.trans Bc.out)
  clear HG1b HG2b HDb KXb Cb Bb Bc
  obtain ⟨top, htop⟩ : ∃ top, wy.heap.size = top := ⟨_, rfl⟩
  rw [htop] at HW hbly
  have htr : wk.heap.size ≤ top := by omega
  have htop' := Nat.le_of_eq htop.symm
  clear htop
  go_wp2_with fail
  go_loopw [49] (fun s49 wz => ∃ j : Nat, j ≤ 2 ∧ s49 = .int .i64 j ∧ Hid (Wr wz wk.heap.size top bl R) ∧ Hid (Below wk.heap.size wk wz) ∧ top ≤ wz.heap.size) (fun s49 _ => 2 - (intOf s49).toNat)
  case atStart => exact ⟨0, by omega, rfl, HW, Ccy, htop'⟩
  case round =>
  obtain ⟨j, hj, rfl, HWz, Bz, htz⟩ := hrel
  generalize wr = wz at *
  by_cases hlt2 : ¬ j < 2
  · have hDe := Lib.hid (D.chg HDr.out (F' := fun _ => False) (Chg.of_below Bz.out) (fun _ _ hf => hf))
    have hBe := Lib.hid (hb.out.trans (Bz.out.mono hsz))
    go_wp2
    go_roundw
    case rel => exact ⟨k + 1, by omega, by go_num, hDe, hBe⟩
    case measure => simp [intOf]; omega
  have hj2 : (j : Int) < 2 := by omega
  obtain ⟨⟨hh, ⟨pa, pn, pc⟩, ⟨qa, qn, qc⟩⟩, hr⟩ : ∃ r, R[j]? = some r := ⟨R[j]'(by omega), List.getElem?_eq_getElem (by omega)⟩
  have HRT := Lib.hid (HWz.out.1 j _ hr)
  have hrm := List.mem_of_getElem? hr
  clear hr
  have KZ := Lib.hid (Blk.new wz 34 #[.int .i64 hh.age, .int .i64 hh.kind, .int .i64 hh.id, .int .i64 hh.adv, .int .i64 hh.seq, .int .i64 hh.sum, .int .i64 hh.long, .slice pa pn pc, .slice qa qn qc])
  have BZ := Lib.hid (Bz.out.alloc (Nat.le_trans htr htz) (.cells #[.int .i64 hh.age, .int .i64 hh.kind, .int .i64 hh.id, .int .i64 hh.adv, .int .i64 hh.seq, .int .i64 hh.sum, .int .i64 hh.long, .slice pa pn pc, .slice qa qn qc] 34))
  have HWn := Lib.hid (HWz.out.below (((Below.refl wz.heap.size wz).alloc (Nat.le_refl _) (.cells #[.int .i64 hh.age, .int .i64 hh.kind, .int .i64 hh.id, .int .i64 hh.adv, .int .i64 hh.seq, .int .i64 hh.sum, .int .i64 hh.long, .slice pa pn pc, .slice qa qn qc] 34)).mono htz))
  go_upto_region 18 with (refine wpList_load_rc (r := ⟨hh, ⟨pa, pn, pc⟩, ⟨qa, qn, qc⟩⟩) (by rfl) (.tmp 51) rfl (by rfl) HRT.out ?_)
  obtain ⟨Z, hZ⟩ : ∃ Z, wz.heap.size = Z := ⟨_, rfl⟩
  rw [hZ] at KZ htz
  generalize wz.alloc (.cells #[.int .i64 hh.age, .int .i64 hh.kind, .int .i64 hh.id, .int .i64 hh.adv, .int .i64 hh.seq, .int .i64 hh.sum, .int .i64 hh.long, .slice pa pn pc, .slice qa qn qc] 34) = wq at *
  rw [hZ]
  have hlZ := KZ.out.lt
  have z7 := KZ.out.cell 7
  go_wp2_with fail
  clear z7
  go_loopw [56] (fun s56 wi => ∃ i : Nat, i ≤ pn ∧ s56 = .int .i64 i ∧ Hid (Wr wi wk.heap.size top bl R) ∧ Hid (Blk wi Z 34 #[.int .i64 hh.age, .int .i64 hh.kind, .int .i64 hh.id, .int .i64 hh.adv, .int .i64 hh.seq, .int .i64 hh.sum, .int .i64 hh.long, .slice pa pn pc, .slice qa qn qc]) ∧ Hid (Below wk.heap.size wk wi) ∧ Z < wi.heap.size) (fun s56 _ => pn - (intOf s56).toNat)
  case atStart => exact ⟨0, by omega, rfl, HWn, KZ, BZ, hlZ⟩
  case round =>
  obtain ⟨i, hi56, rfl, HW56, KZ56, BZ56, hlZ56⟩ := hrel
  generalize wr = w56 at *
  have z7 := KZ56.out.cell 7
  by_cases hlt56 : i < pn
  · rcases (HW56.out.2.2 _ hrm).1 with h0 | ⟨b, hpa, hb1, hb2, hb3, hnc, hcm, hcells⟩
    · dsimp only at h0
      omega
    dsimp only at hpa hnc hcm
    subst hpa
    unfold maxLen at hcm
    obtain ⟨⟨v, hv⟩, hf⟩ := hcells (i * 4 + 3) (by dsimp only; omega)
    clear hcells
    have hi' : (i : Int) < pn := by omega
    have hbZ : Z ≠ b := by omega
    have HBZ := Lib.hid hbZ
    have HB2 := Lib.hid hb2
    clear hbZ hb2
    go_wp2
    go_roundw
    case rel => exact ⟨i + 1, by omega, by go_num, Lib.hid (HW56.out.set HB2.out), Lib.hid (KZ56.out.far (p := ⟨b, _, none⟩) HBZ.out _), Lib.hid (BZ56.out.setCell (p := ⟨b, _, none⟩) hb1 _), by simp; omega⟩
    case measure => simp [intOf]; omega
  clear z7
  have z7 := KZ56.out.cell 8
  go_wp2_with fail
  clear z7
  go_loopw [72] (fun s72 wi => ∃ i : Nat, i ≤ qn ∧ s72 = .int .i64 i ∧ Hid (Wr wi wk.heap.size top bl R) ∧ Hid (Blk wi Z 34 #[.int .i64 hh.age, .int .i64 hh.kind, .int .i64 hh.id, .int .i64 hh.adv, .int .i64 hh.seq, .int .i64 hh.sum, .int .i64 hh.long, .slice pa pn pc, .slice qa qn qc]) ∧ Hid (Below wk.heap.size wk wi) ∧ Z < wi.heap.size) (fun s72 _ => qn - (intOf s72).toNat)
  case atStart => exact ⟨0, by omega, rfl, HW56, KZ56, BZ56, hlZ56⟩
  case round =>
  obtain ⟨m, hi72, rfl, HW72, KZ72, BZ72, hlZ72⟩ := hrel
  generalize wr = w72 at *
  have z7 := KZ72.out.cell 8
  by_cases hlt72 : m < qn
  · rcases (HW72.out.2.2 _ hrm).2 with h0 | ⟨b, hpa, hb1, hb2, hb3, hnc, hcm, hcells⟩
    · dsimp only at h0
      omega
    dsimp only at hpa hnc hcm
    subst hpa
    unfold maxLen at hcm
    obtain ⟨⟨v, hv⟩, hf⟩ := hcells m (by dsimp only; omega)
    clear hcells
    have hi' : (m : Int) < qn := by omega
    have hbZ : Z ≠ b := by omega
    have HBZ := Lib.hid hbZ
    have HB2 := Lib.hid hb2
    clear hbZ hb2
    go_wp2
    go_roundw
    case rel => exact ⟨m + 1, by omega, by go_num, Lib.hid (HW72.out.set HB2.out), Lib.hid (KZ72.out.far (p := ⟨b, _, none⟩) HBZ.out _), Lib.hid (BZ72.out.setCell (p := ⟨b, _, none⟩) hb1 _), by simp; omega⟩
    case measure => simp [intOf]; omega
  go_wp2
  go_roundw
  case rel => exact ⟨j + 1, by omega, by go_num, HW72, BZ72, by omega⟩
  case measure => simp [intOf]; omega
end Go.Proofs.Ytiibefgdlmjdgaa
