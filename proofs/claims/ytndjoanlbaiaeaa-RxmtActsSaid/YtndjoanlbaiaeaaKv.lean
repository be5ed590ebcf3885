/- The document's Put. Conditions: at most 100000 rows, numbers of 64 bits. -/
import Derived.Test.YtndjoanlbaiaeaaKt
import Derived.Deep.RegionLaw
namespace Go.Proofs.Ytndjoanlbaiaeaa
open Go.RowKit Go.Lib Go.Sort Go.Deep

theorem step_append_g8 {ops : Array Oper} {o : Oper} {a : Act} {w : World} {K : Act → World → Prop} {Q : Exit → Act → World → Prop} {E : Prop} (hgd : o.guard = none) (s x : Operand) (t e : TypeId) (z : Value) (size bytes : Nat)
    (ht : Try.prog.underlying t = some (.slice e)) (hinfo : (Try.prog.info? e).map (fun i => (i.zero, i.size, i.bytes)) = some (some z, size, bytes)) (hzs : z.cells.size = size) (hsz : 0 < size) (hby : bytes ≤ 1024)
    (ho : o.op = .call { callee := .builtin .append, args := #[s, x], argTypes := #[t, t] }) (base : Nat) (v : Value) (n : Nat) (xs : List Value) (hs : a.eval s = v) (hown : w.ownsRow base e size v n xs)
    (b : Nat) (news : List Value) (hx : a.eval x = .slice (some ⟨b, 0, none⟩) 1 1) (hl : news.length = size) (hb : Blk w b e news.toArray) (h1 : ∀ u ∈ news, u.oneCell' = true) (hn : n ≤ 1048576) (hbase : base ≤ w.heap.size)
    (hK : ∀ v' w', Hid (w'.ownsRow base e size v' (n + 1) (xs ++ news)) → Hid (w.grownBy w' v.ownBlock) → Hid (v'.ownBlock = v.ownBlock ∨ v'.ownBlock = some w.heap.size) → K (a.put o.dst v') w') : if Region.wanted o (yielded ops a.tmps) = true then Oper.wp Try.prog o a w K Q else E := by
  have hw : Region.wanted o (yielded ops a.tmps) = true := by simp [Region.wanted, hgd]
  rw [if_pos hw]
  obtain ⟨i0, hi, hz0, hz1, hz2⟩ := info_parts hinfo
  have hnews : ∀ j u, news[j]? = some u → w.cell? ((⟨b, 0, none⟩ : Addr).add j) = some u := by
    intro j u hu
    rw [addr_add, hb.cell, Nat.zero_add, List.getElem?_toArray]
    exact hu
  have hbb : (n + 1) * bytes ≤ 1048577 * 1024 := Nat.mul_le_mul (by omega) hby
  obtain ⟨v', w', hrun, h2, h3, h4⟩ := run_append_own_at (P := Try.prog) w base t o.type e i0 z size bytes ht hi hz0 hz1 hz2 hzs hsz v n xs hown ⟨b, 0, none⟩ 1 1 news (by omega) hnews h1 (by unfold maxLen; omega) (by omega) hbase
  unfold Oper.wp execOp
  simp only [ho, resolve, invoke, builtin, Sem.run_bind, Sem.run_pure, Result.andThen_ok, List.map_toArray, List.map_cons, List.map_nil, hs, hx, hrun]
  exact hK v' w' h2 h3 h4.2
theorem own_ne_blk {w : World} {b n size g : Nat} {t t' : TypeId} {v : Value} {xs : List Value} {cs : Array Value} (h : w.ownsRow b t size v n xs) (hB : Blk w g t' cs) (ht : t ≠ t') : v.ownBlock ≠ some g := by
  intro e
  rcases h.2 with ⟨rfl, _⟩ | ⟨q, cap, cur, rfl, _, hg, _⟩
  · cases e
  · injection e with e
    subst e
    have h1 : w.heap[q]? = some (.cells cs t' (0, 0)) := hB
    rw [h1] at hg
    injection hg with hg
    injection hg with _ hg
    exact ht hg.symm
/-- A row more. -/
theorem RrQ.more {w w2 w4 : World} {lo g : Nat} {L : List Rw} {F : Nat → Prop} {nn c c4 : Nat} {A A4 : Option Addr} {y : Rw} (hok : ∀ x ∈ L, okRw x) (hB : Blk w g 29 #[.slice A nn c]) (hlo : lo ≤ g) (hO : w.ownsRow lo 61 5 (.slice A nn c) nn (cellsBy encRw L)) (hF : ∀ q, F q ↔ q = g ∨ (Value.slice A nn c).ownBlock = some q)
    (hy : okRw y) (hb : Below w.heap.size w w2) (ho4 : w4.ownsRow lo 61 5 (.slice A4 (nn + 1) c4) (nn + 1) (cellsBy encRw L ++ encRw y)) (hg : w2.grownBy w4 (Value.slice A nn c).ownBlock) (hl : (Value.slice A4 (nn + 1) c4).ownBlock = (Value.slice A nn c).ownBlock ∨ (Value.slice A4 (nn + 1) c4).ownBlock = some w2.heap.size) : RrQ w lo g (L ++ [y]) F (w4.setCell ⟨g, 0, none⟩ (.slice A4 (nn + 1) c4)) := by
  have hgl := hB.lt
  have hng : (Value.slice A nn c).ownBlock ≠ some g := own_ne_blk hO hB (by decide)
  have c1 : Chg F w w4 := (Chg.of_below (F := F) hb).trans (Chg.of_grown (F := F) hg (fun k e => (hF k).2 (.inr e))) (fun q hq => .inl hq)
  have c2 : Chg F w (w4.setCell ⟨g, 0, none⟩ (.slice A4 (nn + 1) c4)) := c1.trans (Chg.of_grown (F := F) (grown_setCell w4 ⟨g, 0, none⟩ (.slice A4 (nn + 1) c4)) (fun k e => by
    injection e with e
    exact (hF k).2 (.inl e.symm))) (fun q hq => .inl hq)
  have hB4 : Blk w4 g 29 #[.slice A nn c] := (hB.below hb hgl).chg (Chg.of_grown (F := fun q => (Value.slice A nn c).ownBlock = some q) hg (fun k e => e)) hng
  have hn4 : (Value.slice A4 (nn + 1) c4).ownBlock ≠ some g := own_ne_blk ho4 hB4 (by decide)
  have hB5 := hB4.put 0 (.slice A4 (nn + 1) c4)
  refine ⟨fun q => q = g ∨ (Value.slice A4 (nn + 1) c4).ownBlock = some q, ⟨?_, A4, nn + 1, c4, by simpa using hB5, hlo, ?_, fun q => Iff.rfl⟩, c2, fun q hq => ?_⟩
  · intro x hx
    rcases List.mem_append.1 hx with hx | hx
    · exact hok x hx
    · rw [List.mem_singleton] at hx
      subst hx
      exact hy
  · rw [by_append, by_one]
    exact own_ne ho4 ⟨g, 0, none⟩ _ hn4
  · rcases hq with rfl | hq
    · exact .inl ((hF q).2 (.inl rfl))
    · rcases hl with e | e
      · exact .inl ((hF q).2 (.inr (e.symm.trans hq)))
      · rw [hq] at e
        injection e with e
        have := hb.size
        exact .inr (by omega)
set_option maxRecDepth 20000 in
set_option maxHeartbeats 16000000 in
theorem put_r {w : World} {lo g : Nat} {L : List Rw} {F : Nat → Prop} (h : RrIs w lo g L F) (hnd : L.Nodup) (n : Int × Int) (hn : wfN n) {A : Option Addr} {nk ck B : Nat} {K : List Ky} (hK : Kys w B A nk K) (hB : B ≤ lo) (hwf : ∀ k ∈ K, wfKy k) (hl : L.length + nk ≤ 100000) : Calls Try.prog 11 #[.pointer (some ⟨g, 0, none⟩), .int .i64 n.1, .int .i64 n.2, .slice A nk ck] w fun e w' => e = .returned (.int .i64 ((onL (putsK L n K) n).length : Int)) ∧ RrQ w lo g (putsK L n K) F w' := by
  generalize hQ : (fun (e : Ending) (w' : World) => e = .returned (.int .i64 ((onL (putsK L n K) n).length : Int)) ∧ RrQ w lo g (putsK L n K) F w') = Q
  have HQ := Lib.hid hQ
  have H := Lib.hid h
  have HND := Lib.hid hnd
  have HN := Lib.hid hn
  have HK := Lib.hid hK
  have HWF := Lib.hid hwf
  have HLL := Lib.hid hl
  have HKN := Lib.hid hK.1
  have HFL := Lib.hid (fun q (hq : F q) => show B ≤ q from Nat.le_trans hB (h.foot hq).1)
  have hBz : B ≤ w.heap.size := by obtain ⟨-, A0, n0, c0, hB0, hlo0, -, -⟩ := h; have := hB0.lt; omega
  have HP := Lib.hid (show RrQ w lo g L F w from RrQ.same h (Below.refl _ _))
  have hnk : nk ≤ 100000 := by omega
  clear hQ h hnd hn hK hwf hl
  go_enter Try.func11, Try.ntmps11
  go_wp2_with fail
  go_loopw [9] (fun s wr => ∃ j : Nat, s = .int .i64 j ∧ j ≤ nk ∧ Hid (RrQ w lo g (putsK L n (K.take j)) F wr)) (fun s _ => nk - (intOf s).toNat)
  case atStart => exact ⟨0, rfl, Nat.zero_le _, by simpa [putsK] using HP⟩
  case round =>
    clear HP
    obtain ⟨j, rfl, hj, HR⟩ := hrel
    have HKR := Lib.hid (show Kys wr B A nk K from by obtain ⟨F', h1, h2, h3⟩ := HR.out; exact HK.out.below (h2.to_below HFL.out hBz))
    have hzr : w.heap.size ≤ wr.heap.size := by obtain ⟨F', h1, h2, h3⟩ := HR.out; exact h2.size
    have HS := Lib.hid (show (putsK L n (K.take j)).length ≤ 100000 by
      have h1 := putsK_len n (K.take j) L
      have h2 : (K.take j).length ≤ nk := by rw [List.length_take, HKN.out]; omega
      have := HLL.out
      omega)
    by_cases hlt : j < nk
    · have hlt' : (j : Int) < nk := by omega
      obtain ⟨gb, o, x, rfl, hgl, hx, y0, y1, y2⟩ := kys_item HKR.out hlt
      have HX := Lib.hid (show putsK L n (K.take (j + 1)) = putK n (putsK L n (K.take j)) x by rw [List.take_add_one, hx]; exact putsK_snoc _ _ _ _)
      have HXW := Lib.hid (HWF.out x (List.mem_of_getElem? hx))
      have hgw : gb < wr.heap.size := by omega
      clear hx
      obtain ⟨S, hS⟩ : ∃ S, putsK L n (K.take j) = S := ⟨_, rfl⟩
      rw [hS] at HR HX HS
      clear hS
      obtain ⟨F1, hR1, hC1, hF1⟩ := HR.out
      have R1 := Lib.hid hR1
      have C1 := Lib.hid hC1
      have HF1 := Lib.hid hF1
      clear hR1 hC1 hF1 HR
      go_wp2_with fail
      refine (find_g R1.out n HN.out x HXW.out).mono ?_
      rintro e3 w3 ⟨rfl, hg3⟩
      have B3 := Lib.hid (below_grown13 hg3)
      have z3 := B3.out.size
      clear hg3
      have R3 := Lib.hid (R1.out.below B3.out)
      have C3 := Lib.hid (C1.out.trans (Chg.of_below (F := F1) B3.out) HF1.out)
      have KR3 := Lib.hid (HKR.out.below (B3.out.mono (by omega)))
      have q0 : w3.cell? ⟨gb, o + j * 3, none⟩ = some (.int .i64 x.kind) := (B3.out.cell (p := ⟨gb, _, none⟩) hgw).trans y0
      have q1 : w3.cell? ⟨gb, o + j * 3 + 1, none⟩ = some (.int .i64 x.id) := (B3.out.cell (p := ⟨gb, _, none⟩) hgw).trans y1
      have q2 : w3.cell? ⟨gb, o + j * 3 + 2, none⟩ = some (.int .i64 x.adv) := (B3.out.cell (p := ⟨gb, _, none⟩) hgw).trans y2
      have hgw3 : gb < w3.heap.size := by omega
      clear y0 y1 y2 B3 R1 C1 HKR
      rcases findR_cases S ⟨n, x⟩ with ⟨e, hx⟩ | ⟨i, e, hi⟩
      · have dlt : decide (findR S ⟨n, x⟩ < 0) = true := by rw [e]; rfl
        have HX2 := Lib.hid (show putsK L n (K.take (j + 1)) = S ++ [⟨n, x⟩] by rw [HX.out]; unfold putK; rw [if_neg hx])
        obtain ⟨fi, hfi⟩ : ∃ fi, findR S ⟨n, x⟩ = fi := ⟨_, rfl⟩
        rw [hfi] at dlt ⊢
        clear hfi hx HX e
        obtain ⟨hok, A2, n2, c2, hB2, hlo2, hO2, hF2⟩ := R3.out
        have HOK2 := Lib.hid hok
        have HB2 := Lib.hid hB2
        have HLO2 := Lib.hid hlo2
        have HO2 := Lib.hid hO2
        have HF2 := Lib.hid hF2
        have hn2 : n2 ≤ 100000 := by have := own_lenH encRw_len (by omega) hO2; have := HS.out; omega
        have hgl2 := hB2.lt
        have c0 := hB2.cell 0
        have c1 := (hB2.alloc (.cells #[.int .i64 n.1, .int .i64 n.2, .int .i64 x.kind, .int .i64 x.id, .int .i64 x.adv] 61)).cell 0
        simp at c0 c1
        clear hok hB2 hlo2 hO2 hF2
        go_upto_region 5 with fail
        have OWD := Lib.hid (show (w3.alloc (.cells #[.int .i64 n.1, .int .i64 n.2, .int .i64 x.kind, .int .i64 x.id, .int .i64 x.adv] 61)).drew.ownsRow lo 61 5 (.slice A2 n2 c2) n2 (cellsBy encRw S) from HO2.out.alloc _)
        have BLD := Lib.hid (show Blk (w3.alloc (.cells #[.int .i64 n.1, .int .i64 n.2, .int .i64 x.kind, .int .i64 x.id, .int .i64 x.adv] 61)).drew w3.heap.size 61 (encRw ⟨n, x⟩).toArray from Blk.new w3 61 #[.int .i64 n.1, .int .i64 n.2, .int .i64 x.kind, .int .i64 x.id, .int .i64 x.adv])
        have BD := Lib.hid (show Below w3.heap.size w3 (w3.alloc (.cells #[.int .i64 n.1, .int .i64 n.2, .int .i64 x.kind, .int .i64 x.id, .int .i64 x.adv] 61)).drew from below_drewN ((Below.refl _ _).alloc (Nat.le_refl _) _) 1)
        have HKM := Lib.hid (show n2 ≤ 1048576 by omega)
        have HSZ := Lib.hid (show lo ≤ (w3.alloc (.cells #[.int .i64 n.1, .int .i64 n.2, .int .i64 x.kind, .int .i64 x.id, .int .i64 x.adv] 61)).drew.heap.size by have := HLO2.out; have := BD.out.size; omega)
        have BB := Lib.hid (HB2.out.below BD.out hgl2)
        have NG := Lib.hid (show (Value.slice A2 n2 c2).ownBlock ≠ some g from own_ne_blk HO2.out HB2.out (by decide))
        go_region_law (first
          | (refine step_append_g8 (by rfl) (.tmp 29) (.tmp 37) 27 61 (.agg #[.int .i64 0, .int .i64 0, .int .i64 0, .int .i64 0, .int .i64 0]) 5 40 Try.underlying27 infoRw rfl (by decide) (by decide) (by rfl) lo (.slice A2 n2 c2) n2 (cellsBy encRw S) (by rfl) OWD.out w3.heap.size (encRw ⟨n, x⟩) (by rfl) rfl BLD.out (encRw_ones _) HKM.out HSZ.out ?_; intro v' w' ho' hg' hl'; obtain ⟨A4, c4, rfl⟩ := own_slice ho'.out; have B4 := Lib.hid (BB.out.chg (Chg.of_grown (F := fun q => (Value.slice A2 n2 c2).ownBlock = some q) hg'.out (fun k e => e)) NG.out); have c4' := B4.out.cell 0; simp at c4'; have f4 := B4.out.frozen 0))
        all_goals
          have RM := Lib.hid (RrQ.more HOK2.out HB2.out HLO2.out HO2.out HF2.out (y := ⟨n, x⟩) ⟨HN.out, HXW.out⟩ BD.out ho'.out hg'.out hl'.out)
          have RN := Lib.hid (show RrQ w lo g (putsK L n (K.take (j + 1))) F (w'.setCell ⟨g, 0, none⟩ (.slice A4 (n2 + 1) c4)) by
            rw [HX2.out]
            obtain ⟨F5, h1, h2, h3⟩ := RM.out
            refine ⟨F5, h1, C3.out.trans h2 HF1.out, fun q hq => ?_⟩
            rcases h3 q hq with h | h
            · exact HF1.out q h
            · exact .inr (by omega))
          clear RM ho' hg' hl' B4 c4' f4
          go_wp2
          go_roundw
          case rel => exact ⟨j + 1, by go_num, by omega, RN⟩
          case measure => simp [intOf]; omega
      · have dlt : decide (findR S ⟨n, x⟩ < 0) = false := by rw [e]; simp
        have HX2 := Lib.hid (show putsK L n (K.take (j + 1)) = S by rw [HX.out]; unfold putK; rw [if_pos (List.mem_of_getElem? hi)])
        obtain ⟨fi, hfi⟩ : ∃ fi, findR S ⟨n, x⟩ = fi := ⟨_, rfl⟩
        rw [hfi] at dlt ⊢
        clear hfi hi HX e
        go_wp2_with fail
        go_roundw
        case rel => exact ⟨j + 1, by go_num, by omega, Lib.hid (by rw [HX2.out]; exact ⟨F1, R3.out, C3.out, HF1.out⟩)⟩
        case measure => simp [intOf]; omega
    · have hlt' : ¬ (j : Int) < nk := by omega
      have HT := Lib.hid (show K.take j = K from List.take_of_length_le (by have := HKN.out; omega))
      rw [HT.out] at HR HS
      have HND2 := Lib.hid (puts_all (n := n) (K := K) HND.out).1
      obtain ⟨F1, hR1, hC1, hF1⟩ := HR.out
      have R1 := Lib.hid hR1
      have C1 := Lib.hid hC1
      have HF1 := Lib.hid hF1
      clear hR1 hC1 hF1
      go_wp2_with fail
      refine (list_r R1.out HND2.out n HS.out).mono ?_
      rintro e3 w3 ⟨A3, m3, c3, rfl, hb3, ho3⟩
      have HM := Lib.hid (show (m3 : Int) = ((onL (putsK L n K) n).length : Int) by
        rw [← own_lenK ho3, srt_len (nodup_onL HND2.out n)])
      have B3 := Lib.hid hb3
      clear hb3 ho3
      go_wp2_with fail
      show Q (.returned (.int .i64 (m3 : Int))) w3
      rw [← HQ.out]
      refine ⟨by rw [HM.out], F1, R1.out.below B3.out, C1.out.trans (Chg.of_below (F := F1) B3.out) HF1.out, HF1.out⟩
end Go.Proofs.Ytndjoanlbaiaeaa
