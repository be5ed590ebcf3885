/- Appends of one item; which of the program. Conditions: what the words say. -/
import Derived.Test.YtfapphndfgoknaaHg
namespace Go.Proofs.Ytfapphndfgoknaa
open Go.RowKit Go.Deep

theorem wpList_app_pe {wb : World} {ops : Array Oper} {rest : List Oper} {o : Oper} {a : Act} {Q : Exit → Act → World → Prop} (hgd : o.guard = none) (s x : Operand) (ho : o.op = .call { callee := .builtin .append, args := #[s, x], argTypes := #[27, 27] })
    {base n c : Nat} {A : Option Addr} {L : List Pe} (y : Pe) (hs : a.eval s = .slice A n c) (hx : a.eval x = .slice (some ⟨wb.heap.size, 0, none⟩) 1 1) (hown : wb.ownsRow base 47 7 (.slice A n c) n (cellsBy encPe L)) (hn : n ≤ 1000) (hbase : base ≤ wb.heap.size)
    (h : ∀ A' c' w', Hid (w'.ownsRow base 47 7 (.slice A' (n + 1) c') (n + 1) (cellsBy encPe (L ++ [y]))) → Hid (Below base wb w') → wpList Try.prog ops Q rest (a.put o.dst (.slice A' (n + 1) c')) w') : wpList Try.prog ops Q (o :: rest) a (wb.alloc (.cells #[.int .i64 y.id, .int .i64 y.prio, .int .i64 y.dr, .int .i64 y.bdr, .int .i64 y.st, .bool y.two, .int .i64 y.tick] 47)) := by
  refine wpList_append_any hgd s x 27 47 (.agg #[.int .i64 0, .int .i64 0, .int .i64 0, .int .i64 0, .int .i64 0, .bool false, .int .i64 0]) 7 56 Try.underlying27 infoPe rfl (by decide) (by decide) ho base (.slice A n c) n (cellsBy encPe L) hs (hown.alloc _) (some ⟨wb.heap.size, 0, none⟩) 1 1 (encPe y) hx rfl (fun h => by cases h) (news_new wb 47 (encPe y)) (encPe_ones y) (by omega) (by simp; omega) ?_
  intro v2 w2 ho2 hg2
  obtain ⟨A2, c2, rfl⟩ := own_slice ho2.out
  refine h A2 c2 w2 (Lib.hid (by rw [by_append, by_one]; exact ho2.out)) (Lib.hid ?_)
  exact ((Below.refl base wb).alloc hbase _).trans (own_keeps7 (hown.alloc _) hg2.out (by simp; omega))

theorem wpList_app_cd {wb : World} {ops : Array Oper} {rest : List Oper} {o : Oper} {a : Act} {Q : Exit → Act → World → Prop} (hgd : o.guard = none) (s x : Operand) (ho : o.op = .call { callee := .builtin .append, args := #[s, x], argTypes := #[51, 51] })
    {base n c : Nat} {A : Option Addr} {L : List Cd} (y : Cd) (hs : a.eval s = .slice A n c) (hx : a.eval x = .slice (some ⟨wb.heap.size, 0, none⟩) 1 1) (hown : wb.ownsRow base 69 4 (.slice A n c) n (cellsBy encCd L)) (hn : n ≤ 1000) (hbase : base ≤ wb.heap.size)
    (h : ∀ A' c' w', Hid (w'.ownsRow base 69 4 (.slice A' (n + 1) c') (n + 1) (cellsBy encCd (L ++ [y]))) → Hid (Below base wb w') → wpList Try.prog ops Q rest (a.put o.dst (.slice A' (n + 1) c')) w') : wpList Try.prog ops Q (o :: rest) a (wb.alloc (.cells #[.int .i64 y.id, .int .i64 y.prio, .int .i64 y.dr, .int .i64 y.bdr] 69)) := by
  refine wpList_append_any hgd s x 51 69 (.agg #[.int .i64 0, .int .i64 0, .int .i64 0, .int .i64 0]) 4 32 Try.underlying51 infoCd rfl (by decide) (by decide) ho base (.slice A n c) n (cellsBy encCd L) hs (hown.alloc _) (some ⟨wb.heap.size, 0, none⟩) 1 1 (encCd y) hx rfl (fun h => by cases h) (news_new wb 69 (encCd y)) (encCd_ones y) (by omega) (by simp; omega) ?_
  intro v2 w2 ho2 hg2
  obtain ⟨A2, c2, rfl⟩ := own_slice ho2.out
  refine h A2 c2 w2 (Lib.hid (by rw [by_append, by_one]; exact ho2.out)) (Lib.hid ?_)
  exact ((Below.refl base wb).alloc hbase _).trans (own_keeps7 (hown.alloc _) hg2.out (by simp; omega))

theorem wpList_app_int {wb : World} {ops : Array Oper} {rest : List Oper} {o : Oper} {a : Act} {Q : Exit → Act → World → Prop} (hgd : o.guard = none) (s x : Operand) (ho : o.op = .call { callee := .builtin .append, args := #[s, x], argTypes := #[30, 30] })
    {base n c : Nat} {A : Option Addr} {L : List Int} (y : Int) (hs : a.eval s = .slice A n c) (hx : a.eval x = .slice (some ⟨wb.heap.size, 0, none⟩) 1 1) (hown : wb.ownsRow base 3 1 (.slice A n c) n (cellsBy encI L)) (hn : n ≤ 1000) (hbase : base ≤ wb.heap.size)
    (h : ∀ A' c' w', Hid (w'.ownsRow base 3 1 (.slice A' (n + 1) c') (n + 1) (cellsBy encI (L ++ [y]))) → Hid (Below base wb w') → wpList Try.prog ops Q rest (a.put o.dst (.slice A' (n + 1) c')) w') : wpList Try.prog ops Q (o :: rest) a (wb.alloc (.cells #[.int .i64 y] 3)) := by
  refine wpList_append_any hgd s x 30 3 (.int .i64 0) 1 8 Try.underlying30 infoI rfl (by decide) (by decide) ho base (.slice A n c) n (cellsBy encI L) hs (hown.alloc _) (some ⟨wb.heap.size, 0, none⟩) 1 1 (encI y) hx rfl (fun h => by cases h) (news_new wb 3 (encI y)) (encI_ones y) (by omega) (by simp; omega) ?_
  intro v2 w2 ho2 hg2
  obtain ⟨A2, c2, rfl⟩ := own_slice ho2.out
  refine h A2 c2 w2 (Lib.hid (by rw [by_append, by_one]; exact ho2.out)) (Lib.hid ?_)
  exact ((Below.refl base wb).alloc hbase _).trans (own_keeps7 (hown.alloc _) hg2.out (by simp; omega))

set_option maxRecDepth 8000 in
set_option maxHeartbeats 4000000 in
theorem which_plain {w : World} {p : Nat} {F : Nat → Prop} {sf lan : Int} {X : List Pe} {bk : Int → Nat} (g : Nat) (f : Pe → Bool) (I : World → Prop) (hg : ∀ args w, (callFunc g args).run Try.prog w = .ok (.enter g args) w) (hI : ∀ W W', I W → Below W.heap.size W W' → I W')
    (hf : ∀ (x : Pe) (W : World), x ∈ X → I W → Calls Try.prog g #[.agg #[.int .i64 x.id, .int .i64 x.prio, .int .i64 x.dr, .int .i64 x.bdr, .int .i64 x.st, .bool x.two, .int .i64 x.tick]] W fun e W' => e = .returned (.bool (f x)) ∧ Below W.heap.size W W') (hw : I w) (hD : PDb w p F sf lan X bk) :
    Calls Try.prog 30 #[.pointer (some ⟨p, 0, none⟩), .func (.func g) #[] #[]] w fun e w' => (∃ A n c, e = .returned (.slice A n c) ∧ w'.ownsRow w.heap.size 47 7 (.slice A n c) n (cellsBy encPe (X.filter f))) ∧ Below w.heap.size w w' := by
  generalize hQ : (fun (e : Ending) (w' : World) => (∃ A n c, e = .returned (.slice A n c) ∧ w'.ownsRow w.heap.size 47 7 (.slice A n c) n (cellsBy encPe (X.filter f))) ∧ Below w.heap.size w w') = Q
  have HQ := Lib.hid hQ
  have HI := Lib.hid hI
  have HF := Lib.hid hf
  have HW := Lib.hid hw
  have HD := Lib.hid hD
  have HLN := Lib.hid hD.srt.len
  obtain ⟨-, -, hpl⟩ := hD.cells
  have HT := Lib.hid hD.tab
  clear hQ hI hf hw hD
  have HX := Lib.hid (show ∀ (j : Nat), j < 16 → ∀ W, (Instr.index 55 (.agg (tabP X bk).toArray) (.int .i64 (j : Int))).run Try.prog W = .ok (ptrP X bk j) W from fun j hj W => run_index16 hj (by simpa using tabP_at X bk j hj) W)
  obtain ⟨T, hT⟩ : ∃ T, T = (tabP X bk).toArray := ⟨_, rfl⟩
  have HTE := Lib.hid hT
  rw [← hT] at HX
  clear hT
  go_enter Try.func30, Try.ntmps30
  go_wp2_with (refine wpList_load_row 55 (tabP X bk) _ (by rfl) (.tmp 12) rfl (by rfl) HT.out Try.underlying55 rfl (by rw [tabP_len]; kernel_rfl) ?_; rw [← HTE.out])
  go_loopw [5, 14] (fun s5 s14 wr => ∃ (j n c : Nat) (A : Option Addr), j ≤ 16 ∧ s14 = .int .i64 j ∧ s5 = .slice A n c ∧ Hid (wr.ownsRow w.heap.size 47 7 (.slice A n c) n (cellsBy encPe ((belowP X j).filter f))) ∧ Hid (Below w.heap.size w wr)) (fun _ i _ => 16 - (intOf i).toNat)
  case atStart =>
    refine ⟨0, 0, 0, none, Nat.zero_le _, rfl, rfl, Lib.hid ?_, Lib.hid (Below.refl _ _)⟩
    rw [below_none HD.out.srt (by omega)]
    exact World.ownsRow_nil _ _ _ _
  case round =>
    obtain ⟨j, n, c, A, hj, rfl, rfl, HO, HB⟩ := hrel
    have HN := Lib.hid (show n ≤ 16 by
      have h1 := own_len encPe_len (by omega) HO.out
      have h2 : ((belowP X j).filter f).length ≤ (belowP X j).length := List.length_filter_le _ _
      have h3 : (belowP X j).length ≤ X.length := List.length_filter_le _ _
      have h4 := HLN.out
      omega)
    have hn16 := HN.out
    by_cases hlt : j < 16
    · have hlt' : (j : Int) < 16 := by omega
      have hx := HX.out j hlt
      have EJ := Lib.hid (show ((j : Int) + 1) = ((j + 1 : Nat) : Int) by omega)
      have hwl := HB.out.size
      cases hfp : findP X j with
      | none =>
        rw [ptrP_none hfp] at hx
        have HO2 := Lib.hid (show wr.ownsRow w.heap.size 47 7 (.slice A n c) n (cellsBy encPe ((belowP X ((j + 1 : Nat) : Int)).filter f)) by rw [← EJ.out, below_no hfp]; exact HO.out)
        clear hfp
        go_wp2_with fail
        go_roundw
        case rel => exact ⟨j + 1, n, c, A, by omega, by go_num, rfl, HO2, HB⟩
        case measure => simp [intOf]; omega
      | some x =>
        rw [ptrP_some hfp] at hx
        have HM := Lib.hid (findP_is hfp).1
        have DR := Lib.hid (HD.out.below HB.out)
        have R0 := Lib.hid (DR.out.found hfp).range7
        have hgl := (DR.out.found hfp).lt
        have HBL := Lib.hid (below_some HD.out.srt.rise hfp)
        have IR := Lib.hid (HI.out _ _ HW.out HB.out)
        clear hfp
        generalize bk (j : Int) = gb at *
        cases hfx : f x
        · have HF1 := Lib.hid (show Calls Try.prog g #[.agg #[.int .i64 x.id, .int .i64 x.prio, .int .i64 x.dr, .int .i64 x.bdr, .int .i64 x.st, .bool x.two, .int .i64 x.tick]] wr fun e W' => e = .returned (.bool false) ∧ Below wr.heap.size wr W' by rw [← hfx]; exact HF.out x wr HM.out IR.out)
          have HO2 := Lib.hid (show wr.ownsRow w.heap.size 47 7 (.slice A n c) n (cellsBy encPe ((belowP X ((j + 1 : Nat) : Int)).filter f)) by rw [← EJ.out, HBL.out, List.filter_append]; simpa [hfx] using HO.out)
          clear hfx
          go_wp2_with (first
            | (refine wpList_load_pe (y := x) (by rfl) _ rfl (by rfl) R0.out ?_)
            | fail)
          refine HF1.out.mono ?_
          rintro e1 w1 ⟨rfl, hb1⟩
          go_wp2_with fail
          have B1 := Lib.hid (HB.out.trans (hb1.mono hwl))
          have HO3 := Lib.hid (own_below2 HO2.out hb1)
          clear hb1
          go_roundw
          case rel => exact ⟨j + 1, n, c, A, by omega, by go_num, rfl, HO3, B1⟩
          case measure => simp [intOf]; omega
        · have HF1 := Lib.hid (show Calls Try.prog g #[.agg #[.int .i64 x.id, .int .i64 x.prio, .int .i64 x.dr, .int .i64 x.bdr, .int .i64 x.st, .bool x.two, .int .i64 x.tick]] wr fun e W' => e = .returned (.bool true) ∧ Below wr.heap.size wr W' by rw [← hfx]; exact HF.out x wr HM.out IR.out)
          have HLE := Lib.hid (show ((belowP X j).filter f) ++ [x] = (belowP X ((j + 1 : Nat) : Int)).filter f by rw [← EJ.out, HBL.out, List.filter_append]; simp [hfx])
          clear hfx
          go_upto_region 8 with (first
            | (refine wpList_load_pe (y := x) (by rfl) _ rfl (by rfl) R0.out ?_)
            | fail)
          refine HF1.out.mono ?_
          rintro e1 w1 ⟨rfl, hb1⟩
          go_upto_region 8 with fail
          have B1 := Lib.hid (HB.out.trans (hb1.mono hwl))
          have O1 := Lib.hid (own_below2 HO.out hb1)
          have R1 := Lib.hid (show w1.rangeAt gb 0 (encPe x) from fun k v hv => (hb1.cell (p := ⟨gb, 0 + k, none⟩) hgl).trans (R0.out k v hv))
          have hgl1 := Nat.lt_of_lt_of_le hgl hb1.size
          have hwl1 := Nat.le_trans hwl hb1.size
          clear hb1
          go_wp2_with (first
            | (refine wpList_load_pe (y := x) (by rfl) _ rfl (by rfl) R1.out ?_)
            | (at_builtin; refine wpList_app_pe rfl _ _ rfl x (by rfl) (by rfl) O1.out (by omega) hwl1 ?_; intro A2 c2 w2 ho2 hb2))
          rw [HLE.out] at ho2
          have B2 := Lib.hid (B1.out.trans hb2.out)
          go_roundw
          case rel => exact ⟨j + 1, n + 1, c2, A2, by omega, by go_num, rfl, ho2, B2⟩
          case measure => simp [intOf]; omega
    · have hj16 : j = 16 := by omega
      subst hj16
      have HO2 := Lib.hid (show wr.ownsRow w.heap.size 47 7 (.slice A n c) n (cellsBy encPe (X.filter f)) by
        have := HO.out
        rwa [show (((16 : Nat) : Int)) = 16 from rfl, below_all HD.out.srt] at this)
      clear HO
      go_wp2
      show Q (.returned (.slice A n c)) wr
      rw [← HQ.out]
      exact ⟨⟨A, n, c, rfl, HO2.out⟩, HB.out⟩

set_option maxRecDepth 8000 in
set_option maxHeartbeats 4000000 in
theorem which_bound {w : World} {p : Nat} {F : Nat → Prop} {sf lan : Int} {X : List Pe} {bk : Int → Nat} (g q : Nat) (f : Pe → Bool) (I : World → Prop) (hg : ∀ args w, (callFunc g args).run Try.prog w = .ok (.enter g args) w) (hI : ∀ W W', I W → Below W.heap.size W W' → I W')
    (hf : ∀ (x : Pe) (W : World), x ∈ X → I W → Calls Try.prog g #[.agg #[.int .i64 x.id, .int .i64 x.prio, .int .i64 x.dr, .int .i64 x.bdr, .int .i64 x.st, .bool x.two, .int .i64 x.tick], .pointer (some ⟨q, 0, none⟩)] W fun e W' => e = .returned (.bool (f x)) ∧ Below W.heap.size W W') (hw : I w) (hD : PDb w p F sf lan X bk) :
    Calls Try.prog 30 #[.pointer (some ⟨p, 0, none⟩), .func (.func g) #[] #[.pointer (some ⟨q, 0, none⟩)]] w fun e w' => (∃ A n c, e = .returned (.slice A n c) ∧ w'.ownsRow w.heap.size 47 7 (.slice A n c) n (cellsBy encPe (X.filter f))) ∧ Below w.heap.size w w' := by
  generalize hQ : (fun (e : Ending) (w' : World) => (∃ A n c, e = .returned (.slice A n c) ∧ w'.ownsRow w.heap.size 47 7 (.slice A n c) n (cellsBy encPe (X.filter f))) ∧ Below w.heap.size w w') = Q
  have HQ := Lib.hid hQ
  have HI := Lib.hid hI
  have HF := Lib.hid hf
  have HW := Lib.hid hw
  have HD := Lib.hid hD
  have HLN := Lib.hid hD.srt.len
  obtain ⟨-, -, hpl⟩ := hD.cells
  have HT := Lib.hid hD.tab
  clear hQ hI hf hw hD
  have HX := Lib.hid (show ∀ (j : Nat), j < 16 → ∀ W, (Instr.index 55 (.agg (tabP X bk).toArray) (.int .i64 (j : Int))).run Try.prog W = .ok (ptrP X bk j) W from fun j hj W => run_index16 hj (by simpa using tabP_at X bk j hj) W)
  obtain ⟨T, hT⟩ : ∃ T, T = (tabP X bk).toArray := ⟨_, rfl⟩
  have HTE := Lib.hid hT
  rw [← hT] at HX
  clear hT
  go_enter Try.func30, Try.ntmps30
  go_wp2_with (refine wpList_load_row 55 (tabP X bk) _ (by rfl) (.tmp 12) rfl (by rfl) HT.out Try.underlying55 rfl (by rw [tabP_len]; kernel_rfl) ?_; rw [← HTE.out])
  go_loopw [5, 14] (fun s5 s14 wr => ∃ (j n c : Nat) (A : Option Addr), j ≤ 16 ∧ s14 = .int .i64 j ∧ s5 = .slice A n c ∧ Hid (wr.ownsRow w.heap.size 47 7 (.slice A n c) n (cellsBy encPe ((belowP X j).filter f))) ∧ Hid (Below w.heap.size w wr)) (fun _ i _ => 16 - (intOf i).toNat)
  case atStart =>
    refine ⟨0, 0, 0, none, Nat.zero_le _, rfl, rfl, Lib.hid ?_, Lib.hid (Below.refl _ _)⟩
    rw [below_none HD.out.srt (by omega)]
    exact World.ownsRow_nil _ _ _ _
  case round =>
    obtain ⟨j, n, c, A, hj, rfl, rfl, HO, HB⟩ := hrel
    have HN := Lib.hid (show n ≤ 16 by
      have h1 := own_len encPe_len (by omega) HO.out
      have h2 : ((belowP X j).filter f).length ≤ (belowP X j).length := List.length_filter_le _ _
      have h3 : (belowP X j).length ≤ X.length := List.length_filter_le _ _
      have h4 := HLN.out
      omega)
    have hn16 := HN.out
    by_cases hlt : j < 16
    · have hlt' : (j : Int) < 16 := by omega
      have hx := HX.out j hlt
      have EJ := Lib.hid (show ((j : Int) + 1) = ((j + 1 : Nat) : Int) by omega)
      have hwl := HB.out.size
      cases hfp : findP X j with
      | none =>
        rw [ptrP_none hfp] at hx
        have HO2 := Lib.hid (show wr.ownsRow w.heap.size 47 7 (.slice A n c) n (cellsBy encPe ((belowP X ((j + 1 : Nat) : Int)).filter f)) by rw [← EJ.out, below_no hfp]; exact HO.out)
        clear hfp
        go_wp2_with fail
        go_roundw
        case rel => exact ⟨j + 1, n, c, A, by omega, by go_num, rfl, HO2, HB⟩
        case measure => simp [intOf]; omega
      | some x =>
        rw [ptrP_some hfp] at hx
        have HM := Lib.hid (findP_is hfp).1
        have DR := Lib.hid (HD.out.below HB.out)
        have R0 := Lib.hid (DR.out.found hfp).range7
        have hgl := (DR.out.found hfp).lt
        have HBL := Lib.hid (below_some HD.out.srt.rise hfp)
        have IR := Lib.hid (HI.out _ _ HW.out HB.out)
        clear hfp
        generalize bk (j : Int) = gb at *
        cases hfx : f x
        · have HF1 := Lib.hid (show Calls Try.prog g #[.agg #[.int .i64 x.id, .int .i64 x.prio, .int .i64 x.dr, .int .i64 x.bdr, .int .i64 x.st, .bool x.two, .int .i64 x.tick], .pointer (some ⟨q, 0, none⟩)] wr fun e W' => e = .returned (.bool false) ∧ Below wr.heap.size wr W' by rw [← hfx]; exact HF.out x wr HM.out IR.out)
          have HO2 := Lib.hid (show wr.ownsRow w.heap.size 47 7 (.slice A n c) n (cellsBy encPe ((belowP X ((j + 1 : Nat) : Int)).filter f)) by rw [← EJ.out, HBL.out, List.filter_append]; simpa [hfx] using HO.out)
          clear hfx
          go_wp2_with (first
            | (refine wpList_load_pe (y := x) (by rfl) _ rfl (by rfl) R0.out ?_)
            | fail)
          refine HF1.out.mono ?_
          rintro e1 w1 ⟨rfl, hb1⟩
          go_wp2_with fail
          have B1 := Lib.hid (HB.out.trans (hb1.mono hwl))
          have HO3 := Lib.hid (own_below2 HO2.out hb1)
          clear hb1
          go_roundw
          case rel => exact ⟨j + 1, n, c, A, by omega, by go_num, rfl, HO3, B1⟩
          case measure => simp [intOf]; omega
        · have HF1 := Lib.hid (show Calls Try.prog g #[.agg #[.int .i64 x.id, .int .i64 x.prio, .int .i64 x.dr, .int .i64 x.bdr, .int .i64 x.st, .bool x.two, .int .i64 x.tick], .pointer (some ⟨q, 0, none⟩)] wr fun e W' => e = .returned (.bool true) ∧ Below wr.heap.size wr W' by rw [← hfx]; exact HF.out x wr HM.out IR.out)
          have HLE := Lib.hid (show ((belowP X j).filter f) ++ [x] = (belowP X ((j + 1 : Nat) : Int)).filter f by rw [← EJ.out, HBL.out, List.filter_append]; simp [hfx])
          clear hfx
          go_upto_region 8 with (first
            | (refine wpList_load_pe (y := x) (by rfl) _ rfl (by rfl) R0.out ?_)
            | fail)
          refine HF1.out.mono ?_
          rintro e1 w1 ⟨rfl, hb1⟩
          go_upto_region 8 with fail
          have B1 := Lib.hid (HB.out.trans (hb1.mono hwl))
          have O1 := Lib.hid (own_below2 HO.out hb1)
          have R1 := Lib.hid (show w1.rangeAt gb 0 (encPe x) from fun k v hv => (hb1.cell (p := ⟨gb, 0 + k, none⟩) hgl).trans (R0.out k v hv))
          have hgl1 := Nat.lt_of_lt_of_le hgl hb1.size
          have hwl1 := Nat.le_trans hwl hb1.size
          clear hb1
          go_wp2_with (first
            | (refine wpList_load_pe (y := x) (by rfl) _ rfl (by rfl) R1.out ?_)
            | (at_builtin; refine wpList_app_pe rfl _ _ rfl x (by rfl) (by rfl) O1.out (by omega) hwl1 ?_; intro A2 c2 w2 ho2 hb2))
          rw [HLE.out] at ho2
          have B2 := Lib.hid (B1.out.trans hb2.out)
          go_roundw
          case rel => exact ⟨j + 1, n + 1, c2, A2, by omega, by go_num, rfl, ho2, B2⟩
          case measure => simp [intOf]; omega
    · have hj16 : j = 16 := by omega
      subst hj16
      have HO2 := Lib.hid (show wr.ownsRow w.heap.size 47 7 (.slice A n c) n (cellsBy encPe (X.filter f)) by
        have := HO.out
        rwa [show (((16 : Nat) : Int)) = 16 from rfl, below_all HD.out.srt] at this)
      clear HO
      go_wp2
      show Q (.returned (.slice A n c)) wr
      rw [← HQ.out]
      exact ⟨⟨A, n, c, rfl, HO2.out⟩, HB.out⟩
end Go.Proofs.Ytfapphndfgoknaa
