/- The program's Ask of what is wanted. Conditions: at most 100000 heads. -/
import Derived.Test.YtnnkcgbnhjkahaaAz
import Derived.Test.YtnnkcgbnhjkahaaAh
import Derived.Test.YtnnkcgbnhjkahaaJas
namespace Go.Proofs.Ytnnkcgbnhjkahaa
open Go.RowKit Go.Lib Go.Sort Go.Deep

theorem own_capA {w : World} {base n c size : Nat} {t : TypeId} {A : Option Addr} {xs : List Value} (h : w.ownsRow base t size (.slice A n c) n xs) : n ≤ c ∧ c ≤ maxLen := by
  rcases h.2 with ⟨hv, hn⟩ | ⟨g, cap, cur, hv, hb, hg, h1, h2, h3⟩
  · injection hv with e1 e2 e3
    subst e2 e3
    exact ⟨Nat.le_refl _, Nat.zero_le _⟩
  · cases hv
    exact ⟨h1, h2⟩
theorem infoKy : (Try.prog.info? 47).map (fun i => (i.zero, i.size, i.bytes)) = some (some (.agg #[.int .i64 0, .int .i64 0, .int .i64 0]), 3, 24) := by kernel_rfl
theorem wpList_app_kyW {wb : World} {ops : Array Oper} {rest : List Oper} {o : Oper} {a : Act} {Q : Exit → Act → World → Prop} (hgd : o.guard = none) (s x : Operand) (ho : o.op = .call { callee := .builtin .append, args := #[s, x], argTypes := #[42, 42] })
    {base n c : Nat} {A : Option Addr} {L : List Ky} (y : Ky) (hs : a.eval s = .slice A n c) (hx : a.eval x = .slice (some ⟨wb.heap.size, 0, none⟩) 1 1) (hown : wb.ownsRow base 47 3 (.slice A n c) n (kyCells L)) (hn : n ≤ 1000) (hbase : base ≤ wb.heap.size)
    (h : ∀ A' c' w', Hid (w'.ownsRow base 47 3 (.slice A' (n + 1) c') (n + 1) (kyCells (L ++ [y]))) → Hid (Below base wb w') → wpList Try.prog ops Q rest (a.put o.dst (.slice A' (n + 1) c')) w') : wpList Try.prog ops Q (o :: rest) a (wb.alloc (.cells #[.int .i64 y.kind, .int .i64 y.id, .int .i64 y.adv] 47)) := by
  refine wpList_append_any hgd s x 42 47 (.agg #[.int .i64 0, .int .i64 0, .int .i64 0]) 3 24 Try.underlying42 infoKy rfl (by decide) (by decide) ho base (.slice A n c) n (kyCells L) hs (hown.alloc _) (some ⟨wb.heap.size, 0, none⟩) 1 1 [.int .i64 y.kind, .int .i64 y.id, .int .i64 y.adv] hx rfl (fun h => by cases h) (news_new wb 47 [.int .i64 y.kind, .int .i64 y.id, .int .i64 y.adv]) (fun u hu => kyCells_ones [y] u (by simpa [kyCells] using hu)) (by omega) (by simp; omega) ?_
  intro v2 w2 ho2 hg2
  obtain ⟨A2, c2, rfl⟩ := own_slice ho2.out
  refine h A2 c2 w2 (Lib.hid ?_) (Lib.hid ?_)
  · rw [kyCells_append, show kyCells [y] = [.int .i64 y.kind, .int .i64 y.id, .int .i64 y.adv] by simp [kyCells]]
    exact ho2.out
  · exact ((Below.refl base wb).alloc hbase _).trans (own_keeps7 (hown.alloc _) hg2.out (by simp; omega))

/-- What Ask answers. -/
def AskW (S : List Hd) (w : World) (e : Ending) (w' : World) : Prop := ∃ (A : Option Addr) (m c : Nat), e = .returned (.slice A m c) ∧ Below w.heap.size w w' ∧ w'.ownsRow w.heap.size 47 3 (.slice A m c) m (kyCells ((S.take 3).map keyH))
set_option maxHeartbeats 2000000 in
theorem ask_wnil (w : World) : Calls Try.prog 18 #[.pointer none] w fun e w' => e = .returned (.slice none 0 0) ∧ w = w' := by
  go_enter Try.func18, Try.ntmps18
  go_wp2_with fail
  refine (all_wnil _).mono ?_
  rintro e1 w1 ⟨rfl, rfl⟩
  go_wp2
  refine wp_loop_rounds 1 ?_
  rw [rounds_succ]
  go_wp2
  go_ret
  exact ⟨rfl, rfl⟩
set_option maxRecDepth 20000 in
set_option maxHeartbeats 8000000 in
theorem ask_w {w : World} {p b : Nat} {S : List Hd} (h : PwIs w p b S) (hl : S.length ≤ 100000) : Calls Try.prog 18 #[.pointer (some ⟨p, 0, none⟩)] w (AskW S w) := by
  generalize hQ : AskW S w = Q
  have HQ := Lib.hid hQ
  have HALL := Lib.hid (all_w h hl)
  clear hQ h
  go_enter Try.func18, Try.ntmps18
  go_wp2_with fail
  refine HALL.out.mono ?_
  rintro e1 w1 ⟨A, n, c, rfl, hb1, ho1⟩
  have HSN := Lib.hid (own_lenH encHd_len (by omega) ho1)
  obtain ⟨hnc, hcm⟩ := own_capA ho1
  unfold maxLen at hcm
  have hn5 : n ≤ 100000 := by have := HSN.out; omega
  have B1 := Lib.hid hb1
  have O1 := Lib.hid ho1
  have BL := Lib.hid (Below.refl w1.heap.size w1)
  have K1 := Lib.hid (World.ownsRow_nil w1 w1.heap.size 47 3)
  clear hb1 ho1 HALL hl
  obtain ⟨m, hmin, hmn, hm3, hmd⟩ : ∃ m : Nat, min (n : Int) 3 = (m : Int) ∧ m ≤ n ∧ m ≤ 3 ∧ (m = 3 ∨ m = n) := by
    rcases Nat.lt_or_ge n 3 with h3 | h3
    · exact ⟨n, by omega, by omega, by omega, .inr rfl⟩
    · exact ⟨3, by omega, by omega, by omega, .inl rfl⟩
  have HMD := Lib.hid hmd
  clear hmd
  have mc : (m : Int) ≤ (c : Int) := by omega
  have m0 : (0 : Int) ≤ (m : Int) := by omega
  go_wp2_with fail
  clear hmin
  go_loopw [4, 15] (fun s4 s15 wr => ∃ (k c' : Nat) (A' : Option Addr), s15 = .int .i64 k ∧ s4 = .slice A' k c' ∧ k ≤ m ∧ Hid (wr.ownsRow w1.heap.size 47 3 (.slice A' k c') k (kyCells ((S.take k).map keyH))) ∧ Hid (Below w1.heap.size w1 wr)) (fun _ s15 _ => m - (intOf s15).toNat)
  case atStart => exact ⟨0, 0, none, rfl, rfl, Nat.zero_le _, Lib.hid (by simpa [kyCells] using K1.out), BL⟩
  case round =>
    clear K1 BL
    obtain ⟨k, c', A', rfl, rfl, hk, KW, BW⟩ := hrel
    have OW := Lib.hid (own_below2 O1.out BW.out)
    have hzr := BW.out.size
    by_cases hlt : k < m
    · have hlt' : (k : Int) < (m : Int) := by omega
      obtain ⟨x, hx⟩ : ∃ x, S[k]? = some x := ⟨_, List.getElem?_eq_getElem (by have := HSN.out; omega)⟩
      obtain ⟨q, rfl, -, hql, -, -, -, hr⟩ := item_range7 OW.out hx
      have HR := Lib.hid hr
      have HTK := Lib.hid (show (S.take (k + 1)).map keyH = (S.take k).map keyH ++ [keyH x] by rw [take_snocA S k x hx, List.map_append]; rfl)
      have BX := Lib.hid ((Below.refl wr.heap.size wr).alloc (Nat.le_refl _) (.cells #[.int .i64 x.age, .int .i64 x.kind, .int .i64 x.id, .int .i64 x.adv, .int .i64 x.seq, .int .i64 x.sum, .int .i64 x.long] 38))
      have RX := Lib.hid (blk_range7 (Blk.new wr 38 #[.int .i64 x.age, .int .i64 x.kind, .int .i64 x.id, .int .i64 x.adv, .int .i64 x.seq, .int .i64 x.sum, .int .i64 x.long]))
      clear hx hr
      go_wp2_with (first | refine wpList_load_row 38 _ _ (by rfl) (.tmp 17) rfl (by rfl) HR.out Try.underlying38 rfl (by kernel_rfl) ?_ | refine wpList_load_row 38 _ _ (by rfl) (.tmp 6) rfl (by rfl) RX.out Try.underlying38 rfl (by kernel_rfl) ?_)
      refine (keyOf_any x _).mono ?_
      rintro e3 w3 ⟨rfl, hb3⟩
      have B3 := Lib.hid (BX.out.trans (hb3.mono BX.out.size))
      have K3 := Lib.hid (own_chg KW.out (Chg.of_below (F := fun _ => False) B3.out) (fun _ _ hf => hf))
      have hz3 : w1.heap.size ≤ w3.heap.size := Nat.le_trans hzr B3.out.size
      have BW3 := Lib.hid (BW.out.trans (B3.out.mono hzr))
      clear hb3 BX RX HR KW OW BW B3
      go_wp2_with (at_builtin; refine wpList_app_kyW rfl (.tmp 19) (.tmp 22) rfl (keyH x) (by rfl) (by rfl) K3.out (by omega) hz3 ?_; intro A5 c5 w5 HO5 HB5)
      have K5 := Lib.hid (show w5.ownsRow w1.heap.size 47 3 (.slice A5 (k + 1) c5) (k + 1) (kyCells ((S.take (k + 1)).map keyH)) by rw [HTK.out]; exact HO5.out)
      have B5 := Lib.hid (BW3.out.trans HB5.out)
      clear HO5 HB5 K3 BW3
      go_roundw
      case rel => exact ⟨k + 1, c5, A5, by go_num, by first | rfl | go_num, by omega, K5, B5⟩
      case measure => simp [intOf]; omega
    · have hkm : k = m := by omega
      subst hkm
      go_wp2
      show Q (.returned (.slice A' k c')) wr
      rw [← HQ.out]
      have hz1 := B1.out.size
      refine ⟨A', k, c', rfl, B1.out.trans (BW.out.mono hz1), ?_⟩
      have h1 := own_low KW.out hz1
      have e : S.take 3 = S.take k := by
        rcases HMD.out with e | e
        · rw [e]
        · rw [List.take_of_length_le (by have := HSN.out; omega), List.take_of_length_le (by have := HSN.out; omega)]
      rw [e]
      exact h1
end Go.Proofs.Ytnnkcgbnhjkahaa
