/- The reference's pieces: heads by threes. Conditions: at most 100 heads. · lay of the reference. Conditions: at most 100 heads. · An exchange of the reference in memory: New, say. Conditions: what the words say. · say of the reference. Conditions: what the words say. · Hear of the reference. Conditions: a number of 64 bits; at most 100 descriptions, on blocks below those of the exchange; it is at one of the first 900 pieces. · Hear of the reference, not agreed on. Conditions: as for Hear of the reference. -/
import Derived.BigQuiet
import Derived.Test.YtfdfdmbnggpnbaaVar
import Derived.Test.YtfdfdmbnggpnbaaVas
namespace Go.Proofs.Ytfdfdmbnggpnbaa
open Go.RowKit Go.Lib Go.Sort Go.Deep

theorem wpList_append_at {w : World} {ops : Array Oper} {rest : List Oper} {o : Oper} {a : Act} {Q : Exit → Act → World → Prop} (hgd : o.guard = none) (s x : Operand) (t e : TypeId) (z : Value) (size bytes : Nat)
    (ht : Try.prog.underlying t = some (.slice e)) (hinfo : (Try.prog.info? e).map (fun i => (i.zero, i.size, i.bytes)) = some (some z, size, bytes)) (hzs : z.cells.size = size) (hsz : 0 < size) (hby : bytes ≤ 1024)
    (ho : o.op = .call { callee := .builtin .append, args := #[s, x], argTypes := #[t, t] }) (base : Nat) (v : Value) (n : Nat) (xs : List Value) (hs : a.eval s = v) (hown : w.ownsRow base e size v n xs)
    (A : Option Addr) (m c : Nat) (news : List Value) (hx : a.eval x = .slice A m c) (hl : news.length = m * size) (hA : A = none → m = 0)
    (hnews : ∀ ad, A = some ad → ∀ j u, news[j]? = some u → w.cell? (ad.add j) = some u) (h1 : ∀ u ∈ news, u.oneCell' = true) (hz : n + m ≤ 1048576) (hbase : base ≤ w.heap.size)
    (h : ∀ v' w', Hid (w'.ownsRow base e size v' (n + m) (xs ++ news)) → Hid (w.grownBy w' v.ownBlock) → Hid (v'.ownBlock = v.ownBlock ∨ v'.ownBlock = some w.heap.size) → wpList Try.prog ops Q rest (a.put o.dst v') w') : wpList Try.prog ops Q (o :: rest) a w := by
  refine wpList_plain hgd fun K hK => ?_
  obtain ⟨v', w', hrun, h2, h3, h4⟩ := run_append_at w t e o.type z size bytes ht hinfo hzs hsz hby base v n xs hown A m c news hl hA hnews h1 hz hbase
  unfold Oper.wp execOp
  simp only [ho, resolve, invoke, builtin, Sem.run_bind, Sem.run_pure, Result.andThen_ok, List.map_toArray, List.map_cons, List.map_nil, hs, hx, hrun]
  exact hK _ _ (h v' w' h2 h3 h4)
/-- Heads on a block of F. -/
def HdsOn (w : World) (F : Nat → Prop) (A : Option Addr) (n : Nat) (L : List Hd) : Prop :=
  L.length = n ∧ (0 < n → ∃ b o, A = some ⟨b, o, none⟩ ∧ F b ∧ b < w.heap.size ∧ ∀ j h, L[j]? = some h → HdAt w 0 b (o + j * 7) h)
theorem HdsOn.move {w w' : World} {F F' : Nat → Prop} {A : Option Addr} {n : Nat} {L : List Hd} (h : HdsOn w F A n L) (hk : ∀ q, F q → q < w.heap.size → w'.heap[q]? = w.heap[q]?) (hz : w.heap.size ≤ w'.heap.size) (hF : ∀ q, F q → q < w.heap.size → F' q) : HdsOn w' F' A n L :=
  ⟨h.1, fun hn => by
    obtain ⟨b, o, e, hb, hl, hc⟩ := h.2 hn
    exact ⟨b, o, e, hF b hb hl, by omega, fun j x hx => HdAt.onto (fun o' => World.cell?_of_block (a := ⟨b, o', none⟩) (hk b hb hl)) (hc j x hx)⟩⟩
theorem HdsOn.hds {w : World} {F : Nat → Prop} {A : Option Addr} {n : Nat} {L : List Hd} (h : HdsOn w F A n L) : Hds w w.heap.size A n L :=
  ⟨h.1, fun hn => by
    obtain ⟨b, o, e, hb, hl, hc⟩ := h.2 hn
    exact ⟨b, o, e, hl, fun j x hx => HdAt.onto (fun _ => rfl) (hc j x hx)⟩⟩
theorem HdsOn.nil {w : World} {F : Nat → Prop} : HdsOn w F none 0 [] := ⟨rfl, fun h => absurd h (by omega)⟩
theorem hdsOn_own {w : World} {base n c : Nat} {A : Option Addr} {L : List Hd} (h : w.ownsRow base 43 7 (.slice A n c) n (cellsBy encHd L)) : HdsOn w (fun q => base ≤ q ∧ q < w.heap.size) A n L := by
  have hl := own_lenH encHd_len (by omega) h
  refine ⟨hl, fun hn => ?_⟩
  obtain ⟨x, hx⟩ : ∃ x, L[0]? = some x := ⟨_, List.getElem?_eq_getElem (by omega)⟩
  obtain ⟨g, rfl, hg, hgl, -⟩ := own_item encHd_len (by omega) h hx
  refine ⟨g, 0, rfl, ⟨hg, hgl⟩, hgl, fun j y hy => ?_⟩
  rw [Nat.zero_add]
  exact HdAt.of_range (item_range h hy)
/-- The pieces of K, on blocks of F: slices of heads, as many as there are. -/
def PcsOn (w : World) (F : Nat → Prop) (K : List Hd) (vs : List Value) : Prop := ∀ i v, vs[i]? = some v → ∃ A n c, v = .slice A n c ∧ n ≤ 3 ∧ HdsOn w F A n ((leftAt K i).take 3)
theorem PcsOn.move {w w' : World} {F F' : Nat → Prop} {K : List Hd} {vs : List Value} (h : PcsOn w F K vs) (hk : ∀ q, F q → q < w.heap.size → w'.heap[q]? = w.heap[q]?) (hz : w.heap.size ≤ w'.heap.size) (hF : ∀ q, F q → q < w.heap.size → F' q) : PcsOn w' F' K vs := fun i v hv => by
  obtain ⟨A, n, c, e, hn, hd⟩ := h i v hv
  exact ⟨A, n, c, e, hn, hd.move hk hz hF⟩
theorem infoHs : (Try.prog.info? 27).map (fun i => (i.zero, i.size, i.bytes)) = some (some (.slice none 0 0), 1, 24) := by kernel_rfl
/-- What lay leaves. -/
def LayQ (K : List Hd) (w : World) (e : Ending) (w' : World) : Prop :=
  ∃ (A : Option Addr) (k c : Nat) (vs : List Value), e = .returned (.slice A k c) ∧ Below w.heap.size w w' ∧ w'.ownsRow w.heap.size 27 1 (.slice A k c) k vs ∧ (∀ i, i < k ↔ (i = 0 ∨ 3 * i < K.length)) ∧
    PcsOn w' (fun q => w.heap.size ≤ q ∧ (Value.slice A k c).ownBlock ≠ some q) K vs
/-- A row of slices that grows: the pieces ahead of it. -/
structure LayR (K : List Hd) (B : Nat) (w : World) (A : Option Addr) (k c : Nat) : Prop where
  low : B ≤ w.heap.size
  row : ∃ vs, w.ownsRow B 27 1 (.slice A k c) k vs ∧ PcsOn w (fun q => B ≤ q ∧ (Value.slice A k c).ownBlock ≠ some q) K vs
theorem LayR.below {K : List Hd} {B k c : Nat} {w w' : World} {A : Option Addr} (h : LayR K B w A k c) (hb : Below w.heap.size w w') : LayR K B w' A k c := by
  obtain ⟨vs, ho, hp⟩ := h.row
  exact ⟨Nat.le_trans h.low hb.size, vs, own_chg ho (Chg.of_below (F := fun _ => False) hb) (fun _ _ hf => hf), hp.move (fun q _ hl => hb.block q hl) hb.size (fun q hq _ => hq)⟩
/-- One piece more. -/
theorem LayR.more {K : List Hd} {B k c : Nat} {w w1 w' : World} {A A' Ap : Option Addr} {c' m cp : Nat} (vs : List Value) (ho : w.ownsRow B 27 1 (.slice A k c) k vs) (hp : PcsOn w (fun q => B ≤ q ∧ (Value.slice A k c).ownBlock ≠ some q) K vs) (hlow : B ≤ w.heap.size)
    (hb : Below w.heap.size w w1) (hn : HdsOn w1 (fun q => w.heap.size ≤ q ∧ q < w1.heap.size) Ap m ((leftAt K k).take 3)) (hm : m ≤ 3) (ho' : w'.ownsRow B 27 1 (.slice A' (k + 1) c') (k + 1) (vs ++ [.slice Ap m cp])) (hg : w1.grownBy w' (Value.slice A k c).ownBlock)
    (hw : (Value.slice A' (k + 1) c').ownBlock = (Value.slice A k c).ownBlock ∨ (Value.slice A' (k + 1) c').ownBlock = some w1.heap.size) : LayR K B w' A' (k + 1) c' := by
  have hown : ∀ q, (Value.slice A k c).ownBlock = some q → q < w.heap.size := fun q hq => by
    rcases ho.2 with ⟨e1, e2⟩ | ⟨g, cap, cur, e1, e2, e3, e4⟩
    · rw [e1] at hq
      cases hq
    · rw [e1] at hq
      injection hq with hq
      have hq : g = q := hq
      rw [← hq]
      exact (Array.getElem?_eq_some_iff.1 e3).1
  have hb1 := hb.size
  have hg1 := hg.size
  have hl : vs.length = k := by have := ho.1; omega
  refine ⟨by omega, vs ++ [.slice Ap m cp], ho', fun i v hv => ?_⟩
  by_cases hi : i < k
  · rw [List.getElem?_append_left (by omega)] at hv
    obtain ⟨A1, n1, c1, e, hn1, hd⟩ := hp i v hv
    refine ⟨A1, n1, c1, e, hn1, hd.move (fun q hq hlt => ?_) (by omega) (fun q hq hlt => ⟨hq.1, fun e => ?_⟩)⟩
    · rw [hg.block q (by omega) (Ne.symm hq.2), hb.block q hlt]
    · rcases hw with h | h
      · rw [h] at e
        exact hq.2 e
      · rw [h] at e
        injection e with e
        omega
  · rw [List.getElem?_append_right (by omega), hl] at hv
    have hi0 : i - k = 0 := by
      rcases Nat.lt_or_ge (i - k) 1 with h | h
      · omega
      · rw [List.getElem?_eq_none (by simpa using h)] at hv
        cases hv
    have hik : i = k := by omega
    subst hik
    rw [hi0] at hv
    injection hv with hv
    subst hv
    refine ⟨Ap, m, cp, rfl, hm, hn.move (fun q hq hlt => ?_) hg1 (fun q hq hlt => ⟨by omega, fun e => ?_⟩)⟩
    · exact hg.block q hlt (fun e => by have := hown q e.symm; omega)
    · rcases hw with h | h
      · rw [h] at e
        have := hown q e
        omega
      · rw [h] at e
        injection e with e
        omega
end Go.Proofs.Ytfdfdmbnggpnbaa
namespace Go.Proofs.Ytfdfdmbnggpnbaa
open Go.RowKit Go.Lib Go.Sort Go.Deep

theorem take_more (K : List Hd) (k m : Nat) (x : Hd) (hx : K[3 * k + m]? = some x) : (leftAt K k).take (m + 1) = (leftAt K k).take m ++ [x] := by
  unfold leftAt
  exact take_snocA (K.drop (3 * k)) m x (by rw [List.getElem?_drop]; exact hx)
set_option maxRecDepth 8000 in
set_option maxHeartbeats 8000000 in
theorem lay_any {w : World} {A : Option Addr} {n c B : Nat} {K : List Hd} (hK : Hds w B A n K) (hB : B ≤ w.heap.size) (hn : n ≤ 100) : Calls Try.prog 65 #[.slice A n c] w (LayQ K w) := by
  generalize hQ : LayQ K w = Q
  have HQ := Lib.hid hQ
  have HK := Lib.hid hK
  have HBW := Lib.hid hB
  have HL := Lib.hid hK.1
  have R0 := Lib.hid (⟨Nat.le_refl _, [], World.ownsRow_nil w w.heap.size 27 1, fun i v hv => by cases hv⟩ : LayR K w.heap.size w none 0 0)
  have B0 := Lib.hid (Below.refl w.heap.size w)
  clear hQ hK hB
  go_enter Try.func65, Try.ntmps65
  go_wp2_with fail
  go_loopw [3, 4] (fun s3 s4 wr => ∃ (k i c' : Nat) (A' : Option Addr), s3 = .slice A' k c' ∧ s4 = .int .i64 i ∧ Hid (i = 3 * k) ∧ Hid (k = 0 ∨ 3 * (k - 1) < n) ∧ Hid (LayR K w.heap.size wr A' k c') ∧ Hid (Below w.heap.size w wr)) (fun _ s4 _ => 400 - (intOf s4).toNat)
  case atStart => exact ⟨0, 0, 0, none, rfl, rfl, Lib.hid rfl, Lib.hid (.inl rfl), R0, B0⟩
  case round =>
    clear R0 B0
    obtain ⟨k, i, c', A', rfl, rfl, HI, HKN, RR, BR⟩ := hrel
    obtain ⟨wo, hwo⟩ : ∃ wo, wo = wr := ⟨_, rfl⟩
    subst hwo
    by_cases hlt : i < n
    · have hlt' : (i : Int) < (n : Int) := by omega
      have O0 := Lib.hid (World.ownsRow_nil wo wo.heap.size 43 7)
      have BI := Lib.hid (Below.refl wo.heap.size wo)
      go_wp2_with fail
      go_loopw [5, 6] (fun s5 s6 wi => ∃ (m j cp : Nat) (Ap : Option Addr), s5 = .slice Ap m cp ∧ s6 = .int .i64 j ∧ m ≤ 3 ∧ j ≤ n ∧ Hid (j = i + m) ∧ Hid (wi.ownsRow wo.heap.size 43 7 (.slice Ap m cp) m (cellsBy encHd ((leftAt K k).take m))) ∧ Hid (Below wo.heap.size wo wi)) (fun _ s6 _ => 400 - (intOf s6).toNat)
      case atStart => exact ⟨0, i, 0, none, rfl, rfl, by omega, by omega, Lib.hid rfl, Lib.hid (by simpa [cellsBy] using O0.out), BI⟩
      case round =>
        clear O0 BI
        obtain ⟨m, j, cp, Ap, rfl, rfl, hm3, hjn, HJ, OP, BP⟩ := hrel
        have hz := BP.out.size
        have hj3 : j < i + 3 ↔ m < 3 := by
          have := HJ.out
          omega
        by_cases hgo : j < i + 3 ∧ j < n
        · obtain ⟨h1, h2⟩ := hgo
          have g1 : (j : Int) < (i : Int) + 3 := by omega
          have g2 : (j : Int) < (n : Int) := by omega
          obtain ⟨b, o, x, rfl, hb, hx, hr⟩ := hds_item ((HK.out.below (BR.out.mono HBW.out)).below (BP.out.mono (Nat.le_trans HBW.out BR.out.size))) h2
          have HR := Lib.hid hr
          have HT := Lib.hid (take_more K k m x (by rw [show 3 * k + m = j by have := HJ.out; have := HI.out; omega]; exact hx))
          clear hr hx
          go_wp2_with (first | refine wpList_load_row 43 _ _ (by rfl) (.tmp 29) rfl (by rfl) HR.out Try.underlying43 rfl (by kernel_rfl) ?_ | (at_builtin; refine wpList_app_hd rfl (.tmp 26) (.tmp 31) rfl x (by rfl) (by rfl) OP.out (by omega) hz ?_; intro A3 c3 w3 HO3 HB3))
          have O3 := Lib.hid (show w3.ownsRow wo.heap.size 43 7 (.slice A3 (m + 1) c3) (m + 1) (cellsBy encHd ((leftAt K k).take (m + 1))) by rw [HT.out]; exact HO3.out)
          have B3 := Lib.hid (BP.out.trans HB3.out)
          have HJ3 := Lib.hid (show j + 1 = i + (m + 1) by have := HJ.out; omega)
          clear HO3 HB3 OP BP HR HT
          go_roundw
          case rel => exact ⟨m + 1, j + 1, c3, A3, by first | rfl | go_num, by go_num, by omega, by omega, HJ3, O3, B3⟩
          case measure => simp [intOf]; omega
        · have hd : (leftAt K k).take m = (leftAt K k).take 3 := by
            rw [List.take_eq_take_iff]
            have := HL.out
            have := HJ.out
            have := HI.out
            unfold leftAt
            rw [List.length_drop]
            omega
          rw [hd] at OP
          have HN := Lib.hid (hdsOn_own OP.out)
          obtain ⟨vs, hvo, hvp⟩ := RR.out.row
          have HV := Lib.hid hvo
          have HP := Lib.hid hvp
          have HLo := Lib.hid RR.out.low
          have BA := BP.out.alloc hz (.cells #[.slice Ap m cp] 27)
          have HB1 := Lib.hid BA
          have HN1 := Lib.hid (show HdsOn (wr.alloc (.cells #[.slice Ap m cp] 27)) (fun q => wo.heap.size ≤ q ∧ q < (wr.alloc (.cells #[.slice Ap m cp] 27)).heap.size) Ap m ((leftAt K k).take 3) from HN.out.move (fun q _ hl => Below.heap_alloc wr _ q hl) (by simp) (fun q hq hl => ⟨hq.1, by simp; omega⟩))
          have HV1 := Lib.hid (own_chg hvo (Chg.of_below (F := fun _ => False) BA) (fun _ _ hf => hf))
          have NW := Lib.hid (show (some (⟨wr.heap.size, 0, none⟩ : Addr) = none → 1 = 0) ∧ ∀ ad, some (⟨wr.heap.size, 0, none⟩ : Addr) = some ad → ∀ j u, [Value.slice Ap m cp][j]? = some u → (wr.alloc (.cells #[.slice Ap m cp] 27)).cell? (ad.add j) = some u from ⟨fun h => (nomatch h), fun ad h => by
            injection h with h
            subst h
            exact World.news_of_block (Blk.new wr 27 #[.slice Ap m cp])⟩)
          have hbs := BR.out.size
          have hsz : w.heap.size ≤ (wr.alloc (.cells #[.slice Ap m cp] 27)).heap.size := by simp; omega
          have hk100 : k ≤ 100 := by have := HI.out; omega
          have HI3 := Lib.hid (show i + 3 = 3 * (k + 1) by have := HI.out; omega)
          have HKN3 := Lib.hid (show k + 1 = 0 ∨ 3 * (k + 1 - 1) < n by have := HI.out; omega)
          clear hd BA hvo hvp OP HN
          by_cases hm : j < i + 3
          · have g1 : (j : Int) < (i : Int) + 3 := by omega
            have g2 : ¬ (j : Int) < (n : Int) := by omega
            have d2 : decide ((j : Int) < (n : Int)) = false := decide_eq_false g2
            go_wp2_with (at_builtin; refine wpList_append_at rfl (.tmp 33) (.tmp 35) 109 27 (.slice none 0 0) 1 24 Try.underlying109 infoHs rfl (by decide) (by decide) rfl w.heap.size (.slice A' k c') k vs (by rfl) HV1.out (some ⟨wr.heap.size, 0, none⟩) 1 1 [.slice Ap m cp] (by rfl) rfl NW.out.1 NW.out.2 (by simp [Value.oneCell']) (by omega) hsz ?_; intro v6 w6 ho6 hg6 hw6)
            obtain ⟨A6, c6, rfl⟩ := own_slice ho6.out
            have R6 := Lib.hid (LayR.more vs HV.out HP.out HLo.out HB1.out HN1.out hm3 ho6.out hg6.out hw6.out)
            have B6 := Lib.hid ((BR.out.trans (HB1.out.mono hbs)).trans (own_keeps7 HV1.out hg6.out hsz))
            go_roundw
            case rel => exact ⟨k + 1, i + 3, c6, A6, rfl, by go_num, HI3, HKN3, R6, B6⟩
            case measure => simp [intOf]; omega
          · have g1 : ¬ (j : Int) < (i : Int) + 3 := by omega
            have d2 : decide ((j : Int) < (i : Int) + 3) = false := decide_eq_false g1
            go_wp2_with (at_builtin; refine wpList_append_at rfl (.tmp 33) (.tmp 35) 109 27 (.slice none 0 0) 1 24 Try.underlying109 infoHs rfl (by decide) (by decide) rfl w.heap.size (.slice A' k c') k vs (by rfl) HV1.out (some ⟨wr.heap.size, 0, none⟩) 1 1 [.slice Ap m cp] (by rfl) rfl NW.out.1 NW.out.2 (by simp [Value.oneCell']) (by omega) hsz ?_; intro v6 w6 ho6 hg6 hw6)
            obtain ⟨A6, c6, rfl⟩ := own_slice ho6.out
            have R6 := Lib.hid (LayR.more vs HV.out HP.out HLo.out HB1.out HN1.out hm3 ho6.out hg6.out hw6.out)
            have B6 := Lib.hid ((BR.out.trans (HB1.out.mono hbs)).trans (own_keeps7 HV1.out hg6.out hsz))
            go_roundw
            case rel => exact ⟨k + 1, i + 3, c6, A6, rfl, by go_num, HI3, HKN3, R6, B6⟩
            case measure => simp [intOf]; omega
    · have hlt' : ¬ (i : Int) < (n : Int) := by omega
      have hz := BR.out.size
      obtain ⟨vs, hvo, hvp⟩ := RR.out.row
      have HV := Lib.hid hvo
      have HP := Lib.hid hvp
      clear hvo hvp
      rcases Nat.eq_zero_or_pos k with h0 | h0
      · subst h0
        have hn0 : n = 0 := by have := HI.out; omega
        have HE := Lib.hid (List.eq_nil_of_length_eq_zero (HL.out.trans hn0))
        have hi0 : (i : Int) = 0 := by have := HI.out; omega
        have BA := (Below.refl wo.heap.size wo).alloc (Nat.le_refl _) (.cells #[.slice none 0 0] 27)
        have HB1 := Lib.hid BA
        have HV1 := Lib.hid (own_chg HV.out (Chg.of_below (F := fun _ => False) BA) (fun _ _ hf => hf))
        have NW := Lib.hid (show (some (⟨wo.heap.size, 0, none⟩ : Addr) = none → 1 = 0) ∧ ∀ ad, some (⟨wo.heap.size, 0, none⟩ : Addr) = some ad → ∀ j u, [Value.slice none 0 0][j]? = some u → (wo.alloc (.cells #[.slice none 0 0] 27)).cell? (ad.add j) = some u from ⟨fun h => (nomatch h), fun ad h => by
          injection h with h
          subst h
          exact World.news_of_block (Blk.new wo 27 #[.slice none 0 0])⟩)
        have hsz : w.heap.size ≤ (wo.alloc (.cells #[.slice none 0 0] 27)).heap.size := by simp; omega
        have HLo := Lib.hid RR.out.low
        have HN1 := Lib.hid (show HdsOn (wo.alloc (.cells #[.slice none 0 0] 27)) (fun q => wo.heap.size ≤ q ∧ q < (wo.alloc (.cells #[.slice none 0 0] 27)).heap.size) none 0 ((leftAt K 0).take 3) by
          rw [HE.out]
          exact HdsOn.nil)
        clear BA
        go_wp2_with (at_builtin; refine wpList_append_at rfl (.tmp 40) (.tmp 41) 109 27 (.slice none 0 0) 1 24 Try.underlying109 infoHs rfl (by decide) (by decide) rfl w.heap.size (.slice A' 0 c') 0 vs (by rfl) HV1.out (some ⟨wo.heap.size, 0, none⟩) 1 1 [.slice none 0 0] (by rfl) rfl NW.out.1 NW.out.2 (by simp [Value.oneCell']) (by omega) hsz ?_; intro v6 w6 ho6 hg6 hw6; obtain ⟨A6, c6, rfl⟩ := own_slice ho6.out)
        have R6 := Lib.hid (LayR.more vs HV.out HP.out HLo.out HB1.out HN1.out (by omega) ho6.out hg6.out hw6.out)
        have B6 := Lib.hid ((BR.out.trans (HB1.out.mono hz)).trans (own_keeps7 HV1.out hg6.out hsz))
        show Q (.returned (.slice A6 1 c6)) _
        rw [← HQ.out]
        obtain ⟨vs6, h1, h2⟩ := R6.out.row
        refine ⟨A6, 1, c6, vs6, rfl, B6.out, h1, fun i' => ?_, h2⟩
        rw [HE.out]
        simp
      · have hk0 : ((k : Int) == 0) = false := by simp; omega
        go_wp2
        show Q (.returned (.slice A' k c')) _
        rw [← HQ.out]
        refine ⟨A', k, c', vs, rfl, BR.out, HV.out, fun i' => ?_, HP.out⟩
        have h1 := HI.out
        have h2 := HKN.out
        have h3 := HL.out
        omega
end Go.Proofs.Ytfdfdmbnggpnbaa
namespace Go.Proofs.Ytfdfdmbnggpnbaa
open Go.RowKit Go.Lib Go.Sort Go.Deep

def rexC (x : Ex) (at' : Nat) (AL : Option Addr) (nL cL : Nat) (AS : Option Addr) (nS cS : Nat) (AP : Option Addr) (nP cP : Nat) : Array Value := #[.int .i64 x.self, .int .i64 x.other, .int .i64 x.seq, .bool x.agreed, .bool x.leads, .bool x.done, .bool x.took.init, .bool x.took.more, .bool x.took.master, .int .i64 x.took.seq, .slice AL nL cL, .bool x.said.init, .bool x.said.more, .bool x.said.master, .int .i64 x.said.seq, .slice AS nS cS, .slice AP nP cP, .int .i64 at']
/-- The pieces of an exchange, laid out, on blocks of F; it is at piece at'. -/
def LaidAt (w : World) (F : Nat → Prop) (AP : Option Addr) (nP cP at' : Nat) (K : List Hd) : Prop :=
  ∃ (K0 : List Hd) (vs : List Value), w.ownsRow 0 27 1 (.slice AP nP cP) nP vs ∧ (∀ g, (Value.slice AP nP cP).ownBlock = some g → F g) ∧ (∀ i, i < nP ↔ (i = 0 ∨ 3 * i < K0.length)) ∧ PcsOn w F K0 vs ∧ K = leftAt K0 at' ∧ K0.length ≤ 1000
/-- An exchange of the reference in memory: its block p, all else on other blocks of F. -/
structure RexAt (w : World) (F : Nat → Prop) (p : Nat) (x : Ex) (at' : Nat) : Prop where
  ok : ExOk x
  fp : F p
  bound : ∀ q, F q → q < w.heap.size
  new : x.agreed = false → at' = 0
  mem : ∃ (AL : Option Addr) (nL cL : Nat) (AS : Option Addr) (nS cS : Nat) (AP : Option Addr) (nP cP : Nat), Blk w p 111 (rexC x at' AL nL cL AS nS cS AP nP cP) ∧ HdsOn w (fun q => F q ∧ q ≠ p) AS nS (x.K.take 3) ∧ (x.agreed = true → LaidAt w (fun q => F q ∧ q ≠ p) AP nP cP at' x.K)
section
variable {w w' : World} {F F' : Nat → Prop} {p at' : Nat} {x : Ex} {AP : Option Addr} {nP cP : Nat} {K : List Hd}
theorem LaidAt.move (h : LaidAt w F AP nP cP at' K) (hk : ∀ q, F q → q < w.heap.size → w'.heap[q]? = w.heap[q]?) (hz : w.heap.size ≤ w'.heap.size) (hF : ∀ q, F q → q < w.heap.size → F' q) : LaidAt w' F' AP nP cP at' K := by
  obtain ⟨K0, vs, h1, h2, h3, h4, h5, h6⟩ := h
  have hlt : ∀ g, (Value.slice AP nP cP).ownBlock = some g → g < w.heap.size := fun g hg => by
    rcases h1.2 with ⟨e1, e2⟩ | ⟨g', cap, cur, e1, e2, e3, e4⟩
    · rw [e1] at hg
      cases hg
    · rw [e1] at hg
      injection hg with hg
      have hg : g' = g := hg
      rw [← hg]
      exact (Array.getElem?_eq_some_iff.1 e3).1
  exact ⟨K0, vs, own_move h1 (fun g hg => hk g (h2 g hg) (hlt g hg)), fun g hg => hF g (h2 g hg) (hlt g hg), h3, h4.move hk hz hF, h5, h6⟩
theorem RexAt.move (h : RexAt w F p x at') (hk : ∀ q, F q → q < w.heap.size → w'.heap[q]? = w.heap[q]?) (hz : w.heap.size ≤ w'.heap.size) : RexAt w' F p x at' := by
  obtain ⟨AL, nL, cL, AS, nS, cS, AP, nP, cP, hb, hh, hl⟩ := h.mem
  exact ⟨h.ok, h.fp, fun q hq => Nat.lt_of_lt_of_le (h.bound q hq) hz, h.new, AL, nL, cL, AS, nS, cS, AP, nP, cP, (hk p h.fp hb.lt).trans hb, hh.move (fun q hq hl => hk q hq.1 hl) hz (fun q hq _ => hq), fun ha => (hl ha).move (fun q hq hl => hk q hq.1 hl) hz (fun q hq _ => hq)⟩
theorem RexAt.chg (h : RexAt w F p x at') (hc : Chg F' w w') (hF : ∀ q, F q → ¬ F' q) : RexAt w' F p x at' := h.move (fun q hq hl => hc.block q hl (hF q hq)) hc.size
theorem RexAt.below (h : RexAt w F p x at') (hb : Below w.heap.size w w') : RexAt w' F p x at' := h.move (fun q _ hl => hb.block q hl) hb.size
end
theorem top_any (w : World) : Calls Try.prog 59 #[] w fun e w' => e = .returned (.int .i64 4294967296) ∧ w' = w := by
  go_enter Try.func59, Try.ntmps59
  go_wp2
  go_ret
  exact ⟨rfl, rfl⟩
theorem top_quiet (w : World) (n : Nat) : Calls Try.prog 59 #[] (w.drewN n) fun e w'' => e = .returned (.int .i64 4294967296) ∧ ∃ m, w'' = w.drewN m := Calls.quiet_of_same (top_any (w.drewN n))
set_option maxRecDepth 8000 in
set_option maxHeartbeats 4000000 in
theorem rnew_any (a b s : Int) (w : World) : Calls Try.prog 28 #[.int .i64 a, .int .i64 b, .int .i64 s] w fun e w' => e = .returned (.pointer (some ⟨w.heap.size, 0, none⟩)) ∧ RexAt w' (fun q => q = w.heap.size) w.heap.size (newE a b s) 0 ∧ Below w.heap.size w w' := by
  obtain ⟨m, hm⟩ : ∃ m, s.tmod 4294967296 = m := ⟨_, rfl⟩
  have HT := Lib.hid (show (if m < 0 then m + 4294967296 else m) = s % 4294967296 by
    rw [← hm]
    rcases Int.le_total 0 s with h | h
    · rw [Int.tmod_eq_emod_of_nonneg h]
      have := Int.emod_nonneg s (show (4294967296 : Int) ≠ 0 by decide)
      rw [if_neg (by omega)]
    · have e1 : s.tmod 4294967296 = -((-s) % 4294967296) := by
        rw [← Int.tmod_eq_emod_of_nonneg (by omega), Int.neg_tmod, Int.neg_neg]
      rw [e1]
      split <;> omega)
  have hmb : -4294967296 < m ∧ m < 4294967296 := by
    rw [← hm]
    rcases Int.le_total 0 s with h | h
    · rw [Int.tmod_eq_emod_of_nonneg h]
      omega
    · have e1 : s.tmod 4294967296 = -((-s) % 4294967296) := by
        rw [← Int.tmod_eq_emod_of_nonneg (by omega), Int.neg_tmod, Int.neg_neg]
      rw [e1]
      omega
  obtain ⟨hm0, hm1⟩ := hmb
  have key : ∀ (W : World) (r : Int), r = s % 4294967296 → Blk W w.heap.size 111 #[.int .i64 a, .int .i64 b, .int .i64 r, .bool false, .bool false, .bool false, .bool false, .bool false, .bool false, .int .i64 0, .slice none 0 0, .bool true, .bool true, .bool true, .int .i64 r, .slice none 0 0, .slice none 0 0, .int .i64 0] → RexAt W (fun q => q = w.heap.size) w.heap.size (newE a b s) 0 := fun W r hr hB => by
    subst hr
    exact ⟨newE_ok a b s, rfl, fun q hq => by rw [hq]; exact hB.lt, fun _ => rfl, none, 0, 0, none, 0, 0, none, 0, 0, hB, HdsOn.nil, fun h => by cases h⟩
  have HKEY := Lib.hid key
  clear key
  by_cases hneg : m < 0
  · have HR := Lib.hid (show m + 4294967296 = s % 4294967296 by have := HT.out; rwa [if_pos hneg] at this)
    have hwp : IntKind.i64.wrap (m + 4294967296) = m + 4294967296 := by rw [IntKind.wrap_i64]; omega
    go_enter Try.func28, Try.ntmps28
    go_wp2_with fail
    refine (top_any _).mono ?_
    rintro e1 w1 ⟨rfl, h1⟩
    rw [h1]
    clear h1 w1
    go_wp2_with fail
    refine (top_any _).mono ?_
    rintro e1 w1 ⟨rfl, h1⟩
    rw [h1]
    clear h1 w1
    go_wp2
    go_ret
    exact ⟨rfl, HKEY.out _ _ HR.out (Blk.new w _ _), (Below.refl _ _).alloc (Nat.le_refl _) _⟩
  · have HR := Lib.hid (show m = s % 4294967296 by have := HT.out; rwa [if_neg hneg] at this)
    go_enter Try.func28, Try.ntmps28
    go_wp2_with fail
    refine (top_any _).mono ?_
    rintro e1 w1 ⟨rfl, h1⟩
    rw [h1]
    clear h1 w1
    go_wp2
    go_ret
    exact ⟨rfl, HKEY.out _ _ HR.out (Blk.new w _ _), (Below.refl _ _).alloc (Nat.le_refl _) _⟩
end Go.Proofs.Ytfdfdmbnggpnbaa
namespace Go.Proofs.Ytfdfdmbnggpnbaa
open Go.RowKit Go.Lib Go.Sort Go.Deep

theorem by_single (L : List Value) : cellsBy (fun v => [v]) L = L := by
  induction L with
  | nil => rfl
  | cons v L ih => rw [by_cons, ih]; rfl
/-- Slice i of the pieces. -/
theorem pcs_item {w : World} {AP : Option Addr} {nP cP i : Nat} {vs : List Value} (h : w.ownsRow 0 27 1 (.slice AP nP cP) nP vs) (hi : i < nP) : ∃ g v, AP = some ⟨g, 0, none⟩ ∧ g < w.heap.size ∧ nP ≤ cP ∧ cP ≤ maxLen ∧ vs[i]? = some v ∧ w.cell? ⟨g, i, none⟩ = some v := by
  have hl : vs.length = nP := by have := h.1; omega
  obtain ⟨v, hv⟩ : ∃ v, vs[i]? = some v := ⟨_, List.getElem?_eq_getElem (by omega)⟩
  obtain ⟨g, e, -, hg, h1, h2, h3⟩ := own_item (enc := fun v : Value => [v]) (k := 1) (fun _ => rfl) (by omega) (by rw [by_single]; exact h) hv
  have := h3 0 (by omega)
  rw [Nat.mul_one, Nat.add_zero] at this
  exact ⟨g, v, e, hg, h1, h2, hv, this⟩
section
variable {ops : Array Oper} {rest : List Oper} {op : Oper} {a : Act} {w : World} {Q : Exit → Act → World → Prop}
theorem dd_ones (i m s : Bool) (q : Int) (A : Option Addr) (n c : Nat) : ∀ u ∈ [Value.bool i, .bool m, .bool s, .int .i64 q, .slice A n c], u.oneCell' = true := by
  intro u hu
  simp at hu
  rcases hu with rfl | rfl | rfl | rfl | rfl <;> rfl
theorem wpList_store_rsaid {i m s : Bool} {q : Int} {A : Option Addr} {n c : Nat} (hg : op.guard = none) (x v : Operand) (ho : op.op = .store 53 x v) {b : Nat} {t : TypeId} {a0 a1 a2 a3 a4 a5 a6 a7 a8 a9 b0 b1 b2 b3 b4 b5 b6 b7 : Value}
    (hx : a.eval x = .pointer (some ⟨b, 11, none⟩)) (hv : a.eval v = .agg #[.bool i, .bool m, .bool s, .int .i64 q, .slice A n c]) (hB : Blk w b t #[a0, a1, a2, a3, a4, a5, a6, a7, a8, a9, b0, b1, b2, b3, b4, b5, b6, b7])
    (hn : ∀ w', Hid (Blk w' b t #[a0, a1, a2, a3, a4, a5, a6, a7, a8, a9, b0, .bool i, .bool m, .bool s, .int .i64 q, .slice A n c, b6, b7]) → Hid (Chg (fun k => k = b) w w') → wpList Try.prog ops Q rest (a.put op.dst undef) w') : wpList Try.prog ops Q (op :: rest) a w :=
  wpList_store_in 53 [a0, a1, a2, a3, a4, a5, a6, a7, a8, a9, b0] [b1, b2, b3, b4, b5] [b6, b7] [.bool i, .bool m, .bool s, .int .i64 q, .slice A n c] hg x v ho hx hv hB rfl (by kernel_rfl) (dd_ones i m s q A n c) hn
theorem wpList_store_rlast {i m s : Bool} {q : Int} {A : Option Addr} {n c : Nat} (hg : op.guard = none) (x v : Operand) (ho : op.op = .store 53 x v) {b : Nat} {t : TypeId} {a0 a1 a2 a3 a4 a5 a6 a7 a8 a9 b0 b1 b2 b3 b4 b5 b6 b7 : Value}
    (hx : a.eval x = .pointer (some ⟨b, 6, none⟩)) (hv : a.eval v = .agg #[.bool i, .bool m, .bool s, .int .i64 q, .slice A n c]) (hB : Blk w b t #[a0, a1, a2, a3, a4, a5, a6, a7, a8, a9, b0, b1, b2, b3, b4, b5, b6, b7])
    (hn : ∀ w', Hid (Blk w' b t #[a0, a1, a2, a3, a4, a5, .bool i, .bool m, .bool s, .int .i64 q, .slice A n c, b1, b2, b3, b4, b5, b6, b7]) → Hid (Chg (fun k => k = b) w w') → wpList Try.prog ops Q rest (a.put op.dst undef) w') : wpList Try.prog ops Q (op :: rest) a w :=
  wpList_store_in 53 [a0, a1, a2, a3, a4, a5] [a6, a7, a8, a9, b0] [b1, b2, b3, b4, b5, b6, b7] [.bool i, .bool m, .bool s, .int .i64 q, .slice A n c] hg x v ho hx hv hB rfl (by kernel_rfl) (dd_ones i m s q A n c) hn
end
/-- What say leaves. -/
def RsayQ (F : Nat → Prop) (p : Nat) (x : Ex) (at' : Nat) (AL : Option Addr) (nL cL : Nat) (AP : Option Addr) (nP cP : Nat) (w : World) (e : Ending) (w' : World) : Prop :=
  ∃ (AS : Option Addr) (nS cS : Nat), e = .returned (.tuple #[]) ∧ Blk w' p 111 (rexC (sayE x) at' AL nL cL AS nS cS AP nP cP) ∧ HdsOn w' F AS nS (x.K.take 3) ∧ Chg (fun q => q = p) w w'
theorem drew_chg (p : Nat) (w : World) : Chg (fun q => q = p) w w.drew := ⟨rfl, rfl, rfl, Nat.le_refl _, fun _ _ _ => rfl⟩
set_option maxRecDepth 8000 in
set_option maxHeartbeats 8000000 in
theorem rsay_any {w : World} {F : Nat → Prop} {p at' : Nat} {x : Ex} {AL : Option Addr} {nL cL : Nat} {AS : Option Addr} {nS cS : Nat} {AP : Option Addr} {nP cP : Nat} (hB : Blk w p 111 (rexC x at' AL nL cL AS nS cS AP nP cP)) (hl : LaidAt w F AP nP cP at' x.K) (hF : ∀ q, F q → q ≠ p) (hat : at' ≤ 1000) :
    Calls Try.prog 66 #[.pointer (some ⟨p, 0, none⟩)] w (RsayQ F p x at' AL nL cL AP nP cP w) := by
  generalize hQ : RsayQ F p x at' AL nL cL AP nP cP w = Q
  have HQ := Lib.hid hQ
  obtain ⟨K0, vs, ho, hog, hcnt, hpcs, hK, hKl⟩ := hl
  have HO := Lib.hid ho
  have HOG := Lib.hid hog
  have HP := Lib.hid hpcs
  have HK := Lib.hid hK
  have HCN := Lib.hid hcnt
  have HFN := Lib.hid hF
  have K0b := Lib.hid (show Blk w p 111 #[.int .i64 x.self, .int .i64 x.other, .int .i64 x.seq, .bool x.agreed, .bool x.leads, .bool x.done, .bool x.took.init, .bool x.took.more, .bool x.took.master, .int .i64 x.took.seq, .slice AL nL cL, .bool x.said.init, .bool x.said.more, .bool x.said.master, .int .i64 x.said.seq, .slice AS nS cS, .slice AP nP cP, .int .i64 at'] from hB)
  have hpl := hB.lt
  have c2 : w.cell? ⟨p, 2, none⟩ = some (.int .i64 x.seq) := hB.cell 2
  have c4 : w.cell? ⟨p, 4, none⟩ = some (.bool x.leads) := hB.cell 4
  have hnP : nP ≤ 1001 := by
    rcases Nat.lt_or_ge nP 1002 with h | h
    · omega
    · have := (hcnt 1001).1 (by omega)
      omega
  clear hQ hB ho hog hcnt hpcs hK hF hKl
  go_enter Try.func66, Try.ntmps66
  go_wp2_with fail
  go_still_tail 12, (by kernel_rfl)
  change wpList Try.prog _ _ _ _ w.drew
  have K1 := Lib.hid (show Blk w.drew p 111 #[.int .i64 x.self, .int .i64 x.other, .int .i64 x.seq, .bool x.agreed, .bool x.leads, .bool x.done, .bool x.took.init, .bool x.took.more, .bool x.took.master, .int .i64 x.took.seq, .slice AL nL cL, .bool x.said.init, .bool x.said.more, .bool x.said.master, .int .i64 x.said.seq, .slice AS nS cS, .slice AP nP cP, .int .i64 at'] from K0b.out)
  have C1 := Lib.hid (drew_chg p w)
  clear c2 c4 hpl K0b
  generalize w.drew = w1 at *
  by_cases hat2 : at' < nP
  · obtain ⟨g, v, rfl, hgl, hc1, hc2, hvi, hcell⟩ := pcs_item HO.out hat2
    obtain ⟨Ai, ni, ci, rfl, hn3, hdi⟩ := HP.out at' v hvi
    have HD := Lib.hid hdi
    have hgp : g ≠ p := HFN.out g (HOG.out g rfl)
    have d1 : decide ((at' : Int) < (nP : Int)) = true := decide_eq_true (by omega)
    have d1b : (at' : Int) < (nP : Int) := by omega
    obtain ⟨mo, hmo⟩ : ∃ mo, decide ((at' : Int) < (nP : Int) - 1) = mo := ⟨_, rfl⟩
    have HMO := Lib.hid (show mo = decide (3 < x.K.length) by
      rw [← hmo, HK.out]
      unfold leftAt
      rw [List.length_drop]
      have h1 := HCN.out (at' + 1)
      by_cases h : at' + 1 < nP
      · rw [decide_eq_true (by omega), decide_eq_true (by omega)]
      · rw [decide_eq_false (by omega), decide_eq_false (by omega)])
    clear hvi hdi
    go_wp2_with (refine wpList_store_rsaid (i := false) (m := false) (s := x.leads) (q := x.seq) (A := none) (n := 0) (c := 0) rfl (.tmp 13) (.tmp 11) rfl rfl rfl K1.out ?_; intro w2 HK2 HC2; have hpl := HK2.out.lt; have c17 : w2.cell? ⟨p, 17, none⟩ = some (.int .i64 at') := HK2.out.cell 17; have c16 : w2.cell? ⟨p, 16, none⟩ = some (.slice (some ⟨g, 0, none⟩) nP cP) := HK2.out.cell 16)
    have C2 := Lib.hid (C1.out.trans HC2.out (fun q hq => .inl hq))
    have hcell2 : w2.cell? ⟨g, at', none⟩ = some (.slice Ai ni ci) := (World.cell?_of_block (a := ⟨g, at', none⟩) (C2.out.block g hgl hgp)).trans hcell
    have hgl2 : g < w2.heap.size := Nat.lt_of_lt_of_le hgl C2.out.size
    clear HC2 C1 K1 hcell hgl
    clear w1
    unfold maxLen at hc2
    go_quiet (fail)
    have K3 := Lib.hid (show Blk (w2.drewN nq) p 111 #[.int .i64 x.self, .int .i64 x.other, .int .i64 x.seq, .bool x.agreed, .bool x.leads, .bool x.done, .bool x.took.init, .bool x.took.more, .bool x.took.master, .int .i64 x.took.seq, .slice AL nL cL, .bool false, .bool false, .bool x.leads, .int .i64 x.seq, .slice none 0 0, .slice (some ⟨g, 0, none⟩) nP cP, .int .i64 at'] from HK2.out)
    have C3 := Lib.hid (C2.out.trans (⟨rfl, rfl, rfl, Nat.le_refl _, fun _ _ _ => rfl⟩ : Chg (fun q => q = p) w2 (w2.drewN nq)) (fun q hq => .inl hq))
    have hcell3 : (w2.drewN nq).cell? ⟨g, at', none⟩ = some (.slice Ai ni ci) := hcell2
    have hgl3 : g < (w2.drewN nq).heap.size := hgl2
    clear hpl c17 c16 HK2 C2 hcell2 hgl2
    generalize w2.drewN nq = w3 at *
    clear nq w2
    have hpl := K3.out.lt
    have c17 : w3.cell? ⟨p, 17, none⟩ = some (.int .i64 at') := K3.out.cell 17
    have c16 : w3.cell? ⟨p, 16, none⟩ = some (.slice (some ⟨g, 0, none⟩) nP cP) := K3.out.cell 16
    go_wp2_with fail
    go_still_tail 14, (by kernel_rfl)
    change wpList Try.prog _ _ _ _ w3.drew
    have K4 := Lib.hid (K3.out.drew)
    have C4 := Lib.hid (C3.out.trans (drew_chg p w3) (fun q hq => .inl hq))
    clear hpl c17 c16 hcell3 hgl3 K3 C3
    generalize w3.drew = w4 at *
    have c15 : w4.cell? ⟨p, 15, none⟩ = some (.slice none 0 0) := K4.out.cell 15
    have f15 := K4.out.frozen 15
    have hpl := K4.out.lt
    have K5 := Lib.hid (K4.out.put 15 (.slice Ai ni ci))
    have C5 := Lib.hid (C4.out.trans (chg_put (F := fun q => q = p) (a := ⟨p, 15, none⟩) w4 (.slice Ai ni ci) rfl) (fun q hq => .inl hq))
    have b17 : (w4.setCell ⟨p, 15, none⟩ (.slice Ai ni ci)).cell? ⟨p, 17, none⟩ = some (.int .i64 at') := K5.out.cell 17
    have b16 : (w4.setCell ⟨p, 15, none⟩ (.slice Ai ni ci)).cell? ⟨p, 16, none⟩ = some (.slice (some ⟨g, 0, none⟩) nP cP) := K5.out.cell 16
    clear C4
    go_wp2_with fail
    clear c15 f15 hpl K4
    generalize w4.setCell ⟨p, 15, none⟩ (.slice Ai ni ci) = w5 at *
    have hpl := K5.out.lt
    go_still_tail 15, (by kernel_rfl)
    change wpList Try.prog _ _ _ _ w5.drew
    have K6 := Lib.hid (K5.out.drew)
    have C6 := Lib.hid (C5.out.trans (drew_chg p w5) (fun q hq => .inl hq))
    clear hpl b17 b16 K5 C5
    generalize w5.drew = w6 at *
    have c12 : w6.cell? ⟨p, 12, none⟩ = some (.bool false) := K6.out.cell 12
    have f12 := K6.out.frozen 12
    have hpl := K6.out.lt
    go_wp2
    rw [show decide ((at' : Int) < (nP : Int) - 1) = decide (3 < x.K.length) from hmo.trans HMO.out]
    refine bodyPost_end (results_none rfl _ _ _) rfl ?_
    rw [← HQ.out]
    have C7 := C6.out.trans (chg_put (F := fun q => q = p) (a := ⟨p, 12, none⟩) w6 (.bool (decide (3 < x.K.length))) rfl) (fun q hq => .inl hq)
    refine ⟨Ai, ni, ci, rfl, K6.out.put 12 (.bool (decide (3 < x.K.length))), ?_, C7⟩
    have h9 := HD.out
    rw [← HK.out] at h9
    exact h9.move (fun q hq hl => C7.block q hl (HFN.out q hq)) C7.size (fun q hq _ => hq)
  · have d1 : decide ((at' : Int) < (nP : Int)) = false := decide_eq_false (by omega)
    have d1b : ¬ (at' : Int) < (nP : Int) := by omega
    have HE := Lib.hid (show x.K = [] by
      rw [HK.out]
      unfold leftAt
      refine List.drop_of_length_le ?_
      have := HCN.out at'
      omega)
    go_wp2_with (refine wpList_store_rsaid (i := false) (m := false) (s := x.leads) (q := x.seq) (A := none) (n := 0) (c := 0) rfl (.tmp 13) (.tmp 11) rfl rfl rfl K1.out ?_; intro w2 HK2 HC2; have hpl := HK2.out.lt; have c17 : w2.cell? ⟨p, 17, none⟩ = some (.int .i64 at') := HK2.out.cell 17; have c16 : w2.cell? ⟨p, 16, none⟩ = some (.slice AP nP cP) := HK2.out.cell 16)
    have C2 := Lib.hid (C1.out.trans HC2.out (fun q hq => .inl hq))
    go_quiet (fail)
    go_wp2
    refine bodyPost_end (results_none rfl _ _ _) rfl ?_
    rw [← HQ.out]
    have C3 := C2.out.trans (⟨rfl, rfl, rfl, Nat.le_refl _, fun _ _ _ => rfl⟩ : Chg (fun q => q = p) w2 (w2.drewN nq)) (fun q hq => .inl hq)
    refine ⟨none, 0, 0, rfl, ?_, ?_, C3⟩
    · show Blk (w2.drewN nq) p 111 #[.int .i64 x.self, .int .i64 x.other, .int .i64 x.seq, .bool x.agreed, .bool x.leads, .bool x.done, .bool x.took.init, .bool x.took.more, .bool x.took.master, .int .i64 x.took.seq, .slice AL nL cL, .bool false, .bool (decide (3 < x.K.length)), .bool x.leads, .int .i64 x.seq, .slice none 0 0, .slice AP nP cP, .int .i64 at']
      rw [HE.out]
      exact HK2.out
    · rw [HE.out]
      exact HdsOn.nil
end Go.Proofs.Ytfdfdmbnggpnbaa
namespace Go.Proofs.Ytfdfdmbnggpnbaa
open Go.RowKit Go.Lib Go.Sort Go.Deep
set_option linter.unusedVariables false

/-- What Hear of the reference leaves. -/
def RhearQ (F : Nat → Prop) (p at' : Nat) (r : Int × Ex) (w : World) (e : Ending) (w' : World) : Prop := e = .returned (.int .i64 r.1) ∧ (∃ a2, a2 ≤ at' + 1 ∧ RexAt w' (Fp F w w') p r.2 a2) ∧ Chg F w w'
theorem RexAt.wide {w : World} {F F' : Nat → Prop} {p a : Nat} {x : Ex} (h : RexAt w F p x a) (hF : ∀ q, F q → F' q) (hb : ∀ q, F' q → q < w.heap.size) : RexAt w F' p x a := by
  obtain ⟨AL, nL, cL, AS, nS, cS, AP, nP, cP, hB, hh, hl⟩ := h.mem
  exact ⟨h.ok, hF _ h.fp, hb, h.new, AL, nL, cL, AS, nS, cS, AP, nP, cP, hB, hh.move (fun _ _ _ => rfl) (Nat.le_refl _) (fun q hq _ => ⟨hF q hq.1, hq.2⟩), fun ha => (hl ha).move (fun _ _ _ => rfl) (Nat.le_refl _) (fun q hq _ => ⟨hF q hq.1, hq.2⟩)⟩
theorem rhear_stay {F : Nat → Prop} {p at' : Nat} {x : Ex} {c : Int} {w w' : World} (hx : RexAt w' F p x at') (hw : ∀ q, F q → q < w.heap.size) (hb : Below w.heap.size w w') : RhearQ F p at' (c, x) w (.returned (.int .i64 c)) w' :=
  ⟨rfl, ⟨at', by omega, hx.wide (fun q hq => .inl hq) (fun q hq => by
    have := hb.size
    rcases hq with hq | hq
    · have := hw q hq
      omega
    · exact hq.2)⟩, Chg.of_below hb⟩
set_option maxRecDepth 8000 in
set_option maxHeartbeats 8000000 in
theorem rhear_strange {w : World} {F : Nat → Prop} {p at' : Nat} {x : Ex} (pc : Pc) {Ah : Option Addr} {nh ch : Nat} {A : Option Addr} {n c B : Nat} {S : List La} {K : List Hd} (hx : RexAt w F p x at')
    (hS : Las w B A n S) (hBw : B ≤ w.heap.size) (hFB : ∀ q, F q → B ≤ q) (hn : n ≤ 100) (hK : Told S K) (hat : at' ≤ 900) (hns : (pc.seq < 0 ∨ 4294967296 ≤ pc.seq) ∧ True) :
    Calls Try.prog 31 #[.pointer (some ⟨p, 0, none⟩), .agg #[.bool pc.init, .bool pc.more, .bool pc.master, .int .i64 pc.seq, .slice Ah nh ch], .slice A n c] w (RhearQ F p at' (hearE x pc nh K) w) := by
  generalize hQ : RhearQ F p at' (hearE x pc nh K) w = Q
  have HQ := Lib.hid hQ
  have HFW := Lib.hid hx.bound
  have HFB := Lib.hid hFB
  have HS := Lib.hid hS
  have HK := Lib.hid hK
  have HBW := Lib.hid hBw
  have B0 := Lib.hid ((Below.refl w.heap.size w).alloc (Nat.le_refl _) (.cells #[.bool pc.init, .bool pc.more, .bool pc.master, .int .i64 pc.seq, .slice Ah nh ch] 53))
  have N0 := Lib.hid (Blk.new w 53 #[.bool pc.init, .bool pc.more, .bool pc.master, .int .i64 pc.seq, .slice Ah nh ch])
  have X0 := Lib.hid (hx.below B0.out)
  clear hQ hFB hS hK hBw hx
  obtain ⟨n0, n1, n2, n3, n4⟩ := N0.out.five
  have hnl := N0.out.lt
  obtain ⟨h0, h1⟩ := hns
  have HE := Lib.hid (show hearE x pc nh K = (0, x) by
    unfold hearE
    rw [if_pos]
    unfold okSeq
    rw [Bool.and_eq_false_iff]
    simp only [decide_eq_false_iff_not]
    omega)
  rcases h0 with h0 | h0
  · have d0 : decide (pc.seq < 0) = true := decide_eq_true h0
    clear h1 h0
    go_enter Try.func31, Try.ntmps31
    go_wp2_with fail
    go_quiet (fail)
    go_wp2
    show Q (.returned (.int .i64 0)) _
    rw [← HQ.out, HE.out]
    exact rhear_stay (X0.out.move (fun _ _ _ => rfl) (Nat.le_refl _)) HFW.out (belowD B0.out)
  · have d0 : decide (pc.seq < 0) = false := decide_eq_false (by omega)
    have d1 : decide (4294967296 ≤ pc.seq) = true := decide_eq_true h0
    clear h1
    go_enter Try.func31, Try.ntmps31
    go_wp2_with fail
    go_quiet (first | (go_at_call 59; with_reducible exact top_quiet _ _))
    go_wp2
    show Q (.returned (.int .i64 0)) _
    rw [← HQ.out, HE.out]
    exact rhear_stay (X0.out.move (fun _ _ _ => rfl) (Nat.le_refl _)) HFW.out (belowD B0.out)
end Go.Proofs.Ytfdfdmbnggpnbaa
namespace Go.Proofs.Ytfdfdmbnggpnbaa
open Go.RowKit Go.Lib Go.Sort Go.Deep
set_option linter.unusedVariables false

theorem own_ltF {w : World} {base n size q : Nat} {t : TypeId} {v : Value} {xs : List Value} (h : w.ownsRow base t size v n xs) (hq : v.ownBlock = some q) : q < w.heap.size := by
  rcases h.2 with ⟨hv, _⟩ | ⟨g, cap, cur, hv, hb, hg, -⟩
  · subst hv
    cases hq
  · subst hv
    have h2 : some g = some q := hq
    injection h2 with h2
    rw [← h2]
    exact (Array.getElem?_eq_some_iff.1 hg).1
theorem i64_add1 {q : Int} (h0 : 0 ≤ q) (h1 : q < 4294967296) : IntKind.i64.wrap (q + 1) = q + 1 ∧ (q + 1).tmod 4294967296 = up32 q := by
  refine ⟨by rw [IntKind.wrap_i64]; omega, ?_⟩
  rw [Int.tmod_eq_emod_of_nonneg (by omega)]
  rfl
set_option maxRecDepth 8000 in
set_option maxHeartbeats 8000000 in
theorem rhear_lead {w : World} {F : Nat → Prop} {p at' : Nat} {x : Ex} (pm : Bool) (pq : Int) {Ah : Option Addr} {nh ch : Nat} {A : Option Addr} {n c B : Nat} {S : List La} {K : List Hd} (hx : RexAt w F p x at')
    (hS : Las w B A n S) (hBw : B ≤ w.heap.size) (hFB : ∀ q, F q → B ≤ q) (hn : n ≤ 100) (hK : Told S K) (hat : at' ≤ 900)
    (hns : 0 ≤ pq ∧ pq < 4294967296) (hag : x.agreed = false) (hq : pq = x.seq) (ho : x.other < x.self) :
    Calls Try.prog 31 #[.pointer (some ⟨p, 0, none⟩), .agg #[.bool false, .bool pm, .bool false, .int .i64 pq, .slice Ah nh ch], .slice A n c] w (RhearQ F p at' (hearE x ⟨false, pm, false, pq⟩ nh K) w) := by
  generalize hQ : RhearQ F p at' (hearE x ⟨false, pm, false, pq⟩ nh K) w = Q
  have HQ := Lib.hid hQ
  have HFW := Lib.hid hx.bound
  have HFB := Lib.hid hFB
  have HS := Lib.hid hS
  have HK := Lib.hid hK
  have HBW := Lib.hid hBw
  have B0 := Lib.hid ((Below.refl w.heap.size w).alloc (Nat.le_refl _) (.cells #[.bool false, .bool pm, .bool false, .int .i64 pq, .slice Ah nh ch] 53))
  have N0 := Lib.hid (Blk.new w 53 #[.bool false, .bool pm, .bool false, .int .i64 pq, .slice Ah nh ch])
  have X0 := Lib.hid (hx.below B0.out)
  clear hQ hFB hS hK hBw hx
  obtain ⟨n0, n1, n2, n3, n4⟩ := N0.out.five
  have hnl := N0.out.lt
  obtain rfl : at' = 0 := X0.out.new hag
  obtain ⟨hs0, hs1⟩ := hns
  have hok : okSeq pq = true := (okSeq_iff _).2 ⟨hs0, hs1⟩
  have d0 : decide (pq < 0) = false := decide_eq_false (by omega)
  have d1 : decide (4294967296 ≤ pq) = false := decide_eq_false (by omega)
  obtain ⟨AL, nL, cL, AS, nS, cS, AP, nP, cP, hbk, -, -⟩ := X0.out.mem
  have hpl := hbk.lt
  have HPZ := Lib.hid (X0.out.fp)
  have HPW := Lib.hid (HFW.out p X0.out.fp)
  have k0 : (w.alloc (.cells #[.bool false, .bool pm, .bool false, .int .i64 pq, .slice Ah nh ch] 53)).cell? ⟨p, 0, none⟩ = some (.int .i64 x.self) := hbk.cell 0
  have k1 : (w.alloc (.cells #[.bool false, .bool pm, .bool false, .int .i64 pq, .slice Ah nh ch] 53)).cell? ⟨p, 1, none⟩ = some (.int .i64 x.other) := hbk.cell 1
  have k2 : (w.alloc (.cells #[.bool false, .bool pm, .bool false, .int .i64 pq, .slice Ah nh ch] 53)).cell? ⟨p, 2, none⟩ = some (.int .i64 x.seq) := hbk.cell 2
  have k3 : (w.alloc (.cells #[.bool false, .bool pm, .bool false, .int .i64 pq, .slice Ah nh ch] 53)).cell? ⟨p, 3, none⟩ = some (.bool x.agreed) := hbk.cell 3
  rw [hag] at k3
  have KB := Lib.hid hbk
  have OK := Lib.hid X0.out.ok
  clear hbk X0
  have d4 : (pq == x.seq) = true := by simpa using hq
  have d5 : decide (x.other < x.self) = true := decide_eq_true ho
  have HE := Lib.hid (show hearE x ⟨false, pm, false, pq⟩ nh K = (2, beginE x ⟨false, pm, false, pq⟩ K) by
    unfold hearE
    rw [if_neg (by rw [hok]; decide), if_pos hag, if_pos (by unfold agreesE; rw [if_neg (by omega), d5]; simp [hq])])
  have beg_eq : beginE x ⟨false, pm, false, pq⟩ K = sayE (takeE { x with agreed := true, leads := true, K := K } ⟨false, pm, false, pq⟩) := by
    unfold beginE
    rw [d5]
  have BEG := Lib.hid beg_eq
  clear hq beg_eq
  go_enter Try.func31, Try.ntmps31
  go_wp2_with fail
  go_quiet (first | (go_at_call 59; with_reducible exact top_quiet _ _))
  revert nq
  intro q1
  go_wp2_with fail
  go_quiet (fail)
  revert nq
  intro q2
  go_wp2_with fail
  go_quiet (fail)
  revert nq
  intro q3
  simp only [World.drewN_drewN]
  have K3 := Lib.hid (show Blk ((w.alloc (.cells #[.bool false, .bool pm, .bool false, .int .i64 pq, .slice Ah nh ch] 53)).drewN (q1 + q2 + q3)) p 111 (rexC x 0 AL nL cL AS nS cS AP nP cP) from KB.out)
  have N3 := Lib.hid (show Blk ((w.alloc (.cells #[.bool false, .bool pm, .bool false, .int .i64 pq, .slice Ah nh ch] 53)).drewN (q1 + q2 + q3)) w.heap.size 53 #[.bool false, .bool pm, .bool false, .int .i64 pq, .slice Ah nh ch] from N0.out)
  have B3 := Lib.hid (show Below w.heap.size w ((w.alloc (.cells #[.bool false, .bool pm, .bool false, .int .i64 pq, .slice Ah nh ch] 53)).drewN (q1 + q2 + q3)) from belowD B0.out)
  clear n0 n1 n2 n3 n4 hnl k0 k1 k2 k3 hpl KB B0 N0
  generalize (w.alloc (.cells #[.bool false, .bool pm, .bool false, .int .i64 pq, .slice Ah nh ch] 53)).drewN (q1 + q2 + q3) = w3 at *
  clear q1 q2 q3
  obtain ⟨z, hz⟩ : ∃ z, w.heap.size = z := ⟨_, rfl⟩
  rw [hz] at N3 HPW ⊢
  have HZ := Lib.hid hz
  clear hz
  have hpz : p < z := HPW.out
  have hpl := K3.out.lt
  have hzl := N3.out.lt
  have c3 : w3.cell? ⟨p, 3, none⟩ = some (.bool x.agreed) := K3.out.cell 3
  have f3 := K3.out.frozen 3
  have Ka := Lib.hid (K3.out.put 3 (.bool true))
  have Na := Lib.hid (N3.out.far (p := ⟨p, 3, none⟩) (by simp; omega) (.bool true))
  have a4 : (w3.setCell ⟨p, 3, none⟩ (.bool true)).cell? ⟨p, 4, none⟩ = some (.bool x.leads) := Ka.out.cell 4
  have af4 := Ka.out.frozen 4
  have Kb := Lib.hid (Ka.out.put 4 (.bool true))
  have Nb := Lib.hid (Na.out.far (p := ⟨p, 4, none⟩) (by simp; omega) (.bool true))
  have b3 : ((w3.setCell ⟨p, 3, none⟩ (.bool true)).setCell ⟨p, 4, none⟩ (.bool true)).cell? ⟨z, 3, none⟩ = some (.int .i64 pq) := Nb.out.cell 3
  have b2 : ((w3.setCell ⟨p, 3, none⟩ (.bool true)).setCell ⟨p, 4, none⟩ (.bool true)).cell? ⟨p, 2, none⟩ = some (.int .i64 x.seq) := Kb.out.cell 2
  have bf2 := Kb.out.frozen 2
  have Kc := Lib.hid (show Blk (((w3.setCell ⟨p, 3, none⟩ (.bool true)).setCell ⟨p, 4, none⟩ (.bool true)).setCell ⟨p, 2, none⟩ (.int .i64 pq)) p 111 (rexC { x with agreed := true, leads := true, seq := pq } 0 AL nL cL AS nS cS AP nP cP) from Kb.out.put 2 (.int .i64 pq))
  have Nc := Lib.hid (Nb.out.far (p := ⟨p, 2, none⟩) (by simp; omega) (.int .i64 pq))
  have Cc := Lib.hid (((Chg.of_below (F := F) (w := w) (w' := w3) B3.out).trans (chg_put (F := F) (a := ⟨p, 3, none⟩) w3 (.bool true) HPZ.out) (fun q hq => .inl hq)).trans (chg_put (F := F) (a := ⟨p, 4, none⟩) _ (.bool true) HPZ.out) (fun q hq => .inl hq) |>.trans (chg_put (F := F) (a := ⟨p, 2, none⟩) _ (.int .i64 pq) HPZ.out) (fun q hq => .inl hq))
  go_wp2_with fail
  clear c3 f3 a4 af4 b3 b2 bf2 hpl hzl K3 N3 Ka Na Kb Nb B3
  generalize ((w3.setCell ⟨p, 3, none⟩ (.bool true)).setCell ⟨p, 4, none⟩ (.bool true)).setCell ⟨p, 2, none⟩ (.int .i64 pq) = w4 at *
  clear w3
  obtain ⟨hw1, hw2⟩ := i64_add1 hs0 hs1
  have hzl := Nc.out.lt
  have hpl := Kc.out.lt
  have g3 := fun n' os => Go.cell_grown (n := n') (os := os) (a := ⟨z, 3, none⟩) hzl (Nc.out.cell 3)
  have pct : ∀ n' os, Calls Try.prog 59 #[] (Go.Sort.grow (w4.drewN n') os) fun e w'' => e = .returned (.int .i64 4294967296) ∧ ∃ pp : GrownBy, w'' = Go.Sort.grow (w4.drewN pp.n) pp.os := fun n' os => (top_any _).mono fun e w'' ⟨he, hw⟩ => ⟨he, ⟨n', os⟩, hw⟩
  refine region_grown_tail 8 (by kernel_rfl) (by kernel_rfl) ?_
  simp only [List.take_succ_cons, List.take_zero, List.drop_succ_cons, List.drop_zero]
  repeat (quiet_step (first | (go_at_call 59; with_reducible exact pct _ _)))
  refine wpQuiet_nil ?_
  intro _ hw'
  obtain ⟨⟨nq, osq⟩, hw''⟩ := hw'
  subst hw''
  dsimp only
  have BG : Below w4.heap.size w4 (Go.Sort.grow (w4.drewN nq) osq) := grownW
  have Kd := Lib.hid (Kc.out.below BG hpl)
  have Nd := Lib.hid (Nc.out.below BG hzl)
  have Cd := Lib.hid (Cc.out.trans (Chg.of_below (F := F) BG) (fun q hq => .inl hq))
  clear g3 pct hzl hpl BG Kc Nc Cc
  generalize Go.Sort.grow (w4.drewN nq) osq = w5 at *
  clear nq osq w4
  have hpl := Kd.out.lt
  have c2 : w5.cell? ⟨p, 2, none⟩ = some (.int .i64 pq) := Kd.out.cell 2
  have f2 := Kd.out.frozen 2
  have Ke := Lib.hid (show Blk (w5.setCell ⟨p, 2, none⟩ (.int .i64 (up32 pq))) p 111 (rexC { x with agreed := true, leads := true, seq := up32 pq } 0 AL nL cL AS nS cS AP nP cP) from Kd.out.put 2 (.int .i64 (up32 pq)))
  have Ne := Lib.hid (Nd.out.far (p := ⟨p, 2, none⟩) (by simp; omega) (.int .i64 (up32 pq)))
  have Ce := Lib.hid (Cd.out.trans (chg_put (F := F) (a := ⟨p, 2, none⟩) w5 (.int .i64 (up32 pq)) HPZ.out) (fun q hq => .inl hq))
  go_wp2_with fail
  clear c2 f2 hpl Kd Nd Cd
  generalize w5.setCell ⟨p, 2, none⟩ (.int .i64 (up32 pq)) = w6 at *
  clear w5
  have B6 := Lib.hid (Ce.out.to_below HFB.out HBW.out)
  have hz6 := Ce.out.size
  refine (heads_any (HS.out.below B6.out) (Nat.le_trans HBW.out hz6) hn).mono ?_
  rintro e7 w7 ⟨A7, n7, c7, K', rfl, hb7, hO7, hOrd, hStab⟩
  have hKK : K' = K := (stab_unique swo_less HK.out.1 hOrd (HK.out.2.symm.trans hStab)).symm
  subst hKK
  have hl7 := own_lenH encHd_len (by omega) hO7
  have hln : K'.length ≤ 100 := by
    have h1 := told_len HK.out
    have h2 := HS.out.1
    omega
  have Kf := Lib.hid (Ke.out.below hb7 Ke.out.lt)
  have Nf := Lib.hid (Ne.out.below hb7 Ne.out.lt)
  have Cf := Lib.hid (Ce.out.trans (Chg.of_below (F := F) hb7) (fun q hq => .inl hq))
  have H7 := Lib.hid (own_hds hO7)
  clear hb7 hO7 hOrd hStab Ke Ne Ce B6
  go_wp2_with fail
  refine (lay_any H7.out (Nat.le_refl _) (by omega)).mono ?_
  rintro e8 w8 ⟨A8, n8, c8, vs, rfl, hb8, hO8, hcn, hpc⟩
  have Kg := Lib.hid (Kf.out.below hb8 Kf.out.lt)
  have Ng := Lib.hid (Nf.out.below hb8 Nf.out.lt)
  have Cg := Lib.hid (Cf.out.trans (Chg.of_below (F := F) hb8) (fun q hq => .inl hq))
  have hz78 : z < w7.heap.size := Nf.out.lt
  have hs7 := Cf.out.size
  have hs8 := hb8.size
  have LA := Lib.hid (show LaidAt w8 (fun q => z < q ∧ q < w8.heap.size) A8 n8 c8 0 K' from ⟨K', vs, own_base hO8 (Nat.zero_le _), fun g hg => ⟨Nat.lt_of_lt_of_le hz78 (own_base_le hO8 hg), own_ltF hO8 hg⟩, hcn, hpc.move (fun _ _ _ => rfl) (Nat.le_refl _) (fun q hq hl => ⟨Nat.lt_of_lt_of_le hz78 hq.1, hl⟩), (left_zero K').symm, by omega⟩)
  clear hb8 hO8 hcn hpc H7 Kf Nf Cf
  have hpl := Kg.out.lt
  have c16 : w8.cell? ⟨p, 16, none⟩ = some (.slice AP nP cP) := Kg.out.cell 16
  have f16 := Kg.out.frozen 16
  have Kh := Lib.hid (show Blk (w8.setCell ⟨p, 16, none⟩ (.slice A8 n8 c8)) p 111 (rexC { x with agreed := true, leads := true, seq := up32 pq, K := K' } 0 AL nL cL AS nS cS A8 n8 c8) from Kg.out.put 16 (.slice A8 n8 c8))
  have Nh := Lib.hid (Ng.out.far (p := ⟨p, 16, none⟩) (by simp; omega) (.slice A8 n8 c8))
  have Ch := Lib.hid (Cg.out.trans (chg_put (F := F) (a := ⟨p, 16, none⟩) w8 (.slice A8 n8 c8) HPZ.out) (fun q hq => .inl hq))
  have LB := Lib.hid (LA.out.move (w' := w8.setCell ⟨p, 16, none⟩ (.slice A8 n8 c8)) (F' := fun q => z < q ∧ q < w8.heap.size) (fun q hq _ => Below.heap_setCell _ _ _ _ (by show q ≠ p; omega)) (by simp) (fun q hq _ => hq))
  have RH := Lib.hid (show (w8.setCell ⟨p, 16, none⟩ (.slice A8 n8 c8)).rangeAt z 0 [.bool false, .bool pm, .bool false, .int .i64 pq, .slice Ah nh ch] from fun j v hv => by
    rw [Nat.zero_add, Nh.out.cell, ← hv]
    simp)
  go_wp2_with (first | (refine wpList_load_row 53 _ _ (by rfl) (.tmp 4) rfl (by rfl) RH.out Try.underlying53 rfl (by kernel_rfl) ?_) | (refine wpList_store_rlast (i := false) (m := pm) (s := false) (q := pq) (A := Ah) (n := nh) (c := ch) rfl (.tmp 115) (.tmp 113) rfl rfl rfl Kh.out ?_; intro w9 HK9 HC9))
  have K9 := Lib.hid (show Blk w9 p 111 (rexC (takeE { x with agreed := true, leads := true, K := K' } ⟨false, pm, false, pq⟩) 0 Ah nh ch AS nS cS A8 n8 c8) from HK9.out)
  have C9 := Lib.hid (Ch.out.trans (HC9.out.wide (F' := F) (fun q hq => by rw [hq]; exact HPZ.out)) (fun q hq => .inl hq))
  have L9 := Lib.hid (LB.out.move (w' := w9) (F' := fun q => z < q ∧ q < w8.heap.size) (fun q hq hl => HC9.out.block q hl (by show q ≠ p; omega)) HC9.out.size (fun q hq _ => hq))
  have hs9 := HC9.out.size
  have hs98 : w8.heap.size ≤ w9.heap.size := by simpa using hs9
  clear hpl c16 f16 Kh Nh Ch LA LB RH HK9 HC9 Kg Ng Cg
  refine (rsay_any K9.out L9.out (fun q hq => by omega) (by omega)).mono ?_
  rintro e10 w10 ⟨A10, n10, c10, rfl, hb10, hh10, hc10⟩
  go_wp2
  show Q (.returned (.int .i64 2)) _
  rw [← HQ.out, HE.out]
  have hs10 := hc10.size
  have hzw := HZ.out
  refine ⟨rfl, ⟨0, by omega, ?_⟩, C9.out.trans (hc10.wide (F' := F) (fun q hq => by rw [hq]; exact HPZ.out)) (fun q hq => .inl hq)⟩
  refine ⟨OK.out.begin hok (by omega), .inl HPZ.out, fun q hq => ?_, (fun h => by cases h), Ah, nh, ch, A10, n10, c10, A8, n8, c8, ?_, ?_, fun _ => ?_⟩
  · rcases hq with hq | hq
    · have := HFW.out q hq
      have := C9.out.size
      omega
    · exact hq.2
  · rw [BEG.out]
    exact hb10
  · rw [BEG.out]
    exact hh10.move (fun _ _ _ => rfl) (Nat.le_refl _) (fun q hq _ => ⟨.inr (by omega), by omega⟩)
  · rw [BEG.out]
    exact L9.out.move (fun q hq hl => hc10.block q hl (by show q ≠ p; omega)) hs10 (fun q hq _ => ⟨.inr (by omega), by omega⟩)
end Go.Proofs.Ytfdfdmbnggpnbaa
