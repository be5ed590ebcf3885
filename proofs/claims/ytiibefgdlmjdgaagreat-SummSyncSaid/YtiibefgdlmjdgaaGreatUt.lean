/- Lacks. Conditions: at most 100 heads, keys of 64 bits, ages from 0 to 60 where they are compared. -/
import Derived.Test.YtiibefgdlmjdgaaGreatUs
import Derived.Deep.MidRow
namespace Go.Proofs.YtiibefgdlmjdgaaGreat
open Go.RowKit Go.Lib Go.Sort Go.Deep

theorem setAll_is (post : List Value) : ∀ (vs rest pre : List Value), rest.length = vs.length → setAll (pre ++ rest ++ post) pre.length vs = pre ++ vs ++ post
  | [], rest, pre, hl => by
    have : rest = [] := List.eq_nil_of_length_eq_zero hl
    subst this
    rfl
  | v :: r, [], pre, hl => by simp at hl
  | v :: r, u :: rest, pre, hl => by
    have h2 := setAll_is post r rest (pre ++ [v]) (by simpa using hl)
    rw [List.length_append, List.length_singleton] at h2
    unfold setAll
    have e : (pre ++ u :: rest ++ post).set pre.length v = (pre ++ [v]) ++ rest ++ post := by simp
    rw [e, h2]
    simp

theorem own_putH {w : World} {base n b c j : Nat} {L : List Hd} (h : w.ownsRow base 40 7 (.slice (some ⟨b, 0, none⟩) n c) n (cellsBy encHd L)) (hj : j < L.length) (y : Hd) :
    (w.setCells b (j * 7) (encHd y)).ownsRow base 40 7 (.slice (some ⟨b, 0, none⟩) n c) n (cellsBy encHd (L.set j y)) := by
  have h1 := own_setCells (encHd y) (j * 7) w _ h
  have e0 : L = L.take j ++ [L[j]] ++ L.drop (j + 1) := by simp
  have e1 : setAll (cellsBy encHd L) (j * 7) (encHd y) = cellsBy encHd (L.set j y) := by
    have hl : (cellsBy encHd (L.take j)).length = j * 7 := by rw [by_length encHd_len]; simp; omega
    have e2 : cellsBy encHd L = cellsBy encHd (L.take j) ++ encHd L[j] ++ cellsBy encHd (L.drop (j + 1)) := by
      conv => lhs; rw [e0]
      rw [by_append, by_append, by_one]
    rw [e2, ← hl, setAll_is _ (encHd y) (encHd L[j]) (cellsBy encHd (L.take j)) rfl, List.set_eq_take_append_cons_drop, if_pos hj, by_append, by_cons]
    simp
  rw [e1] at h1
  exact h1
theorem own_thereH {w : World} {base n c k size g : Nat} {t : TypeId} {xs : List Value} (h : w.ownsRow base t size (.slice (some ⟨g, 0, none⟩) n c) n xs) (hk : k < n) : w.there g (k * size) size := by
  rcases h.2 with ⟨hv, _⟩ | ⟨g', cap, cur, hv, hb, hg, h1, h2, h3, h4⟩
  · cases hv
  · cases hv
    have hB : Blk w g t cur := hg
    have h5 : (k + 1) * size ≤ c * size := Nat.mul_le_mul_right _ (by omega)
    rw [Nat.succ_mul] at h5
    intro j hj
    refine ⟨?_, hB.frozen _⟩
    rw [hB.cell, Array.getElem?_eq_getElem (by omega)]
    rfl
/-- A head stored over an item of a row. -/
theorem wpList_over_hd {ops : Array Oper} {rest : List Oper} {op : Oper} {a : Act} {w : World} {Q : Exit → Act → World → Prop} {base n c g k : Nat} {L : List Hd} (y : Hd) (hg : op.guard = none) (x v : Operand) (ho : op.op = .store 40 x v) (hx : a.eval x = .pointer (some ⟨g, k * 7, none⟩)) (hv : a.eval v = .agg #[.int .i64 y.age, .int .i64 y.kind, .int .i64 y.id, .int .i64 y.adv, .int .i64 y.seq, .int .i64 y.sum, .int .i64 y.long])
    (hown : w.ownsRow base 40 7 (.slice (some ⟨g, 0, none⟩) n c) n (cellsBy encHd L)) (hk : k < n)
    (hn : ∀ w', Hid (w'.ownsRow base 40 7 (.slice (some ⟨g, 0, none⟩) n c) n (cellsBy encHd (L.set k y))) → Hid (Chg (fun q => q = g) w w') → wpList Tryz.prog ops Q rest (a.put op.dst undef) w') : wpList Tryz.prog ops Q (op :: rest) a w :=
  wpList_store_mid hg 40 x v ho g (k * 7) (encHd y).toArray hx hv (own_thereH hown hk) (by kernel_rfl) (all_oneCell_toArray (encHd_ones y)) (hn _ (Lib.hid (own_putH hown (by rw [own_lenH encHd_len (by omega) hown]; exact hk) y)) (Lib.hid (chg_setCells g _ _ _)))
/-- An append of one head: which blocks have turned. -/
theorem wpList_app_hd2 {wb : World} {ops : Array Oper} {rest : List Oper} {o : Oper} {a : Act} {Q : Exit → Act → World → Prop} (hgd : o.guard = none) (s x : Operand) (ho : o.op = .call { callee := .builtin .append, args := #[s, x], argTypes := #[23, 23] })
    {base n c : Nat} {A : Option Addr} {L : List Hd} (y : Hd) (hs : a.eval s = .slice A n c) (hx : a.eval x = .slice (some ⟨wb.heap.size, 0, none⟩) 1 1) (hown : wb.ownsRow base 40 7 (.slice A n c) n (cellsBy encHd L)) (hn : n ≤ 1000) (hbase : base ≤ wb.heap.size)
    (h : ∀ A' c' w', Hid (w'.ownsRow base 40 7 (.slice A' (n + 1) c') (n + 1) (cellsBy encHd (L ++ [y]))) → Hid (Chg (fun q => (Value.slice A n c).ownBlock = some q) wb w') → wpList Tryz.prog ops Q rest (a.put o.dst (.slice A' (n + 1) c')) w') : wpList Tryz.prog ops Q (o :: rest) a (wb.alloc (.cells #[.int .i64 y.age, .int .i64 y.kind, .int .i64 y.id, .int .i64 y.adv, .int .i64 y.seq, .int .i64 y.sum, .int .i64 y.long] 40)) := by
  refine wpList_append_any hgd s x 23 40 (.agg #[.int .i64 0, .int .i64 0, .int .i64 0, .int .i64 0, .int .i64 0, .int .i64 0, .int .i64 0]) 7 56 Tryz.underlying23 infoHd rfl (by decide) (by decide) ho base (.slice A n c) n (cellsBy encHd L) hs (hown.alloc _) (some ⟨wb.heap.size, 0, none⟩) 1 1 (encHd y) hx rfl (fun h => by cases h) (news_new wb 40 (encHd y)) (encHd_ones y) (by omega) (by simp; omega) ?_
  intro v2 w2 ho2 hg2
  obtain ⟨A2, c2, rfl⟩ := own_slice ho2.out
  refine h A2 c2 w2 (Lib.hid (by rw [by_append, by_one]; exact ho2.out)) (Lib.hid ?_)
  exact (Chg.of_below (F := fun q => (Value.slice A n c).ownBlock = some q) ((Below.refl wb.heap.size wb).alloc (Nat.le_refl _) (.cells #[.int .i64 y.age, .int .i64 y.kind, .int .i64 y.id, .int .i64 y.adv, .int .i64 y.seq, .int .i64 y.sum, .int .i64 y.long] 40))).trans (Chg.of_grown hg2.out (fun q hq => hq)) (fun q hq => .inl hq)
theorem lackStep_mem {S : List La} {out : List Hd} {h x : Hd} (hx : x ∈ lackStep S out h) : x ∈ out ∨ x = h := by
  unfold lackStep at hx
  split at hx
  · split at hx
    · simpa using hx
    · split at hx
      · split at hx
        · exact List.mem_or_eq_of_mem_set hx
        · exact .inl hx
      · exact .inl hx
  · exact .inl hx
theorem lacksF_mem {S : List La} : ∀ (L out : List Hd) {x : Hd}, x ∈ L.foldl (lackStep S) out → x ∈ out ∨ x ∈ L
  | [], out, x, h => .inl h
  | a :: L, out, x, h => by
    rcases lacksF_mem L _ h with h | h
    · rcases lackStep_mem h with h | rfl
      · exact .inl h
      · exact .inr List.mem_cons_self
    · exact .inr (List.mem_cons_of_mem _ h)
theorem lacksL_mem {S : List La} {L : List Hd} {x : Hd} (h : x ∈ lacksL S L) : x ∈ L := (lacksF_mem L [] h).resolve_left (by simp)
/-- What Lacks answers. -/
def LacksQ (S : List La) (L : List Hd) (w : World) (e : Ending) (w' : World) : Prop :=
  ∃ (A : Option Addr) (m c : Nat), e = .returned (.slice A m c) ∧ Below w.heap.size w w' ∧ w'.ownsRow w.heap.size 40 7 (.slice A m c) m (cellsBy encHd (lacksL S L))
theorem hds_item {w : World} {B n k : Nat} {A : Option Addr} {L : List Hd} (h : Hds w B A n L) (hk : k < n) : ∃ (b o : Nat) (x : Hd), A = some ⟨b, o, none⟩ ∧ b < B ∧ L[k]? = some x ∧ w.rangeAt b (o + k * 7) [.int .i64 x.age, .int .i64 x.kind, .int .i64 x.id, .int .i64 x.adv, .int .i64 x.seq, .int .i64 x.sum, .int .i64 x.long] := by
  obtain ⟨b, o, x, rfl, hb, hx, hh⟩ := Arr.at h hk
  exact ⟨b, o, x, rfl, hb, hx, HdAt.range hh⟩
set_option maxRecDepth 8000 in
set_option maxHeartbeats 8000000 in
theorem lacksS_any {w : World} {v : Value} {S : List La} {F : Nat → Prop} {A : Option Addr} {n c B : Nat} {L : List Hd} (hD : DbV w v S F) (hL : Hds w B A n L) (hB : B ≤ w.heap.size) (hn : n ≤ 100) (hk : ∀ h ∈ L, wfKy (keyH h))
    (ha : ∀ h ∈ L, ∀ y, getL S (keyH h) = some y → ageB h = true ∧ ageB y.h = true) (hb : ∀ (i j : Nat) (g h : Hd), i < j → L[i]? = some g → L[j]? = some h → ageB g = true ∧ ageB h = true) :
    Calls Tryz.prog 10 #[v, .slice A n c] w (LacksQ S L w) := by
  generalize hQ : LacksQ S L w = Q
  have HQ := Lib.hid hQ
  have HL := Lib.hid hL
  have HD := Lib.hid hD
  have HK := Lib.hid hk
  have HA := Lib.hid ha
  have HBB := Lib.hid hb
  have O0 := Lib.hid ((World.ownsRow_nil w w.heap.size 40 7).alloc (.map #[] 0))
  have B0 := Lib.hid ((Below.refl w.heap.size w).alloc (Nat.le_refl _) (.map #[] 0))
  have M0 := Lib.hid (PlIs.made w)
  clear hQ hL hD hk ha hb
  have hmm := @run_makeMap Tryz.prog
  go_enter Tryz.func10, Tryz.ntmps10
  go_wp2_with fail
  clear hmm
  generalize w.alloc (.map #[] 0) = w0 at *
  generalize hbm : w.heap.size = bm at *
  have HBM := Lib.hid hbm
  clear hbm
  go_loopw [5, 15] (fun s5 s15 wr => ∃ (k m c' : Nat) (A' : Option Addr) (R : List Pl), s15 = .int .i64 k ∧ s5 = .slice A' m c' ∧ k ≤ n ∧ m ≤ k ∧ Hid (wr.ownsRow bm 40 7 (.slice A' m c') m (cellsBy encHd (lacksL S (L.take k)))) ∧ Hid (PlIs wr bm R) ∧ Hid (PlOk (lacksL S (L.take k)) R) ∧ Hid (Below bm w wr)) (fun _ s15 _ => n - (intOf s15).toNat)
  case atStart => exact ⟨0, 0, 0, none, [], rfl, rfl, Nat.zero_le _, Nat.le_refl _, Lib.hid (by simpa [lacksL, cellsBy] using O0.out), M0, Lib.hid PlOk.nil, B0⟩
  case round =>
    clear O0 B0 M0
    obtain ⟨k, m, c', A', R, rfl, rfl, hk, hmk, OW, MW, PW, BW⟩ := hrel
    by_cases hlt : k < n
    · have hlt' : (k : Int) < (n : Int) := by omega
      obtain ⟨b, o, x, rfl, hbb, hx, hr⟩ := hds_item (HL.out.below (BW.out.mono hB)) hlt
      have HR := Lib.hid hr
      have HX := Lib.hid hx
      have hxm : x ∈ L := List.mem_of_getElem? hx
      have HWF := Lib.hid (HK.out x hxm)
      have HAX := Lib.hid (HA.out x hxm)
      have hz := BW.out.size
      have BX := Lib.hid (BW.out.alloc (by have := HBM.out; omega) (.cells #[.int .i64 x.age, .int .i64 x.kind, .int .i64 x.id, .int .i64 x.adv, .int .i64 x.seq, .int .i64 x.sum, .int .i64 x.long] 40))
      have KX := Lib.hid (Blk.new wr 40 #[.int .i64 x.age, .int .i64 x.kind, .int .i64 x.id, .int .i64 x.adv, .int .i64 x.seq, .int .i64 x.sum, .int .i64 x.long])
      have OX := Lib.hid (OW.out.alloc (.cells #[.int .i64 x.age, .int .i64 x.kind, .int .i64 x.id, .int .i64 x.adv, .int .i64 x.seq, .int .i64 x.sum, .int .i64 x.long] 40))
      have MX := Lib.hid (MW.out.alloc (.cells #[.int .i64 x.age, .int .i64 x.kind, .int .i64 x.id, .int .i64 x.adv, .int .i64 x.seq, .int .i64 x.sum, .int .i64 x.long] 40))
      have RX := Lib.hid (blk_range7 KX.out)
      have HS := Lib.hid (lacksL_snoc S (L.take k) x)
      rw [← take_snocA L k x HX.out] at HS
      clear hr hx hxm OW BW MW
      go_wp2_with (first | refine wpList_load_row 40 _ _ (by rfl) (.tmp 17) rfl (by rfl) HR.out Tryz.underlying40 rfl (by kernel_rfl) ?_ | refine wpList_load_row 40 _ _ (by rfl) (.tmp 8) rfl (by rfl) RX.out Tryz.underlying40 rfl (by kernel_rfl) ?_)
      refine (lacks_any (HD.out.below (by rw [HBM.out]; exact BX.out)) x HWF.out HAX.out).mono ?_
      rintro e1 w1 ⟨rfl, hb1⟩
      generalize wr.alloc (.cells #[.int .i64 x.age, .int .i64 x.kind, .int .i64 x.id, .int .i64 x.adv, .int .i64 x.seq, .int .i64 x.sum, .int .i64 x.long] 40) = wx at *
      generalize wr.heap.size = X at *
      have hzx : bm ≤ wx.heap.size := by have := BX.out.size; have := HBM.out; omega
      have B1 := Lib.hid (BX.out.trans (hb1.mono hzx))
      have K1 := Lib.hid (KX.out.below hb1 KX.out.lt)
      have R1 := Lib.hid (blk_range7 K1.out)
      have O1 := Lib.hid (own_chg OX.out (Chg.of_below (F := fun _ => False) hb1) (fun _ _ hf => hf))
      have M1 := Lib.hid (MX.out.below hb1 MX.out.lt)
      have hz1 := hb1.size
      clear hb1 BX KX OX MX RX HR
      cases hl : lackB S x
      · have HT := Lib.hid (show lacksL S (L.take (k + 1)) = lacksL S (L.take k) by
          have := HS.out
          unfold lackStep at this
          rwa [hl, if_neg (by decide)] at this)
        have O3 := Lib.hid (show w1.ownsRow bm 40 7 (.slice A' m c') m (cellsBy encHd (lacksL S (L.take (k + 1)))) by rw [HT.out]; exact O1.out)
        have P3 := Lib.hid (show PlOk (lacksL S (L.take (k + 1))) R by rw [HT.out]; exact PW.out)
        clear HT O1 PW HS hl R1 K1
        go_wp2
        go_roundw
        case rel => exact ⟨k + 1, m, c', A', R, by go_num, rfl, by omega, by omega, O3, M1, P3, B1⟩
        case measure => simp [intOf]; omega
      · have HT := Lib.hid (show lacksL S (L.take (k + 1)) = (match placeK (lacksL S (L.take k)) (keyH x) with
          | none => lacksL S (L.take k) ++ [x]
          | some i => match (lacksL S (L.take k))[i]? with
            | some g => if 0 < nw x g then (lacksL S (L.take k)).set i x else lacksL S (L.take k)
            | none => lacksL S (L.take k)) by
          have := HS.out
          unfold lackStep at this
          rwa [hl, if_pos rfl] at this)
        clear HS hl
        go_wp2_with (first | refine wpList_load_row 40 _ _ (by rfl) (.tmp 8) rfl (by rfl) R1.out Tryz.underlying40 rfl (by kernel_rfl) ?_)
        refine (keyOf_any x _).mono ?_
        rintro e2 w2 ⟨rfl, hb2⟩
        have B2 := Lib.hid (B1.out.trans (hb2.mono (by omega)))
        have K2 := Lib.hid (K1.out.below hb2 K1.out.lt)
        have O2 := Lib.hid (own_chg O1.out (Chg.of_below (F := fun _ => False) hb2) (fun _ _ hf => hf))
        have M2 := Lib.hid (M1.out.below hb2 M1.out.lt)
        have hz2 := hb2.size
        clear hb2 K1 O1 M1 B1 R1
        have B3 := Lib.hid (B2.out.alloc (by omega) (.cells #[.int .i64 x.kind, .int .i64 x.id, .int .i64 x.adv] 48))
        have K3 := Lib.hid (K2.out.alloc (.cells #[.int .i64 x.kind, .int .i64 x.id, .int .i64 x.adv] 48))
        have O3 := Lib.hid (O2.out.alloc (.cells #[.int .i64 x.kind, .int .i64 x.id, .int .i64 x.adv] 48))
        have M3 := Lib.hid (M2.out.alloc (.cells #[.int .i64 x.kind, .int .i64 x.id, .int .i64 x.adv] 48))
        have Y3 := Lib.hid (Blk.new w2 48 #[.int .i64 x.kind, .int .i64 x.id, .int .i64 x.adv])
        have R3 := Lib.hid (blk_range7 K3.out)
        have hXl := K3.out.lt
        clear K2 O2 M2 B2
        have hRL := Lib.hid (show R.length = m by rw [PW.out.len]; exact own_lenH encHd_len (by omega) O3.out)
        have hz3 : bm ≤ (w2.alloc (.cells #[.int .i64 x.kind, .int .i64 x.id, .int .i64 x.adv] 48)).heap.size := by have := B3.out.size; have := HBM.out; omega
        have NX := Lib.hid (M3.out.ne_blk K3.out)
        have NO := Lib.hid (M3.out.ne_own O3.out)
        obtain ⟨y0, y1, y2⟩ := Y3.out.three
        cases hg : getP R (keyH x) with
        | none =>
          have hlook := M3.out.look_none HWF.out hg
          unfold keyH at hlook
          dsimp only at hlook
          have PZ := Lib.hid (PW.out.snoc x hg)
          have HT2 := Lib.hid (show lacksL S (L.take (k + 1)) = lacksL S (L.take k) ++ [x] by rw [HT.out, (PW.out.none hg).1])
          have HML := Lib.hid (own_lenH encHd_len (by omega) O3.out)
          rw [HML.out] at PZ
          rw [← HT2.out] at PZ
          clear HT PW hg R3
          go_wp2_with (first | refine wpList_load_row 40 _ _ (by rfl) (.tmp 8) rfl (by rfl) R4.out Tryz.underlying40 rfl (by kernel_rfl) ?_ | (at_mapUpdate; refine wpList_putP ⟨keyH x, m⟩ rfl (.tmp 33) (.tmp 34) (.tmp 36) rfl rfl rfl rfl M3.out HWF.out (by have := hRL.out; unfold maxLen; omega) ?_; intro w4 hm4 ht4; have C4 := Lib.hid (chg_of_turned ht4); have M4 := Lib.hid hm4; have K4 := Lib.hid (K3.out.chg C4.out NX.out); have O4 := Lib.hid (own_chg O3.out C4.out (fun q hq e => NO.out (by rw [hq, e]))); have R4 := Lib.hid (show w4.rangeAt X 0 [.int .i64 x.age, .int .i64 x.kind, .int .i64 x.id, .int .i64 x.adv, .int .i64 x.seq, .int .i64 x.sum, .int .i64 x.long] from blk_range7 K4.out); have hz4 : bm ≤ w4.heap.size := Nat.le_trans hz3 C4.out.size; have B4 := Lib.hid (B3.out.trans (C4.out.to_below (fun q hq => Nat.le_of_eq hq.symm) hz3)); clear hm4 ht4 C4 K3 O3 M3 B3 hlook y0 y1 y2 Y3 K4) | (at_builtin; refine wpList_app_hd2 rfl (.tmp 37) (.tmp 39) rfl x (by rfl) (by rfl) O4.out (by omega) hz4 ?_; intro A5 c5 w5 HO5 HC5))
          have O5 := Lib.hid (show w5.ownsRow bm 40 7 (.slice A5 (m + 1) c5) (m + 1) (cellsBy encHd (lacksL S (L.take (k + 1)))) by rw [HT2.out]; exact HO5.out)
          have M5 := Lib.hid (M4.out.chg HC5.out (M4.out.ne_own O4.out))
          have B5 := Lib.hid (B4.out.trans (HC5.out.to_below (fun q hq => (O4.out.lt q hq).1) hz4))
          clear HO5 HC5 M4 O4 B4 R4 HT2
          go_roundw
          case rel => exact ⟨k + 1, m + 1, c5, A5, _, by go_num, by first | rfl | go_num, by omega, by omega, O5, M5, PZ, B5⟩
          case measure => simp [intOf]; omega
        | some r =>
          obtain ⟨hp1, g, hp2, hp3⟩ := PW.out.some M3.out.nodup hg
          have hlook := (M3.out.look_some HWF.out hg).1
          unfold keyH plVal at hlook
          dsimp only at hlook
          have HT2 := Lib.hid (show lacksL S (L.take (k + 1)) = if 0 < nw x g then (lacksL S (L.take k)).set r.i x else lacksL S (L.take k) by rw [HT.out, hp1]; dsimp only; rw [hp2])
          have him : r.i < m := by
            have := (List.getElem?_eq_some_iff.1 hp2).1
            have := own_lenH encHd_len (by omega) O3.out
            omega
          have HAG := Lib.hid (show ageB x = true ∧ ageB g = true by
            obtain ⟨j, hj⟩ := List.getElem?_of_mem (lacksL_mem (List.mem_of_getElem? hp2))
            have hjk : j < k := by
              rw [List.getElem?_take] at hj
              split at hj
              · assumption
              · cases hj
            rw [List.getElem?_take_of_lt hjk] at hj
            exact ⟨(HBB.out j k g x hjk hj HX.out).2, (HBB.out j k g x hjk hj HX.out).1⟩)
          have PS := Lib.hid (PW.out.set hp2 x hp3.symm)
          obtain ⟨q, rfl, hqb, hql, hmc, hcm, hat⟩ := own_item encHd_len (by omega) O3.out hp2
          have HI := Lib.hid hp2
          obtain ⟨i, hi⟩ : ∃ i, i = r.i := ⟨_, rfl⟩
          rw [← hi] at hlook HT2 him hat PS HI
          clear HT hg hp1 hp2 hp3 hi
          unfold maxLen at hcm
          have i_p : (0 : Int) ≤ (i : Int) := by omega
          have i_u : (i : Int) < (m : Int) := by omega
          have i_n : ((i : Int)).toNat = i := by omega
          go_wp2_with fail
          clear hlook y0 y1 y2 Y3 R3
          generalize w2.alloc (.cells #[.int .i64 x.kind, .int .i64 x.id, .int .i64 x.adv] 48) = w3 at *
          obtain ⟨x0, x1, x2, x3, x4, x5, x6⟩ := K3.out.sevenH
          have g0 : w3.cell? ⟨q, i * 7, none⟩ = some (.int .i64 g.age) := hat 0 (by omega)
          have g1 : w3.cell? ⟨q, i * 7 + 1, none⟩ = some (.int .i64 g.kind) := hat 1 (by omega)
          have g2 : w3.cell? ⟨q, i * 7 + 2, none⟩ = some (.int .i64 g.id) := hat 2 (by omega)
          have g3 : w3.cell? ⟨q, i * 7 + 3, none⟩ = some (.int .i64 g.adv) := hat 3 (by omega)
          have g4 : w3.cell? ⟨q, i * 7 + 4, none⟩ = some (.int .i64 g.seq) := hat 4 (by omega)
          have g5 : w3.cell? ⟨q, i * 7 + 5, none⟩ = some (.int .i64 g.sum) := hat 5 (by omega)
          have g6 : w3.cell? ⟨q, i * 7 + 6, none⟩ = some (.int .i64 g.long) := hat 6 (by omega)
          clear hat
          have BR : Below w3.heap.size w3 w3.drew := ⟨rfl, rfl, rfl, Nat.le_refl _, fun _ _ => rfl⟩
          have hnw := fun W => newer_any x g W HAG.out.1 HAG.out.2
          obtain ⟨d, hd⟩ : ∃ d, nw x g = d := ⟨_, rfl⟩
          rw [hd] at hnw HT2
          clear hd
          go_region_held3 (fun w' => Below w3.heap.size w3 w' ∧ (∀ b o, b < w3.heap.size → w'.cell? ⟨b, o, none⟩ = w3.cell? ⟨b, o, none⟩)) ((refine keepW ?_; first | with_reducible exact BR | with_reducible exact BR3)) (first | (go_at_call 25; refine (hnw _).mono ?_; rintro e3 w4 ⟨rfl, hb4⟩; have BR3 := BR.trans (show Below w3.heap.size w3.drew w4 from hb4)))
          clear x0 x1 x2 x3 x4 x5 x6 g0 g1 g2 g3 g4 g5 g6 hnw
          have B4 := Lib.hid (B3.out.trans (BR3.mono hz3))
          have M4 := Lib.hid (M3.out.below BR3 M3.out.lt)
          have O4 := Lib.hid (own_chg O3.out (Chg.of_below (F := fun _ => False) BR3) (fun _ _ hf => hf))
          have R4 := Lib.hid (show w4.rangeAt X 0 [.int .i64 x.age, .int .i64 x.kind, .int .i64 x.id, .int .i64 x.adv, .int .i64 x.seq, .int .i64 x.sum, .int .i64 x.long] from blk_range7 (K3.out.below BR3 hXl))
          have hz4 : bm ≤ w4.heap.size := Nat.le_trans hz3 BR3.size
          clear BR3 BR B3 M3 O3 K3
          by_cases hd : 0 < d
          · have HT3 := Lib.hid (show lacksL S (L.take (k + 1)) = (lacksL S (L.take k)).set i x by rw [HT2.out, if_pos hd])
            go_wp2_with (first | refine wpList_load_row 40 _ _ (by rfl) (.tmp 8) rfl (by rfl) R4.out Tryz.underlying40 rfl (by kernel_rfl) ?_ | (refine wpList_over_hd x rfl (.tmp 51) (.tmp 50) rfl (by rfl) (by rfl) O4.out him ?_; intro w5 HO5 HC5))
            have O5 := Lib.hid (show w5.ownsRow bm 40 7 (.slice (some ⟨q, 0, none⟩) m c') m (cellsBy encHd (lacksL S (L.take (k + 1)))) by rw [HT3.out]; exact HO5.out)
            have P5 := Lib.hid (show PlOk (lacksL S (L.take (k + 1))) R by rw [HT3.out]; exact PS.out)
            have M5 := Lib.hid (M4.out.chg HC5.out (fun e => M4.out.ne_own O4.out (by rw [e]; rfl)))
            have B5 := Lib.hid (B4.out.trans (HC5.out.to_below (fun t ht => by rw [ht]; exact hqb) hz4))
            clear HO5 HC5 M4 O4 B4 R4 HT2 HT3 PS PW
            go_roundw
            case rel => exact ⟨k + 1, m, c', _, R, by go_num, rfl, by omega, by omega, O5, M5, P5, B5⟩
            case measure => simp [intOf]; omega
          · have HT3 := Lib.hid (show lacksL S (L.take (k + 1)) = lacksL S (L.take k) by rw [HT2.out, if_neg hd])
            have O5 := Lib.hid (show w4.ownsRow bm 40 7 (.slice (some ⟨q, 0, none⟩) m c') m (cellsBy encHd (lacksL S (L.take (k + 1)))) by rw [HT3.out]; exact O4.out)
            have P5 := Lib.hid (show PlOk (lacksL S (L.take (k + 1))) R by rw [HT3.out]; exact PW.out)
            clear O4 R4 HT2 HT3 PS PW
            go_wp2
            go_roundw
            case rel => exact ⟨k + 1, m, c', _, R, by go_num, rfl, by omega, by omega, O5, M4, P5, B4⟩
            case measure => simp [intOf]; omega
    · have hlt' : ¬ (k : Int) < (n : Int) := by omega
      have HT := Lib.hid (show lacksL S (L.take k) = lacksL S L by
        rw [List.take_of_length_le (by have := HL.out.1; omega)])
      rw [HT.out] at OW
      go_wp2
      show Q (.returned (.slice A' m c')) wr
      rw [← HQ.out]
      exact ⟨A', m, c', rfl, by rw [HBM.out]; exact BW.out, by rw [HBM.out]; exact OW.out⟩
end Go.Proofs.YtiibefgdlmjdgaaGreat
