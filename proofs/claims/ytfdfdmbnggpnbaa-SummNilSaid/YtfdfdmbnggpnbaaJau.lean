/- Lacks. Conditions: at most 100 heads, keys of 64 bits, ages from 0 to 60 where they are compared. · The library's Compact of a row of keys. Conditions: at most 1000 keys. · Gone. Conditions: what the words say; at most 100 descriptions. · The statements' example of a summary. No conditions. -/
import Derived.Deep.MidRow
import Derived.Test.YtfdfdmbnggpnbaaJat
namespace Go.Proofs.Ytfdfdmbnggpnbaa
open Go.RowKit Go.Lib Go.Sort Go.Deep

theorem setAll_is (post : List Value) : ∀ (vs rest pre : List Value), rest.length = vs.length → setAll (pre ++ rest ++ post) pre.length vs = pre ++ vs ++ post
  | [], rest, pre, hl => by
    have : rest = [] := List.eq_nil_of_length_eq_zero hl
    subst this
    rfl
  | v :: r, [], pre, hl => by simp at hl
  | v :: r, u :: rest, pre, hl => by
    have h2 := setAll_is post r rest (pre ++ [v]) (by simpa using hl)
    rw [List.length_append, List.length_singleton] at h2
    unfold setAll
    have e : (pre ++ u :: rest ++ post).set pre.length v = (pre ++ [v]) ++ rest ++ post := by simp
    rw [e, h2]
    simp

theorem own_putH {w : World} {base n b c j : Nat} {L : List Hd} (h : w.ownsRow base 43 7 (.slice (some ⟨b, 0, none⟩) n c) n (cellsBy encHd L)) (hj : j < L.length) (y : Hd) :
    (w.setCells b (j * 7) (encHd y)).ownsRow base 43 7 (.slice (some ⟨b, 0, none⟩) n c) n (cellsBy encHd (L.set j y)) := by
  have h1 := own_setCells (encHd y) (j * 7) w _ h
  have e0 : L = L.take j ++ [L[j]] ++ L.drop (j + 1) := by simp
  have e1 : setAll (cellsBy encHd L) (j * 7) (encHd y) = cellsBy encHd (L.set j y) := by
    have hl : (cellsBy encHd (L.take j)).length = j * 7 := by rw [by_length encHd_len]; simp; omega
    have e2 : cellsBy encHd L = cellsBy encHd (L.take j) ++ encHd L[j] ++ cellsBy encHd (L.drop (j + 1)) := by
      conv => lhs; rw [e0]
      rw [by_append, by_append, by_one]
    rw [e2, ← hl, setAll_is _ (encHd y) (encHd L[j]) (cellsBy encHd (L.take j)) rfl, List.set_eq_take_append_cons_drop, if_pos hj, by_append, by_cons]
    simp
  rw [e1] at h1
  exact h1
theorem own_thereH {w : World} {base n c k size g : Nat} {t : TypeId} {xs : List Value} (h : w.ownsRow base t size (.slice (some ⟨g, 0, none⟩) n c) n xs) (hk : k < n) : w.there g (k * size) size := by
  rcases h.2 with ⟨hv, _⟩ | ⟨g', cap, cur, hv, hb, hg, h1, h2, h3, h4⟩
  · cases hv
  · cases hv
    have hB : Blk w g t cur := hg
    have h5 : (k + 1) * size ≤ c * size := Nat.mul_le_mul_right _ (by omega)
    rw [Nat.succ_mul] at h5
    intro j hj
    refine ⟨?_, hB.frozen _⟩
    rw [hB.cell, Array.getElem?_eq_getElem (by omega)]
    rfl
/-- A head stored over an item of a row. -/
theorem wpList_over_hd {ops : Array Oper} {rest : List Oper} {op : Oper} {a : Act} {w : World} {Q : Exit → Act → World → Prop} {base n c g k : Nat} {L : List Hd} (y : Hd) (hg : op.guard = none) (x v : Operand) (ho : op.op = .store 43 x v) (hx : a.eval x = .pointer (some ⟨g, k * 7, none⟩)) (hv : a.eval v = .agg #[.int .i64 y.age, .int .i64 y.kind, .int .i64 y.id, .int .i64 y.adv, .int .i64 y.seq, .int .i64 y.sum, .int .i64 y.long])
    (hown : w.ownsRow base 43 7 (.slice (some ⟨g, 0, none⟩) n c) n (cellsBy encHd L)) (hk : k < n)
    (hn : ∀ w', Hid (w'.ownsRow base 43 7 (.slice (some ⟨g, 0, none⟩) n c) n (cellsBy encHd (L.set k y))) → Hid (Chg (fun q => q = g) w w') → wpList Try.prog ops Q rest (a.put op.dst undef) w') : wpList Try.prog ops Q (op :: rest) a w :=
  wpList_store_mid hg 43 x v ho g (k * 7) (encHd y).toArray hx hv (own_thereH hown hk) (by kernel_rfl) (all_oneCell_toArray (encHd_ones y)) (hn _ (Lib.hid (own_putH hown (by rw [own_lenH encHd_len (by omega) hown]; exact hk) y)) (Lib.hid (chg_setCells g _ _ _)))
/-- An append of one head: which blocks have turned. -/
theorem wpList_app_hd2 {wb : World} {ops : Array Oper} {rest : List Oper} {o : Oper} {a : Act} {Q : Exit → Act → World → Prop} (hgd : o.guard = none) (s x : Operand) (ho : o.op = .call { callee := .builtin .append, args := #[s, x], argTypes := #[27, 27] })
    {base n c : Nat} {A : Option Addr} {L : List Hd} (y : Hd) (hs : a.eval s = .slice A n c) (hx : a.eval x = .slice (some ⟨wb.heap.size, 0, none⟩) 1 1) (hown : wb.ownsRow base 43 7 (.slice A n c) n (cellsBy encHd L)) (hn : n ≤ 1000) (hbase : base ≤ wb.heap.size)
    (h : ∀ A' c' w', Hid (w'.ownsRow base 43 7 (.slice A' (n + 1) c') (n + 1) (cellsBy encHd (L ++ [y]))) → Hid (Chg (fun q => (Value.slice A n c).ownBlock = some q) wb w') → wpList Try.prog ops Q rest (a.put o.dst (.slice A' (n + 1) c')) w') : wpList Try.prog ops Q (o :: rest) a (wb.alloc (.cells #[.int .i64 y.age, .int .i64 y.kind, .int .i64 y.id, .int .i64 y.adv, .int .i64 y.seq, .int .i64 y.sum, .int .i64 y.long] 43)) := by
  refine wpList_append_any hgd s x 27 43 (.agg #[.int .i64 0, .int .i64 0, .int .i64 0, .int .i64 0, .int .i64 0, .int .i64 0, .int .i64 0]) 7 56 Try.underlying27 infoHd rfl (by decide) (by decide) ho base (.slice A n c) n (cellsBy encHd L) hs (hown.alloc _) (some ⟨wb.heap.size, 0, none⟩) 1 1 (encHd y) hx rfl (fun h => by cases h) (news_new wb 43 (encHd y)) (encHd_ones y) (by omega) (by simp; omega) ?_
  intro v2 w2 ho2 hg2
  obtain ⟨A2, c2, rfl⟩ := own_slice ho2.out
  refine h A2 c2 w2 (Lib.hid (by rw [by_append, by_one]; exact ho2.out)) (Lib.hid ?_)
  exact (Chg.of_below (F := fun q => (Value.slice A n c).ownBlock = some q) ((Below.refl wb.heap.size wb).alloc (Nat.le_refl _) (.cells #[.int .i64 y.age, .int .i64 y.kind, .int .i64 y.id, .int .i64 y.adv, .int .i64 y.seq, .int .i64 y.sum, .int .i64 y.long] 43))).trans (Chg.of_grown hg2.out (fun q hq => hq)) (fun q hq => .inl hq)
theorem lackStep_mem {S : List La} {out : List Hd} {h x : Hd} (hx : x ∈ lackStep S out h) : x ∈ out ∨ x = h := by
  unfold lackStep at hx
  split at hx
  · split at hx
    · simpa using hx
    · split at hx
      · split at hx
        · exact List.mem_or_eq_of_mem_set hx
        · exact .inl hx
      · exact .inl hx
  · exact .inl hx
theorem lacksF_mem {S : List La} : ∀ (L out : List Hd) {x : Hd}, x ∈ L.foldl (lackStep S) out → x ∈ out ∨ x ∈ L
  | [], out, x, h => .inl h
  | a :: L, out, x, h => by
    rcases lacksF_mem L _ h with h | h
    · rcases lackStep_mem h with h | rfl
      · exact .inl h
      · exact .inr List.mem_cons_self
    · exact .inr (List.mem_cons_of_mem _ h)
theorem lacksL_mem {S : List La} {L : List Hd} {x : Hd} (h : x ∈ lacksL S L) : x ∈ L := (lacksF_mem L [] h).resolve_left (by simp)
/-- What Lacks answers. -/
def LacksQ (S : List La) (L : List Hd) (w : World) (e : Ending) (w' : World) : Prop :=
  ∃ (A : Option Addr) (m c : Nat), e = .returned (.slice A m c) ∧ Below w.heap.size w w' ∧ w'.ownsRow w.heap.size 43 7 (.slice A m c) m (cellsBy encHd (lacksL S L))
theorem hds_item {w : World} {B n k : Nat} {A : Option Addr} {L : List Hd} (h : Hds w B A n L) (hk : k < n) : ∃ (b o : Nat) (x : Hd), A = some ⟨b, o, none⟩ ∧ b < B ∧ L[k]? = some x ∧ w.rangeAt b (o + k * 7) [.int .i64 x.age, .int .i64 x.kind, .int .i64 x.id, .int .i64 x.adv, .int .i64 x.seq, .int .i64 x.sum, .int .i64 x.long] := by
  obtain ⟨b, o, x, rfl, hb, hx, hh⟩ := Arr.at h hk
  exact ⟨b, o, x, rfl, hb, hx, HdAt.range hh⟩
set_option maxRecDepth 8000 in
set_option maxHeartbeats 8000000 in
theorem lacksS_any {w : World} {v : Value} {S : List La} {F : Nat → Prop} {A : Option Addr} {n c B : Nat} {L : List Hd} (hD : DbV w v S F) (hL : Hds w B A n L) (hB : B ≤ w.heap.size) (hn : n ≤ 100) (hk : ∀ h ∈ L, wfKy (keyH h))
    (ha : ∀ h ∈ L, ∀ y, getL S (keyH h) = some y → ageB h = true ∧ ageB y.h = true) (hb : ∀ (i j : Nat) (g h : Hd), i < j → L[i]? = some g → L[j]? = some h → ageB g = true ∧ ageB h = true) :
    Calls Try.prog 24 #[v, .slice A n c] w (LacksQ S L w) := by
  generalize hQ : LacksQ S L w = Q
  have HQ := Lib.hid hQ
  have HL := Lib.hid hL
  have HD := Lib.hid hD
  have HK := Lib.hid hk
  have HA := Lib.hid ha
  have HBB := Lib.hid hb
  have O0 := Lib.hid ((World.ownsRow_nil w w.heap.size 43 7).alloc (.map #[] 0))
  have B0 := Lib.hid ((Below.refl w.heap.size w).alloc (Nat.le_refl _) (.map #[] 0))
  have M0 := Lib.hid (PlIs.made w)
  clear hQ hL hD hk ha hb
  have hmm := @run_makeMap Try.prog
  go_enter Try.func24, Try.ntmps24
  go_wp2_with fail
  clear hmm
  generalize w.alloc (.map #[] 0) = w0 at *
  generalize hbm : w.heap.size = bm at *
  have HBM := Lib.hid hbm
  clear hbm
  go_loopw [5, 15] (fun s5 s15 wr => ∃ (k m c' : Nat) (A' : Option Addr) (R : List Pl), s15 = .int .i64 k ∧ s5 = .slice A' m c' ∧ k ≤ n ∧ m ≤ k ∧ Hid (wr.ownsRow bm 43 7 (.slice A' m c') m (cellsBy encHd (lacksL S (L.take k)))) ∧ Hid (PlIs wr bm R) ∧ Hid (PlOk (lacksL S (L.take k)) R) ∧ Hid (Below bm w wr)) (fun _ s15 _ => n - (intOf s15).toNat)
  case atStart => exact ⟨0, 0, 0, none, [], rfl, rfl, Nat.zero_le _, Nat.le_refl _, Lib.hid (by simpa [lacksL, cellsBy] using O0.out), M0, Lib.hid PlOk.nil, B0⟩
  case round =>
    clear O0 B0 M0
    obtain ⟨k, m, c', A', R, rfl, rfl, hk, hmk, OW, MW, PW, BW⟩ := hrel
    by_cases hlt : k < n
    · have hlt' : (k : Int) < (n : Int) := by omega
      obtain ⟨b, o, x, rfl, hbb, hx, hr⟩ := hds_item (HL.out.below (BW.out.mono hB)) hlt
      have HR := Lib.hid hr
      have HX := Lib.hid hx
      have hxm : x ∈ L := List.mem_of_getElem? hx
      have HWF := Lib.hid (HK.out x hxm)
      have HAX := Lib.hid (HA.out x hxm)
      have hz := BW.out.size
      have BX := Lib.hid (BW.out.alloc (by have := HBM.out; omega) (.cells #[.int .i64 x.age, .int .i64 x.kind, .int .i64 x.id, .int .i64 x.adv, .int .i64 x.seq, .int .i64 x.sum, .int .i64 x.long] 43))
      have KX := Lib.hid (Blk.new wr 43 #[.int .i64 x.age, .int .i64 x.kind, .int .i64 x.id, .int .i64 x.adv, .int .i64 x.seq, .int .i64 x.sum, .int .i64 x.long])
      have OX := Lib.hid (OW.out.alloc (.cells #[.int .i64 x.age, .int .i64 x.kind, .int .i64 x.id, .int .i64 x.adv, .int .i64 x.seq, .int .i64 x.sum, .int .i64 x.long] 43))
      have MX := Lib.hid (MW.out.alloc (.cells #[.int .i64 x.age, .int .i64 x.kind, .int .i64 x.id, .int .i64 x.adv, .int .i64 x.seq, .int .i64 x.sum, .int .i64 x.long] 43))
      have RX := Lib.hid (blk_range7 KX.out)
      have HS := Lib.hid (lacksL_snoc S (L.take k) x)
      rw [← take_snocA L k x HX.out] at HS
      clear hr hx hxm OW BW MW
      go_wp2_with (first | refine wpList_load_row 43 _ _ (by rfl) (.tmp 17) rfl (by rfl) HR.out Try.underlying43 rfl (by kernel_rfl) ?_ | refine wpList_load_row 43 _ _ (by rfl) (.tmp 8) rfl (by rfl) RX.out Try.underlying43 rfl (by kernel_rfl) ?_)
      refine (lacks_any (HD.out.below (by rw [HBM.out]; exact BX.out)) x HWF.out HAX.out).mono ?_
      rintro e1 w1 ⟨rfl, hb1⟩
      generalize wr.alloc (.cells #[.int .i64 x.age, .int .i64 x.kind, .int .i64 x.id, .int .i64 x.adv, .int .i64 x.seq, .int .i64 x.sum, .int .i64 x.long] 43) = wx at *
      generalize wr.heap.size = X at *
      have hzx : bm ≤ wx.heap.size := by have := BX.out.size; have := HBM.out; omega
      have B1 := Lib.hid (BX.out.trans (hb1.mono hzx))
      have K1 := Lib.hid (KX.out.below hb1 KX.out.lt)
      have R1 := Lib.hid (blk_range7 K1.out)
      have O1 := Lib.hid (own_chg OX.out (Chg.of_below (F := fun _ => False) hb1) (fun _ _ hf => hf))
      have M1 := Lib.hid (MX.out.below hb1 MX.out.lt)
      have hz1 := hb1.size
      clear hb1 BX KX OX MX RX HR
      cases hl : lackB S x
      · have HT := Lib.hid (show lacksL S (L.take (k + 1)) = lacksL S (L.take k) by
          have := HS.out
          unfold lackStep at this
          rwa [hl, if_neg (by decide)] at this)
        have O3 := Lib.hid (show w1.ownsRow bm 43 7 (.slice A' m c') m (cellsBy encHd (lacksL S (L.take (k + 1)))) by rw [HT.out]; exact O1.out)
        have P3 := Lib.hid (show PlOk (lacksL S (L.take (k + 1))) R by rw [HT.out]; exact PW.out)
        clear HT O1 PW HS hl R1 K1
        go_wp2
        go_roundw
        case rel => exact ⟨k + 1, m, c', A', R, by go_num, rfl, by omega, by omega, O3, M1, P3, B1⟩
        case measure => simp [intOf]; omega
      · have HT := Lib.hid (show lacksL S (L.take (k + 1)) = (match placeK (lacksL S (L.take k)) (keyH x) with
          | none => lacksL S (L.take k) ++ [x]
          | some i => match (lacksL S (L.take k))[i]? with
            | some g => if 0 < nw x g then (lacksL S (L.take k)).set i x else lacksL S (L.take k)
            | none => lacksL S (L.take k)) by
          have := HS.out
          unfold lackStep at this
          rwa [hl, if_pos rfl] at this)
        clear HS hl
        go_wp2_with (first | refine wpList_load_row 43 _ _ (by rfl) (.tmp 8) rfl (by rfl) R1.out Try.underlying43 rfl (by kernel_rfl) ?_)
        refine (keyOf_any x _).mono ?_
        rintro e2 w2 ⟨rfl, hb2⟩
        have B2 := Lib.hid (B1.out.trans (hb2.mono (by omega)))
        have K2 := Lib.hid (K1.out.below hb2 K1.out.lt)
        have O2 := Lib.hid (own_chg O1.out (Chg.of_below (F := fun _ => False) hb2) (fun _ _ hf => hf))
        have M2 := Lib.hid (M1.out.below hb2 M1.out.lt)
        have hz2 := hb2.size
        clear hb2 K1 O1 M1 B1 R1
        have B3 := Lib.hid (B2.out.alloc (by omega) (.cells #[.int .i64 x.kind, .int .i64 x.id, .int .i64 x.adv] 86))
        have K3 := Lib.hid (K2.out.alloc (.cells #[.int .i64 x.kind, .int .i64 x.id, .int .i64 x.adv] 86))
        have O3 := Lib.hid (O2.out.alloc (.cells #[.int .i64 x.kind, .int .i64 x.id, .int .i64 x.adv] 86))
        have M3 := Lib.hid (M2.out.alloc (.cells #[.int .i64 x.kind, .int .i64 x.id, .int .i64 x.adv] 86))
        have Y3 := Lib.hid (Blk.new w2 86 #[.int .i64 x.kind, .int .i64 x.id, .int .i64 x.adv])
        have R3 := Lib.hid (blk_range7 K3.out)
        have hXl := K3.out.lt
        clear K2 O2 M2 B2
        have hRL := Lib.hid (show R.length = m by rw [PW.out.len]; exact own_lenH encHd_len (by omega) O3.out)
        have hz3 : bm ≤ (w2.alloc (.cells #[.int .i64 x.kind, .int .i64 x.id, .int .i64 x.adv] 86)).heap.size := by have := B3.out.size; have := HBM.out; omega
        have NX := Lib.hid (M3.out.ne_blk K3.out)
        have NO := Lib.hid (M3.out.ne_own O3.out)
        obtain ⟨y0, y1, y2⟩ := Y3.out.three
        cases hg : getP R (keyH x) with
        | none =>
          have hlook := M3.out.look_none HWF.out hg
          unfold keyH at hlook
          dsimp only at hlook
          have PZ := Lib.hid (PW.out.snoc x hg)
          have HT2 := Lib.hid (show lacksL S (L.take (k + 1)) = lacksL S (L.take k) ++ [x] by rw [HT.out, (PW.out.none hg).1])
          have HML := Lib.hid (own_lenH encHd_len (by omega) O3.out)
          rw [HML.out] at PZ
          rw [← HT2.out] at PZ
          clear HT PW hg R3
          go_wp2_with (first | refine wpList_load_row 43 _ _ (by rfl) (.tmp 8) rfl (by rfl) R4.out Try.underlying43 rfl (by kernel_rfl) ?_ | (at_mapUpdate; refine wpList_putP ⟨keyH x, m⟩ rfl (.tmp 33) (.tmp 34) (.tmp 36) rfl rfl rfl rfl M3.out HWF.out (by have := hRL.out; unfold maxLen; omega) ?_; intro w4 hm4 ht4; have C4 := Lib.hid (chg_of_turned ht4); have M4 := Lib.hid hm4; have K4 := Lib.hid (K3.out.chg C4.out NX.out); have O4 := Lib.hid (own_chg O3.out C4.out (fun q hq e => NO.out (by rw [hq, e]))); have R4 := Lib.hid (show w4.rangeAt X 0 [.int .i64 x.age, .int .i64 x.kind, .int .i64 x.id, .int .i64 x.adv, .int .i64 x.seq, .int .i64 x.sum, .int .i64 x.long] from blk_range7 K4.out); have hz4 : bm ≤ w4.heap.size := Nat.le_trans hz3 C4.out.size; have B4 := Lib.hid (B3.out.trans (C4.out.to_below (fun q hq => Nat.le_of_eq hq.symm) hz3)); clear hm4 ht4 C4 K3 O3 M3 B3 hlook y0 y1 y2 Y3 K4) | (at_builtin; refine wpList_app_hd2 rfl (.tmp 37) (.tmp 39) rfl x (by rfl) (by rfl) O4.out (by omega) hz4 ?_; intro A5 c5 w5 HO5 HC5))
          have O5 := Lib.hid (show w5.ownsRow bm 43 7 (.slice A5 (m + 1) c5) (m + 1) (cellsBy encHd (lacksL S (L.take (k + 1)))) by rw [HT2.out]; exact HO5.out)
          have M5 := Lib.hid (M4.out.chg HC5.out (M4.out.ne_own O4.out))
          have B5 := Lib.hid (B4.out.trans (HC5.out.to_below (fun q hq => (O4.out.lt q hq).1) hz4))
          clear HO5 HC5 M4 O4 B4 R4 HT2
          go_roundw
          case rel => exact ⟨k + 1, m + 1, c5, A5, _, by go_num, by first | rfl | go_num, by omega, by omega, O5, M5, PZ, B5⟩
          case measure => simp [intOf]; omega
        | some r =>
          obtain ⟨hp1, g, hp2, hp3⟩ := PW.out.some M3.out.nodup hg
          have hlook := (M3.out.look_some HWF.out hg).1
          unfold keyH plVal at hlook
          dsimp only at hlook
          have HT2 := Lib.hid (show lacksL S (L.take (k + 1)) = if 0 < nw x g then (lacksL S (L.take k)).set r.i x else lacksL S (L.take k) by rw [HT.out, hp1]; dsimp only; rw [hp2])
          have him : r.i < m := by
            have := (List.getElem?_eq_some_iff.1 hp2).1
            have := own_lenH encHd_len (by omega) O3.out
            omega
          have HAG := Lib.hid (show ageB x = true ∧ ageB g = true by
            obtain ⟨j, hj⟩ := List.getElem?_of_mem (lacksL_mem (List.mem_of_getElem? hp2))
            have hjk : j < k := by
              rw [List.getElem?_take] at hj
              split at hj
              · assumption
              · cases hj
            rw [List.getElem?_take_of_lt hjk] at hj
            exact ⟨(HBB.out j k g x hjk hj HX.out).2, (HBB.out j k g x hjk hj HX.out).1⟩)
          have PS := Lib.hid (PW.out.set hp2 x hp3.symm)
          obtain ⟨q, rfl, hqb, hql, hmc, hcm, hat⟩ := own_item encHd_len (by omega) O3.out hp2
          have HI := Lib.hid hp2
          obtain ⟨i, hi⟩ : ∃ i, i = r.i := ⟨_, rfl⟩
          rw [← hi] at hlook HT2 him hat PS HI
          clear HT hg hp1 hp2 hp3 hi
          unfold maxLen at hcm
          have i_p : (0 : Int) ≤ (i : Int) := by omega
          have i_u : (i : Int) < (m : Int) := by omega
          have i_n : ((i : Int)).toNat = i := by omega
          go_wp2_with fail
          clear hlook y0 y1 y2 Y3 R3
          generalize w2.alloc (.cells #[.int .i64 x.kind, .int .i64 x.id, .int .i64 x.adv] 86) = w3 at *
          obtain ⟨x0, x1, x2, x3, x4, x5, x6⟩ := K3.out.sevenH
          have g0 : w3.cell? ⟨q, i * 7, none⟩ = some (.int .i64 g.age) := hat 0 (by omega)
          have g1 : w3.cell? ⟨q, i * 7 + 1, none⟩ = some (.int .i64 g.kind) := hat 1 (by omega)
          have g2 : w3.cell? ⟨q, i * 7 + 2, none⟩ = some (.int .i64 g.id) := hat 2 (by omega)
          have g3 : w3.cell? ⟨q, i * 7 + 3, none⟩ = some (.int .i64 g.adv) := hat 3 (by omega)
          have g4 : w3.cell? ⟨q, i * 7 + 4, none⟩ = some (.int .i64 g.seq) := hat 4 (by omega)
          have g5 : w3.cell? ⟨q, i * 7 + 5, none⟩ = some (.int .i64 g.sum) := hat 5 (by omega)
          have g6 : w3.cell? ⟨q, i * 7 + 6, none⟩ = some (.int .i64 g.long) := hat 6 (by omega)
          clear hat
          have BR : Below w3.heap.size w3 w3.drew := ⟨rfl, rfl, rfl, Nat.le_refl _, fun _ _ => rfl⟩
          have hnw := fun W => newer_any x g W HAG.out.1 HAG.out.2
          obtain ⟨d, hd⟩ : ∃ d, nw x g = d := ⟨_, rfl⟩
          rw [hd] at hnw HT2
          clear hd
          go_region_held3 (fun w' => Below w3.heap.size w3 w' ∧ (∀ b o, b < w3.heap.size → w'.cell? ⟨b, o, none⟩ = w3.cell? ⟨b, o, none⟩)) ((refine keepW ?_; first | with_reducible exact BR | with_reducible exact BR3)) (first | (go_at_call 58; refine (hnw _).mono ?_; rintro e3 w4 ⟨rfl, hb4⟩; have BR3 := BR.trans (show Below w3.heap.size w3.drew w4 from hb4)))
          clear x0 x1 x2 x3 x4 x5 x6 g0 g1 g2 g3 g4 g5 g6 hnw
          have B4 := Lib.hid (B3.out.trans (BR3.mono hz3))
          have M4 := Lib.hid (M3.out.below BR3 M3.out.lt)
          have O4 := Lib.hid (own_chg O3.out (Chg.of_below (F := fun _ => False) BR3) (fun _ _ hf => hf))
          have R4 := Lib.hid (show w4.rangeAt X 0 [.int .i64 x.age, .int .i64 x.kind, .int .i64 x.id, .int .i64 x.adv, .int .i64 x.seq, .int .i64 x.sum, .int .i64 x.long] from blk_range7 (K3.out.below BR3 hXl))
          have hz4 : bm ≤ w4.heap.size := Nat.le_trans hz3 BR3.size
          clear BR3 BR B3 M3 O3 K3
          by_cases hd : 0 < d
          · have HT3 := Lib.hid (show lacksL S (L.take (k + 1)) = (lacksL S (L.take k)).set i x by rw [HT2.out, if_pos hd])
            go_wp2_with (first | refine wpList_load_row 43 _ _ (by rfl) (.tmp 8) rfl (by rfl) R4.out Try.underlying43 rfl (by kernel_rfl) ?_ | (refine wpList_over_hd x rfl (.tmp 51) (.tmp 50) rfl (by rfl) (by rfl) O4.out him ?_; intro w5 HO5 HC5))
            have O5 := Lib.hid (show w5.ownsRow bm 43 7 (.slice (some ⟨q, 0, none⟩) m c') m (cellsBy encHd (lacksL S (L.take (k + 1)))) by rw [HT3.out]; exact HO5.out)
            have P5 := Lib.hid (show PlOk (lacksL S (L.take (k + 1))) R by rw [HT3.out]; exact PS.out)
            have M5 := Lib.hid (M4.out.chg HC5.out (fun e => M4.out.ne_own O4.out (by rw [e]; rfl)))
            have B5 := Lib.hid (B4.out.trans (HC5.out.to_below (fun t ht => by rw [ht]; exact hqb) hz4))
            clear HO5 HC5 M4 O4 B4 R4 HT2 HT3 PS PW
            go_roundw
            case rel => exact ⟨k + 1, m, c', _, R, by go_num, rfl, by omega, by omega, O5, M5, P5, B5⟩
            case measure => simp [intOf]; omega
          · have HT3 := Lib.hid (show lacksL S (L.take (k + 1)) = lacksL S (L.take k) by rw [HT2.out, if_neg hd])
            have O5 := Lib.hid (show w4.ownsRow bm 43 7 (.slice (some ⟨q, 0, none⟩) m c') m (cellsBy encHd (lacksL S (L.take (k + 1)))) by rw [HT3.out]; exact O4.out)
            have P5 := Lib.hid (show PlOk (lacksL S (L.take (k + 1))) R by rw [HT3.out]; exact PW.out)
            clear O4 R4 HT2 HT3 PS PW
            go_wp2
            go_roundw
            case rel => exact ⟨k + 1, m, c', _, R, by go_num, rfl, by omega, by omega, O5, M4, P5, B4⟩
            case measure => simp [intOf]; omega
    · have hlt' : ¬ (k : Int) < (n : Int) := by omega
      have HT := Lib.hid (show lacksL S (L.take k) = lacksL S L by
        rw [List.take_of_length_le (by have := HL.out.1; omega)])
      rw [HT.out] at OW
      go_wp2
      show Q (.returned (.slice A' m c')) wr
      rw [← HQ.out]
      exact ⟨A', m, c', rfl, by rw [HBM.out]; exact BW.out, by rw [HBM.out]; exact OW.out⟩
end Go.Proofs.Ytfdfdmbnggpnbaa
namespace Go.Proofs.Ytfdfdmbnggpnbaa
open Go.RowKit Go.Lib Go.Sort Go.Deep

instance : Inhabited Ky := ⟨⟨0, 0, 0⟩⟩
/-- A row of keys without those that stand behind the same. -/
def dedupK (L : List Ky) : List Ky := compactUpTo L.toArray L.length
theorem toList_get (dk : Array Ky) (j : Nat) (h : j < dk.size) : dk.toList[j]? = some dk[j]! := by
  rw [Array.getElem?_toList, getElem!_pos dk j h]
  simp [h]
theorem dedup_short {L : List Ky} (h : ∀ j, j < L.length → keeps L.toArray j = true) : dedupK L = L := by
  unfold dedupK
  rw [compactUpTo_all _ _ h]
  have := range_map_get L.toArray
  simpa using this
theorem take_of_inv {d dk : Array Ky} {m k : Nat} (h : CompInv d m k dk) (hm : k ≤ dk.size) : dk.toList.take k = compactUpTo d m := by
  refine List.ext_getElem? fun j => ?_
  by_cases hj : j < k
  · rw [List.getElem?_take_of_lt hj, toList_get dk j (by omega), h.low j hj]
  · rw [List.getElem?_eq_none (by rw [List.length_take]; omega), List.getElem?_eq_none (by rw [h.len]; omega)]
theorem kyCells_take (M : List Ky) (m : Nat) : (kyCells M).take (m * 3) = kyCells (M.take m) := by
  induction M generalizing m with
  | nil => simp [kyCells]
  | cons x M ih =>
    cases m with
    | zero => simp [kyCells]
    | succ m =>
      rw [kyCells_cons, List.take_succ_cons, kyCells_cons, ← ih m, show (m + 1) * 3 = m * 3 + 1 + 1 + 1 by omega]
      simp [List.take_succ_cons]
theorem own_frozenH {w : World} {base n c size g : Nat} {t : TypeId} {xs : List Value} (h : w.ownsRow base t size (.slice (some ⟨g, 0, none⟩) n c) n xs) (i : Nat) : w.frozen? ⟨g, i, none⟩ = false := by
  rcases h.2 with ⟨hv, _⟩ | ⟨g', cap, cur, hv, hb, hg, h1, h2, h3, h4⟩
  · cases hv
  · cases hv
    have hB : Blk w g t cur := hg
    exact hB.frozen i
set_option maxRecDepth 8000 in
set_option maxHeartbeats 8000000 in
theorem compact_any {w : World} {base n c : Nat} {A : Option Addr} {L : List Ky} (ho : w.ownsRow base 86 3 (.slice A n c) n (kyCells L)) (hn : n ≤ 1000) :
    Calls Try.prog 54 #[.slice A n c] w fun e w' => ∃ m, e = .returned (.slice A m c) ∧ w'.ownsRow base 86 3 (.slice A m c) m (kyCells (dedupK L)) ∧ Chg (fun q => (Value.slice A n c).ownBlock = some q) w w' := by
  have hl := ho.1
  rw [kyCells_length] at hl
  have hlL : L.length = n := by omega
  generalize hQ : (fun (e : Ending) (w' : World) => ∃ m, e = .returned (.slice A m c) ∧ w'.ownsRow base 86 3 (.slice A m c) m (kyCells (dedupK L)) ∧ Chg (fun q => (Value.slice A n c).ownBlock = some q) w w') = Q
  have HQ := Lib.hid hQ
  have HO := Lib.hid ho
  have HL := Lib.hid hlL
  clear hQ hl hlL
  by_cases h2 : n < 2
  · have h2' : (n : Int) < 2 := by omega
    clear ho
    go_enter Try.func54, Try.ntmps54
    go_wp2
    show Q (.returned (.slice A n c)) w
    rw [← HQ.out]
    refine ⟨n, rfl, ?_, Chg.refl _ _⟩
    rw [dedup_short (fun j hj => keeps_lt_one _ j (by have := HL.out; omega))]
    exact HO.out
  · have h2' : ¬ (n : Int) < 2 := by omega
    obtain ⟨g, hA, hbg, hgl, hnc, hcm, -⟩ := own_kyH ho (j := 0) (k := L[0]'(by have := HL.out; omega)) (List.getElem?_eq_getElem _)
    subst hA
    clear ho
    unfold maxLen at hcm
    obtain ⟨d, hd⟩ : ∃ d, d = L.toArray := ⟨_, rfl⟩
    have HD := Lib.hid hd
    have hdz : d.size = n := by rw [hd, List.size_toArray, HL.out]
    clear hd
    have HDZ := Lib.hid hdz
    clear hdz
    go_enter Try.func54, Try.ntmps54
    go_wp2_with fail
    go_loopw [3] (fun s3 wr => ∃ (k q : Nat), s3 = .int .i64 k ∧ 1 ≤ k ∧ k ≤ n ∧ Hid (∀ j, j < k → keeps d j = true) ∧ wr = w.drewN q) (fun s3 _ => n - (intOf s3).toNat)
    case atStart => exact ⟨1, 0, rfl, Nat.le_refl _, by omega, Lib.hid (keeps_lt_one d), rfl⟩
    case round =>
      obtain ⟨k, q, rfl, hk1, hkn, HK, rfl⟩ := hrel
      by_cases hlt : k < n
      · have hlt' : (k : Int) < (n : Int) := by omega
        obtain ⟨kp, hkp⟩ : ∃ kp, kp = k - 1 := ⟨_, rfl⟩
        have e1 : (k : Int) - 1 = (kp : Int) := by omega
        have w_kp : IntKind.i64.wrap (kp : Int) = (kp : Int) := by rw [IntKind.wrap_i64]; omega
        have hk2 : kp + 1 = k := by omega
        obtain ⟨x, hx⟩ : ∃ x, d[k]! = x := ⟨_, rfl⟩
        obtain ⟨y, hy⟩ : ∃ y, d[k - 1]! = y := ⟨_, rfl⟩
        have HO2 := Lib.hid (show (w.drewN q).ownsRow base 86 3 (.slice (some ⟨g, 0, none⟩) n c) n (kyCells L) from HO.out)
        have hg2 : g < (w.drewN q).heap.size := hgl
        have hLx : L[k]? = some x := by rw [← hx, HD.out]; have := toList_get L.toArray k (by rw [List.size_toArray, HL.out]; exact hlt); simpa using this
        have hLy : L[kp]? = some y := by rw [← hy, HD.out, ← hkp]; have := toList_get L.toArray kp (by rw [List.size_toArray, HL.out]; omega); simpa using this
        obtain ⟨_, e, -, -, -, -, x0, x1, x2⟩ := own_kyH HO2.out hLx
        injection e with e
        injection e with e
        subst e
        obtain ⟨_, e, -, -, -, -, y0, y1, y2⟩ := own_kyH HO2.out hLy
        injection e with e
        injection e with e
        subst e
        have HXY := Lib.hid (show d[k]! = x ∧ d[k - 1]! = y from ⟨hx, hy⟩)
        have C1 := Lib.hid (⟨rfl, rfl, rfl, Nat.le_refl _, fun _ _ _ => rfl⟩ : Chg (fun q => q = g) w (w.drewN q))
        have hkz : (0 : Int) ≤ (k : Int) := by omega
        clear hx hy hLx hLy hkp hk2
        have eK := fun W => equalKy x y W
        have HWQ := Lib.hid (show ∃ q1, w.drewN q = w.drewN q1 from ⟨q, rfl⟩)
        generalize hwq : w.drewN q = wq at *
        clear hwq
        by_cases hxy : x = y
        · have hs : sameKy x y = true := (sameKy_iff _ _).2 hxy
          rw [hs] at eK
          go_wp2_with fail
          go_quiet (fail)
          have OQ := Lib.hid (show (wq.drewN nq).ownsRow base 86 3 (.slice (some ⟨g, 0, none⟩) n c) n (kyCells d.toList) by rw [HD.out]; exact HO2.out)
          have CQ := Lib.hid (show Chg (fun q => q = g) w (wq.drewN nq) from C1.out.trans (⟨rfl, rfl, rfl, Nat.le_refl _, fun _ _ _ => rfl⟩ : Chg (fun q => q = g) wq (wq.drewN nq)) (fun _ h => .inl h))
          have IQ := Lib.hid (CompInv.start HK.out (keeps_neg (by omega) (by rw [HXY.out.1, HXY.out.2, hxy])))
          clear hxy hs eK x0 x1 x2 y0 y1 y2 HXY HO2 C1 HK
          generalize wq.drewN nq = wb at *
          clear nq
          have hck : ¬ c = k := by omega
          obtain ⟨u, hu⟩ : ∃ u, n - k = u := ⟨_, rfl⟩
          have hu1 : k + u ≤ n := by omega
          have hu2 : n ≤ k + u := by omega
          go_wp2_with fail
          go_loopw [3, 5] (fun s3 s5 wi => ∃ (kk k2 : Nat) (dk : Array Ky), s3 = .int .i64 kk ∧ s5 = .int .i64 k2 ∧ 1 ≤ k2 ∧ k + k2 ≤ n ∧ Hid (CompInv d (k + k2) kk dk) ∧ Hid (wi.ownsRow base 86 3 (.slice (some ⟨g, 0, none⟩) n c) n (kyCells dk.toList)) ∧ Hid (Chg (fun q => q = g) w wi)) (fun _ s5 _ => n - (intOf s5).toNat)
          case atStart => exact ⟨k, 1, d, rfl, rfl, Nat.le_refl _, by omega, IQ, OQ, CQ⟩
          case round =>
            clear IQ OQ CQ
            obtain ⟨kk, k2, dk, rfl, rfl, h1, hle, IJ, OJ, CJ⟩ := hrel
            have hkk := IJ.out.lt
            have hds : dk.size = n := by rw [IJ.out.size, HDZ.out]
            by_cases hlt2 : k2 < u
            · have hlt2' : (k2 : Int) < (u : Int) := by omega
              obtain ⟨p, hp⟩ : ∃ p, p = k2 - 1 := ⟨_, rfl⟩
              have e2 : (k2 : Int) - 1 = (p : Int) := by omega
              have w_p : IntKind.i64.wrap (p : Int) = (p : Int) := by rw [IntKind.wrap_i64]; omega
              have hp1 : p + 1 = k2 := by omega
              clear hp
              obtain ⟨x, hx⟩ : ∃ x, d[k + k2]! = x := ⟨_, rfl⟩
              obtain ⟨y, hy⟩ : ∃ y, d[k + k2 - 1]! = y := ⟨_, rfl⟩
              have hX : dk.toList[k + k2]? = some x := by rw [toList_get dk _ (by omega), IJ.out.high _ (by omega), hx]
              have hY : dk.toList[k + p]? = some y := by rw [toList_get dk _ (by omega), IJ.out.high _ (by omega), ← hy, show k + p = k + k2 - 1 by omega]
              obtain ⟨_, e, -, -, -, -, x0, x1, x2⟩ := own_kyH OJ.out hX
              injection e with e
              injection e with e
              subst e
              obtain ⟨_, e, -, hgw, -, -, y0, y1, y2⟩ := own_kyH OJ.out hY
              injection e with e
              injection e with e
              subst e
              rw [Nat.add_mul] at x0 x1 x2 y0 y1 y2
              have HXY := Lib.hid (show d[k + k2]! = x ∧ d[k + k2 - 1]! = y from ⟨hx, hy⟩)
              have eK := fun W => equalKy x y W
              have hkz2 : (0 : Int) ≤ (k2 : Int) := by omega
              have hkkz : (0 : Int) ≤ (kk : Int) := by omega
              have hkkn : (kk : Int) < (n : Int) := by omega
              clear hx hy hX hY hp1
              by_cases hxy : x = y
              · have hs : sameKy x y = true := (sameKy_iff _ _).2 hxy
                rw [hs] at eK
                have IZ := Lib.hid (IJ.out.skip (keeps_neg (by omega) (by rw [HXY.out.1, HXY.out.2, hxy])))
                clear hxy hs IJ
                go_wp2_with fail
                go_quiet (fail)
                have OZ := Lib.hid (show (wr.drewN nq).ownsRow base 86 3 (.slice (some ⟨g, 0, none⟩) n c) n (kyCells dk.toList) from OJ.out)
                have CZ := Lib.hid (show Chg (fun q => q = g) w (wr.drewN nq) from CJ.out.trans (⟨rfl, rfl, rfl, Nat.le_refl _, fun _ _ _ => rfl⟩ : Chg (fun q => q = g) wr (wr.drewN nq)) (fun _ h => .inl h))
                clear eK x0 x1 x2 y0 y1 y2 OJ CJ hgw
                generalize wr.drewN nq = wz at *
                clear nq
                go_wp2
                go_roundw
                case rel => exact ⟨kk, k2 + 1, dk, rfl, by go_num, by omega, by omega, IZ, OZ, CZ⟩
                case measure => simp [intOf]; omega
              · have hs : sameKy x y = false := by
                  cases h : sameKy x y
                  · rfl
                  · exact absurd ((sameKy_iff _ _).1 h) hxy
                rw [hs] at eK
                have IZ := Lib.hid (IJ.out.keep (by rw [HDZ.out]; omega) (keeps_pos (by rw [HXY.out.1, HXY.out.2]; exact hxy)))
                rw [HXY.out.1] at IZ
                clear hxy hs IJ
                go_wp2_with fail
                go_quiet (fail)
                have OQ := Lib.hid (show (wr.drewN nq).ownsRow base 86 3 (.slice (some ⟨g, 0, none⟩) n c) n (kyCells dk.toList) from OJ.out)
                have CQ := Lib.hid (show Chg (fun q => q = g) w (wr.drewN nq) from CJ.out.trans (⟨rfl, rfl, rfl, Nat.le_refl _, fun _ _ _ => rfl⟩ : Chg (fun q => q = g) wr (wr.drewN nq)) (fun _ h => .inl h))
                have x0' : (wr.drewN nq).cell? ⟨g, k * 3 + k2 * 3, none⟩ = some (.int .i64 x.kind) := x0
                have x1' : (wr.drewN nq).cell? ⟨g, k * 3 + k2 * 3 + 1, none⟩ = some (.int .i64 x.id) := x1
                have x2' : (wr.drewN nq).cell? ⟨g, k * 3 + k2 * 3 + 2, none⟩ = some (.int .i64 x.adv) := x2
                have hgz : g < (wr.drewN nq).heap.size := hgw
                clear eK x0 x1 x2 y0 y1 y2 OJ CJ hgw
                generalize wr.drewN nq = wz at *
                clear nq
                obtain ⟨old, hold⟩ : ∃ o, dk.toList[kk]? = some o := ⟨_, toList_get dk kk (by omega)⟩
                obtain ⟨_, e, -, -, -, -, z0, z1, z2⟩ := own_kyH OQ.out hold
                injection e with e
                injection e with e
                subst e
                have f0 := own_frozenH OQ.out (kk * 3)
                have f1 := own_frozenH OQ.out (kk * 3 + 1)
                have f2 := own_frozenH OQ.out (kk * 3 + 2)
                clear hold
                have OZ := Lib.hid (show (((wz.setCell ⟨g, kk * 3, none⟩ (.int .i64 x.kind)).setCell ⟨g, kk * 3 + 1, none⟩ (.int .i64 x.id)).setCell ⟨g, kk * 3 + 2, none⟩ (.int .i64 x.adv)).ownsRow base 86 3 (.slice (some ⟨g, 0, none⟩) n c) n (kyCells (dk.setIfInBounds kk x).toList) by
                  rw [Array.toList_setIfInBounds, ky_set _ _ _ (by rw [Array.length_toList]; omega)]
                  exact own_setH (own_setH (own_setH OQ.out _ _) _ _) _ _)
                have CZ := Lib.hid (CQ.out.trans (chg_setCells g [.int .i64 x.kind, .int .i64 x.id, .int .i64 x.adv] (kk * 3) wz) (fun _ h => .inl h))
                clear OQ CQ
                go_wp2
                go_roundw
                case rel => exact ⟨kk + 1, k2 + 1, dk.setIfInBounds kk x, by go_num, by go_num, by omega, by omega, IZ, OZ, CZ⟩
                case measure => simp [intOf]; omega
            · have hge : ¬ (k2 : Int) < (u : Int) := by omega
              have hend : k + k2 = n := by omega
              have hkn2 : kk < n := by omega
              have IE := Lib.hid (show CompInv d n kk dk by rw [← hend]; exact IJ.out)
              have hcl := fun ty => run_clear_ky OJ.out kk (c - kk) ty hkn2
              have hck2 : ¬ c = kk := by omega
              have OZ := Lib.hid (own_cutK (own_setCells (List.replicate ((n - kk) * 3) (Value.int .i64 0)) (kk * 3) _ _ OJ.out) (m := kk) (by omega))
              have CZ := Lib.hid (CJ.out.trans (chg_setCells g (List.replicate ((n - kk) * 3) (Value.int .i64 0)) (kk * 3) wr) (fun _ h => .inl h))
              have hkkz : (0 : Int) ≤ (kk : Int) := by omega
              have hkkn : (kk : Int) ≤ (n : Int) := by omega
              clear OJ CJ IJ hend
              generalize wr.setCells g (kk * 3) (List.replicate ((n - kk) * 3) (Value.int .i64 0)) = wz at *
              go_wp2
              show Q (.returned (.slice (some ⟨g, 0, none⟩) kk c)) wz
              rw [← HQ.out]
              refine ⟨kk, rfl, ?_, ⟨CZ.out.os, CZ.out.tape, CZ.out.output, CZ.out.size, fun q hq hne => CZ.out.block q hq (fun e => hne (by rw [e]; rfl))⟩⟩
              have h1 := OZ.out
              rw [setAll_take _ _ _ _ (Nat.le_refl _), kyCells_take, take_of_inv IE.out (by omega), HD.out] at h1
              unfold dedupK
              rw [HL.out]
              exact h1
        · have hs : sameKy x y = false := by
            cases h : sameKy x y
            · rfl
            · exact absurd ((sameKy_iff _ _).1 h) hxy
          rw [hs] at eK
          have HZ := Lib.hid (show ∀ j, j < k + 1 → keeps d j = true from fun j hj => by
            by_cases e : j = k
            · rw [e]
              exact keeps_pos (by rw [HXY.out.1, HXY.out.2]; exact hxy)
            · exact HK.out j (by omega))
          obtain ⟨q1, hq1⟩ := HWQ.out
          have HWZ := Lib.hid (show ∀ m, ∃ q2, wq.drewN m = w.drewN q2 from fun m => ⟨q1 + m, by rw [hq1]; exact World.drewN_drewN _ _ _⟩)
          clear hxy hs HK hq1 HWQ
          go_wp2_with fail
          go_quiet (fail)
          obtain ⟨q2, hq2⟩ := HWZ.out nq
          have HQ2 := Lib.hid hq2
          clear eK x0 x1 x2 y0 y1 y2 hq2 HWZ
          go_wp2
          go_roundw
          case rel => exact ⟨k + 1, q2, by go_num, by omega, by omega, HZ, HQ2.out⟩
          case measure => simp [intOf]; omega
      · have hge : ¬ (k : Int) < (n : Int) := by omega
        have hkn2 : k = n := by omega
        go_wp2
        show Q (.returned (.slice (some ⟨g, 0, none⟩) n c)) (w.drewN q)
        rw [← HQ.out]
        refine ⟨n, rfl, ?_, ⟨rfl, rfl, rfl, Nat.le_refl _, fun _ _ _ => rfl⟩⟩
        rw [dedup_short (fun j hj => by rw [← HD.out]; exact HK.out j (by have := HL.out; omega))]
        exact HO.out
end Go.Proofs.Ytfdfdmbnggpnbaa
namespace Go.Proofs.Ytfdfdmbnggpnbaa
open Go.RowKit Go.Lib Go.Sort Go.Deep

/-- The keys of what is gone, in order, each once. -/
def goneL (S : List La) : List Ky := dedupK ((goneK S).mergeSort leKy)
def GoneQ (S : List La) (w : World) (e : Ending) (w' : World) : Prop :=
  ∃ (A : Option Addr) (m c : Nat), e = .returned (.slice A m c) ∧ Below w.heap.size w w' ∧ w'.ownsRow w.heap.size 86 3 (.slice A m c) m (kyCells (goneL S))
set_option maxRecDepth 8000 in
set_option maxHeartbeats 4000000 in
theorem goneS_any {w : World} {A : Option Addr} {n c : Nat} {S : List La} {B : Nat} (hS : Las w B A n S) (hB : B ≤ w.heap.size) (hn : n ≤ 100) : Calls Try.prog 21 #[.slice A n c] w (GoneQ S w) := by
  generalize hQ : GoneQ S w = Q
  have HQ := Lib.hid hQ
  have HS := Lib.hid hS
  have O0 := Lib.hid (World.ownsRow_nil w w.heap.size 86 3)
  have B0 := Lib.hid (Below.refl w.heap.size w)
  clear hQ hS
  go_enter Try.func21, Try.ntmps21
  go_wp2_with fail
  go_loopw [3, 8] (fun s3 s8 wr => ∃ (k m c' : Nat) (A' : Option Addr), s8 = .int .i64 k ∧ s3 = .slice A' m c' ∧ k ≤ n ∧ m ≤ k ∧ Hid (wr.ownsRow w.heap.size 86 3 (.slice A' m c') m (kyCells (goneK (S.take k)))) ∧ Hid (Below w.heap.size w wr)) (fun _ s8 _ => n - (intOf s8).toNat)
  case atStart => exact ⟨0, 0, 0, none, rfl, rfl, Nat.zero_le _, Nat.le_refl _, Lib.hid (by simpa [goneK, kyCells] using O0.out), B0⟩
  case round =>
    clear O0 B0
    obtain ⟨k, m, c', A', rfl, rfl, hk, hmk, OW, BW⟩ := hrel
    by_cases hlt : k < n
    · have hlt' : (k : Int) < (n : Int) := by omega
      obtain ⟨b, o, x, A1, n1, c1, A2, n2, c2, rfl, hb, hx, hr, -, -, -, -⟩ := las_item (HS.out.below (BW.out.mono hB)) hlt
      have HR := Lib.hid hr
      have HX := Lib.hid hx
      have hz := BW.out.size
      have BX := Lib.hid (BW.out.alloc hz (.cells #[.int .i64 x.h.age, .int .i64 x.h.kind, .int .i64 x.h.id, .int .i64 x.h.adv, .int .i64 x.h.seq, .int .i64 x.h.sum, .int .i64 x.h.long, .slice A1 n1 c1, .slice A2 n2 c2] 78))
      have KX := Lib.hid (Blk.new wr 78 #[.int .i64 x.h.age, .int .i64 x.h.kind, .int .i64 x.h.id, .int .i64 x.h.adv, .int .i64 x.h.seq, .int .i64 x.h.sum, .int .i64 x.h.long, .slice A1 n1 c1, .slice A2 n2 c2])
      have OX := Lib.hid (OW.out.alloc (.cells #[.int .i64 x.h.age, .int .i64 x.h.kind, .int .i64 x.h.id, .int .i64 x.h.adv, .int .i64 x.h.seq, .int .i64 x.h.sum, .int .i64 x.h.long, .slice A1 n1 c1, .slice A2 n2 c2] 78))
      have RX := Lib.hid (blk_range7 KX.out)
      clear hr hx OW BW
      go_wp2_with (first | refine wpList_load_row 78 _ _ (by rfl) (.tmp 10) rfl (by rfl) HR.out Try.underlying78 rfl (by kernel_rfl) ?_ | (refine wpList_load_row 78 _ _ (by rfl) (.tmp 5) rfl (by rfl) RX.out Try.underlying78 rfl (by kernel_rfl) ?_))
      refine (gone_any x A1 A2 n1 c1 n2 c2 _).mono ?_
      rintro e1 w1 ⟨rfl, hb1⟩
      generalize wr.alloc (.cells #[.int .i64 x.h.age, .int .i64 x.h.kind, .int .i64 x.h.id, .int .i64 x.h.adv, .int .i64 x.h.seq, .int .i64 x.h.sum, .int .i64 x.h.long, .slice A1 n1 c1, .slice A2 n2 c2] 78) = wx at *
      generalize wr.heap.size = X at *
      have hzx := BX.out.size
      have B1 := Lib.hid (BX.out.trans (hb1.mono hzx))
      have K1 := Lib.hid (KX.out.below hb1 KX.out.lt)
      have O1 := Lib.hid (own_chg OX.out (Chg.of_below (F := fun _ => False) hb1) (fun _ _ hf => hf))
      have hz1 := B1.out.size
      have R1 := Lib.hid (show w1.rangeAt X 0 [.int .i64 x.h.age, .int .i64 x.h.kind, .int .i64 x.h.id, .int .i64 x.h.adv, .int .i64 x.h.seq, .int .i64 x.h.sum, .int .i64 x.h.long] from head_range K1.out)
      have HT := Lib.hid (goneK_snoc (S.take k) x)
      rw [← take_snocA S k x HX.out] at HT
      clear hb1 BX KX OX RX hzx K1 HR HX
      cases hg : goneB x
      · have HT2 := Lib.hid (show goneK (S.take (k + 1)) = goneK (S.take k) by
          have := HT.out
          rwa [hg, if_neg (by decide)] at this)
        clear HT hg
        have O3 := Lib.hid (show w1.ownsRow w.heap.size 86 3 (.slice A' m c') m (kyCells (goneK (S.take (k + 1)))) by rw [HT2.out]; exact O1.out)
        clear R1 O1 HT2
        go_wp2
        go_roundw
        case rel => exact ⟨k + 1, m, c', A', by go_num, rfl, by omega, by omega, O3, B1⟩
        case measure => simp [intOf]; omega
      · have HT2 := Lib.hid (show goneK (S.take (k + 1)) = goneK (S.take k) ++ [kyL x] by
          have := HT.out
          rwa [hg, if_pos rfl] at this)
        clear HT hg
        go_wp2_with (first | refine wpList_load_row 43 _ _ (by rfl) (.tmp 15) rfl (by rfl) R1.out Try.underlying43 rfl (by kernel_rfl) ?_)
        refine (keyOf_any x.h _).mono ?_
        rintro e2 w2 ⟨rfl, hb2⟩
        have B2 := Lib.hid (B1.out.trans (hb2.mono hz1))
        have O2 := Lib.hid (own_chg O1.out (Chg.of_below (F := fun _ => False) hb2) (fun _ _ hf => hf))
        have hz2 := B2.out.size
        clear hb2 B1 O1 R1 hz1
        go_wp2_with (at_builtin; refine wpList_app_ky rfl (.tmp 14) (.tmp 18) rfl (kyL x) (by rfl) (by rfl) O2.out (by omega) hz2 ?_; intro A3 c3 w3 HO3 HB3)
        have O3 := Lib.hid (show w3.ownsRow w.heap.size 86 3 (.slice A3 (m + 1) c3) (m + 1) (kyCells (goneK (S.take (k + 1)))) by rw [HT2.out]; exact HO3.out)
        have B3 := Lib.hid (B2.out.trans HB3.out)
        clear HO3 HB3 O2 B2 HT2
        go_roundw
        case rel => exact ⟨k + 1, m + 1, c3, A3, by go_num, by first | rfl | go_num, by omega, by omega, O3, B3⟩
        case measure => simp [intOf]; omega
    · have hlt' : ¬ (k : Int) < (n : Int) := by omega
      have HT := Lib.hid (show goneK (S.take k) = goneK S by
        rw [List.take_of_length_le (by have := HS.out.1; omega)])
      rw [HT.out] at OW
      clear HT
      go_wp2_with (first | (go_at_call 52; refine (sort_keys7 OW.out (by omega)).mono ?_; rintro e1 w1 ⟨rfl, hk3, hgr⟩; have hz := BW.out.size; have B1 := Lib.hid (BW.out.trans (own_keeps7 OW.out hgr hz)); have O1 := Lib.hid hk3; clear hk3 hgr OW BW) | (go_at_call 54; refine (compact_any O1.out (by omega)).mono ?_; rintro e2 w2 ⟨m2, rfl, ho2, hc2⟩))
      show Q (.returned (.slice A' m2 c')) w2
      rw [← HQ.out]
      exact ⟨A', m2, c', rfl, B1.out.trans (hc2.to_below (fun q hq => (O1.out.lt q hq).1) B1.out.size), ho2⟩
end Go.Proofs.Ytfdfdmbnggpnbaa
namespace Go.Proofs.Ytfdfdmbnggpnbaa
open Go.RowKit Go.Lib Go.Sort Go.Deep

/-- A description that is but a head. -/
def la0 (h : Hd) : La := ⟨h, [], []⟩
def exA : Hd := ⟨0, 1, 1, 1, 0, 0, 0⟩
def exB : Hd := ⟨60, 1, 2, 2, 0, 0, 0⟩
theorem las_two {w : World} {X : Nat} (h1 h2 : Hd) (hB : Blk w X 78 #[.int .i64 h1.age, .int .i64 h1.kind, .int .i64 h1.id, .int .i64 h1.adv, .int .i64 h1.seq, .int .i64 h1.sum, .int .i64 h1.long, .slice none 0 0, .slice none 0 0, .int .i64 h2.age, .int .i64 h2.kind, .int .i64 h2.id, .int .i64 h2.adv, .int .i64 h2.seq, .int .i64 h2.sum, .int .i64 h2.long, .slice none 0 0, .slice none 0 0]) : Las w (X + 1) (some ⟨X, 0, none⟩) 2 [la0 h1, la0 h2] := by
  refine ⟨rfl, fun _ => ⟨X, 0, rfl, Nat.lt_succ_self X, fun j x hx => ?_⟩⟩
  match j, hx with
  | 0, hx =>
    injection hx with hx
    subst hx
    exact ⟨⟨hB.cell 0, hB.cell 1, hB.cell 2, hB.cell 3, hB.cell 4, hB.cell 5, hB.cell 6⟩, none, 0, 0, none, 0, 0, hB.cell 7, hB.cell 8, Lnk.nil, Row.nil, Nat.zero_le _, Nat.zero_le _⟩
  | 1, hx =>
    injection hx with hx
    subst hx
    exact ⟨⟨hB.cell 9, hB.cell 10, hB.cell 11, hB.cell 12, hB.cell 13, hB.cell 14, hB.cell 15⟩, none, 0, 0, none, 0, 0, hB.cell 16, hB.cell 17, Lnk.nil, Row.nil, Nat.zero_le _, Nat.zero_le _⟩
theorem ex_told : toldL [la0 exB, la0 exA] = [exA] := by
  unfold toldL
  rw [List.filter_cons_of_neg (by show ¬ (!((60 : Int) == 60)) = true; decide), List.filter_cons_of_pos (by show (!((0 : Int) == 60)) = true; decide)]
  rfl
theorem ex_gone : (goneL [la0 exA, la0 exB]).length = 1 := by
  have h : goneK [la0 exA, la0 exB] = [kyL (la0 exB)] := by
    unfold goneK
    rw [List.filter_cons_of_neg (by show ¬ ((0 : Int) == 60) = true; decide), List.filter_cons_of_pos (by show ((60 : Int) == 60) = true; decide)]
    rfl
  unfold goneL
  rw [h, List.mergeSort_singleton, dedup_short (fun j hj => keeps_lt_one _ j (by simpa using hj))]
  rfl
theorem keepS {w0 w' : World} (hb : Below w0.heap.size w0 w') : Below w0.heap.size w0 w' ∧ (∀ b o, b < w0.heap.size → w'.cell? ⟨b, o, none⟩ = w0.cell? ⟨b, o, none⟩) :=
  ⟨hb, fun b o h => hb.cell (p := ⟨b, o, none⟩) h⟩
theorem ord_one (x : Hd) : Ord lessH [x] := by simp [Ord]
set_option maxRecDepth 20000 in
set_option maxHeartbeats 8000000 in
theorem wakes_any (w : World) : Calls Try.prog 11 #[] w fun e w' => e = .returned (.bool true) ∧ Below w.heap.size w w' := by
  go_enter Try.func11, Try.ntmps11
  have B0 := Lib.hid ((((Below.refl w.heap.size w).alloc (Nat.le_refl _) (.cells #[.int .i64 0, .int .i64 1, .int .i64 1, .int .i64 1, .int .i64 0, .int .i64 0, .int .i64 0, .slice none 0 0, .slice none 0 0] 78)).alloc (by simp) (.cells #[.int .i64 60, .int .i64 1, .int .i64 2, .int .i64 2, .int .i64 0, .int .i64 0, .int .i64 0, .slice none 0 0, .slice none 0 0] 78)).alloc (by simp; omega) (.cells #[.int .i64 60, .int .i64 1, .int .i64 2, .int .i64 2, .int .i64 0, .int .i64 0, .int .i64 0, .slice none 0 0, .slice none 0 0, .int .i64 0, .int .i64 1, .int .i64 1, .int .i64 1, .int .i64 0, .int .i64 0, .int .i64 0, .slice none 0 0, .slice none 0 0] 78))
  have KA := Lib.hid (((Blk.new w 78 #[.int .i64 0, .int .i64 1, .int .i64 1, .int .i64 1, .int .i64 0, .int .i64 0, .int .i64 0, .slice none 0 0, .slice none 0 0]).alloc (.cells #[.int .i64 60, .int .i64 1, .int .i64 2, .int .i64 2, .int .i64 0, .int .i64 0, .int .i64 0, .slice none 0 0, .slice none 0 0] 78)).alloc (.cells #[.int .i64 60, .int .i64 1, .int .i64 2, .int .i64 2, .int .i64 0, .int .i64 0, .int .i64 0, .slice none 0 0, .slice none 0 0, .int .i64 0, .int .i64 1, .int .i64 1, .int .i64 1, .int .i64 0, .int .i64 0, .int .i64 0, .slice none 0 0, .slice none 0 0] 78))
  have KB := Lib.hid ((Blk.new (w.alloc (.cells #[.int .i64 0, .int .i64 1, .int .i64 1, .int .i64 1, .int .i64 0, .int .i64 0, .int .i64 0, .slice none 0 0, .slice none 0 0] 78)) 78 #[.int .i64 60, .int .i64 1, .int .i64 2, .int .i64 2, .int .i64 0, .int .i64 0, .int .i64 0, .slice none 0 0, .slice none 0 0]).alloc (.cells #[.int .i64 60, .int .i64 1, .int .i64 2, .int .i64 2, .int .i64 0, .int .i64 0, .int .i64 0, .slice none 0 0, .slice none 0 0, .int .i64 0, .int .i64 1, .int .i64 1, .int .i64 1, .int .i64 0, .int .i64 0, .int .i64 0, .slice none 0 0, .slice none 0 0] 78))
  have KC := Lib.hid (Blk.new ((w.alloc (.cells #[.int .i64 0, .int .i64 1, .int .i64 1, .int .i64 1, .int .i64 0, .int .i64 0, .int .i64 0, .slice none 0 0, .slice none 0 0] 78)).alloc (.cells #[.int .i64 60, .int .i64 1, .int .i64 2, .int .i64 2, .int .i64 0, .int .i64 0, .int .i64 0, .slice none 0 0, .slice none 0 0] 78)) 78 #[.int .i64 60, .int .i64 1, .int .i64 2, .int .i64 2, .int .i64 0, .int .i64 0, .int .i64 0, .slice none 0 0, .slice none 0 0, .int .i64 0, .int .i64 1, .int .i64 1, .int .i64 1, .int .i64 0, .int .i64 0, .int .i64 0, .slice none 0 0, .slice none 0 0])
  rw [show (w.alloc (.cells #[.int .i64 0, .int .i64 1, .int .i64 1, .int .i64 1, .int .i64 0, .int .i64 0, .int .i64 0, .slice none 0 0, .slice none 0 0] 78)).heap.size = w.heap.size + 1 by simp] at KB
  rw [show ((w.alloc (.cells #[.int .i64 0, .int .i64 1, .int .i64 1, .int .i64 1, .int .i64 0, .int .i64 0, .int .i64 0, .slice none 0 0, .slice none 0 0] 78)).alloc (.cells #[.int .i64 60, .int .i64 1, .int .i64 2, .int .i64 2, .int .i64 0, .int .i64 0, .int .i64 0, .slice none 0 0, .slice none 0 0] 78)).heap.size = w.heap.size + 1 + 1 by simp] at KC
  go_wp2_with fail
  generalize ((w.alloc (.cells #[.int .i64 0, .int .i64 1, .int .i64 1, .int .i64 1, .int .i64 0, .int .i64 0, .int .i64 0, .slice none 0 0, .slice none 0 0] 78)).alloc (.cells #[.int .i64 60, .int .i64 1, .int .i64 2, .int .i64 2, .int .i64 0, .int .i64 0, .int .i64 0, .slice none 0 0, .slice none 0 0] 78)).alloc (.cells #[.int .i64 60, .int .i64 1, .int .i64 2, .int .i64 2, .int .i64 0, .int .i64 0, .int .i64 0, .slice none 0 0, .slice none 0 0, .int .i64 0, .int .i64 1, .int .i64 1, .int .i64 1, .int .i64 0, .int .i64 0, .int .i64 0, .slice none 0 0, .slice none 0 0] 78) = w0 at *
  have hz0 := B0.out.size
  refine (new_any (las_two exB exA KC.out) (by have := KC.out.lt; omega) (by omega)).mono ?_
  rintro e1 w1 ⟨p, A, n, c, K, rfl, hb1, hp1, hbl, hrow, hord, hst⟩
  rw [ex_told] at hst
  have hK := stab_unique swo_less (ord_one exA) hord hst
  subst hK
  have SM := Lib.hid (sum_new hp1 hbl hrow)
  have hn1 : n = 1 := by have := SM.out.len; simpa using this.symm
  subst hn1
  have KA1 := Lib.hid (KA.out.below hb1 KA.out.lt)
  have KB1 := Lib.hid (KB.out.below hb1 KB.out.lt)
  have B1 := Lib.hid (B0.out.trans (hb1.mono hz0))
  clear hb1 hp1 hbl hrow hord hst KA KB KC B0 hz0
  go_wp2_with fail
  refine (pieceP_any SM.out (by omega)).mono ?_
  rintro e2 w2 ⟨A3, m3, c3, rfl, hb2, hrow⟩
  have hm3 : m3 = 1 := by have := own_lenH encHd_len (by omega) hrow; simpa using this.symm
  subst hm3
  obtain ⟨g3, rfl, -, hg3, hc1, hc2, hat⟩ := own_item encHd_len (by omega) hrow (j := 0) (x := exA) rfl
  have KA2 := Lib.hid (KA1.out.below hb2 KA1.out.lt)
  have KB2 := Lib.hid (KB1.out.below hb2 KB1.out.lt)
  have B2 := Lib.hid (B1.out.trans (hb2.mono B1.out.size))
  unfold maxLen at hc2
  clear hb2 hrow KA1 KB1 B1 SM
  go_wp2_with fail
  have x0 : w2.cell? ⟨g3, 0, none⟩ = some (.int .i64 0) := hat 0 (by omega)
  have x1 : w2.cell? ⟨g3, 1, none⟩ = some (.int .i64 1) := hat 1 (by omega)
  have x2 : w2.cell? ⟨g3, 2, none⟩ = some (.int .i64 1) := hat 2 (by omega)
  have x3 : w2.cell? ⟨g3, 3, none⟩ = some (.int .i64 1) := hat 3 (by omega)
  have x4 : w2.cell? ⟨g3, 4, none⟩ = some (.int .i64 0) := hat 4 (by omega)
  have x5 : w2.cell? ⟨g3, 5, none⟩ = some (.int .i64 0) := hat 5 (by omega)
  have x6 : w2.cell? ⟨g3, 6, none⟩ = some (.int .i64 0) := hat 6 (by omega)
  obtain ⟨a0, a1, a2, a3, a4, a5, a6, a7, a8⟩ := KA2.out.nine
  obtain ⟨b0, b1, b2, b3, b4, b5, b6, b7, b8⟩ := KB2.out.nine
  have hla := KA2.out.lt
  have hlb := KB2.out.lt
  have hz2 := B2.out.size
  have eH : ∀ W, (Op.equalIn 10000 43 (.agg #[.int .i64 0, .int .i64 1, .int .i64 1, .int .i64 1, .int .i64 0, .int .i64 0, .int .i64 0]) (.agg #[.int .i64 0, .int .i64 1, .int .i64 1, .int .i64 1, .int .i64 0, .int .i64 0, .int .i64 0])).run Try.prog W = .ok true W := fun W => by
    have := equalHd exA exA W
    rwa [show sameHd exA exA = true from (sameHd_iff _ _).2 rfl] at this
  have BR : Below w2.heap.size w2 w2.drew := ⟨rfl, rfl, rfl, Nat.le_refl _, fun _ _ => rfl⟩
  have BR2 := BR.alloc (Nat.le_refl _) (.cells #[.int .i64 0, .int .i64 1, .int .i64 1, .int .i64 1, .int .i64 0, .int .i64 0, .int .i64 0, .slice none 0 0, .slice none 0 0, .int .i64 60, .int .i64 1, .int .i64 2, .int .i64 2, .int .i64 0, .int .i64 0, .int .i64 0, .slice none 0 0, .slice none 0 0] 78)
  have L2 := Lib.hid (las_two exA exB (Blk.new w2.drew 78 #[.int .i64 0, .int .i64 1, .int .i64 1, .int .i64 1, .int .i64 0, .int .i64 0, .int .i64 0, .slice none 0 0, .slice none 0 0, .int .i64 60, .int .i64 1, .int .i64 2, .int .i64 2, .int .i64 0, .int .i64 0, .int .i64 0, .slice none 0 0, .slice none 0 0]))
  have HZL := Lib.hid (Nat.succ_le_of_lt (Blk.new w2.drew 78 #[.int .i64 0, .int .i64 1, .int .i64 1, .int .i64 1, .int .i64 0, .int .i64 0, .int .i64 0, .slice none 0 0, .slice none 0 0, .int .i64 60, .int .i64 1, .int .i64 2, .int .i64 2, .int .i64 0, .int .i64 0, .int .i64 0, .slice none 0 0, .slice none 0 0]).lt)
  have BR2d : Below w2.heap.size w2 (w2.alloc (.cells #[.int .i64 0, .int .i64 1, .int .i64 1, .int .i64 1, .int .i64 0, .int .i64 0, .int .i64 0, .slice none 0 0, .slice none 0 0, .int .i64 60, .int .i64 1, .int .i64 2, .int .i64 2, .int .i64 0, .int .i64 0, .int .i64 0, .slice none 0 0, .slice none 0 0] 78)).drew := BR2
  clear hat
  go_region_held3 (fun w' => Below w2.heap.size w2 w' ∧ (∀ b o, b < w2.heap.size → w'.cell? ⟨b, o, none⟩ = w2.cell? ⟨b, o, none⟩)) ((refine keepS ?_; first | with_reducible exact BR | with_reducible exact BR2 | with_reducible exact BR2d | with_reducible exact BR3)) (first | (go_at_call 21; refine (goneS_any L2.out HZL.out (by omega)).mono ?_; rintro e3 w3 ⟨A4, m4, c4, rfl, hb3, hrow4⟩; have BR3 := BR2.trans (hb3.mono BR2.size); obtain rfl : m4 = 1 := by (have := hrow4.1; rw [kyCells_length, ex_gone] at this; omega)))
  all_goals (go_wp2; go_ret; exact ⟨rfl, B2.out.trans (BR3.mono hz2)⟩)
end Go.Proofs.Ytfdfdmbnggpnbaa
