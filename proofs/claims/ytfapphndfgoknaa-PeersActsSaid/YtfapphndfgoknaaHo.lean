/- The reference's Hear: a new neighbor put in; the rest of it. Conditions: what the words say. -/
import Derived.Test.YtfapphndfgoknaaHk
import Derived.Test.YtfapphndfgoknaaHn
namespace Go.Proofs.Ytfapphndfgoknaa
open Go.RowKit Go.Deep

theorem put_put {a b : Pe} (hab : a.id = b.id) : ∀ X : List Pe, putP a (putP b X) = putP a X
  | [] => by
    unfold putP
    simp [putP, hab]
  | x :: l => by
    have ih := put_put hab l
    by_cases h1 : b.id < x.id
    · have e1 : putP b (x :: l) = b :: x :: l := by unfold putP; rw [if_pos h1]
      have e2 : putP a (x :: l) = a :: x :: l := by unfold putP; rw [if_pos (by omega)]
      rw [e1, e2]
      unfold putP
      rw [if_neg (by omega), if_pos hab]
    · by_cases h2 : b.id = x.id
      · have e1 : putP b (x :: l) = b :: l := by unfold putP; rw [if_neg h1, if_pos h2]
        have e2 : putP a (x :: l) = a :: l := by unfold putP; rw [if_neg (by omega), if_pos (by omega)]
        rw [e1, e2]
        unfold putP
        rw [if_neg (by omega), if_pos hab]
      · have e1 : putP b (x :: l) = x :: putP b l := by conv => lhs; unfold putP; rw [if_neg h1, if_neg h2]
        have e2 : putP a (x :: l) = x :: putP a l := by conv => lhs; unfold putP; rw [if_neg (by omega), if_neg (by omega)]
        rw [e1, e2]
        conv => lhs; unfold putP
        rw [if_neg (by omega), if_neg (by omega), ih]
theorem put_self {X : List Pe} {x : Pe} {i : Int} (hs : Srt X) (h : findP X i = some x) : putP x X = X := by
  rcases posI_cases i X with ⟨_, e2⟩ | ⟨k, y, _, e2, e3⟩
  · rw [e2] at h; cases h
  · rw [e3] at h
    injection h with h
    subst h
    rw [← set_put (findP_is e3).2 hs.rise e2 (findP_is e3).2]
    have hk := (List.getElem?_eq_some_iff.1 e2)
    obtain ⟨h1, h2⟩ := hk
    rw [← h2]
    exact List.set_getElem_self h1
theorem foldN_next {n : Pe} {L : List Pe} {j : Nat} {x : Pe} (h : L[j]? = some x) : foldN n (L.take (j + 1)) = stepN n (foldN n (L.take j)) x := by
  unfold foldN
  rw [take_snocA L j x h, List.foldl_append]
  rfl
theorem foldN_le (n : Pe) (L : List Pe) : (foldN n L).1.length ≤ L.length + 1 := by
  have := (foldN_len n L ([], false)).1
  simpa [foldN] using this
theorem Chg.new {F : Nat → Prop} {w w1 : World} (h : Chg F w w1) (a : Addr) (ha : w.heap.size ≤ a.block) (u : Value) : Chg F w (w1.setCell a u) :=
  h.trans (chg_put (F := fun k => k = a.block) w1 u rfl) (fun k hk => .inr (by rw [hk]; exact ha))
theorem RDb.far {w : World} {q : Nat} {G : Nat → Prop} {sf lan : Int} {X : List Pe} {A : Option Addr} {n c : Nat} (h : RDb w q G sf lan X A n c) {a : Addr} (hg : ¬ G a.block) (u : Value) : RDb (w.setCell a u) q G sf lan X A n c :=
  h.chg (chg_put (F := fun k => k = a.block) w u rfl) (fun k hk e => hg (by rw [← e]; exact hk))
theorem RDb.drew {w : World} {q : Nat} {G : Nat → Prop} {sf lan : Int} {X : List Pe} {A : Option Addr} {n c : Nat} (h : RDb w q G sf lan X A n c) : RDb w.drew q G sf lan X A n c := ⟨h.obj.drew, own_drew7 h.row, h.gq, h.gr, h.gl⟩
theorem Row.put {k : IntKind} {w : World} {B n : Nat} {A : Option Addr} {l : List Int} (h : Row k w B A n l) {a : Addr} (ha : B ≤ a.block) (u : Value) : Row k (w.setCell a u) B A n l :=
  h.keep (fun q hq => World.cell?_setCell_other w _ _ _ (fun e => by rw [← e] at hq; omega))
def hearL (w3 : World) (X : List Pe) (i : Int) (n0 : Nat) (s10 s11 s12 : Value) (wr : World) : Prop :=
  ∃ (j m c' : Nat) (A' : Option Addr), j ≤ n0 ∧ s12 = .int .i64 j ∧ s10 = .slice A' m c' ∧ s11 = .bool (foldN (newP i) (X.take j)).2 ∧ Hid (wr.ownsRow w3.heap.size 47 7 (.slice A' m c') m (cellsBy encPe (foldN (newP i) (X.take j)).1)) ∧ Hid (Below w3.heap.size w3 wr)
/-- The list with the sender in it, in memory. -/
def inQ (w : World) (q : Nat) (G : Nat → Prop) (sf lan : Int) (X : List Pe) (i : Int) (B g r : Nat) (w' : World) : Prop :=
  ∃ (G' : Nat → Prop) (A' : Option Addr) (n' c' : Nat), RDb w' q G' sf lan (putP (wasP X i) X) A' n' c' ∧ (∀ k, G' k → (G k ∨ g ≤ k) ∧ (k < g ∨ r < k) ∧ B ≤ k) ∧ Chg G w w'

set_option maxRecDepth 8000 in
set_option maxHeartbeats 16000000 in
theorem hear_ref {w : World} {q B : Nat} {G : Nat → Prop} {sf lan : Int} {X : List Pe} {A0 : Option Addr} {n0 c0 : Nat} (i : Int) (h : Hl) (now : Int) (A : Option Addr) (n c : Nat) (hh : wfHl h) (hD : RDb w q G sf lan X A0 n0 c0) (hs : Srt X) (hl : 0 ≤ lan ∧ lan ≤ 3) (hL : Row .i64 w B A n h.seen) (hn : n ≤ maxLen)
    (hB : ∀ k, G k → B ≤ k) (hBw : B ≤ w.heap.size) (hnow : 0 ≤ now ∧ now ≤ 1048576) :
    Calls Try.prog 9 #[.pointer (some ⟨q, 0, none⟩), .int .i64 i, .agg #[.int .i64 h.every, .int .i64 h.dead, .int .i64 h.prio, .int .i64 h.dr, .int .i64 h.bdr, .slice A n c], .int .i64 now] w fun e w' => (∃ r : Hd, e = .returned (.agg #[.bool r.taken, .bool r.fresh, .bool r.two, .bool r.one, .bool r.bears]) ∧ r = hearH sf lan X i h now) ∧ (∃ G' A' n' c', RDb w' q G' sf lan (hearX sf lan X i h now) A' n' c' ∧ ∀ k, G' k → G k ∨ w.heap.size ≤ k) ∧ Chg G w w' := by
  generalize hQ : (fun (e : Ending) (w' : World) => (∃ r : Hd, e = .returned (.agg #[.bool r.taken, .bool r.fresh, .bool r.two, .bool r.one, .bool r.bears]) ∧ r = hearH sf lan X i h now) ∧ (∃ G' A' n' c', RDb w' q G' sf lan (hearX sf lan X i h now) A' n' c' ∧ ∀ k, G' k → G k ∨ w.heap.size ≤ k) ∧ Chg G w w') = Q
  have HQ := Lib.hid hQ
  have HGL := Lib.hid hD.gl
  have HH := Lib.hid hh
  have HMX := Lib.hid hn
  have HSX := Lib.hid hs
  have HLAN := Lib.hid hl
  have HGB := Lib.hid hB
  have HBW := Lib.hid hBw
  have HNOW := Lib.hid hnow
  have B6 := (Below.refl w.heap.size w).alloc (Nat.le_refl _) (.cells #[.int .i64 h.every, .int .i64 h.dead, .int .i64 h.prio, .int .i64 h.dr, .int .i64 h.bdr, .slice A n c] 32)
  have B0 := Lib.hid (B6.alloc (by simp) (.cells #[.bool false, .bool false, .bool false, .bool false, .bool false] 36))
  have K60 := Lib.hid ((Blk.new w 32 #[.int .i64 h.every, .int .i64 h.dead, .int .i64 h.prio, .int .i64 h.dr, .int .i64 h.bdr, .slice A n c]).alloc (.cells #[.bool false, .bool false, .bool false, .bool false, .bool false] 36))
  have K8' := Blk.new (w.alloc (.cells #[.int .i64 h.every, .int .i64 h.dead, .int .i64 h.prio, .int .i64 h.dr, .int .i64 h.bdr, .slice A n c] 32)) 36 #[.bool false, .bool false, .bool false, .bool false, .bool false]
  rw [World.size_alloc] at K8'
  have K80 := Lib.hid K8'
  have D0 := Lib.hid (hD.below B0.out)
  have R0 := Lib.hid (hL.below (B0.out.mono hBw))
  have HN0 := Lib.hid (show n0 ≤ 15 by have := hD.len; have := hs.len; omega)
  have HLEN := Lib.hid hD.len
  clear hQ hh hD hL hn B6 K8' hs hl hB hBw hnow
  have hb36 : ∀ W, (Instr.build 36 #[]).run Try.prog W = .ok (.agg #[.bool false, .bool false, .bool false, .bool false, .bool false]) W := fun W => by kernel_rfl
  have hb36b : ∀ W, (Instr.build 36 #[(0, .bool true)]).run Try.prog W = .ok (.agg #[.bool true, .bool false, .bool false, .bool false, .bool false]) W := fun W => by kernel_rfl
  go_enter Try.func9, Try.ntmps9
  go_upto_region 1 with fail
  try simp only [World.size_alloc]
  generalize (w.alloc (.cells #[.int .i64 h.every, .int .i64 h.dead, .int .i64 h.prio, .int .i64 h.dr, .int .i64 h.bdr, .slice A n c] 32)).alloc (.cells #[.bool false, .bool false, .bool false, .bool false, .bool false] 36) = w0 at *
  generalize hg : w.heap.size = g at *
  have HG := Lib.hid hg
  clear hg
  obtain ⟨i0, i1, i2, i3, i4, i5⟩ := K60.out.six
  have hl0 := K80.out.lt
  cases ht : takesB sf lan i h
  · have HT := Lib.hid ht
    clear ht
    go_wp2_with (first
      | (go_at_call 25; refine (takes_ref i h A n c D0.out HLAN.out).mono ?_; rintro e1 w1 ⟨rfl, hb1⟩; rw [HT.out]; have K81 := Lib.hid (K80.out.below hb1 K80.out.lt); have D1 := Lib.hid (D0.out.below hb1); have B1 := Lib.hid (B0.out.trans (hb1.mono (by omega))); have hl1 := K81.out.lt; clear i0 i1 i2 i3 i4 i5 hl0 hb1)
      | (refine wpList_store_hd noHd rfl _ _ rfl rfl rfl K81.out ?_; intro w2 HK2 HC2))
    have B2 := Lib.hid (show Below g w w2 from B1.out.trans (Chg.to_below (B := g) HC2.out (fun k hk => by rw [hk]; omega) (by omega)))
    obtain ⟨m0, m1, m2, m3, m4⟩ := HK2.out.five
    refine bodyPost_ret (v := .agg #[.bool noHd.taken, .bool noHd.fresh, .bool noHd.two, .bool noHd.one, .bool noHd.bears]) (by simp [results, Try.results9, go_sem, *]) rfl ?_
    rw [← HQ.out]
    refine ⟨⟨noHd, rfl, by unfold hearH; rw [HT.out]; rfl⟩, ⟨G, A0, n0, c0, ?_, fun k hk => .inl hk⟩, Chg.of_below (by rw [HG.out]; exact B2.out)⟩
    unfold hearX
    rw [HT.out]
    exact D1.out.chg HC2.out (fun k hk e => by have := HGL.out k hk; omega)
  · have HT := Lib.hid ht
    have HR := Lib.hid (show 1 ≤ i ∧ i ≤ 15 by simp [takesB] at ht; omega)
    clear ht hb36
    go_upto_region 4 with (go_at_call 25; refine (takes_ref i h A n c D0.out HLAN.out).mono ?_; rintro e1 w1 ⟨rfl, hb1⟩; rw [HT.out]; have K81 := Lib.hid (K80.out.below hb1 K80.out.lt); have K61 := Lib.hid (K60.out.below hb1 K60.out.lt); have R1 := Lib.hid (show Row .i64 w1 B A n h.seen from R0.out.below (hb1.mono (by have := HBW.out; omega))); have D1 := Lib.hid (D0.out.below hb1); have B1 := Lib.hid (B0.out.trans (hb1.mono (by omega))); have hl1 := K81.out.lt; clear i0 i1 i2 i3 i4 i5 hl0 hb1 K60 K80 D0 R0 B0)
    have K62 := Lib.hid (K61.out.alloc (.cells #[.bool true, .bool false, .bool false, .bool false, .bool false] 36))
    have K82 := Lib.hid (K81.out.alloc (.cells #[.bool true, .bool false, .bool false, .bool false, .bool false] 36))
    have K92 := Lib.hid (Blk.new w1 36 #[.bool true, .bool false, .bool false, .bool false, .bool false])
    have D2 := Lib.hid (D1.out.below ((Below.refl _ _).alloc (Nat.le_refl _) (.cells #[.bool true, .bool false, .bool false, .bool false, .bool false] 36)))
    have R2 := Lib.hid (show Row .i64 (w1.alloc (.cells #[.bool true, .bool false, .bool false, .bool false, .bool false] 36)) B A n h.seen from R1.out.below ((Below.refl _ _).alloc (by have := HBW.out; omega) (.cells #[.bool true, .bool false, .bool false, .bool false, .bool false] 36)))
    have B2 := Lib.hid (show Below g w (w1.alloc (.cells #[.bool true, .bool false, .bool false, .bool false, .bool false] 36)) from B1.out.alloc (by omega) (.cells #[.bool true, .bool false, .bool false, .bool false, .bool false] 36))
    have HR9 := Lib.hid (show g + 1 < w1.heap.size from hl1)
    clear K61 K81 D1 R1 B1 hl1
    generalize w1.alloc (.cells #[.bool true, .bool false, .bool false, .bool false, .bool false] 36) = w2 at *
    generalize w1.heap.size = r at *
    have hl9 := K92.out.lt
    obtain ⟨pz, hpz⟩ : ∃ pz, posI i X = pz := ⟨_, rfl⟩
    have HPZ := Lib.hid hpz
    clear hpz
    go_upto_if 26 with (go_at_call 26; refine (find_ref i D2.out (by have := HN0.out; omega)).mono ?_; rintro e3 wq ⟨rfl, hq⟩; rw [hq, HPZ.out]; clear hq wq)
    go_cut [9] from 10 to 79 (fun s9 wx => ∃ fr : Bool, s9 = .pointer (some ⟨r, 0, none⟩) ∧ Hid (fr = (findP X i).isNone) ∧ Hid (Blk wx r 36 #[.bool true, .bool fr, .bool false, .bool false, .bool false]) ∧ Hid (Blk wx g 32 #[.int .i64 h.every, .int .i64 h.dead, .int .i64 h.prio, .int .i64 h.dr, .int .i64 h.bdr, .slice A n c]) ∧ Hid (Blk wx (g + 1) 36 #[.bool false, .bool false, .bool false, .bool false, .bool false]) ∧ Hid (Row .i64 wx B A n h.seen) ∧ Hid (inQ w q G sf lan X i B g r wx))
    case first =>
      have HNG := Lib.hid (show ∀ k, G k → (G k ∨ g ≤ k) ∧ (k < g ∨ r < k) ∧ B ≤ k from fun k hk => ⟨.inl hk, .inl (HGL.out k hk), HGB.out k hk⟩)
      rcases posI_cases i X with ⟨e1, e2⟩ | ⟨k, x, e1, e2, e3⟩
      · have HE1 := Lib.hid e1
        have HF := Lib.hid e2
        clear e1 e2
        have hkd : decide ((-1 : Int) < 0) = true := by decide
        rw [← HPZ.out, HE1.out, hkd]
        have z1 := K92.out.frozen 1
        obtain ⟨m0, m1, m2, m3, m4⟩ := K92.out.five
        go_upto_region 6 with fail
        have K93 := Lib.hid (show Blk (w2.setCell ⟨r, 1, none⟩ (.bool true)) r 36 #[.bool true, .bool true, .bool false, .bool false, .bool false] from K92.out.put 1 _)
        have K63 := Lib.hid (K62.out.far (p := ⟨r, 1, none⟩) (show g ≠ r by have := HR9.out; omega) (.bool true))
        have K83 := Lib.hid (K82.out.far (p := ⟨r, 1, none⟩) (show g + 1 ≠ r by have := HR9.out; omega) (.bool true))
        have D3 := Lib.hid (D2.out.far (a := ⟨r, 1, none⟩) (fun hk => by have := HGL.out r hk; have := HR9.out; omega) (.bool true))
        have R3 := Lib.hid (R2.out.put (a := ⟨r, 1, none⟩) (show B ≤ r by have := HBW.out; have := HR9.out; omega) (.bool true))
        have B3 := Lib.hid (B2.out.setCell (p := ⟨r, 1, none⟩) (show g ≤ r by have := HR9.out; omega) (.bool true))
        clear K62 K82 K92 D2 R2 B2 z1 m0 m1 m2 m3 m4 hl9
        generalize w2.setCell ⟨r, 1, none⟩ (.bool true) = w3 at *
        have HL3 := Lib.hid (show r < w3.heap.size from K93.out.lt)
        have HNI := Lib.hid (show (newP i).id = i from rfl)
        have HNE := Lib.hid (show ∀ x ∈ X, x.id ≠ (newP i).id from findP_no HF.out)
        go_wp2_with fail
        go_loopw [10, 11, 12] (fun s10 s11 s12 wr => hearL w3 X i n0 s10 s11 s12 wr) (fun _ _ i _ => n0 - (intOf i).toNat)
        case atStart => exact ⟨0, 0, 0, none, Nat.zero_le _, rfl, rfl, rfl, Lib.hid (World.ownsRow_nil _ _ _ _), Lib.hid (Below.refl _ _)⟩
        case round =>
          obtain ⟨j, m, c', A', hj, rfl, rfl, rfl, HR4, HB4⟩ := hrel
          obtain ⟨dn, hdn⟩ : ∃ dn, (foldN (newP i) (X.take j)).2 = dn := ⟨_, rfl⟩
          have HDN := Lib.hid hdn.symm
          rw [hdn]
          clear hdn
          have DR := Lib.hid (D3.out.below HB4.out)
          obtain ⟨cq0, cq1, cq2⟩ := DR.out.cells
          have hql := DR.out.obj.lt
          have hm := own_len encPe_len (by omega) HR4.out
          have HM := Lib.hid (show m ≤ 20 by
            rw [← hm]
            have h1 := foldN_le (newP i) (X.take j)
            have h2 : (X.take j).length ≤ X.length := by simp; omega
            have := HLEN.out
            have := HN0.out
            omega)
          clear hm
          have hs1 := HB4.out.size
          by_cases hlt : j < n0
          · have hlt' : (j : Int) < n0 := by omega
            obtain ⟨x, hx⟩ : ∃ x, X[j]? = some x := ⟨X[j]'(by have := HLEN.out; omega), List.getElem?_eq_getElem (by have := HLEN.out; omega)⟩
            obtain ⟨ga, rfl, -, hgl, hnc, hcm, hrg, y0, -⟩ := own_pe DR.out.row hx
            have RG := Lib.hid hrg
            have HST := Lib.hid (foldN_next (n := newP i) hx)
            have HX := Lib.hid hx
            unfold maxLen at hcm
            clear hx hrg
            have HM1 := HM.out
            cases dn
            · by_cases hix : i < x.id
              · have d0 : decide (i < x.id) = true := by simpa using hix
                have HS1 := Lib.hid (show (foldN (newP i) (X.take j)).1 ++ [newP i] ++ [x] = (foldN (newP i) (X.take (j + 1))).1 by
                  rw [HST.out]
                  unfold stepN
                  rw [if_pos ⟨HDN.out.symm, by rw [HNI.out]; exact hix⟩]
                  simp)
                have HS2 := Lib.hid (show true = (foldN (newP i) (X.take (j + 1))).2 by
                  rw [HST.out]
                  unfold stepN
                  rw [if_pos ⟨HDN.out.symm, by rw [HNI.out]; exact hix⟩])
                clear hix
                go_upto_region 13 with (at_builtin; refine wpList_app_pe rfl _ _ rfl (newP i) (by rfl) (by rfl) HR4.out (by omega) hs1 ?_; intro A5 c5 w5 ho5 hb5)
                have HB5 := Lib.hid (HB4.out.trans hb5.out)
                have D5 := Lib.hid (D3.out.below HB5.out)
                obtain ⟨g2, e2, -, hgl5, -, -, hrg5, -, -⟩ := own_pe D5.out.row HX.out
                injection e2 with e2
                injection e2 with e2
                subst e2
                have RG5 := Lib.hid hrg5
                clear cq0 cq1 cq2 hql hgl y0 hrg5
                obtain ⟨cq0, cq1, cq2⟩ := D5.out.cells
                have hql := D5.out.obj.lt
                have hs5 := HB5.out.size
                go_wp2_with (first
                  | (refine wpList_load_pe (y := x) (by rfl) _ rfl (by rfl) RG5.out ?_)
                  | (at_builtin; refine wpList_app_pe rfl _ _ rfl x (by rfl) (by rfl) ho5.out (by omega) hs5 ?_; intro A6 c6 w6 ho6 hb6))
                rw [HS1.out] at ho6
                have HB6 := Lib.hid (HB5.out.trans hb6.out)
                go_roundw
                case rel => exact ⟨j + 1, m + 1 + 1, c6, A6, by omega, by go_num, rfl, by rw [← HS2.out], ho6, HB6⟩
                case measure => simp [intOf]; omega
              · have d0 : decide (i < x.id) = false := by simpa using hix
                have HS1 := Lib.hid (show (foldN (newP i) (X.take j)).1 ++ [x] = (foldN (newP i) (X.take (j + 1))).1 by
                  rw [HST.out]
                  unfold stepN
                  rw [if_neg (fun hc => hix hc.2)])
                have HS2 := Lib.hid (show false = (foldN (newP i) (X.take (j + 1))).2 by
                  rw [HST.out]
                  unfold stepN
                  rw [if_neg (fun hc => hix hc.2)]
                  exact HDN.out)
                clear hix
                go_wp2_with (first
                  | (refine wpList_load_pe (y := x) (by rfl) _ rfl (by rfl) RG.out ?_)
                  | (at_builtin; refine wpList_app_pe rfl _ _ rfl x (by rfl) (by rfl) HR4.out (by omega) hs1 ?_; intro A6 c6 w6 ho6 hb6))
                rw [HS1.out] at ho6
                have HB6 := Lib.hid (HB4.out.trans hb6.out)
                go_roundw
                case rel => exact ⟨j + 1, m + 1, c6, A6, by omega, by go_num, rfl, by rw [← HS2.out], ho6, HB6⟩
                case measure => simp [intOf]; omega
            · have HS1 := Lib.hid (show (foldN (newP i) (X.take j)).1 ++ [x] = (foldN (newP i) (X.take (j + 1))).1 by
                rw [HST.out]
                unfold stepN
                rw [if_neg (fun hc => by rw [← HDN.out] at hc; cases hc.1)])
              have HS2 := Lib.hid (show true = (foldN (newP i) (X.take (j + 1))).2 by
                rw [HST.out]
                unfold stepN
                rw [if_neg (fun hc => by rw [← HDN.out] at hc; cases hc.1)]
                exact HDN.out)
              go_wp2_with (first
                | (refine wpList_load_pe (y := x) (by rfl) _ rfl (by rfl) RG.out ?_)
                | (at_builtin; refine wpList_app_pe rfl _ _ rfl x (by rfl) (by rfl) HR4.out (by omega) hs1 ?_; intro A6 c6 w6 ho6 hb6))
              rw [HS1.out] at ho6
              have HB6 := Lib.hid (HB4.out.trans hb6.out)
              go_roundw
              case rel => exact ⟨j + 1, m + 1, c6, A6, by omega, by go_num, rfl, by rw [← HS2.out], ho6, HB6⟩
              case measure => simp [intOf]; omega
          · have hjn : j = n0 := by omega
            have HT3 := Lib.hid (show X.take j = X by rw [hjn, ← HLEN.out, List.take_length])
            rw [HT3.out] at HDN HR4
            have HEN := Lib.hid (foldN_all HNE.out)
            have HWAS := Lib.hid (show putP (wasP X i) X = putP (newP i) X by unfold wasP; rw [HF.out]; rfl)
            have HM1 := HM.out
            clear hjn
            have B4 := Lib.hid (B3.out.trans (HB4.out.mono (by have := HL3.out; have := HR9.out; omega)))
            cases dn
            · have HS1 := Lib.hid (show (foldN (newP i) X).1 ++ [newP i] = putP (wasP X i) X by
                rw [HWAS.out, ← HEN.out]
                unfold endN
                rw [if_pos HDN.out.symm])
              go_upto_region 17 with (at_builtin; refine wpList_app_pe rfl _ _ rfl (newP i) (by rfl) (by rfl) HR4.out (by omega) hs1 ?_; intro A5 c5 w5 ho5 hb5)
              rw [HS1.out] at ho5
              have HB5 := Lib.hid (HB4.out.trans hb5.out)
              have B5 := Lib.hid (B4.out.trans (hb5.out.mono (by have := HL3.out; have := HR9.out; omega)))
              have D5 := Lib.hid (D3.out.below HB5.out)
              clear cq0 cq1 cq2 hql
              obtain ⟨cq0, cq1, cq2⟩ := D5.out.cells
              have hql := D5.out.obj.lt
              have z2 := D5.out.obj.frozen 2
              have HN2 := Lib.hid (D5.out.newrow HB5.out.size (fun k hk => by have := HGL.out k hk; have := HL3.out; have := HR9.out; omega) ho5.out)
              have HQL := Lib.hid (show q < g from HGL.out q D5.out.gq)
              have K97 := Lib.hid ((K93.out.below HB5.out HL3.out).far (p := ⟨q, 2, none⟩) (show r ≠ q by have := HQL.out; have := HR9.out; omega) (.slice A5 (m + 1) c5))
              have K67 := Lib.hid ((K63.out.below HB5.out K63.out.lt).far (p := ⟨q, 2, none⟩) (show g ≠ q by have := HQL.out; omega) (.slice A5 (m + 1) c5))
              have K87 := Lib.hid ((K83.out.below HB5.out K83.out.lt).far (p := ⟨q, 2, none⟩) (show g + 1 ≠ q by have := HQL.out; omega) (.slice A5 (m + 1) c5))
              have R7 := Lib.hid ((R3.out.below (HB5.out.mono (by have := HBW.out; have := HL3.out; have := HR9.out; omega))).put (a := ⟨q, 2, none⟩) (HGB.out q D5.out.gq) (.slice A5 (m + 1) c5))
              have C7 := Lib.hid ((Chg.of_below (F := G) (show Below w.heap.size w w5 by rw [HG.out]; exact B5.out)).setCell ⟨q, 2, none⟩ D5.out.gq (.slice A5 (m + 1) c5))
              go_wp2_with fail
              go_meet
              exact ⟨true, rfl, Lib.hid (by rw [HF.out]; rfl), K97, K67, K87, R7, Lib.hid ⟨_, A5, m + 1, c5, HN2.out, fun k hk => by
                have h1 := HL3.out
                have h2 := HR9.out
                have h3 := HBW.out
                rcases hk with hk | hk
                · exact ⟨.inl hk, .inl (HGL.out k hk), HGB.out k hk⟩
                · exact ⟨.inr (by omega), .inr (by omega), by omega⟩, C7.out⟩⟩
            · have HS1 := Lib.hid (show (foldN (newP i) X).1 = putP (wasP X i) X by
                rw [HWAS.out, ← HEN.out]
                unfold endN
                rw [if_neg (fun hc => by rw [← HDN.out] at hc; cases hc)])
              rw [HS1.out] at HR4
              have z2 := DR.out.obj.frozen 2
              have HN2 := Lib.hid (DR.out.newrow HB4.out.size (fun k hk => by have := HGL.out k hk; have := HL3.out; have := HR9.out; omega) HR4.out)
              have HQL := Lib.hid (show q < g from HGL.out q DR.out.gq)
              have K97 := Lib.hid ((K93.out.below HB4.out HL3.out).far (p := ⟨q, 2, none⟩) (show r ≠ q by have := HQL.out; have := HR9.out; omega) (.slice A' (m) c'))
              have K67 := Lib.hid ((K63.out.below HB4.out K63.out.lt).far (p := ⟨q, 2, none⟩) (show g ≠ q by have := HQL.out; omega) (.slice A' (m) c'))
              have K87 := Lib.hid ((K83.out.below HB4.out K83.out.lt).far (p := ⟨q, 2, none⟩) (show g + 1 ≠ q by have := HQL.out; omega) (.slice A' (m) c'))
              have R7 := Lib.hid ((R3.out.below (HB4.out.mono (by have := HBW.out; have := HL3.out; have := HR9.out; omega))).put (a := ⟨q, 2, none⟩) (HGB.out q DR.out.gq) (.slice A' (m) c'))
              have C7 := Lib.hid ((Chg.of_below (F := G) (show Below w.heap.size w wr by rw [HG.out]; exact B4.out)).setCell ⟨q, 2, none⟩ DR.out.gq (.slice A' (m) c'))
              go_wp2_with fail
              go_meet
              exact ⟨true, rfl, Lib.hid (by rw [HF.out]; rfl), K97, K67, K87, R7, Lib.hid ⟨_, A', m, c', HN2.out, fun k hk => by
                have h1 := HL3.out
                have h2 := HR9.out
                have h3 := HBW.out
                rcases hk with hk | hk
                · exact ⟨.inl hk, .inl (HGL.out k hk), HGB.out k hk⟩
                · exact ⟨.inr (by omega), .inr (by omega), by omega⟩, C7.out⟩⟩
      · have HE1 := Lib.hid e1
        have HF := Lib.hid e3
        have HWAS := Lib.hid (show putP (wasP X i) X = X by unfold wasP; rw [e3]; exact put_self HSX.out e3)
        have hkd : decide ((k : Int) < 0) = false := by simp
        clear e1 e2 e3
        rw [← HPZ.out, HE1.out, hkd]
        go_wp2_with fail
        go_meet
        refine ⟨false, rfl, Lib.hid (by rw [HF.out]; rfl), K92, K62, K82, R2, Lib.hid ⟨G, A0, n0, c0, ?_, HNG.out, Chg.of_below (by rw [HG.out]; exact B2.out)⟩⟩
        rw [HWAS.out]
        exact D2.out
    case rest =>
      obtain ⟨fr, rfl, HFR, K9, K6, K8, R, HI⟩ := hcut
      rename World => wx
      obtain ⟨G', A', n', c', hd, hg', hc⟩ := HI.out
      have D := Lib.hid hd
      have HG' := Lib.hid hg'
      have C := Lib.hid hc
      have HGL' := Lib.hid hd.gl
      clear hd hg' hc HI
      obtain ⟨y, hy⟩ : ∃ y, wasP X i = y := ⟨_, rfl⟩
      have HYW := Lib.hid hy
      have HYI := Lib.hid (show y.id = i by rw [← hy]; exact wasP_id X i)
      rw [hy] at D
      have HYT := Lib.hid (show 0 ≤ y.tick ∧ y.tick ≤ 1048576 by
        rw [← hy]
        unfold wasP
        cases hf : findP X i with
        | none => exact ⟨by show (0 : Int) ≤ 0; omega, by show (0 : Int) ≤ 1048576; omega⟩
        | some x => exact HSX.out.ticks x (findP_is hf).1)
      clear hy
      obtain ⟨Z, hZ⟩ : ∃ Z, putP y X = Z := ⟨_, rfl⟩
      have HZ := Lib.hid hZ
      have SZ := Lib.hid (show Srt Z by rw [← hZ]; exact HSX.out.put (by rw [HYI.out]; exact HR.out) HYT.out)
      have FZ := Lib.hid (show findP Z i = some y by rw [← hZ, find_put HSX.out.rise, if_pos HYI.out.symm])
      rw [hZ] at D
      clear hZ
      obtain ⟨k, hkp, hkz⟩ : ∃ k : Nat, posI i Z = k ∧ Z[k]? = some y := by
        rcases posI_cases i Z with ⟨e1, e2⟩ | ⟨k, x, e1, e2, e3⟩
        · rw [FZ.out] at e2; cases e2
        · rw [FZ.out] at e3
          injection e3 with e3
          subst e3
          exact ⟨k, e1, e2⟩
      have HKP := Lib.hid hkp
      have HKZ := Lib.hid hkz
      have HN' := Lib.hid (show n' ≤ 15 by have := D.out.len; have := SZ.out.len; omega)
      have hkn : k < n' := by have := (List.getElem?_eq_some_iff.1 hkz).1; have := D.out.len; omega
      have hkn' : (k : Int) < n' := by omega
      have hk0 : (0 : Int) ≤ (k : Int) := by omega
      obtain ⟨ga, rfl, -, hgl, hnc, hcm, hrg, -, -⟩ := own_pe D.out.row hkz
      have RG := Lib.hid hrg
      unfold maxLen at hcm
      obtain ⟨cq0, cq1, cq2⟩ := D.out.cells
      have hql := D.out.obj.lt
      clear hkp hkz hrg
      go_upto_region 20 with (first
        | (go_at_call 26; refine (find_ref i D.out (by have := HN'.out; omega)).mono ?_; rintro e3 wq ⟨rfl, hq⟩; rw [hq, HKP.out]; clear hq wq)
        | (refine wpList_load_pe (y := y) (by rfl) _ rfl (by rfl) RG.out ?_))
      have HRX := Lib.hid (show r < wx.heap.size from K9.out.lt)
      have K9a := Lib.hid (K9.out.alloc (.cells #[.int .i64 y.id, .int .i64 y.prio, .int .i64 y.dr, .int .i64 y.bdr, .int .i64 y.st, .bool y.two, .int .i64 y.tick] 47))
      have K6a := Lib.hid (K6.out.alloc (.cells #[.int .i64 y.id, .int .i64 y.prio, .int .i64 y.dr, .int .i64 y.bdr, .int .i64 y.st, .bool y.two, .int .i64 y.tick] 47))
      have K8a := Lib.hid (K8.out.alloc (.cells #[.int .i64 y.id, .int .i64 y.prio, .int .i64 y.dr, .int .i64 y.bdr, .int .i64 y.st, .bool y.two, .int .i64 y.tick] 47))
      have KYa := Lib.hid (Blk.new wx 47 #[.int .i64 y.id, .int .i64 y.prio, .int .i64 y.dr, .int .i64 y.bdr, .int .i64 y.st, .bool y.two, .int .i64 y.tick])
      have Da := Lib.hid (D.out.below ((Below.refl _ _).alloc (Nat.le_refl _) (.cells #[.int .i64 y.id, .int .i64 y.prio, .int .i64 y.dr, .int .i64 y.bdr, .int .i64 y.st, .bool y.two, .int .i64 y.tick] 47)))
      have Ra := Lib.hid (R.out.below ((Below.refl B wx).alloc (by have := HBW.out; have := HR9.out; have := HRX.out; omega) (.cells #[.int .i64 y.id, .int .i64 y.prio, .int .i64 y.dr, .int .i64 y.bdr, .int .i64 y.st, .bool y.two, .int .i64 y.tick] 47)))
      have Ca := Lib.hid (C.out.below ((Below.refl _ _).alloc (Nat.le_refl _) (.cells #[.int .i64 y.id, .int .i64 y.prio, .int .i64 y.dr, .int .i64 y.bdr, .int .i64 y.st, .bool y.two, .int .i64 y.tick] 47)))
      have hsa : (wx.alloc (.cells #[.int .i64 y.id, .int .i64 y.prio, .int .i64 y.dr, .int .i64 y.bdr, .int .i64 y.st, .bool y.two, .int .i64 y.tick] 47)).heap.size = wx.heap.size + 1 := World.size_alloc _ _
      have HSA := Lib.hid hsa
      clear K9 K6 K8 D R C hgl RG cq0 cq1 cq2 hql hsa
      generalize wx.alloc (.cells #[.int .i64 y.id, .int .i64 y.prio, .int .i64 y.dr, .int .i64 y.bdr, .int .i64 y.st, .bool y.two, .int .i64 y.tick] 47) = wa at *
      generalize wx.heap.size = s at *
      have RY := Lib.hid KYa.out.range7
      go_upto_region 21 with (refine wpList_load_pe (y := y) (by rfl) _ rfl (by rfl) RY.out ?_)
      have K90 := Lib.hid (K9a.out.alloc (.cells #[.int .i64 y.id, .int .i64 y.prio, .int .i64 y.dr, .int .i64 y.bdr, .int .i64 y.st, .bool y.two, .int .i64 y.tick] 47))
      have K60 := Lib.hid (K6a.out.alloc (.cells #[.int .i64 y.id, .int .i64 y.prio, .int .i64 y.dr, .int .i64 y.bdr, .int .i64 y.st, .bool y.two, .int .i64 y.tick] 47))
      have K80 := Lib.hid (K8a.out.alloc (.cells #[.int .i64 y.id, .int .i64 y.prio, .int .i64 y.dr, .int .i64 y.bdr, .int .i64 y.st, .bool y.two, .int .i64 y.tick] 47))
      have KY0 := Lib.hid (KYa.out.alloc (.cells #[.int .i64 y.id, .int .i64 y.prio, .int .i64 y.dr, .int .i64 y.bdr, .int .i64 y.st, .bool y.two, .int .i64 y.tick] 47))
      have KX0 := Lib.hid (show Blk (wa.alloc (.cells #[.int .i64 y.id, .int .i64 y.prio, .int .i64 y.dr, .int .i64 y.bdr, .int .i64 y.st, .bool y.two, .int .i64 y.tick] 47)) (s + 1) 47 #[.int .i64 y.id, .int .i64 y.prio, .int .i64 y.dr, .int .i64 y.bdr, .int .i64 y.st, .bool y.two, .int .i64 y.tick] by have := Blk.new wa 47 #[.int .i64 y.id, .int .i64 y.prio, .int .i64 y.dr, .int .i64 y.bdr, .int .i64 y.st, .bool y.two, .int .i64 y.tick]; rwa [HSA.out] at this)
      have D0 := Lib.hid (Da.out.below ((Below.refl _ _).alloc (Nat.le_refl _) (.cells #[.int .i64 y.id, .int .i64 y.prio, .int .i64 y.dr, .int .i64 y.bdr, .int .i64 y.st, .bool y.two, .int .i64 y.tick] 47)))
      have R0 := Lib.hid (Ra.out.below ((Below.refl B wa).alloc (by have := HBW.out; have := HR9.out; have := HRX.out; have := HSA.out; omega) (.cells #[.int .i64 y.id, .int .i64 y.prio, .int .i64 y.dr, .int .i64 y.bdr, .int .i64 y.st, .bool y.two, .int .i64 y.tick] 47)))
      have C0 := Lib.hid (Ca.out.below ((Below.refl _ _).alloc (Nat.le_refl _) (.cells #[.int .i64 y.id, .int .i64 y.prio, .int .i64 y.dr, .int .i64 y.bdr, .int .i64 y.st, .bool y.two, .int .i64 y.tick] 47)))
      clear K9a K6a K8a KYa Da Ra Ca RY
      rw [HSA.out]
      clear HSA
      generalize wa.alloc (.cells #[.int .i64 y.id, .int .i64 y.prio, .int .i64 y.dr, .int .i64 y.bdr, .int .i64 y.st, .bool y.two, .int .i64 y.tick] 47) = w0 at *
      have NG := Lib.hid (show ¬ G' (s + 1) ∧ ¬ G' s ∧ ¬ G' r ∧ ¬ G' (g + 1) ∧ ¬ G' g from by
        have h1 := HR9.out
        have h2 := HRX.out
        refine ⟨fun hk => ?_, fun hk => ?_, fun hk => ?_, fun hk => ?_, fun hk => ?_⟩
        · have := HGL'.out _ hk; omega
        · have := HGL'.out _ hk; omega
        · have := (HG'.out _ hk).2.1; omega
        · have := (HG'.out _ hk).2.1; omega
        · have := (HG'.out _ hk).2.1; omega)
      have NB := Lib.hid (show B ≤ s + 1 ∧ B ≤ r ∧ w.heap.size ≤ s + 1 ∧ w.heap.size ≤ r by have := HBW.out; have := HR9.out; have := HRX.out; have := HG.out; omega)
      obtain ⟨i0, i1, i2, i3, i4, i5⟩ := K60.out.six
      obtain ⟨x0, x1, x2, x3, x4, x5, x6⟩ := KX0.out.seven
      have hlx := KX0.out.lt
      have hl6 := K60.out.lt
      have zx := KX0.out.frozen 1
      go_upto_region 22 with fail
      have KX1 := Lib.hid (show Blk (w0.setCell ⟨s + 1, 1, none⟩ (.int .i64 h.prio)) (s + 1) 47 #[.int .i64 y.id, .int .i64 h.prio, .int .i64 y.dr, .int .i64 y.bdr, .int .i64 y.st, .bool y.two, .int .i64 y.tick] from KX0.out.put 1 _)
      have KY1 := Lib.hid (KY0.out.far (p := ⟨s + 1, 1, none⟩) (show s ≠ s + 1 by omega) (.int .i64 h.prio))
      have K91 := Lib.hid (K90.out.far (p := ⟨s + 1, 1, none⟩) (show r ≠ s + 1 by have := HRX.out; omega) (.int .i64 h.prio))
      have K61 := Lib.hid (K60.out.far (p := ⟨s + 1, 1, none⟩) (show g ≠ s + 1 by have := HRX.out; have := HR9.out; omega) (.int .i64 h.prio))
      have K81 := Lib.hid (K80.out.far (p := ⟨s + 1, 1, none⟩) (show g + 1 ≠ s + 1 by have := HRX.out; have := HR9.out; omega) (.int .i64 h.prio))
      have D1 := Lib.hid (D0.out.far (a := ⟨s + 1, 1, none⟩) NG.out.1 (.int .i64 h.prio))
      have R1 := Lib.hid (R0.out.put (a := ⟨s + 1, 1, none⟩) NB.out.1 (.int .i64 h.prio))
      have C1 := Lib.hid (C0.out.new ⟨s + 1, 1, none⟩ NB.out.2.2.1 (.int .i64 h.prio))
      clear KX0 KY0 K90 K60 K80 D0 R0 C0 i0 i1 i2 i3 i4 i5 x0 x1 x2 x3 x4 x5 x6 hlx hl6 zx
      generalize w0.setCell ⟨s + 1, 1, none⟩ (.int .i64 h.prio) = w1 at *
      obtain ⟨i0, i1, i2, i3, i4, i5⟩ := K61.out.six
      obtain ⟨x0, x1, x2, x3, x4, x5, x6⟩ := KX1.out.seven
      have hlx := KX1.out.lt
      have hl6 := K61.out.lt
      have zx := KX1.out.frozen 2
      go_upto_region 23 with (go_at_call 27; refine (who_ref h.dr HH.out.d _).mono ?_; rintro e2 wq ⟨rfl, hq⟩; rw [hq]; clear hq wq)
      have KX2 := Lib.hid (show Blk (w1.setCell ⟨s + 1, 2, none⟩ (.int .i64 (whoI h.dr))) (s + 1) 47 #[.int .i64 y.id, .int .i64 h.prio, .int .i64 (whoI h.dr), .int .i64 y.bdr, .int .i64 y.st, .bool y.two, .int .i64 y.tick] from KX1.out.put 2 _)
      have KY2 := Lib.hid (KY1.out.far (p := ⟨s + 1, 2, none⟩) (show s ≠ s + 1 by omega) (.int .i64 (whoI h.dr)))
      have K92 := Lib.hid (K91.out.far (p := ⟨s + 1, 2, none⟩) (show r ≠ s + 1 by have := HRX.out; omega) (.int .i64 (whoI h.dr)))
      have K62 := Lib.hid (K61.out.far (p := ⟨s + 1, 2, none⟩) (show g ≠ s + 1 by have := HRX.out; have := HR9.out; omega) (.int .i64 (whoI h.dr)))
      have K82 := Lib.hid (K81.out.far (p := ⟨s + 1, 2, none⟩) (show g + 1 ≠ s + 1 by have := HRX.out; have := HR9.out; omega) (.int .i64 (whoI h.dr)))
      have D2 := Lib.hid (D1.out.far (a := ⟨s + 1, 2, none⟩) NG.out.1 (.int .i64 (whoI h.dr)))
      have R2 := Lib.hid (R1.out.put (a := ⟨s + 1, 2, none⟩) NB.out.1 (.int .i64 (whoI h.dr)))
      have C2 := Lib.hid (C1.out.new ⟨s + 1, 2, none⟩ NB.out.2.2.1 (.int .i64 (whoI h.dr)))
      clear KX1 KY1 K91 K61 K81 D1 R1 C1 i0 i1 i2 i3 i4 i5 x0 x1 x2 x3 x4 x5 x6 hlx hl6 zx
      generalize w1.setCell ⟨s + 1, 2, none⟩ (.int .i64 (whoI h.dr)) = w2 at *
      obtain ⟨i0, i1, i2, i3, i4, i5⟩ := K62.out.six
      obtain ⟨x0, x1, x2, x3, x4, x5, x6⟩ := KX2.out.seven
      have hlx := KX2.out.lt
      have hl6 := K62.out.lt
      have zx := KX2.out.frozen 3
      go_upto_region 24 with (go_at_call 27; refine (who_ref h.bdr HH.out.b _).mono ?_; rintro e2 wq ⟨rfl, hq⟩; rw [hq]; clear hq wq)
      have KX3 := Lib.hid (show Blk (w2.setCell ⟨s + 1, 3, none⟩ (.int .i64 (whoI h.bdr))) (s + 1) 47 #[.int .i64 y.id, .int .i64 h.prio, .int .i64 (whoI h.dr), .int .i64 (whoI h.bdr), .int .i64 y.st, .bool y.two, .int .i64 y.tick] from KX2.out.put 3 _)
      have KY3 := Lib.hid (KY2.out.far (p := ⟨s + 1, 3, none⟩) (show s ≠ s + 1 by omega) (.int .i64 (whoI h.bdr)))
      have K93 := Lib.hid (K92.out.far (p := ⟨s + 1, 3, none⟩) (show r ≠ s + 1 by have := HRX.out; omega) (.int .i64 (whoI h.bdr)))
      have K63 := Lib.hid (K62.out.far (p := ⟨s + 1, 3, none⟩) (show g ≠ s + 1 by have := HRX.out; have := HR9.out; omega) (.int .i64 (whoI h.bdr)))
      have K83 := Lib.hid (K82.out.far (p := ⟨s + 1, 3, none⟩) (show g + 1 ≠ s + 1 by have := HRX.out; have := HR9.out; omega) (.int .i64 (whoI h.bdr)))
      have D3 := Lib.hid (D2.out.far (a := ⟨s + 1, 3, none⟩) NG.out.1 (.int .i64 (whoI h.bdr)))
      have R3 := Lib.hid (R2.out.put (a := ⟨s + 1, 3, none⟩) NB.out.1 (.int .i64 (whoI h.bdr)))
      have C3 := Lib.hid (C2.out.new ⟨s + 1, 3, none⟩ NB.out.2.2.1 (.int .i64 (whoI h.bdr)))
      clear KX2 KY2 K92 K62 K82 D2 R2 C2 i0 i1 i2 i3 i4 i5 x0 x1 x2 x3 x4 x5 x6 hlx hl6 zx
      generalize w2.setCell ⟨s + 1, 3, none⟩ (.int .i64 (whoI h.bdr)) = w3 at *
      obtain ⟨i0, i1, i2, i3, i4, i5⟩ := K63.out.six
      obtain ⟨x0, x1, x2, x3, x4, x5, x6⟩ := KX3.out.seven
      have hlx := KX3.out.lt
      have hl6 := K63.out.lt
      have zx := KX3.out.frozen 6
      go_upto_region 25 with fail
      have KX4 := Lib.hid (show Blk (w3.setCell ⟨s + 1, 6, none⟩ (.int .i64 now)) (s + 1) 47 #[.int .i64 y.id, .int .i64 h.prio, .int .i64 (whoI h.dr), .int .i64 (whoI h.bdr), .int .i64 y.st, .bool y.two, .int .i64 now] from KX3.out.put 6 _)
      have KY4 := Lib.hid (KY3.out.far (p := ⟨s + 1, 6, none⟩) (show s ≠ s + 1 by omega) (.int .i64 now))
      have K94 := Lib.hid (K93.out.far (p := ⟨s + 1, 6, none⟩) (show r ≠ s + 1 by have := HRX.out; omega) (.int .i64 now))
      have K64 := Lib.hid (K63.out.far (p := ⟨s + 1, 6, none⟩) (show g ≠ s + 1 by have := HRX.out; have := HR9.out; omega) (.int .i64 now))
      have K84 := Lib.hid (K83.out.far (p := ⟨s + 1, 6, none⟩) (show g + 1 ≠ s + 1 by have := HRX.out; have := HR9.out; omega) (.int .i64 now))
      have D4 := Lib.hid (D3.out.far (a := ⟨s + 1, 6, none⟩) NG.out.1 (.int .i64 now))
      have R4 := Lib.hid (R3.out.put (a := ⟨s + 1, 6, none⟩) NB.out.1 (.int .i64 now))
      have C4 := Lib.hid (C3.out.new ⟨s + 1, 6, none⟩ NB.out.2.2.1 (.int .i64 now))
      clear KX3 KY3 K93 K63 K83 D3 R3 C3 i0 i1 i2 i3 i4 i5 x0 x1 x2 x3 x4 x5 x6 hlx hl6 zx
      generalize w3.setCell ⟨s + 1, 6, none⟩ (.int .i64 now) = w4 at *
      obtain ⟨v, hv⟩ : ∃ v, h.seen.contains sf = v := ⟨_, rfl⟩
      have HV := Lib.hid hv
      clear hv
      have hS := And.intro K64.out.drew.six.2.2.2.2.2 D4.out.obj.drew.three.1
      refine wp_region_noPanic ?_
      refine wp_region_held_drew (S := fun w' => w'.cell? ⟨g, 5, none⟩ = some (.slice A n c) ∧ w'.cell? ⟨q, 0, none⟩ = some (.int .i64 sf)) (by kernel_rfl) hS (fun hHeld => ?_)
      change wpAnyH _ _ _ _ _ _ _ _ w4.drew
      have KX5 := Lib.hid KX4.out.drew
      have KY5 := Lib.hid KY4.out.drew
      have K95 := Lib.hid K94.out.drew
      have K65 := Lib.hid K64.out.drew
      have K85 := Lib.hid K84.out.drew
      have D5 := Lib.hid D4.out.drew
      have R5 := Lib.hid R4.out.drew
      have C5 := Lib.hid (show Chg G w w4.drew from C4.out.below ⟨rfl, rfl, rfl, Nat.le_refl _, fun _ _ => rfl⟩)
      clear hS KX4 KY4 K94 K64 K84 D4 R4 C4
      generalize w4.drew = w5 at *
      have hql := D5.out.obj.lt
      have hl6 := K65.out.lt
      refine wpAnyH_take (i := 0) (oi := { dst := Option.some 101, op := Go.Op.fieldAddr 32 (Go.Operand.tmp 6) 5, type := 0, pos := "ref.go:75", after := #[], guard := Option.none }) (v := ?_) rfl (by kernel_rfl) (by kernel_rfl) (by kernel_rfl) (fun _ _ _ h => h) (Or.inl ⟨by rfl, ?_⟩) hHeld ?_
      rotate_left 1
      · intro ww hSw
        try dsimp only at hSw
        go_simp
        try with_reducible rfl
      try simp only [Act.put, List.setIfInBounds_toArray, List.set_cons_zero, List.set_cons_succ]
      refine wpAnyH_take (i := 1) (oi := { dst := Option.some 102, op := Go.Op.load 30 (Go.Operand.tmp 101), type := 30, pos := "ref.go:75", after := #[{ on := 0, ground := Go.Ground.data }], guard := Option.none }) (v := ?_) rfl (by kernel_rfl) (by kernel_rfl) (by kernel_rfl) (fun _ _ _ h => h) (Or.inl ⟨by rfl, ?_⟩) hHeld ?_
      rotate_left 1
      · intro ww hSw
        try dsimp only at hSw
        go_simp
        try with_reducible rfl
      try simp only [Act.put, List.setIfInBounds_toArray, List.set_cons_zero, List.set_cons_succ]
      refine wpAnyH_take (i := 2) (oi := { dst := Option.some 103, op := Go.Op.move (Go.Operand.tmp 0), type := 26, pos := "ref.go:75", after := #[], guard := Option.none }) (v := ?_) rfl (by kernel_rfl) (by kernel_rfl) (by kernel_rfl) (fun _ _ _ h => h) (Or.inl ⟨by rfl, ?_⟩) hHeld ?_
      rotate_left 1
      · intro ww hSw
        try dsimp only at hSw
        go_simp
        try with_reducible rfl
      try simp only [Act.put, List.setIfInBounds_toArray, List.set_cons_zero, List.set_cons_succ]
      refine wpAnyH_take (i := 3) (oi := { dst := Option.some 104, op := Go.Op.nilCheck (Go.Operand.tmp 103), type := 0, pos := "ref.go:75", after := #[{ on := 2, ground := Go.Ground.data }], guard := Option.none }) (v := ?_) rfl (by kernel_rfl) (by kernel_rfl) (by kernel_rfl) (fun _ _ _ h => h) (Or.inl ⟨by rfl, ?_⟩) hHeld ?_
      rotate_left 1
      · intro ww hSw
        try dsimp only at hSw
        go_simp
        try with_reducible rfl
      try simp only [Act.put, List.setIfInBounds_toArray, List.set_cons_zero, List.set_cons_succ]
      refine wpAnyH_take (i := 4) (oi := { dst := Option.some 105, op := Go.Op.fieldAddr 29 (Go.Operand.tmp 104) 0, type := 0, pos := "ref.go:75", after := #[{ on := 3, ground := Go.Ground.data }], guard := Option.none }) (v := ?_) rfl (by kernel_rfl) (by kernel_rfl) (by kernel_rfl) (fun _ _ _ h => h) (Or.inl ⟨by rfl, ?_⟩) hHeld ?_
      rotate_left 1
      · intro ww hSw
        try dsimp only at hSw
        go_simp
        try with_reducible rfl
      try simp only [Act.put, List.setIfInBounds_toArray, List.set_cons_zero, List.set_cons_succ]
      refine wpAnyH_take (i := 5) (oi := { dst := Option.some 106, op := Go.Op.load 3 (Go.Operand.tmp 105), type := 3, pos := "ref.go:75", after := #[{ on := 4, ground := Go.Ground.data }], guard := Option.none }) (v := ?_) rfl (by kernel_rfl) (by kernel_rfl) (by kernel_rfl) (fun _ _ _ h => h) (Or.inl ⟨by rfl, ?_⟩) hHeld ?_
      rotate_left 1
      · intro ww hSw
        try dsimp only at hSw
        go_simp
        try with_reducible rfl
      try simp only [Act.put, List.setIfInBounds_toArray, List.set_cons_zero, List.set_cons_succ]
      refine wpAnyH_ready (rs := [6]) (by kernel_rfl) (by simp) ?_
      refine AllReadyH.cons (o := { dst := Option.some 107, op := Go.Op.call { callee := Go.Callee.value (Go.Operand.func 28), args := #[Go.Operand.tmp 102, Go.Operand.tmp 106], argTypes := #[30, 3] }, type := 4, pos := "ref.go:75", after := #[{ on := 1, ground := Go.Ground.data }, { on := 5, ground := Go.Ground.data }], guard := Option.none }) rfl (fun K hK => ?_) AllReadyH.nil
      go_simp
      refine (has_ref sf R5.out HMX.out).mono ?_
      rintro ea wa ⟨rfl, hq⟩
      rw [hq, HV.out]
      clear hq wa
      refine hK.out _ _ hHeld (fun hHeld => ?_)
      clear hK K
      try simp only [Act.put, List.setIfInBounds_toArray, List.set_cons_zero, List.set_cons_succ]
      refine wpAnyH_take (i := 7) (oi := { dst := Option.some 108, op := Go.Op.fieldAddr 47 (Go.Operand.tmp 15) 5, type := 0, pos := "ref.go:75", after := #[{ on := 0, ground := Go.Ground.phase }, { on := 1, ground := Go.Ground.phase }, { on := 2, ground := Go.Ground.phase }, { on := 3, ground := Go.Ground.phase }, { on := 4, ground := Go.Ground.phase }, { on := 5, ground := Go.Ground.phase }, { on := 6, ground := Go.Ground.phase }], guard := Option.none }) (v := ?_) rfl (by kernel_rfl) (by kernel_rfl) (by kernel_rfl) (fun _ _ _ h => h) (Or.inl ⟨by rfl, ?_⟩) hHeld ?_
      rotate_left 1
      · intro ww hSw
        try dsimp only at hSw
        go_simp
        try with_reducible rfl
      try simp only [Act.put, List.setIfInBounds_toArray, List.set_cons_zero, List.set_cons_succ]
      refine wpAnyH_ready (rs := [8]) (by kernel_rfl) (by simp) ?_
      refine AllReadyH.cons (o := { dst := Option.none, op := Go.Op.store 4 (Go.Operand.tmp 108) (Go.Operand.tmp 107), type := 0, pos := "ref.go:75", after := #[{ on := 7, ground := Go.Ground.data }, { on := 6, ground := Go.Ground.data }, { on := 6, ground := Go.Ground.chain }, { on := 0, ground := Go.Ground.phase }, { on := 1, ground := Go.Ground.phase }, { on := 2, ground := Go.Ground.phase }, { on := 3, ground := Go.Ground.phase }, { on := 4, ground := Go.Ground.phase }, { on := 5, ground := Go.Ground.phase }, { on := 6, ground := Go.Ground.phase }], guard := Option.none }) rfl (fun K hK => ?_) AllReadyH.nil
      have z5 := KX5.out.frozen 5
      have k5 := KX5.out.seven.2.2.2.2.2.1
      have hlx := KX5.out.lt
      go_simp
      refine hK.out _ _ (And.intro ((World.cell?_setCell_other w5 _ _ _ (fun e => by injection e with e1; have := HRX.out; have := HR9.out; omega)).trans hHeld.1) ((World.cell?_setCell_other w5 _ _ _ (fun e => NG.out.1 (by injection e with e1; rw [e1]; exact D5.out.gq))).trans hHeld.2)) (fun hHeld => ?_)
      clear z5 k5 hlx
      clear hK K
      try simp only [Act.put, List.setIfInBounds_toArray, List.set_cons_zero, List.set_cons_succ]
      refine wpAnyH_done (by kernel_rfl) ?_ _
      refine NoPanic.normal ?_
      clear hHeld
      have KX6 := Lib.hid (show Blk (w5.setCell ⟨s + 1, 5, none⟩ (.bool v)) (s + 1) 47 #[.int .i64 y.id, .int .i64 h.prio, .int .i64 (whoI h.dr), .int .i64 (whoI h.bdr), .int .i64 y.st, .bool v, .int .i64 now] from KX5.out.put 5 _)
      have KY6 := Lib.hid (KY5.out.far (p := ⟨s + 1, 5, none⟩) (show s ≠ s + 1 by omega) (.bool v))
      have K96 := Lib.hid (K95.out.far (p := ⟨s + 1, 5, none⟩) (show r ≠ s + 1 by have := HRX.out; omega) (.bool v))
      have K66 := Lib.hid (K65.out.far (p := ⟨s + 1, 5, none⟩) (show g ≠ s + 1 by have := HRX.out; have := HR9.out; omega) (.bool v))
      have K86 := Lib.hid (K85.out.far (p := ⟨s + 1, 5, none⟩) (show g + 1 ≠ s + 1 by have := HRX.out; have := HR9.out; omega) (.bool v))
      have D6 := Lib.hid (D5.out.far (a := ⟨s + 1, 5, none⟩) NG.out.1 (.bool v))
      have R6 := Lib.hid (R5.out.put (a := ⟨s + 1, 5, none⟩) NB.out.1 (.bool v))
      have C6 := Lib.hid (C5.out.new ⟨s + 1, 5, none⟩ NB.out.2.2.1 (.bool v))
      clear KX5 KY5 K95 K65 K85 D5 R5 C5 hl6 hql
      generalize w5.setCell ⟨s + 1, 5, none⟩ (.bool v) = w6 at *
      obtain ⟨t, ht⟩ : ∃ t : Pe, (⟨y.id, h.prio, whoI h.dr, whoI h.bdr, y.st, v, now⟩ : Pe) = t := ⟨_, rfl⟩
      have HTT := Lib.hid (show toldP sf y h now = t by rw [← ht, ← HV.out]; rfl)
      have HTI := Lib.hid (show t.id = i by rw [← ht]; exact HYI.out)
      have KT := Lib.hid (show Blk w6 (s + 1) 47 #[.int .i64 t.id, .int .i64 t.prio, .int .i64 t.dr, .int .i64 t.bdr, .int .i64 t.st, .bool t.two, .int .i64 t.tick] by rw [← ht]; exact KX6.out)
      clear ht KX6 K66 R6
      go_upto_region 26 with fail
      have hS := And.intro D6.out.drew.cells.2.2 KT.out.drew.range7
      refine wp_region_noPanic ?_
      refine wp_region_held_drew (S := fun w' => w'.cell? ⟨q, 2, none⟩ = some (.slice (some ⟨ga, 0, none⟩) n' c') ∧ w'.rangeAt (s + 1) 0 (encPe t)) (by kernel_rfl) hS (fun hHeld => ?_)
      change wpAnyH _ _ _ _ _ _ _ _ w6.drew
      have KT7 := Lib.hid KT.out.drew
      have KY7 := Lib.hid KY6.out.drew
      have K97 := Lib.hid K96.out.drew
      have K87 := Lib.hid K86.out.drew
      have D7 := Lib.hid D6.out.drew
      have C7 := Lib.hid (show Chg G w w6.drew from C6.out.below ⟨rfl, rfl, rfl, Nat.le_refl _, fun _ _ => rfl⟩)
      clear hS KT KY6 K96 K86 D6 C6
      generalize w6.drew = w7 at *
      have hql := D7.out.obj.lt
      have hgl := (D7.out.row.lt ga rfl).2
      refine wpAnyH_take (i := 0) (oi := { dst := Option.some 109, op := Go.Op.move (Go.Operand.tmp 0), type := 26, pos := "ref.go:76", after := #[], guard := Option.none }) (v := ?_) rfl (by kernel_rfl) (by kernel_rfl) (by kernel_rfl) (fun _ _ _ h => h) (Or.inl ⟨by rfl, ?_⟩) hHeld ?_
      rotate_left 1
      · intro ww hSw
        try dsimp only at hSw
        go_simp
        try with_reducible rfl
      try simp only [Act.put, List.setIfInBounds_toArray, List.set_cons_zero, List.set_cons_succ]
      refine wpAnyH_take (i := 1) (oi := { dst := Option.some 110, op := Go.Op.nilCheck (Go.Operand.tmp 109), type := 0, pos := "ref.go:76", after := #[{ on := 0, ground := Go.Ground.data }], guard := Option.none }) (v := ?_) rfl (by kernel_rfl) (by kernel_rfl) (by kernel_rfl) (fun _ _ _ h => h) (Or.inl ⟨by rfl, ?_⟩) hHeld ?_
      rotate_left 1
      · intro ww hSw
        try dsimp only at hSw
        go_simp
        try with_reducible rfl
      try simp only [Act.put, List.setIfInBounds_toArray, List.set_cons_zero, List.set_cons_succ]
      refine wpAnyH_take (i := 2) (oi := { dst := Option.some 111, op := Go.Op.fieldAddr 29 (Go.Operand.tmp 110) 2, type := 0, pos := "ref.go:76", after := #[{ on := 1, ground := Go.Ground.data }], guard := Option.none }) (v := ?_) rfl (by kernel_rfl) (by kernel_rfl) (by kernel_rfl) (fun _ _ _ h => h) (Or.inl ⟨by rfl, ?_⟩) hHeld ?_
      rotate_left 1
      · intro ww hSw
        try dsimp only at hSw
        go_simp
        try with_reducible rfl
      try simp only [Act.put, List.setIfInBounds_toArray, List.set_cons_zero, List.set_cons_succ]
      refine wpAnyH_take (i := 3) (oi := { dst := Option.some 112, op := Go.Op.load 27 (Go.Operand.tmp 111), type := 27, pos := "ref.go:76", after := #[{ on := 2, ground := Go.Ground.data }], guard := Option.none }) (v := ?_) rfl (by kernel_rfl) (by kernel_rfl) (by kernel_rfl) (fun _ _ _ h => h) (Or.inl ⟨by rfl, ?_⟩) hHeld ?_
      rotate_left 1
      · intro ww hSw
        try dsimp only at hSw
        go_simp
        try with_reducible rfl
      try simp only [Act.put, List.setIfInBounds_toArray, List.set_cons_zero, List.set_cons_succ]
      refine wpAnyH_take (i := 4) (oi := { dst := Option.some 113, op := Go.Op.move (Go.Operand.tmp 13), type := 3, pos := "ref.go:76", after := #[], guard := Option.none }) (v := ?_) rfl (by kernel_rfl) (by kernel_rfl) (by kernel_rfl) (fun _ _ _ h => h) (Or.inl ⟨by rfl, ?_⟩) hHeld ?_
      rotate_left 1
      · intro ww hSw
        try dsimp only at hSw
        go_simp
        try with_reducible rfl
      try simp only [Act.put, List.setIfInBounds_toArray, List.set_cons_zero, List.set_cons_succ]
      refine wpAnyH_take (i := 5) (oi := { dst := Option.some 114, op := Go.Op.load 47 (Go.Operand.tmp 15), type := 47, pos := "ref.go:76", after := #[], guard := Option.none }) (v := (.agg #[.int .i64 t.id, .int .i64 t.prio, .int .i64 t.dr, .int .i64 t.bdr, .int .i64 t.st, .bool t.two, .int .i64 t.tick])) rfl (by kernel_rfl) (by kernel_rfl) (by kernel_rfl) (fun _ _ _ h => h) (yieldsIf_load_mid (by rfl) 47 (.tmp 15) rfl (s + 1) 0 rfl (encPe t) _ (fun _ hb => hb.2) Try.underlying47 rfl (by kernel_rfl)) hHeld ?_
      try simp only [Act.put, List.setIfInBounds_toArray, List.set_cons_zero, List.set_cons_succ]
      refine wpAnyH_take (i := 6) (oi := { dst := Option.some 115, op := Go.Op.indexAddr 27 (Go.Operand.tmp 112) (Go.Operand.tmp 113), type := 0, pos := "ref.go:76", after := #[{ on := 3, ground := Go.Ground.data }, { on := 4, ground := Go.Ground.data }, { on := 0, ground := Go.Ground.phase }, { on := 1, ground := Go.Ground.phase }, { on := 2, ground := Go.Ground.phase }, { on := 3, ground := Go.Ground.phase }, { on := 4, ground := Go.Ground.phase }, { on := 5, ground := Go.Ground.phase }], guard := Option.none }) (v := ?_) rfl (by kernel_rfl) (by kernel_rfl) (by kernel_rfl) (fun _ _ _ h => h) (Or.inl ⟨by rfl, ?_⟩) hHeld ?_
      rotate_left 1
      · intro ww hSw
        try dsimp only at hSw
        go_simp
        try with_reducible rfl
      try simp only [Act.put, List.setIfInBounds_toArray, List.set_cons_zero, List.set_cons_succ]
      refine wpAnyH_ready (rs := [7]) (by kernel_rfl) (by simp) ?_
      refine AllReadyH.cons (o := { dst := Option.none, op := Go.Op.store 47 (Go.Operand.tmp 115) (Go.Operand.tmp 114), type := 0, pos := "ref.go:76", after := #[{ on := 6, ground := Go.Ground.data }, { on := 5, ground := Go.Ground.data }, { on := 0, ground := Go.Ground.phase }, { on := 1, ground := Go.Ground.phase }, { on := 2, ground := Go.Ground.phase }, { on := 3, ground := Go.Ground.phase }, { on := 4, ground := Go.Ground.phase }, { on := 5, ground := Go.Ground.phase }], guard := Option.none }) rfl (fun K hK => ?_) AllReadyH.nil
      obtain ⟨hD8, hC8⟩ := D7.out.over hkn t
      refine wp_store_mid 47 (.tmp 115) (.tmp 114) rfl ga (k * 7) #[.int .i64 t.id, .int .i64 t.prio, .int .i64 t.dr, .int .i64 t.bdr, .int .i64 t.st, .bool t.two, .int .i64 t.tick] rfl rfl (own_there D7.out.row rfl hkn) (by kernel_rfl) (by kernel_rfl) ?_
      change K _ (w7.setCells ga (k * 7) (encPe t))
      have D8 := Lib.hid hD8
      have C78 := Lib.hid hC8
      clear hD8 hC8
      refine hK.out _ _ (And.intro D8.out.cells.2.2 (range_chg2 KT7.out C78.out NG.out.1)) (fun hHeld => ?_)
      clear hK K
      try simp only [Act.put]
      refine wpAnyH_done (by kernel_rfl) ?_ _
      refine NoPanic.normal ?_
      clear hHeld
      have KT8 := Lib.hid (KT7.out.chg C78.out NG.out.1)
      have KY8 := Lib.hid (KY7.out.chg C78.out NG.out.2.1)
      have K98 := Lib.hid (K97.out.chg C78.out NG.out.2.2.1)
      have K88 := Lib.hid (K87.out.chg C78.out NG.out.2.2.2.1)
      have C8 := Lib.hid (C7.out.trans C78.out (fun kk hkk => by
        rcases (HG'.out kk hkk).1 with h1 | h1
        · exact .inl h1
        · exact .inr (by rw [HG.out]; exact h1)))
      clear KT7 KY7 K97 K87 D7 C7 C78 hql hgl
      generalize w7.setCells ga (k * 7) (encPe t) = w8 at *
      have HX := Lib.hid (show Z.set k t = hearX sf lan X i h now by
        unfold hearX
        rw [HT.out, if_pos rfl, HYW.out, HTT.out, set_put HTI.out SZ.out.rise HKZ.out HYI.out, ← HZ.out, put_put (by rw [HTI.out, HYI.out])])
      rw [HX.out] at D8
      clear HX HKZ HKP SZ FZ HZ HYT HTI
      go_upto_region 27 with fail
      obtain ⟨u1, hu1⟩ : ∃ u1, (y.dr == i) = u1 := ⟨_, rfl⟩
      obtain ⟨u2, hu2⟩ : ∃ u2, (t.dr == i) = u2 := ⟨_, rfl⟩
      obtain ⟨u3, hu3⟩ : ∃ u3, (y.bdr == i) = u3 := ⟨_, rfl⟩
      obtain ⟨u4, hu4⟩ : ∃ u4, (t.bdr == i) = u4 := ⟨_, rfl⟩
      cases hy2 : y.two
      · have HY2 := Lib.hid hy2
        clear hy2
        cases ht2 : t.two
        · have HT2 := Lib.hid ht2
          clear ht2
          have HLED := Lib.hid (show ledH i fr y t = ⟨true, fr, false, false, false⟩ by
            unfold ledH bearsB
            rw [HT2.out, HY2.out, hu1, hu2, hu3, hu4]
            try rw [hp]
            simp [bne, *])
          have KT9 := Lib.hid (show Blk w8 (s + 1) 47 #[.int .i64 t.id, .int .i64 t.prio, .int .i64 t.dr, .int .i64 t.bdr, .int .i64 t.st, .bool false, .int .i64 t.tick] by rw [← HT2.out]; exact KT8.out)
          have KY9 := Lib.hid (show Blk w8 s 47 #[.int .i64 y.id, .int .i64 y.prio, .int .i64 y.dr, .int .i64 y.bdr, .int .i64 y.st, .bool false, .int .i64 y.tick] by rw [← HY2.out]; exact KY8.out)
          clear KT8 KY8
          obtain ⟨x0, x1, x2, x3, x4, x5, x6⟩ := KT9.out.seven
          obtain ⟨y0, y1, y2, y3, y4, y5, y6⟩ := KY9.out.seven
          obtain ⟨m0, m1, m2, m3, m4⟩ := K98.out.five
          have zx := K98.out.frozen 2
          have hl1 := KT9.out.lt
          have hl2 := KY9.out.lt
          have hl3 := K98.out.lt
          go_upto_region 28 with fail
          have K9z9 := Lib.hid (show Blk (w8.setCell ⟨r, 2, none⟩ (.bool false)) r 36 #[.bool true, .bool fr, .bool false, .bool false, .bool false] from K98.out.put 2 _)
          have KTz9 := Lib.hid (KT9.out.far (p := ⟨r, 2, none⟩) (show s + 1 ≠ r by have := HRX.out; omega) (.bool false))
          have KYz9 := Lib.hid (KY9.out.far (p := ⟨r, 2, none⟩) (show s ≠ r by have := HRX.out; omega) (.bool false))
          have K8z9 := Lib.hid (K88.out.far (p := ⟨r, 2, none⟩) (show g + 1 ≠ r by have := HR9.out; omega) (.bool false))
          have Dz9 := Lib.hid (D8.out.far (a := ⟨r, 2, none⟩) NG.out.2.2.1 (.bool false))
          have Cz9 := Lib.hid (C8.out.new ⟨r, 2, none⟩ NB.out.2.2.2 (.bool false))
          clear KT9 KY9 K98 K88 D8 C8 x0 x1 x2 x3 x4 x5 x6 y0 y1 y2 y3 y4 y5 y6 m0 m1 m2 m3 m4 zx hl1 hl2 hl3
          generalize w8.setCell ⟨r, 2, none⟩ (.bool false) = wz9 at *
          obtain ⟨x0, x1, x2, x3, x4, x5, x6⟩ := KTz9.out.seven
          obtain ⟨y0, y1, y2, y3, y4, y5, y6⟩ := KYz9.out.seven
          obtain ⟨m0, m1, m2, m3, m4⟩ := K9z9.out.five
          have zx := K9z9.out.frozen 3
          have hl1 := KTz9.out.lt
          have hl2 := KYz9.out.lt
          have hl3 := K9z9.out.lt
          go_upto_region 29 with fail
          have K9z10 := Lib.hid (show Blk (wz9.setCell ⟨r, 3, none⟩ (.bool false)) r 36 #[.bool true, .bool fr, .bool false, .bool false, .bool false] from K9z9.out.put 3 _)
          have KTz10 := Lib.hid (KTz9.out.far (p := ⟨r, 3, none⟩) (show s + 1 ≠ r by have := HRX.out; omega) (.bool false))
          have KYz10 := Lib.hid (KYz9.out.far (p := ⟨r, 3, none⟩) (show s ≠ r by have := HRX.out; omega) (.bool false))
          have K8z10 := Lib.hid (K8z9.out.far (p := ⟨r, 3, none⟩) (show g + 1 ≠ r by have := HR9.out; omega) (.bool false))
          have Dz10 := Lib.hid (Dz9.out.far (a := ⟨r, 3, none⟩) NG.out.2.2.1 (.bool false))
          have Cz10 := Lib.hid (Cz9.out.new ⟨r, 3, none⟩ NB.out.2.2.2 (.bool false))
          clear KTz9 KYz9 K9z9 K8z9 Dz9 Cz9 x0 x1 x2 x3 x4 x5 x6 y0 y1 y2 y3 y4 y5 y6 m0 m1 m2 m3 m4 zx hl1 hl2 hl3
          generalize wz9.setCell ⟨r, 3, none⟩ (.bool false) = wz10 at *
          obtain ⟨x0, x1, x2, x3, x4, x5, x6⟩ := KTz10.out.seven
          obtain ⟨y0, y1, y2, y3, y4, y5, y6⟩ := KYz10.out.seven
          obtain ⟨m0, m1, m2, m3, m4⟩ := K9z10.out.five
          have zx := K9z10.out.frozen 4
          have hl1 := KTz10.out.lt
          have hl2 := KYz10.out.lt
          have hl3 := K9z10.out.lt
          go_upto_region 30 with fail
          have K9z11 := Lib.hid (show Blk (wz10.setCell ⟨r, 4, none⟩ (.bool false)) r 36 #[.bool true, .bool fr, .bool false, .bool false, .bool false] from K9z10.out.put 4 _)
          have KTz11 := Lib.hid (KTz10.out.far (p := ⟨r, 4, none⟩) (show s + 1 ≠ r by have := HRX.out; omega) (.bool false))
          have KYz11 := Lib.hid (KYz10.out.far (p := ⟨r, 4, none⟩) (show s ≠ r by have := HRX.out; omega) (.bool false))
          have K8z11 := Lib.hid (K8z10.out.far (p := ⟨r, 4, none⟩) (show g + 1 ≠ r by have := HR9.out; omega) (.bool false))
          have Dz11 := Lib.hid (Dz10.out.far (a := ⟨r, 4, none⟩) NG.out.2.2.1 (.bool false))
          have Cz11 := Lib.hid (Cz10.out.new ⟨r, 4, none⟩ NB.out.2.2.2 (.bool false))
          clear KTz10 KYz10 K9z10 K8z10 Dz10 Cz10 x0 x1 x2 x3 x4 x5 x6 y0 y1 y2 y3 y4 y5 y6 m0 m1 m2 m3 m4 zx hl1 hl2 hl3
          generalize wz10.setCell ⟨r, 4, none⟩ (.bool false) = wz11 at *
          have RR := Lib.hid (show wz11.rangeAt r 0 [.bool true, .bool fr, .bool false, .bool false, .bool false] by
            intro j v hv
            rw [Nat.zero_add, K9z11.out.cell, ← hv]
            simp)
          have hl8 := K8z11.out.lt
          have hl9 := K9z11.out.lt
          clear hu1 hu2 hu3 hu4
          go_wp2_with (first
            | (refine wpList_load_row 36 [.bool true, .bool fr, .bool false, .bool false, .bool false] _ (by rfl) _ rfl (by rfl) RR.out Try.underlying36 rfl (by kernel_rfl) ?_)
            | (refine wpList_store_hd ⟨true, fr, false, false, false⟩ rfl _ _ rfl rfl rfl K8z11.out ?_; intro w11 HK11 HC11))
          obtain ⟨m0, m1, m2, m3, m4⟩ := HK11.out.five
          have C11 := Lib.hid (Cz11.out.trans HC11.out (fun kk hkk => .inr (by rw [hkk, HG.out]; omega)))
          have D11 := Lib.hid (Dz11.out.chg HC11.out (fun kk hkk e => NG.out.2.2.2.1 (by rw [← e]; exact hkk)))
          refine bodyPost_ret (v := .agg #[.bool true, .bool fr, .bool false, .bool false, .bool false]) (by simp [results, Try.results9, go_sem, *]) rfl ?_
          rw [← HQ.out]
          refine ⟨⟨⟨true, fr, false, false, false⟩, rfl, ?_⟩, ⟨G', _, n', c', D11.out, fun kk hkk => (HG'.out kk hkk).1⟩, C11.out⟩
          unfold hearH
          rw [HT.out, if_pos rfl, HYW.out, HTT.out, ← HFR.out, HLED.out]
        · have HT2 := Lib.hid ht2
          clear ht2
          have HLED := Lib.hid (show ledH i fr y t = ⟨true, fr, true, false, true⟩ by
            unfold ledH bearsB
            rw [HT2.out, HY2.out, hu1, hu2, hu3, hu4]
            try rw [hp]
            simp [bne, *])
          have KT9 := Lib.hid (show Blk w8 (s + 1) 47 #[.int .i64 t.id, .int .i64 t.prio, .int .i64 t.dr, .int .i64 t.bdr, .int .i64 t.st, .bool true, .int .i64 t.tick] by rw [← HT2.out]; exact KT8.out)
          have KY9 := Lib.hid (show Blk w8 s 47 #[.int .i64 y.id, .int .i64 y.prio, .int .i64 y.dr, .int .i64 y.bdr, .int .i64 y.st, .bool false, .int .i64 y.tick] by rw [← HY2.out]; exact KY8.out)
          clear KT8 KY8
          obtain ⟨x0, x1, x2, x3, x4, x5, x6⟩ := KT9.out.seven
          obtain ⟨y0, y1, y2, y3, y4, y5, y6⟩ := KY9.out.seven
          obtain ⟨m0, m1, m2, m3, m4⟩ := K98.out.five
          have zx := K98.out.frozen 2
          have hl1 := KT9.out.lt
          have hl2 := KY9.out.lt
          have hl3 := K98.out.lt
          go_upto_region 28 with fail
          have K9z9 := Lib.hid (show Blk (w8.setCell ⟨r, 2, none⟩ (.bool true)) r 36 #[.bool true, .bool fr, .bool true, .bool false, .bool false] from K98.out.put 2 _)
          have KTz9 := Lib.hid (KT9.out.far (p := ⟨r, 2, none⟩) (show s + 1 ≠ r by have := HRX.out; omega) (.bool true))
          have KYz9 := Lib.hid (KY9.out.far (p := ⟨r, 2, none⟩) (show s ≠ r by have := HRX.out; omega) (.bool true))
          have K8z9 := Lib.hid (K88.out.far (p := ⟨r, 2, none⟩) (show g + 1 ≠ r by have := HR9.out; omega) (.bool true))
          have Dz9 := Lib.hid (D8.out.far (a := ⟨r, 2, none⟩) NG.out.2.2.1 (.bool true))
          have Cz9 := Lib.hid (C8.out.new ⟨r, 2, none⟩ NB.out.2.2.2 (.bool true))
          clear KT9 KY9 K98 K88 D8 C8 x0 x1 x2 x3 x4 x5 x6 y0 y1 y2 y3 y4 y5 y6 m0 m1 m2 m3 m4 zx hl1 hl2 hl3
          generalize w8.setCell ⟨r, 2, none⟩ (.bool true) = wz9 at *
          obtain ⟨x0, x1, x2, x3, x4, x5, x6⟩ := KTz9.out.seven
          obtain ⟨y0, y1, y2, y3, y4, y5, y6⟩ := KYz9.out.seven
          obtain ⟨m0, m1, m2, m3, m4⟩ := K9z9.out.five
          have zx := K9z9.out.frozen 3
          have hl1 := KTz9.out.lt
          have hl2 := KYz9.out.lt
          have hl3 := K9z9.out.lt
          go_upto_region 29 with fail
          have K9z10 := Lib.hid (show Blk (wz9.setCell ⟨r, 3, none⟩ (.bool false)) r 36 #[.bool true, .bool fr, .bool true, .bool false, .bool false] from K9z9.out.put 3 _)
          have KTz10 := Lib.hid (KTz9.out.far (p := ⟨r, 3, none⟩) (show s + 1 ≠ r by have := HRX.out; omega) (.bool false))
          have KYz10 := Lib.hid (KYz9.out.far (p := ⟨r, 3, none⟩) (show s ≠ r by have := HRX.out; omega) (.bool false))
          have K8z10 := Lib.hid (K8z9.out.far (p := ⟨r, 3, none⟩) (show g + 1 ≠ r by have := HR9.out; omega) (.bool false))
          have Dz10 := Lib.hid (Dz9.out.far (a := ⟨r, 3, none⟩) NG.out.2.2.1 (.bool false))
          have Cz10 := Lib.hid (Cz9.out.new ⟨r, 3, none⟩ NB.out.2.2.2 (.bool false))
          clear KTz9 KYz9 K9z9 K8z9 Dz9 Cz9 x0 x1 x2 x3 x4 x5 x6 y0 y1 y2 y3 y4 y5 y6 m0 m1 m2 m3 m4 zx hl1 hl2 hl3
          generalize wz9.setCell ⟨r, 3, none⟩ (.bool false) = wz10 at *
          obtain ⟨x0, x1, x2, x3, x4, x5, x6⟩ := KTz10.out.seven
          obtain ⟨y0, y1, y2, y3, y4, y5, y6⟩ := KYz10.out.seven
          obtain ⟨m0, m1, m2, m3, m4⟩ := K9z10.out.five
          have zx := K9z10.out.frozen 4
          have hl1 := KTz10.out.lt
          have hl2 := KYz10.out.lt
          have hl3 := K9z10.out.lt
          go_upto_region 30 with fail
          have K9z11 := Lib.hid (show Blk (wz10.setCell ⟨r, 4, none⟩ (.bool true)) r 36 #[.bool true, .bool fr, .bool true, .bool false, .bool true] from K9z10.out.put 4 _)
          have KTz11 := Lib.hid (KTz10.out.far (p := ⟨r, 4, none⟩) (show s + 1 ≠ r by have := HRX.out; omega) (.bool true))
          have KYz11 := Lib.hid (KYz10.out.far (p := ⟨r, 4, none⟩) (show s ≠ r by have := HRX.out; omega) (.bool true))
          have K8z11 := Lib.hid (K8z10.out.far (p := ⟨r, 4, none⟩) (show g + 1 ≠ r by have := HR9.out; omega) (.bool true))
          have Dz11 := Lib.hid (Dz10.out.far (a := ⟨r, 4, none⟩) NG.out.2.2.1 (.bool true))
          have Cz11 := Lib.hid (Cz10.out.new ⟨r, 4, none⟩ NB.out.2.2.2 (.bool true))
          clear KTz10 KYz10 K9z10 K8z10 Dz10 Cz10 x0 x1 x2 x3 x4 x5 x6 y0 y1 y2 y3 y4 y5 y6 m0 m1 m2 m3 m4 zx hl1 hl2 hl3
          generalize wz10.setCell ⟨r, 4, none⟩ (.bool true) = wz11 at *
          have RR := Lib.hid (show wz11.rangeAt r 0 [.bool true, .bool fr, .bool true, .bool false, .bool true] by
            intro j v hv
            rw [Nat.zero_add, K9z11.out.cell, ← hv]
            simp)
          have hl8 := K8z11.out.lt
          have hl9 := K9z11.out.lt
          clear hu1 hu2 hu3 hu4
          go_wp2_with (first
            | (refine wpList_load_row 36 [.bool true, .bool fr, .bool true, .bool false, .bool true] _ (by rfl) _ rfl (by rfl) RR.out Try.underlying36 rfl (by kernel_rfl) ?_)
            | (refine wpList_store_hd ⟨true, fr, true, false, true⟩ rfl _ _ rfl rfl rfl K8z11.out ?_; intro w11 HK11 HC11))
          obtain ⟨m0, m1, m2, m3, m4⟩ := HK11.out.five
          have C11 := Lib.hid (Cz11.out.trans HC11.out (fun kk hkk => .inr (by rw [hkk, HG.out]; omega)))
          have D11 := Lib.hid (Dz11.out.chg HC11.out (fun kk hkk e => NG.out.2.2.2.1 (by rw [← e]; exact hkk)))
          refine bodyPost_ret (v := .agg #[.bool true, .bool fr, .bool true, .bool false, .bool true]) (by simp [results, Try.results9, go_sem, *]) rfl ?_
          rw [← HQ.out]
          refine ⟨⟨⟨true, fr, true, false, true⟩, rfl, ?_⟩, ⟨G', _, n', c', D11.out, fun kk hkk => (HG'.out kk hkk).1⟩, C11.out⟩
          unfold hearH
          rw [HT.out, if_pos rfl, HYW.out, HTT.out, ← HFR.out, HLED.out]
      · have HY2 := Lib.hid hy2
        clear hy2
        cases ht2 : t.two
        · have HT2 := Lib.hid ht2
          clear ht2
          have HLED := Lib.hid (show ledH i fr y t = ⟨true, fr, false, true, true⟩ by
            unfold ledH bearsB
            rw [HT2.out, HY2.out, hu1, hu2, hu3, hu4]
            try rw [hp]
            simp [bne, *])
          have KT9 := Lib.hid (show Blk w8 (s + 1) 47 #[.int .i64 t.id, .int .i64 t.prio, .int .i64 t.dr, .int .i64 t.bdr, .int .i64 t.st, .bool false, .int .i64 t.tick] by rw [← HT2.out]; exact KT8.out)
          have KY9 := Lib.hid (show Blk w8 s 47 #[.int .i64 y.id, .int .i64 y.prio, .int .i64 y.dr, .int .i64 y.bdr, .int .i64 y.st, .bool true, .int .i64 y.tick] by rw [← HY2.out]; exact KY8.out)
          clear KT8 KY8
          obtain ⟨x0, x1, x2, x3, x4, x5, x6⟩ := KT9.out.seven
          obtain ⟨y0, y1, y2, y3, y4, y5, y6⟩ := KY9.out.seven
          obtain ⟨m0, m1, m2, m3, m4⟩ := K98.out.five
          have zx := K98.out.frozen 2
          have hl1 := KT9.out.lt
          have hl2 := KY9.out.lt
          have hl3 := K98.out.lt
          go_upto_region 28 with fail
          have K9z9 := Lib.hid (show Blk (w8.setCell ⟨r, 2, none⟩ (.bool false)) r 36 #[.bool true, .bool fr, .bool false, .bool false, .bool false] from K98.out.put 2 _)
          have KTz9 := Lib.hid (KT9.out.far (p := ⟨r, 2, none⟩) (show s + 1 ≠ r by have := HRX.out; omega) (.bool false))
          have KYz9 := Lib.hid (KY9.out.far (p := ⟨r, 2, none⟩) (show s ≠ r by have := HRX.out; omega) (.bool false))
          have K8z9 := Lib.hid (K88.out.far (p := ⟨r, 2, none⟩) (show g + 1 ≠ r by have := HR9.out; omega) (.bool false))
          have Dz9 := Lib.hid (D8.out.far (a := ⟨r, 2, none⟩) NG.out.2.2.1 (.bool false))
          have Cz9 := Lib.hid (C8.out.new ⟨r, 2, none⟩ NB.out.2.2.2 (.bool false))
          clear KT9 KY9 K98 K88 D8 C8 x0 x1 x2 x3 x4 x5 x6 y0 y1 y2 y3 y4 y5 y6 m0 m1 m2 m3 m4 zx hl1 hl2 hl3
          generalize w8.setCell ⟨r, 2, none⟩ (.bool false) = wz9 at *
          obtain ⟨x0, x1, x2, x3, x4, x5, x6⟩ := KTz9.out.seven
          obtain ⟨y0, y1, y2, y3, y4, y5, y6⟩ := KYz9.out.seven
          obtain ⟨m0, m1, m2, m3, m4⟩ := K9z9.out.five
          have zx := K9z9.out.frozen 3
          have hl1 := KTz9.out.lt
          have hl2 := KYz9.out.lt
          have hl3 := K9z9.out.lt
          go_upto_region 29 with fail
          have K9z10 := Lib.hid (show Blk (wz9.setCell ⟨r, 3, none⟩ (.bool true)) r 36 #[.bool true, .bool fr, .bool false, .bool true, .bool false] from K9z9.out.put 3 _)
          have KTz10 := Lib.hid (KTz9.out.far (p := ⟨r, 3, none⟩) (show s + 1 ≠ r by have := HRX.out; omega) (.bool true))
          have KYz10 := Lib.hid (KYz9.out.far (p := ⟨r, 3, none⟩) (show s ≠ r by have := HRX.out; omega) (.bool true))
          have K8z10 := Lib.hid (K8z9.out.far (p := ⟨r, 3, none⟩) (show g + 1 ≠ r by have := HR9.out; omega) (.bool true))
          have Dz10 := Lib.hid (Dz9.out.far (a := ⟨r, 3, none⟩) NG.out.2.2.1 (.bool true))
          have Cz10 := Lib.hid (Cz9.out.new ⟨r, 3, none⟩ NB.out.2.2.2 (.bool true))
          clear KTz9 KYz9 K9z9 K8z9 Dz9 Cz9 x0 x1 x2 x3 x4 x5 x6 y0 y1 y2 y3 y4 y5 y6 m0 m1 m2 m3 m4 zx hl1 hl2 hl3
          generalize wz9.setCell ⟨r, 3, none⟩ (.bool true) = wz10 at *
          obtain ⟨x0, x1, x2, x3, x4, x5, x6⟩ := KTz10.out.seven
          obtain ⟨y0, y1, y2, y3, y4, y5, y6⟩ := KYz10.out.seven
          obtain ⟨m0, m1, m2, m3, m4⟩ := K9z10.out.five
          have zx := K9z10.out.frozen 4
          have hl1 := KTz10.out.lt
          have hl2 := KYz10.out.lt
          have hl3 := K9z10.out.lt
          go_upto_region 30 with fail
          have K9z11 := Lib.hid (show Blk (wz10.setCell ⟨r, 4, none⟩ (.bool true)) r 36 #[.bool true, .bool fr, .bool false, .bool true, .bool true] from K9z10.out.put 4 _)
          have KTz11 := Lib.hid (KTz10.out.far (p := ⟨r, 4, none⟩) (show s + 1 ≠ r by have := HRX.out; omega) (.bool true))
          have KYz11 := Lib.hid (KYz10.out.far (p := ⟨r, 4, none⟩) (show s ≠ r by have := HRX.out; omega) (.bool true))
          have K8z11 := Lib.hid (K8z10.out.far (p := ⟨r, 4, none⟩) (show g + 1 ≠ r by have := HR9.out; omega) (.bool true))
          have Dz11 := Lib.hid (Dz10.out.far (a := ⟨r, 4, none⟩) NG.out.2.2.1 (.bool true))
          have Cz11 := Lib.hid (Cz10.out.new ⟨r, 4, none⟩ NB.out.2.2.2 (.bool true))
          clear KTz10 KYz10 K9z10 K8z10 Dz10 Cz10 x0 x1 x2 x3 x4 x5 x6 y0 y1 y2 y3 y4 y5 y6 m0 m1 m2 m3 m4 zx hl1 hl2 hl3
          generalize wz10.setCell ⟨r, 4, none⟩ (.bool true) = wz11 at *
          have RR := Lib.hid (show wz11.rangeAt r 0 [.bool true, .bool fr, .bool false, .bool true, .bool true] by
            intro j v hv
            rw [Nat.zero_add, K9z11.out.cell, ← hv]
            simp)
          have hl8 := K8z11.out.lt
          have hl9 := K9z11.out.lt
          clear hu1 hu2 hu3 hu4
          go_wp2_with (first
            | (refine wpList_load_row 36 [.bool true, .bool fr, .bool false, .bool true, .bool true] _ (by rfl) _ rfl (by rfl) RR.out Try.underlying36 rfl (by kernel_rfl) ?_)
            | (refine wpList_store_hd ⟨true, fr, false, true, true⟩ rfl _ _ rfl rfl rfl K8z11.out ?_; intro w11 HK11 HC11))
          obtain ⟨m0, m1, m2, m3, m4⟩ := HK11.out.five
          have C11 := Lib.hid (Cz11.out.trans HC11.out (fun kk hkk => .inr (by rw [hkk, HG.out]; omega)))
          have D11 := Lib.hid (Dz11.out.chg HC11.out (fun kk hkk e => NG.out.2.2.2.1 (by rw [← e]; exact hkk)))
          refine bodyPost_ret (v := .agg #[.bool true, .bool fr, .bool false, .bool true, .bool true]) (by simp [results, Try.results9, go_sem, *]) rfl ?_
          rw [← HQ.out]
          refine ⟨⟨⟨true, fr, false, true, true⟩, rfl, ?_⟩, ⟨G', _, n', c', D11.out, fun kk hkk => (HG'.out kk hkk).1⟩, C11.out⟩
          unfold hearH
          rw [HT.out, if_pos rfl, HYW.out, HTT.out, ← HFR.out, HLED.out]
        · have HT2 := Lib.hid ht2
          clear ht2
          cases hp : (y.prio != t.prio)
          · cases he : (u1 == u2)
            · have HLED := Lib.hid (show ledH i fr y t = ⟨true, fr, true, false, true⟩ by
                unfold ledH bearsB
                rw [HT2.out, HY2.out, hu1, hu2, hu3, hu4]
                try rw [hp]
                simp [bne, *])
              have KT9 := Lib.hid (show Blk w8 (s + 1) 47 #[.int .i64 t.id, .int .i64 t.prio, .int .i64 t.dr, .int .i64 t.bdr, .int .i64 t.st, .bool true, .int .i64 t.tick] by rw [← HT2.out]; exact KT8.out)
              have KY9 := Lib.hid (show Blk w8 s 47 #[.int .i64 y.id, .int .i64 y.prio, .int .i64 y.dr, .int .i64 y.bdr, .int .i64 y.st, .bool true, .int .i64 y.tick] by rw [← HY2.out]; exact KY8.out)
              clear KT8 KY8
              obtain ⟨x0, x1, x2, x3, x4, x5, x6⟩ := KT9.out.seven
              obtain ⟨y0, y1, y2, y3, y4, y5, y6⟩ := KY9.out.seven
              obtain ⟨m0, m1, m2, m3, m4⟩ := K98.out.five
              have zx := K98.out.frozen 2
              have hl1 := KT9.out.lt
              have hl2 := KY9.out.lt
              have hl3 := K98.out.lt
              go_upto_region 28 with fail
              have K9z9 := Lib.hid (show Blk (w8.setCell ⟨r, 2, none⟩ (.bool true)) r 36 #[.bool true, .bool fr, .bool true, .bool false, .bool false] from K98.out.put 2 _)
              have KTz9 := Lib.hid (KT9.out.far (p := ⟨r, 2, none⟩) (show s + 1 ≠ r by have := HRX.out; omega) (.bool true))
              have KYz9 := Lib.hid (KY9.out.far (p := ⟨r, 2, none⟩) (show s ≠ r by have := HRX.out; omega) (.bool true))
              have K8z9 := Lib.hid (K88.out.far (p := ⟨r, 2, none⟩) (show g + 1 ≠ r by have := HR9.out; omega) (.bool true))
              have Dz9 := Lib.hid (D8.out.far (a := ⟨r, 2, none⟩) NG.out.2.2.1 (.bool true))
              have Cz9 := Lib.hid (C8.out.new ⟨r, 2, none⟩ NB.out.2.2.2 (.bool true))
              clear KT9 KY9 K98 K88 D8 C8 x0 x1 x2 x3 x4 x5 x6 y0 y1 y2 y3 y4 y5 y6 m0 m1 m2 m3 m4 zx hl1 hl2 hl3
              generalize w8.setCell ⟨r, 2, none⟩ (.bool true) = wz9 at *
              obtain ⟨x0, x1, x2, x3, x4, x5, x6⟩ := KTz9.out.seven
              obtain ⟨y0, y1, y2, y3, y4, y5, y6⟩ := KYz9.out.seven
              obtain ⟨m0, m1, m2, m3, m4⟩ := K9z9.out.five
              have zx := K9z9.out.frozen 3
              have hl1 := KTz9.out.lt
              have hl2 := KYz9.out.lt
              have hl3 := K9z9.out.lt
              go_upto_region 29 with fail
              have K9z10 := Lib.hid (show Blk (wz9.setCell ⟨r, 3, none⟩ (.bool false)) r 36 #[.bool true, .bool fr, .bool true, .bool false, .bool false] from K9z9.out.put 3 _)
              have KTz10 := Lib.hid (KTz9.out.far (p := ⟨r, 3, none⟩) (show s + 1 ≠ r by have := HRX.out; omega) (.bool false))
              have KYz10 := Lib.hid (KYz9.out.far (p := ⟨r, 3, none⟩) (show s ≠ r by have := HRX.out; omega) (.bool false))
              have K8z10 := Lib.hid (K8z9.out.far (p := ⟨r, 3, none⟩) (show g + 1 ≠ r by have := HR9.out; omega) (.bool false))
              have Dz10 := Lib.hid (Dz9.out.far (a := ⟨r, 3, none⟩) NG.out.2.2.1 (.bool false))
              have Cz10 := Lib.hid (Cz9.out.new ⟨r, 3, none⟩ NB.out.2.2.2 (.bool false))
              clear KTz9 KYz9 K9z9 K8z9 Dz9 Cz9 x0 x1 x2 x3 x4 x5 x6 y0 y1 y2 y3 y4 y5 y6 m0 m1 m2 m3 m4 zx hl1 hl2 hl3
              generalize wz9.setCell ⟨r, 3, none⟩ (.bool false) = wz10 at *
              obtain ⟨x0, x1, x2, x3, x4, x5, x6⟩ := KTz10.out.seven
              obtain ⟨y0, y1, y2, y3, y4, y5, y6⟩ := KYz10.out.seven
              obtain ⟨m0, m1, m2, m3, m4⟩ := K9z10.out.five
              have zx := K9z10.out.frozen 4
              have hl1 := KTz10.out.lt
              have hl2 := KYz10.out.lt
              have hl3 := K9z10.out.lt
              go_upto_region 30 with fail
              have K9z11 := Lib.hid (show Blk (wz10.setCell ⟨r, 4, none⟩ (.bool true)) r 36 #[.bool true, .bool fr, .bool true, .bool false, .bool true] from K9z10.out.put 4 _)
              have KTz11 := Lib.hid (KTz10.out.far (p := ⟨r, 4, none⟩) (show s + 1 ≠ r by have := HRX.out; omega) (.bool true))
              have KYz11 := Lib.hid (KYz10.out.far (p := ⟨r, 4, none⟩) (show s ≠ r by have := HRX.out; omega) (.bool true))
              have K8z11 := Lib.hid (K8z10.out.far (p := ⟨r, 4, none⟩) (show g + 1 ≠ r by have := HR9.out; omega) (.bool true))
              have Dz11 := Lib.hid (Dz10.out.far (a := ⟨r, 4, none⟩) NG.out.2.2.1 (.bool true))
              have Cz11 := Lib.hid (Cz10.out.new ⟨r, 4, none⟩ NB.out.2.2.2 (.bool true))
              clear KTz10 KYz10 K9z10 K8z10 Dz10 Cz10 x0 x1 x2 x3 x4 x5 x6 y0 y1 y2 y3 y4 y5 y6 m0 m1 m2 m3 m4 zx hl1 hl2 hl3
              generalize wz10.setCell ⟨r, 4, none⟩ (.bool true) = wz11 at *
              have RR := Lib.hid (show wz11.rangeAt r 0 [.bool true, .bool fr, .bool true, .bool false, .bool true] by
                intro j v hv
                rw [Nat.zero_add, K9z11.out.cell, ← hv]
                simp)
              have hl8 := K8z11.out.lt
              have hl9 := K9z11.out.lt
              clear hu1 hu2 hu3 hu4
              go_wp2_with (first
                | (refine wpList_load_row 36 [.bool true, .bool fr, .bool true, .bool false, .bool true] _ (by rfl) _ rfl (by rfl) RR.out Try.underlying36 rfl (by kernel_rfl) ?_)
                | (refine wpList_store_hd ⟨true, fr, true, false, true⟩ rfl _ _ rfl rfl rfl K8z11.out ?_; intro w11 HK11 HC11))
              obtain ⟨m0, m1, m2, m3, m4⟩ := HK11.out.five
              have C11 := Lib.hid (Cz11.out.trans HC11.out (fun kk hkk => .inr (by rw [hkk, HG.out]; omega)))
              have D11 := Lib.hid (Dz11.out.chg HC11.out (fun kk hkk e => NG.out.2.2.2.1 (by rw [← e]; exact hkk)))
              refine bodyPost_ret (v := .agg #[.bool true, .bool fr, .bool true, .bool false, .bool true]) (by simp [results, Try.results9, go_sem, *]) rfl ?_
              rw [← HQ.out]
              refine ⟨⟨⟨true, fr, true, false, true⟩, rfl, ?_⟩, ⟨G', _, n', c', D11.out, fun kk hkk => (HG'.out kk hkk).1⟩, C11.out⟩
              unfold hearH
              rw [HT.out, if_pos rfl, HYW.out, HTT.out, ← HFR.out, HLED.out]
            · obtain rfl : u1 = u2 := by simpa using he
              clear he
              obtain ⟨ne, hne⟩ : ∃ ne, (u3 == u4) = ne := ⟨_, rfl⟩
              have HLED := Lib.hid (show ledH i fr y t = ⟨true, fr, true, false, (!ne)⟩ by
                unfold ledH bearsB
                rw [HT2.out, HY2.out, hu1, hu2, hu3, hu4]
                try rw [hp]
                simp [bne, *])
              have KT9 := Lib.hid (show Blk w8 (s + 1) 47 #[.int .i64 t.id, .int .i64 t.prio, .int .i64 t.dr, .int .i64 t.bdr, .int .i64 t.st, .bool true, .int .i64 t.tick] by rw [← HT2.out]; exact KT8.out)
              have KY9 := Lib.hid (show Blk w8 s 47 #[.int .i64 y.id, .int .i64 y.prio, .int .i64 y.dr, .int .i64 y.bdr, .int .i64 y.st, .bool true, .int .i64 y.tick] by rw [← HY2.out]; exact KY8.out)
              clear KT8 KY8
              obtain ⟨x0, x1, x2, x3, x4, x5, x6⟩ := KT9.out.seven
              obtain ⟨y0, y1, y2, y3, y4, y5, y6⟩ := KY9.out.seven
              obtain ⟨m0, m1, m2, m3, m4⟩ := K98.out.five
              have zx := K98.out.frozen 2
              have hl1 := KT9.out.lt
              have hl2 := KY9.out.lt
              have hl3 := K98.out.lt
              go_upto_region 28 with fail
              have K9z9 := Lib.hid (show Blk (w8.setCell ⟨r, 2, none⟩ (.bool true)) r 36 #[.bool true, .bool fr, .bool true, .bool false, .bool false] from K98.out.put 2 _)
              have KTz9 := Lib.hid (KT9.out.far (p := ⟨r, 2, none⟩) (show s + 1 ≠ r by have := HRX.out; omega) (.bool true))
              have KYz9 := Lib.hid (KY9.out.far (p := ⟨r, 2, none⟩) (show s ≠ r by have := HRX.out; omega) (.bool true))
              have K8z9 := Lib.hid (K88.out.far (p := ⟨r, 2, none⟩) (show g + 1 ≠ r by have := HR9.out; omega) (.bool true))
              have Dz9 := Lib.hid (D8.out.far (a := ⟨r, 2, none⟩) NG.out.2.2.1 (.bool true))
              have Cz9 := Lib.hid (C8.out.new ⟨r, 2, none⟩ NB.out.2.2.2 (.bool true))
              clear KT9 KY9 K98 K88 D8 C8 x0 x1 x2 x3 x4 x5 x6 y0 y1 y2 y3 y4 y5 y6 m0 m1 m2 m3 m4 zx hl1 hl2 hl3
              generalize w8.setCell ⟨r, 2, none⟩ (.bool true) = wz9 at *
              obtain ⟨x0, x1, x2, x3, x4, x5, x6⟩ := KTz9.out.seven
              obtain ⟨y0, y1, y2, y3, y4, y5, y6⟩ := KYz9.out.seven
              obtain ⟨m0, m1, m2, m3, m4⟩ := K9z9.out.five
              have zx := K9z9.out.frozen 3
              have hl1 := KTz9.out.lt
              have hl2 := KYz9.out.lt
              have hl3 := K9z9.out.lt
              go_upto_region 29 with fail
              have K9z10 := Lib.hid (show Blk (wz9.setCell ⟨r, 3, none⟩ (.bool false)) r 36 #[.bool true, .bool fr, .bool true, .bool false, .bool false] from K9z9.out.put 3 _)
              have KTz10 := Lib.hid (KTz9.out.far (p := ⟨r, 3, none⟩) (show s + 1 ≠ r by have := HRX.out; omega) (.bool false))
              have KYz10 := Lib.hid (KYz9.out.far (p := ⟨r, 3, none⟩) (show s ≠ r by have := HRX.out; omega) (.bool false))
              have K8z10 := Lib.hid (K8z9.out.far (p := ⟨r, 3, none⟩) (show g + 1 ≠ r by have := HR9.out; omega) (.bool false))
              have Dz10 := Lib.hid (Dz9.out.far (a := ⟨r, 3, none⟩) NG.out.2.2.1 (.bool false))
              have Cz10 := Lib.hid (Cz9.out.new ⟨r, 3, none⟩ NB.out.2.2.2 (.bool false))
              clear KTz9 KYz9 K9z9 K8z9 Dz9 Cz9 x0 x1 x2 x3 x4 x5 x6 y0 y1 y2 y3 y4 y5 y6 m0 m1 m2 m3 m4 zx hl1 hl2 hl3
              generalize wz9.setCell ⟨r, 3, none⟩ (.bool false) = wz10 at *
              obtain ⟨x0, x1, x2, x3, x4, x5, x6⟩ := KTz10.out.seven
              obtain ⟨y0, y1, y2, y3, y4, y5, y6⟩ := KYz10.out.seven
              obtain ⟨m0, m1, m2, m3, m4⟩ := K9z10.out.five
              have zx := K9z10.out.frozen 4
              have hl1 := KTz10.out.lt
              have hl2 := KYz10.out.lt
              have hl3 := K9z10.out.lt
              go_upto_region 30 with fail
              have K9z11 := Lib.hid (show Blk (wz10.setCell ⟨r, 4, none⟩ (.bool (!ne))) r 36 #[.bool true, .bool fr, .bool true, .bool false, .bool (!ne)] from K9z10.out.put 4 _)
              have KTz11 := Lib.hid (KTz10.out.far (p := ⟨r, 4, none⟩) (show s + 1 ≠ r by have := HRX.out; omega) (.bool (!ne)))
              have KYz11 := Lib.hid (KYz10.out.far (p := ⟨r, 4, none⟩) (show s ≠ r by have := HRX.out; omega) (.bool (!ne)))
              have K8z11 := Lib.hid (K8z10.out.far (p := ⟨r, 4, none⟩) (show g + 1 ≠ r by have := HR9.out; omega) (.bool (!ne)))
              have Dz11 := Lib.hid (Dz10.out.far (a := ⟨r, 4, none⟩) NG.out.2.2.1 (.bool (!ne)))
              have Cz11 := Lib.hid (Cz10.out.new ⟨r, 4, none⟩ NB.out.2.2.2 (.bool (!ne)))
              clear KTz10 KYz10 K9z10 K8z10 Dz10 Cz10 x0 x1 x2 x3 x4 x5 x6 y0 y1 y2 y3 y4 y5 y6 m0 m1 m2 m3 m4 zx hl1 hl2 hl3
              generalize wz10.setCell ⟨r, 4, none⟩ (.bool (!ne)) = wz11 at *
              have RR := Lib.hid (show wz11.rangeAt r 0 [.bool true, .bool fr, .bool true, .bool false, .bool (!ne)] by
                intro j v hv
                rw [Nat.zero_add, K9z11.out.cell, ← hv]
                simp)
              have hl8 := K8z11.out.lt
              have hl9 := K9z11.out.lt
              clear hu1 hu2 hu3 hu4
              go_wp2_with (first
                | (refine wpList_load_row 36 [.bool true, .bool fr, .bool true, .bool false, .bool (!ne)] _ (by rfl) _ rfl (by rfl) RR.out Try.underlying36 rfl (by kernel_rfl) ?_)
                | (refine wpList_store_hd ⟨true, fr, true, false, (!ne)⟩ rfl _ _ rfl rfl rfl K8z11.out ?_; intro w11 HK11 HC11))
              obtain ⟨m0, m1, m2, m3, m4⟩ := HK11.out.five
              have C11 := Lib.hid (Cz11.out.trans HC11.out (fun kk hkk => .inr (by rw [hkk, HG.out]; omega)))
              have D11 := Lib.hid (Dz11.out.chg HC11.out (fun kk hkk e => NG.out.2.2.2.1 (by rw [← e]; exact hkk)))
              refine bodyPost_ret (v := .agg #[.bool true, .bool fr, .bool true, .bool false, .bool (!ne)]) (by simp [results, Try.results9, go_sem, *]) rfl ?_
              rw [← HQ.out]
              refine ⟨⟨⟨true, fr, true, false, (!ne)⟩, rfl, ?_⟩, ⟨G', _, n', c', D11.out, fun kk hkk => (HG'.out kk hkk).1⟩, C11.out⟩
              unfold hearH
              rw [HT.out, if_pos rfl, HYW.out, HTT.out, ← HFR.out, HLED.out]
          · have HLED := Lib.hid (show ledH i fr y t = ⟨true, fr, true, false, true⟩ by
              unfold ledH bearsB
              rw [HT2.out, HY2.out, hu1, hu2, hu3, hu4]
              try rw [hp]
              simp [bne, *])
            have KT9 := Lib.hid (show Blk w8 (s + 1) 47 #[.int .i64 t.id, .int .i64 t.prio, .int .i64 t.dr, .int .i64 t.bdr, .int .i64 t.st, .bool true, .int .i64 t.tick] by rw [← HT2.out]; exact KT8.out)
            have KY9 := Lib.hid (show Blk w8 s 47 #[.int .i64 y.id, .int .i64 y.prio, .int .i64 y.dr, .int .i64 y.bdr, .int .i64 y.st, .bool true, .int .i64 y.tick] by rw [← HY2.out]; exact KY8.out)
            clear KT8 KY8
            obtain ⟨x0, x1, x2, x3, x4, x5, x6⟩ := KT9.out.seven
            obtain ⟨y0, y1, y2, y3, y4, y5, y6⟩ := KY9.out.seven
            obtain ⟨m0, m1, m2, m3, m4⟩ := K98.out.five
            have zx := K98.out.frozen 2
            have hl1 := KT9.out.lt
            have hl2 := KY9.out.lt
            have hl3 := K98.out.lt
            go_upto_region 28 with fail
            have K9z9 := Lib.hid (show Blk (w8.setCell ⟨r, 2, none⟩ (.bool true)) r 36 #[.bool true, .bool fr, .bool true, .bool false, .bool false] from K98.out.put 2 _)
            have KTz9 := Lib.hid (KT9.out.far (p := ⟨r, 2, none⟩) (show s + 1 ≠ r by have := HRX.out; omega) (.bool true))
            have KYz9 := Lib.hid (KY9.out.far (p := ⟨r, 2, none⟩) (show s ≠ r by have := HRX.out; omega) (.bool true))
            have K8z9 := Lib.hid (K88.out.far (p := ⟨r, 2, none⟩) (show g + 1 ≠ r by have := HR9.out; omega) (.bool true))
            have Dz9 := Lib.hid (D8.out.far (a := ⟨r, 2, none⟩) NG.out.2.2.1 (.bool true))
            have Cz9 := Lib.hid (C8.out.new ⟨r, 2, none⟩ NB.out.2.2.2 (.bool true))
            clear KT9 KY9 K98 K88 D8 C8 x0 x1 x2 x3 x4 x5 x6 y0 y1 y2 y3 y4 y5 y6 m0 m1 m2 m3 m4 zx hl1 hl2 hl3
            generalize w8.setCell ⟨r, 2, none⟩ (.bool true) = wz9 at *
            obtain ⟨x0, x1, x2, x3, x4, x5, x6⟩ := KTz9.out.seven
            obtain ⟨y0, y1, y2, y3, y4, y5, y6⟩ := KYz9.out.seven
            obtain ⟨m0, m1, m2, m3, m4⟩ := K9z9.out.five
            have zx := K9z9.out.frozen 3
            have hl1 := KTz9.out.lt
            have hl2 := KYz9.out.lt
            have hl3 := K9z9.out.lt
            go_upto_region 29 with fail
            have K9z10 := Lib.hid (show Blk (wz9.setCell ⟨r, 3, none⟩ (.bool false)) r 36 #[.bool true, .bool fr, .bool true, .bool false, .bool false] from K9z9.out.put 3 _)
            have KTz10 := Lib.hid (KTz9.out.far (p := ⟨r, 3, none⟩) (show s + 1 ≠ r by have := HRX.out; omega) (.bool false))
            have KYz10 := Lib.hid (KYz9.out.far (p := ⟨r, 3, none⟩) (show s ≠ r by have := HRX.out; omega) (.bool false))
            have K8z10 := Lib.hid (K8z9.out.far (p := ⟨r, 3, none⟩) (show g + 1 ≠ r by have := HR9.out; omega) (.bool false))
            have Dz10 := Lib.hid (Dz9.out.far (a := ⟨r, 3, none⟩) NG.out.2.2.1 (.bool false))
            have Cz10 := Lib.hid (Cz9.out.new ⟨r, 3, none⟩ NB.out.2.2.2 (.bool false))
            clear KTz9 KYz9 K9z9 K8z9 Dz9 Cz9 x0 x1 x2 x3 x4 x5 x6 y0 y1 y2 y3 y4 y5 y6 m0 m1 m2 m3 m4 zx hl1 hl2 hl3
            generalize wz9.setCell ⟨r, 3, none⟩ (.bool false) = wz10 at *
            obtain ⟨x0, x1, x2, x3, x4, x5, x6⟩ := KTz10.out.seven
            obtain ⟨y0, y1, y2, y3, y4, y5, y6⟩ := KYz10.out.seven
            obtain ⟨m0, m1, m2, m3, m4⟩ := K9z10.out.five
            have zx := K9z10.out.frozen 4
            have hl1 := KTz10.out.lt
            have hl2 := KYz10.out.lt
            have hl3 := K9z10.out.lt
            go_upto_region 30 with fail
            have K9z11 := Lib.hid (show Blk (wz10.setCell ⟨r, 4, none⟩ (.bool true)) r 36 #[.bool true, .bool fr, .bool true, .bool false, .bool true] from K9z10.out.put 4 _)
            have KTz11 := Lib.hid (KTz10.out.far (p := ⟨r, 4, none⟩) (show s + 1 ≠ r by have := HRX.out; omega) (.bool true))
            have KYz11 := Lib.hid (KYz10.out.far (p := ⟨r, 4, none⟩) (show s ≠ r by have := HRX.out; omega) (.bool true))
            have K8z11 := Lib.hid (K8z10.out.far (p := ⟨r, 4, none⟩) (show g + 1 ≠ r by have := HR9.out; omega) (.bool true))
            have Dz11 := Lib.hid (Dz10.out.far (a := ⟨r, 4, none⟩) NG.out.2.2.1 (.bool true))
            have Cz11 := Lib.hid (Cz10.out.new ⟨r, 4, none⟩ NB.out.2.2.2 (.bool true))
            clear KTz10 KYz10 K9z10 K8z10 Dz10 Cz10 x0 x1 x2 x3 x4 x5 x6 y0 y1 y2 y3 y4 y5 y6 m0 m1 m2 m3 m4 zx hl1 hl2 hl3
            generalize wz10.setCell ⟨r, 4, none⟩ (.bool true) = wz11 at *
            have RR := Lib.hid (show wz11.rangeAt r 0 [.bool true, .bool fr, .bool true, .bool false, .bool true] by
              intro j v hv
              rw [Nat.zero_add, K9z11.out.cell, ← hv]
              simp)
            have hl8 := K8z11.out.lt
            have hl9 := K9z11.out.lt
            clear hu1 hu2 hu3 hu4
            go_wp2_with (first
              | (refine wpList_load_row 36 [.bool true, .bool fr, .bool true, .bool false, .bool true] _ (by rfl) _ rfl (by rfl) RR.out Try.underlying36 rfl (by kernel_rfl) ?_)
              | (refine wpList_store_hd ⟨true, fr, true, false, true⟩ rfl _ _ rfl rfl rfl K8z11.out ?_; intro w11 HK11 HC11))
            obtain ⟨m0, m1, m2, m3, m4⟩ := HK11.out.five
            have C11 := Lib.hid (Cz11.out.trans HC11.out (fun kk hkk => .inr (by rw [hkk, HG.out]; omega)))
            have D11 := Lib.hid (Dz11.out.chg HC11.out (fun kk hkk e => NG.out.2.2.2.1 (by rw [← e]; exact hkk)))
            refine bodyPost_ret (v := .agg #[.bool true, .bool fr, .bool true, .bool false, .bool true]) (by simp [results, Try.results9, go_sem, *]) rfl ?_
            rw [← HQ.out]
            refine ⟨⟨⟨true, fr, true, false, true⟩, rfl, ?_⟩, ⟨G', _, n', c', D11.out, fun kk hkk => (HG'.out kk hkk).1⟩, C11.out⟩
            unfold hearH
            rw [HT.out, if_pos rfl, HYW.out, HTT.out, ← HFR.out, HLED.out]
end Go.Proofs.Ytfapphndfgoknaa
