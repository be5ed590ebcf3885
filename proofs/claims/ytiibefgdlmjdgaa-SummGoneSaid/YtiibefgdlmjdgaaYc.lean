/- The reference's keys of what is gone. Conditions: at most 100 descriptions. -/
import Derived.Test.YtiibefgdlmjdgaaYa
import Derived.Test.YtiibefgdlmjdgaaUw
namespace Go.Proofs.Ytiibefgdlmjdgaa
open Go.RowKit Go.Lib Go.Sort Go.Deep

theorem insK_len (k : Ky) : ∀ L : List Ky, (insK k L).length ≤ L.length + 1
  | [] => by simp [insK]
  | o :: r => by
    unfold insK
    split
    · simp
    · split
      · simp
      · have := insK_len k r
        simp
        omega
theorem own_lenK {w : World} {base n : Nat} {v : Value} {L : List Ky} (h : w.ownsRow base 38 3 v n (kyCells L)) : L.length = n := by
  have hl := h.1
  rw [kyCells_length] at hl
  omega
/-- What is left to do of an insertion: its front N is done. -/
def InsUp (k : Ky) (O : List Ky) (j : Nat) (N : List Ky) (dn : Bool) : Prop := N ++ (if dn = true then O.drop j else insK k (O.drop j)) = insK k O
theorem InsUp.start (k : Ky) (O : List Ky) : InsUp k O 0 [] false := by simp [InsUp]
theorem drop_at {O : List Ky} {j : Nat} {y : Ky} (hy : O[j]? = some y) : O.drop j = y :: O.drop (j + 1) := by
  have hl := (List.getElem?_eq_some_iff.1 hy).1
  rw [List.drop_eq_getElem_cons hl, (List.getElem?_eq_some_iff.1 hy).2]
theorem InsUp.over {k : Ky} {O : List Ky} {j : Nat} {N : List Ky} {y : Ky} (h : InsUp k O j N true) (hy : O[j]? = some y) : InsUp k O (j + 1) (N ++ [y]) true := by
  unfold InsUp at *
  rw [if_pos rfl] at *
  rw [drop_at hy] at h
  rw [← h]
  simp
theorem InsUp.same {k : Ky} {O : List Ky} {j : Nat} {N : List Ky} (h : InsUp k O j N false) (hy : O[j]? = some k) : InsUp k O (j + 1) (N ++ [k]) true := by
  unfold InsUp at *
  rw [if_pos rfl]
  rw [if_neg (by decide), drop_at hy] at h
  rw [← h]
  simp [insK]
theorem InsUp.less {k : Ky} {O : List Ky} {j : Nat} {N : List Ky} {y : Ky} (h : InsUp k O j N false) (hy : O[j]? = some y) (hne : ¬ y = k) (hl : lessKy k y = true) : InsUp k O (j + 1) (N ++ [k] ++ [y]) true := by
  unfold InsUp at *
  rw [if_pos rfl]
  rw [if_neg (by decide), drop_at hy] at h
  rw [← h]
  simp [insK, hne, hl]
theorem InsUp.more {k : Ky} {O : List Ky} {j : Nat} {N : List Ky} {y : Ky} (h : InsUp k O j N false) (hy : O[j]? = some y) (hne : ¬ y = k) (hl : lessKy k y = false) : InsUp k O (j + 1) (N ++ [y]) false := by
  unfold InsUp at *
  rw [if_neg (by decide)] at *
  rw [drop_at hy] at h
  rw [← h]
  simp [insK, hne, hl]
theorem las_head13 {w : World} {b p : Nat} {x : La} {A A' : Option Addr} {n c n' c' : Nat} (h : w.rangeAt b p [.int .i64 x.h.age, .int .i64 x.h.kind, .int .i64 x.h.id, .int .i64 x.h.adv, .int .i64 x.h.seq, .int .i64 x.h.sum, .int .i64 x.h.long, .slice A n c, .slice A' n' c']) : w.rangeAt b p [.int .i64 x.h.age, .int .i64 x.h.kind, .int .i64 x.h.id, .int .i64 x.h.adv, .int .i64 x.h.seq, .int .i64 x.h.sum, .int .i64 x.h.long] := fun j v hj => by
  have hl := (List.getElem?_eq_some_iff.1 hj).1
  refine h j v ?_
  rw [← hj, ← List.getElem?_append_left (l₂ := [.slice A n c, .slice A' n' c']) hl]
  rfl
theorem own_block_is {g n c q : Nat} (h : (Value.slice (some ⟨g, 0, none⟩) n c).ownBlock = some q) : q = g := by
  have h2 : some g = some q := h
  injection h2 with h2
  exact h2.symm
theorem chg_s13 {s : Nat} {w w' : World} (h : Below s w w') : Chg (fun q => s ≤ q) w w' := ⟨h.os, h.tape, h.output, h.size, fun q _ hn => h.block q (by omega)⟩
theorem key_range {w : World} {base n c j g : Nat} {L : List Ky} {x : Ky} (h : w.ownsRow base 38 3 (.slice (some ⟨g, 0, none⟩) n c) n (kyCells L)) (hj : L[j]? = some x) : w.rangeAt g (j * 3) [.int .i64 x.kind, .int .i64 x.id, .int .i64 x.adv] := by
  obtain ⟨g', e, -, -, -, -, h0, h1, h2⟩ := own_kyH h hj
  injection e with e
  injection e with e
  subst e
  intro i v hv
  match i, hv with
  | 0, hv => cases hv; exact h0
  | 1, hv => cases hv; exact h1
  | 2, hv => cases hv; exact h2
set_option maxRecDepth 20000 in
set_option maxHeartbeats 16000000 in
theorem rgone_any {w : World} {A : Option Addr} {n c : Nat} {S : List La} {B : Nat} (hS : Las w B A n S) (hB : B ≤ w.heap.size) (hn : n ≤ 100) : Calls Try.prog 39 #[.slice A n c] w (GoneQ S w) := by
  generalize hQ : GoneQ S w = Q
  have HQ := Lib.hid hQ
  have HS := Lib.hid hS
  have O0 := Lib.hid (World.ownsRow_nil w w.heap.size 38 3)
  have B0 := Lib.hid (Below.refl w.heap.size w)
  generalize hbm : w.heap.size = bm at *
  have HBM := Lib.hid hbm
  clear hQ hS hbm
  have mixed : Try.prog.follows .mixedOrders = true := by kernel_rfl
  go_enter Try.func39, Try.ntmps39
  go_wp2_with fail
  go_loopw [3, 4] (fun s3 s4 wr => ∃ (k m c' : Nat) (A' : Option Addr), s4 = .int .i64 k ∧ s3 = .slice A' m c' ∧ k ≤ n ∧ m ≤ k ∧ Hid (wr.ownsRow bm 38 3 (.slice A' m c') m (kyCells (rgoneL (S.take k)))) ∧ Hid (Below bm w wr)) (fun _ s4 _ => n - (intOf s4).toNat)
  case atStart => exact ⟨0, 0, 0, none, rfl, rfl, Nat.zero_le _, Nat.le_refl _, Lib.hid (by simpa [rgoneL, goneK, kyCells] using O0.out), B0⟩
  case round =>
    clear O0 B0
    obtain ⟨k, m, c', A', rfl, rfl, hk, hmk, OW, BW⟩ := hrel
    by_cases hlt : k < n
    · have hlt' : (k : Int) < (n : Int) := by omega
      obtain ⟨b, o, x, A1, n1, c1, A2, n2, c2, rfl, hb, hx, hr, -, -, -, -⟩ := las_item (HS.out.below (BW.out.mono (by rw [HBM.out] at *; exact hB))) hlt
      have HR := Lib.hid (las_head13 hr)
      have HX := Lib.hid hx
      have hz : bm ≤ wr.heap.size := by have := BW.out.size; have := HBM.out; omega
      have x0 : wr.cell? ⟨b, o + k * 9, none⟩ = some (.int .i64 x.h.age) := hr 0 _ rfl
      have HT := Lib.hid (rgoneL_snoc (S.take k) x)
      rw [← take_snocA S k x HX.out] at HT
      clear hr hx HX
      cases hg : goneB x
      · have HT2 := Lib.hid (show rgoneL (S.take (k + 1)) = rgoneL (S.take k) by
          have := HT.out
          rwa [hg, if_neg (by decide)] at this)
        have d60 : (x.h.age != 60) = true := by
          have h : (x.h.age == 60) = false := hg
          rw [bne, h]
          rfl
        have O2 := Lib.hid (show wr.ownsRow bm 38 3 (.slice A' m c') m (kyCells (rgoneL (S.take (k + 1)))) by rw [HT2.out]; exact OW.out)
        clear HT hg HT2 OW HR
        go_wp2
        go_roundw
        case rel => exact ⟨k + 1, m, c', A', by go_num, rfl, by omega, by omega, O2, BW⟩
        case measure => simp [intOf]; omega
      · have HT2 := Lib.hid (show rgoneL (S.take (k + 1)) = insK (kyL x) (rgoneL (S.take k)) by
          have := HT.out
          rwa [hg, if_pos rfl] at this)
        have d60 : (x.h.age != 60) = false := by
          have h : (x.h.age == 60) = true := hg
          rw [bne, h]
          rfl
        clear HT hg
        go_wp2_with (refine wpList_load_row 30 _ _ (by rfl) (.tmp 25) rfl (by rfl) HR.out Try.underlying30 rfl (by kernel_rfl) ?_)
        refine (key13_any x.h _).mono ?_
        rintro e1 w1 ⟨rfl, hb1⟩
        obtain ⟨kk, hkk⟩ : ∃ kk : Ky, kk = kyL x := ⟨_, rfl⟩
        have q1 : x.h.kind = kk.kind := by rw [hkk]; rfl
        have q2 : x.h.id = kk.id := by rw [hkk]; rfl
        have q3 : x.h.adv = kk.adv := by rw [hkk]; rfl
        rw [← hkk] at HT2
        rw [q1, q2, q3]
        have B1 := BW.out.trans (hb1.mono hz)
        have O1 := own_chg OW.out (Chg.of_below (F := fun _ => False) hb1) (fun _ _ hf => hf)
        have hz1 : bm ≤ w1.heap.size := Nat.le_trans hz hb1.size
        have B2 := Lib.hid (B1.alloc hz1 (.cells #[.int .i64 kk.kind, .int .i64 kk.id, .int .i64 kk.adv] 38))
        have O2 := Lib.hid (O1.alloc (.cells #[.int .i64 kk.kind, .int .i64 kk.id, .int .i64 kk.adv] 38))
        have K2 := Lib.hid (Blk.new w1 38 #[.int .i64 kk.kind, .int .i64 kk.id, .int .i64 kk.adv])
        have HLM := own_lenK O1
        clear hb1 B1 O1 OW BW HR x0 d60 q1 q2 q3 hkk
        go_wp2_with fail
        obtain ⟨X, hX⟩ : ∃ X, X = w1.heap.size := ⟨_, rfl⟩
        rw [← hX] at K2 ⊢
        have hXb : bm ≤ X := by omega
        clear hX
        generalize w1.alloc (.cells #[.int .i64 kk.kind, .int .i64 kk.id, .int .i64 kk.adv] 38) = ws at *
        clear hz1
        obtain ⟨s1, hs1⟩ : ∃ s1, s1 = ws.heap.size := ⟨_, rfl⟩
        have hXs : X < s1 := by rw [hs1]; exact K2.out.lt
        have hbs : bm ≤ s1 := by omega
        have I0 := Lib.hid (show ws.ownsRow s1 38 3 (.slice none 0 0) 0 (kyCells []) by simpa [kyCells] using World.ownsRow_nil ws s1 38 3)
        have J0 := Lib.hid (Below.refl s1 ws)
        have HS1 := Lib.hid hs1
        obtain ⟨O, hO⟩ : ∃ O, O = rgoneL (S.take k) := ⟨_, rfl⟩
        rw [← hO] at O2 HT2 HLM
        have M0 := Lib.hid (InsUp.start kk O)
        clear hs1 hO
        go_loopw [6, 7, 8] (fun s6 s7 s8 wr => ∃ (j q c6 : Nat) (A6 : Option Addr) (dn : Bool) (N : List Ky), s8 = .int .i64 j ∧ s6 = .slice A6 q c6 ∧ s7 = .bool dn ∧ j ≤ m ∧ q ≤ 2 * j ∧ Hid (wr.ownsRow s1 38 3 (.slice A6 q c6) q (kyCells N)) ∧ Hid (InsUp kk O j N dn) ∧ Hid (Below s1 ws wr)) (fun _ _ s8 _ => m - (intOf s8).toNat)
        case atStart => exact ⟨0, 0, 0, none, false, [], rfl, rfl, rfl, Nat.zero_le _, by omega, I0, M0, J0⟩
        case round =>
          clear I0 M0 J0
          obtain ⟨j, q, c6, A6, dn, N, rfl, rfl, rfl, hj, hq, OI, MI, BI⟩ := hrel
          have hzi : s1 ≤ wr.heap.size := by have := BI.out.size; have := HS1.out; omega
          have KI := Lib.hid (K2.out.below BI.out hXs)
          have KR := Lib.hid (blk_range7 KI.out)
          by_cases hjm : j < m
          · have hjm' : (j : Int) < (m : Int) := by omega
            obtain ⟨y, hy⟩ : ∃ y, O[j]? = some y := ⟨_, List.getElem?_eq_getElem (by omega)⟩
            have O3 := own_chg O2.out (Chg.of_below (F := fun _ => False) (show Below ws.heap.size ws wr by rw [← HS1.out]; exact BI.out)) (fun _ _ hf => hf)
            obtain ⟨g, rfl, hgb, hgl, hmc, hcm, y0, y1, y2⟩ := own_kyH O3 hy
            obtain ⟨k0, k1, k2⟩ := KI.out.three
            have hXl := KI.out.lt
            unfold maxLen at hcm
            have HY := Lib.hid hy
            have eK := fun W => equalKy y kk W
            have hgs : g < s1 := by
              obtain ⟨g', e, -, h, -⟩ := own_kyH O2.out hy
              injection e with e
              injection e with e
              subst e
              rw [HS1.out]
              exact h
            have OR := Lib.hid O3
            clear hy O3
            by_cases hyk : y = kk
            · have e1 : sameKy y kk = true := (sameKy_iff _ _).2 hyk
              rw [e1] at eK
              have MY := Lib.hid (show InsUp kk O (j + 1) (N ++ [y]) true from by
                cases dn
                · have := MI.out.same (by rw [← hyk]; exact HY.out)
                  rwa [← hyk] at this ⊢
                · exact MI.out.over HY.out)
              clear e1 hyk
              go_wp2_with fail
              go_quiet (fail)
              have W1 := Lib.hid (⟨rfl, rfl, rfl, Nat.le_refl _, fun _ _ => rfl⟩ : Below wr.heap.size wr (wr.drewN nq))
              have hz4 : s1 ≤ (wr.drewN nq).heap.size := hzi
              generalize wr.drewN nq = w4 at *
              clear nq
              have BI4 := Lib.hid (BI.out.trans (W1.out.mono hzi))
              have OI4 := Lib.hid (own_chg OI.out (Chg.of_below (F := fun _ => False) W1.out) (fun _ _ hf => hf))
              have OR4 := Lib.hid (own_chg OR.out (Chg.of_below (F := fun _ => False) W1.out) (fun _ _ hf => hf))
              have KI4 := Lib.hid (KI.out.below W1.out hXl)
              clear y0 y1 y2 k0 k1 k2 eK
              go_wp2_with fail
              go_quiet (fail)
              have W2 := Lib.hid (⟨rfl, rfl, rfl, Nat.le_refl _, fun _ _ => rfl⟩ : Below w4.heap.size w4 (w4.drewN nq))
              have hzx : s1 ≤ (w4.drewN nq).heap.size := hz4
              generalize w4.drewN nq = w5 at *
              have B5 := Lib.hid (BI4.out.trans (W2.out.mono hz4))
              have O5 := Lib.hid (own_chg OI4.out (Chg.of_below (F := fun _ => False) W2.out) (fun _ _ hf => hf))
              have RO := Lib.hid (key_range (own_chg OR4.out (Chg.of_below (F := fun _ => False) W2.out) (fun _ _ hf => hf)) HY.out)
              go_wp2_with (first | refine wpList_load_row 38 _ _ (by rfl) (.tmp 57) rfl (by rfl) RO.out Try.underlying38 rfl (by kernel_rfl) ?_ | (at_builtin; refine wpList_app_ky rfl (.tmp 54) (.tmp 59) rfl y (by rfl) (by rfl) O5.out (by omega) hzx ?_; intro A9 c9 w9 HO9 HB9))
              have B9 := Lib.hid (B5.out.trans HB9.out)
              have M9 := Lib.hid (show InsUp kk O (j + 1) (N ++ [y]) true from MY.out)
              have O9 := Lib.hid HO9.out
              clear HO9 HB9 OI BI KI KR MI HY OR RO W1 W2 BI4 OI4 OR4 KI4 B5 O5 MY
              go_wp2
              go_roundw
              case rel => exact ⟨j + 1, q + 1, c9, A9, true, N ++ [y], by go_num, by first | rfl | go_num, rfl, by omega, by omega, O9, M9, B9⟩
              case measure => simp [intOf]; omega
            · have e1 : sameKy y kk = false := by rw [Bool.eq_false_iff]; exact fun h => hyk ((sameKy_iff _ _).1 h)
              rw [e1] at eK
              clear e1
              cases dn
              · have HNE := Lib.hid hyk
                clear hyk
                go_wp2_with fail
                go_quiet (fail)
                have W1 := Lib.hid (⟨rfl, rfl, rfl, Nat.le_refl _, fun _ _ => rfl⟩ : Below wr.heap.size wr (wr.drewN nq))
                have hz4 : s1 ≤ (wr.drewN nq).heap.size := hzi
                generalize wr.drewN nq = w4 at *
                clear nq
                have BI4 := Lib.hid (BI.out.trans (W1.out.mono hzi))
                have OI4 := Lib.hid (own_chg OI.out (Chg.of_below (F := fun _ => False) W1.out) (fun _ _ hf => hf))
                have OR4 := Lib.hid (own_chg OR.out (Chg.of_below (F := fun _ => False) W1.out) (fun _ _ hf => hf))
                have KI4 := Lib.hid (KI.out.below W1.out hXl)
                clear y0 y1 y2 k0 k1 k2 eK
                obtain ⟨g2, ge, -, hgl4, -, -, y0, y1, y2⟩ := own_kyH OR4.out HY.out
                injection ge with ge
                injection ge with ge
                subst ge
                obtain ⟨k0, k1, k2⟩ := KI4.out.three
                have hXl4 := KI4.out.lt
                have gy0 := fun n os => cell_grown (n := n) (os := os) hgl4 y0
                have gy1 := fun n os => cell_grown (n := n) (os := os) hgl4 y1
                have gy2 := fun n os => cell_grown (n := n) (os := os) hgl4 y2
                have gk0 := fun n os => cell_grown (n := n) (os := os) hXl4 k0
                have gk1 := fun n os => cell_grown (n := n) (os := os) hXl4 k1
                have gk2 := fun n os => cell_grown (n := n) (os := os) hXl4 k2
                clear y0 y1 y2 k0 k1 k2
                have p3 := fun n os => Calls.grown_of (less_grown kk y (grow (w4.drewN n) os))
                obtain ⟨v, hv⟩ : ∃ v, lessKy kk y = v := ⟨_, rfl⟩
                rw [hv] at p3
                have HV := Lib.hid hv
                have hgr := fun n os => Lib.hid (below_grown13 (w := w4) (w' := grow (w4.drewN n) os) ⟨n, os, rfl⟩)
                clear hv
                go_wp2_with fail
                go_quiet_grown (first | (go_at_call 44; with_reducible exact p3 _ _))
                have W2 := hgr nq osq
                clear hgr p3 gy0 gy1 gy2 gk0 gk1 gk2
                generalize grow (w4.drewN nq) osq = w5 at *
                have hz5 : s1 ≤ w5.heap.size := Nat.le_trans hz4 W2.out.size
                have B5 := Lib.hid (BI4.out.trans (W2.out.mono hz4))
                have O5 := Lib.hid (own_chg OI4.out (Chg.of_below (F := fun _ => False) W2.out) (fun _ _ hf => hf))
                have R5 := Lib.hid (own_chg OR4.out (Chg.of_below (F := fun _ => False) W2.out) (fun _ _ hf => hf))
                have K5 := Lib.hid (KI4.out.below W2.out hXl4)
                have KR5 := Lib.hid (blk_range7 K5.out)
                cases v
                · have hzx : s1 ≤ w5.heap.size := hz5
                  have RO := Lib.hid (key_range R5.out HY.out)
                  go_wp2_with (first | refine wpList_load_row 38 _ _ (by rfl) (.tmp 57) rfl (by rfl) RO.out Try.underlying38 rfl (by kernel_rfl) ?_ | (at_builtin; refine wpList_app_ky rfl (.tmp 54) (.tmp 59) rfl y (by rfl) (by rfl) O5.out (by omega) hzx ?_; intro A9 c9 w9 HO9 HB9))
                  have B9 := Lib.hid (B5.out.trans HB9.out)
                  have M9 := Lib.hid (show InsUp kk O (j + 1) (N ++ [y]) false from MI.out.more HY.out HNE.out HV.out)
                  have O9 := Lib.hid HO9.out
                  clear HO9 HB9 OI BI KI KR MI HY OR RO W1 W2 BI4 OI4 OR4 KI4 B5 O5 R5 K5 KR5 HNE HV
                  go_wp2
                  go_roundw
                  case rel => exact ⟨j + 1, q + 1, c9, A9, false, N ++ [y], by go_num, by first | rfl | go_num, rfl, by omega, by omega, O9, M9, B9⟩
                  case measure => simp [intOf]; omega
                · go_wp2_with (first | refine wpList_load_row 38 _ _ (by rfl) (.tmp 5) rfl (by rfl) KR5.out Try.underlying38 rfl (by kernel_rfl) ?_ | (at_builtin; refine wpList_app_ky rfl (.tmp 50) (.tmp 52) rfl kk (by rfl) (by rfl) O5.out (by omega) hz5 ?_; intro A8 c8 w8 HO8 HB8; have hzx : s1 ≤ w8.heap.size := Nat.le_trans hz5 (HB8.out.size); have RO := Lib.hid (key_range (own_chg R5.out (chg_s13 HB8.out) (fun q hq hf => by have := own_block_is hq; have hf2 : s1 ≤ q := hf; omega)) HY.out); have B8 := Lib.hid (B5.out.trans HB8.out)) | refine wpList_load_row 38 _ _ (by rfl) (.tmp 57) rfl (by rfl) RO.out Try.underlying38 rfl (by kernel_rfl) ?_ | (at_builtin; refine wpList_app_ky rfl (.tmp 54) (.tmp 59) rfl y (by rfl) (by rfl) HO8.out (by omega) hzx ?_; intro A9 c9 w9 HO9 HB9))
                  have B9 := Lib.hid (B8.out.trans HB9.out)
                  have M9 := Lib.hid (show InsUp kk O (j + 1) (N ++ [kk] ++ [y]) true from MI.out.less HY.out HNE.out HV.out)
                  have O9 := Lib.hid HO9.out
                  clear HO8 HB8 HO9 HB9 OI BI KI KR MI HY OR RO W1 W2 BI4 OI4 OR4 KI4 B5 O5 R5 K5 KR5 HNE HV B8
                  go_wp2
                  go_roundw
                  case rel => exact ⟨j + 1, q + 1 + 1, c9, A9, true, N ++ [kk] ++ [y], by go_num, by first | rfl | go_num, rfl, by omega, by omega, O9, M9, B9⟩
                  case measure => simp [intOf]; omega
              · clear hyk
                go_wp2_with fail
                go_quiet (fail)
                have W1 := Lib.hid (⟨rfl, rfl, rfl, Nat.le_refl _, fun _ _ => rfl⟩ : Below wr.heap.size wr (wr.drewN nq))
                have hz4 : s1 ≤ (wr.drewN nq).heap.size := hzi
                generalize wr.drewN nq = w4 at *
                clear nq
                have BI4 := Lib.hid (BI.out.trans (W1.out.mono hzi))
                have OI4 := Lib.hid (own_chg OI.out (Chg.of_below (F := fun _ => False) W1.out) (fun _ _ hf => hf))
                have OR4 := Lib.hid (own_chg OR.out (Chg.of_below (F := fun _ => False) W1.out) (fun _ _ hf => hf))
                have KI4 := Lib.hid (KI.out.below W1.out hXl)
                clear y0 y1 y2 k0 k1 k2 eK
                go_wp2_with fail
                go_quiet (fail)
                have W2 := Lib.hid (⟨rfl, rfl, rfl, Nat.le_refl _, fun _ _ => rfl⟩ : Below w4.heap.size w4 (w4.drewN nq))
                have hzx : s1 ≤ (w4.drewN nq).heap.size := hz4
                generalize w4.drewN nq = w5 at *
                have B5 := Lib.hid (BI4.out.trans (W2.out.mono hz4))
                have O5 := Lib.hid (own_chg OI4.out (Chg.of_below (F := fun _ => False) W2.out) (fun _ _ hf => hf))
                have RO := Lib.hid (key_range (own_chg OR4.out (Chg.of_below (F := fun _ => False) W2.out) (fun _ _ hf => hf)) HY.out)
                go_wp2_with (first | refine wpList_load_row 38 _ _ (by rfl) (.tmp 57) rfl (by rfl) RO.out Try.underlying38 rfl (by kernel_rfl) ?_ | (at_builtin; refine wpList_app_ky rfl (.tmp 54) (.tmp 59) rfl y (by rfl) (by rfl) O5.out (by omega) hzx ?_; intro A9 c9 w9 HO9 HB9))
                have B9 := Lib.hid (B5.out.trans HB9.out)
                have M9 := Lib.hid (show InsUp kk O (j + 1) (N ++ [y]) true from MI.out.over HY.out)
                have O9 := Lib.hid HO9.out
                clear HO9 HB9 OI BI KI KR MI HY OR RO W1 W2 BI4 OI4 OR4 KI4 B5 O5
                go_wp2
                go_roundw
                case rel => exact ⟨j + 1, q + 1, c9, A9, true, N ++ [y], by go_num, by first | rfl | go_num, rfl, by omega, by omega, O9, M9, B9⟩
                case measure => simp [intOf]; omega
          · have hjm' : ¬ (j : Int) < (m : Int) := by omega
            have hd : O.drop j = [] := List.drop_of_length_le (by omega)
            cases dn
            · have EQ := Lib.hid (show N ++ [kk] = insK kk O by
                have := MI.out
                unfold InsUp at this
                rwa [hd, if_neg (by decide)] at this)
              clear hd MI
              go_wp2_with (first | refine wpList_load_row 38 _ _ (by rfl) (.tmp 5) rfl (by rfl) KR.out Try.underlying38 rfl (by kernel_rfl) ?_ | (at_builtin; refine wpList_app_ky rfl (.tmp 63) (.tmp 65) rfl kk (by rfl) (by rfl) OI.out (by omega) hzi ?_; intro A9 c9 w9 HO9 HB9))
              have HO := HO9.out
              rw [EQ.out, ← HT2.out] at HO
              have hql : q + 1 ≤ m + 1 := by
                have h1 := own_lenK HO
                rw [HT2.out] at h1
                have := insK_len kk O
                omega
              have O9 := Lib.hid (own_low HO hbs)
              have B9 := Lib.hid (B2.out.trans ((BI.out.trans HB9.out).mono hbs))
              clear HO HO9 HB9 OI BI KI KR EQ O2 B2 K2 HT2 HS1
              go_roundw
              case rel => exact ⟨k + 1, q + 1, c9, A9, by go_num, by first | rfl | go_num, by omega, by omega, O9, B9⟩
              case measure => simp [intOf]; omega
            · have EQ := Lib.hid (show N = insK kk O by
                have := MI.out
                unfold InsUp at this
                rwa [hd, if_pos rfl, List.append_nil] at this)
              have HO := OI.out
              rw [EQ.out, ← HT2.out] at HO
              have hql : q ≤ m + 1 := by
                have h1 := own_lenK HO
                rw [HT2.out] at h1
                have := insK_len kk O
                omega
              have O9 := Lib.hid (own_low HO hbs)
              have B9 := Lib.hid (B2.out.trans (BI.out.mono hbs))
              clear HO OI BI KI KR EQ O2 B2 K2 HT2 HS1 MI hd
              go_wp2
              go_roundw
              case rel => exact ⟨k + 1, q, c6, A6, by go_num, rfl, by omega, by omega, O9, B9⟩
              case measure => simp [intOf]; omega
    · have hlt' : ¬ (k : Int) < (n : Int) := by omega
      have HT := Lib.hid (show rgoneL (S.take k) = goneL S by
        rw [List.take_of_length_le (by have := HS.out.1; omega), rgone_is])
      rw [HT.out] at OW
      go_wp2
      show Q (.returned (.slice A' m c')) wr
      rw [← HQ.out]
      exact ⟨A', m, c', rfl, by rw [HBM.out]; exact BW.out, by rw [HBM.out]; exact OW.out⟩
end Go.Proofs.Ytiibefgdlmjdgaa
