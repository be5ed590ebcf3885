/- The walk of the statement PeersActs. Conditions: what the words say. -/
import Derived.Test.YtfapphndfgoknaaHo
import Derived.Test.YtfapphndfgoknaaHp
import Derived.Test.YtfapphndfgoknaaHr
import Derived.Test.YtfapphndfgoknaaHs
namespace Go.Proofs.Ytfapphndfgoknaa
open Go.RowKit Go.Deep

theorem both_step {w5 w6 w7 : World} {B p q : Nat} {sf lan : Int} {X' : List Pe} {F G F' G' : Nat → Prop} {bk' : Int → Nat} {A : Option Addr} {n c : Nat} (hFG : ∀ k, F k → ¬ G k) (hFB : ∀ k, F k → B ≤ k) (hGB : ∀ k, G k → B ≤ k) (hG : ∀ k, G k → k < w5.heap.size)
    (hP : PDb w6 p F' sf lan X' bk') (hF' : ∀ k, F' k → F k ∨ w5.heap.size ≤ k) (hc6 : Chg F w5 w6) (hR : RDb w7 q G' sf lan X' A n c) (hG' : ∀ k, G' k → G k ∨ w6.heap.size ≤ k) (hc7 : Chg G w6 w7) (hB : B ≤ w5.heap.size) : Both w7 B p q sf lan X' := by
  have h56 := hc6.size
  refine ⟨F', G', bk', A, n, c, hP.chg hc7 (fun k hk hg => ?_), hR, fun k hk hg => ?_, fun k hk => ?_, fun k hk => ?_⟩
  · rcases hF' k hk with h | h
    · exact hFG k h hg
    · have := hG k hg; omega
  · have h1 := hP.fl k hk
    rcases hF' k hk with h | h <;> rcases hG' k hg with h2 | h2
    · exact hFG k h h2
    · omega
    · have := hG k h2; omega
    · omega
  · rcases hF' k hk with h | h
    · exact hFB k h
    · omega
  · rcases hG' k hk with h | h
    · exact hGB k h
    · omega
theorem RDb.both {w6 w5 : World} {q : Nat} {F G : Nat → Prop} {sf lan : Int} {X : List Pe} {A : Option Addr} {n c : Nat} (h : RDb w5 q G sf lan X A n c) (hFG : ∀ k, F k → ¬ G k) (hc : Chg F w5 w6) : RDb w6 q G sf lan X A n c := h.chg hc (fun k hg hf => hFG k hf hg)
theorem Blk.act {w : World} {b : Nat} {a : Ac} (h : Blk w b 34 #[.int .i64 a.kind, .int .i64 a.id, .int .i64 a.st, .int .u8 a.on, .int .i64 a.h.every, .int .i64 a.h.dead, .int .i64 a.h.prio, .int .i64 a.h.dr, .int .i64 a.h.bdr, .slice a.A a.n a.c]) : w.cell? ⟨b, 0, none⟩ = some (.int .i64 a.kind) ∧ w.cell? ⟨b, 1, none⟩ = some (.int .i64 a.id) ∧ w.cell? ⟨b, 2, none⟩ = some (.int .i64 a.st) ∧ w.cell? ⟨b, 3, none⟩ = some (.int .u8 a.on) ∧ w.cell? ⟨b, 9, none⟩ = some (.slice a.A a.n a.c) ∧ w.rangeAt b 4 [.int .i64 a.h.every, .int .i64 a.h.dead, .int .i64 a.h.prio, .int .i64 a.h.dr, .int .i64 a.h.bdr, .slice a.A a.n a.c] := by
  refine ⟨h.cell 0, h.cell 1, h.cell 2, h.cell 3, h.cell 9, fun j v hv => ?_⟩
  have hj : j < 6 := by simpa using (List.getElem?_eq_some_iff.1 hv).1
  rw [h.cell, ← hv]
  match j, hj with
  | 0, _ => rfl
  | 1, _ => rfl
  | 2, _ => rfl
  | 3, _ => rfl
  | 4, _ => rfl
  | 5, _ => rfl
theorem wpList_load_act {ops : Array Oper} {rest : List Oper} {op : Oper} {a : Act} {w : World} {Q : Exit → Act → World → Prop} {b o : Nat} {y : Ac} (hw : Region.wanted op (yielded ops a.tmps) = true) (x : Operand) (ho : op.op = .load 34 x)
    (hx : a.eval x = .pointer (some ⟨b, o, none⟩)) (hR : w.rangeAt b o (encAc y)) (hn : wpList Try.prog ops Q rest (a.put op.dst (.agg #[.int .i64 y.kind, .int .i64 y.id, .int .i64 y.st, .int .u8 y.on, .int .i64 y.h.every, .int .i64 y.h.dead, .int .i64 y.h.prio, .int .i64 y.h.dr, .int .i64 y.h.bdr, .slice y.A y.n y.c])) w) : wpList Try.prog ops Q (op :: rest) a w :=
  wpList_load_row 34 (encAc y) _ hw x ho hx hR Try.underlying34 rfl (by kernel_rfl) hn
set_option maxRecDepth 20000 in
set_option maxHeartbeats 16000000 in
theorem acts_walk (s l : Int) (A : Option Addr) (n c : Nat) (T : List Ac) (hs : 0 ≤ s ∧ s ≤ 255) (hl : 0 ≤ l ∧ l ≤ 255) (w : World) (hT : Acs w w.heap.size A n T) (hnc : n ≤ c) (hcm : c ≤ maxLen) :
    Calls Try.prog 3 #[.int .u8 s, .int .u8 l, .slice A n c] w fun e w' => e = .returned (.bool true) ∧ Below w.heap.size w w' := by
  obtain ⟨hnc2, hcm2⟩ := And.intro hnc hcm
  clear hnc hcm
  unfold maxLen at hcm2
  have HT := Lib.hid hT
  clear hT
  obtain ⟨hs0, hs1⟩ := hs
  obtain ⟨hl0, hl1⟩ := hl
  go_enter Try.func3, Try.ntmps3
  go_wp2_with fail
  refine (wakes_any w).mono ?_
  rintro e1 w1 ⟨rfl, hb1⟩
  have B1 := Lib.hid hb1
  clear hb1
  by_cases hn : 80 < n
  · have hn' : (80 : Int) < n := by omega
    go_wp2
    go_ret
    exact ⟨rfl, B1.out⟩
  have hn' : ¬ (80 : Int) < n := by omega
  go_wp2_with fail
  obtain ⟨sf, hsf⟩ : ∃ sf, 1 + s % 15 = sf := ⟨_, rfl⟩
  obtain ⟨lan, hlan⟩ : ∃ lan, l % 4 = lan := ⟨_, rfl⟩
  have HSF := Lib.hid (show 1 ≤ sf ∧ sf ≤ 15 by omega)
  have HLAN := Lib.hid (show 0 ≤ lan ∧ lan ≤ 3 by omega)
  rw [hsf, hlan]
  clear hsf hlan hs0 hs1 hl0 hl1
  refine (new_any HSF.out HLAN.out w1).mono ?_
  rintro e2 w2 ⟨rfl, hp2, hb2⟩
  have hs1 := B1.out.size
  have hs2 := hb2.size
  have B3 := Lib.hid ((B1.out.trans (hb2.mono hs1)).alloc (by omega) (.cells #[.int .i64 sf, .int .i64 lan, .slice none 0 0] 29))
  have HB3 := Lib.hid (show Both (w2.alloc (.cells #[.int .i64 sf, .int .i64 lan, .slice none 0 0] 29)) w.heap.size w1.heap.size w2.heap.size sf lan [] from
    ⟨_, fun k => k = w2.heap.size, _, none, 0, 0, hp2.below ((Below.refl _ _).alloc (Nat.le_refl _) _), ⟨Blk.new _ _ _, World.ownsRow_nil _ _ _ _, rfl, fun k hk => (by cases hk), fun k hk => by rw [hk]; simp⟩, fun k hk hk2 => by have := hp2.obj.lt; omega, fun k hk => by omega, fun k hk => by omega⟩)
  generalize hp : w1.heap.size = p at *
  have HP := Lib.hid hp
  clear hb2 hp2 hs1 hs2 hp
  go_wp2_with fail
  generalize w2.alloc (.cells #[.int .i64 sf, .int .i64 lan, .slice none 0 0] 29) = w3 at *
  generalize w2.heap.size = q at *
  go_loopw [11, 35] (fun s11 s35 wr => ∃ (j : Nat) (nw : Int) (X : List Pe), j ≤ n ∧ s35 = .int .i64 j ∧ s11 = .int .i64 nw ∧ Hid (0 ≤ nw ∧ nw ≤ 255 * j) ∧ Hid (Both wr w.heap.size p q sf lan X) ∧ Hid (Below w.heap.size w wr)) (fun _ i _ => n - (intOf i).toNat)
  case atStart => exact ⟨0, 0, [], Nat.zero_le _, rfl, rfl, Lib.hid (by omega), HB3, B3⟩
  case round =>
    clear HB3 B3 B1
    obtain ⟨j, nw, X, hj, rfl, rfl, HNW, HBo, hb⟩ := hrel
    by_cases hlt : j < n
    · have hlt' : (j : Int) < n := by omega
      obtain ⟨g, o, a, rfl, hgl, hx, ⟨⟨hon, hwf, han⟩, hrow, -, hrange⟩⟩ := Arr.at (HT.out.below hb.out) hlt
      have HWF := Lib.hid hwf
      have HAN := Lib.hid han
      have HON := Lib.hid hon
      have RA := Lib.hid (show wr.rangeAt g (o + j * 10) (encAc a) from hrange)
      have HRW := Lib.hid hrow
      have hgw := Nat.lt_of_lt_of_le hgl hb.out.size
      clear hrange hrow hwf hon han hx
      go_upto_region 11 with (refine wpList_load_act (y := a) (by rfl) _ rfl (by rfl) RA.out ?_)
      have K5 := Lib.hid (Blk.new wr 34 #[.int .i64 a.kind, .int .i64 a.id, .int .i64 a.st, .int .u8 a.on, .int .i64 a.h.every, .int .i64 a.h.dead, .int .i64 a.h.prio, .int .i64 a.h.dr, .int .i64 a.h.bdr, .slice a.A a.n a.c])
      have HB5 := Lib.hid (HBo.out.below ((Below.refl wr.heap.size wr).alloc (Nat.le_refl _) (.cells #[.int .i64 a.kind, .int .i64 a.id, .int .i64 a.st, .int .u8 a.on, .int .i64 a.h.every, .int .i64 a.h.dead, .int .i64 a.h.prio, .int .i64 a.h.dr, .int .i64 a.h.bdr, .slice a.A a.n a.c] 34)))
      have BX := Lib.hid (hb.out.alloc hb.out.size (.cells #[.int .i64 a.kind, .int .i64 a.id, .int .i64 a.st, .int .u8 a.on, .int .i64 a.h.every, .int .i64 a.h.dead, .int .i64 a.h.prio, .int .i64 a.h.dr, .int .i64 a.h.bdr, .slice a.A a.n a.c] 34))
      have R5 := Lib.hid (HRW.out.below ((Below.refl w.heap.size wr).alloc hb.out.size (.cells #[.int .i64 a.kind, .int .i64 a.id, .int .i64 a.st, .int .u8 a.on, .int .i64 a.h.every, .int .i64 a.h.dead, .int .i64 a.h.prio, .int .i64 a.h.dr, .int .i64 a.h.bdr, .slice a.A a.n a.c] 34)))
      obtain ⟨F, G, bk, rA, rn, rc, hPD, hRD, hFG, hFB, hGB⟩ := HBo.out
      have HFX := Lib.hid hPD.fl
      have HGX := Lib.hid hRD.gl
      have P5 := Lib.hid (hPD.below ((Below.refl wr.heap.size wr).alloc (Nat.le_refl _) (.cells #[.int .i64 a.kind, .int .i64 a.id, .int .i64 a.st, .int .u8 a.on, .int .i64 a.h.every, .int .i64 a.h.dead, .int .i64 a.h.prio, .int .i64 a.h.dr, .int .i64 a.h.bdr, .slice a.A a.n a.c] 34)))
      have D5 := Lib.hid (hRD.below ((Below.refl wr.heap.size wr).alloc (Nat.le_refl _) (.cells #[.int .i64 a.kind, .int .i64 a.id, .int .i64 a.st, .int .u8 a.on, .int .i64 a.h.every, .int .i64 a.h.dead, .int .i64 a.h.prio, .int .i64 a.h.dr, .int .i64 a.h.bdr, .slice a.A a.n a.c] 34)))
      have HFG := Lib.hid hFG
      have HFB := Lib.hid hFB
      have HGB := Lib.hid hGB
      have SX := Lib.hid hPD.srt
      have hbs := hb.out.size
      obtain ⟨x, hX⟩ : ∃ x, wr.heap.size = x := ⟨_, rfl⟩
      rw [hX] at K5 HFX HGX hbs
      have HBX := Lib.hid hbs
      clear HBo hb hPD hRD hFG hFB hGB hgw hgl RA HRW hbs
      generalize wr.alloc (.cells #[.int .i64 a.kind, .int .i64 a.id, .int .i64 a.st, .int .u8 a.on, .int .i64 a.h.every, .int .i64 a.h.dead, .int .i64 a.h.prio, .int .i64 a.h.dr, .int .i64 a.h.bdr, .slice a.A a.n a.c] 34) = w5 at *
      rw [hX]
      clear hX
      obtain ⟨k0, k1, k2, k3, k9, -⟩ := K5.out.act
      have hlX := K5.out.lt
      have hn0 := HNW.out.1
      have hn1 : nw ≤ 20400 := by have := HNW.out.2; omega
      have ho0 := HON.out.1
      have ho1 := HON.out.2
      by_cases hsn : 40 < a.n
      · have hsn' : (40 : Int) < a.n := by omega
        go_wp2
        go_ret
        exact ⟨rfl, BX.out⟩
      have hsn' : ¬ (40 : Int) < a.n := by omega
      have HNT := Lib.hid (show 0 ≤ nw + a.on ∧ nw + a.on ≤ 1048576 by omega)
      have HNJ := Lib.hid (show nw + a.on ≤ 255 * ((j + 1 : Nat) : Int) by have := HNW.out.2; omega)
      go_upto_region 14 with fail
      obtain ⟨t, ht⟩ : ∃ t, nw + a.on = t := ⟨_, rfl⟩
      rw [ht] at HNT HNJ
      rw [ht]
      have HTN := Lib.hid ht
      clear ht hn0 hn1 ho0 ho1 hsn hsn'
      go_cut [50] (fun s50 wx => s50 = .int .i64 a.kind ∧ w5 = wx)
      case first =>
        go_wp2_with fail
        go_meet
        exact ⟨rfl, rfl⟩
      case rest =>
      obtain ⟨rfl, rfl⟩ := hcut
      go_step
      go_cut [50] (fun s50 wx => ∃ X' : List Pe, s50 = .int .i64 a.kind ∧ Hid (Both wx w.heap.size p q sf lan X') ∧ Hid (Below w.heap.size w wx))
      case first =>
        have NF := Lib.hid (show ¬ F x ∧ ¬ G x from ⟨fun h => by have := HFX.out x h; omega, fun h => by have := HGX.out x h; omega⟩)
        have HGX5 := Lib.hid (show ∀ k, G k → k < w5.heap.size from fun k hk => by have := HGX.out k hk; omega)
        have HBW5 := Lib.hid (show w.heap.size ≤ w5.heap.size by have := HBX.out; omega)
        by_cases h0 : a.kind = 0
        · have d0 : (a.kind == 0) = true := by simp [h0]
          clear h0
          go_upto_region 16 with fail
          have K6 := Lib.hid K5.out.drew
          have P6 := Lib.hid P5.out.drew
          have D6 := Lib.hid D5.out.drew
          have R6 := Lib.hid R5.out.drew
          have B6 := Lib.hid (show Below w.heap.size w w5.drew from below_drewN BX.out 1)
          clear k0 k1 k2 k3 k9 hlX K5 P5 D5 R5 BX
          have hS := (And.intro K6.out.act.2.1 (And.intro K6.out.act.2.2.1 K6.out.act.2.2.2.2.2))
          refine wp_region_noPanic ?_
          refine wp_region_held_drew (S := fun w' => w'.cell? ⟨x, 1, none⟩ = some (.int .i64 a.id) ∧ w'.cell? ⟨x, 2, none⟩ = some (.int .i64 a.st) ∧ w'.rangeAt x 4 [.int .i64 a.h.every, .int .i64 a.h.dead, .int .i64 a.h.prio, .int .i64 a.h.dr, .int .i64 a.h.bdr, .slice a.A a.n a.c]) (by kernel_rfl) hS (fun hHeld => ?_)
          change wpAnyH _ _ _ _ _ _ _ _ w5.drew
          have HGX6 := Lib.hid (show ∀ k, G k → k < w5.drew.heap.size from HGX5.out)
          have HBW6 := Lib.hid (show w.heap.size ≤ w5.drew.heap.size from HBW5.out)
          clear hS HB5
          generalize w5.drew = w6 at *
          refine wpAnyH_take (i := 0) (oi := { dst := Option.some 53, op := Go.Op.move (Go.Operand.tmp 9), type := 24, pos := "law.go:67", after := #[], guard := Option.none }) (v := ?_) rfl (by kernel_rfl) (by kernel_rfl) (by kernel_rfl) (fun _ _ _ h => h) (Or.inl ⟨by rfl, ?_⟩) hHeld ?_
          rotate_left 1
          · intro ww hSw
            try dsimp only at hSw
            go_simp
            try with_reducible rfl
          try simp only [Act.put, List.setIfInBounds_toArray, List.set_cons_zero, List.set_cons_succ]
          refine wpAnyH_take (i := 1) (oi := { dst := Option.some 54, op := Go.Op.fieldAddr 34 (Go.Operand.tmp 13) 1, type := 0, pos := "law.go:67", after := #[], guard := Option.none }) (v := ?_) rfl (by kernel_rfl) (by kernel_rfl) (by kernel_rfl) (fun _ _ _ h => h) (Or.inl ⟨by rfl, ?_⟩) hHeld ?_
          rotate_left 1
          · intro ww hSw
            try dsimp only at hSw
            go_simp
            try with_reducible rfl
          try simp only [Act.put, List.setIfInBounds_toArray, List.set_cons_zero, List.set_cons_succ]
          refine wpAnyH_take (i := 2) (oi := { dst := Option.some 55, op := Go.Op.load 3 (Go.Operand.tmp 54), type := 3, pos := "law.go:67", after := #[{ on := 1, ground := Go.Ground.data }], guard := Option.none }) (v := ?_) rfl (by kernel_rfl) (by kernel_rfl) (by kernel_rfl) (fun _ _ _ h => h) (Or.inl ⟨by rfl, ?_⟩) hHeld ?_
          rotate_left 1
          · intro ww hSw
            try dsimp only at hSw
            go_simp
            try with_reducible rfl
          try simp only [Act.put, List.setIfInBounds_toArray, List.set_cons_zero, List.set_cons_succ]
          refine wpAnyH_take (i := 3) (oi := { dst := Option.some 56, op := Go.Op.fieldAddr 34 (Go.Operand.tmp 13) 4, type := 0, pos := "law.go:67", after := #[], guard := Option.none }) (v := ?_) rfl (by kernel_rfl) (by kernel_rfl) (by kernel_rfl) (fun _ _ _ h => h) (Or.inl ⟨by rfl, ?_⟩) hHeld ?_
          rotate_left 1
          · intro ww hSw
            try dsimp only at hSw
            go_simp
            try with_reducible rfl
          try simp only [Act.put, List.setIfInBounds_toArray, List.set_cons_zero, List.set_cons_succ]
          refine wpAnyH_take (i := 4) (oi := { dst := Option.some 57, op := Go.Op.load 32 (Go.Operand.tmp 56), type := 32, pos := "law.go:67", after := #[{ on := 3, ground := Go.Ground.data }], guard := Option.none }) (v := (.agg #[.int .i64 a.h.every, .int .i64 a.h.dead, .int .i64 a.h.prio, .int .i64 a.h.dr, .int .i64 a.h.bdr, .slice a.A a.n a.c])) rfl (by kernel_rfl) (by kernel_rfl) (by kernel_rfl) (fun _ _ _ h => h) (yieldsIf_load_mid (by rfl) 32 (.tmp 56) rfl x 4 rfl [.int .i64 a.h.every, .int .i64 a.h.dead, .int .i64 a.h.prio, .int .i64 a.h.dr, .int .i64 a.h.bdr, .slice a.A a.n a.c] _ (fun _ hb => hb.2.2) Try.underlying32 rfl (by kernel_rfl)) hHeld ?_
          try simp only [Act.put, List.setIfInBounds_toArray, List.set_cons_zero, List.set_cons_succ]
          refine wpAnyH_take (i := 5) (oi := { dst := Option.some 58, op := Go.Op.move (Go.Operand.tmp 11), type := 3, pos := "law.go:67", after := #[], guard := Option.none }) (v := ?_) rfl (by kernel_rfl) (by kernel_rfl) (by kernel_rfl) (fun _ _ _ h => h) (Or.inl ⟨by rfl, ?_⟩) hHeld ?_
          rotate_left 1
          · intro ww hSw
            try dsimp only at hSw
            go_simp
            try with_reducible rfl
          try simp only [Act.put, List.setIfInBounds_toArray, List.set_cons_zero, List.set_cons_succ]
          refine wpAnyH_take (i := 7) (oi := { dst := Option.some 60, op := Go.Op.move (Go.Operand.tmp 10), type := 26, pos := "law.go:67", after := #[], guard := Option.none }) (v := ?_) rfl (by kernel_rfl) (by kernel_rfl) (by kernel_rfl) (fun _ _ _ h => h) (Or.inl ⟨by rfl, ?_⟩) hHeld ?_
          rotate_left 1
          · intro ww hSw
            try dsimp only at hSw
            go_simp
            try with_reducible rfl
          try simp only [Act.put, List.setIfInBounds_toArray, List.set_cons_zero, List.set_cons_succ]
          refine wpAnyH_take (i := 8) (oi := { dst := Option.some 61, op := Go.Op.fieldAddr 34 (Go.Operand.tmp 13) 1, type := 0, pos := "law.go:67", after := #[], guard := Option.none }) (v := ?_) rfl (by kernel_rfl) (by kernel_rfl) (by kernel_rfl) (fun _ _ _ h => h) (Or.inl ⟨by rfl, ?_⟩) hHeld ?_
          rotate_left 1
          · intro ww hSw
            try dsimp only at hSw
            go_simp
            try with_reducible rfl
          try simp only [Act.put, List.setIfInBounds_toArray, List.set_cons_zero, List.set_cons_succ]
          refine wpAnyH_take (i := 9) (oi := { dst := Option.some 62, op := Go.Op.load 3 (Go.Operand.tmp 61), type := 3, pos := "law.go:67", after := #[{ on := 8, ground := Go.Ground.data }], guard := Option.none }) (v := ?_) rfl (by kernel_rfl) (by kernel_rfl) (by kernel_rfl) (fun _ _ _ h => h) (Or.inl ⟨by rfl, ?_⟩) hHeld ?_
          rotate_left 1
          · intro ww hSw
            try dsimp only at hSw
            go_simp
            try with_reducible rfl
          try simp only [Act.put, List.setIfInBounds_toArray, List.set_cons_zero, List.set_cons_succ]
          refine wpAnyH_take (i := 10) (oi := { dst := Option.some 63, op := Go.Op.fieldAddr 34 (Go.Operand.tmp 13) 4, type := 0, pos := "law.go:67", after := #[], guard := Option.none }) (v := ?_) rfl (by kernel_rfl) (by kernel_rfl) (by kernel_rfl) (fun _ _ _ h => h) (Or.inl ⟨by rfl, ?_⟩) hHeld ?_
          rotate_left 1
          · intro ww hSw
            try dsimp only at hSw
            go_simp
            try with_reducible rfl
          try simp only [Act.put, List.setIfInBounds_toArray, List.set_cons_zero, List.set_cons_succ]
          refine wpAnyH_take (i := 11) (oi := { dst := Option.some 64, op := Go.Op.load 32 (Go.Operand.tmp 63), type := 32, pos := "law.go:67", after := #[{ on := 10, ground := Go.Ground.data }], guard := Option.none }) (v := (.agg #[.int .i64 a.h.every, .int .i64 a.h.dead, .int .i64 a.h.prio, .int .i64 a.h.dr, .int .i64 a.h.bdr, .slice a.A a.n a.c])) rfl (by kernel_rfl) (by kernel_rfl) (by kernel_rfl) (fun _ _ _ h => h) (yieldsIf_load_mid (by rfl) 32 (.tmp 63) rfl x 4 rfl [.int .i64 a.h.every, .int .i64 a.h.dead, .int .i64 a.h.prio, .int .i64 a.h.dr, .int .i64 a.h.bdr, .slice a.A a.n a.c] _ (fun _ hb => hb.2.2) Try.underlying32 rfl (by kernel_rfl)) hHeld ?_
          try simp only [Act.put, List.setIfInBounds_toArray, List.set_cons_zero, List.set_cons_succ]
          refine wpAnyH_take (i := 12) (oi := { dst := Option.some 65, op := Go.Op.move (Go.Operand.tmp 11), type := 3, pos := "law.go:67", after := #[], guard := Option.none }) (v := ?_) rfl (by kernel_rfl) (by kernel_rfl) (by kernel_rfl) (fun _ _ _ h => h) (Or.inl ⟨by rfl, ?_⟩) hHeld ?_
          rotate_left 1
          · intro ww hSw
            try dsimp only at hSw
            go_simp
            try with_reducible rfl
          try simp only [Act.put, List.setIfInBounds_toArray, List.set_cons_zero, List.set_cons_succ]
          refine wpAnyH_ready (rs := [6]) (by kernel_rfl) (by simp) ?_
          refine AllReadyH.cons (o := { dst := Option.some 59, op := Go.Op.call { callee := Go.Callee.value (Go.Operand.func 8), args := #[Go.Operand.tmp 53, Go.Operand.tmp 55, Go.Operand.tmp 57, Go.Operand.tmp 58], argTypes := #[24, 3, 32, 3] }, type := 36, pos := "law.go:67", after := #[{ on := 0, ground := Go.Ground.data }, { on := 2, ground := Go.Ground.data }, { on := 4, ground := Go.Ground.data }, { on := 5, ground := Go.Ground.data }], guard := Option.none }) rfl (fun K hK => ?_) AllReadyH.nil
          go_simp
          refine (hear_any a.id a.h t a.A a.n a.c HWF.out P6.out (R6.out.more HBW6.out) HAN.out HNT.out).mono ?_
          rintro e7 w7 ⟨⟨r7, rfl, hr7⟩, ⟨F7, bk7, hp7, hf7⟩, hc7⟩
          have HR7 := Lib.hid hr7
          have P7 := Lib.hid hp7
          have HF7 := Lib.hid hf7
          have C7 := Lib.hid hc7
          have K7 := Lib.hid (K6.out.chg hc7 NF.out.1)
          have D7 := Lib.hid (D6.out.both HFG.out hc7)
          have R7 := Lib.hid (R6.out.below (Chg.to_below hc7 HFB.out HBW6.out))
          have B7 := Lib.hid (B6.out.trans (Chg.to_below (B := w.heap.size) hc7 HFB.out HBW6.out))
          have HBW7 := Lib.hid (show w.heap.size ≤ w7.heap.size by have := hc7.size; have := HBW6.out; omega)
          clear hr7 hp7 hf7 hc7
          refine hK.out _ _ (And.intro K7.out.act.2.1 (And.intro K7.out.act.2.2.1 K7.out.act.2.2.2.2.2)) (fun hHeld => ?_)
          clear hK K
          try simp only [Act.put, List.setIfInBounds_toArray, List.set_cons_zero, List.set_cons_succ]
          refine wpAnyH_ready (rs := [13]) (by kernel_rfl) (by simp) ?_
          refine AllReadyH.cons (o := { dst := Option.some 66, op := Go.Op.call { callee := Go.Callee.value (Go.Operand.func 9), args := #[Go.Operand.tmp 60, Go.Operand.tmp 62, Go.Operand.tmp 64, Go.Operand.tmp 65], argTypes := #[26, 3, 32, 3] }, type := 36, pos := "law.go:67", after := #[{ on := 7, ground := Go.Ground.data }, { on := 9, ground := Go.Ground.data }, { on := 11, ground := Go.Ground.data }, { on := 12, ground := Go.Ground.data }, { on := 6, ground := Go.Ground.chain }], guard := Option.none }) rfl (fun K hK => ?_) AllReadyH.nil
          go_simp
          refine (hear_ref a.id a.h t a.A a.n a.c HWF.out D7.out SX.out HLAN.out R7.out HAN.out HGB.out HBW7.out HNT.out).mono ?_
          rintro e8 w8 ⟨⟨r8, rfl, hr8⟩, ⟨G8, A8, n8, c8, hd8, hg8⟩, hc8⟩
          have D8 := Lib.hid hd8
          have HG8 := Lib.hid hg8
          have C8 := Lib.hid hc8
          have K8 := Lib.hid (K7.out.chg hc8 NF.out.2)
          have B8 := Lib.hid (B7.out.trans (Chg.to_below (B := w.heap.size) hc8 HGB.out HBW7.out))
          have HRE := Lib.hid (show r8 = r7 by rw [hr8, HR7.out])
          clear hr8 hd8 hg8 hc8
          refine hK.out _ _ (And.intro K8.out.act.2.1 (And.intro K8.out.act.2.2.1 K8.out.act.2.2.2.2.2)) (fun hHeld => ?_)
          clear hK K
          try simp only [Act.put, List.setIfInBounds_toArray, List.set_cons_zero, List.set_cons_succ]
          have hEQ := fun W => equalH r7 r8 W
          rw [HRE.out] at hEQ
          rw [sameH_self] at hEQ
          rw [HRE.out]
          refine wpAnyH_take (i := 14) (oi := { dst := Option.some 67, op := Go.Op.binOp Go.BinOp.neq 36 (Go.Operand.tmp 59) (Go.Operand.tmp 66) 36, type := 4, pos := "law.go:67", after := #[{ on := 6, ground := Go.Ground.data }, { on := 13, ground := Go.Ground.data }], guard := Option.none }) (v := ?_) rfl (by kernel_rfl) (by kernel_rfl) (by kernel_rfl) (fun _ _ _ h => h) (Or.inl ⟨by rfl, ?_⟩) hHeld ?_
          rotate_left 1
          · intro ww hSw
            try dsimp only at hSw
            go_simp
            try with_reducible rfl
          try simp only [Act.put, List.setIfInBounds_toArray, List.set_cons_zero, List.set_cons_succ]
          clear hEQ
          refine wpAnyH_done (by kernel_rfl) ?_ _
          refine NoPanic.normal ?_
          clear hHeld
          have HBO := Lib.hid (both_step HFG.out HFB.out HGB.out HGX6.out P7.out HF7.out C7.out D8.out HG8.out C8.out HBW6.out)
          go_wp2_with fail
          go_meet
          exact ⟨_, rfl, HBO, B8⟩
        have d0 : (a.kind == 0) = false := by simp [h0]
        clear h0
        by_cases h1 : a.kind = 1
        · have d1 : (a.kind == 1) = true := by simp [h1]
          clear h1
          have HTL := Lib.hid (show 0 ≤ t ∧ t ≤ 1048600 by have := HNT.out; omega)
          go_wp2_with fail
          refine (lateL_any t HTL.out P5.out).mono ?_
          rintro e6 w6 ⟨⟨A6, n6, c6, rfl, ho6⟩, hb6⟩
          have O6 := Lib.hid ho6
          have D6 := Lib.hid (D5.out.below hb6)
          have HB6 := Lib.hid (HB5.out.below hb6)
          have B6 := Lib.hid (BX.out.trans (hb6.mono HBW5.out))
          have HN6 := Lib.hid (show n6 ≤ 1000 by
            rw [← own_len encI_len (by omega) ho6]
            have h1 : (lateL X t).length ≤ X.length := by unfold lateL; rw [List.length_map]; exact List.length_filter_le _ _
            have := SX.out.len
            omega)
          have HBW6 := Lib.hid (show w.heap.size ≤ w6.heap.size by have := hb6.size; have := HBW5.out; omega)
          clear ho6 hb6 k0 k1 k2 k3 k9 hlX
          go_wp2_with fail
          refine (late_ref t HTL.out D6.out SX.out).mono ?_
          rintro e7 w7 ⟨⟨A7, n7, c7, rfl, ho7⟩, hb7⟩
          have O7 := Lib.hid ho7
          have O67 := Lib.hid (own_below2 O6.out hb7)
          have HB7 := Lib.hid (HB6.out.below hb7)
          have B7 := Lib.hid (B6.out.trans (hb7.mono HBW6.out))
          have HBW7 := Lib.hid (show w.heap.size ≤ w7.heap.size by have := hb7.size; have := HBW6.out; omega)
          clear ho7 hb7
          go_wp2_with fail
          refine (ints_ref O67.out O7.out HN6.out).mono ?_
          rintro e8 w8 ⟨rfl, hb8⟩
          have HB8 := Lib.hid (HB7.out.below hb8)
          have B8 := Lib.hid (B7.out.trans (hb8.mono HBW7.out))
          clear hb8
          go_wp2_with fail
          go_meet
          exact ⟨X, rfl, HB8, B8⟩
        have d1 : (a.kind == 1) = false := by simp [h1]
        clear h1
        by_cases h2 : a.kind = 2
        · have d2 : (a.kind == 2) = true := by simp [h2]
          clear h2
          go_upto_region 22 with fail
          obtain ⟨vv, hvv⟩ : ∃ vv, (findP X a.id).isSome = vv := ⟨_, rfl⟩
          have HVV := Lib.hid hvv
          clear hvv
          have hbb : (vv != vv) = false := by simp
          have K6 := Lib.hid K5.out.drew
          have P6 := Lib.hid P5.out.drew
          have D6 := Lib.hid D5.out.drew
          have R6 := Lib.hid R5.out.drew
          have B6 := Lib.hid (show Below w.heap.size w w5.drew from below_drewN BX.out 1)
          clear k0 k1 k2 k3 k9 hlX K5 P5 D5 R5 BX
          have hS := (And.intro K6.out.act.2.1 (And.intro K6.out.act.2.2.1 K6.out.act.2.2.2.2.2))
          refine wp_region_noPanic ?_
          refine wp_region_held_drew (S := fun w' => w'.cell? ⟨x, 1, none⟩ = some (.int .i64 a.id) ∧ w'.cell? ⟨x, 2, none⟩ = some (.int .i64 a.st) ∧ w'.rangeAt x 4 [.int .i64 a.h.every, .int .i64 a.h.dead, .int .i64 a.h.prio, .int .i64 a.h.dr, .int .i64 a.h.bdr, .slice a.A a.n a.c]) (by kernel_rfl) hS (fun hHeld => ?_)
          change wpAnyH _ _ _ _ _ _ _ _ w5.drew
          have HGX6 := Lib.hid (show ∀ k, G k → k < w5.drew.heap.size from HGX5.out)
          have HBW6 := Lib.hid (show w.heap.size ≤ w5.drew.heap.size from HBW5.out)
          clear hS HB5
          generalize w5.drew = w6 at *
          refine wpAnyH_take (i := 0) (oi := { dst := Option.some 80, op := Go.Op.move (Go.Operand.tmp 9), type := 24, pos := "law.go:75", after := #[], guard := Option.none }) (v := ?_) rfl (by kernel_rfl) (by kernel_rfl) (by kernel_rfl) (fun _ _ _ h => h) (Or.inl ⟨by rfl, ?_⟩) hHeld ?_
          rotate_left 1
          · intro ww hSw
            try dsimp only at hSw
            go_simp
            try with_reducible rfl
          try simp only [Act.put, List.setIfInBounds_toArray, List.set_cons_zero, List.set_cons_succ]
          refine wpAnyH_take (i := 1) (oi := { dst := Option.some 81, op := Go.Op.fieldAddr 34 (Go.Operand.tmp 13) 1, type := 0, pos := "law.go:75", after := #[], guard := Option.none }) (v := ?_) rfl (by kernel_rfl) (by kernel_rfl) (by kernel_rfl) (fun _ _ _ h => h) (Or.inl ⟨by rfl, ?_⟩) hHeld ?_
          rotate_left 1
          · intro ww hSw
            try dsimp only at hSw
            go_simp
            try with_reducible rfl
          try simp only [Act.put, List.setIfInBounds_toArray, List.set_cons_zero, List.set_cons_succ]
          refine wpAnyH_take (i := 2) (oi := { dst := Option.some 82, op := Go.Op.load 3 (Go.Operand.tmp 81), type := 3, pos := "law.go:75", after := #[{ on := 1, ground := Go.Ground.data }], guard := Option.none }) (v := ?_) rfl (by kernel_rfl) (by kernel_rfl) (by kernel_rfl) (fun _ _ _ h => h) (Or.inl ⟨by rfl, ?_⟩) hHeld ?_
          rotate_left 1
          · intro ww hSw
            try dsimp only at hSw
            go_simp
            try with_reducible rfl
          try simp only [Act.put, List.setIfInBounds_toArray, List.set_cons_zero, List.set_cons_succ]
          refine wpAnyH_take (i := 4) (oi := { dst := Option.some 84, op := Go.Op.move (Go.Operand.tmp 10), type := 26, pos := "law.go:75", after := #[], guard := Option.none }) (v := ?_) rfl (by kernel_rfl) (by kernel_rfl) (by kernel_rfl) (fun _ _ _ h => h) (Or.inl ⟨by rfl, ?_⟩) hHeld ?_
          rotate_left 1
          · intro ww hSw
            try dsimp only at hSw
            go_simp
            try with_reducible rfl
          try simp only [Act.put, List.setIfInBounds_toArray, List.set_cons_zero, List.set_cons_succ]
          refine wpAnyH_take (i := 5) (oi := { dst := Option.some 85, op := Go.Op.fieldAddr 34 (Go.Operand.tmp 13) 1, type := 0, pos := "law.go:75", after := #[], guard := Option.none }) (v := ?_) rfl (by kernel_rfl) (by kernel_rfl) (by kernel_rfl) (fun _ _ _ h => h) (Or.inl ⟨by rfl, ?_⟩) hHeld ?_
          rotate_left 1
          · intro ww hSw
            try dsimp only at hSw
            go_simp
            try with_reducible rfl
          try simp only [Act.put, List.setIfInBounds_toArray, List.set_cons_zero, List.set_cons_succ]
          refine wpAnyH_take (i := 6) (oi := { dst := Option.some 86, op := Go.Op.load 3 (Go.Operand.tmp 85), type := 3, pos := "law.go:75", after := #[{ on := 5, ground := Go.Ground.data }], guard := Option.none }) (v := ?_) rfl (by kernel_rfl) (by kernel_rfl) (by kernel_rfl) (fun _ _ _ h => h) (Or.inl ⟨by rfl, ?_⟩) hHeld ?_
          rotate_left 1
          · intro ww hSw
            try dsimp only at hSw
            go_simp
            try with_reducible rfl
          try simp only [Act.put, List.setIfInBounds_toArray, List.set_cons_zero, List.set_cons_succ]
          refine wpAnyH_ready (rs := [3]) (by kernel_rfl) (by simp) ?_
          refine AllReadyH.cons (o := { dst := Option.some 83, op := Go.Op.call { callee := Go.Callee.value (Go.Operand.func 13), args := #[Go.Operand.tmp 80, Go.Operand.tmp 82], argTypes := #[24, 3] }, type := 4, pos := "law.go:75", after := #[{ on := 0, ground := Go.Ground.data }, { on := 2, ground := Go.Ground.data }], guard := Option.none }) rfl (fun K hK => ?_) AllReadyH.nil
          go_simp
          refine (drop_any a.id P6.out).mono ?_
          rintro e7 w7 ⟨rfl, hp7, hc7⟩
          rw [HVV.out]
          have P7 := Lib.hid hp7
          have HF7 := Lib.hid (show ∀ k, F k → F k ∨ w6.heap.size ≤ k from fun k hk => .inl hk)
          have C7 := Lib.hid hc7
          have K7 := Lib.hid (K6.out.chg hc7 NF.out.1)
          have D7 := Lib.hid (D6.out.both HFG.out hc7)
          have B7 := Lib.hid (B6.out.trans (Chg.to_below (B := w.heap.size) hc7 HFB.out HBW6.out))
          have HBW7 := Lib.hid (show w.heap.size ≤ w7.heap.size by have := hc7.size; have := HBW6.out; omega)
          clear hp7 hc7
          refine hK.out _ _ (And.intro K7.out.act.2.1 (And.intro K7.out.act.2.2.1 K7.out.act.2.2.2.2.2)) (fun hHeld => ?_)
          clear hK K
          try simp only [Act.put, List.setIfInBounds_toArray, List.set_cons_zero, List.set_cons_succ]
          refine wpAnyH_ready (rs := [7]) (by kernel_rfl) (by simp) ?_
          refine AllReadyH.cons (o := { dst := Option.some 87, op := Go.Op.call { callee := Go.Callee.value (Go.Operand.func 14), args := #[Go.Operand.tmp 84, Go.Operand.tmp 86], argTypes := #[26, 3] }, type := 4, pos := "law.go:75", after := #[{ on := 4, ground := Go.Ground.data }, { on := 6, ground := Go.Ground.data }, { on := 3, ground := Go.Ground.chain }], guard := Option.none }) rfl (fun K hK => ?_) AllReadyH.nil
          go_simp
          refine (drop_ref a.id D7.out SX.out).mono ?_
          rintro e8 w8 ⟨rfl, ⟨G8, A8, n8, c8, hd8, hg8⟩, hc8⟩
          rw [HVV.out]
          have D8 := Lib.hid hd8
          have HG8 := Lib.hid hg8
          clear hd8 hg8
          have C8 := Lib.hid hc8
          have K8 := Lib.hid (K7.out.chg hc8 NF.out.2)
          have B8 := Lib.hid (B7.out.trans (Chg.to_below (B := w.heap.size) hc8 HGB.out HBW7.out))
          clear hc8
          refine hK.out _ _ (And.intro K8.out.act.2.1 (And.intro K8.out.act.2.2.1 K8.out.act.2.2.2.2.2)) (fun hHeld => ?_)
          clear hK K
          try simp only [Act.put, List.setIfInBounds_toArray, List.set_cons_zero, List.set_cons_succ]
          refine wpAnyH_take (i := 8) (oi := { dst := Option.some 88, op := Go.Op.binOp Go.BinOp.neq 4 (Go.Operand.tmp 83) (Go.Operand.tmp 87) 4, type := 4, pos := "law.go:75", after := #[{ on := 3, ground := Go.Ground.data }, { on := 7, ground := Go.Ground.data }], guard := Option.none }) (v := ?_) rfl (by kernel_rfl) (by kernel_rfl) (by kernel_rfl) (fun _ _ _ h => h) (Or.inl ⟨by rfl, ?_⟩) hHeld ?_
          rotate_left 1
          · intro ww hSw
            try dsimp only at hSw
            go_simp
            try with_reducible rfl
          try simp only [Act.put, List.setIfInBounds_toArray, List.set_cons_zero, List.set_cons_succ]
          refine wpAnyH_done (by kernel_rfl) ?_ _
          refine NoPanic.normal ?_
          clear hHeld
          have HBO := Lib.hid (both_step HFG.out HFB.out HGB.out HGX6.out P7.out HF7.out C7.out D8.out HG8.out C8.out HBW6.out)
          go_wp2_with fail
          go_meet
          exact ⟨_, rfl, HBO, B8⟩
        have d2 : (a.kind == 2) = false := by simp [h2]
        clear h2
        by_cases h3 : a.kind = 3
        · have d3 : (a.kind == 3) = true := by simp [h3]
          clear h3
          go_upto_region 25 with fail
          obtain ⟨vv, hvv⟩ : ∃ vv, setB X a.id a.st = vv := ⟨_, rfl⟩
          have HVV := Lib.hid hvv
          clear hvv
          have hbb : (vv != vv) = false := by simp
          have K6 := Lib.hid K5.out.drew
          have P6 := Lib.hid P5.out.drew
          have D6 := Lib.hid D5.out.drew
          have R6 := Lib.hid R5.out.drew
          have B6 := Lib.hid (show Below w.heap.size w w5.drew from below_drewN BX.out 1)
          clear k0 k1 k2 k3 k9 hlX K5 P5 D5 R5 BX
          have hS := (And.intro K6.out.act.2.1 (And.intro K6.out.act.2.2.1 K6.out.act.2.2.2.2.2))
          refine wp_region_noPanic ?_
          refine wp_region_held_drew (S := fun w' => w'.cell? ⟨x, 1, none⟩ = some (.int .i64 a.id) ∧ w'.cell? ⟨x, 2, none⟩ = some (.int .i64 a.st) ∧ w'.rangeAt x 4 [.int .i64 a.h.every, .int .i64 a.h.dead, .int .i64 a.h.prio, .int .i64 a.h.dr, .int .i64 a.h.bdr, .slice a.A a.n a.c]) (by kernel_rfl) hS (fun hHeld => ?_)
          change wpAnyH _ _ _ _ _ _ _ _ w5.drew
          have HGX6 := Lib.hid (show ∀ k, G k → k < w5.drew.heap.size from HGX5.out)
          have HBW6 := Lib.hid (show w.heap.size ≤ w5.drew.heap.size from HBW5.out)
          clear hS HB5
          generalize w5.drew = w6 at *
          refine wpAnyH_take (i := 0) (oi := { dst := Option.some 91, op := Go.Op.move (Go.Operand.tmp 9), type := 24, pos := "law.go:79", after := #[], guard := Option.none }) (v := ?_) rfl (by kernel_rfl) (by kernel_rfl) (by kernel_rfl) (fun _ _ _ h => h) (Or.inl ⟨by rfl, ?_⟩) hHeld ?_
          rotate_left 1
          · intro ww hSw
            try dsimp only at hSw
            go_simp
            try with_reducible rfl
          try simp only [Act.put, List.setIfInBounds_toArray, List.set_cons_zero, List.set_cons_succ]
          refine wpAnyH_take (i := 1) (oi := { dst := Option.some 92, op := Go.Op.fieldAddr 34 (Go.Operand.tmp 13) 1, type := 0, pos := "law.go:79", after := #[], guard := Option.none }) (v := ?_) rfl (by kernel_rfl) (by kernel_rfl) (by kernel_rfl) (fun _ _ _ h => h) (Or.inl ⟨by rfl, ?_⟩) hHeld ?_
          rotate_left 1
          · intro ww hSw
            try dsimp only at hSw
            go_simp
            try with_reducible rfl
          try simp only [Act.put, List.setIfInBounds_toArray, List.set_cons_zero, List.set_cons_succ]
          refine wpAnyH_take (i := 2) (oi := { dst := Option.some 93, op := Go.Op.load 3 (Go.Operand.tmp 92), type := 3, pos := "law.go:79", after := #[{ on := 1, ground := Go.Ground.data }], guard := Option.none }) (v := ?_) rfl (by kernel_rfl) (by kernel_rfl) (by kernel_rfl) (fun _ _ _ h => h) (Or.inl ⟨by rfl, ?_⟩) hHeld ?_
          rotate_left 1
          · intro ww hSw
            try dsimp only at hSw
            go_simp
            try with_reducible rfl
          try simp only [Act.put, List.setIfInBounds_toArray, List.set_cons_zero, List.set_cons_succ]
          refine wpAnyH_take (i := 3) (oi := { dst := Option.some 94, op := Go.Op.fieldAddr 34 (Go.Operand.tmp 13) 2, type := 0, pos := "law.go:79", after := #[], guard := Option.none }) (v := ?_) rfl (by kernel_rfl) (by kernel_rfl) (by kernel_rfl) (fun _ _ _ h => h) (Or.inl ⟨by rfl, ?_⟩) hHeld ?_
          rotate_left 1
          · intro ww hSw
            try dsimp only at hSw
            go_simp
            try with_reducible rfl
          try simp only [Act.put, List.setIfInBounds_toArray, List.set_cons_zero, List.set_cons_succ]
          refine wpAnyH_take (i := 4) (oi := { dst := Option.some 95, op := Go.Op.load 3 (Go.Operand.tmp 94), type := 3, pos := "law.go:79", after := #[{ on := 3, ground := Go.Ground.data }], guard := Option.none }) (v := ?_) rfl (by kernel_rfl) (by kernel_rfl) (by kernel_rfl) (fun _ _ _ h => h) (Or.inl ⟨by rfl, ?_⟩) hHeld ?_
          rotate_left 1
          · intro ww hSw
            try dsimp only at hSw
            go_simp
            try with_reducible rfl
          try simp only [Act.put, List.setIfInBounds_toArray, List.set_cons_zero, List.set_cons_succ]
          refine wpAnyH_take (i := 6) (oi := { dst := Option.some 97, op := Go.Op.move (Go.Operand.tmp 10), type := 26, pos := "law.go:79", after := #[], guard := Option.none }) (v := ?_) rfl (by kernel_rfl) (by kernel_rfl) (by kernel_rfl) (fun _ _ _ h => h) (Or.inl ⟨by rfl, ?_⟩) hHeld ?_
          rotate_left 1
          · intro ww hSw
            try dsimp only at hSw
            go_simp
            try with_reducible rfl
          try simp only [Act.put, List.setIfInBounds_toArray, List.set_cons_zero, List.set_cons_succ]
          refine wpAnyH_take (i := 7) (oi := { dst := Option.some 98, op := Go.Op.fieldAddr 34 (Go.Operand.tmp 13) 1, type := 0, pos := "law.go:79", after := #[], guard := Option.none }) (v := ?_) rfl (by kernel_rfl) (by kernel_rfl) (by kernel_rfl) (fun _ _ _ h => h) (Or.inl ⟨by rfl, ?_⟩) hHeld ?_
          rotate_left 1
          · intro ww hSw
            try dsimp only at hSw
            go_simp
            try with_reducible rfl
          try simp only [Act.put, List.setIfInBounds_toArray, List.set_cons_zero, List.set_cons_succ]
          refine wpAnyH_take (i := 8) (oi := { dst := Option.some 99, op := Go.Op.load 3 (Go.Operand.tmp 98), type := 3, pos := "law.go:79", after := #[{ on := 7, ground := Go.Ground.data }], guard := Option.none }) (v := ?_) rfl (by kernel_rfl) (by kernel_rfl) (by kernel_rfl) (fun _ _ _ h => h) (Or.inl ⟨by rfl, ?_⟩) hHeld ?_
          rotate_left 1
          · intro ww hSw
            try dsimp only at hSw
            go_simp
            try with_reducible rfl
          try simp only [Act.put, List.setIfInBounds_toArray, List.set_cons_zero, List.set_cons_succ]
          refine wpAnyH_take (i := 9) (oi := { dst := Option.some 100, op := Go.Op.fieldAddr 34 (Go.Operand.tmp 13) 2, type := 0, pos := "law.go:79", after := #[], guard := Option.none }) (v := ?_) rfl (by kernel_rfl) (by kernel_rfl) (by kernel_rfl) (fun _ _ _ h => h) (Or.inl ⟨by rfl, ?_⟩) hHeld ?_
          rotate_left 1
          · intro ww hSw
            try dsimp only at hSw
            go_simp
            try with_reducible rfl
          try simp only [Act.put, List.setIfInBounds_toArray, List.set_cons_zero, List.set_cons_succ]
          refine wpAnyH_take (i := 10) (oi := { dst := Option.some 101, op := Go.Op.load 3 (Go.Operand.tmp 100), type := 3, pos := "law.go:79", after := #[{ on := 9, ground := Go.Ground.data }], guard := Option.none }) (v := ?_) rfl (by kernel_rfl) (by kernel_rfl) (by kernel_rfl) (fun _ _ _ h => h) (Or.inl ⟨by rfl, ?_⟩) hHeld ?_
          rotate_left 1
          · intro ww hSw
            try dsimp only at hSw
            go_simp
            try with_reducible rfl
          try simp only [Act.put, List.setIfInBounds_toArray, List.set_cons_zero, List.set_cons_succ]
          refine wpAnyH_ready (rs := [5]) (by kernel_rfl) (by simp) ?_
          refine AllReadyH.cons (o := { dst := Option.some 96, op := Go.Op.call { callee := Go.Callee.value (Go.Operand.func 15), args := #[Go.Operand.tmp 91, Go.Operand.tmp 93, Go.Operand.tmp 95], argTypes := #[24, 3, 3] }, type := 4, pos := "law.go:79", after := #[{ on := 0, ground := Go.Ground.data }, { on := 2, ground := Go.Ground.data }, { on := 4, ground := Go.Ground.data }], guard := Option.none }) rfl (fun K hK => ?_) AllReadyH.nil
          go_simp
          refine (set_any a.id a.st P6.out).mono ?_
          rintro e7 w7 ⟨rfl, hp7, hc7⟩
          rw [HVV.out]
          have P7 := Lib.hid hp7
          have HF7 := Lib.hid (show ∀ k, F k → F k ∨ w6.heap.size ≤ k from fun k hk => .inl hk)
          have C7 := Lib.hid hc7
          have K7 := Lib.hid (K6.out.chg hc7 NF.out.1)
          have D7 := Lib.hid (D6.out.both HFG.out hc7)
          have B7 := Lib.hid (B6.out.trans (Chg.to_below (B := w.heap.size) hc7 HFB.out HBW6.out))
          have HBW7 := Lib.hid (show w.heap.size ≤ w7.heap.size by have := hc7.size; have := HBW6.out; omega)
          clear hp7 hc7
          refine hK.out _ _ (And.intro K7.out.act.2.1 (And.intro K7.out.act.2.2.1 K7.out.act.2.2.2.2.2)) (fun hHeld => ?_)
          clear hK K
          try simp only [Act.put, List.setIfInBounds_toArray, List.set_cons_zero, List.set_cons_succ]
          refine wpAnyH_ready (rs := [11]) (by kernel_rfl) (by simp) ?_
          refine AllReadyH.cons (o := { dst := Option.some 102, op := Go.Op.call { callee := Go.Callee.value (Go.Operand.func 16), args := #[Go.Operand.tmp 97, Go.Operand.tmp 99, Go.Operand.tmp 101], argTypes := #[26, 3, 3] }, type := 4, pos := "law.go:79", after := #[{ on := 6, ground := Go.Ground.data }, { on := 8, ground := Go.Ground.data }, { on := 10, ground := Go.Ground.data }, { on := 5, ground := Go.Ground.chain }], guard := Option.none }) rfl (fun K hK => ?_) AllReadyH.nil
          go_simp
          refine (set_ref a.id a.st D7.out SX.out).mono ?_
          rintro e8 w8 ⟨rfl, hd8, hc8⟩
          rw [HVV.out]
          have D8 := Lib.hid hd8
          have HG8 := Lib.hid (show ∀ k, G k → G k ∨ w7.heap.size ≤ k from fun k hk => .inl hk)
          clear hd8
          have C8 := Lib.hid hc8
          have K8 := Lib.hid (K7.out.chg hc8 NF.out.2)
          have B8 := Lib.hid (B7.out.trans (Chg.to_below (B := w.heap.size) hc8 HGB.out HBW7.out))
          clear hc8
          refine hK.out _ _ (And.intro K8.out.act.2.1 (And.intro K8.out.act.2.2.1 K8.out.act.2.2.2.2.2)) (fun hHeld => ?_)
          clear hK K
          try simp only [Act.put, List.setIfInBounds_toArray, List.set_cons_zero, List.set_cons_succ]
          refine wpAnyH_take (i := 12) (oi := { dst := Option.some 103, op := Go.Op.binOp Go.BinOp.neq 4 (Go.Operand.tmp 96) (Go.Operand.tmp 102) 4, type := 4, pos := "law.go:79", after := #[{ on := 5, ground := Go.Ground.data }, { on := 11, ground := Go.Ground.data }], guard := Option.none }) (v := ?_) rfl (by kernel_rfl) (by kernel_rfl) (by kernel_rfl) (fun _ _ _ h => h) (Or.inl ⟨by rfl, ?_⟩) hHeld ?_
          rotate_left 1
          · intro ww hSw
            try dsimp only at hSw
            go_simp
            try with_reducible rfl
          try simp only [Act.put, List.setIfInBounds_toArray, List.set_cons_zero, List.set_cons_succ]
          refine wpAnyH_done (by kernel_rfl) ?_ _
          refine NoPanic.normal ?_
          clear hHeld
          have HBO := Lib.hid (both_step HFG.out HFB.out HGB.out HGX6.out P7.out HF7.out C7.out D8.out HG8.out C8.out HBW6.out)
          go_wp2_with fail
          go_meet
          exact ⟨_, rfl, HBO, B8⟩
        have d3 : (a.kind == 3) = false := by simp [h3]
        clear h3
        go_wp2_with fail
        go_meet
        exact ⟨X, rfl, HB5, BX⟩
      case rest =>
      obtain ⟨X', rfl, HBs, Bs⟩ := hcut
      rename World => ws
      clear k0 k1 k2 k3 k9 hlX K5 HB5 P5 D5 R5 BX
      have hss := Bs.out.size
      go_wp2_with fail
      refine (same_any HBs.out).mono ?_
      rintro e9 w9 ⟨rfl, hb9⟩
      have HB9 := Lib.hid (HBs.out.below hb9)
      have B9 := Lib.hid (Bs.out.trans (hb9.mono hss))
      have HNX := Lib.hid (show 0 ≤ t ∧ t ≤ 255 * ((j + 1 : Nat) : Int) from ⟨HNT.out.1, HNJ.out⟩)
      clear hb9 hss
      go_wp2_with fail
      go_roundw
      case rel => exact ⟨j + 1, t, X', by omega, by go_num, rfl, HNX, HB9, B9⟩
      case measure => simp [intOf]; omega
    · go_wp2
      go_ret
      exact ⟨rfl, hb.out⟩
end Go.Proofs.Ytfapphndfgoknaa
