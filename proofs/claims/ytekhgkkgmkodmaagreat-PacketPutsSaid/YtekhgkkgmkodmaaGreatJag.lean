/- The call told of package lsa: the description that bytes tell. Conditions: 20 to 2^20 bytes. -/
import Derived.Test.YtekhgkkgmkodmaaGreatJaf
namespace Go.Proofs.YtekhgkkgmkodmaaGreat
open Go.RowKit

/-- The links that bytes tell. -/
def tL (l : List Int) : List Lk := if (headOf l).kind = 1 then lks (l.drop 20) (many (l.drop 20)) else []
/-- The members that bytes tell. -/
def tM (l : List Int) : List Int := if (headOf l).kind = 1 then [] else words (l.drop 20) ((l.drop 20).length / 4)
/-- Is what stands behind the head formed as told? -/
def okBody (l : List Int) : Bool := if (headOf l).kind = 1 then okLinks (l.drop 20) else decide ((l.drop 20).length % 4 = 0)
/-- Do bytes tell a description that is right? -/
def okTold (l : List Int) : Bool := okHead l && (okBody l && rightB (headOf l) (tL l) (tM l))
/-- What Get answers. -/
def GotL (w : World) (h : Hd) (L : List Lk) (M : List Int) (e : Int) (x : Ending) (w' : World) : Prop :=
  ∃ A n c A' n' c', x = .returned (.tuple #[.agg #[.int .i64 h.age, .int .i64 h.kind, .int .i64 h.id, .int .i64 h.adv, .int .i64 h.seq, .int .i64 h.sum, .int .i64 h.long, .slice A n c, .slice A' n' c'], .int .i64 e]) ∧ w'.ownsRow w.heap.size 86 4 (.slice A n c) n (lkCells L) ∧ L.length = n ∧ w'.ownsRow w.heap.size 3 1 (.slice A' n' c') n' (M.map (Value.int .i64)) ∧ M.length = n' ∧ Below w.heap.size w w'
theorem gotL_zero {w w' : World} {e : Int} (hb : Below w.heap.size w w') : GotL w zeroHd [] [] e (.returned (.tuple #[.agg #[.int .i64 0, .int .i64 0, .int .i64 0, .int .i64 0, .int .i64 0, .int .i64 0, .int .i64 0, .slice none 0 0, .slice none 0 0], .int .i64 e])) w' :=
  ⟨none, 0, 0, none, 0, 0, rfl, World.ownsRow_nil _ _ _ _, rfl, World.ownsRow_nil _ _ _ _, rfl, hb⟩
theorem Blk.nineF {w : World} {g : Nat} {t : TypeId} {cs : Array Value} (h : Blk w g t cs) :
    w.frozen? ⟨g, 0, none⟩ = false ∧ w.frozen? ⟨g, 1, none⟩ = false ∧ w.frozen? ⟨g, 2, none⟩ = false ∧ w.frozen? ⟨g, 3, none⟩ = false ∧ w.frozen? ⟨g, 4, none⟩ = false ∧ w.frozen? ⟨g, 5, none⟩ = false ∧ w.frozen? ⟨g, 6, none⟩ = false ∧ w.frozen? ⟨g, 7, none⟩ = false ∧ w.frozen? ⟨g, 8, none⟩ = false :=
  ⟨h.frozen 0, h.frozen 1, h.frozen 2, h.frozen 3, h.frozen 4, h.frozen 5, h.frozen 6, h.frozen 7, h.frozen 8⟩

theorem grown_setCell (w : World) (p : Addr) (u : Value) : w.grownBy (w.setCell p u) (some p.block) :=
  ⟨rfl, rfl, rfl, by simp [World.setCell], fun k _ hk => Below.heap_setCell w p u k (fun e => hk (by rw [e]))⟩
theorem own_set {w : World} {base n size : Nat} {t : TypeId} {v : Value} {xs : List Value} (h : w.ownsRow base t size v n xs) (p : Addr) (u : Value) (hb : p.block < base) : (w.setCell p u).ownsRow base t size v n xs := own_grown h (grown_setCell w p u) hb
theorem own_low {w : World} {b b' : Nat} {t : TypeId} {v : Value} {n size : Nat} {xs : List Value} (h : w.ownsRow b t size v n xs) (hb : b' ≤ b) : w.ownsRow b' t size v n xs := by
  refine ⟨h.1, ?_⟩
  rcases h.2 with h0 | ⟨g, cap, cur, h1, h2, h3⟩
  · exact .inl h0
  · exact .inr ⟨g, cap, cur, h1, Nat.le_trans hb h2, h3⟩
theorem gotL_links {w w' : World} {h : Hd} {L : List Lk} {q c base : Nat} {A : Option Addr} {e : Int} (ho : w'.ownsRow base 86 4 (.slice A q c) q (lkCells L)) (hq : L.length = q) (hbase : w.heap.size < base) (hb : Below w.heap.size w w') :
    GotL w h L [] e (.returned (.tuple #[.agg #[.int .i64 h.age, .int .i64 h.kind, .int .i64 h.id, .int .i64 h.adv, .int .i64 h.seq, .int .i64 h.sum, .int .i64 h.long, .slice A q c, .slice none 0 0], .int .i64 e])) w' :=
  ⟨A, q, c, none, 0, 0, rfl, own_low ho (by omega), hq, World.ownsRow_nil _ _ _ _, rfl, hb⟩
theorem gotL_members {w w' : World} {h : Hd} {M : List Int} {q c base : Nat} {A : Option Addr} {e : Int} (ho : w'.ownsRow base 3 1 (.slice A q c) q (M.map (Value.int .i64))) (hq : M.length = q) (hbase : w.heap.size < base) (hb : Below w.heap.size w w') :
    GotL w h [] M e (.returned (.tuple #[.agg #[.int .i64 h.age, .int .i64 h.kind, .int .i64 h.id, .int .i64 h.adv, .int .i64 h.seq, .int .i64 h.sum, .int .i64 h.long, .slice none 0 0, .slice A q c], .int .i64 e])) w' :=
  ⟨none, 0, 0, A, q, c, rfl, World.ownsRow_nil _ _ _ _, rfl, own_low ho (by omega), hq, hb⟩
theorem own_below2 {w w' : World} {base n size : Nat} {t : TypeId} {v : Value} {xs : List Value} (h : w.ownsRow base t size v n xs) (hb : Below w.heap.size w w') : w'.ownsRow base t size v n xs :=
  h.kept (row := none) (grown_of_below hb none) (by cases v.ownBlock <;> simp)

set_option maxRecDepth 4000 in
set_option maxHeartbeats 8000000 in
theorem told_any (A : Option Addr) (n c B : Nat) (l : List Int) (w : World) (hr : Row .u8 w B A n l) (hby : Byt l) (hB : B ≤ w.heap.size) (hn : 20 ≤ n) (hn2 : n ≤ 1048576) (hnc : n ≤ c) (hc : c ≤ maxLen) :
    Calls Tryz.prog 107 #[.slice A n c] w (GotL w (if okTold l = true then headOf l else zeroHd) (if okTold l = true then tL l else []) (if okTold l = true then tM l else []) (if okTold l = true then 0 else 4)) := by
  generalize hQ : GotL w (if okTold l = true then headOf l else zeroHd) (if okTold l = true then tL l else []) (if okTold l = true then tM l else []) (if okTold l = true then 0 else 4) = Q
  have HQ := Lib.hid hQ
  have HY := Lib.hid hby
  have HCm := Lib.hid hc
  have HLEN := Lib.hid hr.1
  obtain ⟨b0, o0, rfl, hb0, -⟩ := hr.2 (by omega)
  unfold maxLen at hc
  have hrd := cut_some _ _ 20 (n - 20) (by omega) _ _ _ _ hr
  rw [List.take_of_length_le (by have := hr.1; simp; omega)] at hrd
  have OBJ : ∃ o : Obj, o = .cells #[.int .i64 0, .int .i64 0, .int .i64 0, .int .i64 0, .int .i64 0, .int .i64 0, .int .i64 0, .slice none 0 0, .slice none 0 0] 47 := ⟨_, rfl⟩
  have RR0 := Lib.hid ((hr.alloc hB (.cells #[.int .i64 0, .int .i64 0, .int .i64 0, .int .i64 0, .int .i64 0, .int .i64 0, .int .i64 0, .slice none 0 0, .slice none 0 0] 47)).alloc (by simp; omega) (.cells #[.int .i64 0, .int .i64 0, .int .i64 0, .int .i64 0, .int .i64 0, .int .i64 0, .int .i64 0, .slice none 0 0, .slice none 0 0] 47))
  obtain ⟨A2, hA2, hrow2⟩ : ∃ A2, (if c = 20 then some (⟨b0, o0, none⟩ : Addr) else some ⟨b0, o0 + 20, none⟩) = A2 ∧ Row .u8 ((w.alloc (.cells #[.int .i64 0, .int .i64 0, .int .i64 0, .int .i64 0, .int .i64 0, .int .i64 0, .int .i64 0, .slice none 0 0, .slice none 0 0] 47)).alloc (.cells #[.int .i64 0, .int .i64 0, .int .i64 0, .int .i64 0, .int .i64 0, .int .i64 0, .int .i64 0, .slice none 0 0, .slice none 0 0] 47)) B A2 (n - 20) (l.drop 20) := by
    refine ⟨_, rfl, ?_⟩
    by_cases e : c = 20
    · have : n - 20 = 0 := by omega
      rw [if_pos e, this, List.drop_of_length_le (by have := hr.1; omega)]
      exact Row.nil
    · rw [if_neg e]
      exact (hrd.alloc hB _).alloc (by simp; omega) _
  have RD0 := Lib.hid hrow2
  have KA0 := Lib.hid ((Blk.new w 47 #[.int .i64 0, .int .i64 0, .int .i64 0, .int .i64 0, .int .i64 0, .int .i64 0, .int .i64 0, .slice none 0 0, .slice none 0 0]).alloc (.cells #[.int .i64 0, .int .i64 0, .int .i64 0, .int .i64 0, .int .i64 0, .int .i64 0, .int .i64 0, .slice none 0 0, .slice none 0 0] 47))
  have KB0 := Lib.hid (blk_new1 w (.cells #[.int .i64 0, .int .i64 0, .int .i64 0, .int .i64 0, .int .i64 0, .int .i64 0, .int .i64 0, .slice none 0 0, .slice none 0 0] 47) 47 #[.int .i64 0, .int .i64 0, .int .i64 0, .int .i64 0, .int .i64 0, .int .i64 0, .int .i64 0, .slice none 0 0, .slice none 0 0])
  have BW0 := Lib.hid (((Below.refl w.heap.size w).alloc (Nat.le_refl _) (.cells #[.int .i64 0, .int .i64 0, .int .i64 0, .int .i64 0, .int .i64 0, .int .i64 0, .int .i64 0, .slice none 0 0, .slice none 0 0] 47)).alloc (by simp) (.cells #[.int .i64 0, .int .i64 0, .int .i64 0, .int .i64 0, .int .i64 0, .int .i64 0, .int .i64 0, .slice none 0 0, .slice none 0 0] 47))
  clear hQ hr hby hrd OBJ hrow2
  go_enter Tryz.func107, Tryz.ntmps107
  go_wp2
  refine scope_fwd 0 rfl ?_
  go_wp2_with fail
  refine (rd_read A2 (n - 20) (c - 20) B (l.drop 20) _ RD0.out (HY.out.drop 20) (by simp; omega) (by omega)).mono ?_
  rintro e1 w1 ⟨rfl, hb1, hrd1⟩
  simp only [World.size_alloc] at hrd1 ⊢
  have RD1 := Lib.hid hrd1
  have KA1 := Lib.hid (KA0.out.below hb1 (by simp; omega))
  have KB1 := Lib.hid (KB0.out.below hb1 (by simp))
  have BW1 := Lib.hid (BW0.out.trans (hb1.mono (by simp; omega)))
  have RR1 := Lib.hid (RR0.out.below (hb1.mono (by simp; omega)))
  have hsz1 := BW1.out.size
  clear hb1 hrd1 RD0 KA0 KB0 BW0 RR0 hA2
  go_wp2_with fail
  refine (getHead_long _ n c B l _ RR1.out HY.out (by omega) hn hnc HCm.out).mono ?_
  rintro e2 w2 ⟨rfl, hb2⟩
  have RD2 := Lib.hid (RD1.out.below hb2 RD1.out.lt.1)
  have KA2 := Lib.hid (KA1.out.below hb2 KA1.out.lt)
  have KB2 := Lib.hid (KB1.out.below hb2 KB1.out.lt)
  have BW2 := Lib.hid (BW1.out.trans (hb2.mono hsz1))
  clear hb2 RD1 KA1 KB1 BW1 RR1 hsz1
  obtain ⟨k0, k1, k2, k3, k4, k5, k6, k7, k8⟩ := KB2.out.nine
  obtain ⟨f0, f1, f2, f3, f4, f5, f6, f7, f8⟩ := KB2.out.nineF
  cases hh : okHead l
  · have HT := Lib.hid (show okTold l = false by unfold okTold; rw [hh]; rfl)
    obtain ⟨a0, a1, a2, a3, a4, a5, a6, a7, a8⟩ := KA2.out.nine
    obtain ⟨g0, g1, g2, g3, g4, g5, g6, g7, g8⟩ := KA2.out.nineF
    simp only [Bool.false_eq_true, if_false, zeroHd]
    go_wp2
    go_step3
    refine ⟨rfl, ?_⟩
    go_wp2
    refine bodyPost_ret (v := .tuple #[.agg #[.int .i64 0, .int .i64 0, .int .i64 0, .int .i64 0, .int .i64 0, .int .i64 0, .int .i64 0, .slice none 0 0, .slice none 0 0], .int .i64 4]) (by simp [results, Tryz.results107, go_sem, *]) rfl ?_
    rw [← HQ.out, HT.out]
    exact gotL_zero ((((((((((((((((BW2.out.setCell (by simp) _).setCell (by simp) _).setCell (by simp) _).setCell (by simp) _).setCell (by simp) _).setCell (by simp) _).setCell (by simp) _).setCell (by simp) _).setCell (by simp) _).setCell (by simp) _).setCell (by simp) _).setCell (by simp) _).setCell (by simp) _).setCell (by simp) _).setCell (by simp) _).setCell (by simp) _)
  · simp only [if_true]
    obtain ⟨h, hh2⟩ : ∃ h, headOf l = h := ⟨_, rfl⟩
    rw [hh2]
    have HH := Lib.hid hh2
    have HOK := Lib.hid hh
    have hkd : h.kind = 1 ∨ h.kind = 2 := by
      unfold okHead headB at hh
      rw [hh2] at hh
      simp only [Bool.and_eq_true, inB_iff] at hh
      omega
    have HKD := Lib.hid hkd
    clear hh hh2 hkd
    go_upto_region 6 with fail
    have RD3 := Lib.hid (show Rd (((((((w2.setCell ⟨w.heap.size + 1, 0, none⟩ (.int .i64 h.age)).setCell ⟨w.heap.size + 1, 1, none⟩ (.int .i64 h.kind)).setCell ⟨w.heap.size + 1, 2, none⟩ (.int .i64 h.id)).setCell ⟨w.heap.size + 1, 3, none⟩ (.int .i64 h.adv)).setCell ⟨w.heap.size + 1, 4, none⟩ (.int .i64 h.seq)).setCell ⟨w.heap.size + 1, 5, none⟩ (.int .i64 h.sum)).setCell ⟨w.heap.size + 1, 6, none⟩ (.int .i64 h.long)) (w.heap.size + 1 + 1) (w.heap.size + 1 + 1 + 1) (l.drop 20) 0 from (((((((RD2.out.far (.inl (by simp)) _).far (.inl (by simp)) _).far (.inl (by simp)) _).far (.inl (by simp)) _).far (.inl (by simp)) _).far (.inl (by simp)) _).far (.inl (by simp)) _))
    have KA3 := Lib.hid (show Blk (((((((w2.setCell ⟨w.heap.size + 1, 0, none⟩ (.int .i64 h.age)).setCell ⟨w.heap.size + 1, 1, none⟩ (.int .i64 h.kind)).setCell ⟨w.heap.size + 1, 2, none⟩ (.int .i64 h.id)).setCell ⟨w.heap.size + 1, 3, none⟩ (.int .i64 h.adv)).setCell ⟨w.heap.size + 1, 4, none⟩ (.int .i64 h.seq)).setCell ⟨w.heap.size + 1, 5, none⟩ (.int .i64 h.sum)).setCell ⟨w.heap.size + 1, 6, none⟩ (.int .i64 h.long)) w.heap.size 47 #[.int .i64 0, .int .i64 0, .int .i64 0, .int .i64 0, .int .i64 0, .int .i64 0, .int .i64 0, .slice none 0 0, .slice none 0 0] from (((((((KA2.out.far (by simp) _).far (by simp) _).far (by simp) _).far (by simp) _).far (by simp) _).far (by simp) _).far (by simp) _))
    have KB3 := Lib.hid (show Blk (((((((w2.setCell ⟨w.heap.size + 1, 0, none⟩ (.int .i64 h.age)).setCell ⟨w.heap.size + 1, 1, none⟩ (.int .i64 h.kind)).setCell ⟨w.heap.size + 1, 2, none⟩ (.int .i64 h.id)).setCell ⟨w.heap.size + 1, 3, none⟩ (.int .i64 h.adv)).setCell ⟨w.heap.size + 1, 4, none⟩ (.int .i64 h.seq)).setCell ⟨w.heap.size + 1, 5, none⟩ (.int .i64 h.sum)).setCell ⟨w.heap.size + 1, 6, none⟩ (.int .i64 h.long)) (w.heap.size + 1) 47 #[.int .i64 h.age, .int .i64 h.kind, .int .i64 h.id, .int .i64 h.adv, .int .i64 h.seq, .int .i64 h.sum, .int .i64 h.long, .slice none 0 0, .slice none 0 0] from ((((((KB2.out.put 0 _).put 1 _).put 2 _).put 3 _).put 4 _).put 5 _).put 6 _)
    have BW3 := Lib.hid (show Below w.heap.size w (((((((w2.setCell ⟨w.heap.size + 1, 0, none⟩ (.int .i64 h.age)).setCell ⟨w.heap.size + 1, 1, none⟩ (.int .i64 h.kind)).setCell ⟨w.heap.size + 1, 2, none⟩ (.int .i64 h.id)).setCell ⟨w.heap.size + 1, 3, none⟩ (.int .i64 h.adv)).setCell ⟨w.heap.size + 1, 4, none⟩ (.int .i64 h.seq)).setCell ⟨w.heap.size + 1, 5, none⟩ (.int .i64 h.sum)).setCell ⟨w.heap.size + 1, 6, none⟩ (.int .i64 h.long)) from (((((((BW2.out.setCell (by simp) _).setCell (by simp) _).setCell (by simp) _).setCell (by simp) _).setCell (by simp) _).setCell (by simp) _).setCell (by simp) _))
    clear RD2 KA2 KB2 BW2 k0 k1 k2 k3 k4 k5 k6 k7 k8 f0 f1 f2 f3 f4 f5 f6 f7 f8
    generalize (((((((w2.setCell ⟨w.heap.size + 1, 0, none⟩ (.int .i64 h.age)).setCell ⟨w.heap.size + 1, 1, none⟩ (.int .i64 h.kind)).setCell ⟨w.heap.size + 1, 2, none⟩ (.int .i64 h.id)).setCell ⟨w.heap.size + 1, 3, none⟩ (.int .i64 h.adv)).setCell ⟨w.heap.size + 1, 4, none⟩ (.int .i64 h.seq)).setCell ⟨w.heap.size + 1, 5, none⟩ (.int .i64 h.sum)).setCell ⟨w.heap.size + 1, 6, none⟩ (.int .i64 h.long)) = w3 at *
    obtain ⟨k0, k1, k2, k3, k4, k5, k6, k7, k8⟩ := KB3.out.nine
    have hlb3 := KB3.out.lt
    have hrb3 := KA3.out.lt
    by_cases hk1 : h.kind = 1
    · have hd : (h.kind == 1) = true := by simp [hk1]
      have HK1 := Lib.hid hk1
      clear hk1
      go_wp2_with fail
      by_cases hlk : 4 ≤ (l.drop 20).length ∧ ((l.drop 20).length : Int) = 4 + 12 * wordAt (l.drop 20) 0 4
      · have HOKL := Lib.hid (show okBody l = zerosB (l.drop 20) (many (l.drop 20)) by
          unfold okBody okLinks
          rw [HH.out, if_pos HK1.out, decide_eq_true hlk.1, decide_eq_true hlk.2]
          rfl)
        have HTL := Lib.hid (show tL l = lks (l.drop 20) (many (l.drop 20)) by unfold tL; rw [HH.out, if_pos HK1.out])
        have HTM := Lib.hid (show tM l = [] by unfold tM; rw [HH.out, if_pos HK1.out])
        refine (links_any _ _ (l.drop 20) _ RD3.out (by have := HLEN.out; simp; omega) hlk.1 hlk.2).mono ?_
        rintro e4 w4 ⟨v4, rfl, ho4, hgr⟩
        clear hlk
        have KA4 := Lib.hid (KA3.out.grown hgr (by omega))
        have KB4 := Lib.hid (KB3.out.grown hgr (by omega))
        have BW4 := Lib.hid (below_grown BW3.out hgr (Nat.le_refl _) (by omega))
        have hsz4 := hgr.size
        clear hgr KA3 KB3 BW3 k0 k1 k2 k3 k4 k5 k6 k7 k8
        obtain ⟨k0, k1, k2, k3, k4, k5, k6, k7, k8⟩ := KB4.out.nine
        have f7 := KB4.out.frozen 7
        cases hz : zerosB (l.drop 20) (many (l.drop 20))
        · have HT := Lib.hid (show okTold l = false by unfold okTold; rw [HOK.out, HOKL.out, hz]; rfl)
          rw [hz, if_neg (by decide)] at ho4
          obtain ⟨A4, c4, rfl, -, -, -⟩ := lnk_of_own (L := []) (n := 0) ho4 rfl
          clear ho4 hz
          obtain ⟨a0, a1, a2, a3, a4, a5, a6, a7, a8⟩ := KA4.out.nine
          obtain ⟨g0, g1, g2, g3, g4, g5, g6, g7, g8⟩ := KA4.out.nineF
          go_wp2
          go_step3
          refine ⟨rfl, ?_⟩
          go_wp2
          refine bodyPost_ret (v := .tuple #[.agg #[.int .i64 0, .int .i64 0, .int .i64 0, .int .i64 0, .int .i64 0, .int .i64 0, .int .i64 0, .slice none 0 0, .slice none 0 0], .int .i64 4]) (by simp [results, Tryz.results107, go_sem, *]) rfl ?_
          rw [← HQ.out, HT.out]
          exact gotL_zero ((((((((((BW4.out.setCell (by simp) _).setCell (by simp) _).setCell (by simp) _).setCell (by simp) _).setCell (by simp) _).setCell (by simp) _).setCell (by simp) _).setCell (by simp) _).setCell (by simp) _).setCell (by simp) _)
        · have HTT := Lib.hid (show okTold l = rightB h (lks (l.drop 20) (many (l.drop 20))) [] by unfold okTold; rw [HOK.out, HOKL.out, hz, HH.out, HTL.out, HTM.out]; rfl)
          rw [hz, if_pos rfl] at ho4
          generalize hLL : lks (l.drop 20) (many (l.drop 20)) = LL at *
          obtain ⟨q, hq⟩ : ∃ q, LL.length = q := ⟨_, rfl⟩
          rw [hq] at ho4
          have OW4 := Lib.hid ho4
          have HLQ := Lib.hid hq
          clear ho4 hLL hq hz
          have hlb : w.heap.size + 1 < w3.heap.size := hlb3
          have OW5 := Lib.hid (own_grown OW4.out (grown_setCell w4 ⟨w.heap.size + 1, 7, none⟩ v4) hlb)
          have KA5 := Lib.hid (KA4.out.far (p := ⟨w.heap.size + 1, 7, none⟩) (by simp) v4)
          have KB5 := Lib.hid (show Blk (w4.setCell ⟨w.heap.size + 1, 7, none⟩ v4) (w.heap.size + 1) 47 #[.int .i64 h.age, .int .i64 h.kind, .int .i64 h.id, .int .i64 h.adv, .int .i64 h.seq, .int .i64 h.sum, .int .i64 h.long, v4, .slice none 0 0] from KB4.out.put 7 _)
          have BW5 := Lib.hid (BW4.out.setCell (p := ⟨w.heap.size + 1, 7, none⟩) (by simp) v4)
          have hsz5 := BW5.out.size
          obtain ⟨A5, c5, rfl, hc5, hm5, hl5⟩ := lnk_of_own OW5.out HLQ.out
          have HL5 := Lib.hid hl5
          clear hl5 KA4 KB4 BW4 OW4
          go_wp2_with fail
          clear k0 k1 k2 k3 k4 k5 k6 k7 k8 f7
          generalize w4.setCell ⟨w.heap.size + 1, 7, none⟩ (.slice A5 q c5) = w5 at *
          refine (right_any h LL [] A5 none q c5 0 0 w5.heap.size _ HL5.out Row.nil (Nat.le_refl _) (by omega) (by unfold maxLen; omega)).mono ?_
          rintro e6 w6 ⟨rfl, hb6⟩
          have KA6 := Lib.hid (KA5.out.below hb6 KA5.out.lt)
          have KB6 := Lib.hid (KB5.out.below hb6 KB5.out.lt)
          have BW6 := Lib.hid (BW5.out.trans (hb6.mono hsz5))
          have OW6 := Lib.hid (own_below2 OW5.out hb6)
          clear hb6 KA5 KB5 BW5 OW5 HL5
          obtain ⟨k0, k1, k2, k3, k4, k5, k6, k7, k8⟩ := KB6.out.nine
          obtain ⟨a0, a1, a2, a3, a4, a5, a6, a7, a8⟩ := KA6.out.nine
          obtain ⟨g0, g1, g2, g3, g4, g5, g6, g7, g8⟩ := KA6.out.nineF
          cases hrt : rightB h LL []
          · have HT := Lib.hid (show okTold l = false by rw [HTT.out, hrt])
            go_wp2
            go_step3
            refine ⟨rfl, ?_⟩
            go_wp2
            refine bodyPost_ret (v := .tuple #[.agg #[.int .i64 0, .int .i64 0, .int .i64 0, .int .i64 0, .int .i64 0, .int .i64 0, .int .i64 0, .slice none 0 0, .slice none 0 0], .int .i64 4]) (by simp [results, Tryz.results107, go_sem, *]) rfl ?_
            rw [← HQ.out, HT.out]
            exact gotL_zero (((((((((BW6.out.setCell (by simp) _).setCell (by simp) _).setCell (by simp) _).setCell (by simp) _).setCell (by simp) _).setCell (by simp) _).setCell (by simp) _).setCell (by simp) _).setCell (by simp) _)
          · have HT := Lib.hid (show okTold l = true by rw [HTT.out, hrt])
            go_wp2
            refine bodyPost_ret (v := .tuple #[.agg #[.int .i64 h.age, .int .i64 h.kind, .int .i64 h.id, .int .i64 h.adv, .int .i64 h.seq, .int .i64 h.sum, .int .i64 h.long, .slice A5 q c5, .slice none 0 0], .int .i64 0]) (by simp [results, Tryz.results107, go_sem, *]) rfl ?_
            rw [← HQ.out, HT.out]
            rw [if_pos rfl, if_pos rfl, if_pos rfl, if_pos rfl, HH.out, HTL.out, HTM.out]
            exact gotL_links (own_set (own_set (own_set (own_set (own_set (own_set (own_set (own_set (own_set OW6.out _ _ hrb3) _ _ hrb3) _ _ hrb3) _ _ hrb3) _ _ hrb3) _ _ hrb3) _ _ hrb3) _ _ hrb3) _ _ hrb3) HLQ.out hrb3 (((((((((BW6.out.setCell (by simp) _).setCell (by simp) _).setCell (by simp) _).setCell (by simp) _).setCell (by simp) _).setCell (by simp) _).setCell (by simp) _).setCell (by simp) _).setCell (by simp) _)
      · have HT := Lib.hid (show okTold l = false by
          unfold okTold okBody okLinks
          rw [HH.out, if_pos HK1.out, HOK.out]
          rw [show (decide (4 ≤ (l.drop 20).length) && (decide (((l.drop 20).length : Int) = 4 + 12 * wordAt (l.drop 20) 0 4) && zerosB (l.drop 20) (many (l.drop 20)))) = false by
            by_cases h4 : 4 ≤ (l.drop 20).length
            · rw [decide_eq_true h4, decide_eq_false (fun e => hlk ⟨h4, e⟩)]; rfl
            · rw [decide_eq_false h4]; rfl]
          rfl)
        refine (links_no _ _ (l.drop 20) _ RD3.out (by have := HLEN.out; simp; omega) hlk).mono ?_
        rintro e4 w4 ⟨v4, rfl, ho4, hgr⟩
        obtain ⟨A4, c4, rfl, -, -, -⟩ := lnk_of_own (L := []) (n := 0) ho4 rfl
        clear hlk ho4
        have KA4 := Lib.hid (KA3.out.grown hgr (by omega))
        have KB4 := Lib.hid (KB3.out.grown hgr (by omega))
        have BW4 := Lib.hid (below_grown BW3.out hgr (Nat.le_refl _) (by omega))
        have hsz4 := hgr.size
        clear hgr KA3 KB3 BW3 k0 k1 k2 k3 k4 k5 k6 k7 k8
        obtain ⟨k0, k1, k2, k3, k4, k5, k6, k7, k8⟩ := KB4.out.nine
        have f7 := KB4.out.frozen 7
        obtain ⟨a0, a1, a2, a3, a4, a5, a6, a7, a8⟩ := KA4.out.nine
        obtain ⟨g0, g1, g2, g3, g4, g5, g6, g7, g8⟩ := KA4.out.nineF
        go_wp2
        go_step3
        refine ⟨rfl, ?_⟩
        go_wp2
        refine bodyPost_ret (v := .tuple #[.agg #[.int .i64 0, .int .i64 0, .int .i64 0, .int .i64 0, .int .i64 0, .int .i64 0, .int .i64 0, .slice none 0 0, .slice none 0 0], .int .i64 4]) (by simp [results, Tryz.results107, go_sem, *]) rfl ?_
        rw [← HQ.out, HT.out]
        exact gotL_zero ((((((((((BW4.out.setCell (by simp) _).setCell (by simp) _).setCell (by simp) _).setCell (by simp) _).setCell (by simp) _).setCell (by simp) _).setCell (by simp) _).setCell (by simp) _).setCell (by simp) _).setCell (by simp) _)
    · have hd : (h.kind == 1) = false := by simp [hk1]
      have HK1 := Lib.hid hk1
      clear hk1
      go_wp2_with fail
      have HTL := Lib.hid (show tL l = [] by unfold tL; rw [HH.out, if_neg HK1.out])
      have HTM := Lib.hid (show tM l = (words (l.drop 20) ((l.drop 20).length / 4)) by unfold tM; rw [HH.out, if_neg HK1.out])
      have HOKL := Lib.hid (show okBody l = decide ((l.drop 20).length % 4 = 0) by unfold okBody; rw [HH.out, if_neg HK1.out])
      refine (members_any _ _ (l.drop 20) _ RD3.out (by have := HLEN.out; simp; omega)).mono ?_
      rintro e4 w4 ⟨v4, rfl, ho4, hgr⟩
      generalize hMM : (words (l.drop 20) ((l.drop 20).length / 4)) = MM at *
      obtain ⟨q, hq⟩ : ∃ q, MM.length = q := ⟨_, rfl⟩
      rw [hq] at ho4
      have HLQ := Lib.hid hq
      clear hMM hq
      have KA4 := Lib.hid (KA3.out.grown hgr (by omega))
      have KB4 := Lib.hid (KB3.out.grown hgr (by omega))
      have BW4 := Lib.hid (below_grown BW3.out hgr (Nat.le_refl _) (by omega))
      have hsz4 := hgr.size
      clear hgr KA3 KB3 BW3 k0 k1 k2 k3 k4 k5 k6 k7 k8
      obtain ⟨k0, k1, k2, k3, k4, k5, k6, k7, k8⟩ := KB4.out.nine
      have f8 := KB4.out.frozen 8
      by_cases hz : (l.drop 20).length % 4 = 0
      · rw [decide_eq_true hz]
        have HTT := Lib.hid (show okTold l = rightB h [] MM by unfold okTold; rw [HOK.out, HOKL.out, decide_eq_true hz, HH.out, HTL.out, HTM.out]; rfl)
        have OW4 := Lib.hid ho4
        clear ho4 hz
        have hlb : w.heap.size + 1 < w3.heap.size := hlb3
        have OW5 := Lib.hid (own_grown OW4.out (grown_setCell w4 ⟨w.heap.size + 1, 8, none⟩ v4) hlb)
        have KA5 := Lib.hid (KA4.out.far (p := ⟨w.heap.size + 1, 8, none⟩) (by simp) v4)
        have KB5 := Lib.hid (show Blk (w4.setCell ⟨w.heap.size + 1, 8, none⟩ v4) (w.heap.size + 1) 47 #[.int .i64 h.age, .int .i64 h.kind, .int .i64 h.id, .int .i64 h.adv, .int .i64 h.seq, .int .i64 h.sum, .int .i64 h.long, .slice none 0 0, v4] from KB4.out.put 8 _)
        have BW5 := Lib.hid (BW4.out.setCell (p := ⟨w.heap.size + 1, 8, none⟩) (by simp) v4)
        have hsz5 := BW5.out.size
        obtain ⟨A5, c5, rfl, hc5, hm5, hl5⟩ := row_of_ints OW5.out HLQ.out
        have HL5 := Lib.hid hl5
        clear hl5 KA4 KB4 BW4 OW4
        go_wp2_with fail
        clear k0 k1 k2 k3 k4 k5 k6 k7 k8 f8
        generalize w4.setCell ⟨w.heap.size + 1, 8, none⟩ (.slice A5 q c5) = w5 at *
        refine (right_any h [] MM none A5 0 0 q c5 w5.heap.size _ Lnk.nil HL5.out (Nat.le_refl _) (by unfold maxLen; omega) (by omega)).mono ?_
        rintro e6 w6 ⟨rfl, hb6⟩
        have KA6 := Lib.hid (KA5.out.below hb6 KA5.out.lt)
        have KB6 := Lib.hid (KB5.out.below hb6 KB5.out.lt)
        have BW6 := Lib.hid (BW5.out.trans (hb6.mono hsz5))
        have OW6 := Lib.hid (own_below2 OW5.out hb6)
        clear hb6 KA5 KB5 BW5 OW5 HL5
        obtain ⟨k0, k1, k2, k3, k4, k5, k6, k7, k8⟩ := KB6.out.nine
        obtain ⟨a0, a1, a2, a3, a4, a5, a6, a7, a8⟩ := KA6.out.nine
        obtain ⟨g0, g1, g2, g3, g4, g5, g6, g7, g8⟩ := KA6.out.nineF
        cases hrt : rightB h [] MM
        · have HT := Lib.hid (show okTold l = false by rw [HTT.out, hrt])
          go_wp2
          go_step3
          refine ⟨rfl, ?_⟩
          go_wp2
          refine bodyPost_ret (v := .tuple #[.agg #[.int .i64 0, .int .i64 0, .int .i64 0, .int .i64 0, .int .i64 0, .int .i64 0, .int .i64 0, .slice none 0 0, .slice none 0 0], .int .i64 4]) (by simp [results, Tryz.results107, go_sem, *]) rfl ?_
          rw [← HQ.out, HT.out]
          exact gotL_zero (((((((((BW6.out.setCell (by simp) _).setCell (by simp) _).setCell (by simp) _).setCell (by simp) _).setCell (by simp) _).setCell (by simp) _).setCell (by simp) _).setCell (by simp) _).setCell (by simp) _)
        · have HT := Lib.hid (show okTold l = true by rw [HTT.out, hrt])
          go_wp2
          refine bodyPost_ret (v := .tuple #[.agg #[.int .i64 h.age, .int .i64 h.kind, .int .i64 h.id, .int .i64 h.adv, .int .i64 h.seq, .int .i64 h.sum, .int .i64 h.long, .slice none 0 0, .slice A5 q c5], .int .i64 0]) (by simp [results, Tryz.results107, go_sem, *]) rfl ?_
          rw [← HQ.out, HT.out]
          rw [if_pos rfl, if_pos rfl, if_pos rfl, if_pos rfl, HH.out, HTL.out, HTM.out]
          exact gotL_members (own_set (own_set (own_set (own_set (own_set (own_set (own_set (own_set (own_set OW6.out _ _ hrb3) _ _ hrb3) _ _ hrb3) _ _ hrb3) _ _ hrb3) _ _ hrb3) _ _ hrb3) _ _ hrb3) _ _ hrb3) HLQ.out hrb3 (((((((((BW6.out.setCell (by simp) _).setCell (by simp) _).setCell (by simp) _).setCell (by simp) _).setCell (by simp) _).setCell (by simp) _).setCell (by simp) _).setCell (by simp) _).setCell (by simp) _)
      · rw [decide_eq_false hz]
        have HT := Lib.hid (show okTold l = false by unfold okTold; rw [HOK.out, HOKL.out, decide_eq_false hz]; rfl)
        obtain ⟨A4, c4, rfl, -, -, -⟩ := row_of_ints ho4 HLQ.out
        clear ho4 hz
        obtain ⟨a0, a1, a2, a3, a4, a5, a6, a7, a8⟩ := KA4.out.nine
        obtain ⟨g0, g1, g2, g3, g4, g5, g6, g7, g8⟩ := KA4.out.nineF
        go_wp2
        go_step3
        refine ⟨rfl, ?_⟩
        go_wp2
        refine bodyPost_ret (v := .tuple #[.agg #[.int .i64 0, .int .i64 0, .int .i64 0, .int .i64 0, .int .i64 0, .int .i64 0, .int .i64 0, .slice none 0 0, .slice none 0 0], .int .i64 4]) (by simp [results, Tryz.results107, go_sem, *]) rfl ?_
        rw [← HQ.out, HT.out]
        exact gotL_zero ((((((((((BW4.out.setCell (by simp) _).setCell (by simp) _).setCell (by simp) _).setCell (by simp) _).setCell (by simp) _).setCell (by simp) _).setCell (by simp) _).setCell (by simp) _).setCell (by simp) _).setCell (by simp) _)
end Go.Proofs.YtekhgkkgmkodmaaGreat
