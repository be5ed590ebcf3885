/- The method hello of packet's reader: a Hello, to the end. Conditions: at most 2^20 bytes. -/
import Derived.Deep.RegionLaw
import Derived.Deep.RegionHeld3
import Derived.Maps.AppendAt
import Derived.Test.YtekhgkkgmkodmaaGreatJat
import Derived.Test.YtekhgkkgmkodmaaGreatJau
namespace Go.Proofs.YtekhgkkgmkodmaaGreat
open Go.RowKit

/-- append of one element that was laid out for it, to a row of the call's own, at a step of a region that draws. -/
theorem step_append_grow {ops : Array Oper} {o : Oper} {a : Act} {w : World} {K : Act → World → Prop} {Q : Exit → Act → World → Prop} {E : Prop} (hgd : o.guard = none) (s x : Operand) (t e : TypeId) (z : Value) (size bytes : Nat)
    (ht : Tryz.prog.underlying t = some (.slice e)) (hinfo : (Tryz.prog.info? e).map (fun i => (i.zero, i.size, i.bytes)) = some (some z, size, bytes)) (hzs : z.cells.size = size) (hsz : 0 < size) (hby : bytes ≤ 1024)
    (ho : o.op = .call { callee := .builtin .append, args := #[s, x], argTypes := #[t, t] }) (base : Nat) (v : Value) (n : Nat) (xs : List Value) (hs : a.eval s = v) (hown : w.ownsRow base e size v n xs)
    (b : Nat) (news : List Value) (hx : a.eval x = .slice (some ⟨b, 0, none⟩) 1 1) (hl : news.length = size) (hb : Blk w b e news.toArray) (h1 : ∀ u ∈ news, u.oneCell' = true) (hn : n ≤ 1048576) (hbase : base ≤ w.heap.size)
    (hK : ∀ v' w', Hid (w'.ownsRow base e size v' (n + 1) (xs ++ news)) → Hid (w.grownBy w' v.ownBlock) → Hid (v'.ownBlock = v.ownBlock ∨ v'.ownBlock = some w.heap.size) → K (a.put o.dst v') w') : if Region.wanted o (yielded ops a.tmps) = true then Oper.wp Tryz.prog o a w K Q else E := by
  have hw : Region.wanted o (yielded ops a.tmps) = true := by simp [Region.wanted, hgd]
  rw [if_pos hw]
  obtain ⟨i0, hi, hz0, hz1, hz2⟩ := info_parts hinfo
  have hnews : ∀ j u, news[j]? = some u → w.cell? ((⟨b, 0, none⟩ : Addr).add j) = some u := by
    intro j u hu
    rw [addr_add, hb.cell, Nat.zero_add, List.getElem?_toArray]
    exact hu
  have hbb : (n + 1) * bytes ≤ 1048577 * 1024 := Nat.mul_le_mul (by omega) hby
  obtain ⟨v', w', hrun, h2, h3, h4⟩ := run_append_own_at (P := Tryz.prog) w base t o.type e i0 z size bytes ht hi hz0 hz1 hz2 hzs hsz v n xs hown ⟨b, 0, none⟩ 1 1 news (by omega) hnews h1 (by unfold maxLen; omega) (by omega) hbase
  unfold Oper.wp execOp
  simp only [ho, resolve, invoke, builtin, Sem.run_bind, Sem.run_pure, Result.andThen_ok, List.map_toArray, List.map_cons, List.map_nil, hs, hx, hrun]
  exact hK v' w' h2 h3 h4.2
theorem RdE.own {w w' : World} {base b g a n size : Nat} {l : List Int} {e : Int} {v : Value} {t : TypeId} {xs : List Value} (h : RdE w base g l a e) (ho : w.ownsRow b t size v n xs) (hg : w.grownBy w' v.ownBlock) (hb : g < b) (hb2 : b ≤ w.heap.size) : RdE w' base g l a e :=
  h.below ((Below.refl b w).grown hg hb2 (fun k hk => (ho.lt k hk).1)) hb
theorem RdE.pos {w : World} {base g a : Nat} {l : List Int} {e : Int} (h : RdE w base g l a e) : w.cell? ⟨g, 1, none⟩ = some (.int .i64 a) := by
  obtain ⟨d, c, h1, _⟩ := h
  exact h1.cell 1
/-- Where a reader stands. -/
def posOf (w : World) (g : Nat) : Nat := match w.cell? ⟨g, 1, none⟩ with
  | some (.int _ n) => n.toNat
  | _ => 0
theorem RdE.posOf {w : World} {base g a : Nat} {l : List Int} {e : Int} (h : RdE w base g l a e) : posOf w g = a := by
  unfold Go.Proofs.YtekhgkkgmkodmaaGreat.posOf
  rw [h.pos]
  rfl
theorem intCell_one (y : Int) : ∀ u ∈ [Value.int .i64 y], u.oneCell' = true := by
  intro u hu
  simp at hu
  subst hu
  rfl
theorem Rd.drew {w : World} {base g a : Nat} {l : List Int} (h : Rd w base g l a) : Rd w.drew base g l a := h

/-- What hello leaves. -/
def HelloR (w : World) (g q : Nat) (kd sd : Int) (wr0 : Bool) (l : List Int) (x : Ending) (w' : World) : Prop :=
  ∃ (x0 y x1 x2 x3 x4 : Int) (a1 a2 a3 a4 a5 a6 : Nat) (e1 e2 e3 e4 e5 e6 : Int) (A : Option Addr) (k c : Nat), x = .returned (.tuple #[]) ∧ NxP l 24 0 2 x0 a1 e1 ∧ NxP l a1 e1 1 y a2 e2 ∧ NxP l a2 e2 1 x1 a3 e3 ∧ NxP l a3 e3 4 x2 a4 e4 ∧ NxP l a4 e4 4 x3 a5 e5 ∧ NxP l a5 e5 4 x4 a6 e6 ∧
    k = (l.length - a6) / 4 ∧ w'.ownsRow w.heap.size 3 1 (.slice A k c) k ((wordsAt l a6 k).map (Value.int .i64)) ∧ RSE w' g q ⟨kd, sd, x0, x2, x1, x3, x4, ⟨A, k, c⟩, false, false, false, 0, ⟨none, 0, 0⟩, ⟨none, 0, 0⟩, ⟨none, 0, 0⟩, ⟨none, 0, 0⟩⟩ (wr0 || decide (y ≠ 0)) 0 l (a6 + 4 * k) e6 ∧ Below g w w'
set_option maxRecDepth 8000 in
set_option maxHeartbeats 16000000 in
theorem hello_any (g q : Nat) (kd sd : Int) (wr0 : Bool) (l : List Int) (w : World) (h : RS w g q (zeroP kd sd) wr0 0 l 24) (hl : l.length ≤ 1048576) :
    Calls Tryz.prog 89 #[.pointer (some ⟨g, 0, none⟩)] w (HelloR w g q kd sd wr0 l) := by
  generalize hQ : HelloR w g q kd sd wr0 l = Q
  have HQ := Lib.hid hQ
  obtain ⟨hb, hrd⟩ := h
  have KB0 := Lib.hid (show Blk w g 95 #[.pointer (some ⟨q, 0, none⟩), .int .i64 kd, .int .i64 sd, .int .i64 0, .int .i64 0, .int .i64 0, .int .i64 0, .int .i64 0, .slice none 0 0, .bool false, .bool false, .bool false, .int .i64 0, .slice none 0 0, .slice none 0 0, .slice none 0 0, .slice none 0 0, .bool wr0, .int .i64 0] from hb)
  have RD0 := Lib.hid hrd.toE
  have B0 := Lib.hid (Below.refl g w)
  have hgq : g < q := by have := hrd.lt.2; omega
  have hgw : g < w.heap.size := hb.lt
  have hqw : q < w.heap.size := hrd.lt.1
  clear hQ hb hrd
  obtain ⟨a0, a1, a2, a3, a4, a5, a6, a7, a8, a9, a10, a11, a12, a13, a14, a15, a16, a17, a18⟩ := KB0.out.nt
  go_enter Tryz.func89, Tryz.ntmps89
  go_wp2_with fail
  refine (rde_num (g + 1) q 24 2 0 2 l _ RD0.out rfl).mono ?_
  rintro e1 w1 ⟨x0, p1, z1, rfl, hrd, hgr, hn, -, -⟩
  have N1 := Lib.hid hn
  have KB1 := Lib.hid (KB0.out.grown hgr (by omega))
  have RD1 := Lib.hid hrd
  have B1 := Lib.hid (B0.out.trans (grown_below hgr (by omega) (by have := B0.out.size; omega)))
  clear hn hrd hgr KB0 RD0 B0 a0 a1 a2 a3 a4 a5 a6 a7 a8 a9 a10 a11 a12 a13 a14 a15 a16 a17 a18
  obtain ⟨a0, a1, a2, a3, a4, a5, a6, a7, a8, a9, a10, a11, a12, a13, a14, a15, a16, a17, a18⟩ := KB1.out.nt
  have f3 := KB1.out.frozen 3
  have KB2 := Lib.hid (show Blk (w1.setCell ⟨g, 3, none⟩ (.int .i64 x0)) g 95 #[.pointer (some ⟨q, 0, none⟩), .int .i64 kd, .int .i64 sd, .int .i64 x0, .int .i64 0, .int .i64 0, .int .i64 0, .int .i64 0, .slice none 0 0, .bool false, .bool false, .bool false, .int .i64 0, .slice none 0 0, .slice none 0 0, .slice none 0 0, .slice none 0 0, .bool wr0, .int .i64 0] from (KB1.out.put 3 (.int .i64 x0)))
  have RD2 := Lib.hid (show RdE (w1.setCell ⟨g, 3, none⟩ (.int .i64 x0)) (g + 1) q l p1 z1 from (RD1.out.far (p := ⟨g, 3, none⟩) (.inl (by simp)) (.int .i64 x0)))
  have B2 := Lib.hid (show Below g w (w1.setCell ⟨g, 3, none⟩ (.int .i64 x0)) from (B1.out.setCell (p := ⟨g, 3, none⟩) (by simp) (.int .i64 x0)))
  clear KB1 RD1 B1
  go_wp2_with fail
  refine (zero_any ⟨kd, sd, x0, 0, 0, 0, 0, ⟨none, 0, 0⟩, false, false, false, 0, ⟨none, 0, 0⟩, ⟨none, 0, 0⟩, ⟨none, 0, 0⟩, ⟨none, 0, 0⟩⟩ wr0 0 g q p1 1 z1 1 l _ ⟨KB2.out, RD2.out⟩ rfl).mono ?_
  rintro e3 w3 ⟨y, p3, z3, rfl, ⟨hkb, hrd⟩, hb, hn⟩
  obtain ⟨u3, hu3⟩ : ∃ u, (wr0 || decide (y ≠ 0)) = u := ⟨_, rfl⟩
  rw [hu3] at hkb
  have HU3 := Lib.hid hu3
  have N3 := Lib.hid hn
  have KB3 := Lib.hid (show Blk w3 g 95 #[.pointer (some ⟨q, 0, none⟩), .int .i64 kd, .int .i64 sd, .int .i64 x0, .int .i64 0, .int .i64 0, .int .i64 0, .int .i64 0, .slice none 0 0, .bool false, .bool false, .bool false, .int .i64 0, .slice none 0 0, .slice none 0 0, .slice none 0 0, .slice none 0 0, .bool u3, .int .i64 0] from hkb)
  have RD3 := Lib.hid hrd
  have B3 := Lib.hid (B2.out.trans hb)
  clear hn hkb hrd hb hu3 KB2 RD2 B2 a0 a1 a2 a3 a4 a5 a6 a7 a8 a9 a10 a11 a12 a13 a14 a15 a16 a17 a18 f3
  obtain ⟨a0, a1, a2, a3, a4, a5, a6, a7, a8, a9, a10, a11, a12, a13, a14, a15, a16, a17, a18⟩ := KB3.out.nt
  go_wp2_with fail
  refine (rde_num (g + 1) q p3 1 z3 1 l _ RD3.out rfl).mono ?_
  rintro e4 w4 ⟨x1, p4, z4, rfl, hrd, hgr, hn, -, -⟩
  have N4 := Lib.hid hn
  have KB4 := Lib.hid (KB3.out.grown hgr (by omega))
  have RD4 := Lib.hid hrd
  have B4 := Lib.hid (B3.out.trans (grown_below hgr (by omega) (by have := B3.out.size; omega)))
  clear hn hrd hgr KB3 RD3 B3 a0 a1 a2 a3 a4 a5 a6 a7 a8 a9 a10 a11 a12 a13 a14 a15 a16 a17 a18
  obtain ⟨a0, a1, a2, a3, a4, a5, a6, a7, a8, a9, a10, a11, a12, a13, a14, a15, a16, a17, a18⟩ := KB4.out.nt
  have f5 := KB4.out.frozen 5
  have KB5 := Lib.hid (show Blk (w4.setCell ⟨g, 5, none⟩ (.int .i64 x1)) g 95 #[.pointer (some ⟨q, 0, none⟩), .int .i64 kd, .int .i64 sd, .int .i64 x0, .int .i64 0, .int .i64 x1, .int .i64 0, .int .i64 0, .slice none 0 0, .bool false, .bool false, .bool false, .int .i64 0, .slice none 0 0, .slice none 0 0, .slice none 0 0, .slice none 0 0, .bool u3, .int .i64 0] from (KB4.out.put 5 (.int .i64 x1)))
  have RD5 := Lib.hid (show RdE (w4.setCell ⟨g, 5, none⟩ (.int .i64 x1)) (g + 1) q l p4 z4 from (RD4.out.far (p := ⟨g, 5, none⟩) (.inl (by simp)) (.int .i64 x1)))
  have B5 := Lib.hid (show Below g w (w4.setCell ⟨g, 5, none⟩ (.int .i64 x1)) from (B4.out.setCell (p := ⟨g, 5, none⟩) (by simp) (.int .i64 x1)))
  clear KB4 RD4 B4
  go_wp2_with fail
  refine (rde_num (g + 1) q p4 4 z4 4 l _ RD5.out rfl).mono ?_
  rintro e6 w6 ⟨x2, p6, z6, rfl, hrd, hgr, hn, -, -⟩
  have N6 := Lib.hid hn
  have KB6 := Lib.hid (KB5.out.grown hgr (by omega))
  have RD6 := Lib.hid hrd
  have B6 := Lib.hid (B5.out.trans (grown_below hgr (by omega) (by have := B5.out.size; omega)))
  clear hn hrd hgr KB5 RD5 B5 a0 a1 a2 a3 a4 a5 a6 a7 a8 a9 a10 a11 a12 a13 a14 a15 a16 a17 a18 f5
  obtain ⟨a0, a1, a2, a3, a4, a5, a6, a7, a8, a9, a10, a11, a12, a13, a14, a15, a16, a17, a18⟩ := KB6.out.nt
  have f4 := KB6.out.frozen 4
  have KB7 := Lib.hid (show Blk (w6.setCell ⟨g, 4, none⟩ (.int .i64 x2)) g 95 #[.pointer (some ⟨q, 0, none⟩), .int .i64 kd, .int .i64 sd, .int .i64 x0, .int .i64 x2, .int .i64 x1, .int .i64 0, .int .i64 0, .slice none 0 0, .bool false, .bool false, .bool false, .int .i64 0, .slice none 0 0, .slice none 0 0, .slice none 0 0, .slice none 0 0, .bool u3, .int .i64 0] from (KB6.out.put 4 (.int .i64 x2)))
  have RD7 := Lib.hid (show RdE (w6.setCell ⟨g, 4, none⟩ (.int .i64 x2)) (g + 1) q l p6 z6 from (RD6.out.far (p := ⟨g, 4, none⟩) (.inl (by simp)) (.int .i64 x2)))
  have B7 := Lib.hid (show Below g w (w6.setCell ⟨g, 4, none⟩ (.int .i64 x2)) from (B6.out.setCell (p := ⟨g, 4, none⟩) (by simp) (.int .i64 x2)))
  clear KB6 RD6 B6
  go_upto_region 5 with fail
  generalize (w6.setCell ⟨g, 4, none⟩ (.int .i64 x2)) = wz at *
  obtain ⟨a0, a1, a2, a3, a4, a5, a6, a7, a8, a9, a10, a11, a12, a13, a14, a15, a16, a17, a18⟩ := KB7.out.nt
  have f6 := KB7.out.frozen 6
  have f7 := KB7.out.frozen 7
  have RX := Lib.hid (show RdE wz.drew (g + 1) q l p6 z6 from RD7.out)
  have KX := Lib.hid (Blk.drew KB7.out)
  have BX := Lib.hid (show Below g w wz.drew from below_drewN B7.out 1)
  have hzs := BX.out.size
  obtain ⟨d0, d1, d2, d3, d4, d5, d6, d7, d8, d9, d10, d11, d12, d13, d14, d15, d16, d17, d18⟩ := KX.out.nt
  clear a0 a1 a2 a3 a4 a5 a6 a7 a8 a9 a10 a11 a12 a13 a14 a15 a16 a17 a18
  go_region_with (first
    | (go_at_call 87; refine (rde_num (g + 1) q px 4 zx 4 l _ RY.out rfl).mono ?_; rintro ey wy ⟨x4, py, zy, rfl, hrdy, hgry, hny, -, -⟩; have NY := Lib.hid hny; have BY := Lib.hid (show Below g w wy from BXb.out.trans (grown_below hgry (by omega) (by have := BXb.out.size; omega))); have RE := Lib.hid hrdy; have KY := Lib.hid (KXb.out.grown hgry (by omega)); clear hny hrdy hgry; obtain ⟨a0, a1, a2, a3, a4, a5, a6, a7, a8, a9, a10, a11, a12, a13, a14, a15, a16, a17, a18⟩ := KY.out.nt; have f6 := KY.out.frozen 6; have f7 := KY.out.frozen 7)
    | (go_at_call 87; refine (rde_num (g + 1) q p6 4 z6 4 l _ RX.out rfl).mono ?_; rintro ex wx ⟨x3, px, zx, rfl, hrdx, hgrx, hnx, -, -⟩; have NX := Lib.hid hnx; have BXb := Lib.hid (show Below g w wx from BX.out.trans (grown_below hgrx (by omega) (by have := BX.out.size; omega))); have RY := Lib.hid hrdx; have KXb := Lib.hid (KX.out.grown hgrx (by omega)); clear hnx hrdx hgrx; obtain ⟨a0, a1, a2, a3, a4, a5, a6, a7, a8, a9, a10, a11, a12, a13, a14, a15, a16, a17, a18⟩ := KXb.out.nt))
  all_goals
    have KBf := Lib.hid (show Blk ((wy.setCell ⟨g, 6, none⟩ (.int .i64 x3)).setCell ⟨g, 7, none⟩ (.int .i64 x4)) g 95 #[.pointer (some ⟨q, 0, none⟩), .int .i64 kd, .int .i64 sd, .int .i64 x0, .int .i64 x2, .int .i64 x1, .int .i64 x3, .int .i64 x4, .slice none 0 0, .bool false, .bool false, .bool false, .int .i64 0, .slice none 0 0, .slice none 0 0, .slice none 0 0, .slice none 0 0, .bool u3, .int .i64 0] from (KY.out.put 6 (.int .i64 x3)).put 7 (.int .i64 x4))
    have RDf := Lib.hid (show RdE ((wy.setCell ⟨g, 6, none⟩ (.int .i64 x3)).setCell ⟨g, 7, none⟩ (.int .i64 x4)) (g + 1) q l py zy from (RE.out.far (p := ⟨g, 6, none⟩) (.inl (by simp)) (.int .i64 x3)).far (p := ⟨g, 7, none⟩) (.inl (by simp)) (.int .i64 x4))
    have Bf := Lib.hid (show Below g w ((wy.setCell ⟨g, 6, none⟩ (.int .i64 x3)).setCell ⟨g, 7, none⟩ (.int .i64 x4)) from (BY.out.setCell (p := ⟨g, 6, none⟩) (by simp) (.int .i64 x3)).setCell (p := ⟨g, 7, none⟩) (by simp) (.int .i64 x4))
    generalize ((wy.setCell ⟨g, 6, none⟩ (.int .i64 x3)).setCell ⟨g, 7, none⟩ (.int .i64 x4)) = wf at *
    clear a0 a1 a2 a3 a4 a5 a6 a7 a8 a9 a10 a11 a12 a13 a14 a15 a16 a17 a18 f6 f7 KX KY KXb RX RY RE BX BXb BY
    obtain ⟨a0, a1, a2, a3, a4, a5, a6, a7, a8, a9, a10, a11, a12, a13, a14, a15, a16, a17, a18⟩ := KBf.out.nt
    have hfs := Bf.out.size
    go_wp2_with fail
    go_loopw [] (fun W => ∃ (A : Option Addr) (k c : Nat), Hid (py + 4 * k ≤ l.length) ∧ Hid (Blk W g 95 #[.pointer (some ⟨q, 0, none⟩), .int .i64 kd, .int .i64 sd, .int .i64 x0, .int .i64 x2, .int .i64 x1, .int .i64 x3, .int .i64 x4, .slice A k c, .bool false, .bool false, .bool false, .int .i64 0, .slice none 0 0, .slice none 0 0, .slice none 0 0, .slice none 0 0, .bool u3, .int .i64 0]) ∧ Hid (RdE W (g + 1) q l (py + 4 * k) zy) ∧ Hid (W.ownsRow w.heap.size 3 1 (.slice A k c) k ((wordsAt l py k).map (Value.int .i64))) ∧ Hid (Below g w W)) (fun W => l.length - posOf W q)
    case atStart =>
      exact ⟨none, 0, 0, Lib.hid RDf.out.at, KBf, RDf, Lib.hid (World.ownsRow_nil _ _ _ _), Bf⟩
    case round =>
      clear a0 a1 a2 a3 a4 a5 a6 a7 a8 a9 a10 a11 a12 a13 a14 a15 a16 a17 a18
      obtain ⟨A, k, c, hk, KB, RD, OW, BW⟩ := hrel
      obtain ⟨a0, a1, a2, a3, a4, a5, a6, a7, a8, a9, a10, a11, a12, a13, a14, a15, a16, a17, a18⟩ := KB.out.nt
      go_wp2_with fail
      refine (rde_left (g + 1) q _ zy l _ RD.out).mono ?_
      rintro el wl ⟨rfl, dl, rfl⟩
      clear a0 a1 a2 a3 a4 a5 a6 a7 a8 a9 a10 a11 a12 a13 a14 a15 a16 a17 a18
      have KB1 := Lib.hid (KB.out.drewN dl)
      have RD1 := Lib.hid (show RdE (wr.drewN dl) (g + 1) q l (py + 4 * k) zy from RD.out)
      have OW1 := Lib.hid (show (wr.drewN dl).ownsRow w.heap.size 3 1 (.slice A k c) k ((wordsAt l py k).map (Value.int .i64)) from OW.out)
      have B1 := Lib.hid (below_drewN BW.out dl)
      have HPS := Lib.hid (show posOf wr q = py + 4 * k from RD.out.posOf)
      clear KB RD OW BW
      generalize wr.drewN dl = w1 at *
      have hs1 := B1.out.size
      have hkl := hk.out
      obtain ⟨r, hr⟩ : ∃ r, l.length - (py + 4 * k) = r := ⟨_, rfl⟩
      rw [hr]
      obtain ⟨a0, a1, a2, a3, a4, a5, a6, a7, a8, a9, a10, a11, a12, a13, a14, a15, a16, a17, a18⟩ := KB1.out.nt
      by_cases h4 : 4 ≤ r
      · obtain rfl : zy = 0 := by
          rcases RD1.out.is with he | ⟨_, hlt⟩
          · exact he
          · omega
        have h4' : (4 : Int) ≤ r := by omega
        have RX := Lib.hid (RD1.out.ok.drew)
        have OX := Lib.hid (show w1.drew.ownsRow w.heap.size 3 1 (.slice A k c) k ((wordsAt l py k).map (Value.int .i64)) from OW1.out)
        have KX := Lib.hid (Blk.drew KB1.out)
        have BX := Lib.hid (show Below g w w1.drew from below_drewN B1.out 1)
        have hal : py + 4 * k + 4 ≤ l.length := by omega
        generalize hx : wordAt l (py + 4 * k) 4 = y4 at *
        have HX := Lib.hid hx
        clear hx
        obtain ⟨d0, d1, d2, d3, d4, d5, d6, d7, d8, d9, d10, d11, d12, d13, d14, d15, d16, d17, d18⟩ := KX.out.nt
        go_upto_region 7 with fail
        go_region_law (first
          | (refine step_append_grow (by rfl) (.tmp 59) (.tmp 65) 22 3 (.int .i64 0) 1 8 Tryz.underlying22 Tryz.info3 rfl (by decide) (by decide) (by rfl) w.heap.size (.slice A k c) k _ (by rfl) (OY.out.alloc _) wy.heap.size [.int .i64 y4] (by rfl) rfl (Blk.new wy 3 #[.int .i64 y4]) (intCell_one y4) HKM.out HSZ.out ?_; intro v' w' ho' hg' ha'; obtain ⟨A', c', rfl⟩ := own_slice ho'.out; have BK := Lib.hid (own_keeps (OY.out.alloc _) hg'.out HSZ.out); have KN := Lib.hid ((KY.out.alloc _).below BK.out hgw); have RN := Lib.hid ((RY.out.alloc _).below BK.out hqw); have BN := Lib.hid ((BY.out.alloc HGY.out _).trans (BK.out.mono (Nat.le_of_lt hgw))); obtain ⟨-, -, -, -, -, -, -, -, c8, -, -, -, -, -, -, -, -, -, -⟩ := KN.out.nt; have f8 := KN.out.frozen 8)
          | (go_simp; go_at_call 87; refine (rd_num (g + 1) q (py + 4 * k) 4 4 l _ RX.out rfl hal).mono ?_; rintro ey wy ⟨rfl, hrdy, hgry⟩; rw [HX.out]; have RY := Lib.hid hrdy; have KY := Lib.hid (KX.out.grown hgry (by omega)); have OY := Lib.hid (own_grown OX.out hgry hqw); have BY := Lib.hid (BX.out.trans (grown_below hgry (by omega) (by have := BX.out.size; omega))); clear hrdy hgry; have HKM := Lib.hid (show k ≤ 1048576 by omega); have HGY := Lib.hid (show g ≤ wy.heap.size by have := BY.out.size; omega); have HSZ := Lib.hid (show w.heap.size ≤ (wy.alloc (.cells #[.int .i64 y4] 3)).heap.size by have := BY.out.size; simp; omega); have ca8 := (KY.out.alloc (.cells #[.int .i64 y4] 3)).cell 8; simp only [List.getElem?_toArray, List.getElem?_cons_succ, List.getElem?_cons_zero] at ca8; obtain ⟨a0, a1, a2, a3, a4, a5, a6, a7, a8, a9, a10, a11, a12, a13, a14, a15, a16, a17, a18⟩ := KY.out.nt))
        all_goals
          have KF := Lib.hid (show Blk (w'.setCell ⟨g, 8, none⟩ (.slice A' (k + 1) c')) g 95 #[.pointer (some ⟨q, 0, none⟩), .int .i64 kd, .int .i64 sd, .int .i64 x0, .int .i64 x2, .int .i64 x1, .int .i64 x3, .int .i64 x4, .slice A' (k + 1) c', .bool false, .bool false, .bool false, .int .i64 0, .slice none 0 0, .slice none 0 0, .slice none 0 0, .slice none 0 0, .bool u3, .int .i64 0] from KN.out.put 8 (.slice A' (k + 1) c'))
          have OF := Lib.hid (own_set ho'.out ⟨g, 8, none⟩ (.slice A' (k + 1) c') hgw)
          have BF := Lib.hid (BN.out.setCell (p := ⟨g, 8, none⟩) (by simp) (.slice A' (k + 1) c'))
          have RF := Lib.hid (RN.out.far (p := ⟨g, 8, none⟩) (.inl (by simp)) (.slice A' (k + 1) c'))
          go_wp2
          go_roundw
          case rel =>
            refine ⟨A', k + 1, c', Lib.hid (by omega), KF, Lib.hid ?_, Lib.hid ?_, BF⟩
            · have h9 := RF.out.toE
              rw [show py + 4 * (k + 1) = py + 4 * k + 4 by omega]
              exact h9
            · have h9 := OF.out
              rw [wordsAt_succ, HX.out, List.map_append]
              exact h9
          case measure =>
            rw [HPS.out, RF.out.toE.posOf]
            omega
      · have h4' : ¬ (4 : Int) ≤ r := by omega
        go_wp2
        refine bodyPost_end (results_none rfl _ _ _) rfl ?_
        rw [← HQ.out]
        refine ⟨x0, y, x1, x2, x3, x4, p1, p3, p4, p6, px, py, z1, z3, z4, z6, zx, zy, A, k, c, rfl, N1.out, N3.out, N4.out, N6.out, NX.out, NY.out, by omega, OW1.out, ⟨?_, RD1.out⟩, B1.out⟩
        rw [HU3.out]
        exact KB1.out
end Go.Proofs.YtekhgkkgmkodmaaGreat
