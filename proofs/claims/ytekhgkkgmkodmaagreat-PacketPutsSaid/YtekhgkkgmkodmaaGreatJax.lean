/- The method update of packet's reader: descriptions. Conditions: at most 2^20 bytes. -/
import Derived.Test.YtekhgkkgmkodmaaGreatJaw
import Derived.Test.YtekhgkkgmkodmaaGreatJav
namespace Go.Proofs.YtekhgkkgmkodmaaGreat
open Go.RowKit

theorem Tryz.infoLa : (Tryz.prog.info? 47).map (fun i => (i.zero, i.size, i.bytes)) = some (some (.agg #[.int .i64 0, .int .i64 0, .int .i64 0, .int .i64 0, .int .i64 0, .int .i64 0, .int .i64 0, .slice none 0 0, .slice none 0 0]), 9, 104) := by kernel_rfl
/-- A description, and where its lists lie. -/
structure Lc where
  la : La
  s : Sl
  t : Sl
def lcRow (x : Lc) : List Value := [.int .i64 x.la.h.age, .int .i64 x.la.h.kind, .int .i64 x.la.h.id, .int .i64 x.la.h.adv, .int .i64 x.la.h.seq, .int .i64 x.la.h.sum, .int .i64 x.la.h.long, .slice x.s.a x.s.n x.s.c, .slice x.t.a x.t.n x.t.c]
/-- The cells of descriptions, one behind the other. -/
def lcCells : List Lc → List Value
  | [] => []
  | x :: l => lcRow x ++ lcCells l
theorem lcRow_one (x : Lc) : ∀ u ∈ lcRow x, u.oneCell' = true := by
  intro u hu
  simp [lcRow] at hu
  rcases hu with rfl | rfl | rfl | rfl | rfl | rfl | rfl | rfl | rfl <;> rfl
theorem lcCells_snoc (l : List Lc) (h : Lc) : lcCells (l ++ [h]) = lcCells l ++ lcRow h := by
  induction l with
  | nil => simp [lcCells]
  | cons x l ih => simp [lcCells, ih]
theorem lcCells_get (l : List Lc) (j i : Nat) (h : Lc) (hj : l[j]? = some h) (hi : i < 9) : (lcCells l)[j * 9 + i]? = (lcRow h)[i]? := by
  induction l generalizing j with
  | nil => simp at hj
  | cons x l ih =>
    have hx : (lcRow x).length = 9 := rfl
    cases j with
    | zero =>
      obtain rfl : x = h := by simpa using hj
      rw [lcCells, Nat.zero_mul, Nat.zero_add, List.getElem?_append_left (by omega)]
    | succ j =>
      have := ih j (by simpa using hj)
      rw [lcCells, List.getElem?_append_right (by omega), hx, show (j + 1) * 9 + i - 9 = j * 9 + i by omega]
      exact this
/-- A description's lists lie in blocks of their own, from block H on, which aren't block own. -/
def Kept (W : World) (H : Nat) (own : Option Nat) (x : Lc) : Prop :=
  Lnk W W.heap.size x.s.a x.s.n x.la.L ∧ Row .i64 W W.heap.size x.t.a x.t.n x.la.M ∧ x.s.n ≤ maxLen ∧ x.t.n ≤ maxLen ∧
  (∀ b o, x.s.a = some ⟨b, o, none⟩ → H ≤ b ∧ b < W.heap.size ∧ own ≠ some b) ∧ (∀ b o, x.t.a = some ⟨b, o, none⟩ → H ≤ b ∧ b < W.heap.size ∧ own ≠ some b)
theorem row_same {k : IntKind} {w w' : World} {B B' n : Nat} {A : Option Addr} {l : List Int} (h : Row k w B A n l) (hB : B ≤ B') (hk : ∀ b o, A = some ⟨b, o, none⟩ → ∀ p, w'.cell? ⟨b, p, none⟩ = w.cell? ⟨b, p, none⟩) : Row k w' B' A n l :=
  ⟨h.1, fun hn => by
    obtain ⟨b, o, e, hb, hc⟩ := h.2 hn
    exact ⟨b, o, e, by omega, fun j hj => (hk b o e _).trans (hc j hj)⟩⟩
theorem lnk_same {w w' : World} {B B' n : Nat} {A : Option Addr} {L : List Lk} (h : Lnk w B A n L) (hB : B ≤ B') (hk : ∀ b o, A = some ⟨b, o, none⟩ → ∀ p, w'.cell? ⟨b, p, none⟩ = w.cell? ⟨b, p, none⟩) : Lnk w' B' A n L :=
  ⟨h.1, fun hn => by
    obtain ⟨b, o, e, hb, hc⟩ := h.2 hn
    refine ⟨b, o, e, by omega, fun j hj => ?_⟩
    have h1 := hc j hj
    have hk' := hk b o e
    unfold LkAt at h1 ⊢
    simp only [hk']
    exact h1⟩
theorem Kept.move {w w' : World} {H : Nat} {own own' : Option Nat} {x : Lc} (h : Kept w H own x) (hs : w.heap.size ≤ w'.heap.size) (hk : ∀ b, H ≤ b → b < w.heap.size → own ≠ some b → (∀ p, w'.cell? ⟨b, p, none⟩ = w.cell? ⟨b, p, none⟩) ∧ own' ≠ some b) : Kept w' H own' x := by
  obtain ⟨h1, h2, h3, h4, h5, h6⟩ := h
  refine ⟨lnk_same h1 hs fun b o e => ?_, row_same h2 hs fun b o e => ?_, h3, h4, fun b o e => ?_, fun b o e => ?_⟩
  · obtain ⟨a1, a2, a3⟩ := h5 b o e
    exact (hk b a1 a2 a3).1
  · obtain ⟨a1, a2, a3⟩ := h6 b o e
    exact (hk b a1 a2 a3).1
  · obtain ⟨a1, a2, a3⟩ := h5 b o e
    exact ⟨a1, by omega, (hk b a1 a2 a3).2⟩
  · obtain ⟨a1, a2, a3⟩ := h6 b o e
    exact ⟨a1, by omega, (hk b a1 a2 a3).2⟩
theorem Kept.below {w w' : World} {H : Nat} {own : Option Nat} {x : Lc} (h : Kept w H own x) (hb : Below w.heap.size w w') : Kept w' H own x :=
  h.move hb.size fun _ _ h2 h3 => ⟨fun p => hb.cell (p := ⟨_, p, none⟩) h2, h3⟩
theorem Kept.own {w w' : World} {H : Nat} {own own' : Option Nat} {x : Lc} (h : Kept w H own x) (hg : w.grownBy w' own) (ho : own' = own ∨ own' = some w.heap.size) : Kept w' H own' x :=
  h.move hg.size fun b _ h2 h3 => ⟨fun _ => World.cell?_of_block (hg.block b h2 fun e => h3 e.symm), by
    rcases ho with rfl | rfl
    · exact h3
    · intro e
      injection e with e
      omega⟩
theorem Kept.far {w : World} {H : Nat} {own : Option Nat} {x : Lc} (h : Kept w H own x) {p : Addr} (hp : p.block < H) (u : Value) : Kept (w.setCell p u) H own x :=
  h.move (by simp [World.setCell]) fun b h1 _ h3 => ⟨fun _ => World.cell?_of_block (Below.heap_setCell w p u b (by omega)), h3⟩
theorem blk_own {w w' : World} {x : Nat} {t : TypeId} {cs : Array Value} {own : Option Nat} (h : Blk w x t cs) (hg : w.grownBy w' own) (hne : own ≠ some x) : Blk w' x t cs :=
  (hg.block x h.lt fun e => hne e.symm).trans h
theorem blk_no_u8 {w : World} {g o : Nat} {t : TypeId} {cs : Array Value} {x : Int} (h : Blk w g t cs) (hc : ∀ u ∈ cs, ∀ y, u ≠ Value.int .u8 y) : w.cell? ⟨g, o, none⟩ ≠ some (.int .u8 x) := by
  rw [h.cell]
  intro e
  exact hc _ (Array.mem_of_getElem? e) x rfl
theorem own_addr {w : World} {base n size : Nat} {t : TypeId} {A : Option Addr} {c : Nat} {xs : List Value} (h : w.ownsRow base t size (.slice A n c) n xs) (b o : Nat) (e : A = some ⟨b, o, none⟩) : base ≤ b ∧ b < w.heap.size := by
  subst e
  exact h.lt b rfl
/-- A description that was got is kept. -/
theorem kept_new {w w' : World} {H n n' : Nat} {A A' : Option Addr} {c c' : Nat} {own : Option Nat} {x : La} (h1 : w'.ownsRow w.heap.size 86 4 (.slice A n c) n (lkCells x.L)) (h2 : x.L.length = n) (h3 : w'.ownsRow w.heap.size 3 1 (.slice A' n' c') n' (x.M.map (Value.int .i64))) (h4 : x.M.length = n') (hH : H ≤ w.heap.size) (ho : ∀ b, own = some b → b < w.heap.size) : Kept w' H own ⟨x, ⟨A, n, c⟩, ⟨A', n', c'⟩⟩ := by
  obtain ⟨A2, c2, e2, hc2, hm2, hr2⟩ := lnk_of_own h1 h2
  obtain ⟨A3, c3, e3, hc3, hm3, hr3⟩ := row_of_ints h3 h4
  injection e2 with e2 _ e2'
  injection e3 with e3 _ e3'
  subst e2 e2' e3 e3'
  refine ⟨hr2, hr3, Nat.le_trans hc2 hm2, Nat.le_trans hc3 hm3, fun b o e => ?_, fun b o e => ?_⟩
  · obtain ⟨a1, a2⟩ := own_addr h1 b o e
    exact ⟨by omega, a2, fun e2 => by have := ho b e2; omega⟩
  · obtain ⟨a1, a2⟩ := own_addr h3 b o e
    exact ⟨by omega, a2, fun e2 => by have := ho b e2; omega⟩
theorem las_of_own {w : World} {base H n : Nat} {v : Value} {own : Option Nat} {Ls : List Lc} (h : w.ownsRow base 47 9 v n (lcCells Ls)) (hn : Ls.length = n) (hk : ∀ x ∈ Ls, Kept w H own x) : ∃ A c, v = .slice A n c ∧ n ≤ c ∧ c ≤ maxLen ∧ Las w w.heap.size A n (Ls.map Lc.la) := by
  refine arr_of_own (P := LaAt) h (by simpa using hn) fun g j x hg hx hc => ?_
  rw [List.getElem?_map] at hx
  obtain ⟨y, hy, rfl⟩ := Option.map_eq_some_iff.1 hx
  have hk' := hk y (List.mem_of_getElem? hy)
  have hg9 := fun i hi => lcCells_get Ls j i y hy hi
  refine ⟨⟨hc _ _ (hg9 0 (by omega)), hc _ _ (hg9 1 (by omega)), hc _ _ (hg9 2 (by omega)), hc _ _ (hg9 3 (by omega)), hc _ _ (hg9 4 (by omega)), hc _ _ (hg9 5 (by omega)), hc _ _ (hg9 6 (by omega))⟩, y.s.a, y.s.n, y.s.c, y.t.a, y.t.n, y.t.c, hc _ _ (hg9 7 (by omega)), hc _ _ (hg9 8 (by omega)), hk'.1, hk'.2.1, hk'.2.2.1, hk'.2.2.2.1⟩
/-- All blocks from lo on are as they were. -/
def Above (lo : Nat) (w w2 : World) : Prop := w.heap.size ≤ w2.heap.size ∧ ∀ b, lo ≤ b → b < w.heap.size → w2.heap[b]? = w.heap[b]?
theorem Above.refl (lo : Nat) (w : World) : Above lo w w := ⟨Nat.le_refl _, fun _ _ _ => rfl⟩
theorem Above.trans {lo : Nat} {w w1 w2 : World} (h : Above lo w w1) (k : Above lo w1 w2) : Above lo w w2 := ⟨Nat.le_trans h.1 k.1, fun b h1 h2 => (k.2 b h1 (Nat.lt_of_lt_of_le h2 h.1)).trans (h.2 b h1 h2)⟩
theorem Above.mono {lo lo' : Nat} {w w2 : World} (h : Above lo w w2) (hl : lo ≤ lo') : Above lo' w w2 := ⟨h.1, fun b h1 h2 => h.2 b (Nat.le_trans hl h1) h2⟩
theorem Above.set {lo : Nat} {w w1 : World} (h : Above lo w w1) {p : Addr} (hp : p.block < lo) (u : Value) : Above lo w (w1.setCell p u) :=
  h.trans ⟨by simp [World.setCell], fun b h1 _ => Below.heap_setCell w1 p u b (by omega)⟩
theorem Above.of_below {lo : Nat} {w w2 : World} (h : Below w.heap.size w w2) : Above lo w w2 := ⟨h.size, fun b _ hb => h.block b hb⟩
theorem own_above {w w2 : World} {lo base n size : Nat} {t : TypeId} {v : Value} {xs : List Value} (h : w.ownsRow base t size v n xs) (ha : Above lo w w2) (hb : lo ≤ base) : w2.ownsRow base t size v n xs := by
  refine ⟨h.1, ?_⟩
  rcases h.2 with h0 | ⟨g, cap, cur, h1, h2, h3, h4⟩
  · exact .inl h0
  · exact .inr ⟨g, cap, cur, h1, h2, (ha.2 g (by omega) (Array.getElem?_eq_some_iff.1 h3).1).trans h3, h4⟩
theorem las_upP {w : World} {H n : Nat} {Av : Option Addr} {cv : Nat} {own : Option Nat} {Ls : List Lc} (h : w.ownsRow H 47 9 (.slice Av n cv) n (lcCells Ls)) (hn : Ls.length = n) (hk : ∀ x ∈ Ls, Kept w H own x) : ∀ lo w2, lo ≤ H → Above lo w w2 → Las w2 w2.heap.size Av n (Ls.map Lc.la) := by
  intro lo w2 hlo ha
  obtain ⟨_, _, e9, _, _, h9⟩ := las_of_own (own := own) (H := H) (own_above h ha hlo) hn (fun x hx => (hk x hx).move ha.1 (fun b hb1 hb2 hb3 => ⟨fun p => World.cell?_of_block (ha.2 b (by omega) hb2), hb3⟩))
  injection e9 with e9 _ e9'
  subst e9 e9'
  exact h9
/-- Bytes of all that is left. -/
def BytE (w : World) (base g : Nat) (l : List Int) (a : Nat) (e : Int) (x : Ending) (w' : World) : Prop :=
  ∃ A n c a' bs, x = .returned (.slice A n c) ∧ (e = 0 → n ≤ c ∧ c ≤ maxLen) ∧ Row .u8 w' w'.heap.size A n bs ∧ RdE w' base g l a' e ∧ w.grownBy w' (some g) ∧ ((e = 0 ∧ bs = l.drop a ∧ a' = l.length) ∨ (e = 3 ∧ bs = []))
theorem rde_bytes (base g a : Nat) (e k : Int) (l : List Int) (w : World) (h : RdE w base g l a e) (hk : k = ((l.length - a : Nat) : Int)) (hl : l.length ≤ 1048576) :
    Calls Tryz.prog 102 #[.pointer (some ⟨g, 0, none⟩), .int .i64 k] w (BytE w base g l a e) := by
  have ha := h.at
  rcases h.is with rfl | ⟨rfl, hlt⟩
  · refine (rd_bytesK base g a (l.length - a) k l w h.ok hk (by omega) hl).mono ?_
    rintro x w' ⟨A, c, rfl, h1, h2, h3, h4, h5⟩
    rw [List.take_of_length_le (by simp)] at h3
    rw [show a + (l.length - a) = l.length by omega] at h4
    exact ⟨A, _, c, _, _, rfl, fun _ => ⟨h1, h2⟩, h3, h4.toE, h5, .inl ⟨rfl, rfl, rfl⟩⟩
  · obtain ⟨d, c, h1, h2, h3, h4, h5, h6, h7, h8, h9⟩ := h
    refine (bytes_bad g (some ⟨d, 0, none⟩) l.length c a k 3 w h1 rfl).mono ?_
    rintro x w' ⟨A', c', rfl, hr, hs⟩
    refine ⟨A', 0, c', a, [], rfl, fun h => absurd h (by decide), hr, ⟨d, c, hs.2, ?_, h3, h4, h5, h6, h7, h8, h9⟩, hs.1, .inr ⟨rfl, rfl⟩⟩
    refine h2.keep fun p hp => World.cell?_of_block (hs.1.block p.block ?_ ?_)
    · have := h1.lt; omega
    · intro q; injection q with q; omega
theorem longOf_got (b : List Int) (he : gErr b = 0) : (gHead b).long = (longOf b : Int) ∧ 20 ≤ longOf b ∧ longOf b ≤ b.length := by
  have hH : gHead b = headOf (getT b) := by unfold gHead; rw [if_pos he]
  unfold gErr at he
  split at he
  · cases he
  · rename_i h1
    split at he
    · cases he
    · rename_i h2
      split at he
      · cases he
      · rename_i h3
        refine ⟨?_, by omega, by omega⟩
        rw [hH]
        show wordAt (getT b) 18 2 = _
        unfold getT
        rw [wordAt_pre b 18 2 (longOf b) (by omega)]
        have : 0 ≤ wordAt b 18 2 := by
          by_cases hp : 0 ≤ wordAt b 18 2
          · exact hp
          · have : longOf b = 0 := by unfold longOf; omega
            omega
        unfold longOf
        omega
theorem updR_zero (b : List Int) : updR 0 b = ([], 0, b) := rfl
theorem updR_ok (m k : Nat) (b : List Int) (h : k < m) (he : gErr b = 0) : updR (m - k) b = (⟨gHead b, gLinks b, gMembers b⟩ :: (updR (m - (k + 1)) (b.drop (longOf b))).1, (updR (m - (k + 1)) (b.drop (longOf b))).2) := by
  rw [show m - k = m - (k + 1) + 1 by omega]
  conv => lhs; unfold updR
  rw [if_pos he]
theorem updR_no (m k : Nat) (b : List Int) (h : k < m) (he : ¬ gErr b = 0) : updR (m - k) b = ([], gErr b, b) := by
  rw [show m - k = m - (k + 1) + 1 by omega]
  conv => lhs; unfold updR
  rw [if_neg he]
/-- What update leaves. -/
def UpdateR (w : World) (g q : Nat) (kd sd : Int) (wr0 : Bool) (l : List Int) (x : Ending) (w' : World) : Prop :=
  ∃ (m : Nat) (a1 a2 : Nat) (e1 : Int) (bs : List Int) (Av : Option Addr) (k cv : Nat) (L : List La) (er : Int) (wr : Bool), x = .returned (.tuple #[]) ∧ NxP l 24 0 4 m a1 e1 ∧ ((e1 = 0 ∧ bs = l.drop a1 ∧ a2 = l.length) ∨ (e1 = 3 ∧ bs = [])) ∧ (updR m bs).1 = L ∧ (updR m bs).2.1 = er ∧
    wr = (wr0 || (decide (er = 0) && decide (0 < (updR m bs).2.2.length))) ∧ k ≤ maxLen ∧ (∀ lo w2, lo ≤ g + 1 → Above lo w' w2 → Las w2 w2.heap.size Av k L) ∧ RSE w' g q ⟨kd, sd, 0, 0, 0, 0, 0, ⟨none, 0, 0⟩, false, false, false, 0, ⟨none, 0, 0⟩, ⟨none, 0, 0⟩, ⟨Av, k, cv⟩, ⟨none, 0, 0⟩⟩ wr er l a2 e1 ∧ Below g w w'
set_option maxRecDepth 8000 in
set_option maxHeartbeats 16000000 in
theorem update_any (g q : Nat) (kd sd : Int) (wr0 : Bool) (l : List Int) (w : World) (h : RS w g q (zeroP kd sd) wr0 0 l 24) (hl : l.length ≤ 1048576) :
    Calls Tryz.prog 92 #[.pointer (some ⟨g, 0, none⟩)] w (UpdateR w g q kd sd wr0 l) := by
  generalize hQ : UpdateR w g q kd sd wr0 l = Q
  have HQ := Lib.hid hQ
  obtain ⟨hb, hrd⟩ := h
  have KB0 := Lib.hid (show Blk w g 95 #[.pointer (some ⟨q, 0, none⟩), .int .i64 kd, .int .i64 sd, .int .i64 0, .int .i64 0, .int .i64 0, .int .i64 0, .int .i64 0, .slice none 0 0, .bool false, .bool false, .bool false, .int .i64 0, .slice none 0 0, .slice none 0 0, .slice none 0 0, .slice none 0 0, .bool wr0, .int .i64 0] from hb)
  have RD0 := Lib.hid hrd.toE
  have B0 := Lib.hid (Below.refl g w)
  have HBY := Lib.hid hrd.toE.byt
  have hgq : g < q := by have := hrd.lt.2; omega
  have hgw : g < w.heap.size := hb.lt
  have hqw : q < w.heap.size := hrd.lt.1
  clear hQ hb hrd
  obtain ⟨a0, a1, a2, a3, a4, a5, a6, a7, a8, a9, a10, a11, a12, a13, a14, a15, a16, a17, a18⟩ := KB0.out.nt
  go_enter Tryz.func92, Tryz.ntmps92
  go_wp2_with fail
  refine (rde_num (g + 1) q 24 4 0 4 l _ RD0.out rfl).mono ?_
  rintro e1 w1 ⟨mi, p1, z1, rfl, hrd, hgr, hn, hm0, hm1⟩
  obtain ⟨m, rfl⟩ := Int.eq_ofNat_of_zero_le hm0
  rw [show (256 : Int) ^ 4 = 4294967296 by decide] at hm1
  have N1 := Lib.hid hn
  have KB1 := Lib.hid (KB0.out.grown hgr (by omega))
  have RD1 := Lib.hid hrd
  have B1 := Lib.hid (B0.out.trans (grown_below hgr (by omega) (by have := B0.out.size; omega)))
  have HZ := Lib.hid (show z1 = 0 ∨ (z1 = 3 ∧ m = 0) by
    rcases hn with ⟨_, _, _, _, h5⟩ | ⟨h1, _, h3⟩
    · exact .inl h5
    · exact .inr ⟨h1, by omega⟩)
  clear hn hrd hgr KB0 RD0 B0 a0 a1 a2 a3 a4 a5 a6 a7 a8 a9 a10 a11 a12 a13 a14 a15 a16 a17 a18
  go_upto_region 1 with fail
  have RX := Lib.hid (show RdE w1.drew (g + 1) q l p1 z1 from RD1.out)
  have KX := Lib.hid (Blk.drew KB1.out)
  have BX := Lib.hid (show Below g w w1.drew from below_drewN B1.out 1)
  obtain ⟨d0, d1, d2, d3, d4, d5, d6, d7, d8, d9, d10, d11, d12, d13, d14, d15, d16, d17, d18⟩ := KX.out.nt
  go_region_with (first
    | (go_at_call 102; refine (rde_bytes (g + 1) q p1 z1 _ l _ RL.out rfl hl).mono ?_; rintro eb w2 ⟨A0, n0, c0, p2, bs0, rfl, hc0, hrow, hrd2, hgr2, hbs⟩; have KB2 := Lib.hid (KL.out.grown hgr2 (by omega)); have RD2 := Lib.hid hrd2; have B2 := Lib.hid (BL.out.trans (grown_below hgr2 (by omega) (by have := BL.out.size; omega))); have R2 := Lib.hid hrow; have HC0 := Lib.hid hc0; have HBS := Lib.hid hbs; clear hc0 hrow hrd2 hgr2 hbs)
    | (go_at_call 70; refine (rde_left (g + 1) q p1 z1 l _ RX.out).mono ?_; rintro el wl ⟨rfl, dl, hwl⟩; have RL := Lib.hid (show RdE wl (g + 1) q l p1 z1 by rw [hwl]; exact RX.out); have KL := Lib.hid (show Blk wl g 95 #[.pointer (some ⟨q, 0, none⟩), .int .i64 kd, .int .i64 sd, .int .i64 0, .int .i64 0, .int .i64 0, .int .i64 0, .int .i64 0, .slice none 0 0, .bool false, .bool false, .bool false, .int .i64 0, .slice none 0 0, .slice none 0 0, .slice none 0 0, .slice none 0 0, .bool wr0, .int .i64 0] by rw [hwl]; exact KX.out.drewN dl); have BL := Lib.hid (show Below g w wl by rw [hwl]; exact below_drewN BX.out dl); clear hwl; obtain ⟨a0, a1, a2, a3, a4, a5, a6, a7, a8, a9, a10, a11, a12, a13, a14, a15, a16, a17, a18⟩ := KL.out.nt))
  all_goals
    have HB0 := Lib.hid (show Byt bs0 by
      rcases HBS.out with ⟨_, h2, _⟩ | ⟨_, h2⟩
      · rw [h2]; exact HBY.out.drop p1
      · rw [h2]; exact Byt.nil)
    have hn0 : n0 ≤ 1048576 := by
      have h1 := R2.out.1
      rcases HBS.out with ⟨_, h2, _⟩ | ⟨_, h2⟩
      · rw [h2, List.length_drop] at h1; omega
      · rw [h2, List.length_nil] at h1; omega
    have HMC := Lib.hid (show 0 < m → n0 ≤ c0 ∧ c0 ≤ maxLen by
      intro hm
      rcases HZ.out with h | ⟨_, h⟩
      · exact HC0.out h
      · omega)
    obtain ⟨H, hH⟩ : ∃ H, w2.heap.size = H := ⟨_, rfl⟩
    rw [hH] at R2
    have hgH : g < H := by have := B2.out.size; omega
    have hqH : q < H := by have := B2.out.size; omega
    have hwH : w.heap.size ≤ H := by have := B2.out.size; omega
    go_wp2_with fail
    go_loopw [3, 22] (fun b i W => ∃ (k n c : Nat) (A : Option Addr) (bs : List Int) (Ls : List Lc) (Av : Option Addr) (cv : Nat), k ≤ m ∧ i = .int .i64 k ∧ b = .slice A n c ∧ H ≤ W.heap.size ∧ Hid (0 < m → n ≤ c ∧ c ≤ maxLen) ∧ Hid (n + 20 * k ≤ 1048576) ∧ Hid (Row .u8 W H A n bs) ∧ Hid (Byt bs) ∧ Hid (updR m bs0 = (Ls.map Lc.la ++ (updR (m - k) bs).1, (updR (m - k) bs).2)) ∧ Hid (Ls.length = k) ∧ Hid (Blk W g 95 #[.pointer (some ⟨q, 0, none⟩), .int .i64 kd, .int .i64 sd, .int .i64 0, .int .i64 0, .int .i64 0, .int .i64 0, .int .i64 0, .slice none 0 0, .bool false, .bool false, .bool false, .int .i64 0, .slice none 0 0, .slice none 0 0, .slice Av k cv, .slice none 0 0, .bool wr0, .int .i64 0]) ∧ Hid (RdE W (g + 1) q l p2 z1) ∧ Hid (W.ownsRow H 47 9 (.slice Av k cv) k (lcCells Ls)) ∧ Hid (∀ x ∈ Ls, Kept W H (Value.slice Av k cv).ownBlock x) ∧ Hid (Below g w W)) (fun _ i _ => m - (intOf i).toNat)
    case atStart =>
      exact ⟨0, n0, c0, A0, bs0, [], none, 0, Nat.zero_le _, rfl, rfl, Nat.le_of_eq hH.symm, HMC, Lib.hid (by omega), R2, HB0, Lib.hid rfl, Lib.hid rfl, KB2, RD2, Lib.hid (World.ownsRow_nil _ _ _ _), Lib.hid (fun _ hx => by cases hx), B2⟩
    case round =>
      clear KB2 RD2 B2 R2 HB0 HMC
      obtain ⟨k, n, c, A, bs, Ls, Av, cv, hkm, rfl, rfl, hHW, HCC, HNK, R, HY, HU, HLN, KB, RD, OW, HK, BW⟩ := hrel
      have hnk := HNK.out
      have hgW : g < wr.heap.size := KB.out.lt
      by_cases hlt : k < m
      · have hlt' : (k : Int) < (m : Int) := by omega
        obtain ⟨hnc, hcm⟩ := HCC.out (by omega)
        have HCM := Lib.hid hcm
        clear hcm
        go_wp2_with fail
        refine (get_any A n c H bs _ R.out HY.out hHW (by omega) hnc HCM.out).mono ?_
        rintro e3 w3 ⟨A4, n4, c4, A5, n5, c5, rfl, ho4, hq4, ho5, hq5, hb3⟩
        have HKN := Lib.hid (kept_new (x := ⟨gHead bs, gLinks bs, gMembers bs⟩) (own := (Value.slice Av k cv).ownBlock) ho4 hq4 ho5 hq5 hHW (fun b hb => (OW.out.lt b hb).2))
        have HOW := Lib.hid (show ∀ b, (Value.slice Av k cv).ownBlock = some b → b < wr.heap.size from fun b hb => (OW.out.lt b hb).2)
        have KB3 := Lib.hid (KB.out.below hb3 KB.out.lt)
        have RD3 := Lib.hid (RD.out.below hb3 RD.out.lt.1)
        have R3 := Lib.hid (R.out.below (hb3.mono hHW))
        have OW3 := Lib.hid (own_below2 OW.out hb3)
        have HK3 := Lib.hid (fun x hx => (HK.out x hx).below hb3)
        have B3 := Lib.hid (BW.out.trans (hb3.mono (Nat.le_of_lt hgW)))
        have hs3 := hb3.size
        clear hb3 ho4 hq4 ho5 hq5 KB RD R OW HK BW
        by_cases he : gErr bs = 0
        · have HE := Lib.hid he
          rw [he]
          clear he
          obtain ⟨h, hh⟩ : ∃ h, gHead bs = h := ⟨_, rfl⟩
          have HH := Lib.hid hh
          rw [hh]
          clear hh
          obtain ⟨hlong, hl20, hln⟩ := longOf_got bs HE.out
          rw [HH.out] at hlong HKN
          have hlen := R3.out.1
          rw [hlen] at hln
          obtain ⟨lq, hlq⟩ : ∃ lq, longOf bs = lq := ⟨_, rfl⟩
          have HLQ := Lib.hid hlq
          rw [hlq] at hlong hl20 hln
          obtain ⟨b0, o0, rfl, hb0, hcs⟩ := R3.out.2 (by omega)
          have hbg : b0 ≠ g := by
            rintro rfl
            exact blk_no_u8 KB3.out (by simp) (hcs 0 (by omega))
          clear hcs
          have HLG := Lib.hid hlong
          clear hlong hlq hlen
          have KA := Lib.hid (Blk.new w3 47 #[.int .i64 h.age, .int .i64 h.kind, .int .i64 h.id, .int .i64 h.adv, .int .i64 h.seq, .int .i64 h.sum, .int .i64 h.long, .slice A4 n4 c4, .slice A5 n5 c5])
          have KB4 := Lib.hid (KB3.out.alloc (.cells #[.int .i64 h.age, .int .i64 h.kind, .int .i64 h.id, .int .i64 h.adv, .int .i64 h.seq, .int .i64 h.sum, .int .i64 h.long, .slice A4 n4 c4, .slice A5 n5 c5] 47))
          have RD4 := Lib.hid (RD3.out.alloc (.cells #[.int .i64 h.age, .int .i64 h.kind, .int .i64 h.id, .int .i64 h.adv, .int .i64 h.seq, .int .i64 h.sum, .int .i64 h.long, .slice A4 n4 c4, .slice A5 n5 c5] 47))
          have R4 := Lib.hid (R3.out.alloc (by omega) (.cells #[.int .i64 h.age, .int .i64 h.kind, .int .i64 h.id, .int .i64 h.adv, .int .i64 h.seq, .int .i64 h.sum, .int .i64 h.long, .slice A4 n4 c4, .slice A5 n5 c5] 47))
          have OW4 := Lib.hid (OW3.out.alloc (.cells #[.int .i64 h.age, .int .i64 h.kind, .int .i64 h.id, .int .i64 h.adv, .int .i64 h.seq, .int .i64 h.sum, .int .i64 h.long, .slice A4 n4 c4, .slice A5 n5 c5] 47))
          have BA := Lib.hid ((Below.refl w3.heap.size w3).alloc (Nat.le_refl _) (.cells #[.int .i64 h.age, .int .i64 h.kind, .int .i64 h.id, .int .i64 h.adv, .int .i64 h.seq, .int .i64 h.sum, .int .i64 h.long, .slice A4 n4 c4, .slice A5 n5 c5] 47))
          have HK4 := Lib.hid (fun x hx => (HK3.out x hx).below BA.out)
          have HKN4 := Lib.hid (HKN.out.below BA.out)
          have B4 := Lib.hid (B3.out.alloc (by omega) (.cells #[.int .i64 h.age, .int .i64 h.kind, .int .i64 h.id, .int .i64 h.adv, .int .i64 h.seq, .int .i64 h.sum, .int .i64 h.long, .slice A4 n4 c4, .slice A5 n5 c5] 47))
          go_upto_region 7 with fail
          obtain ⟨hbk, hbe⟩ : ∃ hbk, w3.heap.size = hbk := ⟨_, rfl⟩
          rw [hbe] at KA ⊢
          have hs4 : w3.heap.size < (w3.alloc (.cells #[.int .i64 h.age, .int .i64 h.kind, .int .i64 h.id, .int .i64 h.adv, .int .i64 h.seq, .int .i64 h.sum, .int .i64 h.long, .slice A4 n4 c4, .slice A5 n5 c5] 47)).heap.size := by simp
          have hbk1 : wr.heap.size ≤ hbk := by omega
          clear KB3 RD3 R3 OW3 HK3 B3 BA HKN
          generalize w3.alloc (.cells #[.int .i64 h.age, .int .i64 h.kind, .int .i64 h.id, .int .i64 h.adv, .int .i64 h.seq, .int .i64 h.sum, .int .i64 h.long, .slice A4 n4 c4, .slice A5 n5 c5] 47) = w4 at *
          obtain ⟨a0, a1, a2, a3, a4, a5, a6, a7, a8, a9, a10, a11, a12, a13, a14, a15, a16, a17, a18⟩ := KB4.out.nt
          obtain ⟨y0, y1, y2, y3, y4, y5, y6, y7, y8⟩ := KA.out.nine
          obtain ⟨-, -, -, -, -, -, -, -, -, -, -, -, -, -, -, ca15, -, -, -⟩ := (KB4.out.alloc (.cells #[.int .i64 h.age, .int .i64 h.kind, .int .i64 h.id, .int .i64 h.adv, .int .i64 h.seq, .int .i64 h.sum, .int .i64 h.long, .slice A4 n4 c4, .slice A5 n5 c5] 47)).nt
          have HKM := Lib.hid (show k ≤ 1048576 by omega)
          have HSZ := Lib.hid (show H ≤ (w4.alloc (.cells #[.int .i64 h.age, .int .i64 h.kind, .int .i64 h.id, .int .i64 h.adv, .int .i64 h.seq, .int .i64 h.sum, .int .i64 h.long, .slice A4 n4 c4, .slice A5 n5 c5] 47)).drew.heap.size by simp; omega)
          have OWD := Lib.hid (show (w4.alloc (.cells #[.int .i64 h.age, .int .i64 h.kind, .int .i64 h.id, .int .i64 h.adv, .int .i64 h.seq, .int .i64 h.sum, .int .i64 h.long, .slice A4 n4 c4, .slice A5 n5 c5] 47)).drew.ownsRow H 47 9 (.slice Av k cv) k (lcCells Ls) from OW4.out.alloc (.cells #[.int .i64 h.age, .int .i64 h.kind, .int .i64 h.id, .int .i64 h.adv, .int .i64 h.seq, .int .i64 h.sum, .int .i64 h.long, .slice A4 n4 c4, .slice A5 n5 c5] 47))
          have BLD := Lib.hid (show Blk (w4.alloc (.cells #[.int .i64 h.age, .int .i64 h.kind, .int .i64 h.id, .int .i64 h.adv, .int .i64 h.seq, .int .i64 h.sum, .int .i64 h.long, .slice A4 n4 c4, .slice A5 n5 c5] 47)).drew w4.heap.size 47 ([.int .i64 h.age, .int .i64 h.kind, .int .i64 h.id, .int .i64 h.adv, .int .i64 h.seq, .int .i64 h.sum, .int .i64 h.long, .slice A4 n4 c4, .slice A5 n5 c5] : List Value).toArray from Blk.new w4 47 #[.int .i64 h.age, .int .i64 h.kind, .int .i64 h.id, .int .i64 h.adv, .int .i64 h.seq, .int .i64 h.sum, .int .i64 h.long, .slice A4 n4 c4, .slice A5 n5 c5])
          have ONE := Lib.hid (show ∀ u ∈ ([.int .i64 h.age, .int .i64 h.kind, .int .i64 h.id, .int .i64 h.adv, .int .i64 h.seq, .int .i64 h.sum, .int .i64 h.long, .slice A4 n4 c4, .slice A5 n5 c5] : List Value), u.oneCell' = true from lcRow_one ⟨⟨h, gLinks bs, gMembers bs⟩, ⟨A4, n4, c4⟩, ⟨A5, n5, c5⟩⟩)
          go_region_law (first
            | (refine step_append_grow (by rfl) (.tmp 40) (.tmp 42) 29 47 (.agg #[.int .i64 0, .int .i64 0, .int .i64 0, .int .i64 0, .int .i64 0, .int .i64 0, .int .i64 0, .slice none 0 0, .slice none 0 0]) 9 104 Tryz.underlying29 Tryz.infoLa rfl (by decide) (by decide) (by rfl) H (.slice Av k cv) k (lcCells Ls) (by rfl) OWD.out w4.heap.size [.int .i64 h.age, .int .i64 h.kind, .int .i64 h.id, .int .i64 h.adv, .int .i64 h.seq, .int .i64 h.sum, .int .i64 h.long, .slice A4 n4 c4, .slice A5 n5 c5] (by rfl) rfl BLD.out ONE.out HKM.out HSZ.out ?_; intro v' w' ho' hg' ha'; obtain ⟨A', c', rfl⟩ := own_slice ho'.out; have BK := Lib.hid (own_keeps OWD.out hg'.out HSZ.out); have KN := Lib.hid ((Blk.drew (KB4.out.alloc (.cells #[.int .i64 h.age, .int .i64 h.kind, .int .i64 h.id, .int .i64 h.adv, .int .i64 h.seq, .int .i64 h.sum, .int .i64 h.long, .slice A4 n4 c4, .slice A5 n5 c5] 47))).below BK.out hgH); obtain ⟨-, -, -, -, -, -, -, -, -, -, -, -, -, -, -, c15, -, -, -⟩ := KN.out.nt; have f15 := KN.out.frozen 15))
          all_goals
            have BD := Lib.hid (show Below w4.heap.size w4 (w4.alloc (.cells #[.int .i64 h.age, .int .i64 h.kind, .int .i64 h.id, .int .i64 h.adv, .int .i64 h.seq, .int .i64 h.sum, .int .i64 h.long, .slice A4 n4 c4, .slice A5 n5 c5] 47)).drew from below_drewN ((Below.refl _ _).alloc (Nat.le_refl _) _) 1)
            have RN := Lib.hid ((RD4.out.below BD.out RD4.out.lt.1).below BK.out hqH)
            have RW := Lib.hid ((R4.out.below (BD.out.mono (by omega))).below BK.out)
            have KAN := Lib.hid (blk_own (KA.out.below BD.out KA.out.lt) hg'.out (fun e => by have := HOW.out _ e; omega))
            have HKF := Lib.hid (fun x hx => (((HK4.out x hx).below BD.out).own hg'.out ha'.out).far (p := ⟨g, 15, none⟩) hgH (.slice A' (k + 1) c'))
            have HKL := Lib.hid (((HKN4.out.below BD.out).own hg'.out ha'.out).far (p := ⟨g, 15, none⟩) hgH (.slice A' (k + 1) c'))
            have BN := Lib.hid ((B4.out.trans (BD.out.mono (by omega))).trans (BK.out.mono (by omega)))
            have KF := Lib.hid (show Blk (w'.setCell ⟨g, 15, none⟩ (.slice A' (k + 1) c')) g 95 #[.pointer (some ⟨q, 0, none⟩), .int .i64 kd, .int .i64 sd, .int .i64 0, .int .i64 0, .int .i64 0, .int .i64 0, .int .i64 0, .slice none 0 0, .bool false, .bool false, .bool false, .int .i64 0, .slice none 0 0, .slice none 0 0, .slice A' (k + 1) c', .slice none 0 0, .bool wr0, .int .i64 0] from KN.out.put 15 (.slice A' (k + 1) c'))
            have OF := Lib.hid (own_set ho'.out ⟨g, 15, none⟩ (.slice A' (k + 1) c') hgH)
            have RF := Lib.hid (RN.out.far (p := ⟨g, 15, none⟩) (.inl (by simp)) (.slice A' (k + 1) c'))
            have RWF := Lib.hid (RW.out.far (p := ⟨g, 15, none⟩) (fun b o e => by injection e with e; cases e; exact hbg) (.slice A' (k + 1) c'))
            have KAF := Lib.hid (KAN.out.far (p := ⟨g, 15, none⟩) (show hbk ≠ g by omega) (.slice A' (k + 1) c'))
            have BF := Lib.hid (BN.out.setCell (p := ⟨g, 15, none⟩) (by simp) (.slice A' (k + 1) c'))
            have hsF : H ≤ (w'.setCell ⟨g, 15, none⟩ (.slice A' (k + 1) c')).heap.size := by
              have := BK.out.size
              have := HSZ.out
              simp [World.setCell]
              omega
            clear BK BD RN RW KAN BN KN hg' ha' ho' c15 f15
            generalize w'.setCell ⟨g, 15, none⟩ (.slice A' (k + 1) c') = w9 at *
            obtain ⟨-, -, -, -, -, -, k6, -, -⟩ := KAF.out.nine
            rw [HLG.out] at k6
            unfold maxLen at HCM
            have hcm := HCM.out
            obtain ⟨A2, hA2, hrow2⟩ : ∃ A2, (if c = lq then some (⟨b0, o0, none⟩ : Addr) else some ⟨b0, o0 + lq, none⟩) = A2 ∧ Row .u8 w9 H A2 (n - lq) (bs.drop lq) := by
              refine ⟨_, rfl, ?_⟩
              have hrd := cut_some _ _ lq (n - lq) (by omega) _ _ _ _ RWF.out
              rw [List.take_of_length_le (by have := RWF.out.1; simp; omega)] at hrd
              by_cases e : c = lq
              · have : n - lq = 0 := by omega
                rw [if_pos e, this, List.drop_of_length_le (by have := RWF.out.1; omega)]
                exact Row.nil
              · rw [if_neg e]
                rw [Option.map_some, addr_add] at hrd
                exact hrd
            have RW2 := Lib.hid hrow2
            clear hrow2
            go_wp2
            go_roundw
            case rel =>
              refine ⟨k + 1, n - lq, c - lq, A2, bs.drop lq, Ls ++ [⟨⟨h, gLinks bs, gMembers bs⟩, ⟨A4, n4, c4⟩, ⟨A5, n5, c5⟩⟩], A', c', by omega, by go_num, ?_, hsF, Lib.hid (fun _ => ⟨by omega, by unfold maxLen; omega⟩), Lib.hid (by omega), RW2, Lib.hid (HY.out.drop lq), Lib.hid ?_, Lib.hid (by simp [HLN.out]), KF, RF, Lib.hid ?_, Lib.hid ?_, BF⟩
              · rfl
              · rw [HU.out, updR_ok m k bs hlt HE.out, HLQ.out, HH.out]
                simp
              · rw [lcCells_snoc]
                exact OF.out
              · intro x hx
                rcases List.mem_append.1 hx with hx | hx
                · exact HKF.out x hx
                · rw [List.mem_singleton] at hx
                  subst hx
                  exact HKL.out
            case measure => simp [intOf]; omega
        · have hne : (gErr bs != 0) = true := by simp [he]
          have HUN := Lib.hid (updR_no m k bs hlt he)
          have HNE := Lib.hid he
          clear he
          obtain ⟨er, her⟩ : ∃ er, gErr bs = er := ⟨_, rfl⟩
          rw [her] at hne HUN HNE ⊢
          obtain ⟨h, hh⟩ : ∃ h, gHead bs = h := ⟨_, rfl⟩
          rw [hh]
          clear her hh HKN
          have KB4 := Lib.hid (KB3.out.alloc (.cells #[.int .i64 h.age, .int .i64 h.kind, .int .i64 h.id, .int .i64 h.adv, .int .i64 h.seq, .int .i64 h.sum, .int .i64 h.long, .slice A4 n4 c4, .slice A5 n5 c5] 47))
          obtain ⟨a0, a1, a2, a3, a4, a5, a6, a7, a8, a9, a10, a11, a12, a13, a14, a15, a16, a17, a18⟩ := KB4.out.nt
          have f18 := KB4.out.frozen 18
          go_wp2
          refine bodyPost_end (results_none rfl _ _ _) rfl ?_
          rw [← HQ.out]
          have hup := las_upP (own_set (OW3.out.alloc (.cells #[.int .i64 h.age, .int .i64 h.kind, .int .i64 h.id, .int .i64 h.adv, .int .i64 h.seq, .int .i64 h.sum, .int .i64 h.long, .slice A4 n4 c4, .slice A5 n5 c5] 47)) ⟨g, 18, none⟩ (.int .i64 er) hgH) HLN.out (fun x hx => ((HK3.out x hx).below ((Below.refl _ _).alloc (Nat.le_refl _) (.cells #[.int .i64 h.age, .int .i64 h.kind, .int .i64 h.id, .int .i64 h.adv, .int .i64 h.seq, .int .i64 h.sum, .int .i64 h.long, .slice A4 n4 c4, .slice A5 n5 c5] 47))).far (p := ⟨g, 18, none⟩) hgH (.int .i64 er))
          obtain ⟨_, _, e9, hcv, hcm9, _⟩ := las_of_own OW3.out HLN.out HK3.out
          injection e9 with e9 _ e9'
          subst e9 e9'
          have hU := HU.out
          rw [HUN.out] at hU
          refine ⟨m, p1, p2, z1, bs0, Av, k, cv, Ls.map Lc.la, er, wr0, rfl, N1.out, HBS.out, by rw [hU]; simp, by rw [hU], by rw [decide_eq_false HNE.out]; simp, Nat.le_trans hcv hcm9, fun K w2 hK => hup K w2 (by omega), ⟨?_, (RD3.out.alloc _).far (.inl (by simp)) _⟩, (B3.out.alloc (by omega) _).setCell (by simp) _⟩
          have h9 := KB4.out.put 18 (.int .i64 er)
          simp only [List.setIfInBounds_toArray, List.set_cons_zero, List.set_cons_succ] at h9
          exact h9
      · have hlt' : ¬ (k : Int) < (m : Int) := by omega
        obtain rfl : m = k := by omega
        have hU := HU.out
        rw [show m - m = 0 by omega, updR_zero] at hU
        have hlas := las_upP OW.out HLN.out HK.out
        obtain ⟨_, _, e9, hcv, hcm9, _⟩ := las_of_own OW.out HLN.out HK.out
        injection e9 with e9 _ e9'
        subst e9 e9'
        have HUU := Lib.hid hU
        have HLS := Lib.hid hlas
        have HLE := Lib.hid R.out.1
        have HCV := Lib.hid (Nat.le_trans hcv hcm9)
        clear hU hlas hcv hcm9
        obtain ⟨a0, a1, a2, a3, a4, a5, a6, a7, a8, a9, a10, a11, a12, a13, a14, a15, a16, a17, a18⟩ := KB.out.nt
        have f17 := KB.out.frozen 17
        by_cases hn : 0 < n
        · have hn' : (0 : Int) < (n : Int) := by omega
          go_wp2
          refine bodyPost_end (results_none rfl _ _ _) rfl ?_
          rw [← HQ.out]
          have hlas := las_upP (own_set OW.out ⟨g, 17, none⟩ (.bool true) hgH) HLN.out (fun x hx => (HK.out x hx).far (p := ⟨g, 17, none⟩) hgH (.bool true))
          refine ⟨m, p1, p2, z1, bs0, Av, m, cv, Ls.map Lc.la, 0, true, rfl, N1.out, HBS.out, by rw [HUU.out]; simp, by rw [HUU.out], by rw [HUU.out, decide_eq_true (show 0 < bs.length by rw [HLE.out]; exact hn)]; simp, HCV.out, fun K w2 hK => hlas K w2 (by omega), ⟨?_, RD.out.far (.inl (by simp)) _⟩, BW.out.setCell (by simp) _⟩
          have h9 := KB.out.put 17 (.bool true)
          simp only [List.setIfInBounds_toArray, List.set_cons_zero, List.set_cons_succ] at h9
          exact h9
        · have hn' : ¬ (0 : Int) < (n : Int) := by omega
          go_wp2
          refine bodyPost_end (results_none rfl _ _ _) rfl ?_
          rw [← HQ.out]
          exact ⟨m, p1, p2, z1, bs0, Av, m, cv, Ls.map Lc.la, 0, wr0, rfl, N1.out, HBS.out, by rw [HUU.out]; simp, by rw [HUU.out], by rw [HUU.out, decide_eq_false (show ¬ 0 < bs.length by rw [HLE.out]; exact hn)]; simp, HCV.out, fun K w2 hK => HLS.out K w2 (by omega), ⟨KB.out, RD.out⟩, BW.out⟩
end Go.Proofs.YtekhgkkgmkodmaaGreat
