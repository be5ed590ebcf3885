/- Whether a packet is more than a statement takes. Conditions: lists read as such. · The example that each statement on packet asks first. Conditions: none. · The reference's num, signed, headOf and GetHead. Conditions: the slice reads as bytes. · A head, and a description, that came in, opened. No conditions. · A packet that came in, opened. No conditions. · A reader that may have an error, and packet's reader with it: what is lacking is told by the error. Conditions: none but the memory's. -/
import Derived.Deep.Slices
import Derived.Deep.Fields
import Derived.OpenShut
import Derived.Test.YtekhgkkgmkodmaaJas
import Derived.Test.YtekhgkkgmkodmaaJai
import Derived.Test.YtekhgkkgmkodmaaJaj
import Derived.Test.YtekhgkkgmkodmaaJak
import Derived.Test.YtekhgkkgmkodmaaJam
import Derived.Test.YtekhgkkgmkodmaaJar
namespace Go.Proofs.Ytekhgkkgmkodmaa
open Go.RowKit

/-- What long answers: yes or no. -/
def LongR (w : World) (x : Ending) (w' : World) : Prop := (∃ b, x = .returned (.bool b)) ∧ Below w.heap.size w w'
set_option maxRecDepth 8000 in
set_option maxHeartbeats 8000000 in
theorem long_core (v : Pv) (A : Option Addr) (n c : Nat) (L : List La) (B : Nat) (w : World) (h : Las w B A n L) (hs : PkSm v) (hn : n ≤ maxLen) (hB : B ≤ w.heap.size) :
    Calls Try.prog 7 #[.agg #[.int .i64 v.kind, .int .i64 v.sender, .int .i64 v.every, .int .i64 v.dead, .int .i64 v.prio, .int .i64 v.dr, .int .i64 v.bdr, .slice v.seen.a v.seen.n v.seen.c, .bool v.ini, .bool v.mor, .bool v.mas, .int .i64 v.seq, .slice v.heads.a v.heads.n v.heads.c, .slice v.wants.a v.wants.n v.wants.c, .slice A n c, .slice v.acks.a v.acks.n v.acks.c]] w (LongR w) := by
  generalize hQ : LongR w = Q
  have HQ := Lib.hid hQ
  clear hQ
  have K0 := Lib.hid (Blk.new w 31 #[.int .i64 v.kind, .int .i64 v.sender, .int .i64 v.every, .int .i64 v.dead, .int .i64 v.prio, .int .i64 v.dr, .int .i64 v.bdr, .slice v.seen.a v.seen.n v.seen.c, .bool v.ini, .bool v.mor, .bool v.mas, .int .i64 v.seq, .slice v.heads.a v.heads.n v.heads.c, .slice v.wants.a v.wants.n v.wants.c, .slice A n c, .slice v.acks.a v.acks.n v.acks.c])
  have B0 := Lib.hid ((Below.refl w.heap.size w).alloc (Nat.le_refl _) (.cells #[.int .i64 v.kind, .int .i64 v.sender, .int .i64 v.every, .int .i64 v.dead, .int .i64 v.prio, .int .i64 v.dr, .int .i64 v.bdr, .slice v.seen.a v.seen.n v.seen.c, .bool v.ini, .bool v.mor, .bool v.mas, .int .i64 v.seq, .slice v.heads.a v.heads.n v.heads.c, .slice v.wants.a v.wants.n v.wants.c, .slice A n c, .slice v.acks.a v.acks.n v.acks.c] 31))
  have HP := Lib.hid (h.below (B0.out.mono hB))
  obtain ⟨q1, q2, q3, -, q5, -⟩ := hs
  unfold maxLen at q1 q2 q3 q5 hn
  clear h
  have hs0 : B ≤ (w.alloc (.cells #[.int .i64 v.kind, .int .i64 v.sender, .int .i64 v.every, .int .i64 v.dead, .int .i64 v.prio, .int .i64 v.dr, .int .i64 v.bdr, .slice v.seen.a v.seen.n v.seen.c, .bool v.ini, .bool v.mor, .bool v.mas, .int .i64 v.seq, .slice v.heads.a v.heads.n v.heads.c, .slice v.wants.a v.wants.n v.wants.c, .slice A n c, .slice v.acks.a v.acks.n v.acks.c] 31)).heap.size := by simp; omega
  have hz0 : w.heap.size ≤ (w.alloc (.cells #[.int .i64 v.kind, .int .i64 v.sender, .int .i64 v.every, .int .i64 v.dead, .int .i64 v.prio, .int .i64 v.dr, .int .i64 v.bdr, .slice v.seen.a v.seen.n v.seen.c, .bool v.ini, .bool v.mor, .bool v.mas, .int .i64 v.seq, .slice v.heads.a v.heads.n v.heads.c, .slice v.wants.a v.wants.n v.wants.c, .slice A n c, .slice v.acks.a v.acks.n v.acks.c] 31)).heap.size := by simp
  go_enter Try.func7, Try.ntmps7
  go_upto_region 1 with fail
  have hlt0 := K0.out.lt
  generalize w.alloc (.cells #[.int .i64 v.kind, .int .i64 v.sender, .int .i64 v.every, .int .i64 v.dead, .int .i64 v.prio, .int .i64 v.dr, .int .i64 v.bdr, .slice v.seen.a v.seen.n v.seen.c, .bool v.ini, .bool v.mor, .bool v.mas, .int .i64 v.seq, .slice v.heads.a v.heads.n v.heads.c, .slice v.wants.a v.wants.n v.wants.c, .slice A n c, .slice v.acks.a v.acks.n v.acks.c] 31) = w0 at *
  obtain ⟨a0, a1, a2, a3, a4, a5, a6, a7, a8, a9, a10, a11, a12, a13, a14, a15⟩ := K0.out.sixteen
  go_wp2_with fail
  clear a0 a1 a2 a3 a4 a5 a6 a7 a8 a9 a10 a11 a12 a13 a14 a15
  go_loopw [8] (fun i wr => ∃ k : Nat, k ≤ n ∧ i = .int .i64 k ∧ Hid (Below w0.heap.size w0 wr)) (fun i _ => n - (intOf i).toNat)
  case atStart => exact ⟨0, Nat.zero_le _, rfl, Lib.hid (Below.refl _ _)⟩
  case round =>
    obtain ⟨k, hk, rfl, hb⟩ := hrel
    have hsz := hb.out.size
    by_cases hlt : k < n
    · obtain ⟨b, o, x, rfl, hbb, hx, hat⟩ := Arr.at (HP.out.below (hb.out.mono hs0)) hlt
      obtain ⟨⟨k0, k1, k2, k3, k4, k5, k6⟩, Ax, nx, cx, Ax', nx', cx', k7, k8, hLx, hMx, hnx, hnx'⟩ := hat
      unfold maxLen at hnx hnx'
      clear hx hLx hMx
      have hlt' : (k : Int) < n := by omega
      by_cases h1 : 20 < nx
      · go_wp2
        rw [← HQ.out]
        exact ⟨⟨_, rfl⟩, B0.out.trans ((hb.out.alloc hsz _).mono hz0)⟩
      · by_cases h2 : 20 < nx'
        · go_wp2
          rw [← HQ.out]
          exact ⟨⟨_, rfl⟩, B0.out.trans ((hb.out.alloc hsz _).mono hz0)⟩
        · go_wp2
          go_roundw
          case rel => exact ⟨k + 1, by omega, by go_num, Lib.hid (hb.out.alloc hsz _)⟩
          case measure => simp [intOf]; omega
    · obtain ⟨a0, a1, a2, a3, a4, a5, a6, a7, a8, a9, a10, a11, a12, a13, a14, a15⟩ := (K0.out.below hb.out hlt0).sixteen
      have BF := Lib.hid (B0.out.trans (hb.out.mono hz0))
      by_cases h1 : 30 < v.seen.n
      · go_wp2
        rw [← HQ.out]
        exact ⟨⟨_, rfl⟩, BF.out⟩
      by_cases h2 : 20 < v.heads.n
      · go_wp2
        rw [← HQ.out]
        exact ⟨⟨_, rfl⟩, BF.out⟩
      by_cases h3 : 20 < v.wants.n
      · go_wp2
        rw [← HQ.out]
        exact ⟨⟨_, rfl⟩, BF.out⟩
      by_cases h4 : 20 < n
      · go_wp2
        rw [← HQ.out]
        exact ⟨⟨_, rfl⟩, BF.out⟩
      go_wp2
      rw [← HQ.out]
      exact ⟨⟨_, rfl⟩, BF.out⟩

theorem long_any (v : Pv) (l : Pl) (B : Nat) (w : World) (h : PkIn w B v l) (hs : PkSm v) (hB : B ≤ w.heap.size) :
    Calls Try.prog 7 #[.agg #[.int .i64 v.kind, .int .i64 v.sender, .int .i64 v.every, .int .i64 v.dead, .int .i64 v.prio, .int .i64 v.dr, .int .i64 v.bdr, .slice v.seen.a v.seen.n v.seen.c, .bool v.ini, .bool v.mor, .bool v.mas, .int .i64 v.seq, .slice v.heads.a v.heads.n v.heads.c, .slice v.wants.a v.wants.n v.wants.c, .slice v.lsas.a v.lsas.n v.lsas.c, .slice v.acks.a v.acks.n v.acks.c]] w (LongR w) := long_core v v.lsas.a v.lsas.n v.lsas.c l.lsas B w h.2.2.2.1 hs hs.2.2.2.1 hB

end Go.Proofs.Ytekhgkkgmkodmaa
namespace Go.Proofs.Ytekhgkkgmkodmaa
open Go.RowKit

/-- The example: a Hello of nobody. -/
def exP : Pv := nobody 1 2 8 0 0 0
def exB : List Int := [2, 1, 0, 40, 0, 0, 0, 1, 0, 0, 0, 0, 253, 203, 0, 0, 0, 0, 0, 0, 0, 0, 0, 0, 0, 2, 0, 0, 0, 0, 0, 8, 0, 0, 0, 0, 0, 0, 0, 0]
theorem exB_is : pktBytes exP noL = exB := by decide
theorem ex_right : rightP exP noL = true := by decide
theorem ex_len : (bodyBs exP noL).length = 16 := by decide
theorem ex_good : goodB exB = true := by decide
theorem exB_byt : Byt exB := by rw [← exB_is]; exact pktBytes_byt _ _

set_option maxRecDepth 8000 in
set_option maxHeartbeats 8000000 in
theorem wakes_any (w : World) : Calls Try.prog 6 #[] w fun x w' => x = .returned (.bool true) ∧ Below w.heap.size w w' := by
  go_enter Try.func6, Try.ntmps6
  go_wp2_with fail
  refine (pput_yes exP noL 0 16 _ (nobody_in _ _ _ _ _ _ _ _) (nobody_sm _ _ _ _ _ _) (Nat.zero_le _) ex_right ex_len).mono ?_
  rintro e1 w1 ⟨g, rfl, hg, hk, hb1⟩
  rw [exB_is] at hk
  have R1 := Lib.hid hk.row
  have B1 := Lib.hid hb1
  clear hk hb1
  go_wp2_with fail
  refine (get_nobody (some ⟨g, 0, none⟩) 40 w1.heap.size exB _ 1 2 8 0 0 0 R1.out exB_byt (Nat.le_refl _) (Nat.le_refl _) (by unfold maxLen; omega) ex_good (by decide) (by decide) (by decide) (by decide) (by decide) (by decide) (by decide) (by decide) (by decide) (by decide) (by decide) ex_right).mono ?_
  rintro e2 w2 ⟨rfl, hb2⟩
  have B2 := Lib.hid (B1.out.trans (hb2.mono B1.out.size))
  clear hb2 R1 B1
  go_wp2_with fail
  refine (get_short none 0 0 _ (by omega)).mono ?_
  rintro e3 w3 ⟨rfl, hb3⟩
  have B3 := Lib.hid ((B2.out.alloc B2.out.size _).trans (hb3.mono (by have := B2.out.size; simp; omega)))
  clear hb3 B2
  go_wp2
  go_ret
  exact ⟨rfl, B3.out.alloc B3.out.size _⟩
end Go.Proofs.Ytekhgkkgmkodmaa
namespace Go.Proofs.Ytekhgkkgmkodmaa
open Go.RowKit

/-- What the reference's Get and GetHead answer. -/
def GotR (w : World) (h : Hd) (L : List Lk) (M : List Int) (e : Int) (x : Ending) (w' : World) : Prop :=
  ∃ A n c A' n' c', x = .returned (.agg #[.int .i64 h.age, .int .i64 h.kind, .int .i64 h.id, .int .i64 h.adv, .int .i64 h.seq, .int .i64 h.sum, .int .i64 h.long, .slice A n c, .slice A' n' c', .int .i64 e]) ∧ w'.ownsRow w.heap.size 106 4 (.slice A n c) n (lkCells L) ∧ L.length = n ∧ w'.ownsRow w.heap.size 3 1 (.slice A' n' c') n' (M.map (Value.int .i64)) ∧ M.length = n' ∧ Below w.heap.size w w'
theorem gotR_head {w w' : World} {h : Hd} {e : Int} (hb : Below w.heap.size w w') : GotR w h [] [] e (.returned (.agg #[.int .i64 h.age, .int .i64 h.kind, .int .i64 h.id, .int .i64 h.adv, .int .i64 h.seq, .int .i64 h.sum, .int .i64 h.long, .slice none 0 0, .slice none 0 0, .int .i64 e])) w' :=
  ⟨none, 0, 0, none, 0, 0, rfl, World.ownsRow_nil _ _ _ _, rfl, World.ownsRow_nil _ _ _ _, rfl, hb⟩

theorem Blk.ten {w : World} {g : Nat} {t : TypeId} {a0 a1 a2 a3 a4 a5 a6 a7 a8 a9 : Value} (h : Blk w g t #[a0, a1, a2, a3, a4, a5, a6, a7, a8, a9]) :
    w.cell? ⟨g, 0, none⟩ = some a0 ∧ w.cell? ⟨g, 1, none⟩ = some a1 ∧ w.cell? ⟨g, 2, none⟩ = some a2 ∧ w.cell? ⟨g, 3, none⟩ = some a3 ∧ w.cell? ⟨g, 4, none⟩ = some a4 ∧ w.cell? ⟨g, 5, none⟩ = some a5 ∧ w.cell? ⟨g, 6, none⟩ = some a6 ∧ w.cell? ⟨g, 7, none⟩ = some a7 ∧ w.cell? ⟨g, 8, none⟩ = some a8 ∧ w.cell? ⟨g, 9, none⟩ = some a9 :=
  ⟨h.cell 0, h.cell 1, h.cell 2, h.cell 3, h.cell 4, h.cell 5, h.cell 6, h.cell 7, h.cell 8, h.cell 9⟩
theorem Blk.tenF {w : World} {g : Nat} {t : TypeId} {cs : Array Value} (h : Blk w g t cs) :
    w.frozen? ⟨g, 0, none⟩ = false ∧ w.frozen? ⟨g, 1, none⟩ = false ∧ w.frozen? ⟨g, 2, none⟩ = false ∧ w.frozen? ⟨g, 3, none⟩ = false ∧ w.frozen? ⟨g, 4, none⟩ = false ∧ w.frozen? ⟨g, 5, none⟩ = false ∧ w.frozen? ⟨g, 6, none⟩ = false ∧ w.frozen? ⟨g, 7, none⟩ = false ∧ w.frozen? ⟨g, 8, none⟩ = false ∧ w.frozen? ⟨g, 9, none⟩ = false :=
  ⟨h.frozen 0, h.frozen 1, h.frozen 2, h.frozen 3, h.frozen 4, h.frozen 5, h.frozen 6, h.frozen 7, h.frozen 8, h.frozen 9⟩

end Go.Proofs.Ytekhgkkgmkodmaa
namespace Go.Proofs.Ytekhgkkgmkodmaa
open Go.ChangeShapes Go.WideShapes Go.RowKit Go.Deep
set_option maxRecDepth 20000

theorem Try.cells3 : Try.prog.cellsOf 3 = 1 := by kernel_rfl
theorem Try.cells23 : Try.prog.cellsOf 45 = 7 := by kernel_rfl
theorem Try.cells24 : Try.prog.cellsOf 46 = 1 := by kernel_rfl
theorem Try.cells25 : Try.prog.cellsOf 22 = 1 := by kernel_rfl
theorem Try.cells27 : Try.prog.cellsOf 48 = 9 := by kernel_rfl
theorem Try.cells53 : Try.prog.cellsOf 106 = 4 := by kernel_rfl

section
variable {H : Type} {enc : TypeId × Value → H} {w : World} {base : Nat} {held : Bool} {fuel : Nat}
theorem int_came {c : Value} {y : Option (DataW H × List MemPlace)} {spare : Nat → Bool} (hy : y.isSome = true) (h : DataW.trod enc Try.prog w base spare held fuel 3 [c] = y) : ∃ z, c = .int .i64 z := by
  obtain ⟨x, rfl⟩ := Option.isSome_iff_exists.1 hy
  obtain ⟨z, hz, _⟩ := DataW.trod_int Try.underlying3 h
  simp at hz
  exact ⟨z, hz⟩
/-- Seven integers that came in are a head. -/
theorem head_came {cs : List Value} {x : DataW H × List MemPlace} {spare : Nat → Bool} (h : DataW.trod enc Try.prog w base spare held fuel 45 cs = some x) :
    ∃ h : Hd, cs = [.int .i64 h.age, .int .i64 h.kind, .int .i64 h.id, .int .i64 h.adv, .int .i64 h.seq, .int .i64 h.sum, .int .i64 h.long] := by
  obtain ⟨xs, n, _, _, hcl, hlen, hg⟩ := DataW.trod_struct Try.underlying45 h
  rw [Try.cells23] at hcl
  have g0 : DataW.trod enc Try.prog w base spare held n 3 ((cs.drop 0).take (Try.prog.cellsOf 3)) = xs[0]? := hg 0 _ rfl
  have g1 : DataW.trod enc Try.prog w base spare held n 3 ((cs.drop 1).take (Try.prog.cellsOf 3)) = xs[1]? := hg 1 _ rfl
  have g2 : DataW.trod enc Try.prog w base spare held n 3 ((cs.drop 2).take (Try.prog.cellsOf 3)) = xs[2]? := hg 2 _ rfl
  have g3 : DataW.trod enc Try.prog w base spare held n 3 ((cs.drop 3).take (Try.prog.cellsOf 3)) = xs[3]? := hg 3 _ rfl
  have g4 : DataW.trod enc Try.prog w base spare held n 3 ((cs.drop 4).take (Try.prog.cellsOf 3)) = xs[4]? := hg 4 _ rfl
  have g5 : DataW.trod enc Try.prog w base spare held n 3 ((cs.drop 5).take (Try.prog.cellsOf 3)) = xs[5]? := hg 5 _ rfl
  have g6 : DataW.trod enc Try.prog w base spare held n 3 ((cs.drop 6).take (Try.prog.cellsOf 3)) = xs[6]? := hg 6 _ rfl
  rw [Try.cells3] at g0 g1 g2 g3 g4 g5 g6
  match cs, hcl, xs, hlen with
  | [c0, c1, c2, c3, c4, c5, c6], _, [y0, y1, y2, y3, y4, y5, y6], _ =>
    obtain ⟨z0, rfl⟩ := int_came rfl g0
    obtain ⟨z1, rfl⟩ := int_came rfl g1
    obtain ⟨z2, rfl⟩ := int_came rfl g2
    obtain ⟨z3, rfl⟩ := int_came rfl g3
    obtain ⟨z4, rfl⟩ := int_came rfl g4
    obtain ⟨z5, rfl⟩ := int_came rfl g5
    obtain ⟨z6, rfl⟩ := int_came rfl g6
    exact ⟨⟨z0, z1, z2, z3, z4, z5, z6⟩, rfl⟩
/-- Four integers that came in are a link. -/
theorem link_came {cs : List Value} {x : DataW H × List MemPlace} {spare : Nat → Bool} (h : DataW.trod enc Try.prog w base spare held fuel 106 cs = some x) :
    ∃ k : Lk, cs = [.int .i64 k.kind, .int .i64 k.id, .int .i64 k.data, .int .i64 k.cost] := by
  obtain ⟨xs, n, _, _, hcl, hlen, hg⟩ := DataW.trod_struct Try.underlying106 h
  rw [Try.cells53] at hcl
  have g0 : DataW.trod enc Try.prog w base spare held n 3 ((cs.drop 0).take (Try.prog.cellsOf 3)) = xs[0]? := hg 0 _ rfl
  have g1 : DataW.trod enc Try.prog w base spare held n 3 ((cs.drop 1).take (Try.prog.cellsOf 3)) = xs[1]? := hg 1 _ rfl
  have g2 : DataW.trod enc Try.prog w base spare held n 3 ((cs.drop 2).take (Try.prog.cellsOf 3)) = xs[2]? := hg 2 _ rfl
  have g3 : DataW.trod enc Try.prog w base spare held n 3 ((cs.drop 3).take (Try.prog.cellsOf 3)) = xs[3]? := hg 3 _ rfl
  rw [Try.cells3] at g0 g1 g2 g3
  match cs, hcl, xs, hlen with
  | [c0, c1, c2, c3], _, [y0, y1, y2, y3], _ =>
    obtain ⟨z0, rfl⟩ := int_came rfl g0
    obtain ⟨z1, rfl⟩ := int_came rfl g1
    obtain ⟨z2, rfl⟩ := int_came rfl g2
    obtain ⟨z3, rfl⟩ := int_came rfl g3
    exact ⟨⟨z0, z1, z2, z3⟩, rfl⟩
/-- A slice of links that came in. -/
theorem lnk_came {v : Value} {x : DataW H × List MemPlace} (h : DataW.trod enc Try.prog w base (fun _ => true) held fuel 46 [v] = some x) :
    ∃ A n c L, v = .slice A n c ∧ Lnk w w.heap.size A n L ∧ n ≤ c ∧ c ≤ maxLen := by
  rcases open_slice Try.underlying46 h with ⟨hcs, _⟩ | ⟨a, len, cap, m, n, D, Pl, hcs, _, hl, hm, hmm, _, hi⟩
  · simp at hcs
    subst hcs
    exact ⟨none, 0, 0, [], rfl, Lnk.nil, Nat.le_refl _, by unfold maxLen; omega⟩
  · simp at hcs
    subst hcs
    simp at hmm
    subst hmm
    rw [Try.cells53] at hi
    have hk : ∀ i, i < m → ∃ k : Lk, w.cell? (a.add (i * 4)) = some (.int .i64 k.kind) ∧ w.cell? ((a.add (i * 4)).add 1) = some (.int .i64 k.id) ∧ w.cell? ((a.add (i * 4)).add 2) = some (.int .i64 k.data) ∧ w.cell? ((a.add (i * 4)).add 3) = some (.int .i64 k.cost) := by
      intro i him
      obtain ⟨cs', hc, ht⟩ := hi i him
      obtain ⟨_, hcl, hat⟩ := World.cells?_some hc
      obtain ⟨k, rfl⟩ := link_came ht
      refine ⟨k, ?_, hat 1 (by omega), hat 2 (by omega), hat 3 (by omega)⟩
      have h0 := hat 0 (by omega)
      have e : (a.add (i * 4)).add 0 = a.add (i * 4) := by
        unfold Addr.add
        split <;> simp_all
      rw [e] at h0
      exact h0
    obtain ⟨F, hF⟩ : ∃ F : Nat → Lk, ∀ i, i < m → w.cell? (a.add (i * 4)) = some (.int .i64 (F i).kind) ∧ w.cell? ((a.add (i * 4)).add 1) = some (.int .i64 (F i).id) ∧ w.cell? ((a.add (i * 4)).add 2) = some (.int .i64 (F i).data) ∧ w.cell? ((a.add (i * 4)).add 3) = some (.int .i64 (F i).cost) := by
      refine ⟨fun i => if hi : i < m then Classical.choose (hk i hi) else ⟨0, 0, 0, 0⟩, fun i him => ?_⟩
      simp only [him, dif_pos]
      exact Classical.choose_spec (hk i him)
    refine ⟨some a, len, m, (List.range len).map F, rfl, ⟨by simp, fun hn => ?_⟩, hl, hm⟩
    obtain ⟨b, o, spot⟩ := a
    have hspot : spot = none := by simpa [Addr.add] using World.cell?_spot (hF 0 (by omega)).1
    subst hspot
    refine ⟨b, o, rfl, World.block_lt_of_cell? w _ (hF 0 (by omega)).1, fun j hj => ?_⟩
    have e : ((List.range len).map F).getD j ⟨0, 0, 0, 0⟩ = F j := by
      rw [List.getD_eq_getElem?_getD, List.getElem?_map, List.getElem?_range hj]; rfl
    rw [e]
    obtain ⟨h0, h1, h2, h3⟩ := hF j (by omega)
    simp only [addr_add] at h0 h1 h2 h3
    exact ⟨h0, h1, h2, h3⟩
/-- A slice of integers that came in. -/
theorem ints_came {v : Value} {x : DataW H × List MemPlace} (h : DataW.trod enc Try.prog w base (fun _ => true) held fuel 22 [v] = some x) :
    ∃ A n c M, v = .slice A n c ∧ Row .i64 w w.heap.size A n M ∧ n ≤ c ∧ c ≤ maxLen := by
  rcases open_ints Try.underlying22 Try.underlying3 Try.cells3 h with ⟨hcs, _⟩ | ⟨x', l, c, zs, hcs, _, hl, hm, hz, _, hcell, hwz⟩
  · simp at hcs
    subst hcs
    exact ⟨none, 0, 0, [], rfl, Row.nil, Nat.le_refl _, by unfold maxLen; omega⟩
  · simp at hcs
    subst hcs
    obtain ⟨M, h1, _, h3, _⟩ := row_of_is (k := .i64) (w := w) (a := some x') (len := l) (cap := c) (zs := zs) (.inr ⟨x', rfl, hl, hm, by simpa using hz, hcell, hwz⟩)
    exact ⟨some x', l, c, M, rfl, h1, hl, hm⟩
/-- A description that came in. -/
theorem lsa_came {v : Value} {d : DataW H} {p : List MemPlace} {r : Reach} {b0 : Nat} (hv : Value.okWide Try.prog w r b0 48 v) (h : DataW.Trod enc Try.prog w base (fun _ => true) held 48 v d p) :
    ∃ (h : Hd) (A A' : Option Addr) (n c n' c' : Nat) (L : List Lk) (M : List Int), v = .agg #[.int .i64 h.age, .int .i64 h.kind, .int .i64 h.id, .int .i64 h.adv, .int .i64 h.seq, .int .i64 h.sum, .int .i64 h.long, .slice A n c, .slice A' n' c'] ∧
      Lnk w w.heap.size A n L ∧ n ≤ maxLen ∧ Row .i64 w w.heap.size A' n' M ∧ n' ≤ maxLen := by
  obtain ⟨cs, rfl, hsz⟩ := okWide_struct Try.underlying48 hv
  obtain ⟨l⟩ := cs
  obtain ⟨fuel, hf⟩ := h
  obtain ⟨xs, n, _, _, hcl, hlen, hg⟩ := DataW.trod_struct Try.underlying48 hf
  rw [Try.cells27] at hsz
  have g0 : DataW.trod enc Try.prog w base (fun _ => true) held n 45 ((l.drop 0).take (Try.prog.cellsOf 45)) = xs[0]? := hg 0 _ rfl
  have g1 : DataW.trod enc Try.prog w base (fun _ => true) held n 46 ((l.drop 7).take (Try.prog.cellsOf 46)) = xs[1]? := hg 1 _ rfl
  have g2 : DataW.trod enc Try.prog w base (fun _ => true) held n 22 ((l.drop 8).take (Try.prog.cellsOf 22)) = xs[2]? := hg 2 _ rfl
  rw [Try.cells23] at g0
  rw [Try.cells24] at g1
  rw [Try.cells25] at g2
  match l, hsz, xs, hlen with
  | [c0, c1, c2, c3, c4, c5, c6, c7, c8], _, [y0, y1, y2], _ =>
    obtain ⟨h, hh⟩ := head_came g0
    obtain ⟨A, n1, e1, L, hL, h1, h2, h3⟩ := lnk_came (v := c7) g1
    obtain ⟨A', n2, e2, M, hM, h4, h5, h6⟩ := ints_came (v := c8) g2
    simp at hh
    obtain ⟨rfl, rfl, rfl, rfl, rfl, rfl, rfl⟩ := hh
    subst hL hM
    exact ⟨h, A, A', n1, e1, n2, e2, L, M, rfl, h1, by omega, h4, by omega⟩
theorem hd_came {v : Value} {d : DataW H} {p : List MemPlace} {r : Reach} {b0 : Nat} {spare : Nat → Bool} (hv : Value.okWide Try.prog w r b0 45 v) (h : DataW.Trod enc Try.prog w base spare held 45 v d p) :
    ∃ h : Hd, v = .agg #[.int .i64 h.age, .int .i64 h.kind, .int .i64 h.id, .int .i64 h.adv, .int .i64 h.seq, .int .i64 h.sum, .int .i64 h.long] := by
  obtain ⟨cs, rfl, hsz⟩ := okWide_struct Try.underlying45 hv
  obtain ⟨l⟩ := cs
  obtain ⟨fuel, hf⟩ := h
  obtain ⟨h, hh⟩ := head_came hf
  refine ⟨h, ?_⟩
  simp [Value.cells] at hh
  rw [hh]
end
end Go.Proofs.Ytekhgkkgmkodmaa
namespace Go.Proofs.Ytekhgkkgmkodmaa
open Go.ChangeShapes Go.WideShapes Go.RowKit Go.Deep
set_option maxRecDepth 20000

theorem Try.cellsBool : Try.prog.cellsOf 4 = 1 := by kernel_rfl
theorem Try.cellsKey : Try.prog.cellsOf 60 = 3 := by kernel_rfl
theorem Try.cellsHello : Try.prog.cellsOf 24 = 6 := by kernel_rfl
theorem Try.cellsDd : Try.prog.cellsOf 27 = 5 := by kernel_rfl
theorem Try.cellsHeads : Try.prog.cellsOf 25 = 1 := by kernel_rfl
theorem Try.cellsKeys : Try.prog.cellsOf 28 = 1 := by kernel_rfl
theorem Try.cellsLsas : Try.prog.cellsOf 29 = 1 := by kernel_rfl
theorem Try.cellsPkt : Try.prog.cellsOf 31 = 16 := by kernel_rfl

section
variable {H : Type} {enc : TypeId × Value → H} {w : World} {base : Nat} {held : Bool} {fuel : Nat}
theorem int_cameB {c : Value} {y : Option (DataW H × List MemPlace)} {spare : Nat → Bool} (hy : y.isSome = true) (h : DataW.trod enc Try.prog w base spare held fuel 3 [c] = y) : ∃ z, c = .int .i64 z ∧ -9223372036854775808 ≤ z ∧ z ≤ 9223372036854775807 := by
  obtain ⟨x, rfl⟩ := Option.isSome_iff_exists.1 hy
  obtain ⟨z, hz, _, hw⟩ := DataW.trod_int Try.underlying3 h
  simp at hz
  have := bounds_i64 hw
  exact ⟨z, hz, by omega, by omega⟩
theorem bool_came {c : Value} {y : Option (DataW H × List MemPlace)} {spare : Nat → Bool} (hy : y.isSome = true) (h : DataW.trod enc Try.prog w base spare held fuel 4 [c] = y) : ∃ z, c = .bool z := by
  obtain ⟨x, rfl⟩ := Option.isSome_iff_exists.1 hy
  obtain ⟨z, hz, _⟩ := DataW.trod_bool Try.underlying4 h
  simp at hz
  exact ⟨z, hz⟩
/-- Three integers that came in are a key. -/
theorem key_came {cs : List Value} {x : DataW H × List MemPlace} {spare : Nat → Bool} (h : DataW.trod enc Try.prog w base spare held fuel 60 cs = some x) :
    ∃ k : Ky, cs = [.int .i64 k.kind, .int .i64 k.id, .int .i64 k.adv] ∧ -9223372036854775808 ≤ k.id ∧ k.id ≤ 9223372036854775807 := by
  obtain ⟨xs, n, _, _, hcl, hlen, hg⟩ := DataW.trod_struct Try.underlying60 h
  rw [Try.cellsKey] at hcl
  have g0 : DataW.trod enc Try.prog w base spare held n 3 ((cs.drop 0).take (Try.prog.cellsOf 3)) = xs[0]? := hg 0 _ rfl
  have g1 : DataW.trod enc Try.prog w base spare held n 3 ((cs.drop 1).take (Try.prog.cellsOf 3)) = xs[1]? := hg 1 _ rfl
  have g2 : DataW.trod enc Try.prog w base spare held n 3 ((cs.drop 2).take (Try.prog.cellsOf 3)) = xs[2]? := hg 2 _ rfl
  rw [Try.cells3] at g0 g1 g2
  match cs, hcl, xs, hlen with
  | [c0, c1, c2], _, [y0, y1, y2], _ =>
    obtain ⟨z0, rfl⟩ := int_came rfl g0
    obtain ⟨z1, rfl, hb1, hb2⟩ := int_cameB rfl g1
    obtain ⟨z2, rfl⟩ := int_came rfl g2
    exact ⟨⟨z0, z1, z2⟩, rfl, hb1, hb2⟩
/-- A slice of structs that came in. -/
theorem arr_came {α : Type} {sz t te : Nat} {P : World → Nat → Nat → Nat → α → Prop} {v : Value} {x : DataW H × List MemPlace} (d0 : α) (ht : Try.prog.underlying t = some (.slice te)) (hsz : Try.prog.cellsOf te = sz) (hpos : 0 < sz)
    (hP : ∀ (n : Nat) (a : Addr) (cs : List Value) (y : DataW H × List MemPlace), (∀ i, i < sz → w.cell? (a.add i) = cs[i]?) → DataW.trod enc Try.prog w base (fun _ => true) held n te cs = some y → a.spot = none → ∃ k, P w w.heap.size a.block a.off k)
    (h : DataW.trod enc Try.prog w base (fun _ => true) held fuel t [v] = some x) :
    ∃ A n c L, v = .slice A n c ∧ Arr sz P w w.heap.size A n L ∧ n ≤ c ∧ c ≤ maxLen := by
  rcases open_slice ht h with ⟨hcs, _⟩ | ⟨a, len, cap, m, n, D, Pl, hcs, _, hl, hm, hmm, _, hi⟩
  · simp at hcs
    subst hcs
    exact ⟨none, 0, 0, [], rfl, Arr.nil, Nat.le_refl _, by unfold maxLen; omega⟩
  · simp at hcs
    subst hcs
    simp at hmm
    subst hmm
    rw [hsz] at hi
    have hk : ∀ i, i < m → (a.add (i * sz)).spot = none ∧ (a.add (i * sz)).block < w.heap.size ∧ ∃ k, P w w.heap.size (a.add (i * sz)).block (a.add (i * sz)).off k := by
      intro i him
      obtain ⟨cs', hc, htr⟩ := hi i him
      obtain ⟨_, hcl, hat⟩ := World.cells?_some hc
      have h0 := hat 0 hpos
      have e : (a.add (i * sz)).add 0 = a.add (i * sz) := by
        unfold Addr.add
        split <;> simp_all
      rw [e] at h0
      rw [List.getElem?_eq_getElem (by omega)] at h0
      have hsp := World.cell?_spot h0
      exact ⟨hsp, World.block_lt_of_cell? w _ h0, hP _ _ _ _ hat htr hsp⟩
    have hsp : 0 < m → a.spot = none := fun h0 => by simpa [Addr.add] using (hk 0 h0).1
    obtain ⟨F, hF⟩ : ∃ F : Nat → α, ∀ i, i < m → P w w.heap.size (a.add (i * sz)).block (a.add (i * sz)).off (F i) := by
      refine ⟨fun i => if hi : i < m then Classical.choose (hk i hi).2.2 else d0, fun i him => ?_⟩
      simp only [him, dif_pos]
      exact Classical.choose_spec (hk i him).2.2
    refine ⟨some a, len, m, (List.range len).map F, rfl, ⟨by simp, fun hn => ?_⟩, hl, hm⟩
    obtain ⟨b, o, spot⟩ := a
    have hspot : spot = none := hsp (by omega)
    subst hspot
    have hb := (hk 0 (by omega)).2.1
    simp only [addr_add] at hb hF
    refine ⟨b, o, rfl, hb, fun j y hy => ?_⟩
    rw [List.getElem?_map] at hy
    have hj : j < len := by
      rcases Nat.lt_or_ge j len with h | h
      · exact h
      · rw [List.getElem?_eq_none (by simpa using h)] at hy
        cases hy
    rw [List.getElem?_range hj] at hy
    obtain rfl : F j = y := by simpa using hy
    exact hF j (by omega)
theorem hds_came {v : Value} {x : DataW H × List MemPlace} (h : DataW.trod enc Try.prog w base (fun _ => true) held fuel 25 [v] = some x) :
    ∃ A n c L, v = .slice A n c ∧ Hds w w.heap.size A n L ∧ n ≤ c ∧ c ≤ maxLen := by
  refine arr_came (P := HdAt) zeroHd Try.underlying25 Try.cells23 (by omega) ?_ h
  intro n a cs y hat htr hsp
  obtain ⟨k, rfl⟩ := head_came htr
  obtain ⟨b, o, spot⟩ := a
  obtain rfl : spot = none := hsp
  simp only [addr_add] at hat
  exact ⟨k, hat 0 (by omega), hat 1 (by omega), hat 2 (by omega), hat 3 (by omega), hat 4 (by omega), hat 5 (by omega), hat 6 (by omega)⟩
theorem kys_came {v : Value} {x : DataW H × List MemPlace} (h : DataW.trod enc Try.prog w base (fun _ => true) held fuel 28 [v] = some x) :
    ∃ A n c L, v = .slice A n c ∧ Kys w w.heap.size A n L ∧ n ≤ c ∧ c ≤ maxLen := by
  refine arr_came (P := KyAt) ⟨0, 0, 0⟩ Try.underlying28 Try.cellsKey (by omega) ?_ h
  intro n a cs y hat htr hsp
  obtain ⟨k, rfl, hb1, hb2⟩ := key_came htr
  obtain ⟨b, o, spot⟩ := a
  obtain rfl : spot = none := hsp
  simp only [addr_add] at hat
  exact ⟨k, hat 0 (by omega), hat 1 (by omega), hat 2 (by omega), hb1, hb2⟩
/-- The nine cells of a description that came in. -/
theorem la_came {cs : List Value} {x : DataW H × List MemPlace} (h : DataW.trod enc Try.prog w base (fun _ => true) held fuel 48 cs = some x) :
    ∃ (h : Hd) (A A' : Option Addr) (n c n' c' : Nat) (L : List Lk) (M : List Int), cs = [.int .i64 h.age, .int .i64 h.kind, .int .i64 h.id, .int .i64 h.adv, .int .i64 h.seq, .int .i64 h.sum, .int .i64 h.long, .slice A n c, .slice A' n' c'] ∧
      Lnk w w.heap.size A n L ∧ n ≤ maxLen ∧ Row .i64 w w.heap.size A' n' M ∧ n' ≤ maxLen := by
  obtain ⟨xs, n, _, _, hcl, hlen, hg⟩ := DataW.trod_struct Try.underlying48 h
  rw [Try.cells27] at hcl
  have g0 : DataW.trod enc Try.prog w base (fun _ => true) held n 45 ((cs.drop 0).take (Try.prog.cellsOf 45)) = xs[0]? := hg 0 _ rfl
  have g1 : DataW.trod enc Try.prog w base (fun _ => true) held n 46 ((cs.drop 7).take (Try.prog.cellsOf 46)) = xs[1]? := hg 1 _ rfl
  have g2 : DataW.trod enc Try.prog w base (fun _ => true) held n 22 ((cs.drop 8).take (Try.prog.cellsOf 22)) = xs[2]? := hg 2 _ rfl
  rw [Try.cells23] at g0
  rw [Try.cells24] at g1
  rw [Try.cells25] at g2
  match cs, hcl, xs, hlen with
  | [c0, c1, c2, c3, c4, c5, c6, c7, c8], _, [y0, y1, y2], _ =>
    obtain ⟨k, hh⟩ := head_came g0
    obtain ⟨A, n1, e1, L, hL, h1, h2, h3⟩ := lnk_came (v := c7) g1
    obtain ⟨A', n2, e2, M, hM, h4, h5, h6⟩ := ints_came (v := c8) g2
    simp at hh
    obtain ⟨rfl, rfl, rfl, rfl, rfl, rfl, rfl⟩ := hh
    subst hL hM
    exact ⟨k, A, A', n1, e1, n2, e2, L, M, rfl, h1, by omega, h4, by omega⟩
theorem las_came {v : Value} {x : DataW H × List MemPlace} (h : DataW.trod enc Try.prog w base (fun _ => true) held fuel 29 [v] = some x) :
    ∃ A n c L, v = .slice A n c ∧ Las w w.heap.size A n L ∧ n ≤ c ∧ c ≤ maxLen := by
  refine arr_came (P := LaAt) ⟨zeroHd, [], []⟩ Try.underlying29 Try.cells27 (by omega) ?_ h
  intro n a cs y hat htr hsp
  obtain ⟨k, A, A', n1, e1, n2, e2, L, M, rfl, h1, h2, h3, h4⟩ := la_came htr
  obtain ⟨b, o, spot⟩ := a
  obtain rfl : spot = none := hsp
  simp only [addr_add] at hat
  exact ⟨⟨k, L, M⟩, ⟨hat 0 (by omega), hat 1 (by omega), hat 2 (by omega), hat 3 (by omega), hat 4 (by omega), hat 5 (by omega), hat 6 (by omega)⟩, A, n1, e1, A', n2, e2, hat 7 (by omega), hat 8 (by omega), h1, h3, h2, h4⟩
theorem hello_came {cs : List Value} {x : DataW H × List MemPlace} (h : DataW.trod enc Try.prog w base (fun _ => true) held fuel 24 cs = some x) :
    ∃ (a b c d e : Int) (A : Option Addr) (n m : Nat) (S : List Int), cs = [.int .i64 a, .int .i64 b, .int .i64 c, .int .i64 d, .int .i64 e, .slice A n m] ∧ Row .i64 w w.heap.size A n S ∧ n ≤ maxLen := by
  obtain ⟨xs, n, _, _, hcl, hlen, hg⟩ := DataW.trod_struct Try.underlying24 h
  rw [Try.cellsHello] at hcl
  have g0 : DataW.trod enc Try.prog w base (fun _ => true) held n 3 ((cs.drop 0).take (Try.prog.cellsOf 3)) = xs[0]? := hg 0 _ rfl
  have g1 : DataW.trod enc Try.prog w base (fun _ => true) held n 3 ((cs.drop 1).take (Try.prog.cellsOf 3)) = xs[1]? := hg 1 _ rfl
  have g2 : DataW.trod enc Try.prog w base (fun _ => true) held n 3 ((cs.drop 2).take (Try.prog.cellsOf 3)) = xs[2]? := hg 2 _ rfl
  have g3 : DataW.trod enc Try.prog w base (fun _ => true) held n 3 ((cs.drop 3).take (Try.prog.cellsOf 3)) = xs[3]? := hg 3 _ rfl
  have g4 : DataW.trod enc Try.prog w base (fun _ => true) held n 3 ((cs.drop 4).take (Try.prog.cellsOf 3)) = xs[4]? := hg 4 _ rfl
  have g5 : DataW.trod enc Try.prog w base (fun _ => true) held n 22 ((cs.drop 5).take (Try.prog.cellsOf 22)) = xs[5]? := hg 5 _ rfl
  rw [Try.cells3] at g0 g1 g2 g3 g4
  rw [Try.cells25] at g5
  match cs, hcl, xs, hlen with
  | [c0, c1, c2, c3, c4, c5], _, [y0, y1, y2, y3, y4, y5], _ =>
    obtain ⟨z0, rfl⟩ := int_came rfl g0
    obtain ⟨z1, rfl⟩ := int_came rfl g1
    obtain ⟨z2, rfl⟩ := int_came rfl g2
    obtain ⟨z3, rfl⟩ := int_came rfl g3
    obtain ⟨z4, rfl⟩ := int_came rfl g4
    obtain ⟨A, n1, e1, S, rfl, h1, h2, h3⟩ := ints_came (v := c5) g5
    exact ⟨z0, z1, z2, z3, z4, A, n1, e1, S, rfl, h1, by omega⟩
theorem dd_came {cs : List Value} {x : DataW H × List MemPlace} (h : DataW.trod enc Try.prog w base (fun _ => true) held fuel 27 cs = some x) :
    ∃ (a b c : Bool) (d : Int) (A : Option Addr) (n m : Nat) (S : List Hd), cs = [.bool a, .bool b, .bool c, .int .i64 d, .slice A n m] ∧ Hds w w.heap.size A n S ∧ n ≤ maxLen ∧ -9223372036854775808 ≤ d ∧ d ≤ 9223372036854775807 := by
  obtain ⟨xs, n, _, _, hcl, hlen, hg⟩ := DataW.trod_struct Try.underlying27 h
  rw [Try.cellsDd] at hcl
  have g0 : DataW.trod enc Try.prog w base (fun _ => true) held n 4 ((cs.drop 0).take (Try.prog.cellsOf 4)) = xs[0]? := hg 0 _ rfl
  have g1 : DataW.trod enc Try.prog w base (fun _ => true) held n 4 ((cs.drop 1).take (Try.prog.cellsOf 4)) = xs[1]? := hg 1 _ rfl
  have g2 : DataW.trod enc Try.prog w base (fun _ => true) held n 4 ((cs.drop 2).take (Try.prog.cellsOf 4)) = xs[2]? := hg 2 _ rfl
  have g3 : DataW.trod enc Try.prog w base (fun _ => true) held n 3 ((cs.drop 3).take (Try.prog.cellsOf 3)) = xs[3]? := hg 3 _ rfl
  have g4 : DataW.trod enc Try.prog w base (fun _ => true) held n 25 ((cs.drop 4).take (Try.prog.cellsOf 25)) = xs[4]? := hg 4 _ rfl
  rw [Try.cellsBool] at g0 g1 g2
  rw [Try.cells3] at g3
  rw [Try.cellsHeads] at g4
  match cs, hcl, xs, hlen with
  | [c0, c1, c2, c3, c4], _, [y0, y1, y2, y3, y4], _ =>
    obtain ⟨z0, rfl⟩ := bool_came rfl g0
    obtain ⟨z1, rfl⟩ := bool_came rfl g1
    obtain ⟨z2, rfl⟩ := bool_came rfl g2
    obtain ⟨z3, rfl, hb1, hb2⟩ := int_cameB rfl g3
    obtain ⟨A, n1, e1, S, rfl, h1, h2, h3⟩ := hds_came (v := c4) g4
    exact ⟨z0, z1, z2, z3, A, n1, e1, S, rfl, h1, by omega, hb1, hb2⟩
/-- A packet that came in. -/
theorem pkt_came {v : Value} {d : DataW H} {p : List MemPlace} {r : Reach} {b0 : Nat} (hv : Value.okWide Try.prog w r b0 31 v) (h : DataW.Trod enc Try.prog w base (fun _ => true) held 31 v d p) :
    ∃ (q : Pv) (l : Pl), v = .agg #[.int .i64 q.kind, .int .i64 q.sender, .int .i64 q.every, .int .i64 q.dead, .int .i64 q.prio, .int .i64 q.dr, .int .i64 q.bdr, .slice q.seen.a q.seen.n q.seen.c, .bool q.ini, .bool q.mor, .bool q.mas, .int .i64 q.seq, .slice q.heads.a q.heads.n q.heads.c, .slice q.wants.a q.wants.n q.wants.c, .slice q.lsas.a q.lsas.n q.lsas.c, .slice q.acks.a q.acks.n q.acks.c] ∧ PkIn w w.heap.size q l ∧ PkSm q := by
  obtain ⟨cs, rfl, hsz⟩ := okWide_struct Try.underlying31 hv
  obtain ⟨l⟩ := cs
  obtain ⟨fuel, hf⟩ := h
  obtain ⟨xs, n, _, _, hcl, hlen, hg⟩ := DataW.trod_struct Try.underlying31 hf
  rw [Try.cellsPkt] at hsz
  have g0 : DataW.trod enc Try.prog w base (fun _ => true) held n 3 ((l.drop 0).take (Try.prog.cellsOf 3)) = xs[0]? := hg 0 _ rfl
  have g1 : DataW.trod enc Try.prog w base (fun _ => true) held n 3 ((l.drop 1).take (Try.prog.cellsOf 3)) = xs[1]? := hg 1 _ rfl
  have g2 : DataW.trod enc Try.prog w base (fun _ => true) held n 24 ((l.drop 2).take (Try.prog.cellsOf 24)) = xs[2]? := hg 2 _ rfl
  have g3 : DataW.trod enc Try.prog w base (fun _ => true) held n 27 ((l.drop 8).take (Try.prog.cellsOf 27)) = xs[3]? := hg 3 _ rfl
  have g4 : DataW.trod enc Try.prog w base (fun _ => true) held n 28 ((l.drop 13).take (Try.prog.cellsOf 28)) = xs[4]? := hg 4 _ rfl
  have g5 : DataW.trod enc Try.prog w base (fun _ => true) held n 29 ((l.drop 14).take (Try.prog.cellsOf 29)) = xs[5]? := hg 5 _ rfl
  have g6 : DataW.trod enc Try.prog w base (fun _ => true) held n 25 ((l.drop 15).take (Try.prog.cellsOf 25)) = xs[6]? := hg 6 _ rfl
  rw [Try.cells3] at g0 g1
  rw [Try.cellsHello] at g2
  rw [Try.cellsDd] at g3
  rw [Try.cellsKeys] at g4
  rw [Try.cellsLsas] at g5
  rw [Try.cellsHeads] at g6
  match l, hsz, xs, hlen with
  | [c0, c1, c2, c3, c4, c5, c6, c7, c8, c9, c10, c11, c12, c13, c14, c15], _, [y0, y1, y2, y3, y4, y5, y6], _ =>
    obtain ⟨z0, rfl⟩ := int_came rfl g0
    obtain ⟨z1, rfl⟩ := int_came rfl g1
    obtain ⟨z2, z3, z4, z5, z6, A7, n7, m7, S, hh, hS, hn7⟩ := hello_came g2
    obtain ⟨b8, b9, b10, z11, A12, n12, m12, HS, hh2, hHS, hn12, hb1, hb2⟩ := dd_came g3
    obtain ⟨A13, n13, m13, K, rfl, hK, h131, h132⟩ := kys_came (v := c13) g4
    obtain ⟨A14, n14, m14, L, rfl, hL, h141, h142⟩ := las_came (v := c14) g5
    obtain ⟨A15, n15, m15, G, rfl, hG, h151, h152⟩ := hds_came (v := c15) g6
    simp at hh hh2
    obtain ⟨rfl, rfl, rfl, rfl, rfl, rfl⟩ := hh
    obtain ⟨rfl, rfl, rfl, rfl, rfl⟩ := hh2
    exact ⟨⟨z0, z1, z2, z3, z4, z5, z6, ⟨A7, n7, m7⟩, b8, b9, b10, z11, ⟨A12, n12, m12⟩, ⟨A13, n13, m13⟩, ⟨A14, n14, m14⟩, ⟨A15, n15, m15⟩⟩, ⟨S, HS, K, L, G⟩, rfl, ⟨hS, hHS, hK, hL, hG⟩, hn7, hn12, by show n13 ≤ _; omega, by show n14 ≤ _; omega, by show n15 ≤ _; omega, hb1, hb2⟩
end
end Go.Proofs.Ytekhgkkgmkodmaa
namespace Go.Proofs.Ytekhgkkgmkodmaa
open Go.RowKit

/-- A reader of the bytes l, at place a, with the error e; if there is one, fewer than four bytes are left. -/
def RdE (w : World) (base g : Nat) (l : List Int) (a : Nat) (e : Int) : Prop :=
  ∃ d c, Blk w g 99 #[.slice (some ⟨d, 0, none⟩) l.length c, .int .i64 a, .int .i64 e] ∧ Row .u8 w (d + 1) (some ⟨d, 0, none⟩) l.length l ∧ base ≤ d ∧ d < g ∧ l.length ≤ c ∧ c ≤ maxLen ∧ a ≤ l.length ∧ Byt l ∧ (e = 0 ∨ (e = 3 ∧ l.length < a + 4))
section
variable {w w' : World} {base b g a : Nat} {l : List Int} {e : Int}
theorem RdE.lt (h : RdE w base g l a e) : g < w.heap.size ∧ base ≤ g := by
  obtain ⟨d, c, h1, _, h3, h4, _⟩ := h
  exact ⟨h1.lt, by omega⟩
theorem RdE.at (h : RdE w base g l a e) : a ≤ l.length := by
  obtain ⟨d, c, h1, _, h3, h4, h5, h6, h7, _⟩ := h
  exact h7
theorem RdE.byt (h : RdE w base g l a e) : Byt l := by
  obtain ⟨d, c, h1, _, h3, h4, h5, h6, h7, h8, _⟩ := h
  exact h8
theorem RdE.is (h : RdE w base g l a e) : e = 0 ∨ (e = 3 ∧ l.length < a + 4) := by
  obtain ⟨d, c, h1, _, h3, h4, h5, h6, h7, h8, h9⟩ := h
  exact h9
theorem RdE.below (h : RdE w base g l a e) (hb : Below b w w') (hg : g < b) : RdE w' base g l a e := by
  obtain ⟨d, c, h1, h2, h3, h4, h5⟩ := h
  exact ⟨d, c, h1.below hb hg, h2.below (hb.mono (by omega)), h3, h4, h5⟩
theorem RdE.alloc (h : RdE w base g l a e) (o : Obj) : RdE (w.alloc o) base g l a e := h.below ((Below.refl _ _).alloc (Nat.le_refl _) o) h.lt.1
theorem RdE.far (h : RdE w base g l a e) {p : Addr} (hp : p.block < base ∨ g < p.block) (u : Value) : RdE (w.setCell p u) base g l a e := by
  obtain ⟨d, c, h1, h2, h3, h4, h5⟩ := h
  refine ⟨d, c, h1.far (by omega) u, h2.far ?_ u, h3, h4, h5⟩
  intro b o e
  injection e with e
  cases e
  omega
theorem RdE.ok (h : RdE w base g l a 0) : Rd w base g l a := by
  obtain ⟨d, c, h1, h2, h3, h4, h5, h6, h7, h8, _⟩ := h
  exact ⟨d, c, h1, h2, h3, h4, h5, h6, h7, h8⟩
theorem Rd.toE (h : Rd w base g l a) : RdE w base g l a 0 := by
  obtain ⟨d, c, h1, h2, h3, h4, h5, h6, h7, h8⟩ := h
  exact ⟨d, c, h1, h2, h3, h4, h5, h6, h7, h8, .inl rfl⟩
end
/-- The next m bytes are taken, as the number y, or there is an error. -/
def NxP (l : List Int) (a : Nat) (e : Int) (m : Nat) (y : Int) (a' : Nat) (e' : Int) : Prop :=
  (e = 0 ∧ a + m ≤ l.length ∧ y = wordAt l a m ∧ a' = a + m ∧ e' = 0) ∨ (e' = 3 ∧ (e = 0 → l.length < a + m) ∧ y = 0)
/-- What Num answers, and leaves. -/
def NumE (w : World) (base g : Nat) (l : List Int) (a : Nat) (e : Int) (m : Nat) (x : Ending) (w' : World) : Prop :=
  ∃ y a' e', x = .returned (.int .i64 y) ∧ RdE w' base g l a' e' ∧ w.grownBy w' (some g) ∧ NxP l a e m y a' e' ∧ 0 ≤ y ∧ y < 256 ^ m
theorem hold_le (k : Int) : hold k ≤ 4 := by
  unfold hold
  split
  · omega
  · split <;> omega
theorem rde_num (base g a m : Nat) (e k : Int) (l : List Int) (w : World) (h : RdE w base g l a e) (hm : (hold k).toNat = m) :
    Calls Try.prog 54 #[.pointer (some ⟨g, 0, none⟩), .int .i64 k] w (NumE w base g l a e m) := by
  have hk := hold_lo k
  have hk4 := hold_le k
  have hp : (0 : Int) < 256 ^ m := Int.pow_pos (by omega)
  rcases h.is with rfl | ⟨rfl, hlt⟩
  · by_cases ha : a + m ≤ l.length
    · refine (rd_num base g a m k l w h.ok hm ha).mono ?_
      rintro x w' ⟨rfl, h1, h2⟩
      exact ⟨_, _, _, rfl, h1.toE, h2, .inl ⟨rfl, ha, rfl, rfl, rfl⟩, wordAt_bd l h.byt a m ha⟩
    · obtain ⟨d, c, h1, h2, h3, h4, h5, h6, h7, h8, _⟩ := h
      refine (num_short g (some ⟨d, 0, none⟩) l.length c a k w h1 (by omega) (by omega) (by omega) (by omega)).mono ?_
      rintro x w' ⟨rfl, d', rfl⟩
      have hs := step_err h1 3 d'
      refine ⟨0, a, 3, rfl, ⟨d, c, hs.2, ?_, h3, h4, h5, h6, h7, h8, .inr ⟨rfl, by omega⟩⟩, hs.1, .inr ⟨rfl, fun _ => by omega, rfl⟩, by omega, hp⟩
      refine h2.keep fun p hp => World.cell?_of_block (hs.1.block p.block ?_ ?_)
      · have := h1.lt; omega
      · intro q; injection q with q; omega
  · obtain ⟨d, c, h1, h2, h3, h4, h5, h6, h7, h8, _⟩ := h
    refine (num_bad g (some ⟨d, 0, none⟩) l.length c a k 3 w h1 rfl).mono ?_
    rintro x w' ⟨rfl, rfl⟩
    have hs := step_err h1 3 0
    refine ⟨0, a, 3, rfl, ⟨d, c, hs.2, ?_, h3, h4, h5, h6, h7, h8, .inr ⟨rfl, hlt⟩⟩, hs.1, .inr ⟨rfl, fun h => absurd h (by decide), rfl⟩, by omega, hp⟩
    refine h2.keep fun p hp => World.cell?_of_block (hs.1.block p.block ?_ ?_)
    · have := h1.lt; omega
    · intro q; injection q with q; omega
theorem rde_left (base g a : Nat) (e : Int) (l : List Int) (w : World) (h : RdE w base g l a e) :
    Calls Try.prog 40 #[.pointer (some ⟨g, 0, none⟩)] w fun x w' => x = .returned (.int .i64 ((l.length - a : Nat) : Int)) ∧ ∃ d, w' = w.drewN d := by
  obtain ⟨d, c, h1, h2, h3, h4, h5, h6, h7, h8, _⟩ := h
  refine (left_any g (some ⟨d, 0, none⟩) l.length c a e w h1 (by omega) (by omega) (by omega)).mono ?_
  rintro x w' ⟨rfl, h⟩
  exact ⟨ret_int (by omega), h⟩
theorem rde_err (base g a : Nat) (e : Int) (l : List Int) (w : World) (h : RdE w base g l a e) :
    Calls Try.prog 39 #[.pointer (some ⟨g, 0, none⟩)] w fun x w' => x = .returned (.int .i64 e) ∧ w = w' := by
  obtain ⟨d, c, h1, _⟩ := h
  exact err_any g _ _ c a e w h1
/-- What Bytes answers, and leaves, where they are there. -/
def BytR (w : World) (base g : Nat) (l : List Int) (a m : Nat) (x : Ending) (w' : World) : Prop :=
  ∃ A c, x = .returned (.slice A m c) ∧ m ≤ c ∧ c ≤ maxLen ∧ Row .u8 w' w'.heap.size A m ((l.drop a).take m) ∧ Rd w' base g l (a + m) ∧ w.grownBy w' (some g)
set_option maxRecDepth 4000 in
set_option maxHeartbeats 1000000 in
theorem rd_bytes (base g a m : Nat) (l : List Int) (w : World) (h : Rd w base g l a) (ha : a + m ≤ l.length) (hl : l.length ≤ 1048576) :
    Calls Try.prog 71 #[.pointer (some ⟨g, 0, none⟩), .int .i64 m] w (BytR w base g l a m) := by
  generalize hQ : BytR w base g l a m = Q
  have HQ := Lib.hid hQ
  obtain ⟨d, c, h1, h2, h3, h4, h5, h6, h7, h8⟩ := h
  have hdw := h1.lt
  have HB := Lib.hid h1
  have HR := Lib.hid h2
  have HM := Lib.hid h6
  have HBY := Lib.hid h8
  have HS := fun x d => Lib.hid (step_at h1 x d)
  clear hQ h1 h2 h6 h8
  go_enter Try.func71, Try.ntmps71
  go_wp2_with fail
  refine (take_ok g (some ⟨d, 0, none⟩) l.length c a m _ HB.out (by omega) (by omega) h5 HM.out (by omega) (by omega)).mono ?_
  rintro e1 w1 ⟨A', c', d1, rfl, hc1, hc2, hcut, rfl⟩
  have HT := Lib.hid (HS ((a : Int) + m) d1).out
  have hrow := hcut _ _ _ _ (HR.out.step HT.out (by omega) (by omega))
  have hmk := run_make5 m m (Nat.le_refl _) (by omega)
  rw [show ((a : Int)).toNat = a by omega, show ((m : Int)).toNat = m by omega] at hrow
  obtain ⟨l', hL⟩ : ∃ l', (l.drop a).take m = l' := ⟨_, rfl⟩
  have hl' : l'.length = m := by rw [← hL]; simp; omega
  have HLL := Lib.hid hL
  rw [hL] at hrow
  clear hcut hL HS
  have HL := Lib.hid hl'
  have HR' := Lib.hid hrow
  clear hl' hrow
  generalize (w.setCell ⟨g, 1, none⟩ (.int .i64 ((a : Int) + m))).drewN d1 = w1 at *
  go_wp2_with (refine wpList_copy_row rfl (.tmp 14) (.tmp 15) rfl w1.heap.size m m c' A' (by rfl) (by rfl) (d + 1) l' (by exact HR'.out.alloc (by have := HT.out.1.size; omega) _) (zeros m) (by simp [zeros]) (by simpa using Blk.new w1 5 _) ?_; intro w2 hg2 hb2)
  rw [← HQ.out]
  have hst := HT.out.more (below_new hb2 (by simp))
  have hrw := row_of_blk hg2.out
  rw [HL.out] at hrw
  refine ⟨_, _, rfl, Nat.le_refl _, by unfold maxLen; omega, ?_, ⟨d, c, ?_, ?_, h3, h4, h5, HM.out, ha, HBY.out⟩, hst.1⟩
  · rw [HLL.out]
    exact hrw
  · have h9 := hst.2
    rw [show ((a : Int) + m) = ((a + m : Nat) : Int) by omega] at h9
    exact h9
  · exact HR.out.step hst (by omega) (by omega)
theorem rd_bytesK (base g a m : Nat) (k : Int) (l : List Int) (w : World) (h : Rd w base g l a) (hk : k = m) (ha : a + m ≤ l.length) (hl : l.length ≤ 1048576) :
    Calls Try.prog 71 #[.pointer (some ⟨g, 0, none⟩), .int .i64 k] w (BytR w base g l a m) := by
  subst hk
  exact rd_bytes base g a m l w h ha hl
/-- In block g there is packet's reader, of what was read v, at place a of l, with the error e of numbers. -/
def RSE (w : World) (g q : Nat) (v : Pv) (wr : Bool) (er : Int) (l : List Int) (a : Nat) (e : Int) : Prop :=
  Blk w g 78 #[.pointer (some ⟨q, 0, none⟩), .int .i64 v.kind, .int .i64 v.sender, .int .i64 v.every, .int .i64 v.dead, .int .i64 v.prio, .int .i64 v.dr, .int .i64 v.bdr, .slice v.seen.a v.seen.n v.seen.c, .bool v.ini, .bool v.mor, .bool v.mas, .int .i64 v.seq, .slice v.heads.a v.heads.n v.heads.c, .slice v.wants.a v.wants.n v.wants.c, .slice v.lsas.a v.lsas.n v.lsas.c, .slice v.acks.a v.acks.n v.acks.c, .bool wr, .int .i64 er] ∧ RdE w (g + 1) q l a e
theorem RS.toE {w : World} {g q : Nat} {v : Pv} {wr : Bool} {er : Int} {l : List Int} {a : Nat} (h : RS w g q v wr er l a) : RSE w g q v wr er l a 0 := ⟨h.1, h.2.toE⟩
/-- What zero leaves. -/
def ZerE (w : World) (g q : Nat) (v : Pv) (wr : Bool) (er : Int) (l : List Int) (a : Nat) (e : Int) (m : Nat) (x : Ending) (w' : World) : Prop :=
  ∃ y a' e', x = .returned (.tuple #[]) ∧ RSE w' g q v (wr || decide (y ≠ 0)) er l a' e' ∧ Below g w w' ∧ NxP l a e m y a' e'
set_option maxRecDepth 8000 in
set_option maxHeartbeats 8000000 in
theorem zero_any (v : Pv) (wr : Bool) (er : Int) (g q a m : Nat) (e k : Int) (l : List Int) (w : World) (h : RSE w g q v wr er l a e) (hm : (hold k).toNat = m) :
    Calls Try.prog 55 #[.pointer (some ⟨g, 0, none⟩), .int .i64 k] w (ZerE w g q v wr er l a e m) := by
  generalize hQ : ZerE w g q v wr er l a e m = Q
  have HQ := Lib.hid hQ
  obtain ⟨hb, hrd⟩ := h
  have KB := Lib.hid hb
  have RD := Lib.hid hrd
  have hgq : g < q := by have := hrd.lt.2; omega
  have hgw : g < w.heap.size := hb.lt
  clear hQ hb hrd
  obtain ⟨a0, a1, a2, a3, a4, a5, a6, a7, a8, a9, a10, a11, a12, a13, a14, a15, a16, a17, a18⟩ := KB.out.nt
  go_enter Try.func55, Try.ntmps55
  go_wp2_with fail
  refine (rde_num (g + 1) q a m e k l _ RD.out hm).mono ?_
  rintro e1 w1 ⟨y, a', e', rfl, hrd, hgr, hnx, -, -⟩
  have KB1 := Lib.hid (KB.out.grown hgr (by omega))
  have RD1 := Lib.hid hrd
  have HNX := Lib.hid hnx
  have B1 := Lib.hid (show Below g w w1 from grown_below hgr (by omega) (by omega))
  clear hrd hgr hnx KB RD a0 a1 a2 a3 a4 a5 a6 a7 a8 a9 a10 a11 a12 a13 a14 a15 a16 a17 a18
  by_cases hz : y = 0
  · subst hz
    go_wp2
    refine bodyPost_end (results_none rfl _ _ _) rfl ?_
    rw [← HQ.out]
    refine ⟨0, a', e', rfl, ⟨?_, RD1.out⟩, B1.out, HNX.out⟩
    rw [show (wr || decide ((0 : Int) ≠ 0)) = wr by simp]
    exact KB1.out
  · have hd : (y != 0) = true := by simp [hz]
    have HZ := Lib.hid (show (wr || decide (y ≠ 0)) = true by simp [hz])
    clear hz
    have f17 := KB1.out.frozen 17
    obtain ⟨a0, a1, a2, a3, a4, a5, a6, a7, a8, a9, a10, a11, a12, a13, a14, a15, a16, a17, a18⟩ := KB1.out.nt
    go_wp2
    refine bodyPost_end (results_none rfl _ _ _) rfl ?_
    rw [← HQ.out]
    refine ⟨y, a', e', rfl, ⟨?_, RD1.out.far (.inl (by simp)) _⟩, B1.out.setCell (by simp) _, HNX.out⟩
    rw [HZ.out]
    have h9 := KB1.out.put 17 (.bool true)
    simp only [List.setIfInBounds_toArray, List.set_cons_zero, List.set_cons_succ] at h9
    exact h9
end Go.Proofs.Ytekhgkkgmkodmaa
