/- The walk of the statement DbActs, of any database that does what it must. Conditions: the slice reads as acts. · The program's database in memory: a map of descriptions; what it holds. Plain facts on such maps. No conditions. · A description that is gone; appends of one head, of one key; New. Conditions: what the words say; at most 100 descriptions. · A summary in memory; its piece, Piece, More, Step; a summary that is not there. Conditions: what the words say; at most 1000 heads. · Keys and heads compared by ==; rows written over; the library's Compact of a row of keys. Conditions: what the words say; at most 1000 keys. · An exchange in memory; what it tells; its small calls. Conditions: what the words say. -/
import Derived.StillTailTactics
import Derived.Deep.DeepCutAuto
import Derived.Deep.QuietTactic
import Derived.Laws.StructEq
import Derived.ChangeKeysEq
import Derived.Lib.SlicesCompact
import Derived.Lib.SliceRun
import Derived.Deep.MidRow
import Derived.BigQuiet
import Derived.Test.YtfdfdmbnggpnbaaVam
import Derived.Test.YtfdfdmbnggpnbaaVah
namespace Go.Proofs.Ytfdfdmbnggpnbaa
open Go.RowKit

theorem RefDb.low {w : World} {lo lo' g : Nat} {room : Int} {S : List La} {F : Nat → Prop} (h : RefDb w lo g room S F) (hl : lo' ≤ lo) : RefDb w lo' g room S F := by
  obtain ⟨A, n, c, R, hB, hlo, hO, hA, h1, h2, h3, h4, hF⟩ := h
  exact ⟨A, n, c, R, hB, by omega, own_low hO hl, all2_imp hA (fun r _ x hx => hx.mono hl), h1, h2, h3, h4, hF⟩
theorem RefDb.sort {w : World} {lo g : Nat} {room : Int} {S : List La} {F : Nat → Prop} (h : RefDb w lo g room S F) : SortL S := by
  obtain ⟨A, n, c, R, hB, hlo, hO, hA, h1, h2, h3, h4, hF⟩ := h
  exact h1
theorem RefDb.right {w : World} {lo g : Nat} {room : Int} {S : List La} {F : Nat → Prop} (h : RefDb w lo g room S F) : ∀ x ∈ S, rightB x.h x.L x.M = true := by
  obtain ⟨A, n, c, R, hB, hlo, hO, hA, h1, h2, h3, h4, hF⟩ := h
  exact h4
theorem la_range {w : World} {B b p : Nat} {h : Hd} {A A' : Option Addr} {n c n' c' : Nat} (hh : HdAt w B b p h) (h7 : w.cell? ⟨b, p + 7, none⟩ = some (.slice A n c)) (h8 : w.cell? ⟨b, p + 8, none⟩ = some (.slice A' n' c')) : w.rangeAt b p [.int .i64 h.age, .int .i64 h.kind, .int .i64 h.id, .int .i64 h.adv, .int .i64 h.seq, .int .i64 h.sum, .int .i64 h.long, .slice A n c, .slice A' n' c'] := by
  obtain ⟨h0, h1, h2, h3, h4, h5, h6⟩ := hh
  intro j v hj
  match j, hj with
  | 0, hj => cases hj; exact h0
  | 1, hj => cases hj; exact h1
  | 2, hj => cases hj; exact h2
  | 3, hj => cases hj; exact h3
  | 4, hj => cases hj; exact h4
  | 5, hj => cases hj; exact h5
  | 6, hj => cases hj; exact h6
  | 7, hj => cases hj; exact h7
  | 8, hj => cases hj; exact h8
theorem blk_range7 {w : World} {g : Nat} {t : TypeId} {cs : Array Value} (h : Blk w g t cs) : w.rangeAt g 0 cs.toList := fun j v hj => by
  have := h.cell j
  rw [Nat.zero_add, this]
  simpa using hj
end Go.Proofs.Ytfdfdmbnggpnbaa
namespace Go.Proofs.Ytfdfdmbnggpnbaa
open Go.RowKit

/-- Block p is a database of the program of so much room that holds S, and hangs on the blocks of F alone, all from lo on. -/
def PDb (w : World) (lo p : Nat) (room : Int) (S : List La) (F : Nat → Prop) : Prop :=
  ∃ (b : Nat) (R : List Rc) (T : List La), Blk w p 100 #[.int .i64 room, .map (some b)] ∧ lo ≤ p ∧ lo ≤ b ∧ MapIs w b R ∧ All2 (RcIs w lo) R T ∧ T.Perm S ∧ (S.length : Int) ≤ room ∧ room ≤ 40 ∧ (∀ x ∈ S, rightB x.h x.L x.M = true) ∧
    (∀ q, F q ↔ q = p ∨ q = b ∨ ∃ r ∈ R, rcFoot r q)
theorem PDb.chg {w w' : World} {lo p : Nat} {room : Int} {S : List La} {F F' : Nat → Prop} (h : PDb w lo p room S F) (hc : Chg F' w w') (hd : ∀ q, F q → ¬ F' q) : PDb w' lo p room S F := by
  obtain ⟨b, R, T, hB, h1, h2, hM, hA, h3, h4, h5, h6, hF⟩ := h
  exact ⟨b, R, T, hB.chg hc (hd p ((hF p).2 (.inl rfl))), h1, h2, hM.chg hc (hd b ((hF b).2 (.inr (.inl rfl)))), all2_imp hA (fun r hr x hx => hx.chg hc (fun q hq => hd q ((hF q).2 (.inr (.inr ⟨r, hr, hq⟩))))), h3, h4, h5, h6, hF⟩
theorem own_ne_map {w : World} {base n size b : Nat} {R : List Rc} {t : TypeId} {v : Value} {xs : List Value} (h : MapIs w b R) (ho : w.ownsRow base t size v n xs) : v.ownBlock ≠ some b := by
  intro e
  obtain ⟨-, l, ⟨es, clock, hb, -⟩, -⟩ := h
  rcases ho.2 with ⟨rfl, _⟩ | ⟨g, cap, cur, rfl, _, hg, _⟩
  · cases e
  · injection e with e
    subst e
    rw [hb] at hg
    cases hg
end Go.Proofs.Ytfdfdmbnggpnbaa
namespace Go.Proofs.Ytfdfdmbnggpnbaa
open Go.RowKit Go.Lib Go.Sort

/-- Is a description of the greatest age? -/
def goneB (x : La) : Bool := x.h.age == 60
/-- The heads that are told, in the order in which they came. -/
def toldL (S : List La) : List Hd := (S.filter fun x => !goneB x).map La.h
theorem toldL_snoc (S : List La) (x : La) : toldL (S ++ [x]) = if goneB x = true then toldL S else toldL S ++ [x.h] := by
  unfold toldL
  rw [List.filter_append, List.map_append]
  cases h : goneB x <;> simp [h]
theorem infoHd : (Try.prog.info? 43).map (fun i => (i.zero, i.size, i.bytes)) = some (some (.agg #[.int .i64 0, .int .i64 0, .int .i64 0, .int .i64 0, .int .i64 0, .int .i64 0, .int .i64 0]), 7, 56) := by kernel_rfl
theorem HdAt.range {w : World} {B b p : Nat} {h : Hd} (hh : HdAt w B b p h) : w.rangeAt b p (encHd h) := by
  obtain ⟨h0, h1, h2, h3, h4, h5, h6⟩ := hh
  intro j v hj
  match j, hj with
  | 0, hj => cases hj; exact h0
  | 1, hj => cases hj; exact h1
  | 2, hj => cases hj; exact h2
  | 3, hj => cases hj; exact h3
  | 4, hj => cases hj; exact h4
  | 5, hj => cases hj; exact h5
  | 6, hj => cases hj; exact h6
theorem wpList_app_hd {wb : World} {ops : Array Oper} {rest : List Oper} {o : Oper} {a : Act} {Q : Exit → Act → World → Prop} (hgd : o.guard = none) (s x : Operand) (ho : o.op = .call { callee := .builtin .append, args := #[s, x], argTypes := #[27, 27] })
    {base n c : Nat} {A : Option Addr} {L : List Hd} (y : Hd) (hs : a.eval s = .slice A n c) (hx : a.eval x = .slice (some ⟨wb.heap.size, 0, none⟩) 1 1) (hown : wb.ownsRow base 43 7 (.slice A n c) n (cellsBy encHd L)) (hn : n ≤ 1000) (hbase : base ≤ wb.heap.size)
    (h : ∀ A' c' w', Hid (w'.ownsRow base 43 7 (.slice A' (n + 1) c') (n + 1) (cellsBy encHd (L ++ [y]))) → Hid (Below base wb w') → wpList Try.prog ops Q rest (a.put o.dst (.slice A' (n + 1) c')) w') : wpList Try.prog ops Q (o :: rest) a (wb.alloc (.cells #[.int .i64 y.age, .int .i64 y.kind, .int .i64 y.id, .int .i64 y.adv, .int .i64 y.seq, .int .i64 y.sum, .int .i64 y.long] 43)) := by
  refine wpList_append_any hgd s x 27 43 (.agg #[.int .i64 0, .int .i64 0, .int .i64 0, .int .i64 0, .int .i64 0, .int .i64 0, .int .i64 0]) 7 56 Try.underlying27 infoHd rfl (by decide) (by decide) ho base (.slice A n c) n (cellsBy encHd L) hs (hown.alloc _) (some ⟨wb.heap.size, 0, none⟩) 1 1 (encHd y) hx rfl (fun h => by cases h) (news_new wb 43 (encHd y)) (encHd_ones y) (by omega) (by simp; omega) ?_
  intro v2 w2 ho2 hg2
  obtain ⟨A2, c2, rfl⟩ := own_slice ho2.out
  refine h A2 c2 w2 (Lib.hid (by rw [by_append, by_one]; exact ho2.out)) (Lib.hid ?_)
  exact ((Below.refl base wb).alloc hbase _).trans (own_keeps7 (hown.alloc _) hg2.out (by simp; omega))
set_option maxRecDepth 8000 in
set_option maxHeartbeats 2000000 in
theorem gone_any (x : La) (A A' : Option Addr) (n c n' c' : Nat) (w : World) : Calls Try.prog 41 #[.agg #[.int .i64 x.h.age, .int .i64 x.h.kind, .int .i64 x.h.id, .int .i64 x.h.adv, .int .i64 x.h.seq, .int .i64 x.h.sum, .int .i64 x.h.long, .slice A n c, .slice A' n' c']] w fun e w' => e = .returned (.bool (goneB x)) ∧ Below w.heap.size w w' := by
  have B0 := Lib.hid ((Below.refl w.heap.size w).alloc (Nat.le_refl _) (.cells #[.int .i64 x.h.age, .int .i64 x.h.kind, .int .i64 x.h.id, .int .i64 x.h.adv, .int .i64 x.h.seq, .int .i64 x.h.sum, .int .i64 x.h.long, .slice A n c, .slice A' n' c'] 78))
  have K0 := Lib.hid (Blk.new w 78 #[.int .i64 x.h.age, .int .i64 x.h.kind, .int .i64 x.h.id, .int .i64 x.h.adv, .int .i64 x.h.seq, .int .i64 x.h.sum, .int .i64 x.h.long, .slice A n c, .slice A' n' c'])
  obtain ⟨o0, o1, o2, o3, o4, o5, o6, o7, o8⟩ := K0.out.nine
  go_enter Try.func41, Try.ntmps41
  go_wp2
  go_ret
  exact ⟨rfl, B0.out⟩
/-- A summary, new. -/
theorem las_item {w : World} {B n k : Nat} {A : Option Addr} {S : List La} (h : Las w B A n S) (hk : k < n) : ∃ (b o : Nat) (x : La) (A1 : Option Addr) (n1 c1 : Nat) (A2 : Option Addr) (n2 c2 : Nat), A = some ⟨b, o, none⟩ ∧ b < B ∧ S[k]? = some x ∧
    w.rangeAt b (o + k * 9) [.int .i64 x.h.age, .int .i64 x.h.kind, .int .i64 x.h.id, .int .i64 x.h.adv, .int .i64 x.h.seq, .int .i64 x.h.sum, .int .i64 x.h.long, .slice A1 n1 c1, .slice A2 n2 c2] ∧ Lnk w B A1 n1 x.L ∧ Row .i64 w B A2 n2 x.M ∧ n1 ≤ maxLen ∧ n2 ≤ maxLen := by
  obtain ⟨b, o, x, rfl, hb, hx, hh, A1, n1, c1, A2, n2, c2, h7, h8, h9, h10, h11, h12⟩ := Arr.at h hk
  exact ⟨b, o, x, A1, n1, c1, A2, n2, c2, rfl, hb, hx, la_range hh h7 h8, h9, h10, h11, h12⟩
theorem head_range {w : World} {g : Nat} {t : TypeId} {x : La} {A A' : Option Addr} {n c n' c' : Nat} (h : Blk w g t #[.int .i64 x.h.age, .int .i64 x.h.kind, .int .i64 x.h.id, .int .i64 x.h.adv, .int .i64 x.h.seq, .int .i64 x.h.sum, .int .i64 x.h.long, .slice A n c, .slice A' n' c']) : w.rangeAt g 0 (encHd x.h) := by
  obtain ⟨h0, h1, h2, h3, h4, h5, h6, -, -⟩ := h.nine
  exact HdAt.range (B := 0) ⟨h0, h1, h2, h3, h4, h5, h6⟩
/-- What New leaves: a summary's block, and its row of heads. -/
def NewQ (S : List La) (w : World) (e : Ending) (w' : World) : Prop :=
  ∃ (p : Nat) (A : Option Addr) (n c : Nat) (K : List Hd), e = .returned (.pointer (some ⟨p, 0, none⟩)) ∧ Below w.heap.size w w' ∧ w.heap.size ≤ p ∧ Blk w' p 83 #[.slice A n c] ∧ w'.ownsRow w.heap.size 43 7 (.slice A n c) n (cellsBy encHd K) ∧ Ord lessH K ∧ Stab lessH (toldL S) K
set_option maxRecDepth 8000 in
set_option maxHeartbeats 4000000 in
theorem new_any {w : World} {A : Option Addr} {n c : Nat} {S : List La} {B : Nat} (hS : Las w B A n S) (hB : B ≤ w.heap.size) (hn : n ≤ 100) : Calls Try.prog 13 #[.slice A n c] w (NewQ S w) := by
  generalize hQ : NewQ S w = Q
  have HQ := Lib.hid hQ
  have HS := Lib.hid hS
  have O0 := Lib.hid (World.ownsRow_nil w w.heap.size 43 7)
  have B0 := Lib.hid (Below.refl w.heap.size w)
  clear hQ hS
  go_enter Try.func13, Try.ntmps13
  go_wp2_with fail
  go_loopw [3, 8] (fun s3 s8 wr => ∃ (k m c' : Nat) (A' : Option Addr), s8 = .int .i64 k ∧ s3 = .slice A' m c' ∧ k ≤ n ∧ m ≤ k ∧ Hid (wr.ownsRow w.heap.size 43 7 (.slice A' m c') m (cellsBy encHd (toldL (S.take k)))) ∧ Hid (Below w.heap.size w wr)) (fun _ s8 _ => n - (intOf s8).toNat)
  case atStart => exact ⟨0, 0, 0, none, rfl, rfl, Nat.zero_le _, Nat.le_refl _, Lib.hid (by simpa [toldL, cellsBy] using O0.out), B0⟩
  case round =>
    clear O0 B0
    obtain ⟨k, m, c', A', rfl, rfl, hk, hmk, OW, BW⟩ := hrel
    by_cases hlt : k < n
    · have hlt' : (k : Int) < (n : Int) := by omega
      obtain ⟨b, o, x, A1, n1, c1, A2, n2, c2, rfl, hb, hx, hr, -, -, -, -⟩ := las_item (HS.out.below (BW.out.mono hB)) hlt
      have HR := Lib.hid hr
      have HX := Lib.hid hx
      have hz := BW.out.size
      have BX := Lib.hid (BW.out.alloc hz (.cells #[.int .i64 x.h.age, .int .i64 x.h.kind, .int .i64 x.h.id, .int .i64 x.h.adv, .int .i64 x.h.seq, .int .i64 x.h.sum, .int .i64 x.h.long, .slice A1 n1 c1, .slice A2 n2 c2] 78))
      have KX := Lib.hid (Blk.new wr 78 #[.int .i64 x.h.age, .int .i64 x.h.kind, .int .i64 x.h.id, .int .i64 x.h.adv, .int .i64 x.h.seq, .int .i64 x.h.sum, .int .i64 x.h.long, .slice A1 n1 c1, .slice A2 n2 c2])
      have OX := Lib.hid (OW.out.alloc (.cells #[.int .i64 x.h.age, .int .i64 x.h.kind, .int .i64 x.h.id, .int .i64 x.h.adv, .int .i64 x.h.seq, .int .i64 x.h.sum, .int .i64 x.h.long, .slice A1 n1 c1, .slice A2 n2 c2] 78))
      have RX := Lib.hid (blk_range7 KX.out)
      clear hr hx OW BW
      go_wp2_with (first | refine wpList_load_row 78 _ _ (by rfl) (.tmp 10) rfl (by rfl) HR.out Try.underlying78 rfl (by kernel_rfl) ?_ | (refine wpList_load_row 78 _ _ (by rfl) (.tmp 5) rfl (by rfl) RX.out Try.underlying78 rfl (by kernel_rfl) ?_))
      refine (gone_any x A1 A2 n1 c1 n2 c2 _).mono ?_
      rintro e1 w1 ⟨rfl, hb1⟩
      generalize wr.alloc (.cells #[.int .i64 x.h.age, .int .i64 x.h.kind, .int .i64 x.h.id, .int .i64 x.h.adv, .int .i64 x.h.seq, .int .i64 x.h.sum, .int .i64 x.h.long, .slice A1 n1 c1, .slice A2 n2 c2] 78) = wx at *
      generalize wr.heap.size = X at *
      have hzx := BX.out.size
      have B1 := Lib.hid (BX.out.trans (hb1.mono hzx))
      have K1 := Lib.hid (KX.out.below hb1 KX.out.lt)
      have O1 := Lib.hid (own_chg OX.out (Chg.of_below (F := fun _ => False) hb1) (fun _ _ hf => hf))
      have hz1 := B1.out.size
      have R1 := Lib.hid (show w1.rangeAt X 0 [.int .i64 x.h.age, .int .i64 x.h.kind, .int .i64 x.h.id, .int .i64 x.h.adv, .int .i64 x.h.seq, .int .i64 x.h.sum, .int .i64 x.h.long] from head_range K1.out)
      have HT := Lib.hid (toldL_snoc (S.take k) x)
      rw [← take_snocA S k x HX.out] at HT
      clear hb1 BX KX OX RX hzx K1 HR HX
      cases hg : goneB x
      · have HT2 := Lib.hid (show toldL (S.take (k + 1)) = toldL (S.take k) ++ [x.h] by
          have := HT.out
          rwa [hg, if_neg (by decide)] at this)
        clear HT hg
        go_wp2_with (first | refine wpList_load_row 43 _ _ (by rfl) (.tmp 16) rfl (by rfl) R1.out Try.underlying43 rfl (by kernel_rfl) ?_ | (at_builtin; refine wpList_app_hd rfl (.tmp 15) (.tmp 18) rfl x.h (by rfl) (by rfl) O1.out (by omega) hz1 ?_; intro A3 c3 w3 HO3 HB3))
        have O3 := Lib.hid (show w3.ownsRow w.heap.size 43 7 (.slice A3 (m + 1) c3) (m + 1) (cellsBy encHd (toldL (S.take (k + 1)))) by rw [HT2.out]; exact HO3.out)
        have B3 := Lib.hid (B1.out.trans HB3.out)
        clear HO3 HB3 O1 B1 R1 HT2
        go_roundw
        case rel => exact ⟨k + 1, m + 1, c3, A3, by go_num, by first | rfl | go_num, by omega, by omega, O3, B3⟩
        case measure => simp [intOf]; omega
      · have HT2 := Lib.hid (show toldL (S.take (k + 1)) = toldL (S.take k) by
          have := HT.out
          rwa [hg, if_pos rfl] at this)
        clear HT hg
        have O3 := Lib.hid (show w1.ownsRow w.heap.size 43 7 (.slice A' m c') m (cellsBy encHd (toldL (S.take (k + 1)))) by rw [HT2.out]; exact O1.out)
        clear R1 O1 HT2
        go_wp2
        go_roundw
        case rel => exact ⟨k + 1, m, c', A', by go_num, rfl, by omega, by omega, O3, B1⟩
        case measure => simp [intOf]; omega
    · have hlt' : ¬ (k : Int) < (n : Int) := by omega
      have HT := Lib.hid (show toldL (S.take k) = toldL S by
        rw [List.take_of_length_le (by have := HS.out.1; omega)])
      rw [HT.out] at OW
      clear HT
      go_wp2_with (go_at_call 42; refine (sort_heads OW.out (by omega)).mono ?_; rintro e1 w1 ⟨rfl, ⟨K, hk1, hk2, hk3⟩, hgr⟩)
      have hz := BW.out.size
      have B1 := BW.out.trans (own_keeps7 OW.out hgr hz)
      have B2 := B1.alloc B1.size (.cells #[.slice A' m c'] 83)
      have hz1 := B1.size
      show Q (.returned (.pointer (some ⟨w1.heap.size, 0, none⟩))) _
      rw [← HQ.out]
      exact ⟨w1.heap.size, A', m, c', K, rfl, B2, hz1, Blk.new w1 83 _, hk3.alloc _, hk1, hk2⟩
end Go.Proofs.Ytfdfdmbnggpnbaa
namespace Go.Proofs.Ytfdfdmbnggpnbaa
open Go.RowKit Go.Lib Go.Sort

theorem HdAt.onto {w w' : World} {B B' b p : Nat} {h : Hd} (hk : ∀ o, w'.cell? ⟨b, o, none⟩ = w.cell? ⟨b, o, none⟩) (hh : HdAt w B b p h) : HdAt w' B' b p h :=
  ⟨(hk _).trans hh.1, (hk _).trans hh.2.1, (hk _).trans hh.2.2.1, (hk _).trans hh.2.2.2.1, (hk _).trans hh.2.2.2.2.1, (hk _).trans hh.2.2.2.2.2.1, (hk _).trans hh.2.2.2.2.2.2⟩
/-- A summary whose heads left are K: its block p, and the row that it leads to, on blocks of F. -/
structure SumAt (w : World) (F : Nat → Prop) (p : Nat) (A : Option Addr) (n c : Nat) (K : List Hd) : Prop where
  blk : Blk w p 83 #[.slice A n c]
  fp : F p
  len : K.length = n
  cap : n ≤ c
  big : c ≤ maxLen
  row : 0 < n → ∃ g o, A = some ⟨g, o, none⟩ ∧ F g ∧ g ≠ p ∧ g < w.heap.size ∧ ∀ j h, K[j]? = some h → HdAt w 0 g (o + j * 7) h
section
variable {w w' : World} {F F' : Nat → Prop} {p : Nat} {A : Option Addr} {n c : Nat} {K : List Hd}
theorem SumAt.move (h : SumAt w F p A n c K) (hk : ∀ q, F q → q < w.heap.size → w'.heap[q]? = w.heap[q]?) (hz : w.heap.size ≤ w'.heap.size) : SumAt w' F p A n c K :=
  ⟨(hk p h.fp h.blk.lt).trans h.blk, h.fp, h.len, h.cap, h.big, fun hn => by
    obtain ⟨g, o, e, hg, hne, hlt, hc⟩ := h.row hn
    exact ⟨g, o, e, hg, hne, by omega, fun j x hx => HdAt.onto (fun o => World.cell?_of_block (a := ⟨g, o, none⟩) (hk g hg hlt)) (hc j x hx)⟩⟩
theorem SumAt.chg (h : SumAt w F p A n c K) (hc : Chg F' w w') (hF : ∀ q, F q → ¬ F' q) : SumAt w' F p A n c K := h.move (fun q hq hl => hc.block q hl (hF q hq)) hc.size
theorem SumAt.below (h : SumAt w F p A n c K) (hb : Below w.heap.size w w') : SumAt w' F p A n c K := h.move (fun q _ hl => hb.block q hl) hb.size
theorem SumAt.drewN (h : SumAt w F p A n c K) (q : Nat) : SumAt (w.drewN q) F p A n c K := h.move (fun _ _ _ => rfl) (Nat.le_refl _)
theorem SumAt.hds (h : SumAt w F p A n c K) : Hds w w.heap.size A n K :=
  ⟨h.len, fun hn => by
    obtain ⟨g, o, e, -, -, hlt, hc⟩ := h.row hn
    exact ⟨g, o, e, hlt, fun j x hx => HdAt.onto (fun _ => rfl) (hc j x hx)⟩⟩
end
/-- What New leaves is a summary. -/
theorem sum_new {w w' : World} {p : Nat} {A : Option Addr} {n c : Nat} {K : List Hd} (hp : w.heap.size ≤ p) (hB : Blk w' p 83 #[.slice A n c]) (hO : w'.ownsRow w.heap.size 43 7 (.slice A n c) n (cellsBy encHd K)) : SumAt w' (fun q => w.heap.size ≤ q ∧ q < w'.heap.size) p A n c K := by
  have hl := own_lenH encHd_len (by omega) hO
  have hne := own_ne_blk hO hB (by decide)
  rcases hO.2 with ⟨hv, hn⟩ | ⟨g, cap, cur, hv, hb, hg, h1, h2, h3, h4⟩
  · injection hv with e1 e2 e3
    exact ⟨hB, ⟨hp, hB.lt⟩, hl, by omega, by unfold maxLen; omega, fun h0 => by omega⟩
  · cases hv
    have hgl := (Array.getElem?_eq_some_iff.1 hg).1
    refine ⟨hB, ⟨hp, hB.lt⟩, hl, h1, h2, fun h0 => ⟨g, 0, rfl, ⟨hb, hgl⟩, fun e => hne (by rw [e]; rfl), hgl, fun j x hx => ?_⟩⟩
    obtain ⟨g', e, -, -, -, -, hc⟩ := own_item encHd_len (by omega) hO hx
    injection e with e
    injection e with e
    subst e
    rw [Nat.zero_add]
    exact ⟨hc 0 (by omega), hc 1 (by omega), hc 2 (by omega), hc 3 (by omega), hc 4 (by omega), hc 5 (by omega), hc 6 (by omega)⟩
/-- Rows of heads, read: their cells; the first m of them; those behind the first m. -/
theorem Hds.cells {w : World} {B n : Nat} {A : Option Addr} {L : List Hd} (h : Hds w B A n L) : (A = none → n = 0) ∧ ∀ ad, A = some ad → ∀ j u, (cellsBy encHd L)[j]? = some u → w.cell? (ad.add j) = some u := by
  constructor
  · intro e
    rcases Nat.eq_zero_or_pos n with h0 | h0
    · exact h0
    · obtain ⟨_, _, e2, _⟩ := h.2 h0
      rw [e] at e2
      cases e2
  · intro ad e j u hu
    have hj : j < L.length * 7 := by
      rcases Nat.lt_or_ge j (L.length * 7) with hj | hj
      · exact hj
      · rw [List.getElem?_eq_none (by rw [by_length encHd_len]; exact hj)] at hu
        cases hu
    have hn := h.1
    obtain ⟨b, o, e2, _, hc⟩ := h.2 (by omega)
    rw [e] at e2
    injection e2 with e2
    subst e2
    have hx : L[j / 7]? = some (L[j / 7]'(by omega)) := List.getElem?_eq_getElem (by omega)
    have hr := HdAt.range (hc _ _ hx)
    have hb := by_at encHd_len L _ _ hx (j % 7) (by omega)
    rw [show j / 7 * 7 + j % 7 = j from by omega, hu] at hb
    rw [addr_add, show o + j = o + j / 7 * 7 + j % 7 by omega]
    exact hr (j % 7) u hb.symm
theorem Hds.take {w : World} {B n : Nat} {A : Option Addr} {L : List Hd} (h : Hds w B A n L) (m : Nat) (hm : m ≤ n) : Hds w B A m (L.take m) :=
  ⟨by rw [List.length_take, h.1]; omega, fun h0 => by
    obtain ⟨b, o, e, hb, hc⟩ := h.2 (by omega)
    refine ⟨b, o, e, hb, fun j x hx => hc j x ?_⟩
    rw [List.getElem?_take] at hx
    split at hx
    · exact hx
    · cases hx⟩
set_option maxRecDepth 8000 in
set_option maxHeartbeats 2000000 in
theorem piece_any {w : World} {F : Nat → Prop} {p : Nat} {A : Option Addr} {n c : Nat} {K : List Hd} (h : SumAt w F p A n c K) (hn : n ≤ 1000) :
    Calls Try.prog 46 #[.pointer (some ⟨p, 0, none⟩)] w fun e w' => e = .returned (.slice A (min n 3) c) ∧ ∃ q, w' = w.drewN q := by
  have c0 : w.cell? ⟨p, 0, none⟩ = some (.slice A n c) := h.blk.cell 0
  have hpl := h.blk.lt
  have hcap := h.cap
  have hbig := h.big
  unfold maxLen at hbig
  have HNIL := Lib.hid h.hds.cells.1
  clear h
  clear HNIL
  rcases Nat.lt_or_ge n 3 with h3 | h3
  · rw [show min n 3 = n by omega]
    have hmin : min (n : Int) 3 = (n : Int) := by omega
    go_enter Try.func46, Try.ntmps46
    go_wp2_with fail
    go_quiet (fail)
    go_wp2
    go_ret
    exact ⟨rfl, nq, rfl⟩
  · rw [show min n 3 = 3 by omega]
    have hmin : min (n : Int) 3 = 3 := by omega
    go_enter Try.func46, Try.ntmps46
    go_wp2_with fail
    go_quiet (fail)
    go_wp2
    go_ret
    exact ⟨rfl, nq, rfl⟩
theorem piece_nil (w : World) : Calls Try.prog 46 #[.pointer none] w fun e w' => e = .returned (.slice none 0 0) ∧ w' = w := by
  go_enter Try.func46, Try.ntmps46
  go_wp2
  go_ret
  exact ⟨rfl, rfl⟩
/-- What Piece answers: a row of the call's own. -/
def PieceQ (K : List Hd) (w : World) (e : Ending) (w' : World) : Prop :=
  ∃ (A : Option Addr) (m c : Nat), e = .returned (.slice A m c) ∧ Below w.heap.size w w' ∧ w'.ownsRow w.heap.size 43 7 (.slice A m c) m (cellsBy encHd (K.take 3))
set_option maxRecDepth 8000 in
set_option maxHeartbeats 2000000 in
theorem pieceP_of {w : World} {u : Value} {A : Option Addr} {m c : Nat} {L : List Hd} (hc : Calls Try.prog 46 #[u] w fun e w' => e = .returned (.slice A m c) ∧ ∃ q, w' = w.drewN q) (hL : Hds w w.heap.size A m L) (hm : m ≤ 1000) :
    Calls Try.prog 16 #[u] w fun e w' => ∃ (A' : Option Addr) (m' c' : Nat), e = .returned (.slice A' m' c') ∧ Below w.heap.size w w' ∧ w'.ownsRow w.heap.size 43 7 (.slice A' m' c') m' (cellsBy encHd L) := by
  have HC := Lib.hid hc
  have HL := Lib.hid hL
  clear hc hL
  go_enter Try.func16, Try.ntmps16
  go_wp2_with fail
  refine HC.out.mono ?_
  rintro e1 w1 ⟨rfl, q, rfl⟩
  have HL1 := Lib.hid (show (A = none → m = 0) ∧ ∀ ad, A = some ad → ∀ j u, (cellsBy encHd L)[j]? = some u → (w.drewN q).cell? (ad.add j) = some u from HL.out.cells)
  have hln := HL.out.1
  have B1 := Lib.hid (⟨rfl, rfl, rfl, Nat.le_refl _, fun _ _ => rfl⟩ : Below w.heap.size w (w.drewN q))
  have hz : (w.drewN q).heap.size = w.heap.size := rfl
  have HZ := Lib.hid hz
  clear hz
  generalize w.drewN q = w1 at *
  go_wp2_with (at_builtin; refine wpList_append_any rfl (.const (.slice none 0 0)) (.tmp 4) 27 43 (.agg #[.int .i64 0, .int .i64 0, .int .i64 0, .int .i64 0, .int .i64 0, .int .i64 0, .int .i64 0]) 7 56 Try.underlying27 infoHd rfl (by decide) (by decide) rfl w1.heap.size (.slice none 0 0) 0 [] (by rfl) (by exact World.ownsRow_nil _ _ _ _) A m c (cellsBy encHd L) (by rfl) (by rw [by_length encHd_len, hln]) HL1.out.1 HL1.out.2 (by_ones encHd_ones L) (by omega) (Nat.le_refl _) ?_; intro v2 w2 ho2 hg2)
  obtain ⟨A2, c2, rfl⟩ := own_slice ho2.out
  have ho3 := ho2.out
  rw [Nat.zero_add] at ho3 ⊢
  rw [List.nil_append] at ho3
  have hb : Below w.heap.size w w2 := B1.out.trans (own_keeps7 (World.ownsRow_nil w1 w.heap.size 43 7) hg2.out (by rw [HZ.out]; exact Nat.le_refl _))
  rw [HZ.out] at ho3
  have HO := Lib.hid ho3
  have HB := Lib.hid hb
  clear ho2 hg2 ho3 hb
  go_wp2
  go_ret
  exact ⟨A2, m, c2, rfl, HB.out, HO.out⟩
theorem pieceP_any {w : World} {F : Nat → Prop} {p : Nat} {A : Option Addr} {n c : Nat} {K : List Hd} (h : SumAt w F p A n c K) (hn : n ≤ 1000) : Calls Try.prog 16 #[.pointer (some ⟨p, 0, none⟩)] w (PieceQ K w) := by
  refine pieceP_of (L := K.take 3) (piece_any h hn) ?_ (by omega)
  have h1 := h.hds.take (min n 3) (by omega)
  rwa [show K.take (min n 3) = K.take 3 by rw [← h.len, Nat.min_comm, List.take_eq_take_iff]; omega] at h1
theorem pieceP_nil (w : World) : Calls Try.prog 16 #[.pointer none] w (PieceQ [] w) := by
  refine pieceP_of (A := none) (m := 0) (c := 0) (L := ([] : List Hd).take 3) ((piece_nil w).mono ?_) Arr.nil (by omega)
  rintro e w' ⟨rfl, rfl⟩
  exact ⟨rfl, 0, rfl⟩
set_option maxRecDepth 8000 in
set_option maxHeartbeats 2000000 in
theorem more_any {w : World} {F : Nat → Prop} {p : Nat} {A : Option Addr} {n c : Nat} {K : List Hd} (h : SumAt w F p A n c K) (hn : n ≤ 1000) :
    Calls Try.prog 17 #[.pointer (some ⟨p, 0, none⟩)] w fun e w' => e = .returned (.bool (decide (3 < n))) ∧ ∃ q, w' = w.drewN q := by
  have c0 : w.cell? ⟨p, 0, none⟩ = some (.slice A n c) := h.blk.cell 0
  have hpl := h.blk.lt
  have pc := fun q => Calls.quiet_of (piece_any (h.drewN q) hn)
  obtain ⟨m, hm⟩ : ∃ m, min n 3 = m := ⟨_, rfl⟩
  rw [hm] at pc
  obtain ⟨b, hb⟩ : ∃ b, decide (3 < n) = b := ⟨_, rfl⟩
  rw [hb]
  have HD := Lib.hid (show decide (m < n) = b by
    rw [← hb]
    by_cases h3 : 3 < n
    · simp [h3]
      omega
    · simp [h3]
      omega)
  clear h hm hb
  go_enter Try.func17, Try.ntmps17
  go_wp2_with fail
  go_quiet (first | (go_at_call 46; with_reducible exact pc _))
  go_wp2
  go_ret
  exact ⟨by rw [← HD.out]; rfl, nq, rfl⟩
theorem more_nil (w : World) : Calls Try.prog 17 #[.pointer none] w fun e w' => e = .returned (.bool false) ∧ ∃ q, w' = w.drewN q := by
  go_enter Try.func17, Try.ntmps17
  go_wp2_with fail
  go_quiet (fail)
  go_wp2
  go_ret
  exact ⟨rfl, nq, rfl⟩
theorem step_nil (w : World) : Calls Try.prog 18 #[.pointer none] w fun e w' => e = .returned (.bool false) ∧ w' = w := by
  go_enter Try.func18, Try.ntmps18
  go_wp2
  go_ret
  exact ⟨rfl, rfl⟩
set_option maxRecDepth 8000 in
set_option maxHeartbeats 4000000 in
theorem step_any {w : World} {F : Nat → Prop} {p : Nat} {A : Option Addr} {n c : Nat} {K : List Hd} (h : SumAt w F p A n c K) (hn : n ≤ 1000) :
    Calls Try.prog 18 #[.pointer (some ⟨p, 0, none⟩)] w fun e w' => e = .returned (.bool (decide (3 < n))) ∧ ∃ A' n' c', SumAt w' F p A' n' c' (K.drop 3) ∧ Chg (fun q => q = p) w w' := by
  have HS := Lib.hid h
  obtain ⟨b, hb⟩ : ∃ b, decide (3 < n) = b := ⟨_, rfl⟩
  rw [hb]
  have HB := Lib.hid hb
  clear h hb
  go_enter Try.func18, Try.ntmps18
  go_wp2_with fail
  refine (more_any HS.out hn).mono ?_
  rintro e1 w1 ⟨rfl, q1, rfl⟩
  rw [HB.out]
  have S1 := Lib.hid (HS.out.drewN q1)
  have B1 := Lib.hid (⟨rfl, rfl, rfl, Nat.le_refl _, fun _ _ => rfl⟩ : Below w.heap.size w (w.drewN q1))
  clear HS
  generalize w.drewN q1 = w1 at *
  go_wp2_with fail
  have c0 : w1.cell? ⟨p, 0, none⟩ = some (.slice A n c) := S1.out.blk.cell 0
  have f0 := S1.out.blk.frozen 0
  have hpl := S1.out.blk.lt
  have hcap := S1.out.cap
  have hbig := S1.out.big
  unfold maxLen at hbig
  have c0q := fun n' os => Go.cell_grown (n := n') (os := os) (a := ⟨p, 0, none⟩) hpl c0
  have pc : ∀ n' os, Calls Try.prog 46 #[.pointer (some ⟨p, 0, none⟩)] (Go.Sort.grow (w1.drewN n') os) fun e w'' => e = .returned (.slice A (min n 3) c) ∧ ∃ pp : GrownBy, w'' = Go.Sort.grow (w1.drewN pp.n) pp.os := fun n' os => by
    refine Calls.grown_of ((piece_any (S1.out.move (w' := Go.Sort.grow (w1.drewN n') os) (fun q _ hq => heap_grow_old _ _ (by exact hq)) (by rw [Go.Sort.size_grow]; exact Nat.le_add_right _ _)) hn).mono ?_)
    rintro e w' ⟨rfl, q, rfl⟩
    exact ⟨rfl, q, #[], by rw [grow_empty]⟩
  obtain ⟨m, hm⟩ : ∃ m, min n 3 = m := ⟨_, rfl⟩
  rw [hm] at pc
  have hm1 : m ≤ n := by omega
  have HM := Lib.hid hm
  clear hm
  refine region_grown_tail 11 (by kernel_rfl) (by kernel_rfl) ?_
  simp only [List.take_succ_cons, List.take_zero, List.drop_succ_cons, List.drop_zero]
  repeat (quiet_step (first | (go_at_call 46; with_reducible exact pc _ _)))
  refine wpQuiet_nil ?_
  intro _ hw'
  obtain ⟨⟨nq, osq⟩, hw''⟩ := hw'
  subst hw''
  dsimp only
  obtain ⟨A', hA⟩ : ∃ A', (if c = m then A else Option.map (fun x => x.add (m * 7)) A) = A' := ⟨_, rfl⟩
  rw [hA]
  have HA := Lib.hid hA
  have S2 := Lib.hid (S1.out.move (w' := Go.Sort.grow (w1.drewN nq) osq) (fun q _ hq => heap_grow_old _ _ (by exact hq)) (by rw [Go.Sort.size_grow]; exact Nat.le_add_right _ _))
  have C2 := Lib.hid (show Chg (fun q => q = p) w1 (Go.Sort.grow (w1.drewN nq) osq) from ⟨rfl, rfl, rfl, by rw [Go.Sort.size_grow]; exact Nat.le_add_right _ _, fun q hq _ => heap_grow_old _ _ (by exact hq)⟩)
  clear hA S1 c0 f0 hpl c0q pc
  generalize Go.Sort.grow (w1.drewN nq) osq = w2 at *
  clear nq osq
  have c0 : w2.cell? ⟨p, 0, none⟩ = some (.slice A n c) := S2.out.blk.cell 0
  have f0 := S2.out.blk.frozen 0
  have K3 := S2.out.blk.put 0 (.slice A' (n - m) (c - m))
  simp only [List.setIfInBounds_toArray, List.set_cons_zero] at K3
  have C3 : Chg (fun q => q = p) w2 (w2.setCell ⟨p, 0, none⟩ (.slice A' (n - m) (c - m))) := ⟨rfl, rfl, rfl, by simp, fun q hq hne => Below.heap_setCell _ _ _ _ hne⟩
  have HK := Lib.hid K3
  have HC := Lib.hid C3
  clear K3 C3
  go_wp2
  go_ret
  refine ⟨rfl, A', n - m, c - m, ⟨HK.out, S2.out.fp, ?_, by omega, by unfold maxLen; omega, fun h0 => ?_⟩, ?_⟩
  · have := S2.out.len
    have := HM.out
    rw [List.length_drop]
    omega
  · have hm3 : m = 3 := by have := HM.out; omega
    subst hm3
    obtain ⟨g, o, e, hg, hne, hlt, hc⟩ := S2.out.row (by omega)
    refine ⟨g, o + 21, ?_, hg, hne, by simpa using hlt, fun j x hx => ?_⟩
    · rw [← HA.out, if_neg (by omega), e, Option.map_some, addr_add]
    · rw [List.getElem?_drop] at hx
      have h1 := hc _ x hx
      rw [show o + (3 + j) * 7 = o + 21 + j * 7 by omega] at h1
      exact HdAt.onto (fun o' => World.cell?_of_block (a := ⟨g, o', none⟩) (Below.heap_setCell _ _ _ _ hne)) h1
  · exact (Chg.of_below (F := fun q => q = p) B1.out).trans (C2.out.trans HC.out (fun k hk => .inl hk)) (fun k hk => .inl hk)
end Go.Proofs.Ytfdfdmbnggpnbaa
namespace Go.Proofs.Ytfdfdmbnggpnbaa
open Go.RowKit Go.Lib Go.Sort Go.Deep

theorem underHd : Try.prog.underlying 43 = some (.struct (Try.prog.fieldsOf 43)) := by kernel_rfl
theorem stoodHd : Try.prog.stoodInHeld 43 = false := by kernel_rfl
theorem plainI : Try.prog.plainKey 3 = true := by kernel_rfl
theorem eqIntK (W : World) (a b : Int) : (Op.equalIn (9998 + 1) 3 (.int .i64 a) (.int .i64 b)).run Try.prog W = .ok (a == b) W := run_equalIn_int W 9998 _ .i64 .i64 a b Try.underlying3
theorem equalHd (x y : Hd) (W : World) : (Op.equalIn 10000 43 (.agg #[.int .i64 x.age, .int .i64 x.kind, .int .i64 x.id, .int .i64 x.adv, .int .i64 x.seq, .int .i64 x.sum, .int .i64 x.long]) (.agg #[.int .i64 y.age, .int .i64 y.kind, .int .i64 y.id, .int .i64 y.adv, .int .i64 y.seq, .int .i64 y.sum, .int .i64 y.long])).run Try.prog W = .ok (sameHd x y) W := by
  have q0 : ∀ z : Hd, (part 3 #[.int .i64 z.age, .int .i64 z.kind, .int .i64 z.id, .int .i64 z.adv, .int .i64 z.seq, .int .i64 z.sum, .int .i64 z.long] 0).run Try.prog W = .ok (.int .i64 z.age) W := fun z => run_part_plain W plainI rfl
  have q1 : ∀ z : Hd, (part 3 #[.int .i64 z.age, .int .i64 z.kind, .int .i64 z.id, .int .i64 z.adv, .int .i64 z.seq, .int .i64 z.sum, .int .i64 z.long] 1).run Try.prog W = .ok (.int .i64 z.kind) W := fun z => run_part_plain W plainI rfl
  have q2 : ∀ z : Hd, (part 3 #[.int .i64 z.age, .int .i64 z.kind, .int .i64 z.id, .int .i64 z.adv, .int .i64 z.seq, .int .i64 z.sum, .int .i64 z.long] 2).run Try.prog W = .ok (.int .i64 z.id) W := fun z => run_part_plain W plainI rfl
  have q3 : ∀ z : Hd, (part 3 #[.int .i64 z.age, .int .i64 z.kind, .int .i64 z.id, .int .i64 z.adv, .int .i64 z.seq, .int .i64 z.sum, .int .i64 z.long] 3).run Try.prog W = .ok (.int .i64 z.adv) W := fun z => run_part_plain W plainI rfl
  have q4 : ∀ z : Hd, (part 3 #[.int .i64 z.age, .int .i64 z.kind, .int .i64 z.id, .int .i64 z.adv, .int .i64 z.seq, .int .i64 z.sum, .int .i64 z.long] 4).run Try.prog W = .ok (.int .i64 z.seq) W := fun z => run_part_plain W plainI rfl
  have q5 : ∀ z : Hd, (part 3 #[.int .i64 z.age, .int .i64 z.kind, .int .i64 z.id, .int .i64 z.adv, .int .i64 z.seq, .int .i64 z.sum, .int .i64 z.long] 5).run Try.prog W = .ok (.int .i64 z.sum) W := fun z => run_part_plain W plainI rfl
  have q6 : ∀ z : Hd, (part 3 #[.int .i64 z.age, .int .i64 z.kind, .int .i64 z.id, .int .i64 z.adv, .int .i64 z.seq, .int .i64 z.sum, .int .i64 z.long] 6).run Try.prog W = .ok (.int .i64 z.long) W := fun z => run_part_plain W plainI rfl
  rw [show (10000 : Nat) = 9998 + 1 + 1 from rfl, run_equalIn_struct W (9998 + 1) _ _ _ underHd stoodHd]
  simp [Program.fieldsOf, Try.underlying43, Op.eqFields, q0, q1, q2, q3, q4, q5, q6, eqIntK]
  clear q0 q1 q2 q3 q4 q5 q6
  unfold sameHd
  by_cases h1 : x.age = y.age
  · by_cases h2 : x.kind = y.kind
    · by_cases h3 : x.id = y.id
      · by_cases h4 : x.adv = y.adv
        · by_cases h5 : x.seq = y.seq
          · by_cases h6 : x.sum = y.sum
            · by_cases h7 : x.long = y.long <;> simp [h1, h2, h3, h4, h5, h6, h7]
            · simp [h1, h2, h3, h4, h5, h6]
          · simp [h1, h2, h3, h4, h5]
        · simp [h1, h2, h3, h4]
      · simp [h1, h2, h3]
    · simp [h1, h2]
  · simp [h1]
instance : DecidableEq Ky := fun a b => decidable_of_iff _ (sameKy_iff a b)
instance : DecidableEq Hd := fun a b => decidable_of_iff _ (sameHd_iff a b)
theorem own_setH {w : World} {base n size b c : Nat} {t : TypeId} {xs : List Value} (h : w.ownsRow base t size (.slice (some ⟨b, 0, none⟩) n c) n xs) (p : Nat) (u : Value) :
    (w.setCell ⟨b, p, none⟩ u).ownsRow base t size (.slice (some ⟨b, 0, none⟩) n c) n (xs.set p u) := by
  refine ⟨by rw [List.length_set]; exact h.1, ?_⟩
  rcases h.2 with ⟨hv, _⟩ | ⟨g, cap, cur, hv, hb, hg, h1, h2, h3, h4⟩
  · cases hv
  · injection hv with e1 e2 e3
    injection e1 with e1
    injection e1 with e1
    subst e1 e3
    have hB : Blk w b t cur := hg
    refine .inr ⟨b, c, cur.setIfInBounds p u, rfl, hb, hB.put p u, h1, h2, by simpa using h3, ?_⟩
    rw [← h4]
    simp [List.take_set]
def setAll : List Value → Nat → List Value → List Value
  | xs, _, [] => xs
  | xs, p, v :: r => setAll (xs.set p v) (p + 1) r
theorem own_setCells {b c n size base : Nat} {t : TypeId} : ∀ (vs : List Value) (p : Nat) (w : World) (xs : List Value), w.ownsRow base t size (.slice (some ⟨b, 0, none⟩) n c) n xs → (w.setCells b p vs).ownsRow base t size (.slice (some ⟨b, 0, none⟩) n c) n (setAll xs p vs)
  | [], _, _, _, h => h
  | v :: r, p, _, _, h => own_setCells r (p + 1) _ _ (own_setH h p v)
theorem chg_setCells (g : Nat) : ∀ (vs : List Value) (p : Nat) (w : World), Chg (fun q => q = g) w (w.setCells g p vs)
  | [], _, w => Chg.refl _ w
  | v :: r, p, w => by
    have h1 : Chg (fun q => q = g) w (w.setCell ⟨g, p, none⟩ v) := ⟨rfl, rfl, rfl, by simp, fun q hq hne => Below.heap_setCell _ _ _ _ hne⟩
    exact h1.trans (chg_setCells g r (p + 1) _) (fun _ h => .inl h)
end Go.Proofs.Ytfdfdmbnggpnbaa
namespace Go.Proofs.Ytfdfdmbnggpnbaa
open Go.RowKit Go.Lib Go.Sort Go.Deep

def exC (x : Ex) (h : Option Addr) : Array Value := #[.int .i64 x.self, .int .i64 x.other, .int .u32 x.seq, .bool x.agreed, .bool x.leads, .bool x.done, .bool x.took.init, .bool x.took.more, .bool x.took.master, .int .u32 x.took.seq, .bool x.said.init, .bool x.said.more, .bool x.said.master, .int .u32 x.said.seq, .pointer h]
/-- The summary of an exchange: none, or its block and row, on blocks of F. -/
def HeadsAt (w : World) (F : Nat → Prop) (h : Option Addr) (K : List Hd) : Prop := (h = none ∧ K = []) ∨ ∃ q A n c, h = some ⟨q, 0, none⟩ ∧ SumAt w F q A n c K
/-- An exchange in memory: its block p, and its summary on other blocks, all of them of F. -/
structure ExAt (w : World) (F : Nat → Prop) (p : Nat) (x : Ex) : Prop where
  ok : ExOk x
  fp : F p
  mem : ∃ h, Blk w p 108 (exC x h) ∧ HeadsAt w (fun q => F q ∧ q ≠ p) h x.K
section
variable {w w' : World} {F F' : Nat → Prop} {p : Nat} {x : Ex} {h : Option Addr} {K : List Hd}
theorem HeadsAt.move (hh : HeadsAt w F h K) (hk : ∀ q, F q → q < w.heap.size → w'.heap[q]? = w.heap[q]?) (hz : w.heap.size ≤ w'.heap.size) : HeadsAt w' F h K := by
  rcases hh with hh | ⟨q, A, n, c, e, hs⟩
  · exact .inl hh
  · exact .inr ⟨q, A, n, c, e, hs.move hk hz⟩
theorem HeadsAt.wide (hh : HeadsAt w F h K) (hF : ∀ q, F q → F' q) : HeadsAt w F' h K := by
  rcases hh with hh | ⟨q, A, n, c, e, hs⟩
  · exact .inl hh
  · refine .inr ⟨q, A, n, c, e, ⟨hs.blk, hF _ hs.fp, hs.len, hs.cap, hs.big, fun hn => ?_⟩⟩
    obtain ⟨g, o, e, hg, hne, hlt, hc⟩ := hs.row hn
    exact ⟨g, o, e, hF _ hg, hne, hlt, hc⟩
theorem HeadsAt.chg (hh : HeadsAt w F h K) (hc : Chg F' w w') (hF : ∀ q, F q → ¬ F' q) : HeadsAt w' F h K := hh.move (fun q hq hl => hc.block q hl (hF q hq)) hc.size
theorem ExAt.move (hx : ExAt w F p x) (hk : ∀ q, F q → q < w.heap.size → w'.heap[q]? = w.heap[q]?) (hz : w.heap.size ≤ w'.heap.size) : ExAt w' F p x := by
  obtain ⟨h, hb, hh⟩ := hx.mem
  exact ⟨hx.ok, hx.fp, h, (hk p hx.fp hb.lt).trans hb, hh.move (fun q hq hl => hk q hq.1 hl) hz⟩
theorem ExAt.chg (hx : ExAt w F p x) (hc : Chg F' w w') (hF : ∀ q, F q → ¬ F' q) : ExAt w' F p x := hx.move (fun q hq hl => hc.block q hl (hF q hq)) hc.size
theorem ExAt.below (hx : ExAt w F p x) (hb : Below w.heap.size w w') : ExAt w' F p x := hx.move (fun q _ hl => hb.block q hl) hb.size
theorem ExAt.drewN (hx : ExAt w F p x) (q : Nat) : ExAt (w.drewN q) F p x := hx.move (fun _ _ _ => rfl) (Nat.le_refl _)
theorem ExAt.lt (hx : ExAt w F p x) : p < w.heap.size := by
  obtain ⟨h, hb, hh⟩ := hx.mem
  exact hb.lt
end
/-- Stores into a block: of one cell; of a piece. -/
theorem Blk.fill {b : Nat} {t : TypeId} (post : List Value) : ∀ (vs rest pre : List Value) (w : World), rest.length = vs.length → Blk w b t (pre ++ rest ++ post).toArray → Blk (w.setCells b pre.length vs) b t (pre ++ vs ++ post).toArray
  | [], rest, pre, w, hl, h => by
    have : rest = [] := List.eq_nil_of_length_eq_zero hl
    subst this
    exact h
  | v :: r, [], pre, w, hl, h => by simp at hl
  | v :: r, u :: rest, pre, w, hl, h => by
    have h1 := h.put pre.length v
    have e : (pre ++ u :: rest ++ post).toArray.setIfInBounds pre.length v = ((pre ++ [v]) ++ rest ++ post).toArray := by
      rw [List.setIfInBounds_toArray]
      congr 1
      simp
    rw [e] at h1
    have h2 := Blk.fill post r rest (pre ++ [v]) _ (by simpa using hl) h1
    rw [List.length_append, List.length_singleton] at h2
    have e2 : (pre ++ v :: r ++ post).toArray = ((pre ++ [v]) ++ r ++ post).toArray := by simp
    rw [e2]
    exact h2
theorem Blk.thereAll {w : World} {b : Nat} {t : TypeId} {cs : Array Value} (h : Blk w b t cs) (o n : Nat) (hn : o + n ≤ cs.size) : w.there b o n := fun j hj => by
  constructor
  · rw [h.cell, Array.getElem?_eq_getElem (by omega)]
    rfl
  · exact h.frozen _
section
variable {ops : Array Oper} {rest : List Oper} {op : Oper} {a : Act} {w : World} {Q : Exit → Act → World → Prop}
theorem wpList_store_in (ty : TypeId) (pre old post vs : List Value) (hg : op.guard = none) (x v : Operand) (ho : op.op = .store ty x v) {b : Nat} {t : TypeId}
    (hx : a.eval x = .pointer (some ⟨b, pre.length, none⟩)) (hv : a.eval v = .agg vs.toArray) (hB : Blk w b t (pre ++ old ++ post).toArray) (hl : old.length = vs.length) (hi : (Try.prog.info? ty).map (·.size) = some vs.length) (h1 : ∀ u ∈ vs, u.oneCell' = true)
    (hn : ∀ w', Hid (Blk w' b t (pre ++ vs ++ post).toArray) → Hid (Chg (fun k => k = b) w w') → wpList Try.prog ops Q rest (a.put op.dst undef) w') : wpList Try.prog ops Q (op :: rest) a w := by
  refine wpList_store_mid hg ty x v ho b pre.length vs.toArray hx hv (hB.thereAll _ _ (by simp [hl])) (by simpa using hi) (all_oneCell_toArray h1) (hn _ (Lib.hid ?_) (Lib.hid ?_))
  · exact Blk.fill post vs old pre w hl hB
  · exact chg_setCells b _ _ w
theorem pc_ones (i m s : Bool) (q : Int) : ∀ u ∈ [Value.bool i, .bool m, .bool s, .int .u32 q], u.oneCell' = true := by
  intro u hu
  simp at hu
  rcases hu with rfl | rfl | rfl | rfl <;> rfl
theorem wpList_store_took {i m s : Bool} {q : Int} (hg : op.guard = none) (x v : Operand) (ho : op.op = .store 106 x v) {b : Nat} {t : TypeId} {a0 a1 a2 a3 a4 a5 a6 a7 a8 a9 b0 b1 b2 b3 b4 : Value}
    (hx : a.eval x = .pointer (some ⟨b, 6, none⟩)) (hv : a.eval v = .agg #[.bool i, .bool m, .bool s, .int .u32 q]) (hB : Blk w b t #[a0, a1, a2, a3, a4, a5, a6, a7, a8, a9, b0, b1, b2, b3, b4])
    (hn : ∀ w', Hid (Blk w' b t #[a0, a1, a2, a3, a4, a5, .bool i, .bool m, .bool s, .int .u32 q, b0, b1, b2, b3, b4]) → Hid (Chg (fun k => k = b) w w') → wpList Try.prog ops Q rest (a.put op.dst undef) w') : wpList Try.prog ops Q (op :: rest) a w :=
  wpList_store_in 106 [a0, a1, a2, a3, a4, a5] [a6, a7, a8, a9] [b0, b1, b2, b3, b4] [.bool i, .bool m, .bool s, .int .u32 q] hg x v ho hx hv hB rfl (by kernel_rfl) (pc_ones i m s q) hn
theorem wpList_store_said {i m s : Bool} {q : Int} (hg : op.guard = none) (x v : Operand) (ho : op.op = .store 106 x v) {b : Nat} {t : TypeId} {a0 a1 a2 a3 a4 a5 a6 a7 a8 a9 b0 b1 b2 b3 b4 : Value}
    (hx : a.eval x = .pointer (some ⟨b, 10, none⟩)) (hv : a.eval v = .agg #[.bool i, .bool m, .bool s, .int .u32 q]) (hB : Blk w b t #[a0, a1, a2, a3, a4, a5, a6, a7, a8, a9, b0, b1, b2, b3, b4])
    (hn : ∀ w', Hid (Blk w' b t #[a0, a1, a2, a3, a4, a5, a6, a7, a8, a9, .bool i, .bool m, .bool s, .int .u32 q, b4]) → Hid (Chg (fun k => k = b) w w') → wpList Try.prog ops Q rest (a.put op.dst undef) w') : wpList Try.prog ops Q (op :: rest) a w :=
  wpList_store_in 106 [a0, a1, a2, a3, a4, a5, a6, a7, a8, a9] [b0, b1, b2, b3] [b4] [.bool i, .bool m, .bool s, .int .u32 q] hg x v ho hx hv hB rfl (by kernel_rfl) (pc_ones i m s q) hn
end
theorem chg_put {F : Nat → Prop} (w : World) {a : Addr} (u : Value) (h : F a.block) : Chg F w (w.setCell a u) := Chg.of_grown (grown_setCell w a u) (fun k hk => by injection hk with hk; rw [← hk]; exact h)

section
variable {w : World} {F : Nat → Prop} {p : Nat} {x : Ex}
/-- New. -/
theorem u32_mod (s : Int) : IntKind.u32.wrap s = s % 4294967296 := by rw [IntKind.wrap_u32]
theorem grownW {w : World} {q : Nat} {os : Array Obj} : Below w.heap.size w (Go.Sort.grow (w.drewN q) os) := ⟨rfl, rfl, rfl, by rw [Go.Sort.size_grow]; exact Nat.le_add_right _ _, fun k hk => heap_grow_old _ _ (by exact hk)⟩
set_option maxRecDepth 8000 in
set_option maxHeartbeats 2000000 in
theorem newX_any (a b s : Int) (w : World) : Calls Try.prog 27 #[.int .i64 a, .int .i64 b, .int .i64 s] w fun e w' => e = .returned (.pointer (some ⟨w.heap.size, 0, none⟩)) ∧ ExAt w' (fun q => q = w.heap.size) w.heap.size (newE a b s) ∧ Below w.heap.size w w' := by
  obtain ⟨m, hm⟩ : ∃ m, IntKind.u32.wrap s = m := ⟨_, rfl⟩
  have HM := Lib.hid ((u32_mod s).symm.trans hm)
  go_enter Try.func27, Try.ntmps27
  go_wp2
  go_ret
  refine ⟨rfl, ⟨newE_ok a b s, rfl, none, ?_, .inl ⟨rfl, rfl⟩⟩, (Below.refl _ _).alloc (Nat.le_refl _) _⟩
  rw [show exC (newE a b s) none = #[.int .i64 a, .int .i64 b, .int .u32 m, .bool false, .bool false, .bool false, .bool false, .bool false, .bool false, .int .u32 0, .bool true, .bool true, .bool true, .int .u32 m, .pointer none] by simp only [exC, newE, pc0, HM.out]]
  exact Blk.new w _ _
/-- What an exchange tells of itself. -/
theorem agreedX {h : Option Addr} (hB : Blk w p 108 (exC x h)) : Calls Try.prog 39 #[.pointer (some ⟨p, 0, none⟩)] w fun e w' => e = .returned (.bool x.agreed) ∧ w' = w := by
  have c3 : w.cell? ⟨p, 3, none⟩ = some (.bool x.agreed) := hB.cell 3
  clear hB
  go_enter Try.func39, Try.ntmps39
  go_wp2
  go_ret
  exact ⟨rfl, rfl⟩
theorem leadsX {h : Option Addr} (hB : Blk w p 108 (exC x h)) : Calls Try.prog 36 #[.pointer (some ⟨p, 0, none⟩)] w fun e w' => e = .returned (.bool x.leads) ∧ w' = w := by
  have c3 : w.cell? ⟨p, 4, none⟩ = some (.bool x.leads) := hB.cell 4
  clear hB
  go_enter Try.func36, Try.ntmps36
  go_wp2
  go_ret
  exact ⟨rfl, rfl⟩
theorem doneX {h : Option Addr} (hB : Blk w p 108 (exC x h)) : Calls Try.prog 35 #[.pointer (some ⟨p, 0, none⟩)] w fun e w' => e = .returned (.bool x.done) ∧ w' = w := by
  have c3 : w.cell? ⟨p, 5, none⟩ = some (.bool x.done) := hB.cell 5
  clear hB
  go_enter Try.func35, Try.ntmps35
  go_wp2
  go_ret
  exact ⟨rfl, rfl⟩
theorem i64_of_u32 {q : Int} (h : okSeq q = true) : IntKind.i64.wrap q = q := by
  rw [okSeq_iff] at h
  rw [IntKind.wrap_i64]
  omega
theorem seqX {h : Option Addr} (hx : ExOk x) (hB : Blk w p 108 (exC x h)) : Calls Try.prog 40 #[.pointer (some ⟨p, 0, none⟩)] w fun e w' => e = .returned (.int .i64 x.seq) ∧ w' = w := by
  have c3 : w.cell? ⟨p, 2, none⟩ = some (.int .u32 x.seq) := hB.cell 2
  have hw := i64_of_u32 hx.seq
  clear hB hx
  go_enter Try.func40, Try.ntmps40
  go_wp2
  go_ret
  exact ⟨rfl, rfl⟩
/-- Piece, More, Step of what may be none. -/
theorem pieceO {h : Option Addr} {K : List Hd} (hh : HeadsAt w F h K) (hn : K.length ≤ 1000) : Calls Try.prog 16 #[.pointer h] w (PieceQ K w) := by
  rcases hh with ⟨rfl, rfl⟩ | ⟨q, A, n, c, rfl, hs⟩
  · exact pieceP_nil w
  · exact pieceP_any hs (by rw [← hs.len]; exact hn)
theorem moreO {h : Option Addr} {K : List Hd} (hh : HeadsAt w F h K) (hn : K.length ≤ 1000) : Calls Try.prog 17 #[.pointer h] w fun e w' => e = .returned (.bool (decide (3 < K.length))) ∧ ∃ q, w' = w.drewN q := by
  rcases hh with ⟨rfl, rfl⟩ | ⟨q, A, n, c, rfl, hs⟩
  · exact more_nil w
  · have := more_any hs (by rw [← hs.len]; exact hn)
    rwa [← hs.len] at this
theorem stepO {h : Option Addr} {K : List Hd} (hh : HeadsAt w F h K) (hn : K.length ≤ 1000) : Calls Try.prog 18 #[.pointer h] w fun e w' => (∃ v, e = .returned (.bool v)) ∧ HeadsAt w' F h (K.drop 3) ∧ Chg F w w' := by
  rcases hh with ⟨rfl, rfl⟩ | ⟨q, A, n, c, rfl, hs⟩
  · refine (step_nil w).mono ?_
    rintro e w' ⟨rfl, rfl⟩
    exact ⟨⟨_, rfl⟩, .inl ⟨rfl, rfl⟩, Chg.refl _ _⟩
  · refine (step_any hs (by rw [← hs.len]; exact hn)).mono ?_
    rintro e w' ⟨rfl, A', n', c', hs', hc⟩
    exact ⟨⟨_, rfl⟩, .inr ⟨q, A', n', c', rfl, hs'⟩, ⟨hc.os, hc.tape, hc.output, hc.size, fun k hk hf => hc.block k hk (fun e => hf (by rw [e]; exact hs.fp))⟩⟩
set_option maxRecDepth 8000 in
set_option maxHeartbeats 2000000 in
theorem takeX {h : Option Addr} (pc : Pc) (hB : Blk w p 108 (exC x h)) : Calls Try.prog 85 #[.pointer (some ⟨p, 0, none⟩), .agg #[.bool pc.init, .bool pc.more, .bool pc.master, .int .u32 pc.seq]] w fun e w' => e = .returned (.tuple #[]) ∧ Blk w' p 108 (exC (takeE x pc) h) ∧ Chg (fun q => q = p) w w' := by
  obtain ⟨self, other, seq, agreed, leads, done, took, said, K⟩ := x
  have C0 := Lib.hid (Chg.of_below (F := fun q => q = p) ((Below.refl w.heap.size w).alloc (Nat.le_refl _) (.cells #[.bool pc.init, .bool pc.more, .bool pc.master, .int .u32 pc.seq] 106)))
  have K0 := Lib.hid (show Blk (w.alloc (.cells #[.bool pc.init, .bool pc.more, .bool pc.master, .int .u32 pc.seq] 106)) p 108 #[.int .i64 self, .int .i64 other, .int .u32 seq, .bool agreed, .bool leads, .bool done, .bool took.init, .bool took.more, .bool took.master, .int .u32 took.seq, .bool said.init, .bool said.more, .bool said.master, .int .u32 said.seq, .pointer h] from hB.alloc _)
  have N0 := Lib.hid (Blk.new w 106 #[.bool pc.init, .bool pc.more, .bool pc.master, .int .u32 pc.seq])
  have hne := hB.lt
  clear hB
  have hup : IntKind.u32.wrap (pc.seq + 1) = up32 pc.seq := u32_mod _
  have R0 := Lib.hid (show (w.alloc (.cells #[.bool pc.init, .bool pc.more, .bool pc.master, .int .u32 pc.seq] 106)).rangeAt w.heap.size 0 [.bool pc.init, .bool pc.more, .bool pc.master, .int .u32 pc.seq] from fun j v hv => by
    rw [Nat.zero_add, N0.out.cell, ← hv]
    simp)
  cases leads
  all_goals
    go_enter Try.func85, Try.ntmps85
    go_wp2_with (first | refine wpList_load_row 106 _ _ (by rfl) (.tmp 3) rfl (by rfl) R0.out Try.underlying106 rfl (by kernel_rfl) ?_ | (refine wpList_store_took (i := pc.init) (m := pc.more) (s := pc.master) (q := pc.seq) rfl (.tmp 7) (.tmp 5) rfl rfl rfl K0.out ?_; intro w1 HK1 HC1; have hpl := HK1.out.lt; have n3 := (N0.out.chg HC1.out (by omega)).cell 3; have h2 := HK1.out.cell 2; have f2 := HK1.out.frozen 2; have g4 := (HK1.out.put 2 (.int .u32 pc.seq)).cell 4; have g2 := (HK1.out.put 2 (.int .u32 pc.seq)).cell 2; have gf2 := (HK1.out.put 2 (.int .u32 pc.seq)).frozen 2; simp at n3 h2 g4 g2))
    refine bodyPost_end (results_none rfl _ _ _) rfl ?_
    refine ⟨rfl, ?_, ?_⟩
  · exact HK1.out.put 2 (.int .u32 pc.seq)
  · exact (C0.out.trans HC1.out (fun q hq => .inl hq)).trans (chg_put (F := fun q => q = p) _ _ rfl) (fun q hq => .inl hq)
  · exact (HK1.out.put 2 (.int .u32 pc.seq)).put 2 (.int .u32 (up32 pc.seq))
  · exact ((C0.out.trans HC1.out (fun q hq => .inl hq)).trans (chg_put (F := fun q => q = p) _ _ rfl) (fun q hq => .inl hq)).trans (chg_put (F := fun q => q = p) _ _ rfl) (fun q hq => .inl hq)
end
end Go.Proofs.Ytfdfdmbnggpnbaa
