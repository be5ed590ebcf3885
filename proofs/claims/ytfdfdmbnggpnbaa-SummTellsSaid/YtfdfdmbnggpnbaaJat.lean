/- A description that is gone; appends of one head, of one key; New. Conditions: what the words say; at most 100 descriptions. · Which of two heads is newer: the program's, and the reference's. Conditions: ages from 0 to 60. · A summary in memory; its piece, Piece, More, Step; a summary that is not there. Conditions: what the words say; at most 1000 heads. · Keys and heads compared by ==; rows written over; the library's Compact of a row of keys. Conditions: what the words say; at most 1000 keys. · What a database lacks of a head; Get of one that is not there. Conditions: keys of 64 bits, ages from 0 to 60 where they are compared. -/
import Derived.WalkKit
import Derived.WalkLawsBesides
import Derived.Deep.QuietTactic
import Derived.BigQuiet
import Derived.Lib.Hide
import Derived.OpenShut
import Derived.Deep.MidRow
import Derived.Deep.Slices
import Derived.Deep.Fields
import Derived.IntWalk
import Derived.Laws.StructEq
import Derived.ChangeKeysEq
import Derived.Lib.SlicesCompact
import Derived.Lib.SliceRun
import Derived.Test.YtfdfdmbnggpnbaaJas
import Derived.Test.YtfdfdmbnggpnbaaJao
namespace Go.Proofs.Ytfdfdmbnggpnbaa
open Go.RowKit Go.Lib Go.Sort

/-- Is a description of the greatest age? -/
def goneB (x : La) : Bool := x.h.age == 60
/-- The heads that are told, in the order in which they came. -/
def toldL (S : List La) : List Hd := (S.filter fun x => !goneB x).map La.h
/-- The keys of those that are gone, in the order in which they came. -/
def goneK (S : List La) : List Ky := (S.filter goneB).map kyL
theorem toldL_snoc (S : List La) (x : La) : toldL (S ++ [x]) = if goneB x = true then toldL S else toldL S ++ [x.h] := by
  unfold toldL
  rw [List.filter_append, List.map_append]
  cases h : goneB x <;> simp [h]
theorem goneK_snoc (S : List La) (x : La) : goneK (S ++ [x]) = if goneB x = true then goneK S ++ [kyL x] else goneK S := by
  unfold goneK
  rw [List.filter_append, List.map_append]
  cases h : goneB x <;> simp [h]
theorem infoHd : (Try.prog.info? 43).map (fun i => (i.zero, i.size, i.bytes)) = some (some (.agg #[.int .i64 0, .int .i64 0, .int .i64 0, .int .i64 0, .int .i64 0, .int .i64 0, .int .i64 0]), 7, 56) := by kernel_rfl
theorem infoKy : (Try.prog.info? 86).map (fun i => (i.zero, i.size, i.bytes)) = some (some (.agg #[.int .i64 0, .int .i64 0, .int .i64 0]), 3, 24) := by kernel_rfl
theorem HdAt.range {w : World} {B b p : Nat} {h : Hd} (hh : HdAt w B b p h) : w.rangeAt b p (encHd h) := by
  obtain ⟨h0, h1, h2, h3, h4, h5, h6⟩ := hh
  intro j v hj
  match j, hj with
  | 0, hj => cases hj; exact h0
  | 1, hj => cases hj; exact h1
  | 2, hj => cases hj; exact h2
  | 3, hj => cases hj; exact h3
  | 4, hj => cases hj; exact h4
  | 5, hj => cases hj; exact h5
  | 6, hj => cases hj; exact h6
theorem wpList_app_hd {wb : World} {ops : Array Oper} {rest : List Oper} {o : Oper} {a : Act} {Q : Exit → Act → World → Prop} (hgd : o.guard = none) (s x : Operand) (ho : o.op = .call { callee := .builtin .append, args := #[s, x], argTypes := #[27, 27] })
    {base n c : Nat} {A : Option Addr} {L : List Hd} (y : Hd) (hs : a.eval s = .slice A n c) (hx : a.eval x = .slice (some ⟨wb.heap.size, 0, none⟩) 1 1) (hown : wb.ownsRow base 43 7 (.slice A n c) n (cellsBy encHd L)) (hn : n ≤ 1000) (hbase : base ≤ wb.heap.size)
    (h : ∀ A' c' w', Hid (w'.ownsRow base 43 7 (.slice A' (n + 1) c') (n + 1) (cellsBy encHd (L ++ [y]))) → Hid (Below base wb w') → wpList Try.prog ops Q rest (a.put o.dst (.slice A' (n + 1) c')) w') : wpList Try.prog ops Q (o :: rest) a (wb.alloc (.cells #[.int .i64 y.age, .int .i64 y.kind, .int .i64 y.id, .int .i64 y.adv, .int .i64 y.seq, .int .i64 y.sum, .int .i64 y.long] 43)) := by
  refine wpList_append_any hgd s x 27 43 (.agg #[.int .i64 0, .int .i64 0, .int .i64 0, .int .i64 0, .int .i64 0, .int .i64 0, .int .i64 0]) 7 56 Try.underlying27 infoHd rfl (by decide) (by decide) ho base (.slice A n c) n (cellsBy encHd L) hs (hown.alloc _) (some ⟨wb.heap.size, 0, none⟩) 1 1 (encHd y) hx rfl (fun h => by cases h) (news_new wb 43 (encHd y)) (encHd_ones y) (by omega) (by simp; omega) ?_
  intro v2 w2 ho2 hg2
  obtain ⟨A2, c2, rfl⟩ := own_slice ho2.out
  refine h A2 c2 w2 (Lib.hid (by rw [by_append, by_one]; exact ho2.out)) (Lib.hid ?_)
  exact ((Below.refl base wb).alloc hbase _).trans (own_keeps7 (hown.alloc _) hg2.out (by simp; omega))
theorem wpList_app_ky {wb : World} {ops : Array Oper} {rest : List Oper} {o : Oper} {a : Act} {Q : Exit → Act → World → Prop} (hgd : o.guard = none) (s x : Operand) (ho : o.op = .call { callee := .builtin .append, args := #[s, x], argTypes := #[36, 36] })
    {base n c : Nat} {A : Option Addr} {L : List Ky} (y : Ky) (hs : a.eval s = .slice A n c) (hx : a.eval x = .slice (some ⟨wb.heap.size, 0, none⟩) 1 1) (hown : wb.ownsRow base 86 3 (.slice A n c) n (kyCells L)) (hn : n ≤ 1000) (hbase : base ≤ wb.heap.size)
    (h : ∀ A' c' w', Hid (w'.ownsRow base 86 3 (.slice A' (n + 1) c') (n + 1) (kyCells (L ++ [y]))) → Hid (Below base wb w') → wpList Try.prog ops Q rest (a.put o.dst (.slice A' (n + 1) c')) w') : wpList Try.prog ops Q (o :: rest) a (wb.alloc (.cells #[.int .i64 y.kind, .int .i64 y.id, .int .i64 y.adv] 86)) := by
  refine wpList_append_any hgd s x 36 86 (.agg #[.int .i64 0, .int .i64 0, .int .i64 0]) 3 24 Try.underlying36 infoKy rfl (by decide) (by decide) ho base (.slice A n c) n (kyCells L) hs (hown.alloc _) (some ⟨wb.heap.size, 0, none⟩) 1 1 [.int .i64 y.kind, .int .i64 y.id, .int .i64 y.adv] hx rfl (fun h => by cases h) (news_new wb 86 [.int .i64 y.kind, .int .i64 y.id, .int .i64 y.adv]) (fun u hu => kyCells_ones [y] u (by simpa [kyCells] using hu)) (by omega) (by simp; omega) ?_
  intro v2 w2 ho2 hg2
  obtain ⟨A2, c2, rfl⟩ := own_slice ho2.out
  refine h A2 c2 w2 (Lib.hid ?_) (Lib.hid ?_)
  · rw [kyCells_append, show kyCells [y] = [.int .i64 y.kind, .int .i64 y.id, .int .i64 y.adv] by simp [kyCells]]
    exact ho2.out
  · exact ((Below.refl base wb).alloc hbase _).trans (own_keeps7 (hown.alloc _) hg2.out (by simp; omega))

set_option maxRecDepth 8000 in
set_option maxHeartbeats 2000000 in
theorem gone_any (x : La) (A A' : Option Addr) (n c n' c' : Nat) (w : World) : Calls Try.prog 41 #[.agg #[.int .i64 x.h.age, .int .i64 x.h.kind, .int .i64 x.h.id, .int .i64 x.h.adv, .int .i64 x.h.seq, .int .i64 x.h.sum, .int .i64 x.h.long, .slice A n c, .slice A' n' c']] w fun e w' => e = .returned (.bool (goneB x)) ∧ Below w.heap.size w w' := by
  have B0 := Lib.hid ((Below.refl w.heap.size w).alloc (Nat.le_refl _) (.cells #[.int .i64 x.h.age, .int .i64 x.h.kind, .int .i64 x.h.id, .int .i64 x.h.adv, .int .i64 x.h.seq, .int .i64 x.h.sum, .int .i64 x.h.long, .slice A n c, .slice A' n' c'] 78))
  have K0 := Lib.hid (Blk.new w 78 #[.int .i64 x.h.age, .int .i64 x.h.kind, .int .i64 x.h.id, .int .i64 x.h.adv, .int .i64 x.h.seq, .int .i64 x.h.sum, .int .i64 x.h.long, .slice A n c, .slice A' n' c'])
  obtain ⟨o0, o1, o2, o3, o4, o5, o6, o7, o8⟩ := K0.out.nine
  go_enter Try.func41, Try.ntmps41
  go_wp2
  go_ret
  exact ⟨rfl, B0.out⟩
/-- A summary, new. -/
theorem las_item {w : World} {B n k : Nat} {A : Option Addr} {S : List La} (h : Las w B A n S) (hk : k < n) : ∃ (b o : Nat) (x : La) (A1 : Option Addr) (n1 c1 : Nat) (A2 : Option Addr) (n2 c2 : Nat), A = some ⟨b, o, none⟩ ∧ b < B ∧ S[k]? = some x ∧
    w.rangeAt b (o + k * 9) [.int .i64 x.h.age, .int .i64 x.h.kind, .int .i64 x.h.id, .int .i64 x.h.adv, .int .i64 x.h.seq, .int .i64 x.h.sum, .int .i64 x.h.long, .slice A1 n1 c1, .slice A2 n2 c2] ∧ Lnk w B A1 n1 x.L ∧ Row .i64 w B A2 n2 x.M ∧ n1 ≤ maxLen ∧ n2 ≤ maxLen := by
  obtain ⟨b, o, x, rfl, hb, hx, hh, A1, n1, c1, A2, n2, c2, h7, h8, h9, h10, h11, h12⟩ := Arr.at h hk
  exact ⟨b, o, x, A1, n1, c1, A2, n2, c2, rfl, hb, hx, la_range hh h7 h8, h9, h10, h11, h12⟩
theorem head_range {w : World} {g : Nat} {t : TypeId} {x : La} {A A' : Option Addr} {n c n' c' : Nat} (h : Blk w g t #[.int .i64 x.h.age, .int .i64 x.h.kind, .int .i64 x.h.id, .int .i64 x.h.adv, .int .i64 x.h.seq, .int .i64 x.h.sum, .int .i64 x.h.long, .slice A n c, .slice A' n' c']) : w.rangeAt g 0 (encHd x.h) := by
  obtain ⟨h0, h1, h2, h3, h4, h5, h6, -, -⟩ := h.nine
  exact HdAt.range (B := 0) ⟨h0, h1, h2, h3, h4, h5, h6⟩
/-- What New leaves: a summary's block, and its row of heads. -/
def NewQ (S : List La) (w : World) (e : Ending) (w' : World) : Prop :=
  ∃ (p : Nat) (A : Option Addr) (n c : Nat) (K : List Hd), e = .returned (.pointer (some ⟨p, 0, none⟩)) ∧ Below w.heap.size w w' ∧ w.heap.size ≤ p ∧ Blk w' p 83 #[.slice A n c] ∧ w'.ownsRow w.heap.size 43 7 (.slice A n c) n (cellsBy encHd K) ∧ Ord lessH K ∧ Stab lessH (toldL S) K
set_option maxRecDepth 8000 in
set_option maxHeartbeats 4000000 in
theorem new_any {w : World} {A : Option Addr} {n c : Nat} {S : List La} {B : Nat} (hS : Las w B A n S) (hB : B ≤ w.heap.size) (hn : n ≤ 100) : Calls Try.prog 13 #[.slice A n c] w (NewQ S w) := by
  generalize hQ : NewQ S w = Q
  have HQ := Lib.hid hQ
  have HS := Lib.hid hS
  have O0 := Lib.hid (World.ownsRow_nil w w.heap.size 43 7)
  have B0 := Lib.hid (Below.refl w.heap.size w)
  clear hQ hS
  go_enter Try.func13, Try.ntmps13
  go_wp2_with fail
  go_loopw [3, 8] (fun s3 s8 wr => ∃ (k m c' : Nat) (A' : Option Addr), s8 = .int .i64 k ∧ s3 = .slice A' m c' ∧ k ≤ n ∧ m ≤ k ∧ Hid (wr.ownsRow w.heap.size 43 7 (.slice A' m c') m (cellsBy encHd (toldL (S.take k)))) ∧ Hid (Below w.heap.size w wr)) (fun _ s8 _ => n - (intOf s8).toNat)
  case atStart => exact ⟨0, 0, 0, none, rfl, rfl, Nat.zero_le _, Nat.le_refl _, Lib.hid (by simpa [toldL, cellsBy] using O0.out), B0⟩
  case round =>
    clear O0 B0
    obtain ⟨k, m, c', A', rfl, rfl, hk, hmk, OW, BW⟩ := hrel
    by_cases hlt : k < n
    · have hlt' : (k : Int) < (n : Int) := by omega
      obtain ⟨b, o, x, A1, n1, c1, A2, n2, c2, rfl, hb, hx, hr, -, -, -, -⟩ := las_item (HS.out.below (BW.out.mono hB)) hlt
      have HR := Lib.hid hr
      have HX := Lib.hid hx
      have hz := BW.out.size
      have BX := Lib.hid (BW.out.alloc hz (.cells #[.int .i64 x.h.age, .int .i64 x.h.kind, .int .i64 x.h.id, .int .i64 x.h.adv, .int .i64 x.h.seq, .int .i64 x.h.sum, .int .i64 x.h.long, .slice A1 n1 c1, .slice A2 n2 c2] 78))
      have KX := Lib.hid (Blk.new wr 78 #[.int .i64 x.h.age, .int .i64 x.h.kind, .int .i64 x.h.id, .int .i64 x.h.adv, .int .i64 x.h.seq, .int .i64 x.h.sum, .int .i64 x.h.long, .slice A1 n1 c1, .slice A2 n2 c2])
      have OX := Lib.hid (OW.out.alloc (.cells #[.int .i64 x.h.age, .int .i64 x.h.kind, .int .i64 x.h.id, .int .i64 x.h.adv, .int .i64 x.h.seq, .int .i64 x.h.sum, .int .i64 x.h.long, .slice A1 n1 c1, .slice A2 n2 c2] 78))
      have RX := Lib.hid (blk_range7 KX.out)
      clear hr hx OW BW
      go_wp2_with (first | refine wpList_load_row 78 _ _ (by rfl) (.tmp 10) rfl (by rfl) HR.out Try.underlying78 rfl (by kernel_rfl) ?_ | (refine wpList_load_row 78 _ _ (by rfl) (.tmp 5) rfl (by rfl) RX.out Try.underlying78 rfl (by kernel_rfl) ?_))
      refine (gone_any x A1 A2 n1 c1 n2 c2 _).mono ?_
      rintro e1 w1 ⟨rfl, hb1⟩
      generalize wr.alloc (.cells #[.int .i64 x.h.age, .int .i64 x.h.kind, .int .i64 x.h.id, .int .i64 x.h.adv, .int .i64 x.h.seq, .int .i64 x.h.sum, .int .i64 x.h.long, .slice A1 n1 c1, .slice A2 n2 c2] 78) = wx at *
      generalize wr.heap.size = X at *
      have hzx := BX.out.size
      have B1 := Lib.hid (BX.out.trans (hb1.mono hzx))
      have K1 := Lib.hid (KX.out.below hb1 KX.out.lt)
      have O1 := Lib.hid (own_chg OX.out (Chg.of_below (F := fun _ => False) hb1) (fun _ _ hf => hf))
      have hz1 := B1.out.size
      have R1 := Lib.hid (show w1.rangeAt X 0 [.int .i64 x.h.age, .int .i64 x.h.kind, .int .i64 x.h.id, .int .i64 x.h.adv, .int .i64 x.h.seq, .int .i64 x.h.sum, .int .i64 x.h.long] from head_range K1.out)
      have HT := Lib.hid (toldL_snoc (S.take k) x)
      rw [← take_snocA S k x HX.out] at HT
      clear hb1 BX KX OX RX hzx K1 HR HX
      cases hg : goneB x
      · have HT2 := Lib.hid (show toldL (S.take (k + 1)) = toldL (S.take k) ++ [x.h] by
          have := HT.out
          rwa [hg, if_neg (by decide)] at this)
        clear HT hg
        go_wp2_with (first | refine wpList_load_row 43 _ _ (by rfl) (.tmp 16) rfl (by rfl) R1.out Try.underlying43 rfl (by kernel_rfl) ?_ | (at_builtin; refine wpList_app_hd rfl (.tmp 15) (.tmp 18) rfl x.h (by rfl) (by rfl) O1.out (by omega) hz1 ?_; intro A3 c3 w3 HO3 HB3))
        have O3 := Lib.hid (show w3.ownsRow w.heap.size 43 7 (.slice A3 (m + 1) c3) (m + 1) (cellsBy encHd (toldL (S.take (k + 1)))) by rw [HT2.out]; exact HO3.out)
        have B3 := Lib.hid (B1.out.trans HB3.out)
        clear HO3 HB3 O1 B1 R1 HT2
        go_roundw
        case rel => exact ⟨k + 1, m + 1, c3, A3, by go_num, by first | rfl | go_num, by omega, by omega, O3, B3⟩
        case measure => simp [intOf]; omega
      · have HT2 := Lib.hid (show toldL (S.take (k + 1)) = toldL (S.take k) by
          have := HT.out
          rwa [hg, if_pos rfl] at this)
        clear HT hg
        have O3 := Lib.hid (show w1.ownsRow w.heap.size 43 7 (.slice A' m c') m (cellsBy encHd (toldL (S.take (k + 1)))) by rw [HT2.out]; exact O1.out)
        clear R1 O1 HT2
        go_wp2
        go_roundw
        case rel => exact ⟨k + 1, m, c', A', by go_num, rfl, by omega, by omega, O3, B1⟩
        case measure => simp [intOf]; omega
    · have hlt' : ¬ (k : Int) < (n : Int) := by omega
      have HT := Lib.hid (show toldL (S.take k) = toldL S by
        rw [List.take_of_length_le (by have := HS.out.1; omega)])
      rw [HT.out] at OW
      clear HT
      go_wp2_with (go_at_call 42; refine (sort_heads OW.out (by omega)).mono ?_; rintro e1 w1 ⟨rfl, ⟨K, hk1, hk2, hk3⟩, hgr⟩)
      have hz := BW.out.size
      have B1 := BW.out.trans (own_keeps7 OW.out hgr hz)
      have B2 := B1.alloc B1.size (.cells #[.slice A' m c'] 83)
      have hz1 := B1.size
      show Q (.returned (.pointer (some ⟨w1.heap.size, 0, none⟩))) _
      rw [← HQ.out]
      exact ⟨w1.heap.size, A', m, c', K, rfl, B2, hz1, Blk.new w1 83 _, hk3.alloc _, hk1, hk2⟩
end Go.Proofs.Ytfdfdmbnggpnbaa
namespace Go.Proofs.Ytfdfdmbnggpnbaa
/-- Is an age from 0 to 60? -/
def ageB (h : Hd) : Bool := decide (0 ≤ h.age) && decide (h.age ≤ 60)
theorem ageB_iff (h : Hd) : ageB h = true ↔ 0 ≤ h.age ∧ h.age ≤ 60 := by simp [ageB]
/-- Which of two numbers is greater: -1, 0, 1. -/
def cmpI (a b : Int) : Int := if a < b then -1 else if b < a then 1 else 0
/-- Which of two ages is of the newer one. -/
def frI (a b : Int) : Int :=
  if a = 60 ∧ b ≠ 60 then 1 else if b = 60 ∧ a ≠ 60 then -1 else if a + 6 < b then 1 else if b + 6 < a then -1 else 0
/-- Which of two heads is newer. -/
def nw (a b : Hd) : Int := if a.seq ≠ b.seq then cmpI a.seq b.seq else if a.sum ≠ b.sum then cmpI a.sum b.sum else frI a.age b.age

open Go.RowKit

theorem isNaN_no (x : Int) (w : World) : Calls Try.prog 111 #[.int .i64 x] w fun e w' => e = .returned (.bool false) ∧ w = w' := by
  have hd : (x != x) = false := by simp
  go_enter Try.func111, Try.ntmps111
  go_wp2
  go_ret
  exact ⟨rfl, rfl⟩

set_option maxHeartbeats 1000000 in
theorem compare_any (a b : Int) (w : World) : Calls Try.prog 79 #[.int .i64 a, .int .i64 b] w fun e w' => e = .returned (.int .i64 (cmpI a b)) ∧ w = w' := by
  generalize hv : cmpI a b = v
  have HV := Lib.hid hv
  clear hv
  go_enter Try.func79, Try.ntmps79
  go_wp2_with fail
  refine (isNaN_no _ _).mono ?_
  rintro e1 w1 ⟨rfl, rfl⟩
  go_wp2_with fail
  refine (isNaN_no _ _).mono ?_
  rintro e2 w2 ⟨rfl, rfl⟩
  by_cases h : a < b
  · obtain rfl : v = -1 := by rw [← HV.out, cmpI, if_pos h]
    go_wp2
    go_ret
    exact ⟨rfl, rfl⟩
  · by_cases h2 : b < a
    · obtain rfl : v = 1 := by rw [← HV.out, cmpI, if_neg h, if_pos h2]
      go_wp2
      go_ret
      exact ⟨rfl, rfl⟩
    · obtain rfl : v = 0 := by rw [← HV.out, cmpI, if_neg h, if_neg h2]
      go_wp2
      go_ret
      exact ⟨rfl, rfl⟩

/-- Are ages more than 6 apart? -/
def farB (a b : Int) : Bool := decide (a + 6 < b) || decide (b + 6 < a)
set_option maxHeartbeats 1000000 in
theorem apart_any (a b : Int) (w : World) (ha : 0 ≤ a) (ha' : a ≤ 60) (hb : 0 ≤ b) (hb' : b ≤ 60) : Calls Try.prog 112 #[.int .i64 a, .int .i64 b] w fun e w' => e = .returned (.bool (farB a b)) ∧ w = w' := by
  generalize hv : farB a b = v
  have HV := Lib.hid hv
  clear hv
  go_enter Try.func112, Try.ntmps112
  go_wp2
  all_goals (go_ret; exact ⟨ret_bool (a := decide (6 < max a b - min a b)) (by rw [← HV.out, farB, Bool.eq_iff_iff]; simp; omega), rfl⟩)
theorem farB_no {a b : Int} (h : farB a b = false) : ¬ a + 6 < b ∧ ¬ b + 6 < a := by
  unfold farB at h
  rw [Bool.or_eq_false_iff, decide_eq_false_iff_not, decide_eq_false_iff_not] at h
  exact h
theorem farB_yes {a b : Int} (h : farB a b = true) : a + 6 < b ∨ b + 6 < a := by
  unfold farB at h
  rw [Bool.or_eq_true, decide_eq_true_iff, decide_eq_true_iff] at h
  exact h
theorem frI_far {a b : Int} (h1 : a ≠ 60) (h2 : b ≠ 60) (h : farB a b = true) : cmpI b a = frI a b := by
  have := farB_yes h
  unfold frI cmpI
  repeat' split
  all_goals omega
theorem frI_near {a b : Int} (h1 : a ≠ 60) (h2 : b ≠ 60) (h : farB a b = false) : frI a b = 0 := by
  have := farB_no h
  unfold frI
  repeat' split
  all_goals omega

set_option maxHeartbeats 2000000 in
theorem fresher_any (a b : Int) (w : World) (ha : 0 ≤ a) (ha' : a ≤ 60) (hb : 0 ≤ b) (hb' : b ≤ 60) : Calls Try.prog 83 #[.int .i64 a, .int .i64 b] w fun e w' => e = .returned (.int .i64 (frI a b)) ∧ w = w' := by
  generalize hv : frI a b = v
  have HV := Lib.hid hv
  clear hv
  go_enter Try.func83, Try.ntmps83
  by_cases h1 : a = 60
  · subst h1
    by_cases h2 : b = 60
    · subst h2
      obtain rfl : v = 0 := HV.out.symm
      go_wp2_with fail
      refine (apart_any _ _ _ (by omega) (by omega) (by omega) (by omega)).mono ?_
      rintro e1 w1 ⟨rfl, rfl⟩
      have hf : farB 60 60 = false := rfl
      rw [hf]
      go_wp2
      go_ret
      exact ⟨rfl, rfl⟩
    · obtain rfl : v = 1 := by rw [← HV.out, frI, if_pos ⟨rfl, h2⟩]
      go_wp2
      go_ret
      exact ⟨rfl, rfl⟩
  · by_cases h2 : b = 60
    · subst h2
      obtain rfl : v = -1 := by rw [← HV.out, frI, if_neg (by simp), if_pos ⟨rfl, h1⟩]
      go_wp2
      go_ret
      exact ⟨rfl, rfl⟩
    · go_wp2_with fail
      refine (apart_any _ _ _ ha ha' hb hb').mono ?_
      rintro e1 w1 ⟨rfl, rfl⟩
      cases hf : farB a b
      · obtain rfl : v = 0 := by rw [← HV.out, frI_near h1 h2 hf]
        go_wp2
        go_ret
        exact ⟨rfl, rfl⟩
      · have HC := Lib.hid (show cmpI b a = v by rw [← HV.out, frI_far h1 h2 hf])
        go_wp2_with fail
        refine (compare_any _ _ _).mono ?_
        rintro e2 w2 ⟨rfl, rfl⟩
        rw [HC.out]
        go_wp2
        go_ret
        exact ⟨rfl, rfl⟩

set_option maxRecDepth 8000 in
set_option maxHeartbeats 4000000 in
theorem newer_any (a b : Hd) (w : World) (ha : ageB a = true) (hb : ageB b = true) : Calls Try.prog 58 #[.agg #[.int .i64 a.age, .int .i64 a.kind, .int .i64 a.id, .int .i64 a.adv, .int .i64 a.seq, .int .i64 a.sum, .int .i64 a.long], .agg #[.int .i64 b.age, .int .i64 b.kind, .int .i64 b.id, .int .i64 b.adv, .int .i64 b.seq, .int .i64 b.sum, .int .i64 b.long]] w
    fun e w' => e = .returned (.int .i64 (nw a b)) ∧ Below w.heap.size w w' := by
  rw [ageB_iff] at ha hb
  obtain ⟨a1, a2⟩ := ha
  obtain ⟨b1, b2⟩ := hb
  generalize hv : nw a b = v
  have HV := Lib.hid hv
  clear hv
  have B0 := Lib.hid (((Below.refl w.heap.size w).alloc (Nat.le_refl _) (.cells #[.int .i64 a.age, .int .i64 a.kind, .int .i64 a.id, .int .i64 a.adv, .int .i64 a.seq, .int .i64 a.sum, .int .i64 a.long] 43)).alloc (by simp) (.cells #[.int .i64 b.age, .int .i64 b.kind, .int .i64 b.id, .int .i64 b.adv, .int .i64 b.seq, .int .i64 b.sum, .int .i64 b.long] 43))
  go_enter Try.func58, Try.ntmps58
  by_cases h1 : a.seq = b.seq
  · have d1 : (a.seq != b.seq) = false := by simp [h1]
    by_cases h2 : a.sum = b.sum
    · have d2 : (a.sum != b.sum) = false := by simp [h2]
      have HC := Lib.hid (show frI a.age b.age = v by rw [← HV.out, nw, if_neg (by simp [h1]), if_neg (by simp [h2])])
      clear h1 h2
      go_wp2_with fail
      refine (fresher_any _ _ _ a1 a2 b1 b2).mono ?_
      rintro e2 w2 ⟨rfl, rfl⟩
      rw [HC.out]
      go_wp2
      go_ret
      exact ⟨rfl, B0.out⟩
    · have d2 : (a.sum != b.sum) = true := by simp [h2]
      have HC := Lib.hid (show cmpI a.sum b.sum = v by rw [← HV.out, nw, if_neg (by simp [h1]), if_pos h2])
      clear h1 h2
      go_wp2_with fail
      refine (compare_any _ _ _).mono ?_
      rintro e2 w2 ⟨rfl, rfl⟩
      rw [HC.out]
      go_wp2
      go_ret
      exact ⟨rfl, B0.out⟩
  · have d1 : (a.seq != b.seq) = true := by simp [h1]
    have HC := Lib.hid (show cmpI a.seq b.seq = v by rw [← HV.out, nw, if_pos h1])
    clear h1
    go_wp2_with fail
    refine (compare_any _ _ _).mono ?_
    rintro e2 w2 ⟨rfl, rfl⟩
    rw [HC.out]
    go_wp2
    go_ret
    exact ⟨rfl, B0.out⟩

end Go.Proofs.Ytfdfdmbnggpnbaa
namespace Go.Proofs.Ytfdfdmbnggpnbaa
open Go.RowKit Go.Lib Go.Sort

theorem HdAt.onto {w w' : World} {B B' b p : Nat} {h : Hd} (hk : ∀ o, w'.cell? ⟨b, o, none⟩ = w.cell? ⟨b, o, none⟩) (hh : HdAt w B b p h) : HdAt w' B' b p h :=
  ⟨(hk _).trans hh.1, (hk _).trans hh.2.1, (hk _).trans hh.2.2.1, (hk _).trans hh.2.2.2.1, (hk _).trans hh.2.2.2.2.1, (hk _).trans hh.2.2.2.2.2.1, (hk _).trans hh.2.2.2.2.2.2⟩
/-- A summary whose heads left are K: its block p, and the row that it leads to, on blocks of F. -/
structure SumAt (w : World) (F : Nat → Prop) (p : Nat) (A : Option Addr) (n c : Nat) (K : List Hd) : Prop where
  blk : Blk w p 83 #[.slice A n c]
  fp : F p
  len : K.length = n
  cap : n ≤ c
  big : c ≤ maxLen
  row : 0 < n → ∃ g o, A = some ⟨g, o, none⟩ ∧ F g ∧ g ≠ p ∧ g < w.heap.size ∧ ∀ j h, K[j]? = some h → HdAt w 0 g (o + j * 7) h
section
variable {w w' : World} {F F' : Nat → Prop} {p : Nat} {A : Option Addr} {n c : Nat} {K : List Hd}
theorem SumAt.move (h : SumAt w F p A n c K) (hk : ∀ q, F q → q < w.heap.size → w'.heap[q]? = w.heap[q]?) (hz : w.heap.size ≤ w'.heap.size) : SumAt w' F p A n c K :=
  ⟨(hk p h.fp h.blk.lt).trans h.blk, h.fp, h.len, h.cap, h.big, fun hn => by
    obtain ⟨g, o, e, hg, hne, hlt, hc⟩ := h.row hn
    exact ⟨g, o, e, hg, hne, by omega, fun j x hx => HdAt.onto (fun o => World.cell?_of_block (a := ⟨g, o, none⟩) (hk g hg hlt)) (hc j x hx)⟩⟩
theorem SumAt.chg (h : SumAt w F p A n c K) (hc : Chg F' w w') (hF : ∀ q, F q → ¬ F' q) : SumAt w' F p A n c K := h.move (fun q hq hl => hc.block q hl (hF q hq)) hc.size
theorem SumAt.below (h : SumAt w F p A n c K) (hb : Below w.heap.size w w') : SumAt w' F p A n c K := h.move (fun q _ hl => hb.block q hl) hb.size
theorem SumAt.drewN (h : SumAt w F p A n c K) (q : Nat) : SumAt (w.drewN q) F p A n c K := h.move (fun _ _ _ => rfl) (Nat.le_refl _)
theorem SumAt.hds (h : SumAt w F p A n c K) : Hds w w.heap.size A n K :=
  ⟨h.len, fun hn => by
    obtain ⟨g, o, e, -, -, hlt, hc⟩ := h.row hn
    exact ⟨g, o, e, hlt, fun j x hx => HdAt.onto (fun _ => rfl) (hc j x hx)⟩⟩
end
/-- What New leaves is a summary. -/
theorem sum_new {w w' : World} {p : Nat} {A : Option Addr} {n c : Nat} {K : List Hd} (hp : w.heap.size ≤ p) (hB : Blk w' p 83 #[.slice A n c]) (hO : w'.ownsRow w.heap.size 43 7 (.slice A n c) n (cellsBy encHd K)) : SumAt w' (fun q => w.heap.size ≤ q ∧ q < w'.heap.size) p A n c K := by
  have hl := own_lenH encHd_len (by omega) hO
  have hne := own_ne_blk hO hB (by decide)
  rcases hO.2 with ⟨hv, hn⟩ | ⟨g, cap, cur, hv, hb, hg, h1, h2, h3, h4⟩
  · injection hv with e1 e2 e3
    exact ⟨hB, ⟨hp, hB.lt⟩, hl, by omega, by unfold maxLen; omega, fun h0 => by omega⟩
  · cases hv
    have hgl := (Array.getElem?_eq_some_iff.1 hg).1
    refine ⟨hB, ⟨hp, hB.lt⟩, hl, h1, h2, fun h0 => ⟨g, 0, rfl, ⟨hb, hgl⟩, fun e => hne (by rw [e]; rfl), hgl, fun j x hx => ?_⟩⟩
    obtain ⟨g', e, -, -, -, -, hc⟩ := own_item encHd_len (by omega) hO hx
    injection e with e
    injection e with e
    subst e
    rw [Nat.zero_add]
    exact ⟨hc 0 (by omega), hc 1 (by omega), hc 2 (by omega), hc 3 (by omega), hc 4 (by omega), hc 5 (by omega), hc 6 (by omega)⟩
/-- Rows of heads, read: their cells; the first m of them; those behind the first m. -/
theorem Hds.cells {w : World} {B n : Nat} {A : Option Addr} {L : List Hd} (h : Hds w B A n L) : (A = none → n = 0) ∧ ∀ ad, A = some ad → ∀ j u, (cellsBy encHd L)[j]? = some u → w.cell? (ad.add j) = some u := by
  constructor
  · intro e
    rcases Nat.eq_zero_or_pos n with h0 | h0
    · exact h0
    · obtain ⟨_, _, e2, _⟩ := h.2 h0
      rw [e] at e2
      cases e2
  · intro ad e j u hu
    have hj : j < L.length * 7 := by
      rcases Nat.lt_or_ge j (L.length * 7) with hj | hj
      · exact hj
      · rw [List.getElem?_eq_none (by rw [by_length encHd_len]; exact hj)] at hu
        cases hu
    have hn := h.1
    obtain ⟨b, o, e2, _, hc⟩ := h.2 (by omega)
    rw [e] at e2
    injection e2 with e2
    subst e2
    have hx : L[j / 7]? = some (L[j / 7]'(by omega)) := List.getElem?_eq_getElem (by omega)
    have hr := HdAt.range (hc _ _ hx)
    have hb := by_at encHd_len L _ _ hx (j % 7) (by omega)
    rw [show j / 7 * 7 + j % 7 = j from by omega, hu] at hb
    rw [addr_add, show o + j = o + j / 7 * 7 + j % 7 by omega]
    exact hr (j % 7) u hb.symm
theorem Hds.take {w : World} {B n : Nat} {A : Option Addr} {L : List Hd} (h : Hds w B A n L) (m : Nat) (hm : m ≤ n) : Hds w B A m (L.take m) :=
  ⟨by rw [List.length_take, h.1]; omega, fun h0 => by
    obtain ⟨b, o, e, hb, hc⟩ := h.2 (by omega)
    refine ⟨b, o, e, hb, fun j x hx => hc j x ?_⟩
    rw [List.getElem?_take] at hx
    split at hx
    · exact hx
    · cases hx⟩
set_option maxRecDepth 8000 in
set_option maxHeartbeats 2000000 in
theorem piece_any {w : World} {F : Nat → Prop} {p : Nat} {A : Option Addr} {n c : Nat} {K : List Hd} (h : SumAt w F p A n c K) (hn : n ≤ 1000) :
    Calls Try.prog 46 #[.pointer (some ⟨p, 0, none⟩)] w fun e w' => e = .returned (.slice A (min n 3) c) ∧ ∃ q, w' = w.drewN q := by
  have c0 : w.cell? ⟨p, 0, none⟩ = some (.slice A n c) := h.blk.cell 0
  have hpl := h.blk.lt
  have hcap := h.cap
  have hbig := h.big
  unfold maxLen at hbig
  have HNIL := Lib.hid h.hds.cells.1
  clear h
  clear HNIL
  rcases Nat.lt_or_ge n 3 with h3 | h3
  · rw [show min n 3 = n by omega]
    have hmin : min (n : Int) 3 = (n : Int) := by omega
    go_enter Try.func46, Try.ntmps46
    go_wp2_with fail
    go_quiet (fail)
    go_wp2
    go_ret
    exact ⟨rfl, nq, rfl⟩
  · rw [show min n 3 = 3 by omega]
    have hmin : min (n : Int) 3 = 3 := by omega
    go_enter Try.func46, Try.ntmps46
    go_wp2_with fail
    go_quiet (fail)
    go_wp2
    go_ret
    exact ⟨rfl, nq, rfl⟩
theorem piece_nil (w : World) : Calls Try.prog 46 #[.pointer none] w fun e w' => e = .returned (.slice none 0 0) ∧ w' = w := by
  go_enter Try.func46, Try.ntmps46
  go_wp2
  go_ret
  exact ⟨rfl, rfl⟩
/-- What Piece answers: a row of the call's own. -/
def PieceQ (K : List Hd) (w : World) (e : Ending) (w' : World) : Prop :=
  ∃ (A : Option Addr) (m c : Nat), e = .returned (.slice A m c) ∧ Below w.heap.size w w' ∧ w'.ownsRow w.heap.size 43 7 (.slice A m c) m (cellsBy encHd (K.take 3))
set_option maxRecDepth 8000 in
set_option maxHeartbeats 2000000 in
theorem pieceP_of {w : World} {u : Value} {A : Option Addr} {m c : Nat} {L : List Hd} (hc : Calls Try.prog 46 #[u] w fun e w' => e = .returned (.slice A m c) ∧ ∃ q, w' = w.drewN q) (hL : Hds w w.heap.size A m L) (hm : m ≤ 1000) :
    Calls Try.prog 16 #[u] w fun e w' => ∃ (A' : Option Addr) (m' c' : Nat), e = .returned (.slice A' m' c') ∧ Below w.heap.size w w' ∧ w'.ownsRow w.heap.size 43 7 (.slice A' m' c') m' (cellsBy encHd L) := by
  have HC := Lib.hid hc
  have HL := Lib.hid hL
  clear hc hL
  go_enter Try.func16, Try.ntmps16
  go_wp2_with fail
  refine HC.out.mono ?_
  rintro e1 w1 ⟨rfl, q, rfl⟩
  have HL1 := Lib.hid (show (A = none → m = 0) ∧ ∀ ad, A = some ad → ∀ j u, (cellsBy encHd L)[j]? = some u → (w.drewN q).cell? (ad.add j) = some u from HL.out.cells)
  have hln := HL.out.1
  have B1 := Lib.hid (⟨rfl, rfl, rfl, Nat.le_refl _, fun _ _ => rfl⟩ : Below w.heap.size w (w.drewN q))
  have hz : (w.drewN q).heap.size = w.heap.size := rfl
  have HZ := Lib.hid hz
  clear hz
  generalize w.drewN q = w1 at *
  go_wp2_with (at_builtin; refine wpList_append_any rfl (.const (.slice none 0 0)) (.tmp 4) 27 43 (.agg #[.int .i64 0, .int .i64 0, .int .i64 0, .int .i64 0, .int .i64 0, .int .i64 0, .int .i64 0]) 7 56 Try.underlying27 infoHd rfl (by decide) (by decide) rfl w1.heap.size (.slice none 0 0) 0 [] (by rfl) (by exact World.ownsRow_nil _ _ _ _) A m c (cellsBy encHd L) (by rfl) (by rw [by_length encHd_len, hln]) HL1.out.1 HL1.out.2 (by_ones encHd_ones L) (by omega) (Nat.le_refl _) ?_; intro v2 w2 ho2 hg2)
  obtain ⟨A2, c2, rfl⟩ := own_slice ho2.out
  have ho3 := ho2.out
  rw [Nat.zero_add] at ho3 ⊢
  rw [List.nil_append] at ho3
  have hb : Below w.heap.size w w2 := B1.out.trans (own_keeps7 (World.ownsRow_nil w1 w.heap.size 43 7) hg2.out (by rw [HZ.out]; exact Nat.le_refl _))
  rw [HZ.out] at ho3
  have HO := Lib.hid ho3
  have HB := Lib.hid hb
  clear ho2 hg2 ho3 hb
  go_wp2
  go_ret
  exact ⟨A2, m, c2, rfl, HB.out, HO.out⟩
theorem pieceP_any {w : World} {F : Nat → Prop} {p : Nat} {A : Option Addr} {n c : Nat} {K : List Hd} (h : SumAt w F p A n c K) (hn : n ≤ 1000) : Calls Try.prog 16 #[.pointer (some ⟨p, 0, none⟩)] w (PieceQ K w) := by
  refine pieceP_of (L := K.take 3) (piece_any h hn) ?_ (by omega)
  have h1 := h.hds.take (min n 3) (by omega)
  rwa [show K.take (min n 3) = K.take 3 by rw [← h.len, Nat.min_comm, List.take_eq_take_iff]; omega] at h1
theorem pieceP_nil (w : World) : Calls Try.prog 16 #[.pointer none] w (PieceQ [] w) := by
  refine pieceP_of (A := none) (m := 0) (c := 0) (L := ([] : List Hd).take 3) ((piece_nil w).mono ?_) Arr.nil (by omega)
  rintro e w' ⟨rfl, rfl⟩
  exact ⟨rfl, 0, rfl⟩
set_option maxRecDepth 8000 in
set_option maxHeartbeats 2000000 in
theorem more_any {w : World} {F : Nat → Prop} {p : Nat} {A : Option Addr} {n c : Nat} {K : List Hd} (h : SumAt w F p A n c K) (hn : n ≤ 1000) :
    Calls Try.prog 17 #[.pointer (some ⟨p, 0, none⟩)] w fun e w' => e = .returned (.bool (decide (3 < n))) ∧ ∃ q, w' = w.drewN q := by
  have c0 : w.cell? ⟨p, 0, none⟩ = some (.slice A n c) := h.blk.cell 0
  have hpl := h.blk.lt
  have pc := fun q => Calls.quiet_of (piece_any (h.drewN q) hn)
  obtain ⟨m, hm⟩ : ∃ m, min n 3 = m := ⟨_, rfl⟩
  rw [hm] at pc
  obtain ⟨b, hb⟩ : ∃ b, decide (3 < n) = b := ⟨_, rfl⟩
  rw [hb]
  have HD := Lib.hid (show decide (m < n) = b by
    rw [← hb]
    by_cases h3 : 3 < n
    · simp [h3]
      omega
    · simp [h3]
      omega)
  clear h hm hb
  go_enter Try.func17, Try.ntmps17
  go_wp2_with fail
  go_quiet (first | (go_at_call 46; with_reducible exact pc _))
  go_wp2
  go_ret
  exact ⟨by rw [← HD.out]; rfl, nq, rfl⟩
theorem more_nil (w : World) : Calls Try.prog 17 #[.pointer none] w fun e w' => e = .returned (.bool false) ∧ ∃ q, w' = w.drewN q := by
  go_enter Try.func17, Try.ntmps17
  go_wp2_with fail
  go_quiet (fail)
  go_wp2
  go_ret
  exact ⟨rfl, nq, rfl⟩
theorem step_nil (w : World) : Calls Try.prog 18 #[.pointer none] w fun e w' => e = .returned (.bool false) ∧ w' = w := by
  go_enter Try.func18, Try.ntmps18
  go_wp2
  go_ret
  exact ⟨rfl, rfl⟩
set_option maxRecDepth 8000 in
set_option maxHeartbeats 4000000 in
theorem step_any {w : World} {F : Nat → Prop} {p : Nat} {A : Option Addr} {n c : Nat} {K : List Hd} (h : SumAt w F p A n c K) (hn : n ≤ 1000) :
    Calls Try.prog 18 #[.pointer (some ⟨p, 0, none⟩)] w fun e w' => e = .returned (.bool (decide (3 < n))) ∧ ∃ A' n' c', SumAt w' F p A' n' c' (K.drop 3) ∧ Chg (fun q => q = p) w w' := by
  have HS := Lib.hid h
  obtain ⟨b, hb⟩ : ∃ b, decide (3 < n) = b := ⟨_, rfl⟩
  rw [hb]
  have HB := Lib.hid hb
  clear h hb
  go_enter Try.func18, Try.ntmps18
  go_wp2_with fail
  refine (more_any HS.out hn).mono ?_
  rintro e1 w1 ⟨rfl, q1, rfl⟩
  rw [HB.out]
  have S1 := Lib.hid (HS.out.drewN q1)
  have B1 := Lib.hid (⟨rfl, rfl, rfl, Nat.le_refl _, fun _ _ => rfl⟩ : Below w.heap.size w (w.drewN q1))
  clear HS
  generalize w.drewN q1 = w1 at *
  go_wp2_with fail
  have c0 : w1.cell? ⟨p, 0, none⟩ = some (.slice A n c) := S1.out.blk.cell 0
  have f0 := S1.out.blk.frozen 0
  have hpl := S1.out.blk.lt
  have hcap := S1.out.cap
  have hbig := S1.out.big
  unfold maxLen at hbig
  have c0q := fun n' os => Go.cell_grown (n := n') (os := os) (a := ⟨p, 0, none⟩) hpl c0
  have pc : ∀ n' os, Calls Try.prog 46 #[.pointer (some ⟨p, 0, none⟩)] (Go.Sort.grow (w1.drewN n') os) fun e w'' => e = .returned (.slice A (min n 3) c) ∧ ∃ pp : GrownBy, w'' = Go.Sort.grow (w1.drewN pp.n) pp.os := fun n' os => by
    refine Calls.grown_of ((piece_any (S1.out.move (w' := Go.Sort.grow (w1.drewN n') os) (fun q _ hq => heap_grow_old _ _ (by exact hq)) (by rw [Go.Sort.size_grow]; exact Nat.le_add_right _ _)) hn).mono ?_)
    rintro e w' ⟨rfl, q, rfl⟩
    exact ⟨rfl, q, #[], by rw [grow_empty]⟩
  obtain ⟨m, hm⟩ : ∃ m, min n 3 = m := ⟨_, rfl⟩
  rw [hm] at pc
  have hm1 : m ≤ n := by omega
  have HM := Lib.hid hm
  clear hm
  refine region_grown_tail 11 (by kernel_rfl) (by kernel_rfl) ?_
  simp only [List.take_succ_cons, List.take_zero, List.drop_succ_cons, List.drop_zero]
  repeat (quiet_step (first | (go_at_call 46; with_reducible exact pc _ _)))
  refine wpQuiet_nil ?_
  intro _ hw'
  obtain ⟨⟨nq, osq⟩, hw''⟩ := hw'
  subst hw''
  dsimp only
  obtain ⟨A', hA⟩ : ∃ A', (if c = m then A else Option.map (fun x => x.add (m * 7)) A) = A' := ⟨_, rfl⟩
  rw [hA]
  have HA := Lib.hid hA
  have S2 := Lib.hid (S1.out.move (w' := Go.Sort.grow (w1.drewN nq) osq) (fun q _ hq => heap_grow_old _ _ (by exact hq)) (by rw [Go.Sort.size_grow]; exact Nat.le_add_right _ _))
  have C2 := Lib.hid (show Chg (fun q => q = p) w1 (Go.Sort.grow (w1.drewN nq) osq) from ⟨rfl, rfl, rfl, by rw [Go.Sort.size_grow]; exact Nat.le_add_right _ _, fun q hq _ => heap_grow_old _ _ (by exact hq)⟩)
  clear hA S1 c0 f0 hpl c0q pc
  generalize Go.Sort.grow (w1.drewN nq) osq = w2 at *
  clear nq osq
  have c0 : w2.cell? ⟨p, 0, none⟩ = some (.slice A n c) := S2.out.blk.cell 0
  have f0 := S2.out.blk.frozen 0
  have K3 := S2.out.blk.put 0 (.slice A' (n - m) (c - m))
  simp only [List.setIfInBounds_toArray, List.set_cons_zero] at K3
  have C3 : Chg (fun q => q = p) w2 (w2.setCell ⟨p, 0, none⟩ (.slice A' (n - m) (c - m))) := ⟨rfl, rfl, rfl, by simp, fun q hq hne => Below.heap_setCell _ _ _ _ hne⟩
  have HK := Lib.hid K3
  have HC := Lib.hid C3
  clear K3 C3
  go_wp2
  go_ret
  refine ⟨rfl, A', n - m, c - m, ⟨HK.out, S2.out.fp, ?_, by omega, by unfold maxLen; omega, fun h0 => ?_⟩, ?_⟩
  · have := S2.out.len
    have := HM.out
    rw [List.length_drop]
    omega
  · have hm3 : m = 3 := by have := HM.out; omega
    subst hm3
    obtain ⟨g, o, e, hg, hne, hlt, hc⟩ := S2.out.row (by omega)
    refine ⟨g, o + 21, ?_, hg, hne, by simpa using hlt, fun j x hx => ?_⟩
    · rw [← HA.out, if_neg (by omega), e, Option.map_some, addr_add]
    · rw [List.getElem?_drop] at hx
      have h1 := hc _ x hx
      rw [show o + (3 + j) * 7 = o + 21 + j * 7 by omega] at h1
      exact HdAt.onto (fun o' => World.cell?_of_block (a := ⟨g, o', none⟩) (Below.heap_setCell _ _ _ _ hne)) h1
  · exact (Chg.of_below (F := fun q => q = p) B1.out).trans (C2.out.trans HC.out (fun k hk => .inl hk)) (fun k hk => .inl hk)
end Go.Proofs.Ytfdfdmbnggpnbaa
namespace Go.Proofs.Ytfdfdmbnggpnbaa
open Go.RowKit Go.Lib Go.Sort Go.Deep

theorem underKy : Try.prog.underlying 86 = some (.struct (Try.prog.fieldsOf 86)) := by kernel_rfl
theorem stoodKy : Try.prog.stoodInHeld 86 = false := by kernel_rfl
theorem underHd : Try.prog.underlying 43 = some (.struct (Try.prog.fieldsOf 43)) := by kernel_rfl
theorem stoodHd : Try.prog.stoodInHeld 43 = false := by kernel_rfl
theorem plainI : Try.prog.plainKey 3 = true := by kernel_rfl
theorem eqIntK (W : World) (a b : Int) : (Op.equalIn (9998 + 1) 3 (.int .i64 a) (.int .i64 b)).run Try.prog W = .ok (a == b) W := run_equalIn_int W 9998 _ .i64 .i64 a b Try.underlying3
theorem equalKy (x y : Ky) (W : World) : (Op.equalIn 10000 86 (.agg #[.int .i64 x.kind, .int .i64 x.id, .int .i64 x.adv]) (.agg #[.int .i64 y.kind, .int .i64 y.id, .int .i64 y.adv])).run Try.prog W = .ok (sameKy x y) W := by
  have q0 : ∀ z : Ky, (part 3 #[.int .i64 z.kind, .int .i64 z.id, .int .i64 z.adv] 0).run Try.prog W = .ok (.int .i64 z.kind) W := fun z => run_part_plain W plainI rfl
  have q1 : ∀ z : Ky, (part 3 #[.int .i64 z.kind, .int .i64 z.id, .int .i64 z.adv] 1).run Try.prog W = .ok (.int .i64 z.id) W := fun z => run_part_plain W plainI rfl
  have q2 : ∀ z : Ky, (part 3 #[.int .i64 z.kind, .int .i64 z.id, .int .i64 z.adv] 2).run Try.prog W = .ok (.int .i64 z.adv) W := fun z => run_part_plain W plainI rfl
  rw [show (10000 : Nat) = 9998 + 1 + 1 from rfl, run_equalIn_struct W (9998 + 1) _ _ _ underKy stoodKy]
  simp [Program.fieldsOf, Try.underlying86, Op.eqFields, q0, q1, q2, eqIntK]
  clear q0 q1 q2
  unfold sameKy
  by_cases h1 : x.kind = y.kind
  · by_cases h2 : x.id = y.id
    · by_cases h3 : x.adv = y.adv <;> simp [h1, h2, h3]
    · simp [h1, h2]
  · simp [h1]
theorem equalHd (x y : Hd) (W : World) : (Op.equalIn 10000 43 (.agg #[.int .i64 x.age, .int .i64 x.kind, .int .i64 x.id, .int .i64 x.adv, .int .i64 x.seq, .int .i64 x.sum, .int .i64 x.long]) (.agg #[.int .i64 y.age, .int .i64 y.kind, .int .i64 y.id, .int .i64 y.adv, .int .i64 y.seq, .int .i64 y.sum, .int .i64 y.long])).run Try.prog W = .ok (sameHd x y) W := by
  have q0 : ∀ z : Hd, (part 3 #[.int .i64 z.age, .int .i64 z.kind, .int .i64 z.id, .int .i64 z.adv, .int .i64 z.seq, .int .i64 z.sum, .int .i64 z.long] 0).run Try.prog W = .ok (.int .i64 z.age) W := fun z => run_part_plain W plainI rfl
  have q1 : ∀ z : Hd, (part 3 #[.int .i64 z.age, .int .i64 z.kind, .int .i64 z.id, .int .i64 z.adv, .int .i64 z.seq, .int .i64 z.sum, .int .i64 z.long] 1).run Try.prog W = .ok (.int .i64 z.kind) W := fun z => run_part_plain W plainI rfl
  have q2 : ∀ z : Hd, (part 3 #[.int .i64 z.age, .int .i64 z.kind, .int .i64 z.id, .int .i64 z.adv, .int .i64 z.seq, .int .i64 z.sum, .int .i64 z.long] 2).run Try.prog W = .ok (.int .i64 z.id) W := fun z => run_part_plain W plainI rfl
  have q3 : ∀ z : Hd, (part 3 #[.int .i64 z.age, .int .i64 z.kind, .int .i64 z.id, .int .i64 z.adv, .int .i64 z.seq, .int .i64 z.sum, .int .i64 z.long] 3).run Try.prog W = .ok (.int .i64 z.adv) W := fun z => run_part_plain W plainI rfl
  have q4 : ∀ z : Hd, (part 3 #[.int .i64 z.age, .int .i64 z.kind, .int .i64 z.id, .int .i64 z.adv, .int .i64 z.seq, .int .i64 z.sum, .int .i64 z.long] 4).run Try.prog W = .ok (.int .i64 z.seq) W := fun z => run_part_plain W plainI rfl
  have q5 : ∀ z : Hd, (part 3 #[.int .i64 z.age, .int .i64 z.kind, .int .i64 z.id, .int .i64 z.adv, .int .i64 z.seq, .int .i64 z.sum, .int .i64 z.long] 5).run Try.prog W = .ok (.int .i64 z.sum) W := fun z => run_part_plain W plainI rfl
  have q6 : ∀ z : Hd, (part 3 #[.int .i64 z.age, .int .i64 z.kind, .int .i64 z.id, .int .i64 z.adv, .int .i64 z.seq, .int .i64 z.sum, .int .i64 z.long] 6).run Try.prog W = .ok (.int .i64 z.long) W := fun z => run_part_plain W plainI rfl
  rw [show (10000 : Nat) = 9998 + 1 + 1 from rfl, run_equalIn_struct W (9998 + 1) _ _ _ underHd stoodHd]
  simp [Program.fieldsOf, Try.underlying43, Op.eqFields, q0, q1, q2, q3, q4, q5, q6, eqIntK]
  clear q0 q1 q2 q3 q4 q5 q6
  unfold sameHd
  by_cases h1 : x.age = y.age
  · by_cases h2 : x.kind = y.kind
    · by_cases h3 : x.id = y.id
      · by_cases h4 : x.adv = y.adv
        · by_cases h5 : x.seq = y.seq
          · by_cases h6 : x.sum = y.sum
            · by_cases h7 : x.long = y.long <;> simp [h1, h2, h3, h4, h5, h6, h7]
            · simp [h1, h2, h3, h4, h5, h6]
          · simp [h1, h2, h3, h4, h5]
        · simp [h1, h2, h3, h4]
      · simp [h1, h2, h3]
    · simp [h1, h2]
  · simp [h1]
instance : DecidableEq Ky := fun a b => decidable_of_iff _ (sameKy_iff a b)
instance : DecidableEq Hd := fun a b => decidable_of_iff _ (sameHd_iff a b)
theorem own_setH {w : World} {base n size b c : Nat} {t : TypeId} {xs : List Value} (h : w.ownsRow base t size (.slice (some ⟨b, 0, none⟩) n c) n xs) (p : Nat) (u : Value) :
    (w.setCell ⟨b, p, none⟩ u).ownsRow base t size (.slice (some ⟨b, 0, none⟩) n c) n (xs.set p u) := by
  refine ⟨by rw [List.length_set]; exact h.1, ?_⟩
  rcases h.2 with ⟨hv, _⟩ | ⟨g, cap, cur, hv, hb, hg, h1, h2, h3, h4⟩
  · cases hv
  · injection hv with e1 e2 e3
    injection e1 with e1
    injection e1 with e1
    subst e1 e3
    have hB : Blk w b t cur := hg
    refine .inr ⟨b, c, cur.setIfInBounds p u, rfl, hb, hB.put p u, h1, h2, by simpa using h3, ?_⟩
    rw [← h4]
    simp [List.take_set]
def setAll : List Value → Nat → List Value → List Value
  | xs, _, [] => xs
  | xs, p, v :: r => setAll (xs.set p v) (p + 1) r
theorem own_setCells {b c n size base : Nat} {t : TypeId} : ∀ (vs : List Value) (p : Nat) (w : World) (xs : List Value), w.ownsRow base t size (.slice (some ⟨b, 0, none⟩) n c) n xs → (w.setCells b p vs).ownsRow base t size (.slice (some ⟨b, 0, none⟩) n c) n (setAll xs p vs)
  | [], _, _, _, h => h
  | v :: r, p, _, _, h => own_setCells r (p + 1) _ _ (own_setH h p v)
theorem setAll_take : ∀ (vs xs : List Value) (p m : Nat), m ≤ p → (setAll xs p vs).take m = xs.take m
  | [], _, _, _, _ => rfl
  | v :: r, xs, p, m, h => by
    unfold setAll
    rw [setAll_take r _ (p + 1) m (by omega), List.take_set_of_le h]
theorem chg_setCells (g : Nat) : ∀ (vs : List Value) (p : Nat) (w : World), Chg (fun q => q = g) w (w.setCells g p vs)
  | [], _, w => Chg.refl _ w
  | v :: r, p, w => by
    have h1 : Chg (fun q => q = g) w (w.setCell ⟨g, p, none⟩ v) := ⟨rfl, rfl, rfl, by simp, fun q hq hne => Below.heap_setCell _ _ _ _ hne⟩
    exact h1.trans (chg_setCells g r (p + 1) _) (fun _ h => .inl h)
theorem ky_set : ∀ (M : List Ky) (k : Nat) (y : Ky), k < M.length → kyCells (M.set k y) = (((kyCells M).set (k * 3) (.int .i64 y.kind)).set (k * 3 + 1) (.int .i64 y.id)).set (k * 3 + 2) (.int .i64 y.adv)
  | [], k, y, h => by simp at h
  | x :: M, 0, y, _ => by simp [kyCells_cons]
  | x :: M, k + 1, y, h => by
    have ih := ky_set M k y (by simpa using h)
    rw [List.set_cons_succ, kyCells_cons, ih, kyCells_cons]
    rw [show (k + 1) * 3 = k * 3 + 1 + 1 + 1 by omega]
    simp only [List.cons_append, List.nil_append, List.set_cons_succ]
/-- A row of keys of the call's own, item j of it. -/
theorem own_kyH {w : World} {base n c : Nat} {A : Option Addr} {K : List Ky} (h : w.ownsRow base 86 3 (.slice A n c) n (kyCells K)) {j : Nat} {k : Ky} (hj : K[j]? = some k) :
    ∃ g, A = some ⟨g, 0, none⟩ ∧ base ≤ g ∧ g < w.heap.size ∧ n ≤ c ∧ c ≤ maxLen ∧ w.cell? ⟨g, j * 3, none⟩ = some (.int .i64 k.kind) ∧ w.cell? ⟨g, j * 3 + 1, none⟩ = some (.int .i64 k.id) ∧ w.cell? ⟨g, j * 3 + 2, none⟩ = some (.int .i64 k.adv) := by
  have hl := h.1
  rw [kyCells_length] at hl
  have hjl := (List.getElem?_eq_some_iff.1 hj).1
  rcases h.2 with ⟨_, hn⟩ | ⟨g, cap, cur, hv, hb, hg, h1, h2, h3, h4⟩
  · omega
  · cases hv
    have hB : Blk w g 86 cur := hg
    have hc : ∀ i, i < 3 → w.cell? ⟨g, j * 3 + i, none⟩ = [Value.int .i64 k.kind, .int .i64 k.id, .int .i64 k.adv][i]? := fun i hi => by
      rw [hB.cell, ← kyCells_at K j k hj i hi, ← h4, List.getElem?_take, if_pos (by omega)]
      simp
    exact ⟨g, rfl, hb, (Array.getElem?_eq_some_iff.1 hg).1, h1, h2, hc 0 (by omega), hc 1 (by omega), hc 2 (by omega)⟩
theorem own_cutK {w : World} {base n c m g : Nat} {t : TypeId} {size : Nat} {xs : List Value} (h : w.ownsRow base t size (.slice (some ⟨g, 0, none⟩) n c) n xs) (hm : m ≤ n) : w.ownsRow base t size (.slice (some ⟨g, 0, none⟩) m c) m (xs.take (m * size)) := by
  have hms : m * size ≤ n * size := Nat.mul_le_mul_right _ hm
  refine ⟨by rw [List.length_take, h.1]; omega, ?_⟩
  rcases h.2 with ⟨hv, _⟩ | ⟨g', cap, cur, hv, hb, hg, h1, h2, h3, h4⟩
  · cases hv
  · cases hv
    refine .inr ⟨g, c, cur, rfl, hb, hg, by omega, h2, h3, ?_⟩
    rw [← h4, List.take_take, Nat.min_eq_left hms]
theorem zeros_ky (n : Nat) : (Builtin.zeroCells (Value.agg #[.int .i64 0, .int .i64 0, .int .i64 0]).cells n).toList = List.replicate (n * 3) (.int .i64 0) := by
  apply List.ext_getElem
  · simp [Builtin.zeroCells, Value.cells]
  · intro i h1 h2
    have hi : i % 3 = 0 ∨ i % 3 = 1 ∨ i % 3 = 2 := by omega
    simp [Builtin.zeroCells, Value.cells]
    rcases hi with h | h | h <;> rw [h] <;> rfl
/-- 'clear' of a part of a row of keys. -/
theorem run_clear_ky {w : World} {base n c g : Nat} {xs : List Value} (h : w.ownsRow base 86 3 (.slice (some ⟨g, 0, none⟩) n c) n xs) (kk c2 : Nat) (ty : TypeId) (hk : kk < n) :
    (Builtin.clear_ #[36] ty #[.slice (some ⟨g, kk * 3, none⟩) (n - kk) c2]).run Try.prog w = .ok (.tuple #[]) (w.setCells g (kk * 3) (List.replicate ((n - kk) * 3) (.int .i64 0))) := by
  rcases h.2 with ⟨hv, _⟩ | ⟨g', cap, cur, hv, hb, hg, h1, h2, h3, h4⟩
  · cases hv
  · cases hv
    have hB : Blk w g 86 cur := hg
    have hst := run_storeCells_cells (P := Try.prog) g (kk * 3) (List.replicate ((n - kk) * 3) (Value.int .i64 0)) 0 w (fun j hj => by
      rw [List.length_replicate] at hj
      rw [hB.cell, Nat.add_zero, Array.getElem?_eq_getElem (show kk * 3 + j < cur.size by omega)]
      rfl) (fun j _ => hB.frozen _) (fun v hv => by rw [List.eq_of_mem_replicate hv]; rfl)
    rw [Nat.add_zero] at hst
    obtain ⟨m, hm⟩ : ∃ m, n - kk = m + 1 := ⟨n - kk - 1, by omega⟩
    rw [hm] at hst ⊢
    simp [Builtin.clear_, run_underlying Try.underlying36, zeros_ky, hst]
end Go.Proofs.Ytfdfdmbnggpnbaa
namespace Go.Proofs.Ytfdfdmbnggpnbaa
open Go.RowKit Go.Lib Go.Sort Go.Deep

/-- Does a database that holds S lack a head? -/
def lackB (S : List La) (h : Hd) : Bool := match getL S (keyH h) with
  | none => true
  | some x => decide (0 < nw h x.h)
/-- At which place a key stands. -/
def placeK (out : List Hd) (k : Ky) : Option Nat := out.findIdx? fun h => sameKy (keyH h) k
/-- One head more. -/
def lackStep (S : List La) (out : List Hd) (h : Hd) : List Hd := if lackB S h = true then (match placeK out (keyH h) with
  | none => out ++ [h]
  | some i => match out[i]? with
    | some g => if 0 < nw h g then out.set i h else out
    | none => out) else out
/-- What it lacks of heads. -/
def lacksL (S : List La) (L : List Hd) : List Hd := L.foldl (lackStep S) []
theorem lacksL_snoc (S : List La) (L : List Hd) (h : Hd) : lacksL S (L ++ [h]) = lackStep S (lacksL S L) h := by
  unfold lacksL
  rw [List.foldl_append]
  rfl
/-- R tells at which place each key of out stands. -/
structure PlOk (out : List Hd) (R : List Pl) : Prop where
  len : R.length = out.length
  at_ : ∀ r ∈ R, ∃ h, out[r.i]? = some h ∧ keyH h = r.k
  of : ∀ i h, out[i]? = some h → ∃ r ∈ R, r.k = keyH h ∧ r.i = i
theorem PlOk.nil : PlOk [] [] := ⟨rfl, fun r hr => (by cases hr), fun i h hi => (by simp at hi)⟩
theorem PlOk.none {out : List Hd} {R : List Pl} (h : PlOk out R) {k : Ky} (hg : getP R k = none) : placeK out k = none ∧ ∀ x ∈ out, keyH x ≠ k := by
  have h1 : ∀ x ∈ out, keyH x ≠ k := fun x hx e => by
    obtain ⟨i, hi⟩ := List.getElem?_of_mem hx
    obtain ⟨r, hr, e1, -⟩ := h.of i x hi
    exact getP_none hg r hr (e1.trans e)
  refine ⟨?_, h1⟩
  unfold placeK
  rw [List.findIdx?_eq_none_iff]
  intro x hx
  cases hs : sameKy (keyH x) k
  · rfl
  · exact absurd ((sameKy_iff _ _).1 hs) (h1 x hx)
theorem PlOk.some {out : List Hd} {R : List Pl} (h : PlOk out R) (hn : R.Pairwise fun r s => r.k ≠ s.k) {k : Ky} {r : Pl} (hg : getP R k = some r) : placeK out k = some r.i ∧ ∃ g, out[r.i]? = some g ∧ keyH g = k := by
  obtain ⟨hr, e⟩ := getP_some hg
  obtain ⟨g, hg1, hg2⟩ := h.at_ r hr
  have hlt := (List.getElem?_eq_some_iff.1 hg1).1
  refine ⟨?_, g, hg1, hg2.trans e⟩
  unfold placeK
  rw [List.findIdx?_eq_some_iff_getElem]
  refine ⟨hlt, ?_, fun j hj => ?_⟩
  · rw [(List.getElem?_eq_some_iff.1 hg1).2, (sameKy_iff _ _).2 (hg2.trans e)]
  · intro hs
    have hjl : j < out.length := by omega
    obtain ⟨r2, hr2, e2, e3⟩ := h.of j out[j] (List.getElem?_eq_getElem hjl)
    have e4 : r2.k = r.k := by rw [e2, (sameKy_iff _ _).1 hs, e]
    have := pw_eq hn r2 hr2 r hr e4
    rw [this] at e3
    omega
theorem PlOk.snoc {out : List Hd} {R : List Pl} (h : PlOk out R) (x : Hd) (hg : getP R (keyH x) = Option.none) : PlOk (out ++ [x]) (⟨keyH x, out.length⟩ :: restP R (keyH x)) := by
  have hR : restP R (keyH x) = R := by
    unfold restP
    rw [List.filter_eq_self]
    intro s hs
    cases hk : sameKy s.k (keyH x)
    · rfl
    · exact absurd ((sameKy_iff _ _).1 hk) (getP_none hg s hs)
  rw [hR]
  refine ⟨by simp [h.len], fun r hr => ?_, fun i y hi => ?_⟩
  · rcases List.mem_cons.1 hr with rfl | hr
    · exact ⟨x, by simp, rfl⟩
    · obtain ⟨g, hg1, hg2⟩ := h.at_ r hr
      have hlt := (List.getElem?_eq_some_iff.1 hg1).1
      exact ⟨g, by rw [List.getElem?_append_left hlt]; exact hg1, hg2⟩
  · by_cases hlt : i < out.length
    · rw [List.getElem?_append_left hlt] at hi
      obtain ⟨r, hr, e1, e2⟩ := h.of i y hi
      exact ⟨r, List.mem_cons_of_mem _ hr, e1, e2⟩
    · rw [List.getElem?_append_right (by omega)] at hi
      have h0 : i - out.length = 0 := by
        rcases Nat.eq_zero_or_pos (i - out.length) with h0 | h0
        · exact h0
        · rw [List.getElem?_eq_none (by simp; omega)] at hi
          cases hi
      rw [h0] at hi
      injection hi with hi
      subst hi
      exact ⟨_, List.mem_cons_self, rfl, by show out.length = i; omega⟩
theorem PlOk.set {out : List Hd} {R : List Pl} (h : PlOk out R) {i : Nat} {g : Hd} (hi : out[i]? = Option.some g) (x : Hd) (hk : keyH x = keyH g) : PlOk (out.set i x) R := by
  have hlt := (List.getElem?_eq_some_iff.1 hi).1
  refine ⟨by rw [List.length_set]; exact h.len, fun r hr => ?_, fun j y hj => ?_⟩
  · obtain ⟨y, hy1, hy2⟩ := h.at_ r hr
    by_cases e : r.i = i
    · refine ⟨x, by rw [e, List.getElem?_set_self hlt], ?_⟩
      rw [hk, ← hy2]
      rw [e, hi] at hy1
      injection hy1 with hy1
      rw [hy1]
    · exact ⟨y, by rw [List.getElem?_set_ne (Ne.symm e)]; exact hy1, hy2⟩
  · by_cases e : j = i
    · subst e
      rw [List.getElem?_set_self hlt] at hj
      injection hj with hj
      subst hj
      obtain ⟨r, hr, e1, e2⟩ := h.of j g hi
      exact ⟨r, hr, e1.trans hk.symm, e2⟩
    · rw [List.getElem?_set_ne (Ne.symm e)] at hj
      exact h.of j y hj
def zeroLa : La := ⟨⟨0, 0, 0, 0, 0, 0, 0⟩, [], []⟩
/-- A database, or none, in memory. -/
def DbV (w : World) (v : Value) (S : List La) (F : Nat → Prop) : Prop := (v = .pointer none ∧ S = []) ∨ ∃ (lo p : Nat) (room : Int), v = .pointer (some ⟨p, 0, none⟩) ∧ PDb w lo p room S F ∧ SortL S
theorem DbV.below {w w' : World} {v : Value} {S : List La} {F : Nat → Prop} (h : DbV w v S F) (hb : Below w.heap.size w w') : DbV w' v S F := by
  rcases h with h | ⟨lo, p, room, e, hd, hs⟩
  · exact .inl h
  · exact .inr ⟨lo, p, room, e, hd.chg (Chg.of_below (F := fun _ => False) hb) (fun _ _ hf => hf), hs⟩
theorem get_nil (k : Ky) (w : World) : Calls Try.prog 82 #[.pointer none, .agg #[.int .i64 k.kind, .int .i64 k.id, .int .i64 k.adv]] w fun e w' => e = .returned (.tuple #[.agg #[.int .i64 0, .int .i64 0, .int .i64 0, .int .i64 0, .int .i64 0, .int .i64 0, .int .i64 0, .slice none 0 0, .slice none 0 0], .bool false]) ∧ Below w.heap.size w w' := by
  have B0 := Lib.hid (((Below.refl w.heap.size w).alloc (Nat.le_refl _) (.cells #[.int .i64 k.kind, .int .i64 k.id, .int .i64 k.adv] 86)).alloc (by simp) (.cells #[.int .i64 0, .int .i64 0, .int .i64 0, .int .i64 0, .int .i64 0, .int .i64 0, .int .i64 0, .slice none 0 0, .slice none 0 0] 78))
  have K1 := Blk.new (w.alloc (.cells #[.int .i64 k.kind, .int .i64 k.id, .int .i64 k.adv] 86)) 78 #[.int .i64 0, .int .i64 0, .int .i64 0, .int .i64 0, .int .i64 0, .int .i64 0, .int .i64 0, .slice none 0 0, .slice none 0 0]
  rw [show (w.alloc (.cells #[.int .i64 k.kind, .int .i64 k.id, .int .i64 k.adv] 86)).heap.size = w.heap.size + 1 by simp] at K1
  obtain ⟨o0, o1, o2, o3, o4, o5, o6, o7, o8⟩ := K1.nine
  clear K1
  go_enter Try.func82, Try.ntmps82
  go_wp2
  refine bodyPost_ret (v := .tuple #[.agg #[.int .i64 0, .int .i64 0, .int .i64 0, .int .i64 0, .int .i64 0, .int .i64 0, .int .i64 0, .slice none 0 0, .slice none 0 0], .bool false]) (by simp [results, Try.results82, go_sem, *]) rfl ?_
  exact ⟨rfl, B0.out⟩
theorem get_v {w : World} {v : Value} {S : List La} {F : Nat → Prop} (h : DbV w v S F) (k : Ky) (hk : wfKy k) :
    Calls Try.prog 82 #[v, .agg #[.int .i64 k.kind, .int .i64 k.id, .int .i64 k.adv]] w fun e w' => Below w.heap.size w w' ∧ ∃ (x : Option La) (A : Option Addr) (n c : Nat) (A' : Option Addr) (n' c' : Nat), x = getL S k ∧ e = .returned (.tuple #[.agg #[.int .i64 (x.getD zeroLa).h.age, .int .i64 (x.getD zeroLa).h.kind, .int .i64 (x.getD zeroLa).h.id, .int .i64 (x.getD zeroLa).h.adv, .int .i64 (x.getD zeroLa).h.seq, .int .i64 (x.getD zeroLa).h.sum, .int .i64 (x.getD zeroLa).h.long, .slice A n c, .slice A' n' c'], .bool x.isSome]) := by
  rcases h with ⟨rfl, rfl⟩ | ⟨lo, p, room, rfl, hd, hs⟩
  · refine (get_nil k w).mono ?_
    rintro e w' ⟨rfl, hb⟩
    exact ⟨hb, none, none, 0, 0, none, 0, 0, rfl, rfl⟩
  · refine (get_db hd hs k hk).mono ?_
    rintro e w' ⟨hb, hg⟩
    rcases hg with ⟨h1, rfl⟩ | ⟨x, A, n, c, A', n', c', h1, rfl, -⟩
    · exact ⟨hb, none, none, 0, 0, none, 0, 0, h1.symm, rfl⟩
    · exact ⟨hb, some x, A, n, c, A', n', c', h1.symm, rfl⟩
set_option maxRecDepth 8000 in
set_option maxHeartbeats 4000000 in
theorem lacks_any {w : World} {v : Value} {S : List La} {F : Nat → Prop} (h : DbV w v S F) (x : Hd) (hk : wfKy (keyH x)) (ha : ∀ y, getL S (keyH x) = some y → ageB x = true ∧ ageB y.h = true) :
    Calls Try.prog 57 #[v, .agg #[.int .i64 x.age, .int .i64 x.kind, .int .i64 x.id, .int .i64 x.adv, .int .i64 x.seq, .int .i64 x.sum, .int .i64 x.long]] w fun e w' => e = .returned (.bool (lackB S x)) ∧ Below w.heap.size w w' := by
  obtain ⟨r, hr⟩ : ∃ r, lackB S x = r := ⟨_, rfl⟩
  rw [hr]
  have HR := Lib.hid hr
  have HA := Lib.hid ha
  have HK := Lib.hid hk
  have B0 := Lib.hid ((Below.refl w.heap.size w).alloc (Nat.le_refl _) (.cells #[.int .i64 x.age, .int .i64 x.kind, .int .i64 x.id, .int .i64 x.adv, .int .i64 x.seq, .int .i64 x.sum, .int .i64 x.long] 43))
  have HD0 := Lib.hid (h.below B0.out)
  have K0 := Lib.hid (Blk.new w 43 #[.int .i64 x.age, .int .i64 x.kind, .int .i64 x.id, .int .i64 x.adv, .int .i64 x.seq, .int .i64 x.sum, .int .i64 x.long])
  have R0 := Lib.hid (blk_range7 K0.out)
  clear hr ha hk h
  go_enter Try.func57, Try.ntmps57
  go_wp2_with (first | refine wpList_load_row 43 _ _ (by rfl) (.tmp 3) rfl (by rfl) R0.out Try.underlying43 rfl (by kernel_rfl) ?_)
  refine (keyOf_any x _).mono ?_
  rintro e1 w1 ⟨rfl, hb1⟩
  generalize w.alloc (.cells #[.int .i64 x.age, .int .i64 x.kind, .int .i64 x.id, .int .i64 x.adv, .int .i64 x.seq, .int .i64 x.sum, .int .i64 x.long] 43) = w0 at *
  have hz0 := B0.out.size
  have B1 := Lib.hid (B0.out.trans (hb1.mono hz0))
  have D1 := Lib.hid (HD0.out.below hb1)
  have K1 := Lib.hid (K0.out.below hb1 K0.out.lt)
  clear hb1 R0 K0 B0 HD0 hz0
  go_wp2_with fail
  refine (get_v D1.out (keyH x) HK.out).mono ?_
  rintro e2 w2 ⟨hb2, y, A, n, c, A', n', c', hy, rfl⟩
  have B2 := Lib.hid (B1.out.trans (hb2.mono B1.out.size))
  have K2 := Lib.hid (K1.out.below hb2 K1.out.lt)
  have HY := Lib.hid hy
  clear hb2 K1 B1 D1 hy
  cases y with
  | none =>
    have HT := Lib.hid (show true = r by rw [← HR.out]; unfold lackB; rw [← HY.out])
    have B3 := Lib.hid (B2.out.alloc B2.out.size (.cells #[.int .i64 zeroLa.h.age, .int .i64 zeroLa.h.kind, .int .i64 zeroLa.h.id, .int .i64 zeroLa.h.adv, .int .i64 zeroLa.h.seq, .int .i64 zeroLa.h.sum, .int .i64 zeroLa.h.long, .slice A n c, .slice A' n' c'] 78))
    clear HR HA HY
    dsimp only [Option.getD_none, Option.isSome_none]
    go_wp2
    go_ret
    exact ⟨by rw [← HT.out]; rfl, B3.out⟩
  | some y =>
    have hab := HA.out y HY.out.symm
    have HT := Lib.hid (show decide (0 < nw x y.h) = r by rw [← HR.out]; unfold lackB; rw [← HY.out])
    have HAB := Lib.hid hab
    have B3 := Lib.hid (B2.out.alloc B2.out.size (.cells #[.int .i64 y.h.age, .int .i64 y.h.kind, .int .i64 y.h.id, .int .i64 y.h.adv, .int .i64 y.h.seq, .int .i64 y.h.sum, .int .i64 y.h.long, .slice A n c, .slice A' n' c'] 78))
    have K3 := Lib.hid (K2.out.alloc (.cells #[.int .i64 y.h.age, .int .i64 y.h.kind, .int .i64 y.h.id, .int .i64 y.h.adv, .int .i64 y.h.seq, .int .i64 y.h.sum, .int .i64 y.h.long, .slice A n c, .slice A' n' c'] 78))
    have R3 := Lib.hid (blk_range7 K3.out)
    have RX := Lib.hid (show (w2.alloc (.cells #[.int .i64 y.h.age, .int .i64 y.h.kind, .int .i64 y.h.id, .int .i64 y.h.adv, .int .i64 y.h.seq, .int .i64 y.h.sum, .int .i64 y.h.long, .slice A n c, .slice A' n' c'] 78)).rangeAt w2.heap.size 0 [.int .i64 y.h.age, .int .i64 y.h.kind, .int .i64 y.h.id, .int .i64 y.h.adv, .int .i64 y.h.seq, .int .i64 y.h.sum, .int .i64 y.h.long] from head_range (Blk.new w2 78 #[.int .i64 y.h.age, .int .i64 y.h.kind, .int .i64 y.h.id, .int .i64 y.h.adv, .int .i64 y.h.seq, .int .i64 y.h.sum, .int .i64 y.h.long, .slice A n c, .slice A' n' c']))
    clear HR HA HY hab K2 K3 B2
    dsimp only [Option.getD_some, Option.isSome_some]
    go_wp2_with (first | refine wpList_load_row 43 _ _ (by rfl) (.tmp 3) rfl (by rfl) R3.out Try.underlying43 rfl (by kernel_rfl) ?_ | refine wpList_load_row 43 _ _ (by rfl) (.tmp 18) rfl (by rfl) RX.out Try.underlying43 rfl (by kernel_rfl) ?_)
    refine (newer_any x y.h _ HAB.out.1 HAB.out.2).mono ?_
    rintro e3 w3 ⟨rfl, hb3⟩
    have B4 := Lib.hid (B3.out.trans (hb3.mono B3.out.size))
    clear hb3 B3 R3 RX
    go_wp2
    go_ret
    exact ⟨by rw [← HT.out]; rfl, B4.out⟩
end Go.Proofs.Ytfdfdmbnggpnbaa
