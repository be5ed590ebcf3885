/- A description that is gone; appends of one head, of one key; New. Conditions: what the words say; at most 100 descriptions. -/
import Derived.Deep.DeepCutAuto
import Derived.Test.YtjinleakjkbbgaaUj
import Derived.Test.YtjinleakjkbbgaaJaj
import Derived.Test.YtjinleakjkbbgaaJai
namespace Go.Proofs.Ytjinleakjkbbgaa
open Go.RowKit Go.Lib Go.Sort

/-- Is a description of the greatest age? -/
def goneB (x : La) : Bool := x.h.age == 60
/-- The heads that are told, in the order in which they came. -/
def toldL (S : List La) : List Hd := (S.filter fun x => !goneB x).map La.h
/-- The keys of those that are gone, in the order in which they came. -/
def goneK (S : List La) : List Ky := (S.filter goneB).map kyL
theorem toldL_snoc (S : List La) (x : La) : toldL (S ++ [x]) = if goneB x = true then toldL S else toldL S ++ [x.h] := by
  unfold toldL
  rw [List.filter_append, List.map_append]
  cases h : goneB x <;> simp [h]
theorem goneK_snoc (S : List La) (x : La) : goneK (S ++ [x]) = if goneB x = true then goneK S ++ [kyL x] else goneK S := by
  unfold goneK
  rw [List.filter_append, List.map_append]
  cases h : goneB x <;> simp [h]
theorem infoHd : (Try.prog.info? 58).map (fun i => (i.zero, i.size, i.bytes)) = some (some (.agg #[.int .i64 0, .int .i64 0, .int .i64 0, .int .i64 0, .int .i64 0, .int .i64 0, .int .i64 0]), 7, 56) := by kernel_rfl
theorem infoKy : (Try.prog.info? 80).map (fun i => (i.zero, i.size, i.bytes)) = some (some (.agg #[.int .i64 0, .int .i64 0, .int .i64 0]), 3, 24) := by kernel_rfl
theorem HdAt.range {w : World} {B b p : Nat} {h : Hd} (hh : HdAt w B b p h) : w.rangeAt b p (encHd h) := by
  obtain ⟨h0, h1, h2, h3, h4, h5, h6⟩ := hh
  intro j v hj
  match j, hj with
  | 0, hj => cases hj; exact h0
  | 1, hj => cases hj; exact h1
  | 2, hj => cases hj; exact h2
  | 3, hj => cases hj; exact h3
  | 4, hj => cases hj; exact h4
  | 5, hj => cases hj; exact h5
  | 6, hj => cases hj; exact h6
theorem wpList_app_hd {wb : World} {ops : Array Oper} {rest : List Oper} {o : Oper} {a : Act} {Q : Exit → Act → World → Prop} (hgd : o.guard = none) (s x : Operand) (ho : o.op = .call { callee := .builtin .append, args := #[s, x], argTypes := #[31, 31] })
    {base n c : Nat} {A : Option Addr} {L : List Hd} (y : Hd) (hs : a.eval s = .slice A n c) (hx : a.eval x = .slice (some ⟨wb.heap.size, 0, none⟩) 1 1) (hown : wb.ownsRow base 58 7 (.slice A n c) n (cellsBy encHd L)) (hn : n ≤ 1000) (hbase : base ≤ wb.heap.size)
    (h : ∀ A' c' w', Hid (w'.ownsRow base 58 7 (.slice A' (n + 1) c') (n + 1) (cellsBy encHd (L ++ [y]))) → Hid (Below base wb w') → wpList Try.prog ops Q rest (a.put o.dst (.slice A' (n + 1) c')) w') : wpList Try.prog ops Q (o :: rest) a (wb.alloc (.cells #[.int .i64 y.age, .int .i64 y.kind, .int .i64 y.id, .int .i64 y.adv, .int .i64 y.seq, .int .i64 y.sum, .int .i64 y.long] 58)) := by
  refine wpList_append_any hgd s x 31 58 (.agg #[.int .i64 0, .int .i64 0, .int .i64 0, .int .i64 0, .int .i64 0, .int .i64 0, .int .i64 0]) 7 56 Try.underlying31 infoHd rfl (by decide) (by decide) ho base (.slice A n c) n (cellsBy encHd L) hs (hown.alloc _) (some ⟨wb.heap.size, 0, none⟩) 1 1 (encHd y) hx rfl (fun h => by cases h) (news_new wb 58 (encHd y)) (encHd_ones y) (by omega) (by simp; omega) ?_
  intro v2 w2 ho2 hg2
  obtain ⟨A2, c2, rfl⟩ := own_slice ho2.out
  refine h A2 c2 w2 (Lib.hid (by rw [by_append, by_one]; exact ho2.out)) (Lib.hid ?_)
  exact ((Below.refl base wb).alloc hbase _).trans (own_keeps7 (hown.alloc _) hg2.out (by simp; omega))
set_option maxRecDepth 8000 in
set_option maxHeartbeats 2000000 in
theorem gone_any (x : La) (A A' : Option Addr) (n c n' c' : Nat) (w : World) : Calls Try.prog 45 #[.agg #[.int .i64 x.h.age, .int .i64 x.h.kind, .int .i64 x.h.id, .int .i64 x.h.adv, .int .i64 x.h.seq, .int .i64 x.h.sum, .int .i64 x.h.long, .slice A n c, .slice A' n' c']] w fun e w' => e = .returned (.bool (goneB x)) ∧ Below w.heap.size w w' := by
  have B0 := Lib.hid ((Below.refl w.heap.size w).alloc (Nat.le_refl _) (.cells #[.int .i64 x.h.age, .int .i64 x.h.kind, .int .i64 x.h.id, .int .i64 x.h.adv, .int .i64 x.h.seq, .int .i64 x.h.sum, .int .i64 x.h.long, .slice A n c, .slice A' n' c'] 62))
  have K0 := Lib.hid (Blk.new w 62 #[.int .i64 x.h.age, .int .i64 x.h.kind, .int .i64 x.h.id, .int .i64 x.h.adv, .int .i64 x.h.seq, .int .i64 x.h.sum, .int .i64 x.h.long, .slice A n c, .slice A' n' c'])
  obtain ⟨o0, o1, o2, o3, o4, o5, o6, o7, o8⟩ := K0.out.nine
  go_enter Try.func45, Try.ntmps45
  go_wp2
  go_ret
  exact ⟨rfl, B0.out⟩
/-- A summary, new. -/
theorem las_item {w : World} {B n k : Nat} {A : Option Addr} {S : List La} (h : Las w B A n S) (hk : k < n) : ∃ (b o : Nat) (x : La) (A1 : Option Addr) (n1 c1 : Nat) (A2 : Option Addr) (n2 c2 : Nat), A = some ⟨b, o, none⟩ ∧ b < B ∧ S[k]? = some x ∧
    w.rangeAt b (o + k * 9) [.int .i64 x.h.age, .int .i64 x.h.kind, .int .i64 x.h.id, .int .i64 x.h.adv, .int .i64 x.h.seq, .int .i64 x.h.sum, .int .i64 x.h.long, .slice A1 n1 c1, .slice A2 n2 c2] ∧ Lnk w B A1 n1 x.L ∧ Row .i64 w B A2 n2 x.M ∧ n1 ≤ maxLen ∧ n2 ≤ maxLen := by
  obtain ⟨b, o, x, rfl, hb, hx, hh, A1, n1, c1, A2, n2, c2, h7, h8, h9, h10, h11, h12⟩ := Arr.at h hk
  exact ⟨b, o, x, A1, n1, c1, A2, n2, c2, rfl, hb, hx, la_range hh h7 h8, h9, h10, h11, h12⟩
theorem head_range {w : World} {g : Nat} {t : TypeId} {x : La} {A A' : Option Addr} {n c n' c' : Nat} (h : Blk w g t #[.int .i64 x.h.age, .int .i64 x.h.kind, .int .i64 x.h.id, .int .i64 x.h.adv, .int .i64 x.h.seq, .int .i64 x.h.sum, .int .i64 x.h.long, .slice A n c, .slice A' n' c']) : w.rangeAt g 0 (encHd x.h) := by
  obtain ⟨h0, h1, h2, h3, h4, h5, h6, -, -⟩ := h.nine
  exact HdAt.range (B := 0) ⟨h0, h1, h2, h3, h4, h5, h6⟩
/-- What New leaves: a summary's block, and its row of heads. -/
def NewQ (S : List La) (w : World) (e : Ending) (w' : World) : Prop :=
  ∃ (p : Nat) (A : Option Addr) (n c : Nat) (K : List Hd), e = .returned (.pointer (some ⟨p, 0, none⟩)) ∧ Below w.heap.size w w' ∧ w.heap.size ≤ p ∧ Blk w' p 91 #[.slice A n c] ∧ w'.ownsRow w.heap.size 58 7 (.slice A n c) n (cellsBy encHd K) ∧ Ord lessH K ∧ Stab lessH (toldL S) K
end Go.Proofs.Ytjinleakjkbbgaa
