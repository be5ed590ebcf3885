/- The program's database in memory: a map of descriptions; what it holds. Plain facts on such maps. No conditions. -/
import Derived.Test.YtlcaaoflbldocaaGf
namespace Go.Proofs.Ytlcaaoflbldocaa
open Go.RowKit

/-- Block p is a database of the program of so much room that holds S, and hangs on the blocks of F alone, all from lo on. -/
def PDb (w : World) (lo p : Nat) (room : Int) (S : List La) (F : Nat → Prop) : Prop :=
  ∃ (b : Nat) (R : List Rc) (T : List La), Blk w p 65 #[.int .i64 room, .map (some b)] ∧ lo ≤ p ∧ lo ≤ b ∧ MapIs w b R ∧ All2 (RcIs w lo) R T ∧ T.Perm S ∧ (S.length : Int) ≤ room ∧ room ≤ 40 ∧ (∀ x ∈ S, rightB x.h x.L x.M = true) ∧
    (∀ q, F q ↔ q = p ∨ q = b ∨ ∃ r ∈ R, rcFoot r q)
theorem PDb.foot {w : World} {lo p : Nat} {room : Int} {S : List La} {F : Nat → Prop} (h : PDb w lo p room S F) {q : Nat} (hq : F q) : lo ≤ q ∧ q < w.heap.size := by
  obtain ⟨b, R, T, hB, h1, h2, hM, hA, -, -, -, -, hF⟩ := h
  rcases (hF q).1 hq with rfl | rfl | ⟨r, hr, hf⟩
  · exact ⟨h1, hB.lt⟩
  · exact ⟨h2, hM.lt⟩
  · obtain ⟨x, _, hx⟩ := all2_mem hA hr
    exact hx.foot hf
theorem PDb.chg {w w' : World} {lo p : Nat} {room : Int} {S : List La} {F F' : Nat → Prop} (h : PDb w lo p room S F) (hc : Chg F' w w') (hd : ∀ q, F q → ¬ F' q) : PDb w' lo p room S F := by
  obtain ⟨b, R, T, hB, h1, h2, hM, hA, h3, h4, h5, h6, hF⟩ := h
  exact ⟨b, R, T, hB.chg hc (hd p ((hF p).2 (.inl rfl))), h1, h2, hM.chg hc (hd b ((hF b).2 (.inr (.inl rfl)))), all2_imp hA (fun r hr x hx => hx.chg hc (fun q hq => hd q ((hF q).2 (.inr (.inr ⟨r, hr, hq⟩))))), h3, h4, h5, h6, hF⟩
/-- The one of a key. -/
theorem get_both {P : Rc → La → Prop} (hk : ∀ r x, P r x → r.h = x.h) {R : List Rc} {T S : List La} (ha : All2 P R T) (hp : T.Perm S) (hs : SortL S) (k : Ky) :
    (getR R k = none ∧ getL S k = none) ∨ ∃ r x, getR R k = some r ∧ getL S k = some x ∧ P r x ∧ r ∈ R ∧ x ∈ S := by
  cases hg : getR R k with
  | none =>
    refine .inl ⟨rfl, getL_none.2 (fun x hx e => ?_)⟩
    obtain ⟨j, hj⟩ := List.getElem?_of_mem (hp.mem_iff.2 hx)
    obtain ⟨r, hr, hpr⟩ := ha.at' hj
    exact getR_none hg r (List.mem_of_getElem? hr) (by rw [hk _ _ hpr]; exact e)
  | some r =>
    obtain ⟨hr, e⟩ := getR_some hg
    obtain ⟨x, hx, hpr⟩ := all2_mem ha hr
    have hxS := hp.mem_iff.1 hx
    have e2 : kyL x = k := by
      unfold kyL
      rw [← hk _ _ hpr]
      exact e
    exact .inr ⟨r, x, rfl, by rw [← e2]; exact getL_mem hs hxS, hpr, hr, hxS⟩
theorem all2_filter {P : Rc → La → Prop} {f : Rc → Bool} {g : La → Bool} (hfg : ∀ r x, P r x → f r = g x) : ∀ {R : List Rc} {T : List La}, All2 P R T → All2 P (R.filter f) (T.filter g)
  | [], [], _ => All2.nil
  | [], y :: S, h => by have := h.1; simp at this
  | r :: R, [], h => by have := h.1; simp at this
  | r :: R, y :: S, h => by
    rw [List.filter_cons, List.filter_cons, hfg _ _ h.head.1]
    cases g y
    · exact all2_filter hfg h.head.2
    · exact All2.cons h.head.1 (all2_filter hfg h.head.2)
theorem all2_rest {P : Rc → La → Prop} (hk : ∀ r x, P r x → r.h = x.h) {R : List Rc} {T : List La} (ha : All2 P R T) (k : Ky) : All2 P (restR R k) (dropL T k) :=
  all2_filter (fun r x hp => by unfold kyL; rw [hk _ _ hp]) ha
theorem insL_perm (x : La) : ∀ S : List La, (insL x S).Perm (x :: S)
  | [] => List.Perm.refl _
  | y :: S => by
    unfold insL
    split
    · exact List.Perm.refl _
    · exact ((insL_perm x S).cons y).trans (List.Perm.swap x y S)
theorem wfKy_right {x : La} (h : rightB x.h x.L x.M = true) : wfKy (kyL x) := by
  obtain ⟨-, h2, h3, -, h5, -, -⟩ := right_facts h
  unfold wfKy kyL keyH
  simp only
  omega
theorem rc_short {w : World} {lo : Nat} {r : Rc} {x : La} (h : RcIs w lo r x) (hr : rightB x.h x.L x.M = true) : r.p.n ≤ 1000 ∧ r.q.n ≤ 1000 := by
  obtain ⟨h1, h2⟩ := right_short hr
  rw [← h.2.2.1, ← h.2.2.2.2]
  exact ⟨h1, h2⟩
/-- A map's block is no block of cells. -/
theorem MapIs.ne_blk {w : World} {b g : Nat} {R : List Rc} {t : TypeId} {cs : Array Value} (h : MapIs w b R) (hB : Blk w g t cs) : g ≠ b := by
  rintro rfl
  obtain ⟨-, l, ⟨es, clock, hb, -⟩, -⟩ := h
  have h1 : w.heap[g]? = some (.cells cs t (0, 0)) := hB
  rw [hb] at h1
  cases h1
theorem own_ne_map {w : World} {base n size b : Nat} {R : List Rc} {t : TypeId} {v : Value} {xs : List Value} (h : MapIs w b R) (ho : w.ownsRow base t size v n xs) : v.ownBlock ≠ some b := by
  intro e
  obtain ⟨-, l, ⟨es, clock, hb, -⟩, -⟩ := h
  rcases ho.2 with ⟨rfl, _⟩ | ⟨g, cap, cur, rfl, _, hg, _⟩
  · cases e
  · injection e with e
    subst e
    rw [hb] at hg
    cases hg
theorem RcIs.ne_map {w : World} {lo b : Nat} {R : List Rc} {r : Rc} {x : La} (h : RcIs w lo r x) (hM : MapIs w b R) {q : Nat} (hq : rcFoot r q) : q ≠ b := by
  rintro rfl
  rcases hq with hq | hq
  · exact own_ne_map hM h.2.1 hq
  · exact own_ne_map hM h.2.2.2.1 hq
end Go.Proofs.Ytlcaaoflbldocaa
