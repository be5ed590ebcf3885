/- A map by state and event: what its keys read as; what it holds. No conditions. -/
import Derived.Test.YtedlkoecnnmihaaId
import Derived.DeepKeys4
import Derived.Maps.OwnSet
namespace Go.Proofs.Ytedlkoecnnmihaa
open Go.RowKit
open Go.Maps (Keyed)

theorem laidOutC : laidOutB Try.prog = true := by kernel_rfl
theorem key_rowC : (44 : TypeId) < Try.prog.types.size := of_decide_eq_true (by kernel_rfl)
theorem key_atC : Try.prog.keyTypeAt 2 44 = true := by kernel_rfl
theorem keyedC : Keyed Try.prog 44 := Keyed.of_law (deep_law_laid laidOutC (m := 2) (by omega) key_rowC key_atC (by rw [Try.underlying44]))
theorem succ_of_ltC {a b : Nat} (h : a < b) : ∃ n, b = n + 1 := ⟨b - 1, by omega⟩
theorem sizeC : ∃ n, Try.prog.types.size = n + 1 := succ_of_ltC key_rowC
theorem cells_keyC : Try.prog.cellsOf 44 = 2 := by kernel_rfl
theorem cells_intC : Try.prog.cellsOf 3 = 1 := by kernel_rfl
theorem keyTypeC : Try.prog.keyType 44 = true := by kernel_rfl

/-- What a key reads as. -/
def caLit (k : Int × Int) : Lit := .string (keyBytes [.int .i64 k.1, .int .i64 k.2])
def wf64 (a : Int) : Prop := -9223372036854775808 ≤ a ∧ a ≤ 9223372036854775807
theorem wf_i64C {a : Int} (h : wf64 a) : (Lit.int .i64 a).wf = true := by
  unfold wf64 at h
  simp [Lit.wf, IntKind.min, IntKind.max, IntKind.signed, IntKind.bits]
  omega
theorem keyLitsC (n : Nat) {a b : Int} (ha : (Lit.int .i64 a).wf = true) (hb : (Lit.int .i64 b).wf = true) :
    Try.prog.keyLits (n + 1 + 1) 44 [.int .i64 a, .int .i64 b] = some [.int .i64 a, .int .i64 b] := by
  simp [Program.keyLits, Try.underlying44, cells_keyC, cells_intC, ha, hb]
theorem keyOf_ca {a b : Int} (ha : wf64 a) (hb : wf64 b) : keyOf Try.prog 44 (.agg #[.int .i64 a, .int .i64 b]) = some (caLit (a, b)) := by
  obtain ⟨n, hn⟩ := sizeC
  have e := keyLitsC n (wf_i64C ha) (wf_i64C hb)
  simp [keyOf, Try.underlying44, keyTypeC, Value.formed, cells_keyC, Value.cells, hn, e, caLit]
theorem caLit_inj {a b c d : Int} (ha : wf64 a) (hb : wf64 b) (hc : wf64 c) (hd : wf64 d) (h : caLit (a, b) = caLit (c, d)) : a = c ∧ b = d := by
  have e1 := keyOf_ca ha hb
  rw [h] at e1
  have := keyedC.inj e1 (keyOf_ca hc hd)
  simp at this
  exact this
theorem sameKey_ca {a b c d : Int} (ha : wf64 a) (hb : wf64 b) (hc : wf64 c) (hd : wf64 d) : (caLit (a, b)).sameKey (caLit (c, d)) = (a == c && b == d) := by
  by_cases h : a = c ∧ b = d
  · obtain ⟨rfl, rfl⟩ := h
    rw [WideAt.sameKey_self (keyedC.key (keyOf_ca ha hb))]
    simp
  · cases h2 : (caLit (a, b)).sameKey (caLit (c, d))
    · symm
      by_cases h3 : a = c
      · simp [h3]
        exact fun h4 => h ⟨h3, h4⟩
      · simp [h3]
    · exact absurd (caLit_inj ha hb hc hd (WideAt.sameKey_eq h2)) h
/-- An element of the map reads as itself. -/
def asIs (v : Value) : Option (DataW Value × List MemPlace) := some (.held v, [])
theorem asIs_inj {v : Value} {d : Value} {ps : List MemPlace} (h : asIs v = some (.held d, ps)) : v = d := by
  unfold asIs at h
  injection h with h
  injection h with h _
  injection h
/-- Block b is a map of at most n entries that holds just what f tells. -/
def MapF (w : World) (b n : Nat) (f : Int × Int → Option Value) : Prop :=
  ∃ D : DataW Value, w.ownsMap Try.prog 44 asIs b n D ∧ ∀ s e, wf64 s → wf64 e → Maps.has D (caLit (s, e)) = (f (s, e)).isSome ∧ ∀ v z, f (s, e) = some v → D.atKey (caLit (s, e)) z = .held v
section
variable {w : World} {b n : Nat} {f : Int × Int → Option Value}
theorem MapF.lt (h : MapF w b n f) : b < w.heap.size := by
  obtain ⟨D, ho, _⟩ := h
  exact ho.lt
theorem MapF.drew (h : MapF w b n f) : MapF w.drew b n f := h
theorem MapF.made (w : World) : MapF (w.alloc (.map #[] 0)) w.heap.size 0 (fun _ => none) :=
  ⟨.map [], World.ownsMap_made _ _ _ _, fun _ _ _ _ => ⟨rfl, fun _ _ h => by cases h⟩⟩
theorem MapF.below {w' : World} {B : Nat} (h : MapF w b n f) (hb : Below B w w') (hlt : b < B) : MapF w' b n f := by
  obtain ⟨D, ⟨es, clock, e, r⟩, h2⟩ := h
  exact ⟨D, ⟨es, clock, (hb.block b hlt).trans e, r⟩, h2⟩
theorem MapF.put (h : MapF w b n f) (hn : n < maxLen) {s e : Int} (hs : wf64 s) (he : wf64 e) (v : Value) :
    ∃ w', (Instr.mapUpdate 41 (.map (some b)) (.agg #[.int .i64 s, .int .i64 e]) v).run Try.prog w = .ok () w' ∧ MapF w' b (n + 1) (fun k => if k = (s, e) then some v else f k) ∧ w.mapTurned w' b := by
  obtain ⟨D, ho, hf⟩ := h
  obtain ⟨w', h1, h2, h3⟩ := ho.store keyedC Try.underlying41 hn (keyOf_ca hs he) (d := .held v) (ps := []) rfl
  refine ⟨w', h1, ⟨_, h2, fun s' e' hs' he' => ?_⟩, h3⟩
  by_cases hk : (s', e') = (s, e)
  · injection hk with e1 e2
    subst e1 e2
    dsimp only
    rw [if_pos rfl]
    refine ⟨Maps.has_put_same ho.isMap (keyedC.key (keyOf_ca hs he)) _, fun v' z hv => ?_⟩
    injection hv with hv
    rw [← hv]
    exact Maps.atKey_put_same ho.isMap (keyedC.key (keyOf_ca hs he)) _ _
  · have hne : caLit (s', e') ≠ caLit (s, e) := fun h => by
      obtain ⟨e1, e2⟩ := caLit_inj hs' he' hs he h
      exact hk (by rw [e1, e2])
    dsimp only
    rw [if_neg hk, Maps.has_put_other hne]
    obtain ⟨g1, g2⟩ := hf s' e' hs' he'
    refine ⟨g1, fun v' z hv => ?_⟩
    rw [Maps.atKey_put_other hne]
    exact g2 v' z hv
theorem zero_func (w : World) : (zeroValue 39).run Try.prog w = .ok .nilFunc w := by kernel_rfl
theorem MapF.look_some (h : MapF w b n f) {s e : Int} (hs : wf64 s) (he : wf64 e) {v : Value} (hv : f (s, e) = some v) :
    (Instr.lookup 41 (.map (some b)) (.agg #[.int .i64 s, .int .i64 e]) true).run Try.prog w = .ok (.tuple #[v, .bool true]) w := by
  obtain ⟨D, ho, hf⟩ := h
  obtain ⟨g1, g2⟩ := hf s e hs he
  obtain ⟨v', ps, h1, h2⟩ := ho.look_ok keyedC Try.underlying41 (zero_func w) (zd := .held _) (zp := []) rfl (keyOf_ca hs he)
  rw [g2 _ _ hv] at h2
  rw [g1, hv, asIs_inj h2] at h1
  exact h1
theorem MapF.look_none (h : MapF w b n f) {s e : Int} (hs : wf64 s) (he : wf64 e) (hv : f (s, e) = none) :
    ∃ v, (Instr.lookup 41 (.map (some b)) (.agg #[.int .i64 s, .int .i64 e]) true).run Try.prog w = .ok (.tuple #[v, .bool false]) w := by
  obtain ⟨D, ho, hf⟩ := h
  obtain ⟨g1, g2⟩ := hf s e hs he
  obtain ⟨v', ps, h1, h2⟩ := ho.look_ok keyedC Try.underlying41 (zero_func w) (zd := .held _) (zp := []) rfl (keyOf_ca hs he)
  rw [g1, hv] at h1
  exact ⟨v', h1⟩
end
end Go.Proofs.Ytedlkoecnnmihaa
