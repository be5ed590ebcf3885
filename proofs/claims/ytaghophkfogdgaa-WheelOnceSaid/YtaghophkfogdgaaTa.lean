/- Timers: what a timer reads as, as a map's key; plain facts on timers. No conditions. -/
import Derived.Test.YtaghophkfogdgaaWa
import Derived.Maps.RangeWalk
import Derived.DeepKeys4
namespace Go.Proofs.Ytaghophkfogdgaa
open Go.RowKit
open Go.Maps (Keyed)

/-- A timer's numbers. -/
structure Tm where
  kind : Int
  lan : Int
  id : Int
  kk : Int
  ki : Int
  ka : Int
deriving DecidableEq
instance : Inhabited Tm := ⟨⟨0, 0, 0, 0, 0, 0⟩⟩
def inI (a : Int) : Prop := -9223372036854775808 ≤ a ∧ a ≤ 9223372036854775807
def wfTm (t : Tm) : Prop := inI t.kind ∧ inI t.lan ∧ inI t.id ∧ inI t.kk ∧ inI t.ki ∧ inI t.ka
/-- A timer's cells, and it as a value. -/
def encTm (t : Tm) : List Value := [.int .i64 t.kind, .int .i64 t.lan, .int .i64 t.id, .int .i64 t.kk, .int .i64 t.ki, .int .i64 t.ka]
theorem laidOut8 : laidOutB Try.prog = true := by kernel_rfl
theorem tm_row8 : (33 : TypeId) < Try.prog.types.size := of_decide_eq_true (by kernel_rfl)
theorem tm_at8 : Try.prog.keyTypeAt 3 33 = true := by kernel_rfl
theorem keyed8 : Keyed Try.prog 33 := Keyed.of_law (deep_law_laid laidOut8 (m := 3) (by omega) tm_row8 tm_at8 (by rw [Try.underlying33]))
theorem four_of_le {a : Nat} (h : 3 ≤ a) : ∃ n, a + 1 = n + 1 + 1 + 1 + 1 := ⟨a - 3, by omega⟩
theorem size8 : ∃ n, Try.prog.types.size + 1 = n + 1 + 1 + 1 + 1 := four_of_le (of_decide_eq_true (by kernel_rfl))
theorem cells_tm8 : Try.prog.cellsOf 33 = 6 := by kernel_rfl
theorem cells_key8 : Try.prog.cellsOf 31 = 3 := by kernel_rfl
theorem cells_int8 : Try.prog.cellsOf 3 = 1 := by kernel_rfl
theorem keyType8 : Try.prog.keyType 33 = true := by kernel_rfl
theorem under_int8 : Try.prog.underlying 3 = some (.int .i64) := Try.underlying3
theorem wf_i64_iff (a : Int) : (Lit.int .i64 a).wf = true ↔ inI a := by
  unfold inI
  constructor
  · intro h
    simp [Lit.wf, IntKind.min, IntKind.max, IntKind.signed, IntKind.bits] at h
    omega
  · rintro ⟨h1, h2⟩
    simp [Lit.wf, IntKind.min, IntKind.max, IntKind.signed, IntKind.bits]
    omega
def tmLit (t : Tm) : Lit := .string (keyBytes [.int .i64 t.kind, .int .i64 t.lan, .int .i64 t.id, .int .i64 t.kk, .int .i64 t.ki, .int .i64 t.ka])
theorem keyLit_mk8 (n : Nat) {a : Int} (ha : inI a) : Try.prog.keyLits (n + 1) 3 [.int .i64 a] = some [.int .i64 a] := by
  have h := (wf_i64_iff a).2 ha
  unfold Program.keyLits
  rw [under_int8]
  simp [h]
theorem keyLits_key8 (n : Nat) {a b c : Int} (ha : inI a) (hb : inI b) (hc : inI c) :
    Try.prog.keyLits (n + 1 + 1) 31 [.int .i64 a, .int .i64 b, .int .i64 c] = some [.int .i64 a, .int .i64 b, .int .i64 c] := by
  unfold Program.keyLits
  simp [Try.underlying31, cells_key8, cells_int8, keyLit_mk8 n ha, keyLit_mk8 n hb, keyLit_mk8 n hc]
theorem keyLits_tm8 (n : Nat) {t : Tm} (h : wfTm t) : Try.prog.keyLits (n + 1 + 1 + 1) 33 (encTm t) = some [.int .i64 t.kind, .int .i64 t.lan, .int .i64 t.id, .int .i64 t.kk, .int .i64 t.ki, .int .i64 t.ka] := by
  obtain ⟨h1, h2, h3, h4, h5, h6⟩ := h
  unfold Program.keyLits encTm
  simp [Try.underlying33, cells_tm8, cells_key8, cells_int8, keyLit_mk8 (n + 1) h1, keyLit_mk8 (n + 1) h2, keyLit_mk8 (n + 1) h3, keyLits_key8 n h4 h5 h6]
theorem keyOf_tm {t : Tm} (h : wfTm t) : keyOf Try.prog 33 (.agg (encTm t).toArray) = some (tmLit t) := by
  obtain ⟨n, hn⟩ := size8
  have e := keyLits_tm8 (n + 1) h
  unfold encTm at *
  simp only [keyOf, Try.underlying33, hn]
  simp [keyType8, Value.formed, Try.underlying33, cells_tm8, Value.cells, e, tmLit]
theorem keyLit_inv8 (n : Nat) {v : Value} {l : List Lit} (h : Try.prog.keyLits (n + 1) 3 [v] = some l) : ∃ a : Int, inI a ∧ v = .int .i64 a ∧ l = [.int .i64 a] := by
  unfold Program.keyLits at h
  rw [under_int8] at h
  cases v <;> simp at h
  obtain ⟨⟨rfl, hw⟩, rfl⟩ := h
  exact ⟨_, (wf_i64_iff _).1 hw, rfl, rfl⟩
theorem keyLits_keyinv8 (n : Nat) {x y z : Value} {L : List Lit} (hL : Try.prog.keyLits (n + 1 + 1) 31 [x, y, z] = some L) :
    ∃ a b c : Int, inI a ∧ inI b ∧ inI c ∧ x = .int .i64 a ∧ y = .int .i64 b ∧ z = .int .i64 c ∧ L = [.int .i64 a, .int .i64 b, .int .i64 c] := by
  unfold Program.keyLits at hL
  have hK := fun v l => @keyLit_inv8 n v l
  generalize Program.keyLits Try.prog (n + 1) = K at hL hK
  simp [Try.underlying31, cells_key8, cells_int8] at hL
  cases h1 : K 3 [x] with
  | none => rw [h1] at hL; simp at hL
  | some l1 =>
    rw [h1] at hL
    cases h2 : K 3 [y] with
    | none => rw [h2] at hL; simp at hL
    | some l2 =>
      rw [h2] at hL
      cases h3 : K 3 [z] with
      | none => rw [h3] at hL; simp at hL
      | some l3 =>
        rw [h3] at hL
        simp at hL
        obtain ⟨a, wa, rfl, rfl⟩ := hK _ _ h1
        obtain ⟨b, wb, rfl, rfl⟩ := hK _ _ h2
        obtain ⟨c, wc, rfl, rfl⟩ := hK _ _ h3
        exact ⟨a, b, c, wa, wb, wc, rfl, rfl, rfl, hL.symm⟩
theorem keyLits_len8 (n : Nat) {cs : List Value} {L : List Lit} (hL : Try.prog.keyLits (n + 1) 33 cs = some L) : cs.length = 6 := by
  unfold Program.keyLits at hL
  simp only [Try.underlying33, cells_tm8] at hL
  split at hL
  · rename_i h
    exact h.1
  · cases hL
theorem six8 : ∀ {xs : List Value}, xs.length = 6 → ∃ a b c d e f, xs = [a, b, c, d, e, f]
  | [a, b, c, d, e, f], _ => ⟨a, b, c, d, e, f, rfl⟩
theorem keyLits_tminv8 (n : Nat) {x y z u v w : Value} {L : List Lit} (hL : Try.prog.keyLits (n + 1 + 1 + 1) 33 [x, y, z, u, v, w] = some L) :
    ∃ t : Tm, wfTm t ∧ [x, y, z, u, v, w] = encTm t := by
  unfold Program.keyLits at hL
  have hK := fun v l => @keyLit_inv8 (n + 1) v l
  have hM := fun x y z L => @keyLits_keyinv8 n x y z L
  generalize Program.keyLits Try.prog (n + 1 + 1) = K at hL hK hM
  simp [Try.underlying33, cells_tm8, cells_key8, cells_int8] at hL
  cases h1 : K 3 [x] with
  | none => rw [h1] at hL; simp at hL
  | some l1 =>
    rw [h1] at hL
    cases h2 : K 3 [y] with
    | none => rw [h2] at hL; simp at hL
    | some l2 =>
      rw [h2] at hL
      cases h3 : K 3 [z] with
      | none => rw [h3] at hL; simp at hL
      | some l3 =>
        rw [h3] at hL
        cases h4 : K 31 [u, v, w] with
        | none => rw [h4] at hL; simp at hL
        | some l4 =>
          obtain ⟨a, wa, rfl, rfl⟩ := hK _ _ h1
          obtain ⟨b, wb, rfl, rfl⟩ := hK _ _ h2
          obtain ⟨c, wc, rfl, rfl⟩ := hK _ _ h3
          obtain ⟨d, e, f, wd, we, wf, rfl, rfl, rfl, rfl⟩ := hM _ _ _ _ h4
          exact ⟨⟨a, b, c, d, e, f⟩, ⟨wa, wb, wc, wd, we, wf⟩, rfl⟩
theorem keyOf_tm_inv {v : Value} {l : Lit} (h : keyOf Try.prog 33 v = some l) : ∃ t, wfTm t ∧ v = .agg (encTm t).toArray ∧ l = tmLit t := by
  have h0 := h
  obtain ⟨xs, L, rfl, hL, rfl⟩ := keyOf_top (by rw [Try.underlying33]) h
  obtain ⟨n, hn⟩ := size8
  rw [hn] at hL
  have hl := keyLits_len8 _ hL
  obtain ⟨xs⟩ := xs
  simp only at hL hl
  obtain ⟨a, b, c, d, e, f, rfl⟩ := six8 hl
  obtain ⟨t, wt, e⟩ := keyLits_tminv8 (n + 1) hL
  rw [e] at h0
  have h1 := keyOf_tm wt
  rw [h1] at h0
  injection h0 with h0
  exact ⟨t, wt, by rw [e], h0.symm⟩
theorem encTm_inj {a b : Tm} (h : encTm a = encTm b) : a = b := by
  obtain ⟨a1, a2, a3, a4, a5, a6⟩ := a
  obtain ⟨b1, b2, b3, b4, b5, b6⟩ := b
  unfold encTm at h
  simp at h
  simp [h]
theorem tmLit_inj {a b : Tm} (ha : wfTm a) (hb : wfTm b) (h : tmLit a = tmLit b) : a = b := by
  have e1 := keyOf_tm ha
  rw [h] at e1
  have := keyed8.inj e1 (keyOf_tm hb)
  injection this with this
  exact encTm_inj (by simpa using this)
theorem sameKey_tm {a b : Tm} (ha : wfTm a) (hb : wfTm b) : (tmLit a).sameKey (tmLit b) = decide (a = b) := by
  by_cases h : a = b
  · subst h
    rw [WideAt.sameKey_self (keyed8.key (keyOf_tm ha))]
    simp
  · cases h2 : (tmLit a).sameKey (tmLit b)
    · simp [h]
    · exact absurd (tmLit_inj ha hb (WideAt.sameKey_eq h2)) h
end Go.Proofs.Ytaghophkfogdgaa
