/- A database's map: what its keys read as; what it holds. No conditions. -/
import Derived.Test.YtlcaaoflbldocaaJan

import Derived.Maps.RangeWalk
import Derived.DeepKeys4
namespace Go.Proofs.Ytlcaaoflbldocaa
open Go.RowKit
open Go.Maps (Keyed)

theorem laidOut7 : laidOutB Try.prog = true := by kernel_rfl
theorem key_row7 : (38 : TypeId) < Try.prog.types.size := of_decide_eq_true (by kernel_rfl)
theorem key_at7 : Try.prog.keyTypeAt 2 38 = true := by kernel_rfl
theorem keyed7 : Keyed Try.prog 38 := Keyed.of_law (deep_law_laid laidOut7 (m := 2) (by omega) key_row7 key_at7 (by rw [Try.underlying38]))
theorem succ_of_lt7 {a b : Nat} (h : a < b) : ∃ n, b = n + 1 := ⟨b - 1, by omega⟩
theorem size7 : ∃ n, Try.prog.types.size = n + 1 := succ_of_lt7 key_row7
theorem cells_key7 : Try.prog.cellsOf 38 = 3 := by kernel_rfl
theorem cells_int7 : Try.prog.cellsOf 3 = 1 := by kernel_rfl
theorem keyType7 : Try.prog.keyType 38 = true := by kernel_rfl
theorem under_int7 : Try.prog.underlying 3 = some (.int .i64) := Try.underlying3

/-- What a key reads as. -/
def kyLit (k : Ky) : Lit := .string (keyBytes [.int .i64 k.kind, .int .i64 k.id, .int .i64 k.adv])
theorem wf_i64_iff (a : Int) : (Lit.int .i64 a).wf = true ↔ -9223372036854775808 ≤ a ∧ a ≤ 9223372036854775807 := by
  constructor
  · intro h
    simp [Lit.wf, IntKind.min, IntKind.max, IntKind.signed, IntKind.bits] at h
    omega
  · rintro ⟨h1, h2⟩
    simp [Lit.wf, IntKind.min, IntKind.max, IntKind.signed, IntKind.bits]
    omega
theorem keyLits7 (n : Nat) {a b c : Int} (ha : (Lit.int .i64 a).wf = true) (hb : (Lit.int .i64 b).wf = true) (hc : (Lit.int .i64 c).wf = true) :
    Try.prog.keyLits (n + 1 + 1) 38 [.int .i64 a, .int .i64 b, .int .i64 c] = some [.int .i64 a, .int .i64 b, .int .i64 c] := by
  simp [Program.keyLits, Try.underlying38, cells_key7, cells_int7, ha, hb, hc]
theorem keyOf_ky {k : Ky} (h : wfKy k) : keyOf Try.prog 38 (.agg #[.int .i64 k.kind, .int .i64 k.id, .int .i64 k.adv]) = some (kyLit k) := by
  obtain ⟨h1, h2, h3⟩ := h
  obtain ⟨n, hn⟩ := size7
  have e := keyLits7 n ((wf_i64_iff _).2 h1) ((wf_i64_iff _).2 h2) ((wf_i64_iff _).2 h3)
  simp [keyOf, Try.underlying38, keyType7, Value.formed, cells_key7, Value.cells, hn, e, kyLit]
theorem keyLit_int7 (n : Nat) {v : Value} {l : List Lit} (h : Try.prog.keyLits (n + 1) 3 [v] = some l) : ∃ a : Int, (Lit.int .i64 a).wf = true ∧ v = .int .i64 a ∧ l = [.int .i64 a] := by
  unfold Program.keyLits at h
  rw [under_int7] at h
  cases v <;> simp at h
  obtain ⟨⟨rfl, hw⟩, rfl⟩ := h
  exact ⟨_, hw, rfl, rfl⟩
theorem keyLits_inv7 (n : Nat) {x y z : Value} {L : List Lit} (hL : Try.prog.keyLits (n + 1 + 1) 38 [x, y, z] = some L) : ∃ l1 l2 l3, Try.prog.keyLits (n + 1) 3 [x] = some l1 ∧ Try.prog.keyLits (n + 1) 3 [y] = some l2 ∧ Try.prog.keyLits (n + 1) 3 [z] = some l3 ∧ L = l1 ++ (l2 ++ l3) := by
  unfold Program.keyLits at hL
  generalize hK : Program.keyLits Try.prog (n + 1) = K at hL ⊢
  simp [Try.underlying38, cells_key7, cells_int7] at hL
  cases h1 : K 3 [x] with
  | none => rw [h1] at hL; simp at hL
  | some l1 =>
    rw [h1] at hL
    cases h2 : K 3 [y] with
    | none => rw [h2] at hL; simp at hL
    | some l2 =>
      rw [h2] at hL
      cases h3 : K 3 [z] with
      | none => rw [h3] at hL; simp at hL
      | some l3 =>
        rw [h3] at hL
        simp at hL
        exact ⟨l1, l2, l3, rfl, rfl, rfl, hL.symm⟩
theorem keyLits_len7 (n : Nat) {cs : List Value} {L : List Lit} (hL : Try.prog.keyLits (n + 1) 38 cs = some L) : cs.length = 3 := by
  unfold Program.keyLits at hL
  simp only [Try.underlying38, cells_key7] at hL
  split at hL
  · rename_i h
    exact h.1
  · cases hL
theorem three7 : ∀ {xs : List Value}, xs.length = 3 → ∃ x y z, xs = [x, y, z]
  | [x, y, z], _ => ⟨x, y, z, rfl⟩
theorem keyOf_ky_inv {v : Value} {l : Lit} (h : keyOf Try.prog 38 v = some l) : ∃ k, wfKy k ∧ v = .agg #[.int .i64 k.kind, .int .i64 k.id, .int .i64 k.adv] ∧ l = kyLit k := by
  obtain ⟨xs, L, rfl, hL, rfl⟩ := keyOf_top (by rw [Try.underlying38]) h
  obtain ⟨n, hn⟩ := size7
  rw [hn] at hL
  have hl := keyLits_len7 _ hL
  obtain ⟨xs⟩ := xs
  simp only at hL hl
  obtain ⟨x, y, z, rfl⟩ := three7 hl
  · obtain ⟨l1, l2, l3, e1, e2, e3, rfl⟩ := keyLits_inv7 n hL
    obtain ⟨a, wa, rfl, rfl⟩ := keyLit_int7 n e1
    obtain ⟨b, wb, rfl, rfl⟩ := keyLit_int7 n e2
    obtain ⟨c, wc, rfl, rfl⟩ := keyLit_int7 n e3
    exact ⟨⟨a, b, c⟩, ⟨(wf_i64_iff _).1 wa, (wf_i64_iff _).1 wb, (wf_i64_iff _).1 wc⟩, rfl, rfl⟩
theorem kyLit_inj {a b : Ky} (ha : wfKy a) (hb : wfKy b) (h : kyLit a = kyLit b) : a = b := by
  have e1 := keyOf_ky ha
  rw [h] at e1
  have := keyed7.inj e1 (keyOf_ky hb)
  obtain ⟨a1, a2, a3⟩ := a
  obtain ⟨b1, b2, b3⟩ := b
  simp at this
  simp [this]
end Go.Proofs.Ytlcaaoflbldocaa
