/- Pairs, and rows, compared. Conditions: numbers of 64 bits. -/
import Derived.Test.YtndjoanlbaiaeaaKc
import Derived.DeepKeys
import Derived.Laws.StructEq
namespace Go.Proofs.Ytndjoanlbaiaeaa
open Go.RowKit

theorem keyLit_mk16 (n : Nat) {a : Int} (ha : in64 a) : Try.prog.keyLits (n + 1) 3 [.int .i64 a] = some [.int .i64 a] := by
  have h := (wf_i64_iff a).2 ha
  unfold Program.keyLits
  rw [under_int7]
  simp [h]
theorem pr_at : Try.prog.keyTypeAt 2 47 = true := by kernel_rfl
theorem cells_pr : Try.prog.cellsOf 47 = 2 := by kernel_rfl
theorem keyLits_pr (n : Nat) {x : Int × Int} (h : wfN x) : Try.prog.keyLits (n + 1 + 1) 47 [.int .i64 x.1, .int .i64 x.2] = some [.int .i64 x.1, .int .i64 x.2] := by
  obtain ⟨h1, h2⟩ := h
  unfold Program.keyLits
  simp [Try.underlying47, cells_pr, cells_int7, keyLit_mk16 n h1, keyLit_mk16 n h2, List.range, List.range.loop]
theorem formed_pr (x : Int × Int) : (Value.agg #[.int .i64 x.1, .int .i64 x.2]).formed Try.prog 47 = true := by
  simp [Value.formed, Try.underlying47, cells_pr]
theorem equalPr {a b : Int × Int} (ha : wfN a) (hb : wfN b) (W : World) : (Op.equalIn 10000 47 (.agg #[.int .i64 a.1, .int .i64 a.2]) (.agg #[.int .i64 b.1, .int .i64 b.2])).run Try.prog W = .ok (decide (a = b)) W := by
  obtain ⟨r, h1, h2⟩ := run_equalIn_deep 9998 2 47 pr_at W (9998 + 1 + 1) (9998 + 1 + 1) (.agg #[.int .i64 a.1, .int .i64 a.2]) (.agg #[.int .i64 b.1, .int .i64 b.2]) _ _ (formed_pr a) (formed_pr b) (by simpa [Value.cells] using keyLits_pr 9998 ha) (by simpa [Value.cells] using keyLits_pr 9998 hb)
  have h3 : r = decide (a = b) := by
    by_cases h : a = b
    · subst h
      rw [h2.2 rfl]
      simp
    · cases hr : r
      · simp [h]
      · exfalso
        have := h2.1 hr
        obtain ⟨a1, a2⟩ := a
        obtain ⟨b1, b2⟩ := b
        simp at this
        exact h (by simp [this])
  rw [← h3]
  exact h1
theorem rw_at : Try.prog.keyTypeAt 3 61 = true := by kernel_rfl
theorem cells_rw : Try.prog.cellsOf 61 = 5 := by kernel_rfl
theorem keyLits_ky16 (n : Nat) {k : Ky} (h : wfKy k) : Try.prog.keyLits (n + 1 + 1) 34 [.int .i64 k.kind, .int .i64 k.id, .int .i64 k.adv] = some [.int .i64 k.kind, .int .i64 k.id, .int .i64 k.adv] :=
  keyLits7 n ((wf_i64_iff _).2 h.1) ((wf_i64_iff _).2 h.2.1) ((wf_i64_iff _).2 h.2.2)
theorem keyLits_rw (n : Nat) {x : Rw} (h : wfN x.n ∧ wfKy x.k) : Try.prog.keyLits (n + 1 + 1 + 1) 61 [.int .i64 x.n.1, .int .i64 x.n.2, .int .i64 x.k.kind, .int .i64 x.k.id, .int .i64 x.k.adv] = some [.int .i64 x.n.1, .int .i64 x.n.2, .int .i64 x.k.kind, .int .i64 x.k.id, .int .i64 x.k.adv] := by
  obtain ⟨⟨h1, h2⟩, h3⟩ := h
  unfold Program.keyLits
  simp [Try.underlying61, cells_rw, cells_key7, cells_int7, keyLit_mk16 (n + 1) h1, keyLit_mk16 (n + 1) h2, keyLits_ky16 n h3]
theorem formed_rw (x : Rw) : (Value.agg #[.int .i64 x.n.1, .int .i64 x.n.2, .int .i64 x.k.kind, .int .i64 x.k.id, .int .i64 x.k.adv]).formed Try.prog 61 = true := by
  simp [Value.formed, Try.underlying61, cells_rw]
theorem equalRw {a b : Rw} (ha : wfN a.n ∧ wfKy a.k) (hb : wfN b.n ∧ wfKy b.k) (W : World) : (Op.equalIn 10000 61 (.agg #[.int .i64 a.n.1, .int .i64 a.n.2, .int .i64 a.k.kind, .int .i64 a.k.id, .int .i64 a.k.adv]) (.agg #[.int .i64 b.n.1, .int .i64 b.n.2, .int .i64 b.k.kind, .int .i64 b.k.id, .int .i64 b.k.adv])).run Try.prog W = .ok (decide (a = b)) W := by
  obtain ⟨r, h1, h2⟩ := run_equalIn_deep 9997 3 61 rw_at W (9997 + 1 + 1 + 1) (9997 + 1 + 1 + 1) (.agg #[.int .i64 a.n.1, .int .i64 a.n.2, .int .i64 a.k.kind, .int .i64 a.k.id, .int .i64 a.k.adv]) (.agg #[.int .i64 b.n.1, .int .i64 b.n.2, .int .i64 b.k.kind, .int .i64 b.k.id, .int .i64 b.k.adv]) _ _ (formed_rw a) (formed_rw b) (by simpa [Value.cells] using keyLits_rw 9997 ha) (by simpa [Value.cells] using keyLits_rw 9997 hb)
  have h3 : r = decide (a = b) := by
    by_cases h : a = b
    · subst h
      rw [h2.2 rfl]
      simp
    · cases hr : r
      · simp [h]
      · exfalso
        have := h2.1 hr
        obtain ⟨⟨a1, a2⟩, a3, a4, a5⟩ := a
        obtain ⟨⟨b1, b2⟩, b3, b4, b5⟩ := b
        simp at this
        exact h (by simp [this])
  rw [← h3]
  exact h1
end Go.Proofs.Ytndjoanlbaiaeaa
