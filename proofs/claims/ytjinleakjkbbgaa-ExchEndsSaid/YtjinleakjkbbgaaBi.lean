/- Hear of the program. Conditions: a number of 64 bits; at most 100 descriptions, on blocks below those of the exchange. -/
import Derived.Test.YtjinleakjkbbgaaBh
import Derived.Test.YtjinleakjkbbgaaBd
import Derived.Test.YtjinleakjkbbgaaUm
namespace Go.Proofs.Ytjinleakjkbbgaa
open Go.RowKit Go.Lib Go.Sort Go.Deep

theorem underPc : Try.prog.underlying 65 = some (.struct (Try.prog.fieldsOf 65)) := by kernel_rfl
theorem stoodPc : Try.prog.stoodInHeld 65 = false := by kernel_rfl
theorem plainB : Try.prog.plainKey 4 = true := by kernel_rfl
theorem plainU : Try.prog.plainKey 63 = true := by kernel_rfl
theorem eqBoolK (W : World) (a b : Bool) : (Op.equalIn (9998 + 1) 4 (.bool a) (.bool b)).run Try.prog W = .ok (a == b) W := run_equalIn_bool W 9998 _ a b Try.underlying4
theorem eqU32K (W : World) (a b : Int) : (Op.equalIn (9998 + 1) 63 (.int .u32 a) (.int .u32 b)).run Try.prog W = .ok (a == b) W := run_equalIn_int W 9998 _ .u32 .u32 a b Try.underlying63
theorem equalPc (x y : Pc) (W : World) : (Op.equalIn 10000 65 (.agg #[.bool x.init, .bool x.more, .bool x.master, .int .u32 x.seq]) (.agg #[.bool y.init, .bool y.more, .bool y.master, .int .u32 y.seq])).run Try.prog W = .ok (decide (x = y)) W := by
  have q0 : ∀ z : Pc, (part 4 #[.bool z.init, .bool z.more, .bool z.master, .int .u32 z.seq] 0).run Try.prog W = .ok (.bool z.init) W := fun z => run_part_plain W plainB rfl
  have q1 : ∀ z : Pc, (part 4 #[.bool z.init, .bool z.more, .bool z.master, .int .u32 z.seq] 1).run Try.prog W = .ok (.bool z.more) W := fun z => run_part_plain W plainB rfl
  have q2 : ∀ z : Pc, (part 4 #[.bool z.init, .bool z.more, .bool z.master, .int .u32 z.seq] 2).run Try.prog W = .ok (.bool z.master) W := fun z => run_part_plain W plainB rfl
  have q3 : ∀ z : Pc, (part 63 #[.bool z.init, .bool z.more, .bool z.master, .int .u32 z.seq] 3).run Try.prog W = .ok (.int .u32 z.seq) W := fun z => run_part_plain W plainU rfl
  rw [show (10000 : Nat) = 9998 + 1 + 1 from rfl, run_equalIn_struct W (9998 + 1) _ _ _ underPc stoodPc]
  simp [Program.fieldsOf, Try.underlying65, Op.eqFields, q0, q1, q2, q3, eqBoolK, eqU32K]
  clear q0 q1 q2 q3
  obtain ⟨x0, x1, x2, x3⟩ := x
  obtain ⟨y0, y1, y2, y3⟩ := y
  by_cases h1 : x0 = y0
  · by_cases h2 : x1 = y1
    · by_cases h3 : x2 = y2
      · by_cases h4 : x3 = y3 <;> simp [h1, h2, h3, h4]
      · simp [h1, h2, h3]
    · simp [h1, h2]
  · simp [h1]
end Go.Proofs.Ytjinleakjkbbgaa
