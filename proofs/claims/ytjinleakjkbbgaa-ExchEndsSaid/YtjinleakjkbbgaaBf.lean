/- fits, goOn of the program. Conditions: what the words say. -/
import Derived.Test.YtjinleakjkbbgaaBe
namespace Go.Proofs.Ytjinleakjkbbgaa
open Go.RowKit Go.Lib Go.Sort Go.Deep

section
variable {w : World} {F : Nat → Prop} {p : Nat} {x : Ex}
set_option maxRecDepth 8000 in
set_option maxHeartbeats 4000000 in
theorem fitsX {h : Option Addr} (pc : Pc) (hB : Blk w p 68 (exC x h)) : Calls Try.prog 29 #[.pointer (some ⟨p, 0, none⟩), .agg #[.bool pc.init, .bool pc.more, .bool pc.master, .int .u32 pc.seq]] w fun e w' => e = .returned (.bool (fitsE x pc)) ∧ Below w.heap.size w w' := by
  obtain ⟨self, other, seq, agreed, leads, done, took, said, K⟩ := x
  obtain ⟨i, m, s, q⟩ := pc
  obtain ⟨v, hv⟩ : ∃ v, fitsE ⟨self, other, seq, agreed, leads, done, took, said, K⟩ ⟨i, m, s, q⟩ = v := ⟨_, rfl⟩
  rw [hv]
  unfold fitsE at hv
  dsimp only at hv
  have B0 := Lib.hid ((Below.refl w.heap.size w).alloc (Nat.le_refl _) (.cells #[.bool i, .bool m, .bool s, .int .u32 q] 65))
  have K0 : Blk (w.alloc (.cells #[.bool i, .bool m, .bool s, .int .u32 q] 65)) p 68 #[.int .i64 self, .int .i64 other, .int .u32 seq, .bool agreed, .bool leads, .bool done, .bool took.init, .bool took.more, .bool took.master, .int .u32 took.seq, .bool said.init, .bool said.more, .bool said.master, .int .u32 said.seq, .pointer h] := hB.alloc (.cells #[.bool i, .bool m, .bool s, .int .u32 q] 65)
  obtain ⟨n0, n1, n2, n3⟩ := (Blk.new w 65 #[.bool i, .bool m, .bool s, .int .u32 q]).four
  have hpl := K0.lt
  have hnl := (Blk.new w 65 #[.bool i, .bool m, .bool s, .int .u32 q]).lt
  have c2 := K0.cell 2
  have c4 := K0.cell 4
  have c5 := K0.cell 5
  have hup : IntKind.u32.wrap (seq + 1) = up32 seq := u32_mod _
  simp at c2 c4 c5
  clear hB K0
  have dq : ∀ a b : Int, decide (a = b) = (a == b) := fun a b => by by_cases h : a = b <;> simp [h]
  rw [dq] at hv
  clear dq
  cases leads
  all_goals
    cases done
    all_goals
      cases i
      all_goals
        cases s
        all_goals
          have HE := Lib.hid hv
          clear hv
          go_enter Try.func29, Try.ntmps29
          go_wp2_with fail
          go_quiet (fail)
          go_wp2
          go_ret
          exact ⟨ret_bool HE.out, belowD B0.out⟩
end
end Go.Proofs.Ytjinleakjkbbgaa
