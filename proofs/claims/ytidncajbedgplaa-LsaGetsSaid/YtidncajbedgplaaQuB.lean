/- The Reader's inner call take: it moves on by k bytes if they are there and there was no error, else it sets the error. Conditions: the reader's three fields as they stand. -/
import Derived.Test.YtidncajbedgplaaQuA
namespace Go.Proofs.Ytidncajbedgplaa
open Go.RowKit

set_option maxHeartbeats 400000 in
theorem take_bad (g : Nat) (A : Option Addr) (n c : Nat) (a k e : Int) (w : World) (hb : Blk w g 72 #[.slice A n c, .int .i64 a, .int .i64 e]) (he : (e != 0) = true) :
    Calls Try.prog 49 #[.pointer (some ⟨g, 0, none⟩), .int .i64 k] w fun e' w' => e' = .returned (.slice none 0 0) ∧ w.setCell ⟨g, 2, none⟩ (.int .i64 3) = w' := by
  have c2 : w.cell? ⟨g, 2, none⟩ = some (.int .i64 e) := hb.cell 2
  have f2 := hb.frozen 2
  clear hb
  go_enter Try.func49, Try.ntmps49
  go_wp2
  refine scope_fwd 0 rfl ?_
  go_wp2
  go_step3
  refine ⟨rfl, ?_⟩
  go_wp2
  rw [Exit.noGoto_ret]
  go_ret
  exact ⟨rfl, rfl⟩

set_option maxHeartbeats 400000 in
theorem take_short (g : Nat) (A : Option Addr) (n c : Nat) (a k : Int) (w : World) (hb : Blk w g 72 #[.slice A n c, .int .i64 a, .int .i64 0]) (h0 : 0 ≤ a) (h1 : a ≤ n) (h2 : n ≤ maxLen) (hk : n - a < k) :
    Calls Try.prog 49 #[.pointer (some ⟨g, 0, none⟩), .int .i64 k] w fun e' w' => e' = .returned (.slice none 0 0) ∧ ∃ d, w' = (w.setCell ⟨g, 2, none⟩ (.int .i64 3)).drewN d := by
  have c2 : w.cell? ⟨g, 2, none⟩ = some (.int .i64 0) := hb.cell 2
  have f2 := hb.frozen 2
  have HB := Lib.hid hb
  clear hb
  go_enter Try.func49, Try.ntmps49
  go_wp2
  refine scope_fwd 0 rfl ?_
  go_wp2_with fail
  refine (left_any g A n c a 0 _ HB.out h0 h1 h2).mono ?_
  rintro e w' ⟨rfl, d, rfl⟩
  go_wp2
  go_step3
  refine ⟨rfl, ?_⟩
  go_wp2
  rw [Exit.noGoto_ret]
  go_ret
  exact ⟨rfl, d, rfl⟩

/-- What take answers, and leaves, where all is there. -/
def TakeOk (w : World) (g : Nat) (A : Option Addr) (n : Nat) (a k : Int) (e : Ending) (w' : World) : Prop :=
  ∃ A' c' d, e = .returned (.slice A' k.toNat c') ∧ k.toNat ≤ c' ∧ c' ≤ maxLen ∧ Cut A n a.toNat k.toNat A' ∧ w' = (w.setCell ⟨g, 1, none⟩ (.int .i64 (a + k))).drewN d

set_option maxHeartbeats 400000 in
theorem take_ok (g : Nat) (A : Option Addr) (n c : Nat) (a k : Int) (w : World) (hb : Blk w g 72 #[.slice A n c, .int .i64 a, .int .i64 0]) (h0 : 0 ≤ a) (h1 : a ≤ n) (h2 : n ≤ c) (h3 : c ≤ maxLen) (hk0 : 0 ≤ k) (hk : k ≤ n - a) :
    Calls Try.prog 49 #[.pointer (some ⟨g, 0, none⟩), .int .i64 k] (w) (TakeOk w g A n a k) := by
  have hz := h3
  unfold maxLen at hz
  have b2 := (hb.put 1 (.int .i64 (a + k)))
  have c0 : w.cell? ⟨g, 0, none⟩ = some (.slice A n c) := hb.cell 0
  have c1 : w.cell? ⟨g, 1, none⟩ = some (.int .i64 a) := hb.cell 1
  have c2 : w.cell? ⟨g, 2, none⟩ = some (.int .i64 0) := hb.cell 2
  have f2 := hb.frozen 1
  have HB := Lib.hid hb
  clear hb
  go_enter Try.func49, Try.ntmps49
  go_wp2
  go_step3
  go_wp2_with fail
  refine (left_any g A n c a 0 _ HB.out h0 h1 (by omega)).mono ?_
  rintro e w' ⟨rfl, d, rfl⟩
  go_wp2
  have b3 : Blk ((w.drewN d).setCell ⟨g, 1, none⟩ (.int .i64 (a + k))) g 72 #[.slice A n c, .int .i64 (a + k), .int .i64 0] := (HB.out.drewN d).put 1 _
  have c0' := b3.cell 0
  have c1' := b3.cell 1
  simp only [List.getElem?_toArray, List.getElem?_cons_zero, List.getElem?_cons_succ] at c0' c1'
  clear c0 c1 c2 f2 b3 HB
  generalize hw2 : (w.drewN d).setCell ⟨g, 1, none⟩ (.int .i64 (a + k)) = w2 at *
  have HW := Lib.hid hw2
  clear hw2
  have hs : IntKind.i64.wrap (a + k - k) = a := by rw [IntKind.wrap_i64]; omega
  go_quiet (fail)
  clear hs
  go_wp2
  all_goals
    go_ret
    rw [← HW.out]
    have e1 : (a + k).toNat - a.toNat = k.toNat := by omega
    rw [e1]
    refine ⟨_, _, d + nq, rfl, by omega, by omega, ?_, by rw [← World.drewN_drewN]; rfl⟩
  · have e2 : k.toNat = 0 := by omega
    rw [e2]
    exact cut_none _ _ _ _
  · exact cut_some A n a.toNat k.toNat (by omega)
end Go.Proofs.Ytidncajbedgplaa
