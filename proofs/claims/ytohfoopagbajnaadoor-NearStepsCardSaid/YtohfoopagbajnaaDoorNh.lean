/- The walk of the statement NearSteps. No conditions. -/
import Derived.Test.YtohfoopagbajnaaDoorNd
import Derived.Test.YtohfoopagbajnaaDoorNe
namespace Go.Proofs.YtohfoopagbajnaaDoor
open Go.RowKit Go.Deep
set_option maxRecDepth 8000 in
set_option maxHeartbeats 4000000 in
theorem steps_walk (s e : Int) (a : Bool) (w : World) (hT : Tab w) : Calls Tryd.prog 3 #[.int .i64 s, .int .i64 e, .bool a] w fun x w' => x = .returned (.bool true) ∧ Below w.heap.size w w' := by
  have HT := Lib.hid hT
  clear hT
  go_enter Tryd.func3, Tryd.ntmps3
  go_wp2_with fail
  refine (wakes_any HT.out).mono ?_
  rintro e1 w1 ⟨rfl, hb1⟩
  have B1 := Lib.hid hb1
  clear hb1
  go_wp2_with fail
  refine (step_any s e a w1 (HT.out.next B1.out)).mono ?_
  rintro e2 w2 ⟨rfl, hb2⟩
  have B2 := Lib.hid (B1.out.trans (hb2.mono B1.out.size))
  clear hb2
  go_wp2_with fail
  refine (rstep_any s e a w2).mono ?_
  rintro e3 w3 ⟨rfl, hb3⟩
  have B3 := Lib.hid (B2.out.trans (hb3.mono B2.out.size))
  clear hb3
  generalize stepF s e a = v
  go_wp2
  go_ret
  exact ⟨by simp, B3.out⟩
end Go.Proofs.YtohfoopagbajnaaDoor
