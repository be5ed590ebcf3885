/- The program's table in memory, and where a row of it leads. No conditions. -/
import Derived.Test.YtohfoopagbajnaaDoorNa
import Derived.Test.YtohfoopagbajnaaDoorWa
namespace Go.Proofs.YtohfoopagbajnaaDoor
open Go.RowKit Go.Deep
def encMv (m : Mv) : List Value := [.int .i64 m.least, .int .i64 m.most, .int .i64 m.event, .int .i64 m.adj, .int .i64 m.apart]
def tblL : List Value := mvs.flatMap encMv
theorem tblL_len : tblL.length = 50 := by rfl
/-- The table lies in its variable. -/
def Tab (w : World) : Prop := w.rangeAt 0 0 tblL ∧ 0 < w.heap.size
theorem Tab.below {w w' : World} {B : Nat} (h : Tab w) (hb : Below B w w') (hB : 0 < B) : Tab w' :=
  ⟨fun j v hv => (hb.cell (p := ⟨0, 0 + j, none⟩) hB).trans (h.1 j v hv), by have := hb.size; have := h.2; omega⟩
theorem Tab.next {w w' : World} (h : Tab w) (hb : Below w.heap.size w w') : Tab w' := h.below hb h.2

theorem Blk.five {w : World} {g : Nat} {t : TypeId} {a0 a1 a2 a3 a4 : Value} (h : Blk w g t #[a0, a1, a2, a3, a4]) : w.cell? ⟨g, 0, none⟩ = some a0 ∧ w.cell? ⟨g, 1, none⟩ = some a1 ∧ w.cell? ⟨g, 2, none⟩ = some a2 ∧ w.cell? ⟨g, 3, none⟩ = some a3 ∧ w.cell? ⟨g, 4, none⟩ = some a4 := ⟨h.cell 0, h.cell 1, h.cell 2, h.cell 3, h.cell 4⟩

set_option maxRecDepth 8000 in
set_option maxHeartbeats 2000000 in
theorem leads_any (m : Mv) (s : Int) (a : Bool) (w : World) :
    Calls Tryd.prog 13 #[.agg #[.int .i64 m.least, .int .i64 m.most, .int .i64 m.event, .int .i64 m.adj, .int .i64 m.apart], .int .i64 s, .bool a] w fun e w' => e = .returned (.int .i64 (m.leads s a)) ∧ Below w.heap.size w w' := by
  have B0 := Lib.hid ((Below.refl w.heap.size w).alloc (Nat.le_refl _) (.cells #[.int .i64 m.least, .int .i64 m.most, .int .i64 m.event, .int .i64 m.adj, .int .i64 m.apart] 34))
  have K0 := Lib.hid (Blk.new w 34 #[.int .i64 m.least, .int .i64 m.most, .int .i64 m.event, .int .i64 m.adj, .int .i64 m.apart])
  obtain ⟨v, hv⟩ : ∃ v, v = m.leads s a := ⟨_, rfl⟩
  rw [← hv]
  have HV := Lib.hid hv
  clear hv
  go_enter Tryd.func13, Tryd.ntmps13
  cases a
  · by_cases h : m.apart = -1
    · have d0 : (m.apart == -1) = true := by simp [h]
      have HE := Lib.hid (show s = v by rw [HV.out, Mv.leads, show m.to false = m.apart from rfl, if_pos h])
      clear h
      go_wp2
      go_ret
      exact ⟨by rw [HE.out]; rfl, B0.out⟩
    · have d0 : (m.apart == -1) = false := by simp [h]
      have HE := Lib.hid (show m.apart = v by rw [HV.out, Mv.leads, show m.to false = m.apart from rfl, if_neg h])
      clear h
      go_wp2
      go_ret
      exact ⟨by rw [HE.out]; rfl, B0.out⟩
  · by_cases h : m.adj = -1
    · have d0 : (m.adj == -1) = true := by simp [h]
      have HE := Lib.hid (show s = v by rw [HV.out, Mv.leads, show m.to true = m.adj from rfl, if_pos h])
      clear h
      go_wp2
      go_ret
      exact ⟨by rw [HE.out]; rfl, B0.out⟩
    · have d0 : (m.adj == -1) = false := by simp [h]
      have HE := Lib.hid (show m.adj = v by rw [HV.out, Mv.leads, show m.to true = m.adj from rfl, if_neg h])
      clear h
      go_wp2
      go_ret
      exact ⟨by rw [HE.out]; rfl, B0.out⟩
end Go.Proofs.YtohfoopagbajnaaDoor
