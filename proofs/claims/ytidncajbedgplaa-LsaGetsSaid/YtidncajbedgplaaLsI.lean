/- The call Put of package lsa. Conditions: at most 50 links and 50 members. -/
import Derived.Test.YtidncajbedgplaaLsH
namespace Go.Proofs.Ytidncajbedgplaa
open Go.RowKit

theorem right_kind {h : Hd} {L : List Lk} {M : List Int} (hr : rightB h L M = true) : h.kind = 1 ∨ h.kind = 2 := by
  unfold rightB headB at hr
  simp only [Bool.and_eq_true, inB_iff] at hr
  omega

set_option maxHeartbeats 2000000 in
theorem lput_no (h : Hd) (L : List Lk) (M : List Int) (A A' : Option Addr) (n c n' c' B : Nat) (w : World) (hL : Lnk w B A n L) (hM : Row .i64 w B A' n' M) (hB : B ≤ w.heap.size) (hn : n ≤ 50) (hn' : n' ≤ 50) (hr : rightB h L M = false) :
    Calls Try.prog 10 #[.agg #[.int .i64 h.age, .int .i64 h.kind, .int .i64 h.id, .int .i64 h.adv, .int .i64 h.seq, .int .i64 h.sum, .int .i64 h.long, .slice A n c, .slice A' n' c']] w
    fun e w' => e = .returned (.tuple #[.slice none 0 0, .int .i64 1]) ∧ Below w.heap.size w w' := by
  have HL := Lib.hid hL
  have HM := Lib.hid hM
  have HR := Lib.hid hr
  clear hL hM hr
  go_enter Try.func10, Try.ntmps10
  go_wp2_with fail
  refine (right_any h L M A A' n c n' c' B _ (HL.out.alloc hB _) (HM.out.alloc hB _) (by simp; omega) (by unfold maxLen; omega) (by unfold maxLen; omega)).mono ?_
  rintro e1 w1 ⟨rfl, hb1⟩
  rw [HR.out]
  have HB1 := Lib.hid (((Below.refl w.heap.size w).alloc (Nat.le_refl _) _).trans (hb1.mono (by simp)))
  clear hb1
  go_wp2
  go_ret2
  exact ⟨rfl, HB1.out⟩

/-- Bytes of the call's own, and no error. -/
def PutOk (w : World) (L : List Int) (m : Nat) (x : Ending) (w' : World) : Prop := ∃ v, x = .returned (.tuple #[v, .int .i64 0]) ∧ Acc w w' v m L

set_option maxHeartbeats 2000000 in
theorem lput_yes (h : Hd) (L : List Lk) (M : List Int) (A A' : Option Addr) (n c n' c' B m : Nat) (w : World) (hL : Lnk w B A n L) (hM : Row .i64 w B A' n' M) (hB : B ≤ w.heap.size) (hn : n ≤ 50) (hn' : n' ≤ 50) (hr : rightB h L M = true) (hm : (lsaBytes h L M).length = m) :
    Calls Try.prog 10 #[.agg #[.int .i64 h.age, .int .i64 h.kind, .int .i64 h.id, .int .i64 h.adv, .int .i64 h.seq, .int .i64 h.sum, .int .i64 h.long, .slice A n c, .slice A' n' c']] w
    (PutOk w (lsaBytes h L M) m) := by
  generalize hQ : PutOk w (lsaBytes h L M) m = Q
  have HQ := Lib.hid hQ
  have HL := Lib.hid hL
  have HM := Lib.hid hM
  have HR := Lib.hid hr
  have Hm := Lib.hid hm
  clear hL hM hr hm hQ
  have K0 := Lib.hid (Blk.new w 27 #[.int .i64 h.age, .int .i64 h.kind, .int .i64 h.id, .int .i64 h.adv, .int .i64 h.seq, .int .i64 h.sum, .int .i64 h.long, .slice A n c, .slice A' n' c'])
  go_enter Try.func10, Try.ntmps10
  go_wp2_with fail
  refine (right_any h L M A A' n c n' c' B _ (HL.out.alloc hB _) (HM.out.alloc hB _) (by simp; omega) (by unfold maxLen; omega) (by unfold maxLen; omega)).mono ?_
  rintro e1 w1 ⟨rfl, hb1⟩
  rw [HR.out]
  have HB1 := Lib.hid (((Below.refl w.heap.size w).alloc (Nat.le_refl _) _).trans (hb1.mono (by simp)))
  obtain ⟨k0, k1, k2, k3, k4, k5, k6, k7, k8⟩ := (K0.out.below hb1 (by simp)).nine
  clear hb1
  go_wp2_with fail
  refine (sealed_any h L M A A' n c n' c' B m _ (HL.out.below (HB1.out.mono hB)) (HM.out.below (HB1.out.mono hB)) (by have := HB1.out.size; omega) hn hn' (right_kind HR.out) Hm.out).mono ?_
  rintro e2 w2 ⟨v2, rfl, ha2⟩
  have HA2 := Lib.hid (ha2.lower HB1.out)
  clear ha2 k0 k1 k2 k3 k4 k5 k6 k7 k8
  go_wp2
  rw [← HQ.out]
  exact ⟨_, rfl, HA2.out⟩
end Go.Proofs.Ytidncajbedgplaa
