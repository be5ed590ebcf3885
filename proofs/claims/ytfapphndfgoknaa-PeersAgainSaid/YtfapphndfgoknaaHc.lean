/- The small calls of the program's list. Conditions: what the words say. -/
import Derived.Test.YtfapphndfgoknaaHb
namespace Go.Proofs.Ytfapphndfgoknaa
open Go.RowKit Go.Deep

def rtB (i : Int) : Bool := decide (1 ≤ i) && decide (i ≤ 15)
theorem isRouter_any (i : Int) (w : World) : Calls Try.prog 37 #[.int .i64 i] w fun e w' => e = .returned (.bool (rtB i)) ∧ w' = w := by
  unfold rtB
  by_cases h1 : 1 ≤ i
  · have d1 : decide (1 ≤ i) = true := by simpa using h1
    generalize hd : decide (i ≤ 15) = d
    rw [d1, Bool.true_and]
    clear h1
    go_enter Try.func37, Try.ntmps37
    go_wp2
    go_ret
    exact ⟨rfl, rfl⟩
  · have d1 : decide (1 ≤ i) = false := by simpa using h1
    rw [d1, Bool.false_and]
    clear h1
    go_enter Try.func37, Try.ntmps37
    go_wp2
    go_ret
    exact ⟨rfl, rfl⟩
theorem isLan_any (i : Int) (hi : 0 ≤ i ∧ i ≤ 3) (w : World) : Calls Try.prog 42 #[.int .i64 i] w fun e w' => e = .returned (.bool true) ∧ w' = w := by
  have d1 : decide (0 ≤ i) = true := by simpa using hi.1
  have d2 : decide (i ≤ 3) = true := by simpa using hi.2
  clear hi
  go_enter Try.func42, Try.ntmps42
  go_wp2
  go_ret
  exact ⟨rfl, rfl⟩
theorem addr_any (l : Int) (hl : 0 ≤ l ∧ l ≤ 3) (w : World) : Calls Try.prog 41 #[.int .i64 l, .int .i64 0] w fun e w' => e = .returned (.int .i64 (l * 16)) ∧ w' = w := by
  have h4 : l = 0 ∨ l = 1 ∨ l = 2 ∨ l = 3 := by omega
  clear hl
  rcases h4 with rfl | rfl | rfl | rfl <;>
  · go_enter Try.func41, Try.ntmps41
    go_wp2
    go_ret
    exact ⟨rfl, rfl⟩
theorem rtB_not {X : List Pe} (hs : Srt X) (bk : Int → Nat) {i : Int} (h : rtB i = false) : ptrP X bk i = .pointer none := by
  unfold ptrP
  rw [findP_off hs (fun hc => by simp [rtB] at h; omega)]
  rfl
set_option maxRecDepth 8000 in
theorem at_any {w : World} {p : Nat} {F : Nat → Prop} {sf lan : Int} {X : List Pe} {bk : Int → Nat} (i : Int) (h : PDb w p F sf lan X bk) :
    Calls Try.prog 33 #[.pointer (some ⟨p, 0, none⟩), .int .i64 i] w fun e w' => e = .returned (ptrP X bk i) ∧ w' = w := by
  cases hr : rtB i
  · have HE := Lib.hid (rtB_not h.srt bk hr)
    rw [HE.out]
    clear h
    go_enter Try.func33, Try.ntmps33
    go_wp2_with fail
    refine (isRouter_any i _).mono ?_
    rintro e1 w1 ⟨rfl, rfl⟩
    rw [hr]
    go_wp2
    go_ret
    exact ⟨rfl, rfl⟩
  · obtain ⟨k, rfl⟩ : ∃ k : Nat, i = (k : Int) := ⟨i.toNat, by simp [rtB] at hr; omega⟩
    have hk : k < 16 := by simp [rtB] at hr; omega
    have hk' : (k : Int) < 16 := by omega
    have c2 := h.at k hk
    obtain ⟨-, -, hpl⟩ := h.cells
    generalize ptrP X bk (k : Int) = v at *
    clear h
    go_enter Try.func33, Try.ntmps33
    go_wp2_with fail
    refine (isRouter_any (k : Int) _).mono ?_
    rintro e1 w1 ⟨rfl, rfl⟩
    rw [hr]
    go_wp2
    go_ret
    exact ⟨rfl, rfl⟩
theorem at_no (i : Int) (w : World) : Calls Try.prog 33 #[.pointer none, .int .i64 i] w fun e w' => e = .returned (.pointer none) ∧ w' = w := by
  go_enter Try.func33, Try.ntmps33
  go_wp2
  go_ret
  exact ⟨rfl, rfl⟩
theorem late_any (a now : Int) (ha : 0 ≤ a ∧ a ≤ 1048576) (hn : 0 ≤ now ∧ now ≤ 1048600) (w : World) : Calls Try.prog 32 #[.int .i64 a, .int .i64 now] w fun e w' => e = .returned (.bool (decide (8 ≤ now - a))) ∧ w' = w := by
  by_cases h1 : a < now
  · have d1 : decide (a < now) = true := by simpa using h1
    have e1 : now % 18446744073709551616 = now := by omega
    have e2 : a % 18446744073709551616 = a := by omega
    have e3 : (now - a) % 18446744073709551616 = now - a := by omega
    generalize hd : decide (8 ≤ now - a) = d
    clear h1
    go_enter Try.func32, Try.ntmps32
    go_wp2
    go_ret
    exact ⟨rfl, rfl⟩
  · have d1 : decide (a < now) = false := by simpa using h1
    have d2 : decide (8 ≤ now - a) = false := by simp; omega
    rw [d2]
    clear h1
    go_enter Try.func32, Try.ntmps32
    go_wp2
    go_ret
    exact ⟨rfl, rfl⟩
end Go.Proofs.Ytfapphndfgoknaa
