/- No list; the example; the walks of PeersNil, PeersAgain. Conditions: what the words say. -/
import Derived.Test.YtfapphndfgoknaaHk
namespace Go.Proofs.Ytfapphndfgoknaa
open Go.RowKit Go.Deep

theorem under36 : Try.prog.underlying 36 = some (.struct (Try.prog.fieldsOf 36)) := by kernel_rfl
theorem stood36 : Try.prog.stoodInHeld 36 = false := by kernel_rfl
def sameH (x y : Hd) : Bool := x.taken == y.taken && x.fresh == y.fresh && x.two == y.two && x.one == y.one && x.bears == y.bears
theorem sameH_self (x : Hd) : sameH x x = true := by simp [sameH]
theorem equalH (x y : Hd) (W : World) : (Op.equalIn 10000 36 (.agg #[.bool x.taken, .bool x.fresh, .bool x.two, .bool x.one, .bool x.bears]) (.agg #[.bool y.taken, .bool y.fresh, .bool y.two, .bool y.one, .bool y.bears])).run Try.prog W = .ok (sameH x y) W := by
  have q0 : ∀ z : Hd, (part 4 #[.bool z.taken, .bool z.fresh, .bool z.two, .bool z.one, .bool z.bears] 0).run Try.prog W = .ok (.bool z.taken) W := fun z => run_part_plain W plain4 rfl
  have q1 : ∀ z : Hd, (part 4 #[.bool z.taken, .bool z.fresh, .bool z.two, .bool z.one, .bool z.bears] 1).run Try.prog W = .ok (.bool z.fresh) W := fun z => run_part_plain W plain4 rfl
  have q2 : ∀ z : Hd, (part 4 #[.bool z.taken, .bool z.fresh, .bool z.two, .bool z.one, .bool z.bears] 2).run Try.prog W = .ok (.bool z.two) W := fun z => run_part_plain W plain4 rfl
  have q3 : ∀ z : Hd, (part 4 #[.bool z.taken, .bool z.fresh, .bool z.two, .bool z.one, .bool z.bears] 3).run Try.prog W = .ok (.bool z.one) W := fun z => run_part_plain W plain4 rfl
  have q4 : ∀ z : Hd, (part 4 #[.bool z.taken, .bool z.fresh, .bool z.two, .bool z.one, .bool z.bears] 4).run Try.prog W = .ok (.bool z.bears) W := fun z => run_part_plain W plain4 rfl
  rw [show (10000 : Nat) = 9998 + 1 + 1 from rfl, run_equalIn_struct W (9998 + 1) _ _ _ under36 stood36]
  simp [Program.fieldsOf, Try.underlying36, Op.eqFields, q0, q1, q2, q3, q4, eqBool]
  clear q0 q1 q2 q3 q4
  unfold sameH
  by_cases h1 : x.taken = y.taken
  · by_cases h2 : x.fresh = y.fresh
    · by_cases h3 : x.two = y.two
      · by_cases h4 : x.one = y.one
        · by_cases h5 : x.bears = y.bears <;> simp [h1, h2, h3, h4, h5]
        · simp [h1, h2, h3, h4]
      · simp [h1, h2, h3]
    · simp [h1, h2]
  · simp [h1]
set_option maxRecDepth 8000 in
theorem hear_no (i : Int) (h : Hl) (now : Int) (A : Option Addr) (n c : Nat) (w : World) : Calls Try.prog 8 #[.pointer none, .int .i64 i, .agg #[.int .i64 h.every, .int .i64 h.dead, .int .i64 h.prio, .int .i64 h.dr, .int .i64 h.bdr, .slice A n c], .int .i64 now] w fun e w' => e = .returned (.agg #[.bool noHd.taken, .bool noHd.fresh, .bool noHd.two, .bool noHd.one, .bool noHd.bears]) ∧ Below w.heap.size w w' := by
  have B6 := (Below.refl w.heap.size w).alloc (Nat.le_refl _) (.cells #[.int .i64 h.every, .int .i64 h.dead, .int .i64 h.prio, .int .i64 h.dr, .int .i64 h.bdr, .slice A n c] 32)
  have B0 := Lib.hid (B6.alloc (by simp) (.cells #[.bool false, .bool false, .bool false, .bool false, .bool false] 36))
  have K8' := Blk.new (w.alloc (.cells #[.int .i64 h.every, .int .i64 h.dead, .int .i64 h.prio, .int .i64 h.dr, .int .i64 h.bdr, .slice A n c] 32)) 36 #[.bool false, .bool false, .bool false, .bool false, .bool false]
  rw [World.size_alloc] at K8'
  have K80 := Lib.hid K8'
  clear B6 K8'
  have hb36 : ∀ W, (Instr.build 36 #[]).run Try.prog W = .ok (.agg #[.bool false, .bool false, .bool false, .bool false, .bool false]) W := fun W => by kernel_rfl
  go_enter Try.func8, Try.ntmps8
  go_upto_region 1 with fail
  try simp only [World.size_alloc]
  generalize (w.alloc (.cells #[.int .i64 h.every, .int .i64 h.dead, .int .i64 h.prio, .int .i64 h.dr, .int .i64 h.bdr, .slice A n c] 32)).alloc (.cells #[.bool false, .bool false, .bool false, .bool false, .bool false] 36) = w0 at *
  generalize hg : w.heap.size = g at *
  have HG := Lib.hid hg
  clear hg
  have hl0 := K80.out.lt
  go_wp2_with (refine wpList_store_hd noHd rfl _ _ rfl rfl rfl K80.out ?_; intro w2 HK2 HC2)
  have B2 := Lib.hid (show Below g w w2 from B0.out.trans (Chg.to_below (B := g) HC2.out (fun k hk => by rw [hk]; omega) (by omega)))
  obtain ⟨m0, m1, m2, m3, m4⟩ := HK2.out.five
  refine bodyPost_ret (v := .agg #[.bool noHd.taken, .bool noHd.fresh, .bool noHd.two, .bool noHd.one, .bool noHd.bears]) (by simp [results, Try.results8, go_sem, *]) rfl ?_
  exact ⟨rfl, by rw [HG.out]; exact B2.out⟩
theorem late_no (now : Int) (w : World) : Calls Try.prog 11 #[.pointer none, .int .i64 now] w fun e w' => (∃ A c, e = .returned (.slice A 0 c)) ∧ Below w.heap.size w w' := by
  have B0 := Lib.hid ((Below.refl w.heap.size w).alloc (Nat.le_refl _) (.cells #[.int .i64 now] 3))
  have hmf : ∀ (fn : Fn) (first cap : Array Value) (w : World), (Instr.makeFunc fn first cap).run Try.prog w = .ok (.func fn first cap) w := fun _ _ _ _ => rfl
  go_enter Try.func11, Try.ntmps11
  go_wp2_with fail
  generalize w.alloc (.cells #[.int .i64 now] 3) = w0 at *
  refine (which_nil _ _).mono ?_
  rintro e1 wq ⟨rfl, hq⟩
  rw [hq]
  clear hq wq
  go_wp2_with fail
  refine (numbers_nil _).mono ?_
  rintro e2 w2 ⟨⟨A, c, rfl⟩, hb2⟩
  have B2 := Lib.hid (B0.out.trans (hb2.mono B0.out.size))
  clear hb2
  go_wp2
  go_ret
  exact ⟨⟨A, c, rfl⟩, B2.out⟩
theorem all_no (w : World) : Calls Try.prog 18 #[.pointer none] w fun e w' => e = .returned (.slice none 0 0) ∧ w' = w := by
  go_enter Try.func18, Try.ntmps18
  go_wp2_with fail
  refine (which_nil _ _).mono ?_
  rintro e1 w1 ⟨rfl, rfl⟩
  go_wp2
  go_ret
  exact ⟨rfl, rfl⟩
theorem seen_no (w : World) : Calls Try.prog 20 #[.pointer none] w fun e w' => (∃ A c, e = .returned (.slice A 0 c)) ∧ Below w.heap.size w w' := by
  go_enter Try.func20, Try.ntmps20
  go_wp2_with fail
  refine (all_no _).mono ?_
  rintro e1 wq ⟨rfl, hq⟩
  rw [hq]
  clear hq wq
  go_wp2_with fail
  refine (numbers_nil _).mono ?_
  rintro e2 w2 ⟨⟨A, c, rfl⟩, hb2⟩
  have B2 := Lib.hid hb2
  clear hb2
  go_wp2
  go_ret
  exact ⟨⟨A, c, rfl⟩, B2.out⟩
theorem cands_no (w : World) : Calls Try.prog 21 #[.pointer none] w fun e w' => e = .returned (.slice none 0 0) ∧ w' = w := by
  go_enter Try.func21, Try.ntmps21
  go_wp2_with fail
  refine (which_nil _ _).mono ?_
  rintro e1 wq ⟨rfl, hq⟩
  rw [hq]
  clear hq wq
  go_wp2_with fail
  go_loopw [3, 9] (fun s3 s9 wr => s9 = .int .i64 0 ∧ s3 = .slice none 0 0 ∧ wr = w) (fun _ _ _ => 0)
  case atStart => exact ⟨rfl, rfl, rfl⟩
  case round =>
    obtain ⟨rfl, rfl, rfl⟩ := hrel
    go_wp2
    go_ret
    exact ⟨rfl, rfl⟩
set_option maxRecDepth 8000 in
theorem get_no (i : Int) (w : World) : Calls Try.prog 19 #[.pointer none, .int .i64 i] w fun e w' => e = .returned (.tuple #[.agg #[.int .i64 zeroP.id, .int .i64 zeroP.prio, .int .i64 zeroP.dr, .int .i64 zeroP.bdr, .int .i64 zeroP.st, .bool zeroP.two, .int .i64 zeroP.tick], .bool false]) ∧ Below w.heap.size w w' := by
  have B0 := Lib.hid ((Below.refl w.heap.size w).alloc (Nat.le_refl _) (.cells #[.int .i64 0, .int .i64 0, .int .i64 0, .int .i64 0, .int .i64 0, .bool false, .int .i64 0] 47))
  have K0 := Lib.hid (Blk.new w 47 #[.int .i64 0, .int .i64 0, .int .i64 0, .int .i64 0, .int .i64 0, .bool false, .int .i64 0])
  have hb : ∀ W, (Instr.build 47 #[]).run Try.prog W = .ok (.agg #[.int .i64 zeroP.id, .int .i64 zeroP.prio, .int .i64 zeroP.dr, .int .i64 zeroP.bdr, .int .i64 zeroP.st, .bool zeroP.two, .int .i64 zeroP.tick]) W := fun W => by kernel_rfl
  go_enter Try.func19, Try.ntmps19
  go_wp2_with fail
  generalize w.alloc (.cells #[.int .i64 0, .int .i64 0, .int .i64 0, .int .i64 0, .int .i64 0, .bool false, .int .i64 0] 47) = w0 at *
  refine (at_no i _).mono ?_
  rintro e1 wq ⟨rfl, hq⟩
  rw [hq]
  clear hq wq
  have hpl := K0.out.lt
  go_wp2_with (refine wpList_store_pe zeroP rfl _ _ rfl rfl rfl K0.out ?_; intro w2 HK2 HC2)
  have B2 := Lib.hid (below_own B0.out HC2.out (Nat.le_refl _))
  obtain ⟨k0, k1, k2, k3, k4, k5, k6⟩ := HK2.out.seven
  refine bodyPost_ret (v := .tuple #[.agg #[.int .i64 zeroP.id, .int .i64 zeroP.prio, .int .i64 zeroP.dr, .int .i64 zeroP.bdr, .int .i64 zeroP.st, .bool zeroP.two, .int .i64 zeroP.tick], .bool false]) (by simp [results, Try.results19, go_sem, *]) rfl ?_
  exact ⟨rfl, B2.out⟩
instance (z : Int) : Decidable (inI z) := by unfold inI; infer_instance
def hlW : Hl := ⟨2, 8, 0, 0, 0, [1]⟩
def hdW : Hd := ⟨true, true, true, false, true⟩
theorem wakes_is : hearH 1 0 [] 2 hlW 0 = hdW := by rfl
set_option maxRecDepth 8000 in
set_option maxHeartbeats 2000000 in
theorem wakes_any (w : World) : Calls Try.prog 6 #[] w fun e w' => e = .returned (.bool true) ∧ Below w.heap.size w w' := by
  go_enter Try.func6, Try.ntmps6
  go_wp2_with fail
  refine (new_any (sf := 1) (lan := 0) (by omega) (by omega) w).mono ?_
  rintro e1 w1 ⟨rfl, hp1, hb1⟩
  have P1 := Lib.hid hp1
  have B1 := Lib.hid hb1
  clear hp1 hb1
  generalize hg : w.heap.size = g at *
  have HG := Lib.hid hg
  clear hg
  have P2 := Lib.hid (P1.out.below ((Below.refl _ _).alloc (Nat.le_refl _) (.cells #[.int .i64 1] 3)))
  have B2 := Lib.hid (B1.out.alloc (by have := B1.out.size; have := HG.out; omega) (.cells #[.int .i64 1] 3))
  have K2 := Lib.hid (Blk.new w1 3 #[.int .i64 1])
  have R2 := Lib.hid (show Row .i64 (w1.alloc (.cells #[.int .i64 1] 3)) (w1.alloc (.cells #[.int .i64 1] 3)).heap.size (some ⟨w1.heap.size, 0, none⟩) 1 hlW.seen from ⟨rfl, fun _ => ⟨_, 0, rfl, K2.out.lt, fun j hj => by
    obtain rfl : j = 0 := by omega
    exact K2.out.cell 0⟩⟩)
  go_wp2_with fail
  generalize w1.alloc (.cells #[.int .i64 1] 3) = w2 at *
  generalize w1.heap.size = s at *
  refine (hear_any 2 hlW 0 (some ⟨s, 0, none⟩) 1 1 ⟨by decide, by decide, by decide⟩ P2.out R2.out (by unfold maxLen; omega) (by omega)).mono ?_
  rintro e3 w3 ⟨⟨r, rfl, hr⟩, -, hc3⟩
  rw [wakes_is] at hr
  subst hr
  have B3 := Lib.hid (B2.out.trans (Chg.to_below (B := g) hc3 (fun k hk => Nat.le_of_eq hk.symm) (by have := B2.out.size; have := HG.out; omega)))
  clear hc3
  have hEQ := fun W => equalH hdW hdW W
  have B4 := Lib.hid (B3.out.alloc (by have := B3.out.size; have := HG.out; omega) (.cells #[.bool hdW.taken, .bool hdW.fresh, .bool hdW.two, .bool hdW.one, .bool hdW.bears] 36))
  have K4 := Lib.hid (Blk.new w3 36 #[.bool hdW.taken, .bool hdW.fresh, .bool hdW.two, .bool hdW.one, .bool hdW.bears])
  have HS := Lib.hid (sameH_self hdW)
  go_upto_region 3 with fail
  generalize w3.alloc (.cells #[.bool hdW.taken, .bool hdW.fresh, .bool hdW.two, .bool hdW.one, .bool hdW.bears] 36) = w4 at *
  obtain ⟨m0, m1, m2, m3, m4⟩ := K4.out.five
  have hl4 := K4.out.lt
  rw [HS.out] at hEQ
  go_wp2
  go_ret
  exact ⟨rfl, by rw [HG.out]; exact B4.out⟩
end Go.Proofs.Ytfapphndfgoknaa
