/- Hear of the reference; an exchange and the reference's beside each other. Conditions: what the words say. · The walk of the statement ExchHears. Conditions: what the words say. -/
import Derived.Deep.RegionHeld3
import Derived.Test.YtfdfdmbnggpnbaaVav
import Derived.Test.YtfdfdmbnggpnbaaVas
namespace Go.Proofs.Ytfdfdmbnggpnbaa
open Go.RowKit Go.Lib Go.Sort Go.Deep

theorem rhear_any {w : World} {F : Nat → Prop} {p at' : Nat} {x : Ex} (pc : Pc) {Ah : Option Addr} {nh ch : Nat} {A : Option Addr} {n c B : Nat} {S : List La} {K : List Hd} (hx : RexAt w F p x at')
    (hS : Las w B A n S) (hBw : B ≤ w.heap.size) (hFB : ∀ q, F q → B ≤ q) (hn : n ≤ 100) (hK : Told S K) (hat : at' ≤ 900) :
    Calls Try.prog 31 #[.pointer (some ⟨p, 0, none⟩), .agg #[.bool pc.init, .bool pc.more, .bool pc.master, .int .i64 pc.seq, .slice Ah nh ch], .slice A n c] w (RhearQ F p at' (hearE x pc nh K) w) := by
  by_cases h : 0 ≤ pc.seq ∧ pc.seq < 4294967296
  · cases hag : x.agreed
    · exact rhear_new pc hx hS hBw hFB hn hK hat h hag
    · exact rhear_on pc hx hS hBw hFB hn hK hat h hag
  · exact rhear_strange pc hx hS hBw hFB hn hK hat ⟨by omega, trivial⟩
/-- An exchange and one of the reference beside each other, on blocks that are none of P and none of the other one's. -/
def PairAt (w : World) (P : Nat → Prop) (p p' k : Nat) (x y : Ex) : Prop :=
  ∃ (E F : Nat → Prop) (a : Nat), ExAt w E p x ∧ RexAt w F p' y a ∧ (∀ q, E q → q < w.heap.size ∧ ¬ P q ∧ ¬ F q) ∧ (∀ q, F q → ¬ P q ∧ ¬ E q) ∧ a ≤ k
section
variable {w w' : World} {P P' : Nat → Prop} {B p p' k : Nat} {x y : Ex} {A : Option Addr} {n c : Nat} {S : List La} {K : List Hd}
theorem PairAt.below (h : PairAt w P p p' k x y) (hb : Below w.heap.size w w') : PairAt w' P p p' k x y := by
  obtain ⟨E, F, a, h1, h2, h3, h4, h5⟩ := h
  exact ⟨E, F, a, h1.below hb, h2.below hb, fun q hq => ⟨Nat.lt_of_lt_of_le (h3 q hq).1 hb.size, (h3 q hq).2⟩, h4, h5⟩
theorem PairAt.keep (h : PairAt w P p p' k x y) (hP : ∀ q, P' q → P q ∨ w.heap.size ≤ q) : PairAt w P' p p' k x y := by
  obtain ⟨E, F, a, h1, h2, h3, h4, h5⟩ := h
  refine ⟨E, F, a, h1, h2, fun q hq => ⟨(h3 q hq).1, fun e => ?_, (h3 q hq).2.2⟩, fun q hq => ⟨fun e => ?_, (h4 q hq).2⟩, h5⟩
  · rcases hP q e with e | e
    · exact (h3 q hq).2.1 e
    · have := (h3 q hq).1
      omega
  · rcases hP q e with e | e
    · exact (h4 q hq).1 e
    · have := h2.bound q hq
      omega
theorem pair_x (pc : Pc) {Ah : Option Addr} {nh ch : Nat} (h : PairAt w P p p' k x y) (h0 : -9223372036854775808 ≤ pc.seq) (h1 : pc.seq ≤ 9223372036854775807) (hS : Las w B A n S) (hBw : B ≤ w.heap.size) (hP : ∀ q, P q → q < w.heap.size) (hPB : ∀ q, q < B → P q) (hn : n ≤ 100) (hK : Told S K) :
    Calls Try.prog 30 #[.pointer (some ⟨p, 0, none⟩), .agg #[.bool pc.init, .bool pc.more, .bool pc.master, .int .i64 pc.seq, .slice Ah nh ch], .slice A n c] w fun e w' => e = .returned (.int .i64 (hearE x pc nh K).1) ∧ PairAt w' P p p' k (hearE x pc nh K).2 y ∧ Chg (fun q => ¬ P q) w w' := by
  obtain ⟨E, F, a, hx, hy, hE, hF, ha⟩ := h
  refine (hearX pc h0 h1 hx (fun q hq => (hE q hq).1) hS hBw (fun q hq => ?_) hn hK).mono ?_
  · rcases Nat.lt_or_ge q B with hb | hb
    · exact absurd (hPB q hb) (hE q hq).2.1
    · exact hb
  rintro e w1 ⟨rfl, hx1, hc1⟩
  have hs := hc1.size
  refine ⟨rfl, ⟨Fp E w w1, F, a, hx1, hy.chg hc1 (fun q hq => (hF q hq).2), fun q hq => ?_, fun q hq => ⟨(hF q hq).1, fun e => ?_⟩, ha⟩, hc1.wide (fun q hq => (hE q hq).2.1)⟩
  · rcases hq with hq | hq
    · exact ⟨Nat.lt_of_lt_of_le (hE q hq).1 hs, (hE q hq).2⟩
    · exact ⟨hq.2, fun e => by have := hP q e; omega, fun e => by have := hy.bound q e; omega⟩
  · rcases e with e | e
    · exact (hF q hq).2 e
    · have := hy.bound q hq
      omega
theorem pair_y (pc : Pc) {Ah : Option Addr} {nh ch : Nat} (h : PairAt w P p p' k x y) (hS : Las w B A n S) (hBw : B ≤ w.heap.size) (hP : ∀ q, P q → q < w.heap.size) (hPB : ∀ q, q < B → P q) (hn : n ≤ 100) (hK : Told S K) (hk : k ≤ 900) :
    Calls Try.prog 31 #[.pointer (some ⟨p', 0, none⟩), .agg #[.bool pc.init, .bool pc.more, .bool pc.master, .int .i64 pc.seq, .slice Ah nh ch], .slice A n c] w fun e w' => e = .returned (.int .i64 (hearE y pc nh K).1) ∧ PairAt w' P p p' (k + 1) x (hearE y pc nh K).2 ∧ Chg (fun q => ¬ P q) w w' := by
  obtain ⟨E, F, a, hx, hy, hE, hF, ha⟩ := h
  refine (rhear_any pc hy hS hBw (fun q hq => ?_) hn hK (by omega)).mono ?_
  · rcases Nat.lt_or_ge q B with hb | hb
    · exact absurd (hPB q hb) (hF q hq).1
    · exact hb
  rintro e w1 ⟨rfl, ⟨a2, ha2, hy1⟩, hc1⟩
  have hs := hc1.size
  refine ⟨rfl, ⟨E, Fp F w w1, a2, hx.chg hc1 (fun q hq => (hE q hq).2.2), hy1, fun q hq => ⟨Nat.lt_of_lt_of_le (hE q hq).1 hs, (hE q hq).2.1, fun e => ?_⟩, fun q hq => ?_, by omega⟩, hc1.wide (fun q hq => (hF q hq).1)⟩
  · rcases e with e | e
    · exact (hE q hq).2.2 e
    · have := (hE q hq).1
      omega
  · rcases hq with hq | hq
    · exact hF q hq
    · exact ⟨fun e => by have := hP q e; omega, fun e => by have := (hE q e).1; omega⟩
end
theorem grown_same {w : World} {n : Nat} {os : Array Obj} {f : FuncId} {args : Array Value} {v : Value} (h : Calls Try.prog f args (grow (w.drewN n) os) fun e w' => e = .returned v ∧ w' = grow (w.drewN n) os) :
    Calls Try.prog f args (grow (w.drewN n) os) fun e w'' => e = .returned v ∧ ∃ pp : GrownBy, w'' = grow (w.drewN pp.n) pp.os := h.mono fun _ _ ⟨he, hw⟩ => ⟨he, ⟨n, os⟩, hw⟩
set_option maxRecDepth 8000 in
set_option maxHeartbeats 8000000 in
theorem pair_same {w : World} {P : Nat → Prop} {p p' k : Nat} {x : Ex} (h : PairAt w P p p' k x x) : Calls Try.prog 29 #[.pointer (some ⟨p, 0, none⟩), .pointer (some ⟨p', 0, none⟩)] w fun e w' => e = .returned (.bool true) ∧ Below w.heap.size w w' := by
  obtain ⟨E, F, a, hx, hy, -, -, -⟩ := h
  have HX := Lib.hid hx
  have HY := Lib.hid hy
  clear hx hy
  have mixed : Try.prog.follows .mixedOrders = true := by kernel_rfl
  go_enter Try.func29, Try.ntmps29
  go_wp2_with fail
  refine (sayO HX.out).mono ?_
  rintro e1 w1 ⟨A1, m1, c1, rfl, hb1, hO1⟩
  have hm1 : m1 ≤ 3 := by
    have := own_lenH encHd_len (by omega) hO1
    rw [List.length_take] at this
    omega
  have B2 := Lib.hid (hb1.alloc hb1.size (.cells #[.bool x.said.init, .bool x.said.more, .bool x.said.master, .int .i64 x.said.seq, .slice A1 m1 c1] 53))
  have N2 := Lib.hid (Blk.new w1 53 #[.bool x.said.init, .bool x.said.more, .bool x.said.master, .int .i64 x.said.seq, .slice A1 m1 c1])
  have O2 := Lib.hid (hO1.alloc (.cells #[.bool x.said.init, .bool x.said.more, .bool x.said.master, .int .i64 x.said.seq, .slice A1 m1 c1] 53))
  have X2 := Lib.hid (HX.out.below B2.out)
  have Y2 := Lib.hid (HY.out.below B2.out)
  clear hb1 hO1 HX HY
  go_wp2_with fail
  obtain ⟨z, hz⟩ : ∃ z, w1.heap.size = z := ⟨_, rfl⟩
  generalize w1.alloc (.cells #[.bool x.said.init, .bool x.said.more, .bool x.said.master, .int .i64 x.said.seq, .slice A1 m1 c1] 53) = w2 at *
  rw [hz] at N2 ⊢
  clear hz w1
  obtain ⟨n0, n1, n2, n3, n4⟩ := N2.out.five
  have hnl := N2.out.lt
  obtain ⟨AL, nL, cL, AS, nS, cS, AP, nP, cP, hbk, hhd, -⟩ := Y2.out.mem
  have hpl := hbk.lt
  obtain ⟨hh, hB, -⟩ := X2.out.mem
  have hpl2 := hB.lt
  have k2 : w2.cell? ⟨p', 2, none⟩ = some (.int .i64 x.seq) := hbk.cell 2
  have k3 : w2.cell? ⟨p', 3, none⟩ = some (.bool x.agreed) := hbk.cell 3
  have k4 : w2.cell? ⟨p', 4, none⟩ = some (.bool x.leads) := hbk.cell 4
  have k5 : w2.cell? ⟨p', 5, none⟩ = some (.bool x.done) := hbk.cell 5
  have k11 : w2.cell? ⟨p', 11, none⟩ = some (.bool x.said.init) := hbk.cell 11
  have k12 : w2.cell? ⟨p', 12, none⟩ = some (.bool x.said.more) := hbk.cell 12
  have k13 : w2.cell? ⟨p', 13, none⟩ = some (.bool x.said.master) := hbk.cell 13
  have k14 : w2.cell? ⟨p', 14, none⟩ = some (.int .i64 x.said.seq) := hbk.cell 14
  have k15 : w2.cell? ⟨p', 15, none⟩ = some (.slice AS nS cS) := hbk.cell 15
  have gz0 := fun n os => cell_grown (n := n) (os := os) hnl n0
  have gz1 := fun n os => cell_grown (n := n) (os := os) hnl n1
  have gz2 := fun n os => cell_grown (n := n) (os := os) hnl n2
  have gz3 := fun n os => cell_grown (n := n) (os := os) hnl n3
  have gz4 := fun n os => cell_grown (n := n) (os := os) hnl n4
  have g2 := fun n os => cell_grown (n := n) (os := os) hpl k2
  have g3 := fun n os => cell_grown (n := n) (os := os) hpl k3
  have g4 := fun n os => cell_grown (n := n) (os := os) hpl k4
  have g5 := fun n os => cell_grown (n := n) (os := os) hpl k5
  have g11 := fun n os => cell_grown (n := n) (os := os) hpl k11
  have g12 := fun n os => cell_grown (n := n) (os := os) hpl k12
  have g13 := fun n os => cell_grown (n := n) (os := os) hpl k13
  have g14 := fun n os => cell_grown (n := n) (os := os) hpl k14
  have g15 := fun n os => cell_grown (n := n) (os := os) hpl k15
  have bg : ∀ n os, Below w2.heap.size w2 (grow (w2.drewN n) os) := fun n os => below_grown13 ⟨n, os, rfl⟩
  have hnS : nS ≤ 3 := by
    have := hhd.1
    rw [List.length_take] at this
    omega
  have pS := fun n os => Calls.grown_of (same14_yes (w := grow (w2.drewN n) os) (B := w2.heap.size) (B' := w2.heap.size) (c := c1) (c' := cS) x.said x.said ((own_hds O2.out).below (bg n os)) (hhd.hds.below (bg n os)) (bg n os).size (bg n os).size (by omega) (by omega) rfl rfl)
  have pA := fun n os => grown_same (agreedX (w := grow (w2.drewN n) os) (hB.below (bg n os) hpl2))
  have pL := fun n os => grown_same (leadsX (w := grow (w2.drewN n) os) (hB.below (bg n os) hpl2))
  have pD := fun n os => grown_same (doneX (w := grow (w2.drewN n) os) (hB.below (bg n os) hpl2))
  have pQ := fun n os => grown_same (seqX (w := grow (w2.drewN n) os) X2.out.ok (hB.below (bg n os) hpl2))
  have e1 : (x.agreed == x.agreed) = true := by simp
  have e2 : (x.leads == x.leads) = true := by simp
  have e3 : (x.done == x.done) = true := by simp
  have e4 : (x.seq == x.seq) = true := by simp
  clear n0 n1 n2 n3 n4 k2 k3 k4 k5 k11 k12 k13 k14 k15 hbk hhd hB bg
  go_quiet_grown (first | (go_at_call 38; with_reducible exact pS _ _) | (go_at_call 39; with_reducible exact pA _ _) | (go_at_call 36; with_reducible exact pL _ _) | (go_at_call 35; with_reducible exact pD _ _) | (go_at_call 40; with_reducible exact pQ _ _))
  go_wp2
  go_ret
  exact ⟨rfl, B2.out.trans ((below_grown13 ⟨nq, osq, rfl⟩ : Below w2.heap.size w2 (grow (w2.drewN nq) osq)).mono B2.out.size)⟩
end Go.Proofs.Ytfdfdmbnggpnbaa
namespace Go.Proofs.Ytfdfdmbnggpnbaa
open Go.RowKit Go.Lib Go.Sort Go.Deep

theorem keepWk {w w' : World} {z : Nat} (h : w'.heap[z]? = w.heap[z]?) : ∀ o, w'.cell? ⟨z, o, none⟩ = w.cell? ⟨z, o, none⟩ := fun o => World.cell?_of_block (a := ⟨z, o, none⟩) h
theorem dds_item {w : World} {B n k : Nat} {A : Option Addr} {L : List (Pc × Nat)} (h : Dds w B A n L) (hk : k < n) : ∃ (b o : Nat) (d : Pc × Nat) (Ah : Option Addr) (ch : Nat), A = some ⟨b, o, none⟩ ∧ b < B ∧ w.rangeAt b (o + k * 5) [.bool d.1.init, .bool d.1.more, .bool d.1.master, .int .i64 d.1.seq, .slice Ah d.2 ch] ∧ -9223372036854775808 ≤ d.1.seq ∧ d.1.seq ≤ 9223372036854775807 := by
  obtain ⟨b, o, d, rfl, hb, hx, Ah, ch, hr, h1, h2, -⟩ := Arr.at h hk
  exact ⟨b, o, d, Ah, ch, rfl, hb, hr, h1, h2⟩
set_option maxRecDepth 20000 in
set_option maxHeartbeats 16000000 in
theorem hears_walk (n0 n1 n2 : Int) {w : World} {A : Option Addr} {n c : Nat} {T : List La} {Ab : Option Addr} {nb cb : Nat} {Lb : List (Pc × Nat)} (hT : Las w w.heap.size A n T) (hn : n ≤ maxLen) (hL : Dds w w.heap.size Ab nb Lb) (hnb : nb ≤ maxLen) :
    Calls Try.prog 6 #[.agg #[.int .i64 n0, .int .i64 n1, .int .i64 n2], .slice A n c, .slice Ab nb cb] w fun e w' => e = .returned (.bool true) ∧ Below w.heap.size w w' := by
  have HT := Lib.hid hT
  have HL := Lib.hid hL
  have HN := Lib.hid hn
  have B0 := Lib.hid ((Below.refl w.heap.size w).alloc (Nat.le_refl _) (.cells #[.int .i64 n0, .int .i64 n1, .int .i64 n2] 46))
  have N0 := Lib.hid (Blk.new w 46 #[.int .i64 n0, .int .i64 n1, .int .i64 n2])
  obtain ⟨K, hK⟩ := told_ex T
  have HK := Lib.hid hK
  unfold maxLen at hnb
  clear hT hL hn hK
  go_enter Try.func6, Try.ntmps6
  go_wp2_with fail
  refine (wakes14 _).mono ?_
  rintro e1 w1 ⟨rfl, hb1⟩
  have B1 := Lib.hid (B0.out.trans (hb1.mono B0.out.size))
  have N1 := Lib.hid (N0.out.below hb1 N0.out.lt)
  clear hb1 B0 N0
  go_wp2_with fail
  refine (many14 A n c T w.heap.size w1 (HT.out.below B1.out) B1.out.size HN.out).mono ?_
  rintro e2 w2 ⟨⟨t, rfl, ht⟩, hb2⟩
  have B2 := Lib.hid (B1.out.trans (hb2.mono B1.out.size))
  have N2 := Lib.hid (N1.out.below hb2 N1.out.lt)
  clear hb2 B1 N1
  cases t
  case true =>
    go_wp2
    go_ret
    exact ⟨rfl, B2.out⟩
  obtain ⟨hn60, -⟩ := ht rfl
  clear ht HN
  by_cases hnb2 : 60 < nb
  · have d1 : decide (60 < (nb : Int)) = true := by simp; omega
    go_wp2
    go_ret
    exact ⟨rfl, B2.out⟩
  have d1 : decide (60 < (nb : Int)) = false := by simp; omega
  obtain ⟨m0, m1, m2⟩ := N2.out.three
  have hnl := N2.out.lt
  have BR : Below w2.heap.size w2 w2.drew := ⟨rfl, rfl, rfl, Nat.le_refl _, fun _ _ => rfl⟩
  go_wp2_with fail
  go_region_held3 (fun w' => Below w2.heap.size w2 w' ∧ (∀ b o, b < w2.heap.size → w'.cell? ⟨b, o, none⟩ = w2.cell? ⟨b, o, none⟩)) ((refine keepS ?_; first | with_reducible exact BR | with_reducible exact BR5 | with_reducible exact BR6)) (first | (go_at_call 27; refine (newX_any n0 n1 n2 _).mono ?_; rintro e5 w5 ⟨rfl, hx5, hb5⟩; have BR5 := BR.trans (show Below w2.heap.size w2.drew w5 from hb5); have hz5 := hx5.lt) | (go_at_call 28; refine (rnew_any n0 n1 n2 _).mono ?_; rintro e6 w6 ⟨rfl, hx6, hb6⟩; have BR6 := BR5.trans (show Below w2.heap.size w5 w6 from Below.mono hb6 BR5.size)))
  rename_i hHd
  clear hHd
  have hs2 := B2.out.size
  have ez : w2.drew.heap.size = w2.heap.size := rfl
  have P6 := Lib.hid (show PairAt w6 (fun q => q < w.heap.size) w2.heap.size w5.heap.size 0 (newE n0 n1 n2) (newE n0 n1 n2) from ⟨_, _, 0, hx5.below hb6, hx6, fun q hq => ⟨by
    have h1 : q = w2.heap.size := hq
    have h2 := hb6.size
    have h3 : w2.heap.size < w5.heap.size := hz5
    omega, by
    have h1 : q = w2.heap.size := hq
    omega, by
    have h1 : q = w2.heap.size := hq
    have h3 : w2.heap.size < w5.heap.size := hz5
    omega⟩, fun q hq => ⟨by
    have h3 : w2.heap.size < w5.heap.size := hz5
    have h4 : q = w5.heap.size := hq
    omega, fun e => by
    have h1 : q = w2.heap.size := e
    have h3 : w2.heap.size < w5.heap.size := hz5
    have h4 : q = w5.heap.size := hq
    omega⟩, Nat.le_refl _⟩)
  have B6 := Lib.hid (B2.out.trans (BR6.mono hs2))
  clear hx5 hb5 hx6 hb6 BR BR5 BR6 hz5 m0 m1 m2 hnl N2 B2 hs2 ez
  obtain ⟨p, hp⟩ : ∃ p, w2.heap.size = p := ⟨_, rfl⟩
  obtain ⟨p', hp'⟩ : ∃ p', w5.heap.size = p' := ⟨_, rfl⟩
  rw [hp, hp'] at P6
  rw [hp, hp']
  clear hp hp'
  go_wp2_with fail
  go_loopw [36] (fun s36 wr => ∃ (k : Nat) (x : Ex), s36 = .int .i64 k ∧ k ≤ nb ∧ Hid (PairAt wr (fun q => q < w.heap.size) p p' k x x) ∧ Hid (Below w.heap.size w wr)) (fun s36 _ => nb + 1 - (intOf s36).toNat)
  case atStart => exact ⟨0, _, rfl, Nat.zero_le _, P6, B6⟩
  case round =>
    clear P6 B6
    obtain ⟨k, x, rfl, hk, PR, BR⟩ := hrel
    by_cases hlt : k < nb
    · have hlt' : (k : Int) < (nb : Int) := by omega
      obtain ⟨b, o, d, Ah, ch, rfl, hb, hr, hd0, hd1⟩ := dds_item (HL.out.below BR.out) hlt
      obtain ⟨pc, nh⟩ := d
      dsimp only at hr hd0 hd1
      have HR := Lib.hid hr
      have B2 := Lib.hid (BR.out.alloc BR.out.size (.cells #[.bool pc.init, .bool pc.more, .bool pc.master, .int .i64 pc.seq, .slice Ah nh ch] 53))
      have P2 := Lib.hid ((PR.out.below ((Below.refl wr.heap.size wr).alloc (Nat.le_refl _) (.cells #[.bool pc.init, .bool pc.more, .bool pc.master, .int .i64 pc.seq, .slice Ah nh ch] 53))))
      have N2 := Lib.hid (Blk.new wr 53 #[.bool pc.init, .bool pc.more, .bool pc.master, .int .i64 pc.seq, .slice Ah nh ch])
      have P3 := Lib.hid (show PairAt (wr.alloc (.cells #[.bool pc.init, .bool pc.more, .bool pc.master, .int .i64 pc.seq, .slice Ah nh ch] 53)) (fun q => q < w.heap.size ∨ q = wr.heap.size) p p' k x x from by
        obtain ⟨E, F, a, h1, h2, h3, h4, h5⟩ := PR.out.keep (P' := fun q => q < w.heap.size ∨ q = wr.heap.size) (fun q hq => by
          rcases hq with hq | hq
          · exact .inl hq
          · exact .inr (by omega))
        exact ⟨E, F, a, h1.below ((Below.refl wr.heap.size wr).alloc (Nat.le_refl _) _), h2.below ((Below.refl wr.heap.size wr).alloc (Nat.le_refl _) _), fun q hq => ⟨by have := (h3 q hq).1; simp; omega, (h3 q hq).2⟩, h4, h5⟩)
      clear hr P2 PR
      by_cases hh : 60 < nh
      · have d2 : decide (60 < (nh : Int)) = true := by simp; omega
        go_wp2_with (refine wpList_load_row 53 _ _ (by rfl) (.tmp 38) rfl (by rfl) HR.out Try.underlying53 rfl (by kernel_rfl) ?_)
        go_ret
        exact ⟨rfl, B2.out⟩
      · have d2 : decide (60 < (nh : Int)) = false := by simp; omega
        go_wp2_with (refine wpList_load_row 53 _ _ (by rfl) (.tmp 38) rfl (by rfl) HR.out Try.underlying53 rfl (by kernel_rfl) ?_)
        obtain ⟨z, hz⟩ : ∃ z, wr.heap.size = z := ⟨_, rfl⟩
        have hzw : w.heap.size ≤ z := by have := BR.out.size; omega
        generalize wr.alloc (.cells #[.bool pc.init, .bool pc.more, .bool pc.master, .int .i64 pc.seq, .slice Ah nh ch] 53) = w3 at *
        rw [hz] at N2 P3 ⊢
        clear hz HR
        obtain ⟨m0, m1, m2, m3, m4⟩ := N2.out.five
        have hml := N2.out.lt
        have hs3 := B2.out.size
        obtain ⟨v, y, hv⟩ : ∃ v y, hearE x pc nh K = (v, y) := ⟨_, _, rfl⟩
        have HV := Lib.hid hv
        have d3 : (v != v) = false := by simp
        have kR : w3.drew.heap[z]? = w3.heap[z]? := rfl
        have PR3 := Lib.hid (show PairAt w3.drew (fun q => q < w.heap.size ∨ q = z) p p' k x x from P3.out.below ⟨rfl, rfl, rfl, Nat.le_refl _, fun _ _ => rfl⟩)
        have hPB : ∀ q, q < w.heap.size → (q < w.heap.size ∨ q = z) := fun q hq => .inl hq
        have HPB := Lib.hid hPB
        clear hv hPB P3 N2
        go_region_held3 (fun w' => ∀ o, w'.cell? ⟨z, o, none⟩ = w3.cell? ⟨z, o, none⟩) ((refine keepWk ?_; first | with_reducible exact kR | with_reducible exact k4 | with_reducible exact k5 | with_reducible exact k6)) (first | (go_at_call 29; refine (pair_same PR3.out).mono ?_; rintro e4 w4 ⟨rfl, hb4⟩; have hs4 := hb4.size; have k4 : w4.heap[z]? = w3.heap[z]? := hb4.block z hml; have P4 := Lib.hid (PR3.out.below hb4); have B4 := Lib.hid (B2.out.trans ((⟨rfl, rfl, rfl, Nat.le_refl _, fun _ _ => rfl⟩ : Below w.heap.size w3 w3.drew).trans (hb4.mono hs3)))) | (go_at_call 30; have hq5 := pair_x pc (Ah := Ah) (nh := nh) (ch := ch) (c := c) P4.out hd0 hd1 (HT.out.below B4.out) B4.out.size (fun q hq => (by have := B4.out.size; have : z < w4.heap.size := Nat.lt_of_lt_of_le hml hs4; rcases hq with hq | hq <;> omega)) HPB.out (by omega) HK.out; rw [HV.out] at hq5; refine hq5.mono ?_; rintro e5 w5 ⟨rfl, hp5, hc5⟩; have hs5 := hc5.size; have k5 : w5.heap[z]? = w3.heap[z]? := (hc5.block z (Nat.lt_of_lt_of_le hml hs4) (fun e => e (.inr rfl))).trans k4; have P5 := Lib.hid hp5; have B5 := Lib.hid (B4.out.trans (chgP_below hc5 HPB.out B4.out.size))) | (go_at_call 31; have hq6 := pair_y pc (Ah := Ah) (nh := nh) (ch := ch) (c := c) P5.out (HT.out.below B5.out) B5.out.size (fun q hq => (by have := B5.out.size; have : z < w5.heap.size := Nat.lt_of_lt_of_le (Nat.lt_of_lt_of_le hml hs4) hs5; rcases hq with hq | hq <;> omega)) HPB.out (by omega) HK.out (by omega); rw [HV.out] at hq6; refine hq6.mono ?_; rintro e6 w6 ⟨rfl, hp6, hc6⟩; have k6 : w6.heap[z]? = w3.heap[z]? := (hc6.block z (Nat.lt_of_lt_of_le (Nat.lt_of_lt_of_le hml hs4) hs5) (fun e => e (.inr rfl))).trans k5; have P6 := Lib.hid (show PairAt w6 (fun q => q < w.heap.size) p p' (k + 1) y y from hp6.keep (fun q hq => .inl (.inl hq))); have B6 := Lib.hid (B5.out.trans (chgP_below hc6 HPB.out B5.out.size))))
        all_goals
          go_wp2
          go_roundw
          case rel => exact ⟨k + 1, y, by go_num, by omega, P6, B6⟩
          case measure => simp [intOf]; omega
    · have hlt' : ¬ (k : Int) < (nb : Int) := by omega
      go_wp2_with fail
      refine (pair_same PR.out).mono ?_
      rintro e7 w7 ⟨rfl, hb7⟩
      go_wp2
      go_ret
      exact ⟨rfl, BR.out.trans (hb7.mono BR.out.size)⟩
end Go.Proofs.Ytfdfdmbnggpnbaa
