/- Contains, told, stands of the program. Conditions: what the words say. -/
import Derived.Test.YtfapphndfgoknaaHe
namespace Go.Proofs.Ytfapphndfgoknaa
open Go.RowKit Go.Deep

theorem Row.at {w : World} {B n : Nat} {A : Option Addr} {L : List Int} (h : Row .i64 w B A n L) {k : Nat} (hk : k < n) : ∃ b o x, A = some ⟨b, o, none⟩ ∧ b < B ∧ L[k]? = some x ∧ w.cell? ⟨b, o + k, none⟩ = some (.int .i64 x) := by
  obtain ⟨b, o, e, hb, hc⟩ := h.2 (by omega)
  have hl := h.1
  have hx : L[k]? = some (L[k]'(by omega)) := List.getElem?_eq_getElem (by omega)
  have := hc k hk
  rw [List.getD_eq_getElem?_getD, hx] at this
  exact ⟨b, o, _, e, hb, hx, this⟩
theorem mem_take_next {L : List Int} {j : Nat} {x me : Int} (hx : L[j]? = some x) (hne : x ≠ me) (h : me ∉ L.take j) : me ∉ L.take (j + 1) := by
  rw [take_snocA L j x hx]
  simp
  exact ⟨fun hm => h hm, fun e => hne e.symm⟩
set_option maxRecDepth 8000 in
set_option maxHeartbeats 2000000 in
theorem index_any {w : World} {B n c : Nat} {A : Option Addr} {L : List Int} (me : Int) (hL : Row .i64 w B A n L) (hn : n ≤ maxLen) :
    Calls Try.prog 43 #[.slice A n c, .int .i64 me] w fun e w' => (∃ z : Int, e = .returned (.int .i64 z) ∧ decide (0 ≤ z) = L.contains me) ∧ w' = w := by
  generalize hQ : (fun (e : Ending) (w' : World) => (∃ z : Int, e = .returned (.int .i64 z) ∧ decide (0 ≤ z) = L.contains me) ∧ w' = w) = Q
  have HQ := Lib.hid hQ
  have HL := Lib.hid hL
  have HLEN := Lib.hid hL.1
  unfold maxLen at hn
  clear hQ hL
  go_enter Try.func43, Try.ntmps43
  go_wp2_with fail
  go_loopw [8] (fun i wr => ∃ j : Nat, j ≤ n ∧ i = .int .i64 j ∧ Hid (me ∉ L.take j) ∧ wr = w) (fun i _ => n - (intOf i).toNat)
  case atStart => exact ⟨0, Nat.zero_le _, rfl, Lib.hid (by simp), rfl⟩
  case round =>
    obtain ⟨j, hj, rfl, HM, rfl⟩ := hrel
    by_cases hlt : j < n
    · have hlt' : (j : Int) < n := by omega
      obtain ⟨b, o, x, rfl, hb, hx, hc⟩ := HL.out.at hlt
      have hbl := World.block_lt_of_cell? wr _ hc
      by_cases hme : x = me
      · have hm : L.contains me = true := by
          rw [← hme]
          simpa using List.mem_of_getElem? hx
        have HT := Lib.hid (show decide ((0 : Int) ≤ (j : Int)) = L.contains me by rw [hm]; simp)
        subst hme
        clear hm hx
        go_wp2
        show Q (.returned (.int .i64 j)) wr
        rw [← HQ.out]
        exact ⟨⟨j, rfl, HT.out⟩, rfl⟩
      · have d0 : (me == x) = false := by simp; exact fun e => hme e.symm
        have HM2 := Lib.hid (mem_take_next hx hme HM.out)
        clear hme hx
        go_wp2_with fail
        go_roundw
        case rel => exact ⟨j + 1, by omega, by go_num, HM2, trivial⟩
        case measure => simp [intOf]; omega
    · have hjn : j = n := by omega
      have HT := Lib.hid (show decide ((0 : Int) ≤ (-1 : Int)) = L.contains me by
        have h1 : L.take j = L := by rw [hjn, ← HLEN.out, List.take_length]
        have h2 := HM.out
        rw [h1] at h2
        have h3 : L.contains me = false := by simpa using h2
        rw [h3]
        rfl)
      clear hjn
      go_wp2
      show Q (.returned (.int .i64 (-1))) wr
      rw [← HQ.out]
      exact ⟨⟨-1, rfl, HT.out⟩, rfl⟩
theorem contains_any {w : World} {B n c : Nat} {A : Option Addr} {L : List Int} (me : Int) (hL : Row .i64 w B A n L) (hn : n ≤ maxLen) :
    Calls Try.prog 39 #[.slice A n c, .int .i64 me] w fun e w' => e = .returned (.bool (L.contains me)) ∧ w' = w := by
  obtain ⟨v, hv⟩ : ∃ v, L.contains me = v := ⟨_, rfl⟩
  rw [hv]
  have HV := Lib.hid hv
  have HL := Lib.hid hL
  clear hv hL
  go_enter Try.func39, Try.ntmps39
  go_wp2_with fail
  refine (index_any me HL.out hn).mono ?_
  rintro e1 w1 ⟨⟨z, rfl, hz⟩, rfl⟩
  have HZ := Lib.hid (hz.trans HV.out)
  clear hz
  generalize hd : decide (0 ≤ z) = d at *
  go_wp2
  go_ret
  exact ⟨by rw [← HZ.out]; rfl, rfl⟩
section
variable {w w' : World} {p q : Nat} {F G : Nat → Prop} {sf lan : Int} {X : List Pe} {bk : Int → Nat}
theorem PDb.far (h : PDb w p F sf lan X bk) {a : Addr} (hg : ¬ F a.block) (u : Value) : PDb (w.setCell a u) p F sf lan X bk :=
  h.chg (Chg.of_grown (F := fun k => k = a.block) (grown_setCell w a u) (fun k hk => by injection hk with hk; exact hk.symm)) (fun k hk e => hg (by rw [← e]; exact hk))
theorem PDb.drew (h : PDb w p F sf lan X bk) : PDb w.drew p F sf lan X bk := ⟨h.obj, h.row, h.inj, h.srt, h.me, h.net, h.fp, h.fb, h.fl⟩
end

set_option maxRecDepth 8000 in
set_option maxHeartbeats 800000 in
theorem told_any {w : World} {p : Nat} {F : Nat → Prop} {sf lan : Int} {X : List Pe} {bk : Int → Nat} (x : Pe) (h : Hl) (now : Int) (A : Option Addr) (n c : Nat) (hh : wfHl h) (hD : PDb w p F sf lan X bk) (hL : Row .i64 w w.heap.size A n h.seen) (hn : n ≤ maxLen)
    (ho : onB lan h.dr = true ∧ onB lan h.bdr = true) : Calls Try.prog 23 #[.pointer (some ⟨p, 0, none⟩), .agg #[.int .i64 x.id, .int .i64 x.prio, .int .i64 x.dr, .int .i64 x.bdr, .int .i64 x.st, .bool x.two, .int .i64 x.tick], .agg #[.int .i64 h.every, .int .i64 h.dead, .int .i64 h.prio, .int .i64 h.dr, .int .i64 h.bdr, .slice A n c], .int .i64 now] w
      fun e w' => e = .returned (.agg #[.int .i64 (toldP sf x h now).id, .int .i64 (toldP sf x h now).prio, .int .i64 (toldP sf x h now).dr, .int .i64 (toldP sf x h now).bdr, .int .i64 (toldP sf x h now).st, .bool (toldP sf x h now).two, .int .i64 (toldP sf x h now).tick]) ∧ Below w.heap.size w w' := by
  have HF := Lib.hid hD.fl
  have HO := Lib.hid ho
  have HH := Lib.hid hh
  have HS := Lib.hid hL.1
  have B5 := (Below.refl w.heap.size w).alloc (Nat.le_refl _) (.cells #[.int .i64 x.id, .int .i64 x.prio, .int .i64 x.dr, .int .i64 x.bdr, .int .i64 x.st, .bool x.two, .int .i64 x.tick] 47)
  have B6 := B5.alloc (by simp) (.cells #[.int .i64 h.every, .int .i64 h.dead, .int .i64 h.prio, .int .i64 h.dr, .int .i64 h.bdr, .slice A n c] 32)
  have B8 := B6.alloc (by simp; omega) (.cells #[.int .i64 0, .int .i64 0, .int .i64 0, .int .i64 0, .int .i64 0, .bool false, .int .i64 0] 47)
  have K5 := ((Blk.new w 47 #[.int .i64 x.id, .int .i64 x.prio, .int .i64 x.dr, .int .i64 x.bdr, .int .i64 x.st, .bool x.two, .int .i64 x.tick]).alloc (.cells #[.int .i64 h.every, .int .i64 h.dead, .int .i64 h.prio, .int .i64 h.dr, .int .i64 h.bdr, .slice A n c] 32)).alloc (.cells #[.int .i64 0, .int .i64 0, .int .i64 0, .int .i64 0, .int .i64 0, .bool false, .int .i64 0] 47)
  have K6 := (Blk.new (w.alloc (.cells #[.int .i64 x.id, .int .i64 x.prio, .int .i64 x.dr, .int .i64 x.bdr, .int .i64 x.st, .bool x.two, .int .i64 x.tick] 47)) 32 #[.int .i64 h.every, .int .i64 h.dead, .int .i64 h.prio, .int .i64 h.dr, .int .i64 h.bdr, .slice A n c]).alloc (.cells #[.int .i64 0, .int .i64 0, .int .i64 0, .int .i64 0, .int .i64 0, .bool false, .int .i64 0] 47)
  have K8 := Blk.new ((w.alloc (.cells #[.int .i64 x.id, .int .i64 x.prio, .int .i64 x.dr, .int .i64 x.bdr, .int .i64 x.st, .bool x.two, .int .i64 x.tick] 47)).alloc (.cells #[.int .i64 h.every, .int .i64 h.dead, .int .i64 h.prio, .int .i64 h.dr, .int .i64 h.bdr, .slice A n c] 32)) 47 #[.int .i64 0, .int .i64 0, .int .i64 0, .int .i64 0, .int .i64 0, .bool false, .int .i64 0]
  simp only [World.size_alloc] at K6 K8
  have B0 := Lib.hid B8
  have D0 := Lib.hid (hD.below B8)
  have R0 := Lib.hid (hL.below B8)
  have K50 := Lib.hid K5
  have K60 := Lib.hid K6
  have K80 := Lib.hid K8
  clear B5 B6 B8 K5 K6 K8 hD hL ho hh
  obtain ⟨v, hv⟩ : ∃ v, h.seen.contains sf = v := ⟨_, rfl⟩
  have HV := Lib.hid hv
  clear hv
  go_enter Try.func23, Try.ntmps23
  go_upto_region 1 with fail
  try simp only [World.size_alloc]
  generalize ((w.alloc (.cells #[.int .i64 x.id, .int .i64 x.prio, .int .i64 x.dr, .int .i64 x.bdr, .int .i64 x.st, .bool x.two, .int .i64 x.tick] 47)).alloc (.cells #[.int .i64 h.every, .int .i64 h.dead, .int .i64 h.prio, .int .i64 h.dr, .int .i64 h.bdr, .slice A n c] 32)).alloc (.cells #[.int .i64 0, .int .i64 0, .int .i64 0, .int .i64 0, .int .i64 0, .bool false, .int .i64 0] 47) = w0 at *
  generalize hg : w.heap.size = g at *
  have HG := Lib.hid hg
  clear hg
  have hl0 := K80.out.lt
  obtain ⟨i0, i1, i2, i3, i4, i5⟩ := K60.out.six
  obtain ⟨k0, k1, k2, k3, k4, k5, k6⟩ := K50.out.seven
  have z1 := K50.out.frozen 1
  have NF := Lib.hid (show ¬ F g from fun hk => Nat.lt_irrefl _ (HF.out g hk))
  go_upto_region 2 with fail
  have K51 := Lib.hid (show Blk (w0.setCell ⟨g, 1, none⟩ (.int .i64 h.prio)) g 47 #[.int .i64 x.id, .int .i64 h.prio, .int .i64 x.dr, .int .i64 x.bdr, .int .i64 x.st, .bool x.two, .int .i64 x.tick] from K50.out.put 1 _)
  have K61 := Lib.hid (K60.out.far (p := ⟨g, 1, none⟩) (show g + 1 ≠ g by omega) (.int .i64 h.prio))
  have K81 := Lib.hid (K80.out.far (p := ⟨g, 1, none⟩) (show g + 1 + 1 ≠ g by omega) (.int .i64 h.prio))
  have D1 := Lib.hid (D0.out.far (a := ⟨g, 1, none⟩) NF.out (.int .i64 h.prio))
  have R1 := Lib.hid (show Row .i64 (w0.setCell ⟨g, 1, none⟩ (.int .i64 h.prio)) g A n h.seen from R0.out.keep (fun q hq => World.cell?_setCell_other w0 _ _ _ (fun e => by rw [← e] at hq; exact Nat.lt_irrefl _ hq)))
  have B1 := Lib.hid (B0.out.setCell (p := ⟨g, 1, none⟩) (Nat.le_refl _) (.int .i64 h.prio))
  clear K50 K60 K80 D0 R0 B0 hl0 i0 i1 i2 i3 i4 i5 k0 k1 k2 k3 k4 k5 k6 z1
  generalize w0.setCell ⟨g, 1, none⟩ (.int .i64 h.prio) = w1 at *
  obtain ⟨i0, i1, i2, i3, i4, i5⟩ := K61.out.six
  obtain ⟨k0, k1, k2, k3, k4, k5, k6⟩ := K51.out.seven
  have z2 := K51.out.frozen 2
  have hl1 := K61.out.lt
  have hl5 := K51.out.lt
  go_upto_region 3 with (go_at_call 38; refine (router_any h.dr HH.out.d D1.out).mono ?_; rintro e2 wq ⟨⟨d, rfl, hd⟩, hq⟩; rw [hq]; clear hq wq; rw [HO.out.1, hd HO.out.1]; clear hd)
  have K52 := Lib.hid (show Blk (w1.setCell ⟨g, 2, none⟩ (.int .i64 (whoI h.dr))) g 47 #[.int .i64 x.id, .int .i64 h.prio, .int .i64 (whoI h.dr), .int .i64 x.bdr, .int .i64 x.st, .bool x.two, .int .i64 x.tick] from K51.out.put 2 _)
  have K62 := Lib.hid (K61.out.far (p := ⟨g, 2, none⟩) (show g + 1 ≠ g by omega) (.int .i64 (whoI h.dr)))
  have K82 := Lib.hid (K81.out.far (p := ⟨g, 2, none⟩) (show g + 1 + 1 ≠ g by omega) (.int .i64 (whoI h.dr)))
  have D2 := Lib.hid (D1.out.far (a := ⟨g, 2, none⟩) NF.out (.int .i64 (whoI h.dr)))
  have R2 := Lib.hid (show Row .i64 (w1.setCell ⟨g, 2, none⟩ (.int .i64 (whoI h.dr))) g A n h.seen from R1.out.keep (fun q hq => World.cell?_setCell_other w1 _ _ _ (fun e => by rw [← e] at hq; exact Nat.lt_irrefl _ hq)))
  have B2 := Lib.hid (B1.out.setCell (p := ⟨g, 2, none⟩) (Nat.le_refl _) (.int .i64 (whoI h.dr)))
  clear K51 K61 K81 D1 R1 B1 hl1 hl5 i0 i1 i2 i3 i4 i5 k0 k1 k2 k3 k4 k5 k6 z2
  generalize w1.setCell ⟨g, 2, none⟩ (.int .i64 (whoI h.dr)) = w2 at *
  obtain ⟨i0, i1, i2, i3, i4, i5⟩ := K62.out.six
  obtain ⟨k0, k1, k2, k3, k4, k5, k6⟩ := K52.out.seven
  have z3 := K52.out.frozen 3
  have hl1 := K62.out.lt
  have hl5 := K52.out.lt
  go_upto_region 4 with (go_at_call 38; refine (router_any h.bdr HH.out.b D2.out).mono ?_; rintro e2 wq ⟨⟨d, rfl, hd⟩, hq⟩; rw [hq]; clear hq wq; rw [HO.out.2, hd HO.out.2]; clear hd)
  have K53 := Lib.hid (show Blk (w2.setCell ⟨g, 3, none⟩ (.int .i64 (whoI h.bdr))) g 47 #[.int .i64 x.id, .int .i64 h.prio, .int .i64 (whoI h.dr), .int .i64 (whoI h.bdr), .int .i64 x.st, .bool x.two, .int .i64 x.tick] from K52.out.put 3 _)
  have K63 := Lib.hid (K62.out.far (p := ⟨g, 3, none⟩) (show g + 1 ≠ g by omega) (.int .i64 (whoI h.bdr)))
  have K83 := Lib.hid (K82.out.far (p := ⟨g, 3, none⟩) (show g + 1 + 1 ≠ g by omega) (.int .i64 (whoI h.bdr)))
  have D3 := Lib.hid (D2.out.far (a := ⟨g, 3, none⟩) NF.out (.int .i64 (whoI h.bdr)))
  have R3 := Lib.hid (show Row .i64 (w2.setCell ⟨g, 3, none⟩ (.int .i64 (whoI h.bdr))) g A n h.seen from R2.out.keep (fun q hq => World.cell?_setCell_other w2 _ _ _ (fun e => by rw [← e] at hq; exact Nat.lt_irrefl _ hq)))
  have B3 := Lib.hid (B2.out.setCell (p := ⟨g, 3, none⟩) (Nat.le_refl _) (.int .i64 (whoI h.bdr)))
  clear K52 K62 K82 D2 R2 B2 hl1 hl5 i0 i1 i2 i3 i4 i5 k0 k1 k2 k3 k4 k5 k6 z3
  generalize w2.setCell ⟨g, 3, none⟩ (.int .i64 (whoI h.bdr)) = w3 at *
  have NP := Lib.hid (show p ≠ g from fun e => NF.out (e ▸ D3.out.fp))
  have hS := And.intro K63.out.drew.six.2.2.2.2.2 D3.out.drew.cells.1
  refine wp_region_noPanic ?_
  refine wp_region_held_drew (S := fun w' => w'.cell? ⟨g + 1, 5, none⟩ = some (.slice A n c) ∧ w'.cell? ⟨p, 0, none⟩ = some (.int .i64 sf)) (by kernel_rfl) hS (fun hHeld => ?_)
  change wpAnyH _ _ _ _ _ _ _ _ w3.drew
  have K54 := Lib.hid K53.out.drew
  have K64 := Lib.hid K63.out.drew
  have K84 := Lib.hid K83.out.drew
  have R4 := Lib.hid (R3.out.drew)
  have B4 := Lib.hid (show Below g w w3.drew from below_drewN B3.out 1)
  clear hS K53 K63 K83 D3 R3 B3
  generalize w3.drew = w4 at *
  refine wpAnyH_take (i := 0) (oi := { dst := Option.some 28, op := Go.Op.fieldAddr 32 (Go.Operand.tmp 6) 5, type := 0, pos := "peers.go:119", after := #[], guard := Option.none }) (v := ?_) rfl (by kernel_rfl) (by kernel_rfl) (by kernel_rfl) (fun _ _ _ h => h) (Or.inl ⟨by rfl, ?_⟩) hHeld ?_
  rotate_left 1
  · intro ww hSw
    try dsimp only at hSw
    go_simp
    try with_reducible rfl
  try simp only [Act.put, List.setIfInBounds_toArray, List.set_cons_zero, List.set_cons_succ]
  refine wpAnyH_take (i := 1) (oi := { dst := Option.some 29, op := Go.Op.load 30 (Go.Operand.tmp 28), type := 30, pos := "peers.go:119", after := #[{ on := 0, ground := Go.Ground.data }], guard := Option.none }) (v := ?_) rfl (by kernel_rfl) (by kernel_rfl) (by kernel_rfl) (fun _ _ _ h => h) (Or.inl ⟨by rfl, ?_⟩) hHeld ?_
  rotate_left 1
  · intro ww hSw
    try dsimp only at hSw
    go_simp
    try with_reducible rfl
  try simp only [Act.put, List.setIfInBounds_toArray, List.set_cons_zero, List.set_cons_succ]
  refine wpAnyH_take (i := 2) (oi := { dst := Option.some 30, op := Go.Op.move (Go.Operand.tmp 0), type := 24, pos := "peers.go:119", after := #[], guard := Option.none }) (v := ?_) rfl (by kernel_rfl) (by kernel_rfl) (by kernel_rfl) (fun _ _ _ h => h) (Or.inl ⟨by rfl, ?_⟩) hHeld ?_
  rotate_left 1
  · intro ww hSw
    try dsimp only at hSw
    go_simp
    try with_reducible rfl
  try simp only [Act.put, List.setIfInBounds_toArray, List.set_cons_zero, List.set_cons_succ]
  refine wpAnyH_take (i := 3) (oi := { dst := Option.some 31, op := Go.Op.nilCheck (Go.Operand.tmp 30), type := 0, pos := "peers.go:119", after := #[{ on := 2, ground := Go.Ground.data }], guard := Option.none }) (v := ?_) rfl (by kernel_rfl) (by kernel_rfl) (by kernel_rfl) (fun _ _ _ h => h) (Or.inl ⟨by rfl, ?_⟩) hHeld ?_
  rotate_left 1
  · intro ww hSw
    try dsimp only at hSw
    go_simp
    try with_reducible rfl
  try simp only [Act.put, List.setIfInBounds_toArray, List.set_cons_zero, List.set_cons_succ]
  refine wpAnyH_take (i := 4) (oi := { dst := Option.some 32, op := Go.Op.fieldAddr 57 (Go.Operand.tmp 31) 0, type := 0, pos := "peers.go:119", after := #[{ on := 3, ground := Go.Ground.data }], guard := Option.none }) (v := ?_) rfl (by kernel_rfl) (by kernel_rfl) (by kernel_rfl) (fun _ _ _ h => h) (Or.inl ⟨by rfl, ?_⟩) hHeld ?_
  rotate_left 1
  · intro ww hSw
    try dsimp only at hSw
    go_simp
    try with_reducible rfl
  try simp only [Act.put, List.setIfInBounds_toArray, List.set_cons_zero, List.set_cons_succ]
  refine wpAnyH_take (i := 5) (oi := { dst := Option.some 33, op := Go.Op.load 3 (Go.Operand.tmp 32), type := 3, pos := "peers.go:119", after := #[{ on := 4, ground := Go.Ground.data }], guard := Option.none }) (v := ?_) rfl (by kernel_rfl) (by kernel_rfl) (by kernel_rfl) (fun _ _ _ h => h) (Or.inl ⟨by rfl, ?_⟩) hHeld ?_
  rotate_left 1
  · intro ww hSw
    try dsimp only at hSw
    go_simp
    try with_reducible rfl
  try simp only [Act.put, List.setIfInBounds_toArray, List.set_cons_zero, List.set_cons_succ]
  refine wpAnyH_ready (rs := [6]) (by kernel_rfl) (by simp) ?_
  refine AllReadyH.cons (o := { dst := Option.some 34, op := Go.Op.call { callee := Go.Callee.value (Go.Operand.func 39), args := #[Go.Operand.tmp 29, Go.Operand.tmp 33], argTypes := #[30, 3] }, type := 4, pos := "peers.go:119", after := #[{ on := 1, ground := Go.Ground.data }, { on := 5, ground := Go.Ground.data }], guard := Option.none }) rfl (fun K hK => ?_) AllReadyH.nil
  go_simp
  refine (contains_any sf R4.out hn).mono ?_
  rintro ea wa ⟨rfl, hq⟩
  rw [hq, HV.out]
  clear hq wa
  refine hK.out _ _ (And.intro K64.out.six.2.2.2.2.2 hHeld.2) (fun hHeld => ?_)
  clear hK K
  try simp only [Act.put, List.setIfInBounds_toArray, List.set_cons_zero, List.set_cons_succ]
  refine wpAnyH_take (i := 7) (oi := { dst := Option.some 35, op := Go.Op.fieldAddr 47 (Go.Operand.tmp 5) 5, type := 0, pos := "peers.go:119", after := #[{ on := 0, ground := Go.Ground.phase }, { on := 1, ground := Go.Ground.phase }, { on := 2, ground := Go.Ground.phase }, { on := 3, ground := Go.Ground.phase }, { on := 4, ground := Go.Ground.phase }, { on := 5, ground := Go.Ground.phase }, { on := 6, ground := Go.Ground.phase }], guard := Option.none }) (v := ?_) rfl (by kernel_rfl) (by kernel_rfl) (by kernel_rfl) (fun _ _ _ h => h) (Or.inl ⟨by rfl, ?_⟩) hHeld ?_
  rotate_left 1
  · intro ww hSw
    try dsimp only at hSw
    go_simp
    try with_reducible rfl
  try simp only [Act.put, List.setIfInBounds_toArray, List.set_cons_zero, List.set_cons_succ]
  refine wpAnyH_ready (rs := [8]) (by kernel_rfl) (by simp) ?_
  refine AllReadyH.cons (o := { dst := Option.none, op := Go.Op.store 4 (Go.Operand.tmp 35) (Go.Operand.tmp 34), type := 0, pos := "peers.go:119", after := #[{ on := 7, ground := Go.Ground.data }, { on := 6, ground := Go.Ground.data }, { on := 6, ground := Go.Ground.chain }, { on := 0, ground := Go.Ground.phase }, { on := 1, ground := Go.Ground.phase }, { on := 2, ground := Go.Ground.phase }, { on := 3, ground := Go.Ground.phase }, { on := 4, ground := Go.Ground.phase }, { on := 5, ground := Go.Ground.phase }, { on := 6, ground := Go.Ground.phase }], guard := Option.none }) rfl (fun K hK => ?_) AllReadyH.nil
  have z5 := K54.out.frozen 5
  have k5 := K54.out.seven.2.2.2.2.2.1
  go_simp
  refine hK.out _ _ (And.intro ((World.cell?_setCell_other w4 _ _ _ (by simp)).trans hHeld.1) ((World.cell?_setCell_other w4 _ _ _ (fun e => NP.out (by injection e with e1; exact e1.symm))).trans hHeld.2)) (fun hHeld => ?_)
  clear z5 k5
  clear hK K
  try simp only [Act.put, List.setIfInBounds_toArray, List.set_cons_zero, List.set_cons_succ]
  refine wpAnyH_done (by kernel_rfl) ?_ _
  refine NoPanic.normal ?_
  clear hHeld
  have K55 := Lib.hid (show Blk (w4.setCell ⟨g, 5, none⟩ (.bool v)) g 47 #[.int .i64 x.id, .int .i64 h.prio, .int .i64 (whoI h.dr), .int .i64 (whoI h.bdr), .int .i64 x.st, .bool v, .int .i64 x.tick] from K54.out.put 5 _)
  have K85 := Lib.hid (K84.out.far (p := ⟨g, 5, none⟩) (show g + 1 + 1 ≠ g by omega) (.bool v))
  have B5 := Lib.hid (B4.out.setCell (p := ⟨g, 5, none⟩) (Nat.le_refl _) (.bool v))
  clear K54 K64 K84 R4 B4
  generalize w4.setCell ⟨g, 5, none⟩ (.bool v) = w5 at *
  have z6 := K55.out.frozen 6
  have k6 := K55.out.seven.2.2.2.2.2.2
  have hl5 := K55.out.lt
  go_step
  go_upto_region 6 with fail
  have K56 := Lib.hid (show Blk (w5.setCell ⟨g, 6, none⟩ (.int .i64 now)) g 47 #[.int .i64 x.id, .int .i64 h.prio, .int .i64 (whoI h.dr), .int .i64 (whoI h.bdr), .int .i64 x.st, .bool v, .int .i64 now] from K55.out.put 6 _)
  have K86 := Lib.hid (K85.out.far (p := ⟨g, 6, none⟩) (show g + 1 + 1 ≠ g by omega) (.int .i64 now))
  have B6 := Lib.hid (B5.out.setCell (p := ⟨g, 6, none⟩) (Nat.le_refl _) (.int .i64 now))
  clear K55 K85 B5 z6 k6 hl5
  generalize w5.setCell ⟨g, 6, none⟩ (.int .i64 now) = w6 at *
  have hl6 := K86.out.lt
  go_wp2_with (first
    | (refine wpList_load_pe (y := ⟨x.id, h.prio, whoI h.dr, whoI h.bdr, x.st, v, now⟩) (by rfl) _ rfl (by rfl) K56.out.range7 ?_)
    | (refine wpList_store_pe ⟨x.id, h.prio, whoI h.dr, whoI h.bdr, x.st, v, now⟩ rfl _ _ rfl rfl rfl K86.out ?_; intro w7 HK7 HC7))
  have B7 := Lib.hid (show Below w.heap.size w w7 by rw [HG.out]; exact B6.out.trans (Chg.to_below HC7.out (fun k hk => by rw [hk]; omega) (Nat.le_of_lt (Nat.lt_trans (show g < g + 1 + 1 by omega) K86.out.lt))))
  obtain ⟨k0, k1, k2, k3, k4, k5, k6⟩ := HK7.out.seven
  refine bodyPost_ret (v := .agg #[.int .i64 x.id, .int .i64 h.prio, .int .i64 (whoI h.dr), .int .i64 (whoI h.bdr), .int .i64 x.st, .bool v, .int .i64 now]) (by simp [results, Try.results23, go_sem, *]) rfl ?_
  refine ⟨?_, B7.out⟩
  rw [← HV.out]
  rfl
end Go.Proofs.Ytfapphndfgoknaa
