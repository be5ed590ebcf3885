/- The program's table of moves. No conditions. -/
import Derived.Test.YtedlkoecnnmihaaIg
namespace Go.Proofs.Ytedlkoecnnmihaa
open Go.RowKit
def upV (p : Nat) : Value := .func (.func 17) #[] #[.pointer (some ⟨p, 0, none⟩)]
def downV (p : Nat) : Value := .func (.func 20) #[] #[.pointer (some ⟨p, 0, none⟩)]
def elV (p q : Nat) : Value := .func (.func 21) #[] #[.pointer (some ⟨p, 0, none⟩), .pointer (some ⟨q, 0, none⟩)]
theorem wf_dec {a : Int} : wf64 a ↔ (-9223372036854775808 ≤ a ∧ a ≤ 9223372036854775807) := Iff.rfl
instance (a : Int) : Decidable (wf64 a) := inferInstanceAs (Decidable (_ ∧ _))
def tblM (p q : Nat) (s : Int) : List (Nat × (Int × Int) × Value) := [(3, (0, 0), upV p), (6, (1, 2), elV p q), (9, (1, 3), elV p q), (12, (2, 4), elV p q), (15, (3, 4), elV p q), (18, (4, 4), elV p q), (23, (s, 1), downV p)]
theorem tblM_keys (p q : Nat) (s : Int) : (tblM p q s).Pairwise fun x y => x.2.1 ≠ y.2.1 := by
  simp [tblM]
/-- Block m alone has turned; it lies above B. -/
theorem below_turned {B m : Nat} {w0 w w' : World} (h : Below B w0 w) (ht : w.mapTurned w' m) (hB : B ≤ m) : Below B w0 w' := by
  have hlt : m < w.heap.size := by
    obtain ⟨es, clock, es', clock', hb, _⟩ := ht
    exact (Array.getElem?_eq_some_iff.1 hb).1
  exact h.trans ⟨ht.grown.os, ht.grown.tape, ht.grown.output, ht.grown.size, fun k hk => ht.grown.block k (by omega) (fun e => by injection e with e; omega)⟩
theorem blk_turned {m g : Nat} {t : TypeId} {cs : Array Value} {w w' : World} (h : Blk w g t cs) (ht : w.mapTurned w' m) (hg : g ≠ m) : Blk w' g t cs := by
  obtain ⟨es, clock, es', clock', hb, rfl⟩ := ht
  exact (ChangeMaps.heap_setBlock_other hb _ hg).trans h
theorem MapF.congr {w : World} {b n : Nat} {f g : Int × Int → Option Value} (h : MapF w b n f) (e : ∀ k, f k = g k) : MapF w b n g := by
  rwa [show g = f from funext fun k => (e k).symm]
theorem MapF.le {w : World} {b n n' : Nat} {f : Int × Int → Option Value} (h : MapF w b n f) (hn : n ≤ n') : MapF w b n' f := by
  obtain ⟨D, ho, h2⟩ := h
  exact ⟨D, ho.mono hn, h2⟩
theorem tblM_nums (p q : Nat) (s : Int) : (tblM p q s).Pairwise fun x y => x.1 ≠ y.1 := by
  simp [tblM]

set_option maxRecDepth 8000 in
set_option maxHeartbeats 8000000 in
theorem moves_any {w : World} {A : Option Addr} {n c : Nat} (i : If) (hst : wf64 i.state) :
    Calls Try.prog 14 #[.agg #[.int .i64 i.self, .int .i64 i.prio, .int .i64 i.state, .int .i64 i.dr, .int .i64 i.bdr], .slice A n c] w fun e w' => ∃ m p q, e = .returned (.map (some m)) ∧ Hid (Blk w' p 23 #[.int .i64 i.self, .int .i64 i.prio, .int .i64 i.state, .int .i64 i.dr, .int .i64 i.bdr]) ∧ Hid (Blk w' q 24 #[.slice A n c]) ∧ Hid (MapF w' m 7 (tblF (tblM p q i.state) [])) ∧ Hid (Below w.heap.size w w') := by
  have B0 := Lib.hid (below_new2 w (.cells #[.int .i64 i.self, .int .i64 i.prio, .int .i64 i.state, .int .i64 i.dr, .int .i64 i.bdr] 23) (.cells #[.slice A n c] 24))
  have K0 := Lib.hid (blk_new07 w #[.int .i64 i.self, .int .i64 i.prio, .int .i64 i.state, .int .i64 i.dr, .int .i64 i.bdr] 23 (.cells #[.slice A n c] 24))
  have Q0 := Lib.hid (blk_new1 w (.cells #[.int .i64 i.self, .int .i64 i.prio, .int .i64 i.state, .int .i64 i.dr, .int .i64 i.bdr] 23) 24 #[.slice A n c])
  go_enter Try.func14, Try.ntmps14
  go_wp2_with fail

  obtain ⟨k0, k1, k2, k3, k4⟩ := K0.out.five
  generalize (w.alloc (.cells #[.int .i64 i.self, .int .i64 i.prio, .int .i64 i.state, .int .i64 i.dr, .int .i64 i.bdr] 23)).alloc (.cells #[.slice A n c] 24) = w0 at *
  generalize hq : w.heap.size + 1 = q at *
  generalize hp : w.heap.size = p at *
  have K1 := Lib.hid K0.out.drew
  have Q1 := Lib.hid Q0.out.drew
  have B1 := Lib.hid (show Below p w w0.drew from below_drewN B0.out 1)
  have s2 : w0.drew.cell? ⟨p, 2, none⟩ = some (.int .i64 i.state) := K1.out.five.2.2.1
  clear k0 k1 k2 k3 k4 K0 Q0 B0

  refine wp_region_noPanic ?_
  refine wp_region_held_drew (S := fun w' => w'.cell? ⟨p, 2, none⟩ = some (.int .i64 i.state)) (by kernel_rfl) s2 (fun hHeld => ?_)

  change wpAnyH _ _ _ _ _ _ _ _ w0.drew
  generalize w0.drew = w1 at *

  refine wpAnyH_take (i := 1) (oi := { dst := Option.some 12, op := Go.Op.build 44 #[(0, Go.Operand.const (Go.Value.int Go.IntKind.i64 0)), (1, Go.Operand.const (Go.Value.int Go.IntKind.i64 0))], type := 44, pos := "iface.go:37", after := #[], guard := Option.none }) (v := ?_) rfl (by kernel_rfl) (by kernel_rfl) (by kernel_rfl) (fun _ _ _ h => h) (Or.inl ⟨by rfl, ?_⟩) hHeld ?_
  rotate_left 1
  · intro ww hSw
    try dsimp only at hSw
    go_simp
    try with_reducible rfl
  try simp only [Act.put, List.setIfInBounds_toArray, List.set_cons_zero, List.set_cons_succ]

  refine wpAnyH_take (i := 2) (oi := { dst := Option.some 13, op := Go.Op.move (Go.Operand.tmp 5), type := 39, pos := "iface.go:37", after := #[], guard := Option.none }) (v := ?_) rfl (by kernel_rfl) (by kernel_rfl) (by kernel_rfl) (fun _ _ _ h => h) (Or.inl ⟨by rfl, ?_⟩) hHeld ?_
  rotate_left 1
  · intro ww hSw
    try dsimp only at hSw
    go_simp
    try with_reducible rfl
  try simp only [Act.put, List.setIfInBounds_toArray, List.set_cons_zero, List.set_cons_succ]

  refine wpAnyH_take (i := 4) (oi := { dst := Option.some 14, op := Go.Op.build 44 #[(0, Go.Operand.const (Go.Value.int Go.IntKind.i64 1)), (1, Go.Operand.const (Go.Value.int Go.IntKind.i64 2))], type := 44, pos := "iface.go:37", after := #[], guard := Option.none }) (v := ?_) rfl (by kernel_rfl) (by kernel_rfl) (by kernel_rfl) (fun _ _ _ h => h) (Or.inl ⟨by rfl, ?_⟩) hHeld ?_
  rotate_left 1
  · intro ww hSw
    try dsimp only at hSw
    go_simp
    try with_reducible rfl
  try simp only [Act.put, List.setIfInBounds_toArray, List.set_cons_zero, List.set_cons_succ]

  refine wpAnyH_take (i := 5) (oi := { dst := Option.some 15, op := Go.Op.move (Go.Operand.tmp 7), type := 39, pos := "iface.go:37", after := #[], guard := Option.none }) (v := ?_) rfl (by kernel_rfl) (by kernel_rfl) (by kernel_rfl) (fun _ _ _ h => h) (Or.inl ⟨by rfl, ?_⟩) hHeld ?_
  rotate_left 1
  · intro ww hSw
    try dsimp only at hSw
    go_simp
    try with_reducible rfl
  try simp only [Act.put, List.setIfInBounds_toArray, List.set_cons_zero, List.set_cons_succ]

  refine wpAnyH_take (i := 7) (oi := { dst := Option.some 16, op := Go.Op.build 44 #[(0, Go.Operand.const (Go.Value.int Go.IntKind.i64 1)), (1, Go.Operand.const (Go.Value.int Go.IntKind.i64 3))], type := 44, pos := "iface.go:37", after := #[], guard := Option.none }) (v := ?_) rfl (by kernel_rfl) (by kernel_rfl) (by kernel_rfl) (fun _ _ _ h => h) (Or.inl ⟨by rfl, ?_⟩) hHeld ?_
  rotate_left 1
  · intro ww hSw
    try dsimp only at hSw
    go_simp
    try with_reducible rfl
  try simp only [Act.put, List.setIfInBounds_toArray, List.set_cons_zero, List.set_cons_succ]

  refine wpAnyH_take (i := 8) (oi := { dst := Option.some 17, op := Go.Op.move (Go.Operand.tmp 7), type := 39, pos := "iface.go:37", after := #[], guard := Option.none }) (v := ?_) rfl (by kernel_rfl) (by kernel_rfl) (by kernel_rfl) (fun _ _ _ h => h) (Or.inl ⟨by rfl, ?_⟩) hHeld ?_
  rotate_left 1
  · intro ww hSw
    try dsimp only at hSw
    go_simp
    try with_reducible rfl
  try simp only [Act.put, List.setIfInBounds_toArray, List.set_cons_zero, List.set_cons_succ]

  refine wpAnyH_take (i := 10) (oi := { dst := Option.some 18, op := Go.Op.build 44 #[(0, Go.Operand.const (Go.Value.int Go.IntKind.i64 2)), (1, Go.Operand.const (Go.Value.int Go.IntKind.i64 4))], type := 44, pos := "iface.go:37", after := #[], guard := Option.none }) (v := ?_) rfl (by kernel_rfl) (by kernel_rfl) (by kernel_rfl) (fun _ _ _ h => h) (Or.inl ⟨by rfl, ?_⟩) hHeld ?_
  rotate_left 1
  · intro ww hSw
    try dsimp only at hSw
    go_simp
    try with_reducible rfl
  try simp only [Act.put, List.setIfInBounds_toArray, List.set_cons_zero, List.set_cons_succ]

  refine wpAnyH_take (i := 11) (oi := { dst := Option.some 19, op := Go.Op.move (Go.Operand.tmp 7), type := 39, pos := "iface.go:37", after := #[], guard := Option.none }) (v := ?_) rfl (by kernel_rfl) (by kernel_rfl) (by kernel_rfl) (fun _ _ _ h => h) (Or.inl ⟨by rfl, ?_⟩) hHeld ?_
  rotate_left 1
  · intro ww hSw
    try dsimp only at hSw
    go_simp
    try with_reducible rfl
  try simp only [Act.put, List.setIfInBounds_toArray, List.set_cons_zero, List.set_cons_succ]

  refine wpAnyH_take (i := 13) (oi := { dst := Option.some 20, op := Go.Op.build 44 #[(0, Go.Operand.const (Go.Value.int Go.IntKind.i64 3)), (1, Go.Operand.const (Go.Value.int Go.IntKind.i64 4))], type := 44, pos := "iface.go:37", after := #[], guard := Option.none }) (v := ?_) rfl (by kernel_rfl) (by kernel_rfl) (by kernel_rfl) (fun _ _ _ h => h) (Or.inl ⟨by rfl, ?_⟩) hHeld ?_
  rotate_left 1
  · intro ww hSw
    try dsimp only at hSw
    go_simp
    try with_reducible rfl
  try simp only [Act.put, List.setIfInBounds_toArray, List.set_cons_zero, List.set_cons_succ]

  refine wpAnyH_take (i := 14) (oi := { dst := Option.some 21, op := Go.Op.move (Go.Operand.tmp 7), type := 39, pos := "iface.go:37", after := #[], guard := Option.none }) (v := ?_) rfl (by kernel_rfl) (by kernel_rfl) (by kernel_rfl) (fun _ _ _ h => h) (Or.inl ⟨by rfl, ?_⟩) hHeld ?_
  rotate_left 1
  · intro ww hSw
    try dsimp only at hSw
    go_simp
    try with_reducible rfl
  try simp only [Act.put, List.setIfInBounds_toArray, List.set_cons_zero, List.set_cons_succ]

  refine wpAnyH_take (i := 16) (oi := { dst := Option.some 22, op := Go.Op.build 44 #[(0, Go.Operand.const (Go.Value.int Go.IntKind.i64 4)), (1, Go.Operand.const (Go.Value.int Go.IntKind.i64 4))], type := 44, pos := "iface.go:37", after := #[], guard := Option.none }) (v := ?_) rfl (by kernel_rfl) (by kernel_rfl) (by kernel_rfl) (fun _ _ _ h => h) (Or.inl ⟨by rfl, ?_⟩) hHeld ?_
  rotate_left 1
  · intro ww hSw
    try dsimp only at hSw
    go_simp
    try with_reducible rfl
  try simp only [Act.put, List.setIfInBounds_toArray, List.set_cons_zero, List.set_cons_succ]

  refine wpAnyH_take (i := 17) (oi := { dst := Option.some 23, op := Go.Op.move (Go.Operand.tmp 7), type := 39, pos := "iface.go:37", after := #[], guard := Option.none }) (v := ?_) rfl (by kernel_rfl) (by kernel_rfl) (by kernel_rfl) (fun _ _ _ h => h) (Or.inl ⟨by rfl, ?_⟩) hHeld ?_
  rotate_left 1
  · intro ww hSw
    try dsimp only at hSw
    go_simp
    try with_reducible rfl
  try simp only [Act.put, List.setIfInBounds_toArray, List.set_cons_zero, List.set_cons_succ]

  refine wpAnyH_take (i := 19) (oi := { dst := Option.some 24, op := Go.Op.fieldAddr 23 (Go.Operand.tmp 2) 2, type := 0, pos := "iface.go:37", after := #[], guard := Option.none }) (v := ?_) rfl (by kernel_rfl) (by kernel_rfl) (by kernel_rfl) (fun _ _ _ h => h) (Or.inl ⟨by rfl, ?_⟩) hHeld ?_
  rotate_left 1
  · intro ww hSw
    try dsimp only at hSw
    go_simp
    try with_reducible rfl
  try simp only [Act.put, List.setIfInBounds_toArray, List.set_cons_zero, List.set_cons_succ]

  refine wpAnyH_take (i := 20) (oi := { dst := Option.some 25, op := Go.Op.load 3 (Go.Operand.tmp 24), type := 3, pos := "iface.go:37", after := #[{ on := 19, ground := Go.Ground.data }], guard := Option.none }) (v := ?_) rfl (by kernel_rfl) (by kernel_rfl) (by kernel_rfl) (fun _ _ _ h => h) (Or.inl ⟨by rfl, ?_⟩) hHeld ?_
  rotate_left 1
  · intro ww hSw
    try dsimp only at hSw
    go_simp
    try with_reducible rfl
  try simp only [Act.put, List.setIfInBounds_toArray, List.set_cons_zero, List.set_cons_succ]

  refine wpAnyH_take (i := 21) (oi := { dst := Option.some 26, op := Go.Op.build 44 #[(0, Go.Operand.tmp 25), (1, Go.Operand.const (Go.Value.int Go.IntKind.i64 1))], type := 44, pos := "iface.go:37", after := #[{ on := 20, ground := Go.Ground.data }], guard := Option.none }) (v := ?_) rfl (by kernel_rfl) (by kernel_rfl) (by kernel_rfl) (fun _ _ _ h => h) (Or.inl ⟨by rfl, ?_⟩) hHeld ?_
  rotate_left 1
  · intro ww hSw
    try dsimp only at hSw
    go_simp
    try with_reducible rfl
  try simp only [Act.put, List.setIfInBounds_toArray, List.set_cons_zero, List.set_cons_succ]

  refine wpAnyH_take (i := 22) (oi := { dst := Option.some 27, op := Go.Op.move (Go.Operand.tmp 6), type := 39, pos := "iface.go:37", after := #[], guard := Option.none }) (v := ?_) rfl (by kernel_rfl) (by kernel_rfl) (by kernel_rfl) (fun _ _ _ h => h) (Or.inl ⟨by rfl, ?_⟩) hHeld ?_
  rotate_left 1
  · intro ww hSw
    try dsimp only at hSw
    go_simp
    try with_reducible rfl
  try simp only [Act.put, List.setIfInBounds_toArray, List.set_cons_zero, List.set_cons_succ]

  have hmm := @run_makeMap Try.prog
  refine wpAnyH_ready (rs := [0]) (by kernel_rfl) (by simp) ?_
  refine AllReadyH.cons (o := { dst := Option.some 11, op := Go.Op.makeMap 41 none, type := 41, pos := "iface.go:37", after := #[], guard := Option.none }) rfl (fun K hK => ?_) AllReadyH.nil
  go_simp
  refine hK.out _ _ ((K1.out.alloc (.map #[] 0)).five.2.2.1) (fun hHeld => ?_)
  clear hK K hmm
  have hm : w1.heap.size = w1.heap.size := rfl
  have HM := Lib.hid (MapF.made w1)
  have K2 := Lib.hid (K1.out.alloc (.map #[] 0))
  have Q2 := Lib.hid (Q1.out.alloc (.map #[] 0))
  have B2 := Lib.hid (B1.out.alloc (by have := K1.out.lt; omega) (.map #[] 0))
  have hpm := K1.out.lt
  have hqm := Q1.out.lt
  clear K1 Q1 B1 s2 hm
  generalize w1.alloc (.map #[] 0) = w2 at *
  generalize w1.heap.size = m at *
  try simp only [Act.put, List.setIfInBounds_toArray, List.set_cons_zero, List.set_cons_succ]
  refine wpAnyH_each (S := fun w' => w'.cell? ⟨p, 2, none⟩ = some (.int .i64 i.state)) (js := [3, 6, 9, 12, 15, 18, 23]) (base := #[true, true, true, false, true, true, false, true, true, false, true, true, false, true, true, false, true, true, false, true, true, true, true, false, false, false]) (f := 2) (fun r wx => Hid (Blk wx p 23 #[.int .i64 i.self, .int .i64 i.prio, .int .i64 i.state, .int .i64 i.dr, .int .i64 i.bdr]) ∧ Hid (Blk wx q 24 #[.slice A n c]) ∧ Hid (Below p w wx) ∧ ∃ k, k + r.length = 7 ∧ Hid (MapF wx m k (tblF (tblM p q i.state) r))) (by kernel_rfl) ?_ ?_ 7 _ w2 rfl (self_parts _) hHeld ⟨K2, Q2, B2, 0, rfl, Lib.hid (HM.out.congr fun k => by simp [tblF, tblM])⟩
  · clear hHeld HM K2 Q2 B2
    intro r j hj hlen K wx hS hI hK
    obtain ⟨K2, Q2, B2, k, hk, HM⟩ := hI
    have hk7 : k < maxLen := by unfold maxLen; omega
    have hgo : ∀ (kv : Int × Int) (v : Value), (j, kv, v) ∈ tblM p q i.state → wf64 kv.1 → wf64 kv.2 → ∃ w', (Instr.mapUpdate 41 (.map (some m)) (.agg #[.int .i64 kv.1, .int .i64 kv.2]) v).run Try.prog wx = .ok () w' ∧ w'.cell? ⟨p, 2, none⟩ = some (.int .i64 i.state) ∧ Hid (Blk w' p 23 #[.int .i64 i.self, .int .i64 i.prio, .int .i64 i.state, .int .i64 i.dr, .int .i64 i.bdr]) ∧ Hid (Blk w' q 24 #[.slice A n c]) ∧ Hid (Below p w w') ∧ ∃ k', k' + (r.filter (· != j)).length = 7 ∧ Hid (MapF w' m k' (tblF (tblM p q i.state) (r.filter (· != j)))) := by
      intro kv v ht h1 h2
      obtain ⟨w', e1, e2, e3⟩ := HM.out.put hk7 h1 h2 v
      have K3 := blk_turned K2.out e3 (by omega)
      exact ⟨w', e1, K3.five.2.2.1, Lib.hid K3, Lib.hid (blk_turned Q2.out e3 (by omega)), Lib.hid (below_turned B2.out e3 (by omega)), k + 1, by omega, Lib.hid (e2.congr fun k => (tbl_put (tblM_keys p q i.state) (tblM_nums p q i.state) ht r k).symm)⟩
    simp only [List.mem_cons, List.not_mem_nil, or_false] at hj
    rcases hj with rfl | rfl | rfl | rfl | rfl | rfl | rfl

    · obtain ⟨w', e1, e2⟩ := hgo (0, 0) (upV p) (by simp [tblM]) (by decide) (show wf64 0 by decide)
      exact wpOp_insert (o := { dst := Option.none, op := Go.Op.insert 41 (Go.Operand.tmp 11) (Go.Operand.tmp 12) (Go.Operand.tmp 13), type := 0, pos := "iface.go:37", after := #[{ on := 0, ground := Go.Ground.data }, { on := 1, ground := Go.Ground.data }, { on := 2, ground := Go.Ground.data }], guard := Option.none }) rfl rfl rfl rfl e1 (hK w' e2.1 e2.2)

    · obtain ⟨w', e1, e2⟩ := hgo (1, 2) (elV p q) (by simp [tblM]) (by decide) (show wf64 2 by decide)
      exact wpOp_insert (o := { dst := Option.none, op := Go.Op.insert 41 (Go.Operand.tmp 11) (Go.Operand.tmp 14) (Go.Operand.tmp 15), type := 0, pos := "iface.go:37", after := #[{ on := 0, ground := Go.Ground.data }, { on := 4, ground := Go.Ground.data }, { on := 5, ground := Go.Ground.data }], guard := Option.none }) rfl rfl rfl rfl e1 (hK w' e2.1 e2.2)

    · obtain ⟨w', e1, e2⟩ := hgo (1, 3) (elV p q) (by simp [tblM]) (by decide) (show wf64 3 by decide)
      exact wpOp_insert (o := { dst := Option.none, op := Go.Op.insert 41 (Go.Operand.tmp 11) (Go.Operand.tmp 16) (Go.Operand.tmp 17), type := 0, pos := "iface.go:37", after := #[{ on := 0, ground := Go.Ground.data }, { on := 7, ground := Go.Ground.data }, { on := 8, ground := Go.Ground.data }], guard := Option.none }) rfl rfl rfl rfl e1 (hK w' e2.1 e2.2)

    · obtain ⟨w', e1, e2⟩ := hgo (2, 4) (elV p q) (by simp [tblM]) (by decide) (show wf64 4 by decide)
      exact wpOp_insert (o := { dst := Option.none, op := Go.Op.insert 41 (Go.Operand.tmp 11) (Go.Operand.tmp 18) (Go.Operand.tmp 19), type := 0, pos := "iface.go:37", after := #[{ on := 0, ground := Go.Ground.data }, { on := 10, ground := Go.Ground.data }, { on := 11, ground := Go.Ground.data }], guard := Option.none }) rfl rfl rfl rfl e1 (hK w' e2.1 e2.2)

    · obtain ⟨w', e1, e2⟩ := hgo (3, 4) (elV p q) (by simp [tblM]) (by decide) (show wf64 4 by decide)
      exact wpOp_insert (o := { dst := Option.none, op := Go.Op.insert 41 (Go.Operand.tmp 11) (Go.Operand.tmp 20) (Go.Operand.tmp 21), type := 0, pos := "iface.go:37", after := #[{ on := 0, ground := Go.Ground.data }, { on := 13, ground := Go.Ground.data }, { on := 14, ground := Go.Ground.data }], guard := Option.none }) rfl rfl rfl rfl e1 (hK w' e2.1 e2.2)

    · obtain ⟨w', e1, e2⟩ := hgo (4, 4) (elV p q) (by simp [tblM]) (by decide) (show wf64 4 by decide)
      exact wpOp_insert (o := { dst := Option.none, op := Go.Op.insert 41 (Go.Operand.tmp 11) (Go.Operand.tmp 22) (Go.Operand.tmp 23), type := 0, pos := "iface.go:37", after := #[{ on := 0, ground := Go.Ground.data }, { on := 16, ground := Go.Ground.data }, { on := 17, ground := Go.Ground.data }], guard := Option.none }) rfl rfl rfl rfl e1 (hK w' e2.1 e2.2)

    · obtain ⟨w', e1, e2⟩ := hgo (i.state, 1) (downV p) (by simp [tblM]) hst (show wf64 1 by decide)
      exact wpOp_insert (o := { dst := Option.none, op := Go.Op.insert 41 (Go.Operand.tmp 11) (Go.Operand.tmp 26) (Go.Operand.tmp 27), type := 0, pos := "iface.go:37", after := #[{ on := 0, ground := Go.Ground.data }, { on := 21, ground := Go.Ground.data }, { on := 22, ground := Go.Ground.data }], guard := Option.none }) rfl rfl rfl rfl e1 (hK w' e2.1 e2.2)

  · clear hHeld HM K2 Q2 B2
    intro w3 hHeld hI
    obtain ⟨K3, Q3, B3, k, hk, HM⟩ := hI
    simp only [lstOf, List.foldl_cons, List.foldl_nil, List.contains_nil, Bool.false_eq_true, if_false, List.setIfInBounds_toArray, List.set_cons_zero, List.set_cons_succ]

    refine wpAnyH_take (i := 24) (oi := { dst := Option.some 28, op := Go.Op.move (Go.Operand.tmp 11), type := 41, pos := "iface.go:37", after := #[{ on := 0, ground := Go.Ground.data }, { on := 1, ground := Go.Ground.data }, { on := 2, ground := Go.Ground.data }, { on := 3, ground := Go.Ground.data }, { on := 4, ground := Go.Ground.data }, { on := 5, ground := Go.Ground.data }, { on := 6, ground := Go.Ground.data }, { on := 7, ground := Go.Ground.data }, { on := 8, ground := Go.Ground.data }, { on := 9, ground := Go.Ground.data }, { on := 10, ground := Go.Ground.data }, { on := 11, ground := Go.Ground.data }, { on := 12, ground := Go.Ground.data }, { on := 13, ground := Go.Ground.data }, { on := 14, ground := Go.Ground.data }, { on := 15, ground := Go.Ground.data }, { on := 16, ground := Go.Ground.data }, { on := 17, ground := Go.Ground.data }, { on := 18, ground := Go.Ground.data }, { on := 19, ground := Go.Ground.data }, { on := 20, ground := Go.Ground.data }, { on := 21, ground := Go.Ground.data }, { on := 22, ground := Go.Ground.data }, { on := 23, ground := Go.Ground.data }], guard := Option.none }) (v := ?_) rfl (by kernel_rfl) (by kernel_rfl) (by kernel_rfl) (fun _ _ _ h => h) (Or.inl ⟨by rfl, ?_⟩) hHeld ?_
    rotate_left 1
    · intro ww hSw
      try dsimp only at hSw
      go_simp
      try with_reducible rfl
    try simp only [Act.put, List.setIfInBounds_toArray, List.set_cons_zero, List.set_cons_succ]

    refine wpAnyH_take (i := 25) (oi := { dst := Option.some 4, op := Go.Op.assign (Go.Operand.tmp 28), type := 41, pos := "iface.go:37", after := #[{ on := 24, ground := Go.Ground.data }, { on := 0, ground := Go.Ground.phase }, { on := 1, ground := Go.Ground.phase }, { on := 2, ground := Go.Ground.phase }, { on := 3, ground := Go.Ground.phase }, { on := 4, ground := Go.Ground.phase }, { on := 5, ground := Go.Ground.phase }, { on := 6, ground := Go.Ground.phase }, { on := 7, ground := Go.Ground.phase }, { on := 8, ground := Go.Ground.phase }, { on := 9, ground := Go.Ground.phase }, { on := 10, ground := Go.Ground.phase }, { on := 11, ground := Go.Ground.phase }, { on := 12, ground := Go.Ground.phase }, { on := 13, ground := Go.Ground.phase }, { on := 14, ground := Go.Ground.phase }, { on := 15, ground := Go.Ground.phase }, { on := 16, ground := Go.Ground.phase }, { on := 17, ground := Go.Ground.phase }, { on := 18, ground := Go.Ground.phase }, { on := 19, ground := Go.Ground.phase }, { on := 20, ground := Go.Ground.phase }, { on := 21, ground := Go.Ground.phase }, { on := 22, ground := Go.Ground.phase }, { on := 23, ground := Go.Ground.phase }, { on := 24, ground := Go.Ground.phase }], guard := Option.none }) (v := ?_) rfl (by kernel_rfl) (by kernel_rfl) (by kernel_rfl) (fun _ _ _ h => h) (Or.inl ⟨by rfl, ?_⟩) hHeld ?_
    rotate_left 1
    · intro ww hSw
      try dsimp only at hSw
      go_simp
      try with_reducible rfl
    try simp only [Act.put, List.setIfInBounds_toArray, List.set_cons_zero, List.set_cons_succ]

    refine wpAnyH_done (by kernel_rfl) ?_ _
    refine NoPanic.normal ?_

    go_wp2
    go_ret
    exact ⟨m, p, q, rfl, K3, Q3, Lib.hid (HM.out.le (by simp at hk; omega)), hp ▸ B3⟩
end Go.Proofs.Ytedlkoecnnmihaa