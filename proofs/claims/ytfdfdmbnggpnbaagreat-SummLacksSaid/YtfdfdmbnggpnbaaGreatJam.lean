/- The library's contracts that the proofs lean on, laid at this program: tables of numbers and facts of the kernel. No conditions. · A database's map: what its keys read as; what it holds. No conditions. · A database's map: what it holds, and what its operations make of that. Conditions: keys of 64 bits. · Copies of lists of the call's own, and of a description. Conditions: at most 1000 items. · The program's database in memory: a map of descriptions; what it holds. Plain facts on such maps. No conditions. · The order of keys, as the program's compare tells it. No conditions but that a list of three numbers is what Or is handed. -/
import Derived.Shelf.SlSortCmp.WholeK
import Derived.Shelf.SlSortCmp.NoneTotal
import Derived.Shelf.SlicesG.Cmp
import Derived.Shelf.SlicesE.Clone
import Derived.Ground.SlsfProg
import Derived.Ground.SlgcProg
import Derived.Ground.SlgnProg
import Derived.Test.YtfdfdmbnggpnbaaGreatChecked
import Derived.Maps.RangeWalk
import Derived.DeepKeys4
import Derived.Deep.RegionHeld3
import Derived.Test.YtfdfdmbnggpnbaaGreatJal
namespace Go.Proofs.YtfdfdmbnggpnbaaGreat
open Go.Shelf
def cmpInt7_ren : Go.Shelf.Ren := ⟨fun | 5 => 46 | 7 => 66 | n => n, fun | 22 => 3 | 3 => 3 | 4 => 4 | n => n, fun | n => n⟩
theorem cmpInt7 : Go.Proofs.SlLaysC2.n5 Tryz.prog cmpInt7_ren := {
  mixed := by kernel_rfl
  f5 := ⟨Tryz.f46.name, by decide, Tryz.func46.trans (congrArg some (by kernel_rfl))⟩
  f7 := ⟨Tryz.f66.name, by decide, Tryz.func66.trans (congrArg some (by kernel_rfl))⟩
  t3 := Tryz.underlying3
  a3 := Tryz.isAgg3
  z3 := Tryz.sizeOf3
  v3 := Tryz.zeroValue3
  t4 := Tryz.underlying4
  a4 := Tryz.isAgg4
  z4 := Tryz.sizeOf4
  v4 := Tryz.zeroValue4
  t22 := Tryz.underlying3
  a22 := Tryz.isAgg3
  z22 := Tryz.sizeOf3
  v22 := Tryz.zeroValue3 }
def cloneLk7_ren : Go.Shelf.Ren := ⟨fun | 41 => 50 | n => n, fun | 22 => 41 | 23 => 86 | 4 => 4 | n => n, fun | n => n⟩
theorem cloneLk7 : Go.Proofs.SlLaysE0.n41 Tryz.prog cloneLk7_ren := {
  mixed := by kernel_rfl
  f41 := ⟨Tryz.f50.name, by decide, Tryz.func50.trans (congrArg some (by kernel_rfl))⟩
  t4 := Tryz.underlying4
  a4 := Tryz.isAgg4
  z4 := Tryz.sizeOf4
  v4 := Tryz.zeroValue4
  t22 := Tryz.underlying41
  a22 := Tryz.isAgg41
  z22 := Tryz.sizeOf41
  v22 := Tryz.zeroValue41 }
def cloneInt7_ren : Go.Shelf.Ren := ⟨fun | 41 => 51 | n => n, fun | 22 => 42 | 23 => 3 | 4 => 4 | n => n, fun | n => n⟩
theorem cloneInt7 : Go.Proofs.SlLaysE0.n41 Tryz.prog cloneInt7_ren := {
  mixed := by kernel_rfl
  f41 := ⟨Tryz.f51.name, by decide, Tryz.func51.trans (congrArg some (by kernel_rfl))⟩
  t4 := Tryz.underlying4
  a4 := Tryz.isAgg4
  z4 := Tryz.sizeOf4
  v4 := Tryz.zeroValue4
  t22 := Tryz.underlying42
  a22 := Tryz.isAgg42
  z22 := Tryz.sizeOf42
  v22 := Tryz.zeroValue42 }
def sortKy7_ren : Go.Shelf.Ren := ⟨fun | 6 => 38 | 15 => 60 | 14 => 59 | 28 => 85 | 29 => 86 | 20 => 77 | 21 => 78 | 22 => 79 | 23 => 80 | 24 => 81 | 25 => 82 | 26 => 83 | 27 => 84 | 46 => 96 | 47 => 97 | 48 => 98 | 49 => 99 | 50 => 100 | 57 => 108 | n => n, fun | 22 => 53 | 24 => 48 | 25 => 76 | 3 => 3 | 39 => 95 | 0 => 0 | 53 => 117 | 55 => 119 | 4 => 4 | 46 => 111 | 45 => 110 | 50 => 61 | 5 => 5 | 9 => 9 | 66 => 130 | 70 => 134 | 76 => 139 | 77 => 140 | n => n, fun | n => n⟩
theorem sortKy7 : Go.Proofs.SlLaysF0.n6 Tryz.prog sortKy7_ren := {
  mixed := by kernel_rfl
  f6 := ⟨Tryz.f38.name, by decide, Tryz.func38.trans (congrArg some (by kernel_rfl))⟩
  f14 := ⟨Tryz.f59.name, by decide, Tryz.func59.trans (congrArg some (by kernel_rfl))⟩
  f15 := Tryz.func60.trans (congrArg some (by kernel_rfl))
  f20 := ⟨Tryz.f77.name, by decide, Tryz.func77.trans (congrArg some (by kernel_rfl))⟩
  f21 := ⟨Tryz.f78.name, by decide, Tryz.func78.trans (congrArg some (by kernel_rfl))⟩
  f22 := ⟨Tryz.f79.name, by decide, Tryz.func79.trans (congrArg some (by kernel_rfl))⟩
  f23 := ⟨Tryz.f80.name, by decide, Tryz.func80.trans (congrArg some (by kernel_rfl))⟩
  f24 := ⟨Tryz.f81.name, by decide, Tryz.func81.trans (congrArg some (by kernel_rfl))⟩
  f25 := ⟨Tryz.f82.name, by decide, Tryz.func82.trans (congrArg some (by kernel_rfl))⟩
  f26 := ⟨Tryz.f83.name, by decide, Tryz.func83.trans (congrArg some (by kernel_rfl))⟩
  f27 := ⟨Tryz.f84.name, by decide, Tryz.func84.trans (congrArg some (by kernel_rfl))⟩
  f28 := Tryz.func85.trans (congrArg some (by kernel_rfl))
  f29 := Tryz.func86.trans (congrArg some (by kernel_rfl))
  f46 := ⟨Tryz.f96.name, by decide, Tryz.func96.trans (congrArg some (by kernel_rfl))⟩
  f47 := Tryz.func97.trans (congrArg some (by kernel_rfl))
  f48 := Tryz.func98.trans (congrArg some (by kernel_rfl))
  f49 := ⟨Tryz.f99.name, by decide, Tryz.func99.trans (congrArg some (by kernel_rfl))⟩
  f50 := ⟨Tryz.f100.name, by decide, Tryz.func100.trans (congrArg some (by kernel_rfl))⟩
  f57 := ⟨Tryz.f108.name, by decide, Tryz.func108.trans (congrArg some (by kernel_rfl))⟩
  t0 := Tryz.underlying0
  a0 := Tryz.isAgg0
  z0 := Tryz.sizeOf0
  v0 := Tryz.zeroValue0
  t3 := Tryz.underlying3
  a3 := Tryz.isAgg3
  z3 := Tryz.sizeOf3
  v3 := Tryz.zeroValue3
  t4 := Tryz.underlying4
  a4 := Tryz.isAgg4
  z4 := Tryz.sizeOf4
  v4 := Tryz.zeroValue4
  t5 := Tryz.underlying5
  a5 := Tryz.isAgg5
  z5 := Tryz.sizeOf5
  v5 := Tryz.zeroValue5
  t9 := Tryz.underlying9
  a9 := Tryz.isAgg9
  z9 := Tryz.sizeOf9
  v9 := Tryz.zeroValue9
  t22 := Tryz.underlying53
  a22 := Tryz.isAgg53
  z22 := Tryz.sizeOf53
  v22 := Tryz.zeroValue53
  t25 := Tryz.underlying76
  a25 := Tryz.isAgg76
  z25 := Tryz.sizeOf76
  v25 := Tryz.zeroValue76
  t39 := Tryz.underlying95
  a39 := Tryz.isAgg95
  z39 := Tryz.sizeOf95
  v39 := Tryz.zeroValue95
  t45 := Tryz.underlying110
  a45 := Tryz.isAgg110
  z45 := Tryz.sizeOf110
  v45 := Tryz.zeroValue110
  t46 := Tryz.underlying111
  a46 := Tryz.isAgg111
  z46 := Tryz.sizeOf111
  v46 := Tryz.zeroValue111
  t50 := Tryz.underlying61
  a50 := Tryz.isAgg61
  z50 := Tryz.sizeOf61
  v50 := Tryz.zeroValue61
  t53 := Tryz.underlying117
  a53 := Tryz.isAgg117
  z53 := Tryz.sizeOf117
  v53 := Tryz.zeroValue117
  t55 := Tryz.underlying119
  a55 := Tryz.isAgg119
  z55 := Tryz.sizeOf119
  v55 := Tryz.zeroValue119
  t66 := Tryz.underlying130
  a66 := Tryz.isAgg130
  z66 := Tryz.sizeOf130
  v66 := Tryz.zeroValue130
  t70 := Tryz.underlying134
  a70 := Tryz.isAgg134
  z70 := Tryz.sizeOf134
  v70 := Tryz.zeroValue134
  t76 := Tryz.underlying139
  a76 := Tryz.isAgg139
  z76 := Tryz.sizeOf139
  v76 := Tryz.zeroValue139
  t77 := Tryz.underlying140
  a77 := Tryz.isAgg140
  z77 := Tryz.sizeOf140
  v77 := Tryz.zeroValue140 }
def insHd7_ren : Go.Shelf.Ren := ⟨fun | 20 => 68 | n => n, fun | 24 => 40 | 22 => 23 | 3 => 3 | 25 => 62 | 4 => 4 | 0 => 0 | n => n, fun | n => n⟩
theorem insHd7 : Go.Proofs.SlLaysF0.n20 Tryz.prog insHd7_ren := {
  mixed := by kernel_rfl
  f20 := ⟨Tryz.f68.name, by decide, Tryz.func68.trans (congrArg some (by kernel_rfl))⟩
  t0 := Tryz.underlying0
  a0 := Tryz.isAgg0
  z0 := Tryz.sizeOf0
  v0 := Tryz.zeroValue0
  t3 := Tryz.underlying3
  a3 := Tryz.isAgg3
  z3 := Tryz.sizeOf3
  v3 := Tryz.zeroValue3
  t4 := Tryz.underlying4
  a4 := Tryz.isAgg4
  z4 := Tryz.sizeOf4
  v4 := Tryz.zeroValue4
  t22 := Tryz.underlying23
  a22 := Tryz.isAgg23
  z22 := Tryz.sizeOf23
  v22 := Tryz.zeroValue23
  t25 := Tryz.underlying62
  a25 := Tryz.isAgg62
  z25 := Tryz.sizeOf62
  v25 := Tryz.zeroValue62 }
end Go.Proofs.YtfdfdmbnggpnbaaGreat
namespace Go.Proofs.YtfdfdmbnggpnbaaGreat
open Go.RowKit
open Go.Maps (Keyed)

theorem laidOut7 : laidOutB Tryz.prog = true := by kernel_rfl
theorem key_row7 : (48 : TypeId) < Tryz.prog.types.size := of_decide_eq_true (by kernel_rfl)
theorem key_at7 : Tryz.prog.keyTypeAt 2 48 = true := by kernel_rfl
theorem keyed7 : Keyed Tryz.prog 48 := Keyed.of_law (deep_law_laid laidOut7 (m := 2) (by omega) key_row7 key_at7 (by rw [Tryz.underlying48]))
theorem succ_of_lt7 {a b : Nat} (h : a < b) : ∃ n, b = n + 1 := ⟨b - 1, by omega⟩
theorem size7 : ∃ n, Tryz.prog.types.size = n + 1 := succ_of_lt7 key_row7
theorem cells_key7 : Tryz.prog.cellsOf 48 = 3 := by kernel_rfl
theorem cells_int7 : Tryz.prog.cellsOf 3 = 1 := by kernel_rfl
theorem keyType7 : Tryz.prog.keyType 48 = true := by kernel_rfl
theorem under_int7 : Tryz.prog.underlying 3 = some (.int .i64) := Tryz.underlying3

/-- What a key reads as. -/
def kyLit (k : Ky) : Lit := .string (keyBytes [.int .i64 k.kind, .int .i64 k.id, .int .i64 k.adv])
theorem wf_i64_iff (a : Int) : (Lit.int .i64 a).wf = true ↔ -9223372036854775808 ≤ a ∧ a ≤ 9223372036854775807 := by
  constructor
  · intro h
    simp [Lit.wf, IntKind.min, IntKind.max, IntKind.signed, IntKind.bits] at h
    omega
  · rintro ⟨h1, h2⟩
    simp [Lit.wf, IntKind.min, IntKind.max, IntKind.signed, IntKind.bits]
    omega
theorem keyLits7 (n : Nat) {a b c : Int} (ha : (Lit.int .i64 a).wf = true) (hb : (Lit.int .i64 b).wf = true) (hc : (Lit.int .i64 c).wf = true) :
    Tryz.prog.keyLits (n + 1 + 1) 48 [.int .i64 a, .int .i64 b, .int .i64 c] = some [.int .i64 a, .int .i64 b, .int .i64 c] := by
  simp [Program.keyLits, Tryz.underlying48, cells_key7, cells_int7, ha, hb, hc]
theorem keyOf_ky {k : Ky} (h : wfKy k) : keyOf Tryz.prog 48 (.agg #[.int .i64 k.kind, .int .i64 k.id, .int .i64 k.adv]) = some (kyLit k) := by
  obtain ⟨h1, h2, h3⟩ := h
  obtain ⟨n, hn⟩ := size7
  have e := keyLits7 n ((wf_i64_iff _).2 h1) ((wf_i64_iff _).2 h2) ((wf_i64_iff _).2 h3)
  simp [keyOf, Tryz.underlying48, keyType7, Value.formed, cells_key7, Value.cells, hn, e, kyLit]
theorem keyLit_int7 (n : Nat) {v : Value} {l : List Lit} (h : Tryz.prog.keyLits (n + 1) 3 [v] = some l) : ∃ a : Int, (Lit.int .i64 a).wf = true ∧ v = .int .i64 a ∧ l = [.int .i64 a] := by
  unfold Program.keyLits at h
  rw [under_int7] at h
  cases v <;> simp at h
  obtain ⟨⟨rfl, hw⟩, rfl⟩ := h
  exact ⟨_, hw, rfl, rfl⟩
theorem keyLits_inv7 (n : Nat) {x y z : Value} {L : List Lit} (hL : Tryz.prog.keyLits (n + 1 + 1) 48 [x, y, z] = some L) : ∃ l1 l2 l3, Tryz.prog.keyLits (n + 1) 3 [x] = some l1 ∧ Tryz.prog.keyLits (n + 1) 3 [y] = some l2 ∧ Tryz.prog.keyLits (n + 1) 3 [z] = some l3 ∧ L = l1 ++ (l2 ++ l3) := by
  unfold Program.keyLits at hL
  generalize hK : Program.keyLits Tryz.prog (n + 1) = K at hL ⊢
  simp [Tryz.underlying48, cells_key7, cells_int7] at hL
  cases h1 : K 3 [x] with
  | none => rw [h1] at hL; simp at hL
  | some l1 =>
    rw [h1] at hL
    cases h2 : K 3 [y] with
    | none => rw [h2] at hL; simp at hL
    | some l2 =>
      rw [h2] at hL
      cases h3 : K 3 [z] with
      | none => rw [h3] at hL; simp at hL
      | some l3 =>
        rw [h3] at hL
        simp at hL
        exact ⟨l1, l2, l3, rfl, rfl, rfl, hL.symm⟩
theorem keyLits_len7 (n : Nat) {cs : List Value} {L : List Lit} (hL : Tryz.prog.keyLits (n + 1) 48 cs = some L) : cs.length = 3 := by
  unfold Program.keyLits at hL
  simp only [Tryz.underlying48, cells_key7] at hL
  split at hL
  · rename_i h
    exact h.1
  · cases hL
theorem three7 : ∀ {xs : List Value}, xs.length = 3 → ∃ x y z, xs = [x, y, z]
  | [x, y, z], _ => ⟨x, y, z, rfl⟩
theorem keyOf_ky_inv {v : Value} {l : Lit} (h : keyOf Tryz.prog 48 v = some l) : ∃ k, wfKy k ∧ v = .agg #[.int .i64 k.kind, .int .i64 k.id, .int .i64 k.adv] ∧ l = kyLit k := by
  obtain ⟨xs, L, rfl, hL, rfl⟩ := keyOf_top (by rw [Tryz.underlying48]) h
  obtain ⟨n, hn⟩ := size7
  rw [hn] at hL
  have hl := keyLits_len7 _ hL
  obtain ⟨xs⟩ := xs
  simp only at hL hl
  obtain ⟨x, y, z, rfl⟩ := three7 hl
  · obtain ⟨l1, l2, l3, e1, e2, e3, rfl⟩ := keyLits_inv7 n hL
    obtain ⟨a, wa, rfl, rfl⟩ := keyLit_int7 n e1
    obtain ⟨b, wb, rfl, rfl⟩ := keyLit_int7 n e2
    obtain ⟨c, wc, rfl, rfl⟩ := keyLit_int7 n e3
    exact ⟨⟨a, b, c⟩, ⟨(wf_i64_iff _).1 wa, (wf_i64_iff _).1 wb, (wf_i64_iff _).1 wc⟩, rfl, rfl⟩
theorem kyLit_inj {a b : Ky} (ha : wfKy a) (hb : wfKy b) (h : kyLit a = kyLit b) : a = b := by
  have e1 := keyOf_ky ha
  rw [h] at e1
  have := keyed7.inj e1 (keyOf_ky hb)
  obtain ⟨a1, a2, a3⟩ := a
  obtain ⟨b1, b2, b3⟩ := b
  simp at this
  simp [this]
end Go.Proofs.YtfdfdmbnggpnbaaGreat
namespace Go.Proofs.YtfdfdmbnggpnbaaGreat
open Go.RowKit
open Go.Maps (Keyed)
open Go.ChangeMaps (notKey putKey delKey)

/-- A description as a value. -/
def rcVal (r : Rc) : Value := .agg #[.int .i64 r.h.age, .int .i64 r.h.kind, .int .i64 r.h.id, .int .i64 r.h.adv, .int .i64 r.h.seq, .int .i64 r.h.sum, .int .i64 r.h.long, .slice r.p.a r.p.n r.p.c, .slice r.q.a r.q.n r.q.c]
/-- An element of the map reads as itself. -/
def asIs (v : Value) : Option (DataW Value × List MemPlace) := some (.held v, [])
def rcE (r : Rc) : Lit × DataW Value := (kyLit (keyH r.h), .held (rcVal r))
/-- Block b is a map that holds just the descriptions of R, each under its key. -/
def MapIs (w : World) (b : Nat) (R : List Rc) : Prop :=
  (∀ r ∈ R, wfKy (keyH r.h)) ∧ ∃ l : List (Lit × DataW Value), w.ownsMap Tryz.prog 48 asIs b R.length (.map l) ∧ l.Perm (R.map rcE)

theorem own_tight {H : Type} {P : Program} {k : TypeId} {R : Value → Option (DataW H × List MemPlace)} {w : World} {b n : Nat} {l : List (Lit × DataW H)} (h : w.ownsMap P k R b n (.map l)) : w.ownsMap P k R b l.length (.map l) := by
  obtain ⟨es, clock, hb, F, hs, hD⟩ := h
  refine ⟨es, clock, hb, F, ?_, hD⟩
  injection hD with hD
  rw [hD, length_sorted, List.length_map, Array.length_toList]
  exact Nat.le_refl _
theorem own_heap {H : Type} {P : Program} {k : TypeId} {R : Value → Option (DataW H × List MemPlace)} {w w' : World} {b n : Nat} {D : DataW H} (h : w.ownsMap P k R b n D) (he : w'.heap[b]? = w.heap[b]?) : w'.ownsMap P k R b n D := by
  obtain ⟨es, clock, hb, r⟩ := h
  exact ⟨es, clock, he.trans hb, r⟩
section
variable {w w' : World} {b : Nat} {R : List Rc}
theorem MapIs.lt (h : MapIs w b R) : b < w.heap.size := by
  obtain ⟨-, l, ho, -⟩ := h
  exact ho.lt
theorem MapIs.heap (h : MapIs w b R) (he : w'.heap[b]? = w.heap[b]?) : MapIs w' b R := by
  obtain ⟨hw, l, ho, hp⟩ := h
  exact ⟨hw, l, own_heap ho he, hp⟩
theorem MapIs.chg {F : Nat → Prop} (h : MapIs w b R) (hc : Chg F w w') (hF : ¬ F b) : MapIs w' b R := h.heap (hc.block b h.lt hF)
theorem MapIs.below {B : Nat} (h : MapIs w b R) (hb : Below B w w') (hlt : b < B) : MapIs w' b R := h.heap (hb.block b hlt)
theorem MapIs.alloc (h : MapIs w b R) (o : Obj) : MapIs (w.alloc o) b R := h.below ((Below.refl w.heap.size w).alloc (Nat.le_refl _) o) h.lt
theorem MapIs.drew (h : MapIs w b R) : MapIs w.drew b R := h.heap rfl
theorem MapIs.setCell (h : MapIs w b R) {a : Addr} (ha : b ≠ a.block) (u : Value) : MapIs (w.setCell a u) b R := h.heap (RowKit.Below.heap_setCell _ _ _ _ ha)
theorem MapIs.made (w : World) : MapIs (w.alloc (.map #[] 0)) w.heap.size [] := ⟨fun r h => (by cases h), [], World.ownsMap_made _ _ _ _, List.Perm.refl _⟩
/-- No key stands twice. -/
theorem MapIs.nodup (h : MapIs w b R) : R.Pairwise fun r s => keyH r.h ≠ keyH s.h := by
  obtain ⟨hw, l, ho, hp⟩ := h
  obtain ⟨es, he, hpw⟩ := ho.tidy keyed7
  injection he with he
  subst he
  have h1 := (hp.pairwise_iff (fun {_ _} hne => Ne.symm hne)).1 hpw
  rw [List.pairwise_map] at h1
  exact h1.imp (fun hne e => hne (by unfold rcE; rw [e]))
end
theorem pw_eq {α β : Type} {f : α → β} : ∀ {R : List α}, R.Pairwise (fun r s => f r ≠ f s) → ∀ r ∈ R, ∀ s ∈ R, f r = f s → r = s
  | x :: R, h, r, hr, s, hs, e => by
    obtain ⟨h1, h2⟩ := List.pairwise_cons.1 h
    rcases List.mem_cons.1 hr with rfl | hr'
    · rcases List.mem_cons.1 hs with rfl | hs'
      · rfl
      · exact absurd e (h1 s hs')
    · rcases List.mem_cons.1 hs with rfl | hs'
      · exact absurd e.symm (h1 r hr')
      · exact pw_eq h2 r hr' s hs' e
/-- The one of a key. -/
def getR (R : List Rc) (k : Ky) : Option Rc := R.find? fun r => sameKy (keyH r.h) k
theorem getR_some {R : List Rc} {k : Ky} {r : Rc} (h : getR R k = some r) : r ∈ R ∧ keyH r.h = k := by
  unfold getR at h
  exact ⟨List.mem_of_find?_eq_some h, (sameKy_iff _ _).1 (List.find?_some (p := fun r : Rc => sameKy (keyH r.h) k) h)⟩
theorem getR_none {R : List Rc} {k : Ky} (h : getR R k = none) : ∀ r ∈ R, keyH r.h ≠ k := by
  unfold getR at h
  rw [List.find?_eq_none] at h
  exact fun r hr e => h r hr ((sameKy_iff _ _).2 e)
theorem sameKey_ky {a b : Ky} (ha : wfKy a) (hb : wfKy b) : (kyLit a).sameKey (kyLit b) = sameKy a b := by
  cases h : sameKy a b
  · cases h2 : (kyLit a).sameKey (kyLit b)
    · rfl
    · have := kyLit_inj ha hb (WideAt.sameKey_eq h2)
      rw [(sameKy_iff _ _).2 this] at h
      cases h
  · rw [(sameKy_iff _ _).1 h]
    exact WideAt.sameKey_self (keyed7.key (keyOf_ky hb))
section
variable {w : World} {b : Nat} {R : List Rc} {k : Ky}
/-- What stands at a key. -/
theorem map_at (hw : ∀ r ∈ R, wfKy (keyH r.h)) (hn : R.Pairwise fun r s => keyH r.h ≠ keyH s.h) {l : List (Lit × DataW Value)} (hp : l.Perm (R.map rcE)) (hk : wfKy k) :
    (∀ z, getR R k = none → (DataW.map l).atKey (kyLit k) z = z ∧ Maps.has (DataW.map l) (kyLit k) = false) ∧ (∀ r z, getR R k = some r → (DataW.map l).atKey (kyLit k) z = .held (rcVal r) ∧ Maps.has (DataW.map l) (kyLit k) = true) := by
  have back : ∀ p ∈ l, p.1.sameKey (kyLit k) = true → ∃ r ∈ R, keyH r.h = k ∧ p = rcE r := fun p hpl hs => by
    obtain ⟨r, hr, rfl⟩ := List.mem_map.1 (hp.mem_iff.1 hpl)
    refine ⟨r, hr, ?_, rfl⟩
    have h1 : (kyLit (keyH r.h)).sameKey (kyLit k) = true := hs
    rw [sameKey_ky (hw r hr) hk] at h1
    exact (sameKy_iff _ _).1 h1
  constructor
  · intro z hg
    have hno : ∀ p ∈ l, ¬ p.1.sameKey (kyLit k) = true := fun p hpl hs => by
      obtain ⟨r, hr, e, _⟩ := back p hpl hs
      exact getR_none hg r hr e
    refine ⟨?_, ?_⟩
    · simp only [DataW.atKey, List.find?_eq_none.2 hno]
    · unfold Maps.has
      rw [List.any_eq_false]
      exact hno
  · intro r z hg
    obtain ⟨hr, e⟩ := getR_some hg
    have hm : rcE r ∈ l := hp.mem_iff.2 (List.mem_map.2 ⟨r, hr, rfl⟩)
    have hs : (rcE r).1.sameKey (kyLit k) = true := by
      show (kyLit (keyH r.h)).sameKey (kyLit k) = true
      rw [sameKey_ky (hw r hr) hk]
      exact (sameKy_iff _ _).2 e
    refine ⟨?_, ?_⟩
    · cases hf : l.find? (fun p => p.1.sameKey (kyLit k)) with
      | none => exact absurd hs (List.find?_eq_none.1 hf _ hm)
      | some p =>
        obtain ⟨s, hs1, hs2, rfl⟩ := back p (List.mem_of_find?_eq_some hf) (List.find?_some (p := fun p : Lit × DataW Value => p.1.sameKey (kyLit k)) hf)
        have e2 := pw_eq hn s hs1 r hr (hs2.trans e.symm)
        subst e2
        simp only [DataW.atKey, hf]
        rfl
    · unfold Maps.has
      rw [List.any_eq_true]
      exact ⟨_, hm, hs⟩
theorem zero_lsa7 (w : World) : (zeroValue 44).run Tryz.prog w = .ok (.agg #[.int .i64 0, .int .i64 0, .int .i64 0, .int .i64 0, .int .i64 0, .int .i64 0, .int .i64 0, .slice none 0 0, .slice none 0 0]) w := by kernel_rfl
theorem asIs_inj {v : Value} {d : Value} {ps : List MemPlace} (h : asIs v = some (.held d, ps)) : v = d := by
  unfold asIs at h
  injection h with h
  injection h with h _
  injection h
/-- 'v, is := m[k]', of a key that is there. -/
theorem MapIs.look_some (h : MapIs w b R) (hk : wfKy k) {r : Rc} (hg : getR R k = some r) :
    (Instr.lookup 72 (.map (some b)) (.agg #[.int .i64 k.kind, .int .i64 k.id, .int .i64 k.adv]) true).run Tryz.prog w = .ok (.tuple #[rcVal r, .bool true]) w ∧
    (Instr.lookup 72 (.map (some b)) (.agg #[.int .i64 k.kind, .int .i64 k.id, .int .i64 k.adv]) false).run Tryz.prog w = .ok (rcVal r) w := by
  have hn := h.nodup
  obtain ⟨hw, l, ho, hp⟩ := h
  have hat := (map_at hw hn hp hk).2 r
  obtain ⟨v, ps, h1, h2⟩ := ho.look_ok keyed7 Tryz.underlying72 (zero_lsa7 w) (zd := .held _) (zp := []) rfl (keyOf_ky hk)
  obtain ⟨v', ps', h1', h2'⟩ := ho.lookup keyed7 Tryz.underlying72 (zero_lsa7 w) (zd := .held _) (zp := []) rfl (keyOf_ky hk)
  rw [(hat _ hg).1] at h2 h2'
  rw [(hat (.held undef) hg).2, asIs_inj h2] at h1
  rw [asIs_inj h2'] at h1'
  exact ⟨h1, h1'⟩
theorem MapIs.look_none (h : MapIs w b R) (hk : wfKy k) (hg : getR R k = none) :
    (Instr.lookup 72 (.map (some b)) (.agg #[.int .i64 k.kind, .int .i64 k.id, .int .i64 k.adv]) true).run Tryz.prog w = .ok (.tuple #[.agg #[.int .i64 0, .int .i64 0, .int .i64 0, .int .i64 0, .int .i64 0, .int .i64 0, .int .i64 0, .slice none 0 0, .slice none 0 0], .bool false]) w := by
  have hn := h.nodup
  obtain ⟨hw, l, ho, hp⟩ := h
  have hat := (map_at hw hn hp hk).1
  obtain ⟨v, ps, h1, h2⟩ := ho.look_ok keyed7 Tryz.underlying72 (zero_lsa7 w) (zd := .held _) (zp := []) rfl (keyOf_ky hk)
  rw [(hat _ hg).1] at h2
  rw [(hat (.held undef) hg).2, asIs_inj h2] at h1
  exact h1
theorem MapIs.len (h : MapIs w b R) (ty : TypeId) : (Builtin.len_ #[72] ty #[.map (some b)]).run Tryz.prog w = .ok (.int .i64 (R.length : Int)) w := by
  obtain ⟨hw, l, ho, hp⟩ := h
  rw [ho.len Tryz.underlying72 ty, Maps.size_eq, hp.length_eq, List.length_map]
/-- Those of other keys. -/
def restR (R : List Rc) (k : Ky) : List Rc := R.filter fun s => !sameKy (keyH s.h) k
theorem mem_restR {s : Rc} : s ∈ restR R k ↔ s ∈ R ∧ keyH s.h ≠ k := by
  unfold restR
  rw [List.mem_filter]
  have := sameKy_iff (keyH s.h) k
  simp [← this]
theorem filter_rcE (hw : ∀ r ∈ R, wfKy (keyH r.h)) (hk : wfKy k) : (R.map rcE).filter (notKey (kyLit k)) = (restR R k).map rcE := by
  rw [List.filter_map]
  unfold restR
  congr 1
  refine List.filter_congr (fun s hs => ?_)
  show (!(kyLit (keyH s.h)).sameKey (kyLit k)) = _
  rw [sameKey_ky (hw s hs) hk]
theorem chg_of_turned {w' : World} (h : w.mapTurned w' b) : Chg (fun q => q = b) w w' := Chg.of_grown h.grown (fun q hq => by cases hq; rfl)
/-- 'm[k] = v'. -/
theorem MapIs.put (h : MapIs w b R) (r : Rc) (hk : wfKy (keyH r.h)) (hn : R.length < maxLen) :
    ∃ w', (Instr.mapUpdate 72 (.map (some b)) (.agg #[.int .i64 r.h.kind, .int .i64 r.h.id, .int .i64 r.h.adv]) (rcVal r)).run Tryz.prog w = .ok () w' ∧ MapIs w' b (r :: restR R (keyH r.h)) ∧ w.mapTurned w' b := by
  obtain ⟨hw, l, ho, hp⟩ := h
  obtain ⟨w', h1, h2, h3⟩ := ho.store keyed7 Tryz.underlying72 hn (keyOf_ky hk) (val := rcVal r) (d := .held (rcVal r)) (ps := []) rfl
  rw [DataW.put_eq] at h2
  have hp2 : (putKey (kyLit (keyH r.h)) (.held (rcVal r)) l).Perm ((r :: restR R (keyH r.h)).map rcE) := by
    refine (WideShapes.insert_perm _ _).trans ?_
    rw [List.map_cons]
    refine List.Perm.cons _ ?_
    rw [← filter_rcE hw hk]
    exact hp.filter _
  have h4 := own_tight h2
  rw [hp2.length_eq, List.length_map] at h4
  refine ⟨w', h1, ⟨fun s hs => ?_, _, h4, hp2⟩, h3⟩
  rcases List.mem_cons.1 hs with rfl | hs
  · exact hk
  · exact hw s (mem_restR.1 hs).1
/-- 'delete(m, k)'. -/
theorem MapIs.drop (h : MapIs w b R) (hk : wfKy k) (ty : TypeId) :
    ∃ w', (Builtin.delete_ #[72, 48] ty #[.map (some b), .agg #[.int .i64 k.kind, .int .i64 k.id, .int .i64 k.adv]]).run Tryz.prog w = .ok (.tuple #[]) w' ∧ MapIs w' b (restR R k) ∧ w.mapTurned w' b := by
  obtain ⟨hw, l, ho, hp⟩ := h
  obtain ⟨w', h1, h2, h3⟩ := ho.drop keyed7 Tryz.underlying72 (keyOf_ky hk) ty
  rw [DataW.del_eq] at h2
  have hp2 : (delKey (kyLit k) l).Perm ((restR R k).map rcE) := by
    rw [← filter_rcE hw hk]
    exact hp.filter _
  have h4 := own_tight h2
  rw [hp2.length_eq, List.length_map] at h4
  exact ⟨w', h1, ⟨fun s hs => hw s (mem_restR.1 hs).1, _, h4, hp2⟩, h3⟩
end
end Go.Proofs.YtfdfdmbnggpnbaaGreat
namespace Go.Proofs.YtfdfdmbnggpnbaaGreat
open Go.RowKit Go.Shelf Go.Lib

theorem blk_new07 (w : World) (cs : Array Value) (t : TypeId) (o : Obj) : Blk ((w.alloc (.cells cs t)).alloc o) w.heap.size t cs := (Blk.new w t cs).below ((Below.refl (w.alloc (.cells cs t)).heap.size (w.alloc (.cells cs t))).alloc (Nat.le_refl _) o) (by simp)
theorem own_cell7 {w : World} {base n size g : Nat} {e : TypeId} {c : Nat} {xs : List Value} (ho : w.ownsRow base e size (.slice (some ⟨g, 0, none⟩) n c) n xs) : ∀ j u, xs[j]? = some u → w.cell? ⟨g, 0 + j, none⟩ = some u := by
  intro j u hj
  have h1 := ho.cells (g := g) rfl j u hj
  have e : (⟨g, 0, none⟩ : Addr).add j = ⟨g, 0 + j, none⟩ := by
    cases j with
    | zero => rfl
    | succ j => rfl
  rwa [e] at h1
theorem own_addr7 {w : World} {base n size : Nat} {e : TypeId} {A : Option Addr} {c : Nat} {xs : List Value} (ho : w.ownsRow base e size (.slice A n c) n xs) : (A = none ∧ n = 0 ∧ c = 0) ∨ ∃ g, A = some ⟨g, 0, none⟩ := by
  rcases ho.2 with ⟨hv, hn⟩ | ⟨g, cap, cur, hv, _⟩
  · injection hv with e1 e2 e3
    exact .inl ⟨e1, e2, e3⟩
  · injection hv with e1 e2 e3
    exact .inr ⟨g, e1⟩
theorem own_drew7 {w : World} {base n size : Nat} {e : TypeId} {v : Value} {xs : List Value} (h : w.ownsRow base e size v n xs) : w.drew.ownsRow base e size v n xs := h
/-- What a copy is. -/
def CopyOk (w : World) (e : TypeId) (size : Nat) (A : Option Addr) (n : Nat) (xs : List Value) (x : Ending) (w' : World) : Prop :=
  ∃ A' c', x = .returned (.slice A' n c') ∧ w'.ownsRow w.heap.size e size (.slice A' n c') n xs ∧ Below w.heap.size w w' ∧ (A = none → A' = none ∧ c' = 0)
theorem copy_of7 {w w' : World} {e : TypeId} {size n : Nat} {g : Nat} {xs : List Value} {v : Value} (ho : w'.ownsRow w.heap.size e size v n xs) (hb : Below w.heap.size w w') : CopyOk w e size (some ⟨g, 0, none⟩) n xs (.returned v) w' := by
  obtain ⟨A', c', rfl⟩ := own_slice ho
  exact ⟨A', c', rfl, ho, hb, fun h => by cases h⟩
theorem infoLk7 : (Tryz.prog.info? 86).map (fun i => (i.zero, i.size, i.bytes)) = some (some (.agg #[.int .i64 0, .int .i64 0, .int .i64 0, .int .i64 0]), 4, 32) := by kernel_rfl
theorem infoInt7 : (Tryz.prog.info? 3).map (fun i => (i.zero, i.size, i.bytes)) = some (some (.int .i64 0), 1, 8) := by kernel_rfl
theorem lkCells_ones7 : ∀ (L : List Lk), ∀ u ∈ lkCells L, u.oneCell' = true
  | [], u, h => by cases h
  | k :: L, u, h => by
    unfold lkCells at h
    simp only [List.mem_cons] at h
    rcases h with rfl | rfl | rfl | rfl | h
    · rfl
    · rfl
    · rfl
    · rfl
    · exact lkCells_ones7 L u h
theorem ints_ones7 (M : List Int) : ∀ u ∈ M.map (Value.int .i64), u.oneCell' = true := by
  intro u hu
  obtain ⟨x, _, rfl⟩ := List.mem_map.1 hu
  rfl
theorem cloneLk_any {w : World} {lo n c : Nat} {A : Option Addr} {L : List Lk} (ho : w.ownsRow lo 86 4 (.slice A n c) n (lkCells L)) (hn : n ≤ 1000) :
    Calls Tryz.prog 50 #[.slice A n c] w (CopyOk w 86 4 A n (lkCells L)) := by
  rcases own_addr7 ho with ⟨rfl, rfl, rfl⟩ | ⟨g, rfl⟩
  · refine (AnyE.slices_Clone_nil cloneLk7 0 0 w).mono ?_
    rintro e w' ⟨rfl, rfl⟩
    have hl := ho.1
    exact ⟨none, 0, rfl, by rw [List.eq_nil_of_length_eq_zero (by omega : (lkCells L).length = 0)]; exact World.ownsRow_nil _ _ _ _, Below.refl _ _, fun _ => ⟨rfl, rfl⟩⟩
  · obtain ⟨i0, hi, hz0, hz1, hz2⟩ := info_parts infoLk7
    refine (AnyE.slices_Clone cloneLk7 i0 (.agg #[.int .i64 0, .int .i64 0, .int .i64 0, .int .i64 0]) 4 32 hi hz0 hz1 hz2 rfl (by decide) Tryz.sizeOf86 g 0 n c (lkCells L) w ho.1 (by unfold maxLen; omega) (by omega) (own_cell7 ho) (lkCells_ones7 L)).mono ?_
    rintro e w' ⟨v', rfl, h1, -, h2⟩
    exact copy_of7 h1 h2
theorem cloneInt_any {w : World} {lo n c : Nat} {A : Option Addr} {M : List Int} (ho : w.ownsRow lo 3 1 (.slice A n c) n (M.map (Value.int .i64))) (hn : n ≤ 1000) :
    Calls Tryz.prog 51 #[.slice A n c] w (CopyOk w 3 1 A n (M.map (Value.int .i64))) := by
  rcases own_addr7 ho with ⟨rfl, rfl, rfl⟩ | ⟨g, rfl⟩
  · refine (AnyE.slices_Clone_nil cloneInt7 0 0 w).mono ?_
    rintro e w' ⟨rfl, rfl⟩
    have hl := ho.1
    exact ⟨none, 0, rfl, by rw [List.eq_nil_of_length_eq_zero (by omega : (M.map (Value.int .i64)).length = 0)]; exact World.ownsRow_nil _ _ _ _, Below.refl _ _, fun _ => ⟨rfl, rfl⟩⟩
  · obtain ⟨i0, hi, hz0, hz1, hz2⟩ := info_parts infoInt7
    refine (AnyE.slices_Clone cloneInt7 i0 (.int .i64 0) 1 8 hi hz0 hz1 hz2 rfl (by decide) Tryz.sizeOf3 g 0 n c (M.map (Value.int .i64)) w ho.1 (by unfold maxLen; omega) (by omega) (own_cell7 ho) (ints_ones7 M)).mono ?_
    rintro e w' ⟨v', rfl, h1, -, h2⟩
    exact copy_of7 h1 h2
/-- What fresh answers. -/
def Fresh7 (w : World) (r : Rc) (x : La) (e : Ending) (w' : World) : Prop := ∃ r' : Rc, e = .returned (rcVal r') ∧ Below w.heap.size w w' ∧ RcIs w' w.heap.size r' x ∧ r'.p.n = r.p.n ∧ r'.q.n = r.q.n ∧ (r.p.a = none → r'.p = ⟨none, r.p.n, 0⟩) ∧ (r.q.a = none → r'.q = ⟨none, r.q.n, 0⟩)
theorem keep9c {w0 w' : World} {p g2 : Nat} {t : TypeId} {a0 a1 a2 a3 a4 a5 a6 a7 a8 : Value} (hk : Blk w0 p t #[a0, a1, a2, a3, a4, a5, a6, a7, a8]) (hne : p ≠ g2) (hc : Chg (fun q => q = g2) w0 w') :
    Chg (fun q => q = g2) w0 w' ∧ w'.cell? ⟨p, 0, none⟩ = some a0 ∧ w'.cell? ⟨p, 1, none⟩ = some a1 ∧ w'.cell? ⟨p, 2, none⟩ = some a2 ∧ w'.cell? ⟨p, 3, none⟩ = some a3 ∧ w'.cell? ⟨p, 4, none⟩ = some a4 ∧ w'.cell? ⟨p, 5, none⟩ = some a5 ∧ w'.cell? ⟨p, 6, none⟩ = some a6 ∧ w'.cell? ⟨p, 7, none⟩ = some a7 ∧ w'.cell? ⟨p, 8, none⟩ = some a8 :=
  ⟨hc, (hk.chg hc hne).nine⟩
theorem Chg.setCell {F : Nat → Prop} {w w' : World} (h : Chg F w w') (a : Addr) (ha : F a.block) (v : Value) : Chg F w (w'.setCell a v) :=
  h.trans (Chg.of_grown (grown_setCell w' a v) (fun _ hq => by cases hq; exact ha)) (fun _ hq => .inl hq)
theorem Chg.below {F : Nat → Prop} {w w' w'' : World} (h : Chg F w w') (hb : Below w'.heap.size w' w'') : Chg F w w'' := h.trans (Chg.of_below (F := F) hb) (fun _ hq => .inl hq)
theorem own_nine7 {w : World} {base n size g : Nat} {t : TypeId} {v : Value} {xs : List Value} (ho : w.ownsRow base t size v n xs) (hne : v.ownBlock ≠ some g) (u0 u1 u2 u3 u4 u5 u6 u7 u8 : Value) :
    (((((((((w.setCell ⟨g, 0, none⟩ u0).setCell ⟨g, 1, none⟩ u1).setCell ⟨g, 2, none⟩ u2).setCell ⟨g, 3, none⟩ u3).setCell ⟨g, 4, none⟩ u4).setCell ⟨g, 5, none⟩ u5).setCell ⟨g, 6, none⟩ u6).setCell ⟨g, 7, none⟩ u7).setCell ⟨g, 8, none⟩ u8).ownsRow base t size v n xs := (own_ne (own_ne (own_ne (own_ne (own_ne (own_ne (own_ne (own_ne (own_ne ho ⟨g, 0, none⟩ u0 hne) ⟨g, 1, none⟩ u1 hne) ⟨g, 2, none⟩ u2 hne) ⟨g, 3, none⟩ u3 hne) ⟨g, 4, none⟩ u4 hne) ⟨g, 5, none⟩ u5 hne) ⟨g, 6, none⟩ u6 hne) ⟨g, 7, none⟩ u7 hne) ⟨g, 8, none⟩ u8 hne)
set_option maxRecDepth 8000 in
set_option maxHeartbeats 8000000 in
theorem fresh7 {w : World} {lo : Nat} {r : Rc} {x : La} (h : RcIs w lo r x) (hp : r.p.n ≤ 1000) (hq : r.q.n ≤ 1000) : Calls Tryz.prog 33 #[rcVal r] w (Fresh7 w r x) := by
  obtain ⟨⟨a, k, i, v, s, u, l⟩, ⟨A, n, c⟩, ⟨A', n', c'⟩⟩ := r
  obtain ⟨h1, h2, h3, h4, h5⟩ := h
  simp only at h1 h2 h3 h4 h5 hp hq
  generalize hQ : Fresh7 w ⟨⟨a, k, i, v, s, u, l⟩, ⟨A, n, c⟩, ⟨A', n', c'⟩⟩ x = Q
  have HQ := Lib.hid hQ
  clear hQ
  unfold rcVal
  have K0 := Lib.hid (blk_new07 w #[.int .i64 a, .int .i64 k, .int .i64 i, .int .i64 v, .int .i64 s, .int .i64 u, .int .i64 l, .slice A n c, .slice A' n' c'] 44 (.cells #[.int .i64 0, .int .i64 0, .int .i64 0, .int .i64 0, .int .i64 0, .int .i64 0, .int .i64 0, .slice none 0 0, .slice none 0 0] 44))
  have K1 := Lib.hid (blk_new1 w (.cells #[.int .i64 a, .int .i64 k, .int .i64 i, .int .i64 v, .int .i64 s, .int .i64 u, .int .i64 l, .slice A n c, .slice A' n' c'] 44) 44 #[.int .i64 0, .int .i64 0, .int .i64 0, .int .i64 0, .int .i64 0, .int .i64 0, .int .i64 0, .slice none 0 0, .slice none 0 0])
  have B0 := Lib.hid (below_new2 w (.cells #[.int .i64 a, .int .i64 k, .int .i64 i, .int .i64 v, .int .i64 s, .int .i64 u, .int .i64 l, .slice A n c, .slice A' n' c'] 44) (.cells #[.int .i64 0, .int .i64 0, .int .i64 0, .int .i64 0, .int .i64 0, .int .i64 0, .int .i64 0, .slice none 0 0, .slice none 0 0] 44))
  have O2 := Lib.hid (own_below2 h2 B0.out)
  have O4 := Lib.hid (own_below2 h4 B0.out)
  go_enter Tryz.func33, Tryz.ntmps33
  go_wp2_with fail
  generalize (w.alloc (.cells #[.int .i64 a, .int .i64 k, .int .i64 i, .int .i64 v, .int .i64 s, .int .i64 u, .int .i64 l, .slice A n c, .slice A' n' c'] 44)).alloc (.cells #[.int .i64 0, .int .i64 0, .int .i64 0, .int .i64 0, .int .i64 0, .int .i64 0, .int .i64 0, .slice none 0 0, .slice none 0 0] 44) = w0 at *
  obtain ⟨k0, k1, k2, k3, k4, k5, k6, k7, k8⟩ := K0.out.nine
  obtain ⟨g0, g1, g2, g3, g4, g5, g6, g7, g8⟩ := K1.out.nineF
  have HNE := Lib.hid (show w.heap.size ≠ w.heap.size + 1 by omega)
  have C0 : Chg (fun q => q = w.heap.size + 1) w0 w0.drew := ⟨rfl, rfl, rfl, Nat.le_refl _, fun _ _ _ => rfl⟩
  have hlt1 := K1.out.lt
  go_region_held3 (fun w' => Chg (fun q => q = w.heap.size + 1) w0 w' ∧ w'.cell? ⟨w.heap.size, 0, none⟩ = some (.int .i64 a) ∧ w'.cell? ⟨w.heap.size, 1, none⟩ = some (.int .i64 k) ∧ w'.cell? ⟨w.heap.size, 2, none⟩ = some (.int .i64 i) ∧ w'.cell? ⟨w.heap.size, 3, none⟩ = some (.int .i64 v) ∧ w'.cell? ⟨w.heap.size, 4, none⟩ = some (.int .i64 s) ∧ w'.cell? ⟨w.heap.size, 5, none⟩ = some (.int .i64 u) ∧ w'.cell? ⟨w.heap.size, 6, none⟩ = some (.int .i64 l) ∧ w'.cell? ⟨w.heap.size, 7, none⟩ = some (.slice A n c) ∧ w'.cell? ⟨w.heap.size, 8, none⟩ = some (.slice A' n' c')) ((refine keep9c K0.out HNE.out ?_; first | with_reducible exact C0 | with_reducible exact hCL | with_reducible exact hCI | with_reducible exact hCI.setCell _ rfl _ | with_reducible exact (((((((((hCI.setCell _ rfl _).setCell _ rfl _).setCell _ rfl _).setCell _ rfl _).setCell _ rfl _).setCell _ rfl _).setCell _ rfl _).setCell _ rfl _).setCell _ rfl _)))
    (first
      | (go_at_call 50; refine (cloneLk_any (own_drew7 O2.out) hp).mono ?_; rintro eL wL ⟨AL, cL, rfl, hoL, hbL, hnL⟩; have hCL := C0.below hbL)
      | (go_at_call 51; refine (cloneInt_any (own_below2 (own_drew7 O4.out) hbL) hq).mono ?_; rintro eI wI ⟨AI, cI, rfl, hoI, hbI, hnI⟩; have hCI := hCL.below hbI; have KI := ((K1.out.drew.below hbL hlt1).below hbI (Nat.lt_of_lt_of_le hlt1 hbL.size)); obtain ⟨f0, f1, f2, f3, f4, f5, f6, f7, f8⟩ := KI.nineF; obtain ⟨z0, z1, z2, z3, z4, z5, z6, z7, z8⟩ := KI.nine))
  have hz0 := B0.out.size
  have hzL := hbL.size
  have BI : Below w.heap.size w wI := ((B0.out.trans (⟨rfl, rfl, rfl, Nat.le_refl _, fun _ _ => rfl⟩ : Below w.heap.size w0 w0.drew)).trans (hbL.mono hz0)).trans (hbI.mono (Nat.le_trans hz0 hzL))
  have neL := own_not hoL (.inl hlt1)
  have neI := own_not hoI (.inl (Nat.lt_of_lt_of_le hlt1 hzL))
  have OL := Lib.hid (own_low (own_nine7 (own_below2 hoL hbI) neL (.int .i64 a) (.int .i64 k) (.int .i64 i) (.int .i64 v) (.int .i64 s) (.int .i64 u) (.int .i64 l) (.slice AL n cL) (.slice AI n' cI)) hz0)
  have OI := Lib.hid (own_low (own_nine7 hoI neI (.int .i64 a) (.int .i64 k) (.int .i64 i) (.int .i64 v) (.int .i64 s) (.int .i64 u) (.int .i64 l) (.slice AL n cL) (.slice AI n' cI)) (Nat.le_trans hz0 hzL))
  have BB := Lib.hid (((((((((BI.setCell (p := ⟨w.heap.size + 1, 0, none⟩) (Nat.le_succ _) (.int .i64 a)).setCell (p := ⟨w.heap.size + 1, 1, none⟩) (Nat.le_succ _) (.int .i64 k)).setCell (p := ⟨w.heap.size + 1, 2, none⟩) (Nat.le_succ _) (.int .i64 i)).setCell (p := ⟨w.heap.size + 1, 3, none⟩) (Nat.le_succ _) (.int .i64 v)).setCell (p := ⟨w.heap.size + 1, 4, none⟩) (Nat.le_succ _) (.int .i64 s)).setCell (p := ⟨w.heap.size + 1, 5, none⟩) (Nat.le_succ _) (.int .i64 u)).setCell (p := ⟨w.heap.size + 1, 6, none⟩) (Nat.le_succ _) (.int .i64 l)).setCell (p := ⟨w.heap.size + 1, 7, none⟩) (Nat.le_succ _) (.slice AL n cL)).setCell (p := ⟨w.heap.size + 1, 8, none⟩) (Nat.le_succ _) (.slice AI n' cI))
  have NL := Lib.hid hnL
  have NI := Lib.hid hnI
  clear BI neL neI hoL hoI hbL hbI hCL hCI C0 hnL hnI KI k0 k1 k2 k3 k4 k5 k6 k7 k8 g0 g1 g2 g3 g4 g5 g6 g7 g8
  go_wp2_with fail
  refine bodyPost_ret (v := .agg #[.int .i64 a, .int .i64 k, .int .i64 i, .int .i64 v, .int .i64 s, .int .i64 u, .int .i64 l, .slice AL n cL, .slice AI n' cI]) (by simp [results, Tryz.results33, go_sem, *]) rfl ?_
  rw [← HQ.out]
  exact ⟨⟨⟨a, k, i, v, s, u, l⟩, ⟨AL, n, cL⟩, ⟨AI, n', cI⟩⟩, rfl, BB.out, ⟨h1, OL.out, h3, OI.out, h5⟩, rfl, rfl, fun hA => by obtain ⟨e1, e2⟩ := NL.out hA; rw [e1, e2], fun hA => by obtain ⟨e1, e2⟩ := NI.out hA; rw [e1, e2]⟩
end Go.Proofs.YtfdfdmbnggpnbaaGreat
namespace Go.Proofs.YtfdfdmbnggpnbaaGreat
open Go.RowKit

/-- Block p is a database of the program of so much room that holds S, and hangs on the blocks of F alone, all from lo on. -/
def PDb (w : World) (lo p : Nat) (room : Int) (S : List La) (F : Nat → Prop) : Prop :=
  ∃ (b : Nat) (R : List Rc) (T : List La), Blk w p 74 #[.int .i64 room, .map (some b)] ∧ lo ≤ p ∧ lo ≤ b ∧ MapIs w b R ∧ All2 (RcIs w lo) R T ∧ T.Perm S ∧ (S.length : Int) ≤ room ∧ room ≤ 40 ∧ (∀ x ∈ S, rightB x.h x.L x.M = true) ∧
    (∀ q, F q ↔ q = p ∨ q = b ∨ ∃ r ∈ R, rcFoot r q)
theorem PDb.foot {w : World} {lo p : Nat} {room : Int} {S : List La} {F : Nat → Prop} (h : PDb w lo p room S F) {q : Nat} (hq : F q) : lo ≤ q ∧ q < w.heap.size := by
  obtain ⟨b, R, T, hB, h1, h2, hM, hA, -, -, -, -, hF⟩ := h
  rcases (hF q).1 hq with rfl | rfl | ⟨r, hr, hf⟩
  · exact ⟨h1, hB.lt⟩
  · exact ⟨h2, hM.lt⟩
  · obtain ⟨x, _, hx⟩ := all2_mem hA hr
    exact hx.foot hf
theorem PDb.chg {w w' : World} {lo p : Nat} {room : Int} {S : List La} {F F' : Nat → Prop} (h : PDb w lo p room S F) (hc : Chg F' w w') (hd : ∀ q, F q → ¬ F' q) : PDb w' lo p room S F := by
  obtain ⟨b, R, T, hB, h1, h2, hM, hA, h3, h4, h5, h6, hF⟩ := h
  exact ⟨b, R, T, hB.chg hc (hd p ((hF p).2 (.inl rfl))), h1, h2, hM.chg hc (hd b ((hF b).2 (.inr (.inl rfl)))), all2_imp hA (fun r hr x hx => hx.chg hc (fun q hq => hd q ((hF q).2 (.inr (.inr ⟨r, hr, hq⟩))))), h3, h4, h5, h6, hF⟩
/-- The one of a key. -/
theorem get_both {P : Rc → La → Prop} (hk : ∀ r x, P r x → r.h = x.h) {R : List Rc} {T S : List La} (ha : All2 P R T) (hp : T.Perm S) (hs : SortL S) (k : Ky) :
    (getR R k = none ∧ getL S k = none) ∨ ∃ r x, getR R k = some r ∧ getL S k = some x ∧ P r x ∧ r ∈ R ∧ x ∈ S := by
  cases hg : getR R k with
  | none =>
    refine .inl ⟨rfl, getL_none.2 (fun x hx e => ?_)⟩
    obtain ⟨j, hj⟩ := List.getElem?_of_mem (hp.mem_iff.2 hx)
    obtain ⟨r, hr, hpr⟩ := ha.at' hj
    exact getR_none hg r (List.mem_of_getElem? hr) (by rw [hk _ _ hpr]; exact e)
  | some r =>
    obtain ⟨hr, e⟩ := getR_some hg
    obtain ⟨x, hx, hpr⟩ := all2_mem ha hr
    have hxS := hp.mem_iff.1 hx
    have e2 : kyL x = k := by
      unfold kyL
      rw [← hk _ _ hpr]
      exact e
    exact .inr ⟨r, x, rfl, by rw [← e2]; exact getL_mem hs hxS, hpr, hr, hxS⟩
theorem all2_filter {P : Rc → La → Prop} {f : Rc → Bool} {g : La → Bool} (hfg : ∀ r x, P r x → f r = g x) : ∀ {R : List Rc} {T : List La}, All2 P R T → All2 P (R.filter f) (T.filter g)
  | [], [], _ => All2.nil
  | [], y :: S, h => by have := h.1; simp at this
  | r :: R, [], h => by have := h.1; simp at this
  | r :: R, y :: S, h => by
    rw [List.filter_cons, List.filter_cons, hfg _ _ h.head.1]
    cases g y
    · exact all2_filter hfg h.head.2
    · exact All2.cons h.head.1 (all2_filter hfg h.head.2)
theorem all2_rest {P : Rc → La → Prop} (hk : ∀ r x, P r x → r.h = x.h) {R : List Rc} {T : List La} (ha : All2 P R T) (k : Ky) : All2 P (restR R k) (dropL T k) :=
  all2_filter (fun r x hp => by unfold kyL; rw [hk _ _ hp]) ha
theorem insL_perm (x : La) : ∀ S : List La, (insL x S).Perm (x :: S)
  | [] => List.Perm.refl _
  | y :: S => by
    unfold insL
    split
    · exact List.Perm.refl _
    · exact ((insL_perm x S).cons y).trans (List.Perm.swap x y S)
theorem wfKy_right {x : La} (h : rightB x.h x.L x.M = true) : wfKy (kyL x) := by
  obtain ⟨-, h2, h3, -, h5, -, -⟩ := right_facts h
  unfold wfKy kyL keyH
  simp only
  omega
theorem rc_short {w : World} {lo : Nat} {r : Rc} {x : La} (h : RcIs w lo r x) (hr : rightB x.h x.L x.M = true) : r.p.n ≤ 1000 ∧ r.q.n ≤ 1000 := by
  obtain ⟨h1, h2⟩ := right_short hr
  rw [← h.2.2.1, ← h.2.2.2.2]
  exact ⟨h1, h2⟩
/-- A map's block is no block of cells. -/
theorem MapIs.ne_blk {w : World} {b g : Nat} {R : List Rc} {t : TypeId} {cs : Array Value} (h : MapIs w b R) (hB : Blk w g t cs) : g ≠ b := by
  rintro rfl
  obtain ⟨-, l, ⟨es, clock, hb, -⟩, -⟩ := h
  have h1 : w.heap[g]? = some (.cells cs t (0, 0)) := hB
  rw [hb] at h1
  cases h1
theorem own_ne_map {w : World} {base n size b : Nat} {R : List Rc} {t : TypeId} {v : Value} {xs : List Value} (h : MapIs w b R) (ho : w.ownsRow base t size v n xs) : v.ownBlock ≠ some b := by
  intro e
  obtain ⟨-, l, ⟨es, clock, hb, -⟩, -⟩ := h
  rcases ho.2 with ⟨rfl, _⟩ | ⟨g, cap, cur, rfl, _, hg, _⟩
  · cases e
  · injection e with e
    subst e
    rw [hb] at hg
    cases hg
theorem RcIs.ne_map {w : World} {lo b : Nat} {R : List Rc} {r : Rc} {x : La} (h : RcIs w lo r x) (hM : MapIs w b R) {q : Nat} (hq : rcFoot r q) : q ≠ b := by
  rintro rfl
  rcases hq with hq | hq
  · exact own_ne_map hM h.2.1 hq
  · exact own_ne_map hM h.2.2.2.1 hq
end Go.Proofs.YtfdfdmbnggpnbaaGreat
namespace Go.Proofs.YtfdfdmbnggpnbaaGreat
open Go.RowKit Go.Shelf Go.Lib

theorem cmp7 (x y : Int) (w : World) : Calls Tryz.prog 46 #[.int .i64 x, .int .i64 y] w fun e w' => e = .returned (.int .i64 (Lib.compareInt x y)) ∧ w' = w :=
  AnyG.cmp_Compare_int cmpInt7 x y w
/-- The first number but 0. -/
def orI (a b : Int) : Int := if a = 0 then b else a
set_option maxHeartbeats 2000000 in
theorem or7 (c1 c2 c3 : Int) (g : Nat) (w : World) (h0 : w.cell? ⟨g, 0, none⟩ = some (.int .i64 c1)) (h1 : w.cell? ⟨g, 1, none⟩ = some (.int .i64 c2)) (h2 : w.cell? ⟨g, 2, none⟩ = some (.int .i64 c3)) :
    Calls Tryz.prog 61 #[.slice (some ⟨g, 0, none⟩) 3 3] w fun e w' => e = .returned (.int .i64 (orI c1 (orI c2 c3))) ∧ w' = w := by
  go_enter Tryz.func61, Tryz.ntmps61
  go_wp2
  refine wp_loop_rounds 4 ?_
  rw [rounds_succ]
  by_cases e1 : c1 = 0
  · subst e1
    go_wp2
    rw [rounds_succ]
    by_cases e2 : c2 = 0
    · subst e2
      go_wp2
      rw [rounds_succ]
      by_cases e3 : c3 = 0
      · subst e3
        go_wp2
        rw [rounds_succ]
        go_wp2
        go_ret
        exact ⟨rfl, rfl⟩
      · have e4 : (c3 == 0) = false := by simpa using e3
        go_wp2
        go_ret
        simp [orI]
    · have e4 : (c2 == 0) = false := by simpa using e2
      go_wp2
      go_ret
      simp [orI, e2]
  · have e4 : (c1 == 0) = false := by simpa using e1
    go_wp2
    go_ret
    simp [orI, e1]
/-- The order of keys. -/
def cmpK (a b : Ky) : Int := orI (Lib.compareInt a.kind b.kind) (orI (Lib.compareInt a.id b.id) (Lib.compareInt a.adv b.adv))
theorem compareInt_cases (x y : Int) : (x < y ∧ Lib.compareInt x y = -1) ∨ (x = y ∧ Lib.compareInt x y = 0) ∨ (y < x ∧ Lib.compareInt x y = 1) := by
  unfold Lib.compareInt
  by_cases h1 : x < y
  · simp [h1]
  · by_cases h2 : y < x
    · simp [h1, h2]
    · have : x = y := by omega
      subst this
      simp
theorem cmpK_less (a b : Ky) : decide (cmpK a b < 0) = lessKy a b := by
  have h := lessKy_iff a b
  have : cmpK a b < 0 ↔ lessKy a b = true := by
    rw [h]
    unfold cmpK orI
    rcases compareInt_cases a.kind b.kind with ⟨k1, k2⟩ | ⟨k1, k2⟩ | ⟨k1, k2⟩ <;> rw [k2] <;>
    rcases compareInt_cases a.id b.id with ⟨i1, i2⟩ | ⟨i1, i2⟩ | ⟨i1, i2⟩ <;> rw [i2] <;>
    rcases compareInt_cases a.adv b.adv with ⟨d1, d2⟩ | ⟨d1, d2⟩ | ⟨d1, d2⟩ <;> rw [d2] <;> simp <;> omega
  cases hl : lessKy a b
  · rw [decide_eq_false_iff_not, this, hl]
    decide
  · rw [decide_eq_true_iff, this, hl]
end Go.Proofs.YtfdfdmbnggpnbaaGreat
