/- What the new texts want of the old ones. No conditions. -/
import Derived.Test.YtnnkcgbnhjkahaaZTq
import Derived.Ground.SlgcProg
import Derived.Ground.SlgnProg
import Derived.Ground.SlsfProg
import Derived.Shelf.SlSortCmp.NoneTotal
import Derived.Shelf.SlSortCmp.WholeK
import Derived.Shelf.SlicesE.Clone
import Derived.Shelf.SlicesG.Cmp
import Derived.Sort.Lot0
import Derived.Sort.LotA
namespace Go.Proofs.Ytnnkcgbnhjkahaa
section
open Go.Shelf
def sortHd7_ren : Go.Shelf.Ren := ⟨fun | 6 => 42 | 15 => 62 | 14 => 61 | 28 => 88 | 29 => 89 | 20 => 80 | 21 => 81 | 22 => 82 | 23 => 83 | 24 => 84 | 25 => 85 | 26 => 86 | 27 => 87 | 46 => 102 | 47 => 103 | 48 => 104 | 49 => 105 | 50 => 106 | 57 => 121 | n => n, fun | 22 => 27 | 24 => 38 | 25 => 80 | 3 => 3 | 39 => 105 | 0 => 0 | 53 => 125 | 55 => 127 | 4 => 4 | 46 => 119 | 45 => 118 | 50 => 94 | 5 => 5 | 9 => 9 | 66 => 137 | 70 => 141 | 76 => 156 | 77 => 157 | n => n, fun | n => n⟩
theorem sortHd7 : Go.Proofs.SlLaysF0.n6 Try.prog sortHd7_ren := {
  mixed := by kernel_rfl
  f6 := ⟨Try.f42.name, by decide, Try.func42.trans (congrArg some (by kernel_rfl))⟩
  f14 := ⟨Try.f61.name, by decide, Try.func61.trans (congrArg some (by kernel_rfl))⟩
  f15 := Try.func62.trans (congrArg some (by kernel_rfl))
  f20 := ⟨Try.f80.name, by decide, Try.func80.trans (congrArg some (by kernel_rfl))⟩
  f21 := ⟨Try.f81.name, by decide, Try.func81.trans (congrArg some (by kernel_rfl))⟩
  f22 := ⟨Try.f82.name, by decide, Try.func82.trans (congrArg some (by kernel_rfl))⟩
  f23 := ⟨Try.f83.name, by decide, Try.func83.trans (congrArg some (by kernel_rfl))⟩
  f24 := ⟨Try.f84.name, by decide, Try.func84.trans (congrArg some (by kernel_rfl))⟩
  f25 := ⟨Try.f85.name, by decide, Try.func85.trans (congrArg some (by kernel_rfl))⟩
  f26 := ⟨Try.f86.name, by decide, Try.func86.trans (congrArg some (by kernel_rfl))⟩
  f27 := ⟨Try.f87.name, by decide, Try.func87.trans (congrArg some (by kernel_rfl))⟩
  f28 := Try.func88.trans (congrArg some (by kernel_rfl))
  f29 := Try.func89.trans (congrArg some (by kernel_rfl))
  f46 := ⟨Try.f102.name, by decide, Try.func102.trans (congrArg some (by kernel_rfl))⟩
  f47 := Try.func103.trans (congrArg some (by kernel_rfl))
  f48 := Try.func104.trans (congrArg some (by kernel_rfl))
  f49 := ⟨Try.f105.name, by decide, Try.func105.trans (congrArg some (by kernel_rfl))⟩
  f50 := ⟨Try.f106.name, by decide, Try.func106.trans (congrArg some (by kernel_rfl))⟩
  f57 := ⟨Try.f121.name, by decide, Try.func121.trans (congrArg some (by kernel_rfl))⟩
  t0 := Try.underlying0
  a0 := Try.isAgg0
  z0 := Try.sizeOf0
  v0 := Try.zeroValue0
  t3 := Try.underlying3
  a3 := Try.isAgg3
  z3 := Try.sizeOf3
  v3 := Try.zeroValue3
  t4 := Try.underlying4
  a4 := Try.isAgg4
  z4 := Try.sizeOf4
  v4 := Try.zeroValue4
  t5 := Try.underlying5
  a5 := Try.isAgg5
  z5 := Try.sizeOf5
  v5 := Try.zeroValue5
  t9 := Try.underlying9
  a9 := Try.isAgg9
  z9 := Try.sizeOf9
  v9 := Try.zeroValue9
  t22 := Try.underlying27
  a22 := Try.isAgg27
  z22 := Try.sizeOf27
  v22 := Try.zeroValue27
  t25 := Try.underlying80
  a25 := Try.isAgg80
  z25 := Try.sizeOf80
  v25 := Try.zeroValue80
  t39 := Try.underlying105
  a39 := Try.isAgg105
  z39 := Try.sizeOf105
  v39 := Try.zeroValue105
  t45 := Try.underlying118
  a45 := Try.isAgg118
  z45 := Try.sizeOf118
  v45 := Try.zeroValue118
  t46 := Try.underlying119
  a46 := Try.isAgg119
  z46 := Try.sizeOf119
  v46 := Try.zeroValue119
  t50 := Try.underlying94
  a50 := Try.isAgg94
  z50 := Try.sizeOf94
  v50 := Try.zeroValue94
  t53 := Try.underlying125
  a53 := Try.isAgg125
  z53 := Try.sizeOf125
  v53 := Try.zeroValue125
  t55 := Try.underlying127
  a55 := Try.isAgg127
  z55 := Try.sizeOf127
  v55 := Try.zeroValue127
  t66 := Try.underlying137
  a66 := Try.isAgg137
  z66 := Try.sizeOf137
  v66 := Try.zeroValue137
  t70 := Try.underlying141
  a70 := Try.isAgg141
  z70 := Try.sizeOf141
  v70 := Try.zeroValue141
  t76 := Try.underlying156
  a76 := Try.isAgg156
  z76 := Try.sizeOf156
  v76 := Try.zeroValue156
  t77 := Try.underlying157
  a77 := Try.isAgg157
  z77 := Try.sizeOf157
  v77 := Try.zeroValue157 }
end
section
open Go.Sort
section
variable {α : Type} (lt : α → α → Bool)
end

section
variable {α : Type} {lt : α → α → Bool}
end

section
variable {α : Type} [Inhabited α] {lt : α → α → Bool}
theorem ord_of_sorted {d : Array α} (h : SortedIn lt 0 d.size d) : Ord lt d.toList := by
  unfold Ord
  rw [List.pairwise_iff_getElem]
  intro i j hi hj hij
  have := h i j (Nat.zero_le _) hij (by simpa using hj)
  rw [getElem!_pos d i (by simpa using hi), getElem!_pos d j (by simpa using hj)] at this
  simpa using this
end
end
section
open Go.RowKit Go.Shelf Go.Lib Go.Sort
section
variable {α : Type} {enc : α → List Value} {k : Nat}
end

/-- The order of heads: that of their keys. -/
def cmpH (a b : Hd) : Int := cmpK (keyH a) (keyH b)
theorem ltOf_cmpH : ltOf cmpH = lessH := by
  funext a b
  exact cmpK_less _ _
theorem swo_cmpH : SWO (ltOf cmpH) := by
  rw [ltOf_cmpH]
  exact swo_less
set_option maxRecDepth 8000 in
set_option maxHeartbeats 2000000 in
theorem keyOf_grown (h : Hd) (w : World) : Calls Try.prog 38 #[.agg #[.int .i64 h.age, .int .i64 h.kind, .int .i64 h.id, .int .i64 h.adv, .int .i64 h.seq, .int .i64 h.sum, .int .i64 h.long]] w
    fun e w' => e = .returned (.agg #[.int .i64 h.kind, .int .i64 h.id, .int .i64 h.adv]) ∧ ∃ q os', w' = grow (w.drewN q) os' := by
  have HG := Lib.hid (show ∃ q os', (w.alloc (.cells #[.int .i64 h.age, .int .i64 h.kind, .int .i64 h.id, .int .i64 h.adv, .int .i64 h.seq, .int .i64 h.sum, .int .i64 h.long] 38)).alloc (.cells #[.int .i64 h.kind, .int .i64 h.id, .int .i64 h.adv] 47) = grow (w.drewN q) os' from ⟨0, _, by rw [alloc_eq_grow, alloc_eq_grow, grow_grow]; rfl⟩)
  go_enter Try.func38, Try.ntmps38
  go_wp2
  refine bodyPost_ret (v := .agg #[.int .i64 h.kind, .int .i64 h.id, .int .i64 h.adv]) (by simp [results, Try.results38, go_sem, *]) rfl ?_
  exact ⟨rfl, HG.out⟩
set_option maxRecDepth 20000 in
set_option maxHeartbeats 8000000 in
/-- The function literal that the stable sort is handed. -/
theorem compareH (a b : Hd) (w : World) : Calls Try.prog 43 #[.agg #[.int .i64 a.age, .int .i64 a.kind, .int .i64 a.id, .int .i64 a.adv, .int .i64 a.seq, .int .i64 a.sum, .int .i64 a.long], .agg #[.int .i64 b.age, .int .i64 b.kind, .int .i64 b.id, .int .i64 b.adv, .int .i64 b.seq, .int .i64 b.sum, .int .i64 b.long]] w
    fun e w' => e = .returned (.int .i64 (cmpH a b)) ∧ ∃ q os', w' = grow (w.drewN q) os' := by
  obtain ⟨a0, a1, a2, a3, a4, a5, a6⟩ := Blk.sevenH (blk_new07 w #[.int .i64 a.age, .int .i64 a.kind, .int .i64 a.id, .int .i64 a.adv, .int .i64 a.seq, .int .i64 a.sum, .int .i64 a.long] 38 (.cells #[.int .i64 b.age, .int .i64 b.kind, .int .i64 b.id, .int .i64 b.adv, .int .i64 b.seq, .int .i64 b.sum, .int .i64 b.long] 38))
  obtain ⟨b0, b1, b2, b3, b4, b5, b6⟩ := Blk.sevenH (blk_new1 w (.cells #[.int .i64 a.age, .int .i64 a.kind, .int .i64 a.id, .int .i64 a.adv, .int .i64 a.seq, .int .i64 a.sum, .int .i64 a.long] 38) 38 #[.int .i64 b.age, .int .i64 b.kind, .int .i64 b.id, .int .i64 b.adv, .int .i64 b.seq, .int .i64 b.sum, .int .i64 b.long])
  have HG := Lib.hid (show ∃ os, (w.alloc (.cells #[.int .i64 a.age, .int .i64 a.kind, .int .i64 a.id, .int .i64 a.adv, .int .i64 a.seq, .int .i64 a.sum, .int .i64 a.long] 38)).alloc (.cells #[.int .i64 b.age, .int .i64 b.kind, .int .i64 b.id, .int .i64 b.adv, .int .i64 b.seq, .int .i64 b.sum, .int .i64 b.long] 38) = grow w os from ⟨_, by rw [alloc_eq_grow, alloc_eq_grow, grow_grow]⟩)
  have mixed : Try.prog.follows .mixedOrders = true := by kernel_rfl
  go_enter Try.func43, Try.ntmps43
  go_wp2_with fail
  generalize (w.alloc (.cells #[.int .i64 a.age, .int .i64 a.kind, .int .i64 a.id, .int .i64 a.adv, .int .i64 a.seq, .int .i64 a.sum, .int .i64 a.long] 38)).alloc (.cells #[.int .i64 b.age, .int .i64 b.kind, .int .i64 b.id, .int .i64 b.adv, .int .i64 b.seq, .int .i64 b.sum, .int .i64 b.long] 38) = w0 at *
  have p1 := fun n os => Calls.grown_of (keyOf_grown a (grow (w0.drewN n) os))
  have p2 := fun n os => Calls.grown_of (keyOf_grown b (grow (w0.drewN n) os))
  have p3 := fun n os => Calls.grown_of (compare7 (keyH a) (keyH b) (grow (w0.drewN n) os))
  have ga0 := fun n os => cell_grown (n := n) (os := os) (World.block_lt_of_cell? w0 _ a0) a0
  have ga1 := fun n os => cell_grown (n := n) (os := os) (World.block_lt_of_cell? w0 _ a1) a1
  have ga2 := fun n os => cell_grown (n := n) (os := os) (World.block_lt_of_cell? w0 _ a2) a2
  have ga3 := fun n os => cell_grown (n := n) (os := os) (World.block_lt_of_cell? w0 _ a3) a3
  have ga4 := fun n os => cell_grown (n := n) (os := os) (World.block_lt_of_cell? w0 _ a4) a4
  have ga5 := fun n os => cell_grown (n := n) (os := os) (World.block_lt_of_cell? w0 _ a5) a5
  have ga6 := fun n os => cell_grown (n := n) (os := os) (World.block_lt_of_cell? w0 _ a6) a6
  have gb0 := fun n os => cell_grown (n := n) (os := os) (World.block_lt_of_cell? w0 _ b0) b0
  have gb1 := fun n os => cell_grown (n := n) (os := os) (World.block_lt_of_cell? w0 _ b1) b1
  have gb2 := fun n os => cell_grown (n := n) (os := os) (World.block_lt_of_cell? w0 _ b2) b2
  have gb3 := fun n os => cell_grown (n := n) (os := os) (World.block_lt_of_cell? w0 _ b3) b3
  have gb4 := fun n os => cell_grown (n := n) (os := os) (World.block_lt_of_cell? w0 _ b4) b4
  have gb5 := fun n os => cell_grown (n := n) (os := os) (World.block_lt_of_cell? w0 _ b5) b5
  have gb6 := fun n os => cell_grown (n := n) (os := os) (World.block_lt_of_cell? w0 _ b6) b6
  clear a0 a1 a2 a3 a4 a5 a6 b0 b1 b2 b3 b4 b5 b6
  unfold keyH at p3
  dsimp only at p3
  rw [show cmpK ⟨a.kind, a.id, a.adv⟩ ⟨b.kind, b.id, b.adv⟩ = cmpH a b from rfl] at p3
  obtain ⟨r, hr⟩ : ∃ r, cmpH a b = r := ⟨_, rfl⟩
  rw [hr] at p3
  have HR := Lib.hid hr
  clear hr
  go_quiet_grown (first | (go_at_call 38; first | with_reducible exact p1 _ _ | with_reducible exact p2 _ _) | (go_at_call 63; with_reducible exact p3 _ _))
  obtain ⟨os, hos⟩ := HG.out
  go_wp2_with fail
  go_ret
  exact ⟨by rw [HR.out]; rfl, nq, os ++ osq, by rw [hos, ← grow_grow]; rfl⟩
theorem flat_hd (K : List Hd) : flatK encHd 7 K.toArray = (cellsBy encHd K).toArray := by
  refine ext_get! (by simp [by_length encHd_len]) fun t ht => ?_
  have ht' : t < K.toArray.size * 7 := by simpa using ht
  have ht2 : t < K.length * 7 := by simpa using ht'
  rw [get_flatK _ _ _ t ht']
  have hd : t / 7 < K.length := by omega
  have hK : K[t / 7]? = some (K[t / 7]'hd) := List.getElem?_eq_getElem hd
  have h1 : (cellsBy encHd K)[t / 7 * 7 + t % 7]? = (encHd _)[t % 7]? := by_at encHd_len K (t / 7) _ hK (t % 7) (by omega)
  rw [show t / 7 * 7 + t % 7 = t by omega] at h1
  have h2 : K.toArray[t / 7]! = K[t / 7]'hd := by
    rw [getElem!_pos K.toArray (t / 7) (by simpa using hd)]
    simp
  rw [h2]
  have hl : t < (cellsBy encHd K).toArray.size := by simp [by_length encHd_len]; omega
  have h3 : t % 7 < (encHd (K[t / 7]'hd)).length := by simp [encHd]; omega
  rw [getElem!_pos (cellsBy encHd K).toArray t hl, getElem!_pos _ (t % 7) h3]
  rw [List.getElem?_eq_getElem (by simpa using hl), List.getElem?_eq_getElem h3] at h1
  injection h1 with h1
  simpa using h1.symm
theorem enters_cmpH : ∀ args w, (callFunc 43 args).run Try.prog w = .ok (.enter 43 args) w := enters_of Try.func43 (by kernel_rfl) rfl
end
end Go.Proofs.Ytnnkcgbnhjkahaa
