/- Keys of the call's own, sorted by the library's sort under the program's compare. Conditions: at most 1000 keys. -/
import Derived.Test.YtndjoanlbaiaeaaGd
import Derived.Test.YtndjoanlbaiaeaaJaj
import Derived.Test.YtndjoanlbaiaeaaSh
namespace Go.Proofs.Ytndjoanlbaiaeaa
open Go.RowKit Go.Shelf Go.Lib Go.Sort

def encKy (k : Ky) : List Value := [.int .i64 k.kind, .int .i64 k.id, .int .i64 k.adv]
theorem flat_ky (K : List Ky) : flatK encKy 3 K.toArray = (kyCells K).toArray := by
  refine ext_get! (by simp [kyCells_length]) fun t ht => ?_
  have ht' : t < K.toArray.size * 3 := by simpa using ht
  have ht2 : t < K.length * 3 := by simpa using ht'
  rw [get_flatK _ _ _ t ht']
  have hd : t / 3 < K.length := by omega
  have hK : K[t / 3]? = some (K[t / 3]'hd) := List.getElem?_eq_getElem hd
  have h1 : (kyCells K)[t / 3 * 3 + t % 3]? = (encKy _)[t % 3]? := kyCells_at K (t / 3) _ hK (t % 3) (by omega)
  rw [show t / 3 * 3 + t % 3 = t by omega] at h1
  have h2 : K.toArray[t / 3]! = K[t / 3]'hd := by
    rw [getElem!_pos K.toArray (t / 3) (by simpa using hd)]
    simp
  rw [h2]
  have hl : t < (kyCells K).toArray.size := by simp [kyCells_length]; omega
  have h3 : t % 3 < (encKy (K[t / 3]'hd)).length := by simp [encKy]; omega
  rw [getElem!_pos (kyCells K).toArray t hl, getElem!_pos _ (t % 3) h3]
  rw [List.getElem?_eq_getElem (by simpa using hl), List.getElem?_eq_getElem h3] at h1
  injection h1 with h1
  simpa using h1.symm
section
variable {w : World} {g : Nat} {e : TypeId} {cur : Array Value} {F : Array Value}
theorem holds7 (hb : w.heap[g]? = some (.cells cur e (0, 0))) (ht : cur.toList.take F.size = F.toList) : Holds id w g 0 F := by
  intro j hj
  refine ⟨?_, by simp [World.frozen?, hb]⟩
  have h1 : (cur.toList.take F.size)[j]? = F.toList[j]? := by rw [ht]
  rw [List.getElem?_take_of_lt hj] at h1
  simp only [World.cell?, hb, Nat.zero_add]
  simp only [Option.isSome_none, Bool.false_eq_true, if_false]
  rw [← Array.getElem?_toList, h1]
  simp [hj]
theorem heap_sorted7 {n : Nat} {os : Array Obj} {fr : Nat × Nat} (F : Array Value) (hb : w.heap[g]? = some (.cells cur e fr)) :
    (grow (putRow id (Sort.ahead w n) g 0 F) os).heap[g]? = some (.cells (putCells id 0 F cur) e fr) := by
  have hg : g < w.heap.size := (Array.getElem?_eq_some_iff.1 hb).1
  rw [heap_grow_old _ _ (by simpa using hg)]
  simp [putRow, mapBlock, Sort.ahead, Array.getElem?_modify, hb, onCells]
theorem grownBy_sorted7 {n : Nat} {os : Array Obj} (F : Array Value) : w.grownBy (grow (putRow id (Sort.ahead w n) g 0 F) os) (some g) := by
  refine ⟨rfl, rfl, rfl, by simp, fun k hk hne => ?_⟩
  rw [heap_grow_old _ _ (by simpa using hk)]
  have : g ≠ k := fun e => hne (by rw [e])
  simp [putRow, mapBlock, Sort.ahead, Array.getElem?_modify, this]
theorem take_putCells7 (h : F.size ≤ cur.size) : (putCells id 0 F cur).toList.take F.size = F.toList := by
  apply List.ext_getElem?
  intro j
  by_cases hj : j < F.size
  · rw [List.getElem?_take_of_lt hj, Array.getElem?_toList]
    simp [putCells, hj, show j < cur.size by omega]
  · rw [List.getElem?_take_eq_none (by omega), List.getElem?_eq_none (by simp; omega)]
end
/-- In order, equals let. -/
def leKy (a b : Ky) : Bool := !lessKy b a
theorem ltOf_cmpK (x y : Ky) : ltOf cmpK x y = lessKy x y := cmpK_less x y
theorem swo_cmpK : SWO (ltOf cmpK) where
  irrefl x := by rw [ltOf_cmpK]; exact lessKy_irrefl x
  trans x y z h1 h2 := by rw [ltOf_cmpK] at *; exact lessKy_trans h1 h2
  ntrans x y z h1 h2 := by
    rw [ltOf_cmpK] at *
    cases h : lessKy x z
    · rfl
    · have n1 : ¬ lessKy x y = true := by rw [h1]; decide
      have n2 : ¬ lessKy y z = true := by rw [h2]; decide
      rw [lessKy_iff] at n1 n2 h
      omega
theorem enters_cmp7 : ∀ args w, (callFunc 31 args).run Try.prog w = .ok (.enter 31 args) w := enters_of Try.func31 (by kernel_rfl) rfl
set_option maxHeartbeats 2000000 in
theorem sort_keys7 {w : World} {base n c : Nat} {A : Option Addr} {K : List Ky} (ho : w.ownsRow base 34 3 (.slice A n c) n (kyCells K)) (hn : n ≤ 1000) :
    Calls Try.prog 30 #[.slice A n c, .func (.func 31) #[] #[]] w
      fun e w' => e = .returned (.tuple #[]) ∧ w'.ownsRow base 34 3 (.slice A n c) n (kyCells (K.mergeSort leKy)) ∧ w.grownBy w' (Value.slice A n c).ownBlock := by
  have hl := ho.1
  rw [kyCells_length] at hl
  have hlK : K.length = n := by omega
  rcases ho.2 with ⟨hv, hn0⟩ | ⟨g, cap, cur, hv, hbase, hb, h1, h2, h3, h4⟩
  · injection hv with e1 e2 e3
    subst e1 e2 e3
    have hK : K = [] := List.eq_nil_of_length_eq_zero hlK
    subst hK
    refine (AnyF.slices_SortFunc_none { sortKy7 with } none 0 (.func (.func 31) #[] #[]) w).mono ?_
    rintro e w' ⟨rfl, rfl⟩
    exact ⟨rfl, by simpa using ho, ⟨rfl, rfl, rfl, Nat.le_refl _, fun _ _ _ => rfl⟩⟩
  · cases hv
    have hF : (flatK encKy 3 K.toArray) = (kyCells K).toArray := flat_ky K
    have hH : HoldsK encKy 3 w g 0 K.toArray := by
      unfold HoldsK
      rw [hF]
      refine holds7 hb ?_
      rw [List.size_toArray, kyCells_length, hlK, h4]
    have hcon := AnyQ.slices_SortFunc_total sortKy7 3 Try.isAgg34 Try.sizeOf34 encKy (fun _ => rfl) (fun x v hv => by simp [encKy] at hv; rcases hv with rfl | rfl | rfl <;> rfl) cmpK swo_cmpK 31 #[] g 0 c K.toArray w enters_cmp7 (fun _ _ _ _ x y => compare7 x y _) hH (Array.getElem?_eq_some_iff.1 hb).1 (by simp; omega) (fun x y h1 h2 => by
      rw [ltOf_cmpK] at h1 h2
      refine Classical.byContradiction fun h => ?_
      exact absurd (lessKy_total h1 h) (by rw [h2]; decide))
    have hle : (fun x y => !(ltOf cmpK) y x) = leKy := by
      funext x y
      rw [ltOf_cmpK]
      rfl
    rw [hle] at hcon
    simp only [List.size_toArray, hlK] at hcon
    refine Calls.mono hcon ?_
    rintro e w' ⟨rfl, m, os, rfl⟩
    unfold sortWorldK putRowK
    rw [flat_ky]
    have hls : (kyCells (K.mergeSort leKy)).length = n * 3 := by rw [kyCells_length, List.length_mergeSort, hlK]
    refine ⟨rfl, ⟨hls, .inr ⟨g, c, _, rfl, hbase, heap_sorted7 _ hb, h1, h2, by simp [putCells, h3], ?_⟩⟩, grownBy_sorted7 _⟩
    have h5 := take_putCells7 (cur := cur) (F := (kyCells (K.mergeSort leKy)).toArray) (by
      simp [hls, h3]
      omega)
    simpa [hls] using h5
end Go.Proofs.Ytndjoanlbaiaeaa
