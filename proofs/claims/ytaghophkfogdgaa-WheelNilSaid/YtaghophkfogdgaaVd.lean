/- A row of timers, as the library's sort sees it; the sort of at most twelve. Conditions: what the words say. -/
import Derived.Test.YtaghophkfogdgaaVb
import Derived.Test.YtaghophkfogdgaaVc
import Derived.Test.YtaghophkfogdgaaTo
namespace Go.Proofs.Ytaghophkfogdgaa
open Go.Shelf Go.RowKit Go.Lib Go.Sort

def encW (x : WT) : List Value := encTm x.t
theorem encW_len (x : WT) : (encW x).length = 6 := rfl
theorem encW_ones (x : WT) : ∀ v ∈ encW x, v.oneCell' = true := encTm_ones x.t
theorem flat_by (D : Array WT) : flatK encW 6 D = (cellsBy encTm (D.toList.map (·.t))).toArray := by
  have hl : (cellsBy encTm (D.toList.map (·.t))).length = D.size * 6 := by rw [by_length encTm_len]; simp
  refine ext_get! (by simp [hl]) fun t ht => ?_
  have ht' : t < D.size * 6 := by simpa using ht
  rw [get_flatK _ _ _ t ht']
  have hd : t / 6 < D.size := by omega
  have hK : (D.toList.map (·.t))[t / 6]? = some (D[t / 6]'hd).t := by simp [hd]
  have h1 : (cellsBy encTm (D.toList.map (·.t)))[t / 6 * 6 + t % 6]? = (encTm (D[t / 6]'hd).t)[t % 6]? := by_at encTm_len _ (t / 6) _ hK (t % 6) (by omega)
  rw [show t / 6 * 6 + t % 6 = t by omega] at h1
  rw [getElem!_pos D (t / 6) hd]
  have hlt : t < (cellsBy encTm (D.toList.map (·.t))).toArray.size := by simp [hl]; omega
  have h3 : t % 6 < (encTm (D[t / 6]'hd).t).length := by rw [encTm_len]; omega
  rw [getElem!_pos _ t hlt]
  show (encTm (D[t / 6]'hd).t)[t % 6]! = _
  rw [getElem!_pos _ (t % 6) h3]
  rw [List.getElem?_eq_getElem (by simpa using hlt), List.getElem?_eq_getElem h3] at h1
  injection h1 with h1
  simpa using h1.symm
section
variable {w : World} {g : Nat} {e : TypeId} {cur : Array Value} {F : Array Value}
theorem holds8 (hb : w.heap[g]? = some (.cells cur e (0, 0))) (ht : cur.toList.take F.size = F.toList) : Holds id w g 0 F := by
  intro j hj
  refine ⟨?_, by simp [World.frozen?, hb]⟩
  have h1 : (cur.toList.take F.size)[j]? = F.toList[j]? := by rw [ht]
  rw [List.getElem?_take_of_lt hj] at h1
  simp only [World.cell?, hb, Nat.zero_add]
  simp only [Option.isSome_none, Bool.false_eq_true, if_false]
  rw [← Array.getElem?_toList, h1]
  simp [hj]
theorem heap_sorted8 {n : Nat} {os : Array Obj} {fr : Nat × Nat} (F : Array Value) (hb : w.heap[g]? = some (.cells cur e fr)) :
    (grow (putRow id (Sort.ahead w n) g 0 F) os).heap[g]? = some (.cells (putCells id 0 F cur) e fr) := by
  have hg : g < w.heap.size := (Array.getElem?_eq_some_iff.1 hb).1
  rw [heap_grow_old _ _ (by simpa using hg)]
  simp [putRow, mapBlock, Sort.ahead, Array.getElem?_modify, hb, onCells]
theorem grownBy_sorted8 {n : Nat} {os : Array Obj} (F : Array Value) : w.grownBy (grow (putRow id (Sort.ahead w n) g 0 F) os) (some g) := by
  refine ⟨rfl, rfl, rfl, by simp, fun k hk hne => ?_⟩
  rw [heap_grow_old _ _ (by simpa using hk)]
  have : g ≠ k := fun e => hne (by rw [e])
  simp [putRow, mapBlock, Sort.ahead, Array.getElem?_modify, this]
theorem take_putCells8 (h : F.size ≤ cur.size) : (putCells id 0 F cur).toList.take F.size = F.toList := by
  apply List.ext_getElem?
  intro j
  by_cases hj : j < F.size
  · rw [List.getElem?_take_of_lt hj, Array.getElem?_toList]
    simp [putCells, hj, show j < cur.size by omega]
  · rw [List.getElem?_take_eq_none (by omega), List.getElem?_eq_none (by simp; omega)]
end
theorem grown_world {w : World} {g m : Nat} {D : Array WT} {os : Array Obj} : w.grownBy (sortWorldK encW 6 w g 0 m D os) (some g) := grownBy_sorted8 (flatK encW 6 D)
/-- What a sort leaves, as a row. -/
theorem own_sorted {w W : World} {base n c g : Nat} {L : List Tm} {D : Array WT} (ho : w.ownsRow base 33 6 (.slice (some ⟨g, 0, none⟩) n c) n (cellsBy encTm L)) (hD : D.size = n) (hS : SWK encW 6 w g 0 D W) :
    W.ownsRow base 33 6 (.slice (some ⟨g, 0, none⟩) n c) n (cellsBy encTm (D.toList.map (·.t))) ∧ w.grownBy W (some g) := by
  obtain ⟨m, os, rfl⟩ := hS
  refine ⟨?_, grown_world⟩
  rcases ho.2 with ⟨hv, _⟩ | ⟨g', cap, cur, hv, hbase, hb, h1, h2, h3, h4⟩
  · cases hv
  · cases hv
    have hl : (cellsBy encTm (D.toList.map (·.t))).length = n * 6 := by rw [by_length encTm_len]; simp [hD]
    unfold sortWorldK putRowK
    rw [flat_by]
    refine ⟨hl, .inr ⟨g, c, _, rfl, hbase, heap_sorted8 _ hb, h1, h2, by simp [putCells, h3], ?_⟩⟩
    have h5 := take_putCells8 (cur := cur) (F := (cellsBy encTm (D.toList.map (·.t))).toArray) (by
      simp [hl, h3]
      omega)
    simpa [hl] using h5
theorem holds_row {w : World} {base n c g : Nat} {D : Array WT} (ho : w.ownsRow base 33 6 (.slice (some ⟨g, 0, none⟩) n c) n (cellsBy encTm (D.toList.map (·.t)))) (hD : D.size = n) : HoldsK encW 6 w g 0 D := by
  rcases ho.2 with ⟨hv, _⟩ | ⟨g', cap, cur, hv, hbase, hb, h1, h2, h3, h4⟩
  · cases hv
  · cases hv
    unfold HoldsK
    rw [flat_by]
    refine holds8 hb ?_
    have hl : (cellsBy encTm (D.toList.map (·.t))).length = n * 6 := by rw [by_length encTm_len]; simp [hD]
    rw [List.size_toArray, hl, h4]
theorem enters8 : ∀ args w, (callFunc 22 args).run Try.prog w = .ok (.enter 22 args) w := enters_of Try.func22 (by kernel_rfl) rfl
/-- The program's compare, in whatever world a sort comes through. -/
theorem cmp_sort {w : World} {p b g n : Nat} {R : List En} (h : PWh w p b R) (hp : p ≠ g) (hb : b ≠ g) : CmpM Try.prog 22 (.pointer (some ⟨p, 0, none⟩)) encW 6 (cfW R) g 0 n w := by
  intro m os dk _ x y
  have hg : w.grownBy (sortWorldK encW 6 w g 0 m dk os) (some g) := grown_world
  exact compare8 x.t y.t x.ok y.ok _ (h.chg (Chg.of_grown (F := fun q => q = g) hg (fun q hq => by cases hq; rfl)) hp hb)
/-- What a sort must do, of its plain outcome. -/
theorem sort_fin {w : World} {p b base n c : Nat} {R : List En} {A : Option Addr} {L : List Tm} (h : PWh w p b R) (ho : w.ownsRow base 33 6 (.slice A n c) n (cellsBy encTm L)) (hw : ∀ t ∈ L, wfTm t)
    (hsort : ∀ (g : Nat) (D : Array WT), A = some ⟨g, 0, none⟩ → D.size = n → CmpM Try.prog 22 (.pointer (some ⟨p, 0, none⟩)) encW 6 (cfW R) g 0 D.size w → RowK encW 6 w g 0 D →
      Calls Try.prog 21 #[.slice (some ⟨g, 0, none⟩) D.size c, .func (.func 22) #[.pointer (some ⟨p, 0, none⟩)] #[]] w fun e w' => e = .returned (.tuple #[]) ∧ ∃ D' : Array WT, SWK encW 6 w g 0 D' w' ∧ PermIn 0 D.size D D' ∧ SortedIn (ltOf (cfW R)) 0 D.size D') :
    Calls Try.prog 21 #[.slice A n c, .func (.func 22) #[.pointer (some ⟨p, 0, none⟩)] #[]] w
      fun e w' => e = .returned (.tuple #[]) ∧ (∃ L', w'.ownsRow base 33 6 (.slice A n c) n (cellsBy encTm L') ∧ L'.Perm L ∧ L'.Pairwise (fun a b => leT R a b = true)) ∧ w.grownBy w' (Value.slice A n c).ownBlock := by
  have hln := own_len encTm_len (by omega) ho
  rcases own_addr7 ho with ⟨rfl, rfl, rfl⟩ | ⟨g, rfl⟩
  · refine (AnyF.slices_SortFunc_none { sortTm8 with } none 0 (.func (.func 22) #[.pointer (some ⟨p, 0, none⟩)] #[]) w).mono ?_
    rintro e w' ⟨rfl, rfl⟩
    have hL : L = [] := List.eq_nil_of_length_eq_zero hln
    subst hL
    exact ⟨rfl, ⟨[], ho, List.Perm.refl _, List.Pairwise.nil⟩, ⟨rfl, rfl, rfl, Nat.le_refl _, fun _ _ _ => rfl⟩⟩
  · obtain ⟨DL, hDL⟩ : ∃ DL : List WT, DL.map (fun x : WT => x.t) = L := ⟨L.attach.map (fun x : {x // x ∈ L} => (⟨x.1, hw x.1 x.2⟩ : WT)), by
      rw [List.map_map]
      exact List.attach_map_subtype_val L⟩
    have hsz : DL.toArray.size = n := by rw [List.size_toArray, ← hln, ← hDL, List.length_map]
    have ho' : w.ownsRow base 33 6 (.slice (some ⟨g, 0, none⟩) n c) n (cellsBy encTm (DL.toArray.toList.map (·.t))) := by
      rw [show DL.toArray.toList = DL from rfl, hDL]
      exact ho
    have hg := (ho.lt g rfl).2
    have hH := holds_row ho' hsz
    have hpg : p ≠ g := fun e => own_ne_blk ho h.1 (by decide) (by rw [e]; rfl)
    have hbg : b ≠ g := fun e => own_ne_map h.2 ho (by rw [e]; rfl)
    have hc := hsort g DL.toArray rfl hsz (cmp_sort h hpg hbg) ⟨encW_len, encW_ones, hH, hg⟩
    rw [hsz] at hc
    refine hc.mono ?_
    rintro e w' ⟨rfl, D', hS, hP, hO⟩
    have hs' : D'.size = n := hP.1.trans hsz
    obtain ⟨o1, o2⟩ := own_sorted ho hs' hS
    refine ⟨rfl, ⟨D'.toList.map (·.t), o1, ?_, ?_⟩, o2⟩
    · have hp2 := hP.2.2
      have x1 : (D'.extract 0 n).toList = D'.toList := by rw [← hs']; simp
      have x2 : (DL.toArray.extract 0 n).toList = DL := by rw [← hsz]; simp
      rw [x1, x2] at hp2
      rw [← hDL]
      exact hp2.map _
    · rw [List.pairwise_map, List.pairwise_iff_getElem]
      intro i j hi hj hij
      have hi' : i < D'.size := by simpa using hi
      have hj' : j < D'.size := by simpa using hj
      have h1 := hO i j (Nat.zero_le _) hij (by omega)
      rw [getElem!_pos D' i hi', getElem!_pos D' j hj', ltW] at h1
      rw [leT_eq]
      simpa using h1
theorem sort_twelve : SortUpto 12 := by
  intro w p b R base n c A L h ho hw hn
  refine sort_fin h ho hw (fun g D _ hD hC hR => ?_)
  refine (sortM12 sortTm8 6 Try.isAgg33 Try.sizeOf33 encW (cfW R) 22 (.pointer (some ⟨p, 0, none⟩)) g 0 c D w enters8 hC hR (by omega)).mono ?_
  rintro e w' ⟨rfl, hS⟩
  obtain ⟨h1, h2⟩ := insertionSort_holds (lt := ltOf (cfW R)) (swoW R) D 0 D.size (Nat.zero_le _) (Nat.le_refl _)
  exact ⟨rfl, _, hS, h1, h2⟩
end Go.Proofs.Ytaghophkfogdgaa
