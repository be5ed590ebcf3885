/- The library's sort of a row of heads of the call's own, whose keys are different ones. Conditions: at most 100000 heads. -/
import Derived.Test.YtnnkcgbnhjkahaaAz
import Derived.Test.YtnnkcgbnhjkahaaAa
import Derived.Test.YtnnkcgbnhjkahaaJap
import Derived.Test.YtnnkcgbnhjkahaaJam
namespace Go.Proofs.Ytnnkcgbnhjkahaa
open Go.RowKit Go.Shelf Go.Lib Go.Sort

set_option maxHeartbeats 2000000 in
theorem sort_wanted {w : World} {base n c : Nat} {A : Option Addr} {K : List Hd} (ho : w.ownsRow base 38 7 (.slice A n c) n (cellsBy encHd K)) (hn : n ≤ 100000) (hk : K.Pairwise fun a b => keyH a ≠ keyH b) :
    Calls Try.prog 42 #[.slice A n c, .func (.func 43) #[] #[]] w
      fun e w' => e = .returned (.tuple #[]) ∧ (∃ K', SortH K' ∧ K'.Perm K ∧ w'.ownsRow base 38 7 (.slice A n c) n (cellsBy encHd K')) ∧ w.grownBy w' (Value.slice A n c).ownBlock := by
  have hlK := own_lenH encHd_len (by omega) ho
  rcases ho.2 with ⟨hv, hn0⟩ | ⟨g, cap, cur, hv, hbase, hb, h1, h2, h3, h4⟩
  · injection hv with e1 e2 e3
    subst e1 e2 e3
    obtain rfl : K = [] := List.eq_nil_of_length_eq_zero hlK
    refine (AnyF.slices_SortFunc_none { sortHd7 with } none 0 (.func (.func 43) #[] #[]) w).mono ?_
    rintro e w' ⟨rfl, rfl⟩
    exact ⟨rfl, ⟨[], List.Pairwise.nil, List.Perm.refl _, ho⟩, rfl, rfl, rfl, Nat.le_refl _, fun _ _ _ => rfl⟩
  · cases hv
    obtain ⟨d, hd⟩ : ∃ d, d = K.toArray := ⟨_, rfl⟩
    have hdz : d.size = n := by rw [hd, List.size_toArray, hlK]
    have hH : HoldsK encHd 7 w g 0 d := by
      unfold HoldsK
      rw [hd, flat_hd]
      refine holds7 hb ?_
      rw [List.size_toArray, by_length encHd_len, hlK, h4]
    have hblk : g < w.heap.size := (Array.getElem?_eq_some_iff.1 hb).1
    have hcon := AnyQ.slices_SortFunc sortHd7 7 Try.isAgg38 Try.sizeOf38 encHd encHd_len encHd_ones cmpH swo_cmpH 43 #[] g 0 c d w enters_cmpH (fun m os dk _ x y => by
      rw [Array.append_empty]
      exact compareH x y _) hH hblk (by omega)
    rw [hdz] at hcon
    refine Calls.mono hcon ?_
    rintro e w' ⟨rfl, d', m, os, hp, hs, rfl⟩
    have hz : d'.size = n := by rw [hp.1, hdz]
    have hl : d'.toList.length = n := by rw [Array.length_toList, hz]
    have hperm : d'.toList.Perm K := by
      have h5 := hp.2.2
      have e1 : d'.extract 0 n = d' := by rw [← hz]; exact Array.extract_size
      have e2 : d.extract 0 n = d := by rw [← hdz]; exact Array.extract_size
      rw [e1, e2, hd] at h5
      exact h5
    have hfl : flatK encHd 7 d' = (cellsBy encHd d'.toList).toArray := by rw [← flat_hd]
    have hls : (cellsBy encHd d'.toList).length = n * 7 := by rw [by_length encHd_len, hl]
    have hord : Ord lessH d'.toList := by
      rw [← ltOf_cmpH]
      exact ord_of_sorted (by rw [hz]; exact hs)
    have hne : d'.toList.Pairwise fun a b => keyH a ≠ keyH b := (hperm.pairwise_iff (R := fun r s => keyH r ≠ keyH s) (fun {_ _} hne => Ne.symm hne)).2 hk
    refine ⟨rfl, ⟨d'.toList, ?_, hperm, ?_⟩, ?_⟩
    · refine List.Pairwise.imp₂ (fun a b e1 e2 => ?_) hord hne
      exact lessKy_total e1 (Ne.symm e2)
    · unfold sortWorldK putRowK
      rw [hfl]
      refine ⟨hls, .inr ⟨g, c, _, rfl, hbase, heap_sorted7 _ hb, h1, h2, by simp [putCells, h3], ?_⟩⟩
      have h5 := take_putCells7 (cur := cur) (F := (cellsBy encHd d'.toList).toArray) (by
        rw [List.size_toArray, hls, h3]
        omega)
      rw [List.size_toArray, hls] at h5
      exact h5
    · unfold sortWorldK putRowK
      exact grownBy_sorted7 _
end Go.Proofs.Ytnnkcgbnhjkahaa
