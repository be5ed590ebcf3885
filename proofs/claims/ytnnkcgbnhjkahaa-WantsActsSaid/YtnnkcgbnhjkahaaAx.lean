/- What the new texts want of the old ones. No conditions. -/
import Derived.Test.YtnnkcgbnhjkahaaZTq
namespace Go.Proofs.Ytnnkcgbnhjkahaa
section
open Go.RowKit Go.Lib Go.Sort
theorem toldL_snoc (S : List La) (x : La) : toldL (S ++ [x]) = if goneB x = true then toldL S else toldL S ++ [x.h] := by
  unfold toldL
  rw [List.filter_append, List.map_append]
  cases h : goneB x <;> simp [h]
end
section
open Go.RowKit Go.Lib Go.Sort Go.Deep
theorem lackStep_len {S : List La} {K : List Hd} {x : Hd} : (lackStep S K x).length ≤ K.length + 1 := by
  unfold lackStep
  split
  · split
    · simp
    · split
      · split
        · simp
        · omega
      · omega
  · omega
theorem lacksF_len {S : List La} : ∀ (L K : List Hd), (L.foldl (lackStep S) K).length ≤ K.length + L.length
  | [], _ => Nat.le_refl _
  | a :: L, K => by
    have h1 := lacksF_len (S := S) L (lackStep S K a)
    have h2 := lackStep_len (S := S) (K := K) (x := a)
    rw [List.foldl_cons, List.length_cons]
    omega
theorem lacksL_len (S : List La) (L : List Hd) : (lacksL S L).length ≤ L.length := by
  have := lacksF_len (S := S) L []
  rw [List.length_nil, Nat.zero_add] at this
  exact this
theorem pdb_age {w : World} {lo p : Nat} {room : Int} {S : List La} {F : Nat → Prop} (h : PDb w lo p room S F) {k : Ky} {y : La} (hy : getL S k = some y) : ageB y.h = true := by
  obtain ⟨_, _, _, -, -, -, -, -, -, -, -, h5, -⟩ := h
  rw [ageB_iff]
  exact right_age (h5 y (getL_some hy).1)
end
end Go.Proofs.Ytnnkcgbnhjkahaa
