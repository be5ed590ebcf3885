/- A tick, as what it makes of the list that a database holds, one by one: plain facts. No conditions. -/
import Derived.Test.YtlcaaoflbldocaaGn
namespace Go.Proofs.Ytlcaaoflbldocaa

/-- The first j are a tick on. -/
def tickUp (S : List La) (j : Nat) : List La := (S.take j).map tickL ++ S.drop j
theorem tickUp_zero (S : List La) : tickUp S 0 = S := by simp [tickUp]
theorem tickUp_all (S : List La) : tickUp S S.length = S.map tickL := by simp [tickUp]
theorem tickUp_length (S : List La) (j : Nat) : (tickUp S j).length = S.length := by
  simp [tickUp]
  omega
theorem tickUp_keys (S : List La) (j : Nat) : (tickUp S j).map kyL = S.map kyL := by
  unfold tickUp
  rw [List.map_append, List.map_map]
  have : kyL ∘ tickL = kyL := funext fun x => key_tick x
  rw [this, ← List.map_append, List.take_append_drop]
theorem sortL_keys {S T : List La} (h : SortL S) (e : T.map kyL = S.map kyL) : SortL T := by
  unfold SortL at *
  have h1 : (S.map kyL).Pairwise (fun a b => lessKy a b = true) := List.pairwise_map.2 h
  rw [← e] at h1
  exact List.pairwise_map.1 h1
theorem tickUp_sort {S : List La} (h : SortL S) (j : Nat) : SortL (tickUp S j) := sortL_keys h (tickUp_keys S j)
theorem tickUp_right {S : List La} (h : ∀ x ∈ S, rightB x.h x.L x.M = true) (j : Nat) : ∀ x ∈ tickUp S j, rightB x.h x.L x.M = true := by
  intro x hx
  unfold tickUp at hx
  rcases List.mem_append.1 hx with hx | hx
  · obtain ⟨y, hy, rfl⟩ := List.mem_map.1 hx
    exact right_tick (h y (List.mem_of_mem_take hy))
  · exact h x (List.mem_of_mem_drop hx)
/-- The round's item, and the rest. -/
theorem tickUp_split {S : List La} {j : Nat} {x : La} (hx : S[j]? = some x) : tickUp S j = (S.take j).map tickL ++ x :: S.drop (j + 1) ∧ tickUp S (j + 1) = (S.take j).map tickL ++ tickL x :: S.drop (j + 1) := by
  have hj := (List.getElem?_eq_some_iff.1 hx).1
  have e1 : S.drop j = x :: S.drop (j + 1) := by
    rw [List.drop_eq_getElem_cons hj]
    congr 1
    exact (List.getElem?_eq_some_iff.1 hx).2
  have e2 : S.take (j + 1) = S.take j ++ [x] := by
    rw [List.take_add_one, hx]
    rfl
  unfold tickUp
  refine ⟨by rw [e1], ?_⟩
  rw [e2, List.map_append, List.append_assoc]
  rfl
theorem tickUp_mem {S : List La} {j : Nat} {x : La} (hx : S[j]? = some x) : x ∈ tickUp S j := by
  rw [(tickUp_split hx).1]
  simp
/-- One that is of the greatest age stays. -/
theorem tickUp_old {S : List La} {j : Nat} {x : La} (hx : S[j]? = some x) (h : ¬ x.h.age < 60) : tickUp S (j + 1) = tickUp S j := by
  obtain ⟨e1, e2⟩ := tickUp_split hx
  rw [e1, e2]
  unfold tickL
  rw [if_neg h]
theorem dropL_split {A B : List La} {x : La} (h : SortL (A ++ x :: B)) : dropL (A ++ x :: B) (kyL x) = A ++ B := by
  have hp := (List.pairwise_append.1 h)
  have h1 : ∀ y ∈ A, kyL y ≠ kyL x := fun y hy e => by
    have := hp.2.2 y hy x (by simp)
    rw [e, lessKy_irrefl] at this
    cases this
  have h2 : ∀ y ∈ B, kyL y ≠ kyL x := fun y hy e => by
    have := (List.pairwise_cons.1 hp.2.1).1 y hy
    rw [e, lessKy_irrefl] at this
    cases this
  have e1 := dropL_none h1
  have e2 := dropL_none h2
  have e3 : (!sameKy (kyL x) (kyL x)) = false := by rw [(sameKy_iff _ _).2 rfl]; rfl
  unfold dropL at *
  rw [List.filter_append, List.filter_cons, e3, e1]
  simpa using e2
/-- One that is younger is laid anew. -/
theorem tickUp_perm {S T : List La} {j : Nat} {x : La} (hs : SortL S) (hx : S[j]? = some x) (hp : T.Perm (tickUp S j)) : (tickL x :: dropL T (kyL x)).Perm (tickUp S (j + 1)) := by
  obtain ⟨e1, e2⟩ := tickUp_split hx
  have hs2 := tickUp_sort hs j
  rw [e1] at hs2
  have h1 : (dropL T (kyL x)).Perm ((S.take j).map tickL ++ S.drop (j + 1)) := by
    rw [← dropL_split hs2, ← e1]
    exact hp.filter _
  rw [e2]
  exact (h1.cons _).trans List.perm_middle.symm
theorem tickKeysL_next {S : List La} {j : Nat} {x : La} (hx : S[j]? = some x) : tickKeysL (S.take (j + 1)) = tickKeysL (S.take j) ++ (if x.h.age = 59 then [kyL x] else []) := by
  have e2 : S.take (j + 1) = S.take j ++ [x] := by
    rw [List.take_add_one, hx]
    rfl
  rw [e2]
  unfold tickKeysL
  rw [List.filter_append, List.map_append]
  congr 1
  by_cases h : x.h.age = 59
  · rw [if_pos h, List.filter_cons, if_pos (by simpa using h)]
    rfl
  · rw [if_neg h, List.filter_cons, if_neg (by simpa using h)]
    rfl
end Go.Proofs.Ytlcaaoflbldocaa
