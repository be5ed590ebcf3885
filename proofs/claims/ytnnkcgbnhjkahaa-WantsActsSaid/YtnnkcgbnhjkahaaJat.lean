/- Plain facts on two databases, one of which is told all that it lacks of the other one. No program, no conditions. · The walk of the statement SummSync. Conditions: what the words say. -/
import Derived.Test.YtnnkcgbnhjkahaaJas
import Derived.Test.YtnnkcgbnhjkahaaJaq
import Derived.Test.YtnnkcgbnhjkahaaJao
namespace Go.Proofs.Ytnnkcgbnhjkahaa
open Go.RowKit Go.Lib Go.Sort Go.Deep

theorem seal_other (a k i v s x y x' y' : Int) (L : List Lk) (M : List Int) : sealHd ⟨a, k, i, v, s, x, y⟩ L M = sealHd ⟨a, k, i, v, s, x', y'⟩ L M := rfl
theorem seal_two (x : La) : sealL (sealL x) = sealL x := by
  obtain ⟨⟨a, k, i, v, s, y, z⟩, L, M⟩ := x
  exact congrArg (fun h => (⟨h, L, M⟩ : La)) (seal_other a k i v s _ _ y z L M)
/-- What a database holds into which descriptions were put. -/
def bothL (T : List La) : List La := T.foldl (putS 40) []
theorem bothL_snoc (T : List La) (x : La) : bothL (T ++ [x]) = putS 40 (bothL T) x := by
  unfold bothL
  rw [List.foldl_append]
  rfl
theorem put_two (room : Int) (S : List La) (x : La) : (putE room S x = 0 ∧ putS room S x = insL (sealL x) (dropL S (kyL x))) ∨ (putE room S x ≠ 0 ∧ putS room S x = S) := by
  unfold putS
  by_cases h : putE room S x = 0
  · exact .inl ⟨h, if_pos h⟩
  · exact .inr ⟨h, if_neg h⟩
theorem put_mem {room : Int} {S : List La} {x y : La} (h : y ∈ putS room S x) : y ∈ S ∨ y = sealL x := by
  rcases put_two room S x with ⟨-, e⟩ | ⟨-, e⟩
  · rw [e] at h
    rcases mem_insL.1 h with h | h
    · exact .inr h
    · exact .inl (mem_drop.1 h).1
  · rw [e] at h
    exact .inl h
theorem key_seal (x : La) : kyL (sealL x) = kyL x := by
  unfold kyL sealL sealHd keyH
  dsimp only
theorem put_sort {room : Int} {S : List La} {x : La} (h : SortL S) : SortL (putS room S x) := by
  rcases put_two room S x with ⟨-, e⟩ | ⟨-, e⟩
  · rw [e]
    refine sort_insL (sort_drop h _) (fun y hy => ?_)
    rw [key_seal]
    exact (mem_drop.1 hy).2
  · rw [e]
    exact h
theorem bothF_ok : ∀ (T S : List La), (∀ x ∈ S, sealL x = x ∧ x.L.length ≤ 20 ∧ x.M.length ≤ 20) → (∀ a ∈ T, a.L.length ≤ 20 ∧ a.M.length ≤ 20) → ∀ x ∈ T.foldl (putS 40) S, sealL x = x ∧ x.L.length ≤ 20 ∧ x.M.length ≤ 20
  | [], _, h, _ => h
  | a :: T, S, h, ht => bothF_ok T _ (fun x hx => by
      rcases put_mem hx with h1 | rfl
      · exact h x h1
      · exact ⟨seal_two a, ht a List.mem_cons_self⟩) (fun b hb => ht b (List.mem_cons_of_mem _ hb))
theorem bothL_ok {T : List La} (ht : ∀ a ∈ T, a.L.length ≤ 20 ∧ a.M.length ≤ 20) : ∀ x ∈ bothL T, sealL x = x ∧ x.L.length ≤ 20 ∧ x.M.length ≤ 20 :=
  bothF_ok T [] (fun x hx => by cases hx) ht
theorem get_same {room : Int} {S : List La} {x : La} (hs : SortL S) (he : putE room S x = 0) : getL (putS room S x) (kyL x) = some (sealL x) := by
  have h1 : sealL x ∈ putS room S x := by
    unfold putS
    rw [if_pos he]
    exact mem_insL.2 (.inl rfl)
  exact getL_mem (put_sort hs) h1
theorem get_other {room : Int} {S : List La} {x : La} {k : Ky} (hs : SortL S) (hk : k ≠ kyL x) : getL (putS room S x) k = getL S k := by
  cases hg : getL S k with
  | some z =>
    obtain ⟨hz, e⟩ := getL_some hg
    have h1 : z ∈ putS room S x := by
      rcases put_two room S x with ⟨-, e2⟩ | ⟨-, e2⟩
      · rw [e2]
        exact mem_insL.2 (.inr (mem_drop.2 ⟨hz, fun h => hk (e.symm.trans h)⟩))
      · rw [e2]
        exact hz
    have := getL_mem (put_sort (room := room) (x := x) hs) h1
    rwa [e] at this
  | none =>
    refine getL_none.2 (fun y hy => ?_)
    rcases put_mem hy with h1 | rfl
    · exact getL_none.1 hg y h1
    · rw [key_seal]
      exact fun h => hk h.symm
/-- Behind the putting of D. -/
structure Synced (S : List La) (D : List Hd) (S' : List La) : Prop where
  sort : SortL S'
  had : ∀ h ∈ D, ∃ y, getL S' (keyH h) = some y ∧ y.h = h
  rest : ∀ k, (∀ h ∈ D, keyH h ≠ k) → getL S' k = getL S k
theorem Synced.start {S : List La} (h : SortL S) : Synced S [] S := ⟨h, fun _ hh => (nomatch hh), fun _ _ => rfl⟩
theorem Synced.step {S S' : List La} {D : List Hd} (h : Synced S D S') {x : La} (hx : sealL x = x) (hn : ∀ g ∈ D, keyH g ≠ keyH x.h) (he : putE 40 S' x = 0) : Synced S (D ++ [x.h]) (putS 40 S' x) := by
  refine ⟨put_sort h.sort, fun g hg => ?_, fun k hk => ?_⟩
  · rcases List.mem_append.1 hg with hg | hg
    · obtain ⟨y, h1, h2⟩ := h.had g hg
      exact ⟨y, (get_other h.sort (hn g hg)).trans h1, h2⟩
    · rw [List.mem_singleton] at hg
      subst hg
      exact ⟨sealL x, get_same h.sort he, by rw [hx]⟩
  · rw [get_other h.sort (fun e => hk x.h (by simp) e.symm)]
    exact h.rest k (fun g hg => hk g (List.mem_append.2 (.inl hg)))
theorem lacksF_filter {S : List La} : ∀ (L out : List Hd), (∀ g ∈ out, ∀ h ∈ L, keyH g ≠ keyH h) → (L.map keyH).Nodup → L.foldl (lackStep S) out = out ++ L.filter (lackB S)
  | [], out, _, _ => by simp
  | a :: L, out, ho, hn => by
    rw [List.map_cons, List.nodup_cons] at hn
    have hp : placeK out (keyH a) = none := by
      unfold placeK
      rw [List.findIdx?_eq_none_iff]
      intro g hg
      cases hs : sameKy (keyH g) (keyH a)
      · rfl
      · exact absurd ((sameKy_iff _ _).1 hs) (ho g hg a List.mem_cons_self)
    have hst : lackStep S out a = if lackB S a = true then out ++ [a] else out := by
      unfold lackStep
      rw [hp]
    rw [List.foldl_cons, hst]
    cases hl : lackB S a
    · rw [if_neg (by decide), lacksF_filter L out (fun g hg h hh => ho g hg h (List.mem_cons_of_mem _ hh)) hn.2, List.filter_cons_of_neg (by rw [hl]; decide)]
    · rw [if_pos rfl, lacksF_filter L (out ++ [a]) (fun g hg h hh => ?_) hn.2, List.filter_cons_of_pos hl, List.append_assoc]
      · rfl
      · rcases List.mem_append.1 hg with hg | hg
        · exact ho g hg h (List.mem_cons_of_mem _ hh)
        · rw [List.mem_singleton] at hg
          subst hg
          intro e
          exact hn.1 (List.mem_map.2 ⟨h, hh, e.symm⟩)
theorem lacks_filter {S : List La} {L : List Hd} (hn : (L.map keyH).Nodup) : lacksL S L = L.filter (lackB S) := by
  have := lacksF_filter (S := S) L [] (fun g hg => by cases hg) hn
  rwa [List.nil_append] at this
theorem key_one : ∀ {K : List Hd}, (K.map keyH).Nodup → ∀ g ∈ K, ∀ h ∈ K, keyH g = keyH h → g = h
  | [], _, g, hg, _, _, _ => by cases hg
  | a :: K, hn, g, hg, h, hh, e => by
    rw [List.map_cons, List.nodup_cons] at hn
    rcases List.mem_cons.1 hg with rfl | hg'
    · rcases List.mem_cons.1 hh with rfl | hh'
      · rfl
      · exact absurd (List.mem_map.2 ⟨h, hh', e.symm⟩) hn.1
    · rcases List.mem_cons.1 hh with rfl | hh'
      · exact absurd (List.mem_map.2 ⟨g, hg', e⟩) hn.1
      · exact key_one hn.2 g hg' h hh' e
/-- Then it lacks nothing of them. -/
theorem Synced.done {S S' : List La} {K : List Hd} (hn : (K.map keyH).Nodup) (h : Synced S (lacksL S K) S') : lacksL S' K = [] := by
  rw [lacks_filter hn] at h ⊢
  rw [List.filter_eq_nil_iff]
  intro g hg
  cases hl : lackB S g
  · have e : getL S' (keyH g) = getL S (keyH g) := h.rest _ (fun x hx e => by
      rw [List.mem_filter] at hx
      have := key_one hn x hx.1 g hg e
      rw [this, hl] at hx
      cases hx.2)
    unfold lackB at hl ⊢
    rw [e, hl]
    decide
  · obtain ⟨y, h1, h2⟩ := h.had g (List.mem_filter.2 ⟨hg, hl⟩)
    unfold lackB
    rw [h1]
    dsimp only
    rw [h2, nw_self]
    decide
theorem told_ord {S : List La} (hs : SortL S) : Ord lessH (toldL S) := by
  unfold Ord toldL
  rw [List.pairwise_map]
  refine (List.Pairwise.filter _ hs).imp (fun {a b} h => ?_)
  exact swo_asymm swo_less h
theorem told_nodup {S : List La} (hs : SortL S) : ((toldL S).map keyH).Nodup := by
  unfold toldL
  rw [List.map_map]
  unfold List.Nodup
  rw [List.pairwise_map]
  refine (List.Pairwise.filter _ hs).imp (fun {a b} h e => ?_)
  have e2 : kyL a = kyL b := e
  rw [e2, lessKy_irrefl] at h
  cases h
theorem told_mem {S : List La} {h : Hd} (hh : h ∈ toldL S) : ∃ x ∈ S, x.h = h := by
  unfold toldL at hh
  obtain ⟨x, hx, e⟩ := List.mem_map.1 hh
  exact ⟨x, (List.mem_filter.1 hx).1, e⟩
theorem told_is {S : List La} {K : List Hd} (hs : SortL S) (ho : Ord lessH K) (ht : Stab lessH (toldL S) K) : K = toldL S := (stab_unique swo_less (told_ord hs) ho ht).symm
theorem putE_seven {S : List La} {x : La} (hr : rightB x.h x.L x.M = true) (he : putE 40 S x ≠ 0) : (40 : Int) ≤ (S.length : Int) := by
  unfold putE at he
  rw [if_neg (by rw [hr]; decide)] at he
  split at he
  · rename_i h
    exact h.2
  · exact absurd rfl he
end Go.Proofs.Ytnnkcgbnhjkahaa
namespace Go.Proofs.Ytnnkcgbnhjkahaa
open Go.RowKit Go.Lib Go.Sort Go.Deep

/-- What All answers, read. -/
theorem all_las2 {w : World} {lo p : Nat} {room : Int} {S : List La} {F : Nat → Prop} (h : PDb w lo p room S F) (hs : SortL S) : Calls Try.prog 33 #[.pointer (some ⟨p, 0, none⟩)] w
    fun e w' => ∃ (A : Option Addr) (n c : Nat), e = .returned (.slice A n c) ∧ Below w.heap.size w w' ∧ Las w' w'.heap.size A n S ∧ n ≤ 40 := by
  have h0 := h
  obtain ⟨b, R, T, hB, h1, h2, hM, hA, hp, h3, h4, h5, hF⟩ := h
  refine (all_db h0 hs).mono ?_
  rintro e w' ⟨A, n, c, R', rfl, hb, ho, ha⟩
  have hL := las_of_own ho ha (fun x hx => right_short (h5 x hx))
  exact ⟨A, n, c, rfl, hb, hL, by have := hL.1; omega⟩
theorem pdb_right {w : World} {lo p : Nat} {room : Int} {S : List La} {F : Nat → Prop} (h : PDb w lo p room S F) : (S.length : Int) ≤ room ∧ ∀ x ∈ S, rightB x.h x.L x.M = true := by
  obtain ⟨_, _, _, -, -, -, -, -, -, h3, -, h5, -⟩ := h
  exact ⟨h3, h5⟩
theorem take_more (K : List Hd) (k : Nat) : K.take (3 * k) ++ (K.drop (3 * k)).take 3 = K.take (3 * (k + 1)) := by
  rw [← List.take_add]
  rfl
theorem drop_more (K : List Hd) (k : Nat) : (K.drop (3 * k)).drop 3 = K.drop (3 * (k + 1)) := by
  rw [List.drop_drop]
  rfl
end Go.Proofs.Ytnnkcgbnhjkahaa
