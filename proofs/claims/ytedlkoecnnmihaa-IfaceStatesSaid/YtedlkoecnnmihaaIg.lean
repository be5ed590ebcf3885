/- A drawn region in which some operations may come up in any order, each of which keeps a relation: of any program. No conditions. -/
import Derived.Test.YtedlkoecnnmihaaIe
import Derived.Deep.RegionHeld3
namespace Go.Proofs.Ytedlkoecnnmihaa
open Go.RowKit
/-- All parts of a list. -/
def parts : List Nat → List (List Nat)
  | [] => [[]]
  | x :: xs => (parts xs).map (x :: ·) ++ parts xs
theorem self_parts : ∀ l : List Nat, l ∈ parts l
  | [] => by simp [parts]
  | x :: xs => by
    rw [parts]
    exact List.mem_append_left _ (List.mem_map.2 ⟨xs, self_parts xs, rfl⟩)
theorem nil_parts : ∀ l : List Nat, [] ∈ parts l
  | [] => by simp [parts]
  | x :: xs => by
    rw [parts]
    exact List.mem_append_right _ (nil_parts xs)
/-- What has come up, where those of r have not, of js. -/
def lstOf (base : Array Bool) (js r : List Nat) : Array Bool := js.foldl (fun b j => if r.contains j then b else b.setIfInBounds j true) base
def eachOk (md : Region.Mode) (ops : Array Oper) (base : Array Bool) (js : List Nat) : Bool := (parts js).all fun r =>
  (r.isEmpty || decide (Region.ready md ops (lstOf base js r) = r)) && r.all fun i => decide ((lstOf base js r).setIfInBounds i true = lstOf base js (r.filter (· != i))) && (parts js).contains (r.filter (· != i)) && decide ((r.filter (· != i)).length + 1 = r.length) && js.contains i
theorem wpAnyH_each {P : Program} {md : Region.Mode} {ops : Array Oper} {Q : Exit → Act → World → Prop} {S : World → Prop} {base : Array Bool} {js : List Nat} {a : Act} {f : Nat} (I : List Nat → World → Prop)
    (hok : eachOk md ops base js = true)
    (hstep : ∀ r i, i ∈ js → (r.filter (· != i)).length + 1 = r.length → ∀ (K : Act → World → Prop) (w : World), S w → I r w → (∀ w', S w' → I (r.filter (· != i)) w' → K a w') → wpOp P ops Q i K a w)
    (hend : ∀ w, S w → I [] w → wpAnyH P md ops Q S f (lstOf base js []) a w) :
    ∀ (n : Nat) (r : List Nat) (w : World), r.length = n → r ∈ parts js → S w → I r w → wpAnyH P md ops Q S (n + f) (lstOf base js r) a w := by
  intro n
  induction n with
  | zero =>
    intro r w hl _ hS hI
    obtain rfl := List.length_eq_zero_iff.1 hl
    rw [Nat.zero_add]
    exact hend w hS hI
  | succ n ih =>
    intro r w hl hr hS hI
    have h1 := List.all_eq_true.1 hok r hr
    simp only [Bool.and_eq_true, Bool.or_eq_true, List.all_eq_true, decide_eq_true_eq, List.contains_iff_mem] at h1
    obtain ⟨h2, h3⟩ := h1
    have hne : r ≠ [] := fun e => by
      rw [e] at hl
      cases hl
    have hready : Region.ready md ops (lstOf base js r) = r := h2.resolve_left (by simpa using hne)
    rw [show n + 1 + f = (n + f) + 1 by omega]
    refine ⟨fun h => absurd (hready ▸ h) hne, fun i hi => ?_⟩
    rw [hready] at hi
    obtain ⟨⟨⟨g1, g2⟩, g3⟩, g4⟩ := h3 i hi
    refine hstep r i g4 g3 _ w hS hI fun w' hS' hI' => ⟨hS', ?_⟩
    rw [g1]
    exact ih _ w' (by omega) g2 hS' hI'
/-- An insert that runs. -/
theorem wpOp_insert {P : Program} {ops : Array Oper} {Q : Exit → Act → World → Prop} {i : Nat} {K : Act → World → Prop} {a : Act} {w w' : World} {o : Oper} (ho : ops[i]? = some o) (hg : o.guard = none) {t : TypeId} {m x v : Operand} (hop : o.op = Op.insert t m x v) (hd : o.dst = none)
    (hrun : (Instr.mapUpdate t (a.eval m) (a.eval x) (a.eval v)).run P w = .ok () w') (hK : K a w') : wpOp P ops Q i K a w := by
  unfold wpOp
  simp only [ho]
  rw [if_pos (by simp [Region.wanted, hg])]
  refine .inl ?_
  unfold Oper.wp
  simp [execOp, hop, hrun, Result.andThen]
  simp only [Oper.upon, hd]
  exact hK
theorem pwI {α β : Type} {f : α → β} : ∀ {R : List α}, R.Pairwise (fun r s => f r ≠ f s) → ∀ r ∈ R, ∀ s ∈ R, f r = f s → r = s
  | x :: R, h, r, hr, s, hs, e => by
    obtain ⟨h1, h2⟩ := List.pairwise_cons.1 h
    rcases List.mem_cons.1 hr with rfl | hr'
    · rcases List.mem_cons.1 hs with rfl | hs'
      · rfl
      · exact absurd e (h1 s hs')
    · rcases List.mem_cons.1 hs with rfl | hs'
      · exact absurd e.symm (h1 r hr')
      · exact pwI h2 r hr' s hs' e
/-- What a table of numbered entries tells of those that have come up. -/
def tblF (T : List (Nat × (Int × Int) × Value)) (r : List Nat) : Int × Int → Option Value := fun k => (T.find? fun t => t.2.1 == k && !r.contains t.1).map (·.2.2)
theorem find_of {α : Type} {p q : α → Bool} : ∀ {T : List α}, (∀ t ∈ T, p t = q t) → T.find? p = T.find? q
  | [], _ => rfl
  | t :: T, h => by
    rw [List.find?_cons, List.find?_cons, h t List.mem_cons_self, find_of fun t' h' => h t' (List.mem_cons_of_mem _ h')]
theorem tbl_put {T : List (Nat × (Int × Int) × Value)} (hk : T.Pairwise fun s t => s.2.1 ≠ t.2.1) (hn : T.Pairwise fun s t => s.1 ≠ t.1) {i : Nat} {kv : Int × Int} {v : Value} (ht : (i, kv, v) ∈ T) (r : List Nat) (k : Int × Int) :
    tblF T (r.filter (· != i)) k = if k = kv then some v else tblF T r k := by
  have uk : ∀ s ∈ T, s.2.1 = kv → s = (i, kv, v) := fun s hs e => pwI hk s hs _ ht e
  have un : ∀ s ∈ T, s.1 = i → s = (i, kv, v) := fun s hs e => pwI hn s hs _ ht e
  by_cases h : k = kv
  · rw [if_pos h]
    subst h
    unfold tblF
    rw [find_of (q := fun t => t.1 == i) fun t h' => ?_]
    · cases hf : T.find? fun t => t.1 == i with
      | none => exact absurd (List.find?_eq_none.1 hf _ ht) (by simp)
      | some t =>
        have h1 := List.find?_some hf
        rw [un t (List.mem_of_find?_eq_some hf) (eq_of_beq h1)]
        rfl
    · by_cases h2 : t.1 = i
      · rw [un t h' h2]
        simp
      · have h3 : t.2.1 ≠ k := fun e => h2 (by rw [uk t h' e])
        rw [beq_eq_false_iff_ne.2 h3, beq_eq_false_iff_ne.2 h2]
        rfl
  · rw [if_neg h]
    unfold tblF
    congr 1
    refine find_of fun t h' => ?_
    by_cases h2 : t.2.1 = k
    · have h3 : t.1 ≠ i := fun e => h (by rw [← h2, un t h' e])
      simp [h2, h3]
    · rw [beq_eq_false_iff_ne.2 h2]
      rfl
end Go.Proofs.Ytedlkoecnnmihaa
