/- The statements' example of a summary. No conditions. -/
import Derived.Test.YtjinleakjkbbgaaUo
namespace Go.Proofs.Ytjinleakjkbbgaa
open Go.RowKit Go.Lib Go.Sort Go.Deep

/-- A description that is but a head. -/
def la0 (h : Hd) : La := ⟨h, [], []⟩
def exA : Hd := ⟨0, 1, 1, 1, 0, 0, 0⟩
def exB : Hd := ⟨60, 1, 2, 2, 0, 0, 0⟩
theorem las_two {w : World} {X : Nat} (h1 h2 : Hd) (hB : Blk w X 62 #[.int .i64 h1.age, .int .i64 h1.kind, .int .i64 h1.id, .int .i64 h1.adv, .int .i64 h1.seq, .int .i64 h1.sum, .int .i64 h1.long, .slice none 0 0, .slice none 0 0, .int .i64 h2.age, .int .i64 h2.kind, .int .i64 h2.id, .int .i64 h2.adv, .int .i64 h2.seq, .int .i64 h2.sum, .int .i64 h2.long, .slice none 0 0, .slice none 0 0]) : Las w (X + 1) (some ⟨X, 0, none⟩) 2 [la0 h1, la0 h2] := by
  refine ⟨rfl, fun _ => ⟨X, 0, rfl, Nat.lt_succ_self X, fun j x hx => ?_⟩⟩
  match j, hx with
  | 0, hx =>
    injection hx with hx
    subst hx
    exact ⟨⟨hB.cell 0, hB.cell 1, hB.cell 2, hB.cell 3, hB.cell 4, hB.cell 5, hB.cell 6⟩, none, 0, 0, none, 0, 0, hB.cell 7, hB.cell 8, Lnk.nil, Row.nil, Nat.zero_le _, Nat.zero_le _⟩
  | 1, hx =>
    injection hx with hx
    subst hx
    exact ⟨⟨hB.cell 9, hB.cell 10, hB.cell 11, hB.cell 12, hB.cell 13, hB.cell 14, hB.cell 15⟩, none, 0, 0, none, 0, 0, hB.cell 16, hB.cell 17, Lnk.nil, Row.nil, Nat.zero_le _, Nat.zero_le _⟩
theorem ex_told : toldL [la0 exB, la0 exA] = [exA] := by
  unfold toldL
  rw [List.filter_cons_of_neg (by show ¬ (!((60 : Int) == 60)) = true; decide), List.filter_cons_of_pos (by show (!((0 : Int) == 60)) = true; decide)]
  rfl
theorem ex_gone : (goneL [la0 exA, la0 exB]).length = 1 := by
  have h : goneK [la0 exA, la0 exB] = [kyL (la0 exB)] := by
    unfold goneK
    rw [List.filter_cons_of_neg (by show ¬ ((0 : Int) == 60) = true; decide), List.filter_cons_of_pos (by show ((60 : Int) == 60) = true; decide)]
    rfl
  unfold goneL
  rw [h, List.mergeSort_singleton, dedup_short (fun j hj => keeps_lt_one _ j (by simpa using hj))]
  rfl
theorem keepS {w0 w' : World} (hb : Below w0.heap.size w0 w') : Below w0.heap.size w0 w' ∧ (∀ b o, b < w0.heap.size → w'.cell? ⟨b, o, none⟩ = w0.cell? ⟨b, o, none⟩) :=
  ⟨hb, fun b o h => hb.cell (p := ⟨b, o, none⟩) h⟩
theorem ord_one (x : Hd) : Ord lessH [x] := by simp [Ord]
end Go.Proofs.Ytjinleakjkbbgaa
