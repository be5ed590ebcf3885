/- The maps of what isn't acknowledged: neighbors as keys, sets of keys; their operations. No conditions. -/
import Derived.Test.YtndjoanlbaiaeaaKa
import Derived.Test.YtndjoanlbaiaeaaKb
import Derived.Test.YtndjoanlbaiaeaaJah
import Derived.DeepKeys4
namespace Go.Proofs.Ytndjoanlbaiaeaa
open Go.RowKit Go.Lib
open Go.Maps (Keyed)

theorem nb_row : (58 : TypeId) < Try.prog.types.size := of_decide_eq_true (by kernel_rfl)
theorem nb_at : Try.prog.keyTypeAt 2 58 = true := by kernel_rfl
theorem keyedN : Keyed Try.prog 58 := Keyed.of_law (deep_law_laid laidOut7 (m := 2) (by omega) nb_row nb_at (by rw [Try.underlying58]))
theorem cells_nb : Try.prog.cellsOf 58 = 2 := by kernel_rfl
theorem keyTypeN : Try.prog.keyType 58 = true := by kernel_rfl
def in64 (a : Int) : Prop := -9223372036854775808 ≤ a ∧ a ≤ 9223372036854775807
def wfN (n : Int × Int) : Prop := in64 n.1 ∧ in64 n.2
def nbLit (n : Int × Int) : Lit := .string (keyBytes [.int .i64 n.1, .int .i64 n.2])
theorem keyLitsN (n : Nat) {a b : Int} (ha : (Lit.int .i64 a).wf = true) (hb : (Lit.int .i64 b).wf = true) :
    Try.prog.keyLits (n + 1 + 1) 58 [.int .i64 a, .int .i64 b] = some [.int .i64 a, .int .i64 b] := by
  simp [Program.keyLits, Try.underlying58, cells_nb, cells_int7, ha, hb]
theorem keyOf_nb {n : Int × Int} (h : wfN n) : keyOf Try.prog 58 (.agg #[.int .i64 n.1, .int .i64 n.2]) = some (nbLit n) := by
  obtain ⟨h1, h2⟩ := h
  obtain ⟨m, hm⟩ := size7
  have e := keyLitsN m ((wf_i64_iff _).2 h1) ((wf_i64_iff _).2 h2)
  simp [keyOf, Try.underlying58, keyTypeN, Value.formed, cells_nb, Value.cells, hm, e, nbLit]
theorem keyLits_invN (n : Nat) {x y : Value} {L : List Lit} (hL : Try.prog.keyLits (n + 1 + 1) 58 [x, y] = some L) : ∃ l1 l2, Try.prog.keyLits (n + 1) 3 [x] = some l1 ∧ Try.prog.keyLits (n + 1) 3 [y] = some l2 ∧ L = l1 ++ l2 := by
  unfold Program.keyLits at hL
  generalize hK : Program.keyLits Try.prog (n + 1) = K at hL ⊢
  simp [Try.underlying58, cells_nb, cells_int7] at hL
  cases h1 : K 3 [x] with
  | none => rw [h1] at hL; simp at hL
  | some l1 =>
    rw [h1] at hL
    cases h2 : K 3 [y] with
    | none => rw [h2] at hL; simp at hL
    | some l2 =>
      rw [h2] at hL
      simp at hL
      exact ⟨l1, l2, rfl, rfl, hL.symm⟩
theorem keyLits_lenN (n : Nat) {cs : List Value} {L : List Lit} (hL : Try.prog.keyLits (n + 1) 58 cs = some L) : cs.length = 2 := by
  unfold Program.keyLits at hL
  simp only [Try.underlying58, cells_nb] at hL
  split at hL
  · rename_i h
    exact h.1
  · cases hL
theorem twoN : ∀ {xs : List Value}, xs.length = 2 → ∃ x y, xs = [x, y]
  | [x, y], _ => ⟨x, y, rfl⟩
theorem keyOf_nb_inv {v : Value} {l : Lit} (h : keyOf Try.prog 58 v = some l) : ∃ n : Int × Int, wfN n ∧ v = .agg #[.int .i64 n.1, .int .i64 n.2] ∧ l = nbLit n := by
  obtain ⟨xs, L, rfl, hL, rfl⟩ := keyOf_top (by rw [Try.underlying58]) h
  obtain ⟨n, hn⟩ := size7
  rw [hn] at hL
  have hl := keyLits_lenN _ hL
  obtain ⟨xs⟩ := xs
  simp only at hL hl
  obtain ⟨x, y, rfl⟩ := twoN hl
  obtain ⟨l1, l2, e1, e2, rfl⟩ := keyLits_invN n hL
  obtain ⟨a, wa, rfl, rfl⟩ := keyLit_int7 n e1
  obtain ⟨b, wb, rfl, rfl⟩ := keyLit_int7 n e2
  exact ⟨(a, b), ⟨(wf_i64_iff _).1 wa, (wf_i64_iff _).1 wb⟩, rfl, rfl⟩
/-- Keys, and neighbors, as keys of maps. -/
def kyM : MKind Try.prog Ky where
  kt := 34
  wf := wfKy
  lit := kyLit
  kv k := .agg #[.int .i64 k.kind, .int .i64 k.id, .int .i64 k.adv]
  law := keyed7
  of _ h := keyOf_ky h
  inv _ _ h := keyOf_ky_inv h
  inj a b h := by
    obtain ⟨a1, a2, a3⟩ := a
    obtain ⟨b1, b2, b3⟩ := b
    simp at h
    simp [h]
def nbM : MKind Try.prog (Int × Int) where
  kt := 58
  wf := wfN
  lit := nbLit
  kv n := .agg #[.int .i64 n.1, .int .i64 n.2]
  law := keyedN
  of _ h := keyOf_nb h
  inv _ _ h := keyOf_nb_inv h
  inj a b h := by
    obtain ⟨a1, a2⟩ := a
    obtain ⟨b1, b2⟩ := b
    simp at h
    simp [h]
/-- Block b is a set of just these keys. -/
def InIs (w : World) (b : Nat) (K : List Ky) : Prop := kyM.holds w b (K.map fun k => (k, Value.agg #[]))
/-- Block m is a map of just these neighbors' sets. -/
def OutIs (w : World) (m : Nat) (R : List Nb) : Prop := nbM.holds w m (R.map fun r => (r.n, Value.map (some r.b)))
theorem get_in (K : List Ky) (k : Ky) : getE (K.map fun k => (k, Value.agg #[])) k = if k ∈ K then some (.agg #[]) else none := by
  unfold getE
  rw [List.find?_map, Option.map_map]
  induction K with
  | nil => rfl
  | cons x K ih =>
    by_cases h : x = k
    · subst h
      simp
    · rw [List.find?_cons_of_neg (by simpa using h), ih]
      simp [Ne.symm h]
theorem rest_in (K : List Ky) (k : Ky) : restE (K.map fun k => (k, Value.agg #[])) k = (lessOne K k).map fun k => (k, Value.agg #[]) := by
  unfold restE lessOne
  rw [List.filter_map]
  rfl
theorem get_out (R : List Nb) (n : Int × Int) : getE (R.map fun r => (r.n, Value.map (some r.b))) n = (getN R n).map fun r => Value.map (some r.b) := by
  unfold getE getN
  rw [List.find?_map, Option.map_map]
  rfl
theorem rest_out (R : List Nb) (n : Int × Int) : restE (R.map fun r => (r.n, Value.map (some r.b))) n = (restN R n).map fun r => (r.n, Value.map (some r.b)) := by
  unfold restE restN
  rw [List.filter_map]
  rfl
theorem zero_unit (w : World) : (zeroValue 59).run Try.prog w = .ok (.agg #[]) w := by kernel_rfl
theorem zero_list (w : World) : (zeroValue 55).run Try.prog w = .ok (.map none) w := by kernel_rfl
section
variable {w : World} {b m : Nat} {K : List Ky} {R : List Nb} {k : Ky} {n : Int × Int}
theorem InIs.nodup (h : InIs w b K) : K.Nodup := by
  have h1 := MKind.holds.nodup h
  rw [List.pairwise_map] at h1
  exact h1
/-- '_, is := l[k]'. -/
theorem InIs.look (h : InIs w b K) (hk : wfKy k) : (Instr.lookup 55 (.map (some b)) (.agg #[.int .i64 k.kind, .int .i64 k.id, .int .i64 k.adv]) true).run Try.prog w = .ok (.tuple #[.agg #[], .bool (decide (k ∈ K))]) w := by
  have h1 := (MKind.holds.look h Try.underlying55 (zero_unit w) (k := k) hk).1
  rw [get_in] at h1
  by_cases hm : k ∈ K
  · rw [if_pos hm] at h1
    rw [decide_eq_true hm]
    exact h1
  · rw [if_neg hm] at h1
    rw [decide_eq_false hm]
    exact h1
theorem in_nil (hk : wfKy k) (w : World) : (Instr.lookup 55 (.map none) (.agg #[.int .i64 k.kind, .int .i64 k.id, .int .i64 k.adv]) true).run Try.prog w = .ok (.tuple #[.agg #[], .bool false]) w :=
  MKind.look_nil (M := kyM) true Try.underlying55 (zero_unit w) (k := k) hk
theorem InIs.len (h : InIs w b K) (ty : TypeId) : (Builtin.len_ #[55] ty #[.map (some b)]).run Try.prog w = .ok (.int .i64 (K.length : Int)) w := by
  have h1 := MKind.holds.len h Try.underlying55 ty
  rwa [List.length_map] at h1
theorem in_lenN (w : World) (ty : TypeId) : (Builtin.len_ #[55] ty #[.map none]).run Try.prog w = .ok (.int .i64 0) w := Maps.len_nil Try.underlying55 ty
/-- 'l[k] = struct{}{}'. -/
theorem InIs.put (h : InIs w b K) (hk : wfKy k) (hn : K.length < maxLen) : ∃ w', (Instr.mapUpdate 55 (.map (some b)) (.agg #[.int .i64 k.kind, .int .i64 k.id, .int .i64 k.adv]) (.agg #[])).run Try.prog w = .ok () w' ∧ InIs w' b (k :: lessOne K k) ∧ w.mapTurned w' b := by
  obtain ⟨w', h1, h2, h3⟩ := MKind.holds.put h Try.underlying55 (k := k) hk (.agg #[]) (by rw [List.length_map]; exact hn)
  rw [rest_in] at h2
  exact ⟨w', h1, h2, h3⟩
/-- 'delete(l, k)'. -/
theorem InIs.drop (h : InIs w b K) (hk : wfKy k) (ty : TypeId) : ∃ w', (Builtin.delete_ #[55, 34] ty #[.map (some b), .agg #[.int .i64 k.kind, .int .i64 k.id, .int .i64 k.adv]]).run Try.prog w = .ok (.tuple #[]) w' ∧ InIs w' b (lessOne K k) ∧ w.mapTurned w' b := by
  obtain ⟨w', h1, h2, h3⟩ := MKind.holds.drop h Try.underlying55 (k := k) hk ty
  rw [rest_in] at h2
  exact ⟨w', h1, h2, h3⟩
/-- 'r.lists[n]'. -/
def mapOf : Option Nb → Value
  | none => .map none
  | some r => .map (some r.b)
theorem OutIs.look (h : OutIs w m R) (hn : wfN n) : (Instr.lookup 51 (.map (some m)) (.agg #[.int .i64 n.1, .int .i64 n.2]) false).run Try.prog w = .ok (mapOf (getN R n)) w := by
  have h1 := (MKind.holds.look h Try.underlying51 (zero_list w) (k := n) hn).2
  rw [get_out] at h1
  cases hg : getN R n with
  | none => rw [hg] at h1; exact h1
  | some r => rw [hg] at h1; exact h1
theorem OutIs.put (h : OutIs w m R) (hn : wfN n) (b : Nat) (ks : List Ky) (hl : R.length < maxLen) : ∃ w', (Instr.mapUpdate 51 (.map (some m)) (.agg #[.int .i64 n.1, .int .i64 n.2]) (.map (some b))).run Try.prog w = .ok () w' ∧ OutIs w' m (⟨n, b, ks⟩ :: restN R n) ∧ w.mapTurned w' m := by
  obtain ⟨w', h1, h2, h3⟩ := MKind.holds.put h Try.underlying51 (k := n) hn (.map (some b)) (by rw [List.length_map]; exact hl)
  rw [rest_out] at h2
  exact ⟨w', h1, h2, h3⟩
theorem OutIs.drop (h : OutIs w m R) (hn : wfN n) (ty : TypeId) : ∃ w', (Builtin.delete_ #[51, 58] ty #[.map (some m), .agg #[.int .i64 n.1, .int .i64 n.2]]).run Try.prog w = .ok (.tuple #[]) w' ∧ OutIs w' m (restN R n) ∧ w.mapTurned w' m := by
  obtain ⟨w', h1, h2, h3⟩ := MKind.holds.drop h Try.underlying51 (k := n) hn ty
  rw [rest_out] at h2
  exact ⟨w', h1, h2, h3⟩
end
/-- The entries' keys, and blocks, alone count. -/
theorem OutIs.as {w : World} {m : Nat} {R S : List Nb} (h : OutIs w m R) (e : R.map (fun r => (r.n, r.b)) = S.map (fun r => (r.n, r.b))) : OutIs w m S := by
  unfold OutIs at *
  have e2 : (R.map fun r => (r.n, Value.map (some r.b))) = S.map fun r => (r.n, Value.map (some r.b)) := by
    have := congrArg (List.map fun p : (Int × Int) × Nat => (p.1, Value.map (some p.2))) e
    simpa [List.map_map, Function.comp_def] using this
  rwa [← e2]
end Go.Proofs.Ytndjoanlbaiaeaa
