/- The library's Compact of a row of keys. Conditions: at most 1000 keys. · The statements' example of a summary. No conditions. · The walk of the statement SummTells. Conditions: what the words say. · Plain facts on the keys of what is gone: in order, each once. No program, no conditions. · The reference's keys of what is gone. Conditions: at most 100 descriptions. · The walk of the statement SummGone. Conditions: what the words say. -/
import Derived.StillTailTactics
import Derived.Deep.DeepCutAuto
import Derived.Test.YtndjoanlbaiaeaaJai
import Derived.Test.YtndjoanlbaiaeaaJah
namespace Go.Proofs.Ytndjoanlbaiaeaa
open Go.RowKit Go.Lib Go.Sort Go.Deep

instance : Inhabited Ky := ⟨⟨0, 0, 0⟩⟩
theorem kyCells_take (M : List Ky) (m : Nat) : (kyCells M).take (m * 3) = kyCells (M.take m) := by
  induction M generalizing m with
  | nil => simp [kyCells]
  | cons x M ih =>
    cases m with
    | zero => simp [kyCells]
    | succ m =>
      rw [kyCells_cons, List.take_succ_cons, kyCells_cons, ← ih m, show (m + 1) * 3 = m * 3 + 1 + 1 + 1 by omega]
      simp [List.take_succ_cons]
theorem own_frozenH {w : World} {base n c size g : Nat} {t : TypeId} {xs : List Value} (h : w.ownsRow base t size (.slice (some ⟨g, 0, none⟩) n c) n xs) (i : Nat) : w.frozen? ⟨g, i, none⟩ = false := by
  rcases h.2 with ⟨hv, _⟩ | ⟨g', cap, cur, hv, hb, hg, h1, h2, h3, h4⟩
  · cases hv
  · cases hv
    have hB : Blk w g t cur := hg
    exact hB.frozen i
end Go.Proofs.Ytndjoanlbaiaeaa
namespace Go.Proofs.Ytndjoanlbaiaeaa
open Go.RowKit Go.Lib Go.Sort Go.Deep

theorem keepS {w0 w' : World} (hb : Below w0.heap.size w0 w') : Below w0.heap.size w0 w' ∧ (∀ b o, b < w0.heap.size → w'.cell? ⟨b, o, none⟩ = w0.cell? ⟨b, o, none⟩) :=
  ⟨hb, fun b o h => hb.cell (p := ⟨b, o, none⟩) h⟩
end Go.Proofs.Ytndjoanlbaiaeaa
namespace Go.Proofs.Ytndjoanlbaiaeaa
open Go.RowKit Go.Lib Go.Sort Go.Deep

theorem Hds.part {w : World} {B n c k e : Nat} {A : Option Addr} {L : List Hd} (h : Hds w B A n L) (hk : k ≤ e) (he : e ≤ n) (hc : n ≤ c) : Hds w B (if c = k then A else Option.map (fun x => x.add (k * 7)) A) (e - k) ((L.drop k).take (e - k)) := by
  have hl := h.1
  refine ⟨by rw [List.length_take, List.length_drop]; omega, fun h0 => ?_⟩
  obtain ⟨b, o, rfl, hb, hat⟩ := h.2 (by omega)
  rw [if_neg (by omega)]
  refine ⟨b, o + k * 7, by rw [Option.map_some, addr_add], hb, fun j x hx => ?_⟩
  have hj := (List.getElem?_eq_some_iff.1 hx).1
  rw [List.length_take] at hj
  rw [List.getElem?_take_of_lt (by omega), List.getElem?_drop] at hx
  have := hat _ x hx
  rwa [show o + (k + j) * 7 = o + k * 7 + j * 7 by omega] at this
theorem own_base_le {w : World} {base n size q : Nat} {t : TypeId} {v : Value} {xs : List Value} (h : w.ownsRow base t size v n xs) (hq : v.ownBlock = some q) : base ≤ q := by
  rcases h.2 with ⟨hv, _⟩ | ⟨g, cap, cur, hv, hb, hg, -⟩
  · subst hv
    cases hq
  · subst hv
    have h2 : some g = some q := hq
    injection h2 with h2
    omega
end Go.Proofs.Ytndjoanlbaiaeaa
namespace Go.Proofs.Ytndjoanlbaiaeaa
open Go.Lib Go.Sort

/-- In order, each once. -/
def Strict (K : List Ky) : Prop := K.Pairwise fun a b => lessKy a b = true
/-- A key put into a row of keys, unless it is there. -/
def insK (k : Ky) : List Ky → List Ky
  | [] => [k]
  | o :: r => if o = k then o :: r else if lessKy k o = true then k :: o :: r else o :: insK k r
theorem insK_mem {k x : Ky} : ∀ {L : List Ky}, x ∈ insK k L ↔ x = k ∨ x ∈ L
  | [] => by simp [insK]
  | o :: r => by
    unfold insK
    split
    · rename_i h
      constructor
      · exact .inr
      · rintro (rfl | h2)
        · rw [h]
          exact List.mem_cons_self
        · exact h2
    · split
      · simp
      · rw [List.mem_cons, insK_mem, List.mem_cons]
        constructor
        · rintro (h | h | h)
          · exact .inr (.inl h)
          · exact .inl h
          · exact .inr (.inr h)
        · rintro (h | h | h)
          · exact .inr (.inl h)
          · exact .inl h
          · exact .inr (.inr h)
theorem insK_strict {k : Ky} : ∀ {L : List Ky}, Strict L → Strict (insK k L)
  | [], _ => by
    unfold insK Strict
    simp
  | o :: r, h => by
    obtain ⟨h1, h2⟩ := List.pairwise_cons.1 h
    unfold insK
    split
    · exact h
    · rename_i hne
      split
      · rename_i hl
        refine List.pairwise_cons.2 ⟨fun x hx => ?_, h⟩
        rcases List.mem_cons.1 hx with rfl | hx
        · exact hl
        · exact lessKy_trans hl (h1 x hx)
      · rename_i hl
        refine List.pairwise_cons.2 ⟨fun x hx => ?_, insK_strict h2⟩
        rcases insK_mem.1 hx with rfl | hx
        · exact lessKy_total (by simpa using hl) (fun e => hne e.symm)
        · exact h1 x hx
theorem foldK {K : List Ky} : ∀ {L : List Ky}, Strict L → Strict (K.foldl (fun o k => insK k o) L) ∧ ∀ x, x ∈ K.foldl (fun o k => insK k o) L ↔ x ∈ L ∨ x ∈ K := by
  induction K with
  | nil => exact fun h => ⟨h, fun x => by simp⟩
  | cons k K ih =>
    intro L h
    obtain ⟨h1, h2⟩ := ih (insK_strict (k := k) h)
    refine ⟨h1, fun x => (h2 x).trans ?_⟩
    rw [insK_mem, List.mem_cons]
    constructor
    · rintro ((h | h) | h)
      · exact .inr (.inl h)
      · exact .inl h
      · exact .inr (.inr h)
    · rintro (h | h | h)
      · exact .inl (.inr h)
      · exact .inl (.inl h)
      · exact .inr h
end Go.Proofs.Ytndjoanlbaiaeaa
namespace Go.Proofs.Ytndjoanlbaiaeaa
open Go.RowKit Go.Lib Go.Sort Go.Deep

theorem insK_len (k : Ky) : ∀ L : List Ky, (insK k L).length ≤ L.length + 1
  | [] => by simp [insK]
  | o :: r => by
    unfold insK
    split
    · simp
    · split
      · simp
      · have := insK_len k r
        simp
        omega
theorem own_lenK {w : World} {base n : Nat} {v : Value} {L : List Ky} (h : w.ownsRow base 34 3 v n (kyCells L)) : L.length = n := by
  have hl := h.1
  rw [kyCells_length] at hl
  omega
/-- What is left to do of an insertion: its front N is done. -/
def InsUp (k : Ky) (O : List Ky) (j : Nat) (N : List Ky) (dn : Bool) : Prop := N ++ (if dn = true then O.drop j else insK k (O.drop j)) = insK k O
theorem InsUp.start (k : Ky) (O : List Ky) : InsUp k O 0 [] false := by simp [InsUp]
theorem drop_at {O : List Ky} {j : Nat} {y : Ky} (hy : O[j]? = some y) : O.drop j = y :: O.drop (j + 1) := by
  have hl := (List.getElem?_eq_some_iff.1 hy).1
  rw [List.drop_eq_getElem_cons hl, (List.getElem?_eq_some_iff.1 hy).2]
theorem InsUp.over {k : Ky} {O : List Ky} {j : Nat} {N : List Ky} {y : Ky} (h : InsUp k O j N true) (hy : O[j]? = some y) : InsUp k O (j + 1) (N ++ [y]) true := by
  unfold InsUp at *
  rw [if_pos rfl] at *
  rw [drop_at hy] at h
  rw [← h]
  simp
theorem InsUp.same {k : Ky} {O : List Ky} {j : Nat} {N : List Ky} (h : InsUp k O j N false) (hy : O[j]? = some k) : InsUp k O (j + 1) (N ++ [k]) true := by
  unfold InsUp at *
  rw [if_pos rfl]
  rw [if_neg (by decide), drop_at hy] at h
  rw [← h]
  simp [insK]
theorem InsUp.more {k : Ky} {O : List Ky} {j : Nat} {N : List Ky} {y : Ky} (h : InsUp k O j N false) (hy : O[j]? = some y) (hne : ¬ y = k) (hl : lessKy k y = false) : InsUp k O (j + 1) (N ++ [y]) false := by
  unfold InsUp at *
  rw [if_neg (by decide)] at *
  rw [drop_at hy] at h
  rw [← h]
  simp [insK, hne, hl]
theorem own_block_is {g n c q : Nat} (h : (Value.slice (some ⟨g, 0, none⟩) n c).ownBlock = some q) : q = g := by
  have h2 : some g = some q := h
  injection h2 with h2
  exact h2.symm
theorem chg_s13 {s : Nat} {w w' : World} (h : Below s w w') : Chg (fun q => s ≤ q) w w' := ⟨h.os, h.tape, h.output, h.size, fun q _ hn => h.block q (by omega)⟩
theorem key_range {w : World} {base n c j g : Nat} {L : List Ky} {x : Ky} (h : w.ownsRow base 34 3 (.slice (some ⟨g, 0, none⟩) n c) n (kyCells L)) (hj : L[j]? = some x) : w.rangeAt g (j * 3) [.int .i64 x.kind, .int .i64 x.id, .int .i64 x.adv] := by
  obtain ⟨g', e, -, -, -, -, h0, h1, h2⟩ := own_kyH h hj
  injection e with e
  injection e with e
  subst e
  intro i v hv
  match i, hv with
  | 0, hv => cases hv; exact h0
  | 1, hv => cases hv; exact h1
  | 2, hv => cases hv; exact h2
end Go.Proofs.Ytndjoanlbaiaeaa
namespace Go.Proofs.Ytndjoanlbaiaeaa
open Go.RowKit Go.Lib Go.Sort Go.Deep

set_option maxRecDepth 8000 in
set_option maxHeartbeats 4000000 in
theorem keys13_yes {w : World} {base base' : Nat} {A A' : Option Addr} {n c n' c' : Nat} {K : List Ky} (hK : w.ownsRow base 34 3 (.slice A n c) n (kyCells K)) (hK' : w.ownsRow base' 34 3 (.slice A' n' c') n' (kyCells K)) :
    Calls Try.prog 20 #[.slice A n c, .slice A' n' c'] w fun e w' => e = .returned (.bool true) ∧ ∃ d, w' = w.drewN d := by
  have HR := Lib.hid hK
  have HR' := Lib.hid hK'
  obtain rfl : n = n' := (own_lenK hK).symm.trans (own_lenK hK')
  have HL := Lib.hid (own_lenK hK)
  clear hK hK'
  have hnn : ((n : Int) != n) = false := by simp
  go_enter Try.func20, Try.ntmps20
  go_wp2
  go_loopw [5] (fun i wr => ∃ k d : Nat, k ≤ n ∧ i = .int .i64 k ∧ Hid (wr = w.drewN d)) (fun i _ => n - (intOf i).toNat)
  case atStart => exact ⟨0, 0, Nat.zero_le _, rfl, Lib.hid rfl⟩
  case round =>
    obtain ⟨k, d, hk, rfl, HW⟩ := hrel
    by_cases hlt : k < n
    · obtain ⟨x, hx⟩ : ∃ x, K[k]? = some x := ⟨_, List.getElem?_eq_getElem (by have := HL.out; omega)⟩
      have O1 : wr.ownsRow base 34 3 (.slice A n c) n (kyCells K) := by rw [HW.out]; exact HR.out
      have O2 : wr.ownsRow base' 34 3 (.slice A' n c') n (kyCells K) := by rw [HW.out]; exact HR'.out
      obtain ⟨b, rfl, -, hbl, hc1, hc2, x0, x1, x2⟩ := own_kyH O1 hx
      obtain ⟨b', rfl, -, hbl', hc1', hc2', y0, y1, y2⟩ := own_kyH O2 hx
      unfold maxLen at hc2 hc2'
      have hlt' : (k : Int) < n := by omega
      have eK := fun W => equalKy x x W
      rw [show sameKy x x = true from (sameKy_iff _ _).2 rfl] at eK
      clear hx O1 O2
      go_wp2_with fail
      go_quiet (fail)
      have HW2 := Lib.hid (show wr.drewN nq = w.drewN (d + nq) by rw [HW.out, World.drewN_drewN])
      clear x0 x1 x2 y0 y1 y2 eK HW
      go_wp2
      go_roundw
      case rel => exact ⟨k + 1, _, by omega, by go_num, HW2⟩
      case measure => simp [intOf]; omega
    · go_wp2
      go_ret
      exact ⟨rfl, _, HW.out⟩
end Go.Proofs.Ytndjoanlbaiaeaa
