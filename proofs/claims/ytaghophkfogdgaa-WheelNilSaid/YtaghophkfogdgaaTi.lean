/- The document's wheel in memory; two timers compared; its Cancel and At. Conditions: what the words say; at most 1000 entries. -/
import Derived.Test.YtaghophkfogdgaaTh
import Derived.DeepKeys
import Derived.Laws.StructEq
namespace Go.Proofs.Ytaghophkfogdgaa
open Go.RowKit

theorem formed_tm (t : Tm) : (Value.agg (encTm t).toArray).formed Try.prog 33 = true := by
  unfold encTm
  simp [Value.formed, Try.underlying33, cells_tm8]
theorem equal_tm {a b : Tm} (ha : wfTm a) (hb : wfTm b) (W : World) : (Op.equalIn 10000 33 (.agg #[.int .i64 a.kind, .int .i64 a.lan, .int .i64 a.id, .int .i64 a.kk, .int .i64 a.ki, .int .i64 a.ka]) (.agg #[.int .i64 b.kind, .int .i64 b.lan, .int .i64 b.id, .int .i64 b.kk, .int .i64 b.ki, .int .i64 b.ka])).run Try.prog W = .ok (decide (a = b)) W := by
  obtain ⟨r, h1, h2⟩ := run_equalIn_deep 9997 3 33 tm_at8 W (9997 + 1 + 1 + 1) (9997 + 1 + 1 + 1) (.agg (encTm a).toArray) (.agg (encTm b).toArray) _ _ (formed_tm a) (formed_tm b) (by simpa [Value.cells] using keyLits_tm8 9997 ha) (by simpa [Value.cells] using keyLits_tm8 9997 hb)
  have h3 : r = decide (a = b) := by
    by_cases h : a = b
    · subst h
      rw [h2.2 rfl]
      simp
    · cases hr : r
      · simp [h]
      · exfalso
        have := h2.1 hr
        obtain ⟨a1, a2, a3, a4, a5, a6⟩ := a
        obtain ⟨b1, b2, b3, b4, b5, b6⟩ := b
        simp at this
        exact h (by simp [this])
  rw [← h3]
  exact h1
/-- Block q is a wheel of the document that holds just E, in order. -/
def RWh (w : World) (lo q : Nat) (E : List En) : Prop := ∃ A n c, Blk w q 29 #[.slice A n c] ∧ w.ownsRow lo 48 7 (.slice A n c) n (cellsBy encEn E)
theorem own_en {w : World} {base n : Nat} {A : Option Addr} {c : Nat} {L : List En} (h : w.ownsRow base 48 7 (.slice A n c) n (cellsBy encEn L)) {j : Nat} {x : En} (hj : L[j]? = some x) :
    ∃ g, A = some ⟨g, 0, none⟩ ∧ base ≤ g ∧ g < w.heap.size ∧ n ≤ c ∧ c ≤ maxLen ∧ w.cell? ⟨g, j * 7, none⟩ = some (.int .i64 x.tick) ∧ w.cell? ⟨g, j * 7 + 1, none⟩ = some (.int .i64 x.t.kind) ∧ w.cell? ⟨g, j * 7 + 2, none⟩ = some (.int .i64 x.t.lan) ∧ w.cell? ⟨g, j * 7 + 3, none⟩ = some (.int .i64 x.t.id) ∧ w.cell? ⟨g, j * 7 + 4, none⟩ = some (.int .i64 x.t.kk) ∧ w.cell? ⟨g, j * 7 + 5, none⟩ = some (.int .i64 x.t.ki) ∧ w.cell? ⟨g, j * 7 + 6, none⟩ = some (.int .i64 x.t.ka) := by
  obtain ⟨g, h1, h2, h3, h4, h5, h6⟩ := own_item encEn_len (by omega) h hj
  exact ⟨g, h1, h2, h3, h4, h5, h6 0 (by omega), h6 1 (by omega), h6 2 (by omega), h6 3 (by omega), h6 4 (by omega), h6 5 (by omega), h6 6 (by omega)⟩
theorem infoEn8 : (Try.prog.info? 48).map (fun i => (i.zero, i.size, i.bytes)) = some (some (.agg #[.int .i64 0, .int .i64 0, .int .i64 0, .int .i64 0, .int .i64 0, .int .i64 0, .int .i64 0]), 7, 56) := by kernel_rfl
theorem infoTm8 : (Try.prog.info? 33).map (fun i => (i.zero, i.size, i.bytes)) = some (some (.agg #[.int .i64 0, .int .i64 0, .int .i64 0, .int .i64 0, .int .i64 0, .int .i64 0]), 6, 48) := by kernel_rfl
/-- The place of a timer; -1: it isn't there. -/
def placeFrom (t : Tm) : List En → Nat → Int
  | [], _ => -1
  | e :: E, i => if e.t = t then (i : Int) else placeFrom t E (i + 1)
def placeE (E : List En) (t : Tm) : Int := placeFrom t E 0
theorem placeFrom_none {t : Tm} : ∀ {E : List En} {i : Nat}, (∀ e ∈ E, e.t ≠ t) → placeFrom t E i = -1
  | [], _, _ => rfl
  | e :: E, i, h => by
    unfold placeFrom
    rw [if_neg (h e (by simp))]
    exact placeFrom_none fun x hx => h x (by simp [hx])
theorem placeFrom_at {t : Tm} : ∀ {E : List En} {i j : Nat} {e : En}, E[j]? = some e → e.t = t → (∀ m x, m < j → E[m]? = some x → x.t ≠ t) → placeFrom t E i = ((i + j : Nat) : Int)
  | [], _, _, _, h, _, _ => by simp at h
  | x :: E, i, 0, e, h, hk, _ => by
    simp at h
    subst h
    unfold placeFrom
    rw [if_pos hk]
    rfl
  | x :: E, i, j + 1, e, h, hk, hn => by
    unfold placeFrom
    rw [if_neg (hn 0 x (by omega) (by simp)), placeFrom_at (j := j) (e := e) (by simpa using h) hk (fun m y hm hy => hn (m + 1) y (by omega) (by simpa using hy))]
    congr 1
    omega
theorem placeE_none {E : List En} {t : Tm} (h : ∀ e ∈ E, e.t ≠ t) : placeE E t = -1 := placeFrom_none h
theorem placeE_at {E : List En} {t : Tm} {j : Nat} {e : En} (h : E[j]? = some e) (hk : e.t = t) (hn : ∀ m x, m < j → E[m]? = some x → x.t ≠ t) : placeE E t = (j : Int) := by
  have := placeFrom_at (i := 0) h hk hn
  simpa [placeE] using this
set_option maxRecDepth 8000 in
set_option maxHeartbeats 4000000 in
theorem at_ref {w : World} {lo q : Nat} {E : List En} {t : Tm} (h : RWh w lo q E) (hE : ∀ e ∈ E, wfTm e.t) (ht : wfTm t) (hn : E.length ≤ 1000) : Calls Try.prog 18 #[.pointer (some ⟨q, 0, none⟩), .agg #[.int .i64 t.kind, .int .i64 t.lan, .int .i64 t.id, .int .i64 t.kk, .int .i64 t.ki, .int .i64 t.ka]] w
    fun e w' => e = .returned (.int .i64 (placeE E t)) ∧ Below w.heap.size w w' := by
  obtain ⟨A, n, c, hB, hO⟩ := h
  have hl := own_len encEn_len (by omega) hO
  generalize hv : placeE E t = v
  have HV := Lib.hid hv
  have HO := Lib.hid hO
  have HB := Lib.hid hB
  have HE := Lib.hid hE
  have hgl := hB.lt
  clear hv hO hB hE
  have B0 := Lib.hid ((Below.refl w.heap.size w).alloc (Nat.le_refl _) (.cells #[.int .i64 t.kind, .int .i64 t.lan, .int .i64 t.id, .int .i64 t.kk, .int .i64 t.ki, .int .i64 t.ka] 33))
  have K0 := Lib.hid (Blk.new w 33 #[.int .i64 t.kind, .int .i64 t.lan, .int .i64 t.id, .int .i64 t.kk, .int .i64 t.ki, .int .i64 t.ka])
  go_enter Try.func18, Try.ntmps18
  go_wp2_with fail
  generalize hw0 : w.alloc (.cells #[.int .i64 t.kind, .int .i64 t.lan, .int .i64 t.id, .int .i64 t.kk, .int .i64 t.ki, .int .i64 t.ka] 33) = w0 at *
  have hs0 := B0.out.size
  have hlk := K0.out.lt
  have hgl0 : q < w0.heap.size := by omega
  clear hw0
  go_loopw [5] (fun i wr => ∃ j : Nat, j ≤ n ∧ i = .int .i64 j ∧ Hid (∀ m x, m < j → E[m]? = some x → x.t ≠ t) ∧ Hid (Below w0.heap.size w0 wr)) (fun i _ => n - (intOf i).toNat)
  case atStart => exact ⟨0, Nat.zero_le _, rfl, Lib.hid (fun _ _ h => absurd h (by omega)), Lib.hid (Below.refl _ _)⟩
  case round =>
    obtain ⟨j, hj, rfl, HNO, hb⟩ := hrel
    have hsz := hb.out.size
    have HBr := Lib.hid (HB.out.below (B0.out.trans (hb.out.mono hs0)) hgl)
    have c0 := HBr.out.cell 0
    simp at c0
    by_cases hlt : j < n
    · have hlt' : (j : Int) < n := by omega
      obtain ⟨x, hx⟩ : ∃ x, E[j]? = some x := ⟨E[j]'(by omega), List.getElem?_eq_getElem (by omega)⟩
      obtain ⟨g, rfl, -, hgl2, hnc, hcm, y0, y1, y2, y3, y4, y5, y6⟩ := own_en (own_below2 HO.out (B0.out.trans (hb.out.mono hs0))) hx
      unfold maxLen at hcm
      obtain ⟨k0, k1, k2, k3, k4, k5⟩ := (K0.out.below hb.out hlk).six
      have heq := fun W => equal_tm (HE.out x (List.mem_of_getElem? hx)) ht W
      have HX := Lib.hid hx
      clear hx y0
      by_cases hxt : x.t = t
      · have hd : decide (x.t = t) = true := decide_eq_true hxt
        have HR := Lib.hid ((placeE_at HX.out hxt HNO.out).symm.trans HV.out)
        clear hxt
        rw [hd] at heq
        clear hd
        go_wp2_with fail
        go_quiet (fail)
        go_wp2
        go_ret
        exact ⟨by rw [← HR.out]; rfl, below_drewN ((B0.out.trans (hb.out.mono hs0))) _⟩
      · have hd : decide (x.t = t) = false := decide_eq_false hxt
        have HNX := Lib.hid hxt
        clear hxt
        rw [hd] at heq
        clear hd
        go_wp2_with fail
        go_quiet (fail)
        go_wp2
        go_roundw
        case rel =>
          refine ⟨j + 1, by omega, by go_num, Lib.hid (fun m y hm hy => ?_), Lib.hid (below_drewN hb.out _)⟩
          by_cases hmj : m = j
          · subst hmj
            rw [HX.out] at hy
            injection hy with hy
            subst hy
            exact HNX.out
          · exact HNO.out m y (by omega) hy
        case measure => simp [intOf]; omega
    · have HR := Lib.hid (show -1 = v by
        rw [← HV.out]
        refine (placeE_none (fun e he => ?_)).symm
        obtain ⟨m, hm⟩ := List.getElem?_of_mem he
        have := (List.getElem?_eq_some_iff.1 hm).1
        exact HNO.out m e (by omega) hm)
      go_wp2
      go_ret
      exact ⟨by rw [← HR.out]; rfl, B0.out.trans (hb.out.mono hs0)⟩
end Go.Proofs.Ytaghophkfogdgaa
