/- A summary in memory; its piece, Piece, More, Step; a summary that is not there. Conditions: what the words say; at most 1000 heads. -/
import Derived.Test.YtjinleakjkbbgaaUk
import Derived.Deep.QuietTactic
namespace Go.Proofs.Ytjinleakjkbbgaa
open Go.RowKit Go.Lib Go.Sort

theorem HdAt.onto {w w' : World} {B B' b p : Nat} {h : Hd} (hk : ∀ o, w'.cell? ⟨b, o, none⟩ = w.cell? ⟨b, o, none⟩) (hh : HdAt w B b p h) : HdAt w' B' b p h :=
  ⟨(hk _).trans hh.1, (hk _).trans hh.2.1, (hk _).trans hh.2.2.1, (hk _).trans hh.2.2.2.1, (hk _).trans hh.2.2.2.2.1, (hk _).trans hh.2.2.2.2.2.1, (hk _).trans hh.2.2.2.2.2.2⟩
/-- A summary whose heads left are K: its block p, and the row that it leads to, on blocks of F. -/
structure SumAt (w : World) (F : Nat → Prop) (p : Nat) (A : Option Addr) (n c : Nat) (K : List Hd) : Prop where
  blk : Blk w p 91 #[.slice A n c]
  fp : F p
  len : K.length = n
  cap : n ≤ c
  big : c ≤ maxLen
  row : 0 < n → ∃ g o, A = some ⟨g, o, none⟩ ∧ F g ∧ g ≠ p ∧ g < w.heap.size ∧ ∀ j h, K[j]? = some h → HdAt w 0 g (o + j * 7) h
section
variable {w w' : World} {F F' : Nat → Prop} {p : Nat} {A : Option Addr} {n c : Nat} {K : List Hd}
theorem SumAt.move (h : SumAt w F p A n c K) (hk : ∀ q, F q → q < w.heap.size → w'.heap[q]? = w.heap[q]?) (hz : w.heap.size ≤ w'.heap.size) : SumAt w' F p A n c K :=
  ⟨(hk p h.fp h.blk.lt).trans h.blk, h.fp, h.len, h.cap, h.big, fun hn => by
    obtain ⟨g, o, e, hg, hne, hlt, hc⟩ := h.row hn
    exact ⟨g, o, e, hg, hne, by omega, fun j x hx => HdAt.onto (fun o => World.cell?_of_block (a := ⟨g, o, none⟩) (hk g hg hlt)) (hc j x hx)⟩⟩
theorem SumAt.chg (h : SumAt w F p A n c K) (hc : Chg F' w w') (hF : ∀ q, F q → ¬ F' q) : SumAt w' F p A n c K := h.move (fun q hq hl => hc.block q hl (hF q hq)) hc.size
theorem SumAt.below (h : SumAt w F p A n c K) (hb : Below w.heap.size w w') : SumAt w' F p A n c K := h.move (fun q _ hl => hb.block q hl) hb.size
theorem SumAt.drewN (h : SumAt w F p A n c K) (q : Nat) : SumAt (w.drewN q) F p A n c K := h.move (fun _ _ _ => rfl) (Nat.le_refl _)
theorem SumAt.hds (h : SumAt w F p A n c K) : Hds w w.heap.size A n K :=
  ⟨h.len, fun hn => by
    obtain ⟨g, o, e, -, -, hlt, hc⟩ := h.row hn
    exact ⟨g, o, e, hlt, fun j x hx => HdAt.onto (fun _ => rfl) (hc j x hx)⟩⟩
end
/-- What New leaves is a summary. -/
theorem sum_new {w w' : World} {p : Nat} {A : Option Addr} {n c : Nat} {K : List Hd} (hp : w.heap.size ≤ p) (hB : Blk w' p 91 #[.slice A n c]) (hO : w'.ownsRow w.heap.size 58 7 (.slice A n c) n (cellsBy encHd K)) : SumAt w' (fun q => w.heap.size ≤ q ∧ q < w'.heap.size) p A n c K := by
  have hl := own_lenH encHd_len (by omega) hO
  have hne := own_ne_blk hO hB (by decide)
  rcases hO.2 with ⟨hv, hn⟩ | ⟨g, cap, cur, hv, hb, hg, h1, h2, h3, h4⟩
  · injection hv with e1 e2 e3
    exact ⟨hB, ⟨hp, hB.lt⟩, hl, by omega, by unfold maxLen; omega, fun h0 => by omega⟩
  · cases hv
    have hgl := (Array.getElem?_eq_some_iff.1 hg).1
    refine ⟨hB, ⟨hp, hB.lt⟩, hl, h1, h2, fun h0 => ⟨g, 0, rfl, ⟨hb, hgl⟩, fun e => hne (by rw [e]; rfl), hgl, fun j x hx => ?_⟩⟩
    obtain ⟨g', e, -, -, -, -, hc⟩ := own_item encHd_len (by omega) hO hx
    injection e with e
    injection e with e
    subst e
    rw [Nat.zero_add]
    exact ⟨hc 0 (by omega), hc 1 (by omega), hc 2 (by omega), hc 3 (by omega), hc 4 (by omega), hc 5 (by omega), hc 6 (by omega)⟩
/-- Rows of heads, read: their cells; the first m of them; those behind the first m. -/
theorem Hds.cells {w : World} {B n : Nat} {A : Option Addr} {L : List Hd} (h : Hds w B A n L) : (A = none → n = 0) ∧ ∀ ad, A = some ad → ∀ j u, (cellsBy encHd L)[j]? = some u → w.cell? (ad.add j) = some u := by
  constructor
  · intro e
    rcases Nat.eq_zero_or_pos n with h0 | h0
    · exact h0
    · obtain ⟨_, _, e2, _⟩ := h.2 h0
      rw [e] at e2
      cases e2
  · intro ad e j u hu
    have hj : j < L.length * 7 := by
      rcases Nat.lt_or_ge j (L.length * 7) with hj | hj
      · exact hj
      · rw [List.getElem?_eq_none (by rw [by_length encHd_len]; exact hj)] at hu
        cases hu
    have hn := h.1
    obtain ⟨b, o, e2, _, hc⟩ := h.2 (by omega)
    rw [e] at e2
    injection e2 with e2
    subst e2
    have hx : L[j / 7]? = some (L[j / 7]'(by omega)) := List.getElem?_eq_getElem (by omega)
    have hr := HdAt.range (hc _ _ hx)
    have hb := by_at encHd_len L _ _ hx (j % 7) (by omega)
    rw [show j / 7 * 7 + j % 7 = j from by omega, hu] at hb
    rw [addr_add, show o + j = o + j / 7 * 7 + j % 7 by omega]
    exact hr (j % 7) u hb.symm
theorem Hds.take {w : World} {B n : Nat} {A : Option Addr} {L : List Hd} (h : Hds w B A n L) (m : Nat) (hm : m ≤ n) : Hds w B A m (L.take m) :=
  ⟨by rw [List.length_take, h.1]; omega, fun h0 => by
    obtain ⟨b, o, e, hb, hc⟩ := h.2 (by omega)
    refine ⟨b, o, e, hb, fun j x hx => hc j x ?_⟩
    rw [List.getElem?_take] at hx
    split at hx
    · exact hx
    · cases hx⟩
set_option maxRecDepth 8000 in
set_option maxHeartbeats 2000000 in
theorem piece_any {w : World} {F : Nat → Prop} {p : Nat} {A : Option Addr} {n c : Nat} {K : List Hd} (h : SumAt w F p A n c K) (hn : n ≤ 1000) :
    Calls Try.prog 44 #[.pointer (some ⟨p, 0, none⟩)] w fun e w' => e = .returned (.slice A (min n 3) c) ∧ ∃ q, w' = w.drewN q := by
  have c0 : w.cell? ⟨p, 0, none⟩ = some (.slice A n c) := h.blk.cell 0
  have hpl := h.blk.lt
  have hcap := h.cap
  have hbig := h.big
  unfold maxLen at hbig
  have HNIL := Lib.hid h.hds.cells.1
  clear h
  clear HNIL
  rcases Nat.lt_or_ge n 3 with h3 | h3
  · rw [show min n 3 = n by omega]
    have hmin : min (n : Int) 3 = (n : Int) := by omega
    go_enter Try.func44, Try.ntmps44
    go_wp2_with fail
    go_quiet (fail)
    go_wp2
    go_ret
    exact ⟨rfl, nq, rfl⟩
  · rw [show min n 3 = 3 by omega]
    have hmin : min (n : Int) 3 = 3 := by omega
    go_enter Try.func44, Try.ntmps44
    go_wp2_with fail
    go_quiet (fail)
    go_wp2
    go_ret
    exact ⟨rfl, nq, rfl⟩
theorem piece_nil (w : World) : Calls Try.prog 44 #[.pointer none] w fun e w' => e = .returned (.slice none 0 0) ∧ w' = w := by
  go_enter Try.func44, Try.ntmps44
  go_wp2
  go_ret
  exact ⟨rfl, rfl⟩
/-- What Piece answers: a row of the call's own. -/
def PieceQ (K : List Hd) (w : World) (e : Ending) (w' : World) : Prop :=
  ∃ (A : Option Addr) (m c : Nat), e = .returned (.slice A m c) ∧ Below w.heap.size w w' ∧ w'.ownsRow w.heap.size 58 7 (.slice A m c) m (cellsBy encHd (K.take 3))
set_option maxRecDepth 8000 in
set_option maxHeartbeats 2000000 in
theorem pieceP_of {w : World} {u : Value} {A : Option Addr} {m c : Nat} {L : List Hd} (hc : Calls Try.prog 44 #[u] w fun e w' => e = .returned (.slice A m c) ∧ ∃ q, w' = w.drewN q) (hL : Hds w w.heap.size A m L) (hm : m ≤ 1000) :
    Calls Try.prog 37 #[u] w fun e w' => ∃ (A' : Option Addr) (m' c' : Nat), e = .returned (.slice A' m' c') ∧ Below w.heap.size w w' ∧ w'.ownsRow w.heap.size 58 7 (.slice A' m' c') m' (cellsBy encHd L) := by
  have HC := Lib.hid hc
  have HL := Lib.hid hL
  clear hc hL
  go_enter Try.func37, Try.ntmps37
  go_wp2_with fail
  refine HC.out.mono ?_
  rintro e1 w1 ⟨rfl, q, rfl⟩
  have HL1 := Lib.hid (show (A = none → m = 0) ∧ ∀ ad, A = some ad → ∀ j u, (cellsBy encHd L)[j]? = some u → (w.drewN q).cell? (ad.add j) = some u from HL.out.cells)
  have hln := HL.out.1
  have B1 := Lib.hid (⟨rfl, rfl, rfl, Nat.le_refl _, fun _ _ => rfl⟩ : Below w.heap.size w (w.drewN q))
  have hz : (w.drewN q).heap.size = w.heap.size := rfl
  have HZ := Lib.hid hz
  clear hz
  generalize w.drewN q = w1 at *
  go_wp2_with (at_builtin; refine wpList_append_any rfl (.const (.slice none 0 0)) (.tmp 4) 31 58 (.agg #[.int .i64 0, .int .i64 0, .int .i64 0, .int .i64 0, .int .i64 0, .int .i64 0, .int .i64 0]) 7 56 Try.underlying31 infoHd rfl (by decide) (by decide) rfl w1.heap.size (.slice none 0 0) 0 [] (by rfl) (by exact World.ownsRow_nil _ _ _ _) A m c (cellsBy encHd L) (by rfl) (by rw [by_length encHd_len, hln]) HL1.out.1 HL1.out.2 (by_ones encHd_ones L) (by omega) (Nat.le_refl _) ?_; intro v2 w2 ho2 hg2)
  obtain ⟨A2, c2, rfl⟩ := own_slice ho2.out
  have ho3 := ho2.out
  rw [Nat.zero_add] at ho3 ⊢
  rw [List.nil_append] at ho3
  have hb : Below w.heap.size w w2 := B1.out.trans (own_keeps7 (World.ownsRow_nil w1 w.heap.size 58 7) hg2.out (by rw [HZ.out]; exact Nat.le_refl _))
  rw [HZ.out] at ho3
  have HO := Lib.hid ho3
  have HB := Lib.hid hb
  clear ho2 hg2 ho3 hb
  go_wp2
  go_ret
  exact ⟨A2, m, c2, rfl, HB.out, HO.out⟩
theorem pieceP_any {w : World} {F : Nat → Prop} {p : Nat} {A : Option Addr} {n c : Nat} {K : List Hd} (h : SumAt w F p A n c K) (hn : n ≤ 1000) : Calls Try.prog 37 #[.pointer (some ⟨p, 0, none⟩)] w (PieceQ K w) := by
  refine pieceP_of (L := K.take 3) (piece_any h hn) ?_ (by omega)
  have h1 := h.hds.take (min n 3) (by omega)
  rwa [show K.take (min n 3) = K.take 3 by rw [← h.len, Nat.min_comm, List.take_eq_take_iff]; omega] at h1
theorem pieceP_nil (w : World) : Calls Try.prog 37 #[.pointer none] w (PieceQ [] w) := by
  refine pieceP_of (A := none) (m := 0) (c := 0) (L := ([] : List Hd).take 3) ((piece_nil w).mono ?_) Arr.nil (by omega)
  rintro e w' ⟨rfl, rfl⟩
  exact ⟨rfl, 0, rfl⟩
set_option maxRecDepth 8000 in
set_option maxHeartbeats 2000000 in
theorem more_any {w : World} {F : Nat → Prop} {p : Nat} {A : Option Addr} {n c : Nat} {K : List Hd} (h : SumAt w F p A n c K) (hn : n ≤ 1000) :
    Calls Try.prog 50 #[.pointer (some ⟨p, 0, none⟩)] w fun e w' => e = .returned (.bool (decide (3 < n))) ∧ ∃ q, w' = w.drewN q := by
  have c0 : w.cell? ⟨p, 0, none⟩ = some (.slice A n c) := h.blk.cell 0
  have hpl := h.blk.lt
  have pc := fun q => Calls.quiet_of (piece_any (h.drewN q) hn)
  obtain ⟨m, hm⟩ : ∃ m, min n 3 = m := ⟨_, rfl⟩
  rw [hm] at pc
  obtain ⟨b, hb⟩ : ∃ b, decide (3 < n) = b := ⟨_, rfl⟩
  rw [hb]
  have HD := Lib.hid (show decide (m < n) = b by
    rw [← hb]
    by_cases h3 : 3 < n
    · simp [h3]
      omega
    · simp [h3]
      omega)
  clear h hm hb
  go_enter Try.func50, Try.ntmps50
  go_wp2_with fail
  go_quiet (first | (go_at_call 44; with_reducible exact pc _))
  go_wp2
  go_ret
  exact ⟨by rw [← HD.out]; rfl, nq, rfl⟩
theorem more_nil (w : World) : Calls Try.prog 50 #[.pointer none] w fun e w' => e = .returned (.bool false) ∧ ∃ q, w' = w.drewN q := by
  go_enter Try.func50, Try.ntmps50
  go_wp2_with fail
  go_quiet (fail)
  go_wp2
  go_ret
  exact ⟨rfl, nq, rfl⟩
theorem step_nil (w : World) : Calls Try.prog 43 #[.pointer none] w fun e w' => e = .returned (.bool false) ∧ w' = w := by
  go_enter Try.func43, Try.ntmps43
  go_wp2
  go_ret
  exact ⟨rfl, rfl⟩
set_option maxRecDepth 8000 in
set_option maxHeartbeats 4000000 in
theorem step_any {w : World} {F : Nat → Prop} {p : Nat} {A : Option Addr} {n c : Nat} {K : List Hd} (h : SumAt w F p A n c K) (hn : n ≤ 1000) :
    Calls Try.prog 43 #[.pointer (some ⟨p, 0, none⟩)] w fun e w' => e = .returned (.bool (decide (3 < n))) ∧ ∃ A' n' c', SumAt w' F p A' n' c' (K.drop 3) ∧ Chg (fun q => q = p) w w' := by
  have HS := Lib.hid h
  obtain ⟨b, hb⟩ : ∃ b, decide (3 < n) = b := ⟨_, rfl⟩
  rw [hb]
  have HB := Lib.hid hb
  clear h hb
  go_enter Try.func43, Try.ntmps43
  go_wp2_with fail
  refine (more_any HS.out hn).mono ?_
  rintro e1 w1 ⟨rfl, q1, rfl⟩
  rw [HB.out]
  have S1 := Lib.hid (HS.out.drewN q1)
  have B1 := Lib.hid (⟨rfl, rfl, rfl, Nat.le_refl _, fun _ _ => rfl⟩ : Below w.heap.size w (w.drewN q1))
  clear HS
  generalize w.drewN q1 = w1 at *
  go_wp2_with fail
  have c0 : w1.cell? ⟨p, 0, none⟩ = some (.slice A n c) := S1.out.blk.cell 0
  have f0 := S1.out.blk.frozen 0
  have hpl := S1.out.blk.lt
  have hcap := S1.out.cap
  have hbig := S1.out.big
  unfold maxLen at hbig
  have c0q := fun n' os => Go.cell_grown (n := n') (os := os) (a := ⟨p, 0, none⟩) hpl c0
  have pc : ∀ n' os, Calls Try.prog 44 #[.pointer (some ⟨p, 0, none⟩)] (Go.Sort.grow (w1.drewN n') os) fun e w'' => e = .returned (.slice A (min n 3) c) ∧ ∃ pp : GrownBy, w'' = Go.Sort.grow (w1.drewN pp.n) pp.os := fun n' os => by
    refine Calls.grown_of ((piece_any (S1.out.move (w' := Go.Sort.grow (w1.drewN n') os) (fun q _ hq => heap_grow_old _ _ (by exact hq)) (by rw [Go.Sort.size_grow]; exact Nat.le_add_right _ _)) hn).mono ?_)
    rintro e w' ⟨rfl, q, rfl⟩
    exact ⟨rfl, q, #[], by rw [grow_empty]⟩
  obtain ⟨m, hm⟩ : ∃ m, min n 3 = m := ⟨_, rfl⟩
  rw [hm] at pc
  have hm1 : m ≤ n := by omega
  have HM := Lib.hid hm
  clear hm
  refine region_grown_tail 11 (by kernel_rfl) (by kernel_rfl) ?_
  simp only [List.take_succ_cons, List.take_zero, List.drop_succ_cons, List.drop_zero]
  repeat (quiet_step (first | (go_at_call 44; with_reducible exact pc _ _)))
  refine wpQuiet_nil ?_
  intro _ hw'
  obtain ⟨⟨nq, osq⟩, hw''⟩ := hw'
  subst hw''
  dsimp only
  obtain ⟨A', hA⟩ : ∃ A', (if c = m then A else Option.map (fun x => x.add (m * 7)) A) = A' := ⟨_, rfl⟩
  rw [hA]
  have HA := Lib.hid hA
  have S2 := Lib.hid (S1.out.move (w' := Go.Sort.grow (w1.drewN nq) osq) (fun q _ hq => heap_grow_old _ _ (by exact hq)) (by rw [Go.Sort.size_grow]; exact Nat.le_add_right _ _))
  have C2 := Lib.hid (show Chg (fun q => q = p) w1 (Go.Sort.grow (w1.drewN nq) osq) from ⟨rfl, rfl, rfl, by rw [Go.Sort.size_grow]; exact Nat.le_add_right _ _, fun q hq _ => heap_grow_old _ _ (by exact hq)⟩)
  clear hA S1 c0 f0 hpl c0q pc
  generalize Go.Sort.grow (w1.drewN nq) osq = w2 at *
  clear nq osq
  have c0 : w2.cell? ⟨p, 0, none⟩ = some (.slice A n c) := S2.out.blk.cell 0
  have f0 := S2.out.blk.frozen 0
  have K3 := S2.out.blk.put 0 (.slice A' (n - m) (c - m))
  simp only [List.setIfInBounds_toArray, List.set_cons_zero] at K3
  have C3 : Chg (fun q => q = p) w2 (w2.setCell ⟨p, 0, none⟩ (.slice A' (n - m) (c - m))) := ⟨rfl, rfl, rfl, by simp, fun q hq hne => Below.heap_setCell _ _ _ _ hne⟩
  have HK := Lib.hid K3
  have HC := Lib.hid C3
  clear K3 C3
  go_wp2
  go_ret
  refine ⟨rfl, A', n - m, c - m, ⟨HK.out, S2.out.fp, ?_, by omega, by unfold maxLen; omega, fun h0 => ?_⟩, ?_⟩
  · have := S2.out.len
    have := HM.out
    rw [List.length_drop]
    omega
  · have hm3 : m = 3 := by have := HM.out; omega
    subst hm3
    obtain ⟨g, o, e, hg, hne, hlt, hc⟩ := S2.out.row (by omega)
    refine ⟨g, o + 21, ?_, hg, hne, by simpa using hlt, fun j x hx => ?_⟩
    · rw [← HA.out, if_neg (by omega), e, Option.map_some, addr_add]
    · rw [List.getElem?_drop] at hx
      have h1 := hc _ x hx
      rw [show o + (3 + j) * 7 = o + 21 + j * 7 by omega] at h1
      exact HdAt.onto (fun o' => World.cell?_of_block (a := ⟨g, o', none⟩) (Below.heap_setCell _ _ _ _ hne)) h1
  · exact (Chg.of_below (F := fun q => q = p) B1.out).trans (C2.out.trans HC.out (fun k hk => .inl hk)) (fun k hk => .inl hk)
end Go.Proofs.Ytjinleakjkbbgaa
