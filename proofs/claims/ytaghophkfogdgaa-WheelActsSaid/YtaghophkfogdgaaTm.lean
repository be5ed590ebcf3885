/- The document's Arm. Conditions: what the words say; at most 1000 entries. -/
import Derived.Test.YtaghophkfogdgaaTl
namespace Go.Proofs.Ytaghophkfogdgaa
open Go.RowKit

/-- An entry put where it belongs. -/
def insE (e : En) : List En → List En
  | [] => [e]
  | x :: E => if lessE e x = true then e :: x :: E else x :: insE e E
def armE (z : Int) (E : List En) (t : Tm) : List En := insE ⟨z, t⟩ (cancelE E t)
theorem insE_any (e : En) : ∀ (L M : List En), L.any (lessE e) = true → insE e (L ++ M) = insE e L ++ M
  | [], M, h => by cases h
  | x :: L, M, h => by
    show (if lessE e x = true then e :: x :: (L ++ M) else x :: insE e (L ++ M)) = (if lessE e x = true then e :: x :: L else x :: insE e L) ++ M
    by_cases hx : lessE e x = true
    · rw [if_pos hx, if_pos hx]
      rfl
    · rw [if_neg hx, if_neg hx, insE_any e L M (by simpa [hx] using h)]
      rfl
theorem insE_none (e : En) : ∀ (L M : List En), L.any (lessE e) = false → insE e (L ++ M) = L ++ insE e M
  | [], M, _ => rfl
  | x :: L, M, h => by
    have h1 : lessE e x = false ∧ L.any (lessE e) = false := by simpa using h
    show (if lessE e x = true then e :: x :: (L ++ M) else x :: insE e (L ++ M)) = x :: (L ++ insE e M)
    rw [if_neg (by rw [h1.1]; decide), insE_none e L M h1.2]
/-- What has come out so far. -/
def outI (e : En) (L : List En) : List En := if L.any (lessE e) = true then insE e L else L
theorem outI_done {e x : En} {L : List En} (h : L.any (lessE e) = true) : (L ++ [x]).any (lessE e) = true ∧ outI e (L ++ [x]) = outI e L ++ [x] := by
  have h1 : (L ++ [x]).any (lessE e) = true := by rw [List.any_append, h]; rfl
  unfold outI
  rw [if_pos h1, if_pos h]
  exact ⟨h1, insE_any e L [x] h⟩
theorem outI_here {e x : En} {L : List En} (h : L.any (lessE e) = false) (hx : lessE e x = true) : (L ++ [x]).any (lessE e) = true ∧ outI e (L ++ [x]) = outI e L ++ [e] ++ [x] := by
  have h1 : (L ++ [x]).any (lessE e) = true := by simp [hx]
  unfold outI
  rw [if_pos h1, if_neg (by rw [h]; decide), insE_none e L [x] h]
  refine ⟨h1, ?_⟩
  show L ++ (if lessE e x = true then [e, x] else x :: insE e []) = _
  rw [if_pos hx]
  simp
theorem outI_not {e x : En} {L : List En} (h : L.any (lessE e) = false) (hx : lessE e x = false) : (L ++ [x]).any (lessE e) = false ∧ outI e (L ++ [x]) = outI e L ++ [x] := by
  have h1 : (L ++ [x]).any (lessE e) = false := by rw [List.any_append, h]; simp [hx]
  unfold outI
  rw [if_neg (by rw [h1]; decide), if_neg (by rw [h]; decide)]
  exact ⟨h1, rfl⟩
theorem outI_end {e : En} {L : List En} : insE e L = if L.any (lessE e) = true then outI e L else outI e L ++ [e] := by
  unfold outI
  by_cases h : L.any (lessE e) = true
  · rw [if_pos h, if_pos h]
  · rw [if_neg h, if_neg h]
    have := insE_none e L [] (by simpa using h)
    simpa [insE] using this
theorem outI_len (e : En) (L : List En) : (outI e L).length ≤ L.length + 1 := by
  unfold outI
  split
  · have : ∀ M : List En, (insE e M).length = M.length + 1 := by
      intro M
      induction M with
      | nil => rfl
      | cons x M ih =>
        unfold insE
        split
        · rfl
        · simp [ih]
    rw [this]
    exact Nat.le_refl _
  · exact Nat.le_succ _
theorem RWh.below {w w' : World} {lo q : Nat} {E : List En} (h : RWh w lo q E) (hb : Below w.heap.size w w') : RWh w' lo q E := by
  obtain ⟨A, n, c, hB, hO⟩ := h
  exact ⟨A, n, c, hB.below hb hB.lt, own_below2 hO hb⟩
theorem RWh.lt {w : World} {lo q : Nat} {E : List En} (h : RWh w lo q E) : q < w.heap.size := by
  obtain ⟨A, n, c, hB, hO⟩ := h
  exact hB.lt
theorem Blk.seven {w : World} {g : Nat} {t : TypeId} {a0 a1 a2 a3 a4 a5 a6 : Value} (h : Blk w g t #[a0, a1, a2, a3, a4, a5, a6]) : w.cell? ⟨g, 0, none⟩ = some a0 ∧ w.cell? ⟨g, 1, none⟩ = some a1 ∧ w.cell? ⟨g, 2, none⟩ = some a2 ∧ w.cell? ⟨g, 3, none⟩ = some a3 ∧ w.cell? ⟨g, 4, none⟩ = some a4 ∧ w.cell? ⟨g, 5, none⟩ = some a5 ∧ w.cell? ⟨g, 6, none⟩ = some a6 :=
  ⟨h.cell 0, h.cell 1, h.cell 2, h.cell 3, h.cell 4, h.cell 5, h.cell 6⟩
theorem keepB {w0 w' : World} (hb : Below w0.heap.size w0 w') : Below w0.heap.size w0 w' ∧ (∀ b o, b < w0.heap.size → w'.cell? ⟨b, o, none⟩ = w0.cell? ⟨b, o, none⟩) :=
  ⟨hb, fun _ _ hl => hb.cell (p := ⟨_, _, none⟩) hl⟩
set_option maxRecDepth 8000 in
set_option maxHeartbeats 8000000 in
theorem arm_ref {w : World} {lo q : Nat} {E : List En} {t : Tm} (z : Int) (h : RWh w lo q E) (hE : ∀ e ∈ E, wfTm e.t) (ht : wfTm t) (hn : E.length ≤ 1000) (hlo : lo ≤ w.heap.size) : Calls Try.prog 9 #[.pointer (some ⟨q, 0, none⟩), .int .i64 z, .agg #[.int .i64 t.kind, .int .i64 t.lan, .int .i64 t.id, .int .i64 t.kk, .int .i64 t.ki, .int .i64 t.ka]] w
    fun e w' => e = .returned (.tuple #[]) ∧ RWh w' lo q (armE z E t) ∧ Chg (fun k => k = q) w w' := by
  generalize hQ : (fun (e : Ending) (w' : World) => e = .returned (.tuple #[]) ∧ RWh w' lo q (armE z E t) ∧ Chg (fun k => k = q) w w') = Q
  have HQ := Lib.hid hQ
  have H := Lib.hid h
  have HE := Lib.hid hE
  have HLO := Lib.hid hlo
  have hgl := h.lt
  clear hQ h hE hlo
  have B0 := Lib.hid ((Below.refl w.heap.size w).alloc (Nat.le_refl _) (.cells #[.int .i64 t.kind, .int .i64 t.lan, .int .i64 t.id, .int .i64 t.kk, .int .i64 t.ki, .int .i64 t.ka] 33))
  have K0 := Lib.hid (Blk.new w 33 #[.int .i64 t.kind, .int .i64 t.lan, .int .i64 t.id, .int .i64 t.kk, .int .i64 t.ki, .int .i64 t.ka])
  go_enter Try.func9, Try.ntmps9
  go_wp2_with fail
  generalize hw0 : w.alloc (.cells #[.int .i64 t.kind, .int .i64 t.lan, .int .i64 t.id, .int .i64 t.kk, .int .i64 t.ki, .int .i64 t.ka] 33) = w0 at *
  have hs0 := B0.out.size
  have hlk := K0.out.lt
  clear hw0
  refine (cancel_ref (H.out.below B0.out) HE.out ht hn (Nat.le_trans HLO.out hs0)).mono ?_
  rintro e1 w1 ⟨rfl, hr1, hc1⟩
  obtain ⟨A, n, c, hB1, hO1⟩ := hr1
  have hl := own_len encEn_len (by omega) hO1
  have hcl := cancelE_len E t
  have HB1 := Lib.hid hB1
  have HO1 := Lib.hid hO1
  have K1 := Lib.hid (K0.out.chg hc1 (by omega))
  have HC1 := Lib.hid (show Chg (fun k => k = q) w w1 from (Chg.of_below (F := fun k => k = q) B0.out).trans hc1 (fun q hq => .inl hq))
  have hq1 := hB1.lt
  have hArm := Lib.hid (show armE z E t = insE ⟨z, t⟩ (cancelE E t) from rfl)
  generalize armE z E t = AE at *
  generalize cancelE E t = C at *
  obtain ⟨k0, k1, k2, k3, k4, k5⟩ := K1.out.six
  clear hB1 hO1 hc1 K0 B0 H HE
  go_wp2_with fail
  clear k0 k1 k2 k3 k4 k5
  have J2 := Lib.hid (Blk.new w1 48 #[.int .i64 z, .int .i64 t.kind, .int .i64 t.lan, .int .i64 t.id, .int .i64 t.kk, .int .i64 t.ki, .int .i64 t.ka])
  have B2 := Lib.hid ((Below.refl w1.heap.size w1).alloc (Nat.le_refl _) (.cells #[.int .i64 z, .int .i64 t.kind, .int .i64 t.lan, .int .i64 t.id, .int .i64 t.kk, .int .i64 t.ki, .int .i64 t.ka] 48))
  generalize w1.alloc (.cells #[.int .i64 z, .int .i64 t.kind, .int .i64 t.lan, .int .i64 t.id, .int .i64 t.kk, .int .i64 t.ki, .int .i64 t.ka] 48) = w2 at *
  have hs2 := B2.out.size
  have hlj := J2.out.lt
  have hq2 : q < w2.heap.size := by omega
  have HC2 := Lib.hid (HC1.out.below B2.out)
  obtain ⟨e, he⟩ : ∃ e : En, e = ⟨z, t⟩ := ⟨_, rfl⟩
  rw [← he] at hArm
  have HEE := Lib.hid he
  clear he
  go_loopw [7, 8, 9] (fun s7 s8 s9 wr => ∃ (j m c' : Nat) (A' : Option Addr) (dn : Bool), j ≤ n ∧ s9 = .int .i64 j ∧ s8 = .bool dn ∧ s7 = .slice A' m c' ∧ Hid (m ≤ j + 1 ∧ (dn = false → m ≤ j)) ∧ Hid ((C.take j).any (lessE e) = dn) ∧ Hid (wr.ownsRow w2.heap.size 48 7 (.slice A' m c') m (cellsBy encEn (outI e (C.take j)))) ∧ Hid (Below w2.heap.size w2 wr)) (fun _ _ i _ => n - (intOf i).toNat)
  case atStart => exact ⟨0, 0, 0, none, false, Nat.zero_le _, rfl, rfl, rfl, Lib.hid ⟨Nat.zero_le _, fun _ => Nat.zero_le _⟩, Lib.hid rfl, Lib.hid (by exact World.ownsRow_nil _ _ _ _), Lib.hid (Below.refl _ _)⟩
  case round =>
    obtain ⟨j, m, c', A', dn, hj, rfl, rfl, rfl, HMJ, HDN, HOW, hb⟩ := hrel
    have hsz := hb.out.size
    have HBr := Lib.hid ((HB1.out.below B2.out hq1).below hb.out hq2)
    have c0 := HBr.out.cell 0
    simp at c0
    by_cases hlt : j < n
    · have hlt' : (j : Int) < n := by omega
      obtain ⟨x, hx⟩ : ∃ x, C[j]? = some x := ⟨C[j]'(by omega), List.getElem?_eq_getElem (by omega)⟩
      have HOr := Lib.hid (own_below2 (own_below2 HO1.out B2.out) (hb.out.mono (Nat.le_refl _)))
      obtain ⟨g, rfl, -, hgl2, hnc, hcm, y0, y1, y2, y3, y4, y5, y6⟩ := own_en HOr.out hx
      unfold maxLen at hcm
      have HX := Lib.hid hx
      have HT := Lib.hid (take_snocA C j x hx)
      clear hx
      have HJr := Lib.hid (J2.out.below hb.out hlj)
      cases dn
      · -- not yet
        obtain ⟨k0, k1, k2, k3, k4, k5, k6⟩ := HJr.out.seven
        have hjr := HJr.out.lt
        have hqr := HBr.out.lt
        have BR : Below wr.heap.size wr wr.drew := ⟨rfl, rfl, rfl, Nat.le_refl _, fun _ _ => rfl⟩
        have hle := fun W => less_ok ⟨z, t⟩ x W
        obtain ⟨lx, hlx⟩ : ∃ lx, lessE ⟨z, t⟩ x = lx := ⟨_, rfl⟩
        rw [hlx] at hle
        have HLX := Lib.hid (show lessE e x = lx by rw [HEE.out]; exact hlx)
        clear hlx
        go_wp2_with fail
        go_region_held3 (fun w' => Below wr.heap.size wr w' ∧ (∀ b o, b < wr.heap.size → w'.cell? ⟨b, o, none⟩ = wr.cell? ⟨b, o, none⟩)) ((refine keepB ?_; first | with_reducible exact BR | with_reducible exact hb3)) (first | (go_at_call 20; refine (hle _).mono ?_; rintro ee w3 ⟨rfl, hb3d⟩; have hb3 := BR.trans hb3d))
        have hbw := Lib.hid (hb.out.trans (hb3.mono hsz))
        have HOW3 := Lib.hid (own_below2 HOW.out hb3)
        clear hb3d hle BR
        cases lx
        · have HF := Lib.hid (outI_not HDN.out HLX.out)
          rw [← HT.out] at HF
          go_wp2_with (at_builtin; refine wpList_append_any rfl (.tmp 42) (.tmp 50) 27 48 (.agg #[.int .i64 0, .int .i64 0, .int .i64 0, .int .i64 0, .int .i64 0, .int .i64 0, .int .i64 0]) 7 56 Try.underlying27 infoEn8 rfl (by decide) (by decide) rfl w2.heap.size (.slice A' m c') m (cellsBy encEn (outI e (C.take j))) (by rfl) (HOW3.out.alloc _) (some ⟨w3.heap.size, 0, none⟩) 1 1 (encEn x) (by rfl) (by rfl) (fun h => by cases h) (news_new w3 48 (encEn x)) (encEn_ones x) (by have := HMJ.out.1; omega) (by have := hbw.out.size; simp at *; omega) ?_; intro v4 w4 ho4 hg4)
          obtain ⟨A4, c4, rfl⟩ := own_slice ho4.out
          have HB4 := Lib.hid ((hbw.out.alloc hbw.out.size (.cells (encEn x).toArray 48)).grown hg4.out (by have := hbw.out.size; simp at *; omega) (fun i hi => by have := (HOW3.out.lt i hi).1; omega))
          have HO4 := Lib.hid (show w4.ownsRow w2.heap.size 48 7 (.slice A4 (m + 1) c4) (m + 1) (cellsBy encEn (outI e (C.take (j + 1)))) by
            rw [HF.out.2, by_append, by_one]
            exact ho4.out)
          clear ho4 hg4 c0 y0 y1 y2 y3 y4 y5 y6 k0 k1 k2 k3 k4 k5 k6
          go_wp2
          go_roundw
          case rel => exact ⟨j + 1, m + 1, c4, A4, false, by omega, by go_num, rfl, rfl, Lib.hid ⟨by have := HMJ.out.1; omega, fun _ => by have := HMJ.out.2 (by simp); omega⟩, Lib.hid HF.out.1, HO4, HB4⟩
          case measure => simp [intOf]; omega
        · have HF := Lib.hid (outI_here HDN.out HLX.out)
          rw [← HT.out] at HF
          go_upto_region 11 with (at_builtin; refine wpList_append_any rfl (.tmp 38) (.tmp 40) 27 48 (.agg #[.int .i64 0, .int .i64 0, .int .i64 0, .int .i64 0, .int .i64 0, .int .i64 0, .int .i64 0]) 7 56 Try.underlying27 infoEn8 rfl (by decide) (by decide) rfl w2.heap.size (.slice A' m c') m (cellsBy encEn (outI e (C.take j))) (by rfl) (HOW3.out.alloc _) (some ⟨w3.heap.size, 0, none⟩) 1 1 (encEn ⟨z, t⟩) (by rfl) (by rfl) (fun h => by cases h) (news_new w3 48 (encEn ⟨z, t⟩)) (encEn_ones ⟨z, t⟩) (by have := HMJ.out.1; omega) (by have := hbw.out.size; simp at *; omega) ?_; intro v5 w5 ho5 hg5)
          obtain ⟨A5, c5, rfl⟩ := own_slice ho5.out
          have HB5 := Lib.hid ((hbw.out.alloc hbw.out.size (.cells (encEn ⟨z, t⟩).toArray 48)).grown hg5.out (by have := hbw.out.size; simp at *; omega) (fun i hi => by have := (HOW3.out.lt i hi).1; omega))
          have HO5 := Lib.hid (show w5.ownsRow w2.heap.size 48 7 (.slice A5 (m + 1) c5) (m + 1) (cellsBy encEn (outI e (C.take j) ++ [e])) by rw [by_append, by_one]; have h5 := ho5.out; rw [← HEE.out] at h5; exact h5)
          have c5f := ((HB1.out.below B2.out hq1).below HB5.out hq2).one
          obtain ⟨g', hgg, -, hg5l, -, -, z0, z1, z2, z3, z4, z5, z6⟩ := own_en (own_below2 (own_below2 HO1.out B2.out) HB5.out) HX.out
          injection hgg with hgg
          injection hgg with hgg _ _
          subst hgg
          have hq5 := Nat.lt_of_lt_of_le hq2 HB5.out.size
          clear ho5 hg5 c0 y0 y1 y2 y3 y4 y5 y6 k0 k1 k2 k3 k4 k5 k6
          go_wp2_with (at_builtin; refine wpList_append_any rfl (.tmp 42) (.tmp 50) 27 48 (.agg #[.int .i64 0, .int .i64 0, .int .i64 0, .int .i64 0, .int .i64 0, .int .i64 0, .int .i64 0]) 7 56 Try.underlying27 infoEn8 rfl (by decide) (by decide) rfl w2.heap.size (.slice A5 (m + 1) c5) (m + 1) (cellsBy encEn (outI e (C.take j) ++ [e])) (by rfl) (HO5.out.alloc _) (some ⟨w5.heap.size, 0, none⟩) 1 1 (encEn x) (by rfl) (by rfl) (fun h => by cases h) (news_new w5 48 (encEn x)) (encEn_ones x) (by have := HMJ.out.1; omega) (by have := HB5.out.size; simp at *; omega) ?_; intro v4 w4 ho4 hg4)
          obtain ⟨A4, c4, rfl⟩ := own_slice ho4.out
          have HB4 := Lib.hid ((HB5.out.alloc HB5.out.size (.cells (encEn x).toArray 48)).grown hg4.out (by have := HB5.out.size; simp at *; omega) (fun i hi => by have := (HO5.out.lt i hi).1; omega))
          have HO4 := Lib.hid (show w4.ownsRow w2.heap.size 48 7 (.slice A4 (m + 1 + 1) c4) (m + 1 + 1) (cellsBy encEn (outI e (C.take (j + 1)))) by
            rw [HF.out.2, by_append (L := outI e (List.take j C) ++ [e]), by_one]
            exact ho4.out)
          clear ho4 hg4 c5f z0 z1 z2 z3 z4 z5 z6
          go_wp2
          go_roundw
          case rel => exact ⟨j + 1, m + 1 + 1, c4, A4, true, by omega, by go_num, rfl, rfl, Lib.hid ⟨by have := HMJ.out.2 (by simp); omega, fun h => by cases h⟩, Lib.hid HF.out.1, HO4, HB4⟩
          case measure => simp [intOf]; omega
      · -- done
        have HF := Lib.hid (outI_done (x := x) HDN.out)
        rw [← HT.out] at HF
        go_wp2_with fail
        go_quiet (fail)
        have HBq := Lib.hid (below_drewN hb.out nq)
        have HOWq := Lib.hid (show (wr.drewN nq).ownsRow w2.heap.size 48 7 (.slice A' m c') m (cellsBy encEn (outI e (C.take j))) from HOW.out)
        go_wp2_with (at_builtin; refine wpList_append_any rfl (.tmp 42) (.tmp 50) 27 48 (.agg #[.int .i64 0, .int .i64 0, .int .i64 0, .int .i64 0, .int .i64 0, .int .i64 0, .int .i64 0]) 7 56 Try.underlying27 infoEn8 rfl (by decide) (by decide) rfl w2.heap.size (.slice A' m c') m (cellsBy encEn (outI e (C.take j))) (by rfl) (HOWq.out.alloc _) (some ⟨(wr.drewN nq).heap.size, 0, none⟩) 1 1 (encEn x) (by rfl) (by rfl) (fun h => by cases h) (news_new (wr.drewN nq) 48 (encEn x)) (encEn_ones x) (by have := HMJ.out.1; omega) (by have := HBq.out.size; simp at *; omega) ?_; intro v4 w4 ho4 hg4)
        obtain ⟨A4, c4, rfl⟩ := own_slice ho4.out
        have HB4 := Lib.hid ((HBq.out.alloc HBq.out.size (.cells (encEn x).toArray 48)).grown hg4.out (by have := HBq.out.size; simp at *; omega) (fun i hi => by have := (HOWq.out.lt i hi).1; omega))
        have HO4 := Lib.hid (show w4.ownsRow w2.heap.size 48 7 (.slice A4 (m + 1) c4) (m + 1) (cellsBy encEn (outI e (C.take (j + 1)))) by
          rw [HF.out.2, by_append, by_one]
          exact ho4.out)
        clear ho4 hg4 c0 y0 y1 y2 y3 y4 y5 y6
        go_wp2
        go_roundw
        case rel => exact ⟨j + 1, m + 1, c4, A4, true, by omega, by go_num, rfl, rfl, Lib.hid ⟨by have := HMJ.out.1; omega, fun h => by cases h⟩, Lib.hid HF.out.1, HO4, HB4⟩
        case measure => simp [intOf]; omega
    · have hjn : j = n := by omega
      have hT : C.take j = C := by rw [hjn, ← hl, List.take_length]
      rw [hT] at HOW HDN
      have hqr := HBr.out.lt
      have HA := Lib.hid (hArm.out.trans (outI_end (e := e) (L := C)))
      have HCw := Lib.hid (HC2.out.below hb.out)
      clear hjn hT
      cases dn
      · have HFA := Lib.hid (show AE = outI e C ++ [e] by have := HA.out; rw [HDN.out] at this; simpa using this)
        obtain ⟨k0, k1, k2, k3, k4, k5, k6⟩ := (J2.out.below hb.out hlj).seven
        have hjr := (J2.out.below hb.out hlj).lt
        go_upto_region 14 with (at_builtin; refine wpList_append_any rfl (.tmp 54) (.tmp 56) 27 48 (.agg #[.int .i64 0, .int .i64 0, .int .i64 0, .int .i64 0, .int .i64 0, .int .i64 0, .int .i64 0]) 7 56 Try.underlying27 infoEn8 rfl (by decide) (by decide) rfl w2.heap.size (.slice A' m c') m (cellsBy encEn (outI e C)) (by rfl) (HOW.out.alloc _) (some ⟨wr.heap.size, 0, none⟩) 1 1 (encEn ⟨z, t⟩) (by rfl) (by rfl) (fun h => by cases h) (news_new wr 48 (encEn ⟨z, t⟩)) (encEn_ones ⟨z, t⟩) (by have := HMJ.out.1; omega) (by have := hb.out.size; simp at *; omega) ?_; intro v4 w4 ho4 hg4)
        obtain ⟨A4, c4, rfl⟩ := own_slice ho4.out
        have HB4 := Lib.hid ((hb.out.alloc hb.out.size (.cells (encEn ⟨z, t⟩).toArray 48)).grown hg4.out (by have := hb.out.size; simp at *; omega) (fun i hi => by have := (HOW.out.lt i hi).1; omega))
        have HO4 := Lib.hid (show w4.ownsRow w2.heap.size 48 7 (.slice A4 (m + 1) c4) (m + 1) (cellsBy encEn AE) by
          rw [HFA.out, by_append, by_one]
          have h5 := ho4.out
          rw [← HEE.out] at h5
          exact h5)
        have HBq := Lib.hid ((HB1.out.below B2.out hq1).below HB4.out hq2)
        have HNO := Lib.hid (own_not HO4.out (.inl hq2))
        have hq4 := HBq.out.lt
        have c0q := HBq.out.one
        have c0f := HBq.out.frozen 0
        clear ho4 hg4 c0 k0 k1 k2 k3 k4 k5 k6
        go_wp2
        refine bodyPost_ret (v := .tuple #[]) (by simp [results, Try.results9, go_sem, *]) rfl ?_
        rw [← HQ.out]
        exact ⟨rfl, ⟨A4, m + 1, c4, HBq.out.put 0 _, own_low (own_ne HO4.out _ _ HNO.out) (Nat.le_trans HLO.out HC2.out.size)⟩, Chg.setCell (F := fun k => k = q) (HC2.out.below HB4.out) ⟨q, 0, none⟩ rfl _⟩
      · have HFA := Lib.hid (show AE = outI e C by have := HA.out; rw [HDN.out] at this; simpa using this)
        have HNO := Lib.hid (own_not HOW.out (.inl hq2))
        have c0f := HBr.out.frozen 0
        go_wp2
        refine bodyPost_ret (v := .tuple #[]) (by simp [results, Try.results9, go_sem, *]) rfl ?_
        rw [← HQ.out]
        refine ⟨rfl, ⟨A', m, c', HBr.out.put 0 _, ?_⟩, Chg.setCell (F := fun k => k = q) HCw.out ⟨q, 0, none⟩ rfl _⟩
        rw [HFA.out]
        exact own_low (own_ne HOW.out _ _ HNO.out) (Nat.le_trans HLO.out HC2.out.size)
end Go.Proofs.Ytaghophkfogdgaa
