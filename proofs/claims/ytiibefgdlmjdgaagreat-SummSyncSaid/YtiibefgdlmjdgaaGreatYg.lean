/- The walk of the statement SummLacks. Conditions: what the words say. -/
import Derived.Test.YtiibefgdlmjdgaaGreatYf
import Derived.Test.YtiibefgdlmjdgaaGreatYb
import Derived.Test.YtiibefgdlmjdgaaGreatUp
import Derived.Test.YtiibefgdlmjdgaaGreatUy
namespace Go.Proofs.YtiibefgdlmjdgaaGreat
open Go.RowKit Go.Lib Go.Sort Go.Deep

theorem lackStep_len {S : List La} {K : List Hd} {x : Hd} : (lackStep S K x).length ≤ K.length + 1 := by
  unfold lackStep
  split
  · split
    · simp
    · split
      · split
        · simp
        · omega
      · omega
  · omega
theorem lacksF_len {S : List La} : ∀ (L K : List Hd), (L.foldl (lackStep S) K).length ≤ K.length + L.length
  | [], _ => Nat.le_refl _
  | a :: L, K => by
    have h1 := lacksF_len (S := S) L (lackStep S K a)
    have h2 := lackStep_len (S := S) (K := K) (x := a)
    rw [List.foldl_cons, List.length_cons]
    omega
theorem lacksL_len (S : List La) (L : List Hd) : (lacksL S L).length ≤ L.length := by
  have := lacksF_len (S := S) L []
  rw [List.length_nil, Nat.zero_add] at this
  exact this
theorem own_lit0 (w : World) : (w.alloc (.cells #[] 40)).ownsRow w.heap.size 40 7 (.slice (some ⟨w.heap.size, 0, none⟩) 0 0) 0 [] :=
  ⟨rfl, .inr ⟨w.heap.size, 0, #[], rfl, Nat.le_refl _, Blk.new w 40 #[], Nat.le_refl _, by unfold maxLen; omega, rfl, rfl⟩⟩
theorem pdb_age {w : World} {lo p : Nat} {room : Int} {S : List La} {F : Nat → Prop} (h : PDb w lo p room S F) {k : Ky} {y : La} (hy : getL S k = some y) : ageB y.h = true := by
  obtain ⟨_, _, _, -, -, -, -, -, -, -, -, h5, -⟩ := h
  rw [ageB_iff]
  exact right_age (h5 y (getL_some hy).1)
set_option maxRecDepth 20000 in
set_option maxHeartbeats 16000000 in
theorem lacks_walk {w : World} {A A2 : Option Addr} {n c n2 c2 : Nat} {T : List La} {L : List Hd} (hT : Las w w.heap.size A n T) (hn : n ≤ maxLen) (hL : Hds w w.heap.size A2 n2 L) (hn2 : n2 ≤ maxLen) (hk : ∀ h ∈ L, wfKy (keyH h)) :
    Calls Tryz.prog 3 #[.slice A n c, .slice A2 n2 c2] w fun e w' => e = .returned (.bool true) ∧ Below w.heap.size w w' := by
  have HT := Lib.hid hT
  have HN := Lib.hid hn
  have HL := Lib.hid hL
  have HN2 := Lib.hid hn2
  have HK := Lib.hid hk
  clear hT hn hL hn2 hk
  go_enter Tryz.func3, Tryz.ntmps3
  go_wp2_with fail
  refine (wakes_any _).mono ?_
  rintro e1 w1 ⟨rfl, hb1⟩
  have B1 := Lib.hid hb1
  clear hb1
  go_wp2_with fail
  refine (many_any A n c T w.heap.size w1 (HT.out.below B1.out) B1.out.size HN.out).mono ?_
  rintro e2 w2 ⟨⟨t, rfl, ht⟩, hb2⟩
  have B2 := Lib.hid (B1.out.trans (hb2.mono B1.out.size))
  clear hb2 B1
  cases t
  case true =>
    go_wp2
    go_ret
    exact ⟨rfl, B2.out⟩
  obtain ⟨hn60, h20⟩ := ht rfl
  have H20 := Lib.hid h20
  clear ht HN h20
  go_wp2_with fail
  refine (may_any A2 n2 c2 L w.heap.size w2 (HL.out.below B2.out) B2.out.size HN2.out).mono ?_
  rintro e2 w3 ⟨⟨t, rfl, ht⟩, hb3⟩
  have B3 := Lib.hid (B2.out.trans (hb3.mono B2.out.size))
  clear hb3 B2
  cases t
  case false =>
    go_wp2
    go_ret
    exact ⟨rfl, B3.out⟩
  obtain ⟨hn100, hag⟩ := ht rfl
  have HAG := Lib.hid hag
  clear ht HN2 hag
  go_wp2_with fail
  refine (both13_any (HT.out.below B3.out) B3.out.size (by omega) H20.out).mono ?_
  rintro e4 w4 ⟨lo2, p, g, S, F, F', rfl, hb4, hlo2, hD⟩
  have B4 := Lib.hid (B3.out.trans (hb4.mono B3.out.size))
  have HS := Lib.hid hD.sort
  have PD := Lib.hid hD.1
  have RD := Lib.hid hD.2.1
  have hzw := B4.out.size
  clear hb4 hD B3 H20 hlo2
  generalize w3.heap.size = lo at *
  have hln := HL.out.1
  have O5 := Lib.hid (own_lit0 w4)
  have B5 := Lib.hid (B4.out.alloc hzw (.cells #[] 40))
  have BA := Lib.hid ((Below.refl w4.heap.size w4).alloc (Nat.le_refl _) (.cells #[] 40))
  have HL5 := Lib.hid (HL.out.below B5.out).cells
  go_wp2_with (at_builtin; refine wpList_append_any rfl (.tmp 22) (.tmp 23) 23 40 (.agg #[.int .i64 0, .int .i64 0, .int .i64 0, .int .i64 0, .int .i64 0, .int .i64 0, .int .i64 0]) 7 56 Tryz.underlying23 infoHd rfl (by decide) (by decide) rfl w4.heap.size (.slice (some ⟨w4.heap.size, 0, none⟩) 0 0) 0 [] (by rfl) O5.out A2 n2 c2 (cellsBy encHd L) (by rfl) (by rw [by_length encHd_len, hln]) HL5.out.1 HL5.out.2 (by_ones encHd_ones L) (by omega) (by simp) ?_; intro v6 w6 ho6 hg6)
  obtain ⟨A6, c6, rfl⟩ := own_slice ho6.out
  have ho7 := ho6.out
  rw [Nat.zero_add] at ho7 ⊢
  rw [List.nil_append] at ho7
  have hb6 : Below w4.heap.size w4 w6 := BA.out.trans (own_keeps7 O5.out hg6.out (by simp))
  have B6 := Lib.hid (B4.out.trans (hb6.mono hzw))
  have P6 := Lib.hid (PD.out.chg (F' := fun _ => False) (Chg.of_below hb6) (fun _ _ hf => hf))
  have R6 := Lib.hid (RD.out.chg (F' := fun _ => False) (Chg.of_below hb6) (fun _ _ hf => hf))
  have O6 := Lib.hid ho7
  have hz6 := B6.out.size
  clear ho6 hg6 ho7 hb6 HL5 BA O5 B5 B4 PD RD hzw
  generalize w4.heap.size = b6 at *
  go_wp2_with fail
  refine (lacksS_any (F := F) (B := w6.heap.size) (.inr ⟨lo, p, 40, rfl, P6.out, HS.out⟩) (own_hds O6.out) (Nat.le_refl _) hn100 HK.out (fun h hh y hy => ⟨HAG.out h hh, pdb_age P6.out hy⟩) (fun i j a b _ ha hb => ⟨HAG.out a (List.mem_of_getElem? ha), HAG.out b (List.mem_of_getElem? hb)⟩)).mono ?_
  rintro e7 w7 ⟨A7, m7, c7, rfl, hb7, hO7⟩
  have B7 := Lib.hid (B6.out.trans (hb7.mono hz6))
  have R7 := Lib.hid (R6.out.chg (F' := fun _ => False) (Chg.of_below hb7) (fun _ _ hf => hf))
  have Q7 := Lib.hid (own_chg O6.out (Chg.of_below (F := fun _ => False) hb7) (fun _ _ hf => hf))
  have O7 := Lib.hid hO7
  have hz7 := B7.out.size
  clear hb7 hO7 P6 R6 O6 B6
  go_wp2_with fail
  refine (rlacks_any R7.out (HL.out.below B7.out) hz7 hn100 HAG.out).mono ?_
  rintro e8 w8 ⟨A8, m8, c8, rfl, hb8, hO8⟩
  have B8 := Lib.hid (B7.out.trans (hb8.mono hz7))
  have Q8 := Lib.hid (own_chg Q7.out (Chg.of_below (F := fun _ => False) hb8) (fun _ _ hf => hf))
  have O78 := Lib.hid (own_chg O7.out (Chg.of_below (F := fun _ => False) hb8) (fun _ _ hf => hf))
  have O8 := Lib.hid hO8
  have hz8 := B8.out.size
  have hlk := lacksL_len S L
  have hm7 := own_lenH encHd_len (by omega) O78.out
  have hm8 := own_lenH encHd_len (by omega) hO8
  clear hb8 hO8 R7 Q7 O7 B7
  go_wp2_with fail
  refine (same13_yes (own_hds O78.out) (own_hds O8.out) (Nat.le_refl _) (Nat.le_refl _) (by omega) (by omega) rfl).mono ?_
  rintro e9 w9 ⟨rfl, q9, rfl⟩
  have W9 : Below w8.heap.size w8 (w8.drewN q9) := ⟨rfl, rfl, rfl, Nat.le_refl _, fun _ _ => rfl⟩
  have B9 := Lib.hid (B8.out.trans (W9.mono hz8))
  have Q9 := Lib.hid (own_chg Q8.out (Chg.of_below (F := fun _ => False) W9) (fun _ _ hf => hf))
  have hz9 : w.heap.size ≤ (w8.drewN q9).heap.size := hz8
  clear W9 Q8 O78 O8 B8 hlk hm7 hm8
  generalize w8.drewN q9 = w10 at *
  go_wp2_with fail
  refine (same13_yes (own_hds Q9.out) (HL.out.below B9.out) (Nat.le_refl _) hz9 (by omega) (by omega) rfl).mono ?_
  rintro e11 w11 ⟨rfl, q11, rfl⟩
  have W11 : Below w10.heap.size w10 (w10.drewN q11) := ⟨rfl, rfl, rfl, Nat.le_refl _, fun _ _ => rfl⟩
  have B11 := Lib.hid (B9.out.trans (W11.mono hz9))
  clear W11 Q9 B9
  go_wp2
  go_ret
  exact ⟨rfl, B11.out⟩
end Go.Proofs.YtiibefgdlmjdgaaGreat
