/- The program's Answer: the descriptions of keys, as a database has them. Conditions: at most 1000 keys, of 64 bits. -/
import Derived.Test.YtnnkcgbnhjkahaaAj
import Derived.Test.YtnnkcgbnhjkahaaJap
namespace Go.Proofs.Ytnnkcgbnhjkahaa
open Go.RowKit Go.Lib Go.Sort Go.Deep

theorem get_v2 {w : World} {v : Value} {S : List La} {F : Nat → Prop} (h : DbV w v S F) (k : Ky) (hk : wfKy k) :
    Calls Try.prog 49 #[v, .agg #[.int .i64 k.kind, .int .i64 k.id, .int .i64 k.adv]] w fun e w' => Below w.heap.size w w' ∧ ((getL S k = none ∧ e = .returned (.tuple #[.agg #[.int .i64 0, .int .i64 0, .int .i64 0, .int .i64 0, .int .i64 0, .int .i64 0, .int .i64 0, .slice none 0 0, .slice none 0 0], .bool false])) ∨ ∃ (x : La) (r : Rc), getL S k = some x ∧ RcIs w' w.heap.size r x ∧ e = .returned (.tuple #[.agg #[.int .i64 r.h.age, .int .i64 r.h.kind, .int .i64 r.h.id, .int .i64 r.h.adv, .int .i64 r.h.seq, .int .i64 r.h.sum, .int .i64 r.h.long, .slice r.p.a r.p.n r.p.c, .slice r.q.a r.q.n r.q.c], .bool true])) := by
  rcases h with ⟨rfl, rfl⟩ | ⟨lo, p, room, rfl, hd, hs⟩
  · refine (get_nil k w).mono ?_
    rintro e w' ⟨rfl, hb⟩
    exact ⟨hb, .inl ⟨rfl, rfl⟩⟩
  · refine (get_db hd hs k hk).mono ?_
    rintro e w' ⟨hb, hg⟩
    rcases hg with ⟨h1, rfl⟩ | ⟨x, A, n, c, A', n', c', h1, rfl, h2, h3, h4, h5⟩
    · exact ⟨hb, .inl ⟨h1, rfl⟩⟩
    · exact ⟨hb, .inr ⟨x, ⟨x.h, ⟨A, n, c⟩, ⟨A', n', c'⟩⟩, h1, ⟨rfl, h2, h3, h4, h5⟩, rfl⟩⟩
theorem wpList_app_rc {wb : World} {ops : Array Oper} {rest : List Oper} {o : Oper} {a : Act} {Q : Exit → Act → World → Prop} (hgd : o.guard = none) (s x : Operand) (ho : o.op = .call { callee := .builtin .append, args := #[s, x], argTypes := #[53, 53] })
    {base n c : Nat} {A : Option Addr} {xs : List Value} (y : Rc) {g : Nat} (hgz : wb.heap.size = g) (hs : a.eval s = .slice A n c) (hx : a.eval x = .slice (some ⟨g, 0, none⟩) 1 1) (hown : wb.ownsRow base 62 9 (.slice A n c) n xs) (hn : n ≤ 1000) (hbase : base ≤ wb.heap.size)
    (h : ∀ A' c' w', Hid (w'.ownsRow base 62 9 (.slice A' (n + 1) c') (n + 1) (xs ++ y.cells)) → Hid ((wb.alloc (.cells #[.int .i64 y.h.age, .int .i64 y.h.kind, .int .i64 y.h.id, .int .i64 y.h.adv, .int .i64 y.h.seq, .int .i64 y.h.sum, .int .i64 y.h.long, .slice y.p.a y.p.n y.p.c, .slice y.q.a y.q.n y.q.c] 62)).grownBy w' (Value.slice A n c).ownBlock) → wpList Try.prog ops Q rest (a.put o.dst (.slice A' (n + 1) c')) w') : wpList Try.prog ops Q (o :: rest) a (wb.alloc (.cells #[.int .i64 y.h.age, .int .i64 y.h.kind, .int .i64 y.h.id, .int .i64 y.h.adv, .int .i64 y.h.seq, .int .i64 y.h.sum, .int .i64 y.h.long, .slice y.p.a y.p.n y.p.c, .slice y.q.a y.q.n y.q.c] 62)) := by
  subst hgz
  refine wpList_append_any hgd s x 53 62 (.agg #[.int .i64 0, .int .i64 0, .int .i64 0, .int .i64 0, .int .i64 0, .int .i64 0, .int .i64 0, .slice none 0 0, .slice none 0 0]) 9 104 Try.underlying53 Try.infoLsa rfl (by decide) (by decide) ho base (.slice A n c) n xs hs (hown.alloc _) (some ⟨wb.heap.size, 0, none⟩) 1 1 y.cells hx rfl (fun h => by cases h) (news_new wb 62 y.cells) (rcCells_ones1 y) (by omega) (by simp; omega) ?_
  intro v2 w2 ho2 hg2
  obtain ⟨A2, c2, rfl⟩ := own_slice ho2.out
  exact h A2 c2 w2 ho2 hg2
/-- What is answered of keys that are all there. -/
def gotL (S : List La) (K : List Ky) : List La := K.map fun k => (getL S k).getD zeroLa
theorem gotL_snoc (S : List La) (K : List Ky) (k : Ky) : gotL S (K ++ [k]) = gotL S K ++ [(getL S k).getD zeroLa] := by simp [gotL]
/-- What Answer answers. -/
def AnsQ (S : List La) (K : List Ky) (w : World) (e : Ending) (w' : World) : Prop := Below w.heap.size w w' ∧
  (((∃ k ∈ K, getL S k = none) ∧ e = .returned (.tuple #[.slice none 0 0, .bool false])) ∨ ∃ (A : Option Addr) (n c : Nat) (R : List Rc), (∀ k ∈ K, getL S k ≠ none) ∧ e = .returned (.tuple #[.slice A n c, .bool true]) ∧ w'.ownsRow w.heap.size 62 9 (.slice A n c) n (rcCells R) ∧ All2 (RcIs w' w.heap.size) R (gotL S K))
/-- A list of keys, item k of it. -/
theorem kys_item {w : World} {B n k : Nat} {A : Option Addr} {K : List Ky} (h : Kys w B A n K) (hk : k < n) : ∃ (b o : Nat) (x : Ky), A = some ⟨b, o, none⟩ ∧ b < B ∧ K[k]? = some x ∧ w.cell? ⟨b, o + k * 3, none⟩ = some (.int .i64 x.kind) ∧ w.cell? ⟨b, o + k * 3 + 1, none⟩ = some (.int .i64 x.id) ∧ w.cell? ⟨b, o + k * 3 + 2, none⟩ = some (.int .i64 x.adv) := by
  obtain ⟨b, o, x, rfl, hb, hx, hh⟩ := Arr.at h hk
  exact ⟨b, o, x, rfl, hb, hx, hh.1, hh.2.1, hh.2.2.1⟩
set_option maxRecDepth 20000 in
set_option maxHeartbeats 16000000 in
theorem answer_any {w : World} {v : Value} {S : List La} {F : Nat → Prop} {A : Option Addr} {n c B : Nat} {K : List Ky} (hD : DbV w v S F) (hK : Kys w B A n K) (hB : B ≤ w.heap.size) (hn : n ≤ 1000) (hwf : ∀ k ∈ K, wfKy k) : Calls Try.prog 30 #[v, .slice A n c] w (AnsQ S K w) := by
  generalize hQ : AnsQ S K w = Q
  have HQ := Lib.hid hQ
  have HD := Lib.hid hD
  have HK := Lib.hid hK
  have HWF := Lib.hid hwf
  have HLN := Lib.hid hK.1
  have O0 := Lib.hid (World.ownsRow_nil w w.heap.size 62 9)
  have B0 := Lib.hid (Below.refl w.heap.size w)
  clear hQ hD hK hwf
  go_enter Try.func30, Try.ntmps30
  go_wp2_with fail
  go_loopw [6, 13] (fun s6 s13 wr => ∃ (j c' : Nat) (A' : Option Addr) (R : List Rc), s13 = .int .i64 j ∧ s6 = .slice A' j c' ∧ j ≤ n ∧ Hid (wr.ownsRow w.heap.size 62 9 (.slice A' j c') j (rcCells R)) ∧ Hid (All2 (RcIs wr w.heap.size) R ((gotL S K).take j)) ∧ Hid (∀ k ∈ K.take j, getL S k ≠ none) ∧ Hid (Below w.heap.size w wr)) (fun _ s13 _ => n - (intOf s13).toNat)
  case atStart => exact ⟨0, 0, none, [], rfl, rfl, Nat.zero_le _, Lib.hid (by simpa [rcCells] using O0.out), Lib.hid All2.nil, Lib.hid (fun k hk => by simp at hk), B0⟩
  case round =>
    clear O0 B0
    obtain ⟨j, c', A', R, rfl, rfl, hj, OW, AW, NW, BW⟩ := hrel
    have hzr := BW.out.size
    by_cases hlt : j < n
    · have hlt' : (j : Int) < (n : Int) := by omega
      obtain ⟨g, o, k, rfl, hg, hk, y0, y1, y2⟩ := kys_item (HK.out.below (BW.out.mono hB)) hlt
      have HKJ := Lib.hid hk
      have HWK := Lib.hid (HWF.out k (List.mem_of_getElem? hk))
      have BX := Lib.hid ((Below.refl wr.heap.size wr).alloc (Nat.le_refl _) (.cells #[.int .i64 k.kind, .int .i64 k.id, .int .i64 k.adv] 47))
      obtain ⟨k0, k1, k2⟩ := (Blk.new wr 47 #[.int .i64 k.kind, .int .i64 k.id, .int .i64 k.adv]).three
      clear hk
      go_wp2_with fail
      refine (get_v2 (HD.out.below (BW.out.trans (BX.out.mono hzr))) k HWK.out).mono ?_
      rintro e3 w3 ⟨hb3, hG⟩
      clear k0 k1 k2 y0 y1 y2
      have B3 := Lib.hid hb3
      generalize wr.alloc (.cells #[.int .i64 k.kind, .int .i64 k.id, .int .i64 k.adv] 47) = w2 at *
      have hz2 := BX.out.size
      have hz3 := hb3.size
      clear hb3
      rcases hG with ⟨hno, rfl⟩ | ⟨x, r, hsome, hrc, rfl⟩
      · have BE := Lib.hid ((BW.out.trans ((BX.out.trans (B3.out.mono hz2)).mono hzr)).alloc (by omega) (.cells #[.int .i64 0, .int .i64 0, .int .i64 0, .int .i64 0, .int .i64 0, .int .i64 0, .int .i64 0, .slice none 0 0, .slice none 0 0] 62))
        have HNO := Lib.hid (show ∃ k ∈ K, getL S k = none from ⟨k, List.mem_of_getElem? HKJ.out, hno⟩)
        clear hno BW BX B3
        go_wp2
        show Q (.returned (.tuple #[.slice none 0 0, .bool false])) _
        rw [← HQ.out]
        exact ⟨BE.out, .inl ⟨HNO.out, rfl⟩⟩
      · have HGX := Lib.hid (show (gotL S K)[j]? = some x by
          unfold gotL
          rw [List.getElem?_map, HKJ.out, Option.map_some, hsome]
          rfl)
        have HNN := Lib.hid (show ∀ k ∈ K.take (j + 1), getL S k ≠ none from fun k' hk' => by
          rw [take_snocA K j k HKJ.out] at hk'
          rcases List.mem_append.1 hk' with h | h
          · exact NW.out k' h
          · rw [List.mem_singleton.1 h, hsome]
            exact fun e => by cases e)
        have HRC := Lib.hid hrc
        have R4 := Lib.hid (blk_range7 (Blk.new w3 62 #[.int .i64 r.h.age, .int .i64 r.h.kind, .int .i64 r.h.id, .int .i64 r.h.adv, .int .i64 r.h.seq, .int .i64 r.h.sum, .int .i64 r.h.long, .slice r.p.a r.p.n r.p.c, .slice r.q.a r.q.n r.q.c]))
        have O4 := Lib.hid (own_chg OW.out (Chg.of_below (F := fun _ => False) ((BX.out.trans (B3.out.mono hz2)).alloc (by omega) (.cells #[.int .i64 r.h.age, .int .i64 r.h.kind, .int .i64 r.h.id, .int .i64 r.h.adv, .int .i64 r.h.seq, .int .i64 r.h.sum, .int .i64 r.h.long, .slice r.p.a r.p.n r.p.c, .slice r.q.a r.q.n r.q.c] 62))) (fun _ _ hf => hf))
        have B4 := Lib.hid (B3.out.alloc hz3 (.cells #[.int .i64 r.h.age, .int .i64 r.h.kind, .int .i64 r.h.id, .int .i64 r.h.adv, .int .i64 r.h.seq, .int .i64 r.h.sum, .int .i64 r.h.long, .slice r.p.a r.p.n r.p.c, .slice r.q.a r.q.n r.q.c] 62))
        have RC4 := Lib.hid (HRC.out.chg (Chg.of_below (F := fun _ => False) ((Below.refl w3.heap.size w3).alloc (Nat.le_refl _) (.cells #[.int .i64 r.h.age, .int .i64 r.h.kind, .int .i64 r.h.id, .int .i64 r.h.adv, .int .i64 r.h.seq, .int .i64 r.h.sum, .int .i64 r.h.long, .slice r.p.a r.p.n r.p.c, .slice r.q.a r.q.n r.q.c] 62))) (fun _ _ hf => hf))
        clear hsome hrc HRC NW
        go_wp2_with (first | (refine wpList_load_row 62 _ _ (by rfl) (.tmp 9) rfl (by rfl) R4.out Try.underlying62 rfl (by kernel_rfl) ?_) | (at_builtin; refine wpList_app_rc rfl (.tmp 25) (.tmp 27) rfl r (g := w3.heap.size + 1) (by simp) (by rfl) (by rfl) O4.out (by omega) (by simp; omega) ?_; intro A5 c5 w5 HO5 HG5))
        obtain ⟨E1, E2, E3⟩ := all_end OW.out AW.out BW.out BX.out B4.out RC4.out HG5.out HGX.out HO5.out
        clear HO5 HG5 OW AW BW BX B3 B4 O4 R4 RC4
        go_roundw
        case rel => exact ⟨j + 1, c5, A5, _, by go_num, by first | rfl | go_num, by omega, E1, E2, HNN, E3⟩
        case measure => simp [intOf]; omega
    · have hjn : j = n := by omega
      subst hjn
      have HT := Lib.hid (show K.take j = K from List.take_of_length_le (by have := HLN.out; omega))
      have HT2 := Lib.hid (show (gotL S K).take j = gotL S K from List.take_of_length_le (by unfold gotL; rw [List.length_map]; have := HLN.out; omega))
      go_wp2
      show Q (.returned (.tuple #[.slice A' j c', .bool true])) wr
      rw [← HQ.out]
      exact ⟨BW.out, .inr ⟨A', j, c', R, by rw [← HT.out]; exact NW.out, rfl, OW.out, by rw [← HT2.out]; exact AW.out⟩⟩
end Go.Proofs.Ytnnkcgbnhjkahaa
