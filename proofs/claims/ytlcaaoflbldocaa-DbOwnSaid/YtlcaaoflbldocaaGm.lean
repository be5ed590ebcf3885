/- The program's keys. Conditions: what the words say. -/
import Derived.Test.YtlcaaoflbldocaaGl
namespace Go.Proofs.Ytlcaaoflbldocaa
open Go.RowKit
open Go.Maps (Keyed)

set_option maxRecDepth 20000 in
set_option maxHeartbeats 8000000 in
theorem keys_db {w : World} {lo p : Nat} {room : Int} {S : List La} {F : Nat → Prop} (h : PDb w lo p room S F) (hs : SortL S) : Calls Try.prog 30 #[.pointer (some ⟨p, 0, none⟩)] w
    fun e w' => ∃ (A : Option Addr) (n c : Nat), e = .returned (.slice A n c) ∧ Below w.heap.size w w' ∧ w'.ownsRow w.heap.size 38 3 (.slice A n c) n (kyCells (S.map kyL)) := by
  obtain ⟨b, R, T, hB, h1, h2, hM, hA, hp, h3, h4, h5, hF⟩ := h
  generalize hQ : (fun (e : Ending) (w' : World) => ∃ (A : Option Addr) (n c : Nat), e = .returned (.slice A n c) ∧ Below w.heap.size w w' ∧ w'.ownsRow w.heap.size 38 3 (.slice A n c) n (kyCells (S.map kyL))) = Q
  have HQ := Lib.hid hQ
  clear hQ
  have HE := Lib.hid (show ∀ (l : List (Lit × DataW Value)) (left : Lit → Bool) (ks : List Ky) (n : Nat), l.Perm (R.map rcE) → Coll (.map l) left ks → (∀ kl, left kl = false) → ks.length + n ≤ R.length → ks.mergeSort leKy = S.map kyL ∧ ks.length ≤ S.length from fun l left ks n e1 e2 e3 e4 => coll_end hM e1 hA hp e2 e3 hs e4)
  have HRL := Lib.hid (show R.length ≤ 40 by have := hA.1.trans hp.length_eq; omega)
  have hbl := hM.lt
  have HBLT := Lib.hid hbl
  obtain ⟨hw, l, ho, hpm⟩ := hM
  have HPM := Lib.hid hpm
  have HO := Lib.hid ho
  have c1 := hB.cell 1
  simp at c1
  clear hw hpm ho hB h1 h2 hA hp h3 h4 h5 hF hbl
  go_enter Try.func30, Try.ntmps30
  go_wp2_with (first
    | (at_range; refine wpList_range_own _ rfl _ 63 rfl 38 34 keyed7 Try.underlying63 asIs b R.length _ rfl HO.out ?_; intro w0 hrg0 hg0 hs0)
    | go_in)
  go_frame
  have HG0 := Lib.hid hg0
  have HS0 := Lib.hid hs0
  clear hg0 hs0
  go_loopw [3] (fun s3 wr => ∃ (A : Option Addr) (n c : Nat) (ks : List Ky) (left : Lit → Bool) (cnt : Nat), s3 = .slice A n c ∧ Hid (wr.ranges Try.prog 38 asIs b w.heap.size R.length (.map l) left cnt) ∧ Hid (wr.ownsRow (w.heap.size + 1) 38 3 (.slice A n c) n (kyCells ks)) ∧ Hid (Below w.heap.size w wr) ∧ Hid (Coll (.map l) left ks) ∧ Hid (ks.length + cnt ≤ R.length) ∧ Hid (w.heap.size + 1 ≤ wr.heap.size))
    (fun _ wr => wr.rangeLeft b w.heap.size)
  case atStart =>
    have hsz : Maps.size (DataW.map l) = R.length := by
      rw [Maps.size_eq, HPM.out.length_eq, List.length_map]
    refine ⟨none, 0, 0, [], _, _, rfl, Lib.hid hrg0, Lib.hid (World.ownsRow_nil _ _ _ _), Lib.hid ?_, Lib.hid (Coll.start _), Lib.hid (by rw [hsz]; simp), Lib.hid (by have := HS0.out; omega)⟩
    exact ⟨HG0.out.os, HG0.out.tape, HG0.out.output, HG0.out.size, fun k hk => HG0.out.block k hk (by simp)⟩
  case round =>
    obtain ⟨A, n, c, ks, left, cnt, rfl, HRG, HOW, HBW, HC, HN, HZ⟩ := hrel
    go_wp2_with (first
      | (at_next; refine wpList_next_ranges _ rfl _ rfl 38 keyed7 asIs (fun k : Ky => .agg #[.int .i64 k.kind, .int .i64 k.id, .int .i64 k.adv]) (fun v : Value => v) (fun key kl hk => by obtain ⟨k, _, e, _⟩ := keyOf_ky_inv hk; exact ⟨k, e⟩) (fun v y _ => ⟨v, rfl⟩) b w.heap.size R.length _ _ _ rfl HRG.out ?_ ?_)
      | go_in)
    · intro _ hl0
      have HL0 := Lib.hid hl0
      clear hl0
      obtain ⟨e1, e2⟩ := HE.out l left ks cnt HPM.out HC.out HL0.out HN.out
      have hnk := HOW.out.1
      rw [kyCells_length] at hnk
      have HN1 := Lib.hid (show n ≤ 1000 by have := HRL.out; have := HN.out; omega)
      have HE1 := Lib.hid e1
      clear e1 e2 hnk
      go_wp2_with fail
      refine (sort_keys7 HOW.out HN1.out).mono ?_
      rintro e ws ⟨rfl, hos, hgs⟩
      rw [HE1.out] at hos
      have HOS := Lib.hid (own_low hos (Nat.le_succ _))
      have HBS := Lib.hid (HBW.out.grown hgs HBW.out.size (fun j hj => by have := (HOW.out.lt j hj).1; omega))
      clear hos hgs
      go_wp2
      show Q (.returned (.slice A n c)) ws
      rw [← HQ.out]
      exact ⟨A, n, c, rfl, HBS.out, HOS.out⟩
    · intro x cv kl yd yp w1 cnt1 hkey hlk hv hat hrg1 hlt hg1 hs1 hen
      obtain ⟨x', wx, ex, rfl⟩ := keyOf_ky_inv hkey
      obtain rfl : x = x' := by
        obtain ⟨a1, a2, a3⟩ := x
        obtain ⟨b1, b2, b3⟩ := x'
        simp at ex
        simp [ex]
      have HC2 := Lib.hid (HC.out.step wx hlk hat)
      have hnk := HOW.out.1
      rw [kyCells_length] at hnk
      have HN1 := Lib.hid (show n ≤ 1000 ∧ ks.length + 1 + cnt1 ≤ R.length ∧ ks.length = n by have := HRL.out; have := HN.out; omega)
      have HR1 := Lib.hid hrg1
      have HO1 := Lib.hid (HOW.out.kept hg1 (.inr (own_not HOW.out (.inl (Nat.lt_succ_self _)))))
      have HB1 := Lib.hid (HBW.out.grown hg1 HBW.out.size (fun j hj => by cases hj; exact Nat.le_refl _))
      have HZ1 := Lib.hid (show w.heap.size + 1 ≤ w1.heap.size by rw [hs1]; exact HZ.out)
      have HLT := Lib.hid hlt
      clear hkey hlk hv hat hrg1 hlt hg1 hs1 hnk ex
      go_wp2_with (first
        | (at_builtin; refine wpList_append_any rfl (.tmp 16) (.tmp 18) 45 38 (.agg #[.int .i64 0, .int .i64 0, .int .i64 0]) 3 24 Try.underlying45 Try.infoKey rfl (by decide) (by decide) rfl (w.heap.size + 1) (.slice A n c) n (kyCells ks) (by rfl) ((HO1.out.alloc _).alloc _) (some ⟨w1.heap.size + 1, 0, none⟩) 1 1 [.int .i64 x.kind, .int .i64 x.id, .int .i64 x.adv] (by rfl) (by rfl) (fun h => by cases h) (by have hn := news_new (w1.alloc (.cells #[.int .i64 x.kind, .int .i64 x.id, .int .i64 x.adv] 38)) 38 [.int .i64 x.kind, .int .i64 x.id, .int .i64 x.adv]; rwa [World.size_alloc] at hn) (fun u hu => kyCells_ones [x] u (by rw [kyCells_cons, List.mem_append]; exact .inl hu)) (by have := HN1.out; omega) (by have := HZ1.out; simp; omega) ?_; intro v2 w2 ho2 hg2)
        | go_in)
      obtain ⟨A2, c2, rfl⟩ := own_slice ho2.out
      have hg3 := hg2.out
      have ne1 : some b ≠ (Value.slice A n c).ownBlock := Ne.symm (own_not HO1.out (.inl (by have := HBLT.out; omega)))
      have ne2 : some w.heap.size ≠ (Value.slice A n c).ownBlock := Ne.symm (own_not HO1.out (.inl (Nat.lt_succ_self _)))
      have HR2 := Lib.hid (((HR1.out.alloc (.cells #[.int .i64 x.kind, .int .i64 x.id, .int .i64 x.adv] 38)).alloc (.cells #[.int .i64 x.kind, .int .i64 x.id, .int .i64 x.adv] 38)).kept hg3 ne1 ne2)
      have HB2 := Lib.hid (((HB1.out.alloc HB1.out.size (.cells #[.int .i64 x.kind, .int .i64 x.id, .int .i64 x.adv] 38)).alloc (by have := HB1.out.size; simp; omega) (.cells #[.int .i64 x.kind, .int .i64 x.id, .int .i64 x.adv] 38)).grown hg3 (by have := HB1.out.size; simp; omega) (fun j hj => by have := (HO1.out.lt j hj).1; omega))
      have HZ2 := Lib.hid (show w.heap.size + 1 ≤ w2.heap.size by have := hg3.size; have := HZ1.out; simp at *; omega)
      have HO2 := Lib.hid (show w2.ownsRow (w.heap.size + 1) 38 3 (.slice A2 (n + 1) c2) (n + 1) (kyCells (ks ++ [x])) by rw [kyCells_append]; exact ho2.out)
      clear hg3 ne1 ne2 ho2 hg2
      refine ⟨⟨A2, n + 1, c2, ks ++ [x], _, cnt1, rfl, HR2, HO2, HB2, HC2, Lib.hid (by have := HN1.out; simp; omega), HZ2⟩, ?_⟩
      rw [HR2.out.left_eq, HRG.out.left_eq]
      exact HLT.out
end Go.Proofs.Ytlcaaoflbldocaa
