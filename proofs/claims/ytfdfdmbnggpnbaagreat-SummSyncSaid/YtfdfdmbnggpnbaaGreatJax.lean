/- Plain facts on two databases, one of which is told all that it lacks of the other one. No program, no conditions. · The program's database and the reference's, of the same descriptions, and what they hold. Conditions: at most 100 descriptions, of at most 20 links and members. · The walk of the statement SummSync. Conditions: what the words say. · Heads, lists of heads and of descriptions that came in. No conditions. -/
import Derived.Test.YtfdfdmbnggpnbaaGreatJaw
import Derived.Test.YtfdfdmbnggpnbaaGreatJat
namespace Go.Proofs.YtfdfdmbnggpnbaaGreat
open Go.RowKit Go.Lib Go.Sort Go.Deep

theorem seal_other (a k i v s x y x' y' : Int) (L : List Lk) (M : List Int) : sealHd ⟨a, k, i, v, s, x, y⟩ L M = sealHd ⟨a, k, i, v, s, x', y'⟩ L M := rfl
theorem seal_two (x : La) : sealL (sealL x) = sealL x := by
  obtain ⟨⟨a, k, i, v, s, y, z⟩, L, M⟩ := x
  exact congrArg (fun h => (⟨h, L, M⟩ : La)) (seal_other a k i v s _ _ y z L M)
/-- What a database holds into which descriptions were put. -/
def bothL (T : List La) : List La := T.foldl (putS 40) []
theorem bothL_snoc (T : List La) (x : La) : bothL (T ++ [x]) = putS 40 (bothL T) x := by
  unfold bothL
  rw [List.foldl_append]
  rfl
theorem put_two (room : Int) (S : List La) (x : La) : (putE room S x = 0 ∧ putS room S x = insL (sealL x) (dropL S (kyL x))) ∨ (putE room S x ≠ 0 ∧ putS room S x = S) := by
  unfold putS
  by_cases h : putE room S x = 0
  · exact .inl ⟨h, if_pos h⟩
  · exact .inr ⟨h, if_neg h⟩
theorem put_mem {room : Int} {S : List La} {x y : La} (h : y ∈ putS room S x) : y ∈ S ∨ y = sealL x := by
  rcases put_two room S x with ⟨-, e⟩ | ⟨-, e⟩
  · rw [e] at h
    rcases mem_insL.1 h with h | h
    · exact .inr h
    · exact .inl (mem_drop.1 h).1
  · rw [e] at h
    exact .inl h
theorem key_seal (x : La) : kyL (sealL x) = kyL x := by
  unfold kyL sealL sealHd keyH
  dsimp only
theorem put_sort {room : Int} {S : List La} {x : La} (h : SortL S) : SortL (putS room S x) := by
  rcases put_two room S x with ⟨-, e⟩ | ⟨-, e⟩
  · rw [e]
    refine sort_insL (sort_drop h _) (fun y hy => ?_)
    rw [key_seal]
    exact (mem_drop.1 hy).2
  · rw [e]
    exact h
theorem bothF_ok : ∀ (T S : List La), (∀ x ∈ S, sealL x = x ∧ x.L.length ≤ 20 ∧ x.M.length ≤ 20) → (∀ a ∈ T, a.L.length ≤ 20 ∧ a.M.length ≤ 20) → ∀ x ∈ T.foldl (putS 40) S, sealL x = x ∧ x.L.length ≤ 20 ∧ x.M.length ≤ 20
  | [], _, h, _ => h
  | a :: T, S, h, ht => bothF_ok T _ (fun x hx => by
      rcases put_mem hx with h1 | rfl
      · exact h x h1
      · exact ⟨seal_two a, ht a List.mem_cons_self⟩) (fun b hb => ht b (List.mem_cons_of_mem _ hb))
theorem bothL_ok {T : List La} (ht : ∀ a ∈ T, a.L.length ≤ 20 ∧ a.M.length ≤ 20) : ∀ x ∈ bothL T, sealL x = x ∧ x.L.length ≤ 20 ∧ x.M.length ≤ 20 :=
  bothF_ok T [] (fun x hx => by cases hx) ht
theorem get_same {room : Int} {S : List La} {x : La} (hs : SortL S) (he : putE room S x = 0) : getL (putS room S x) (kyL x) = some (sealL x) := by
  have h1 : sealL x ∈ putS room S x := by
    unfold putS
    rw [if_pos he]
    exact mem_insL.2 (.inl rfl)
  exact getL_mem (put_sort hs) h1
theorem get_other {room : Int} {S : List La} {x : La} {k : Ky} (hs : SortL S) (hk : k ≠ kyL x) : getL (putS room S x) k = getL S k := by
  cases hg : getL S k with
  | some z =>
    obtain ⟨hz, e⟩ := getL_some hg
    have h1 : z ∈ putS room S x := by
      rcases put_two room S x with ⟨-, e2⟩ | ⟨-, e2⟩
      · rw [e2]
        exact mem_insL.2 (.inr (mem_drop.2 ⟨hz, fun h => hk (e.symm.trans h)⟩))
      · rw [e2]
        exact hz
    have := getL_mem (put_sort (room := room) (x := x) hs) h1
    rwa [e] at this
  | none =>
    refine getL_none.2 (fun y hy => ?_)
    rcases put_mem hy with h1 | rfl
    · exact getL_none.1 hg y h1
    · rw [key_seal]
      exact fun h => hk h.symm
/-- Behind the putting of D. -/
structure Synced (S : List La) (D : List Hd) (S' : List La) : Prop where
  sort : SortL S'
  had : ∀ h ∈ D, ∃ y, getL S' (keyH h) = some y ∧ y.h = h
  rest : ∀ k, (∀ h ∈ D, keyH h ≠ k) → getL S' k = getL S k
theorem Synced.start {S : List La} (h : SortL S) : Synced S [] S := ⟨h, fun _ hh => (nomatch hh), fun _ _ => rfl⟩
theorem Synced.step {S S' : List La} {D : List Hd} (h : Synced S D S') {x : La} (hx : sealL x = x) (hn : ∀ g ∈ D, keyH g ≠ keyH x.h) (he : putE 40 S' x = 0) : Synced S (D ++ [x.h]) (putS 40 S' x) := by
  refine ⟨put_sort h.sort, fun g hg => ?_, fun k hk => ?_⟩
  · rcases List.mem_append.1 hg with hg | hg
    · obtain ⟨y, h1, h2⟩ := h.had g hg
      exact ⟨y, (get_other h.sort (hn g hg)).trans h1, h2⟩
    · rw [List.mem_singleton] at hg
      subst hg
      exact ⟨sealL x, get_same h.sort he, by rw [hx]⟩
  · rw [get_other h.sort (fun e => hk x.h (by simp) e.symm)]
    exact h.rest k (fun g hg => hk g (List.mem_append.2 (.inl hg)))
theorem lacksF_filter {S : List La} : ∀ (L out : List Hd), (∀ g ∈ out, ∀ h ∈ L, keyH g ≠ keyH h) → (L.map keyH).Nodup → L.foldl (lackStep S) out = out ++ L.filter (lackB S)
  | [], out, _, _ => by simp
  | a :: L, out, ho, hn => by
    rw [List.map_cons, List.nodup_cons] at hn
    have hp : placeK out (keyH a) = none := by
      unfold placeK
      rw [List.findIdx?_eq_none_iff]
      intro g hg
      cases hs : sameKy (keyH g) (keyH a)
      · rfl
      · exact absurd ((sameKy_iff _ _).1 hs) (ho g hg a List.mem_cons_self)
    have hst : lackStep S out a = if lackB S a = true then out ++ [a] else out := by
      unfold lackStep
      rw [hp]
    rw [List.foldl_cons, hst]
    cases hl : lackB S a
    · rw [if_neg (by decide), lacksF_filter L out (fun g hg h hh => ho g hg h (List.mem_cons_of_mem _ hh)) hn.2, List.filter_cons_of_neg (by rw [hl]; decide)]
    · rw [if_pos rfl, lacksF_filter L (out ++ [a]) (fun g hg h hh => ?_) hn.2, List.filter_cons_of_pos hl, List.append_assoc]
      · rfl
      · rcases List.mem_append.1 hg with hg | hg
        · exact ho g hg h (List.mem_cons_of_mem _ hh)
        · rw [List.mem_singleton] at hg
          subst hg
          intro e
          exact hn.1 (List.mem_map.2 ⟨h, hh, e.symm⟩)
theorem lacks_filter {S : List La} {L : List Hd} (hn : (L.map keyH).Nodup) : lacksL S L = L.filter (lackB S) := by
  have := lacksF_filter (S := S) L [] (fun g hg => by cases hg) hn
  rwa [List.nil_append] at this
theorem key_one : ∀ {K : List Hd}, (K.map keyH).Nodup → ∀ g ∈ K, ∀ h ∈ K, keyH g = keyH h → g = h
  | [], _, g, hg, _, _, _ => by cases hg
  | a :: K, hn, g, hg, h, hh, e => by
    rw [List.map_cons, List.nodup_cons] at hn
    rcases List.mem_cons.1 hg with rfl | hg'
    · rcases List.mem_cons.1 hh with rfl | hh'
      · rfl
      · exact absurd (List.mem_map.2 ⟨h, hh', e.symm⟩) hn.1
    · rcases List.mem_cons.1 hh with rfl | hh'
      · exact absurd (List.mem_map.2 ⟨g, hg', e⟩) hn.1
      · exact key_one hn.2 g hg' h hh' e
/-- Then it lacks nothing of them. -/
theorem Synced.done {S S' : List La} {K : List Hd} (hn : (K.map keyH).Nodup) (h : Synced S (lacksL S K) S') : lacksL S' K = [] := by
  rw [lacks_filter hn] at h ⊢
  rw [List.filter_eq_nil_iff]
  intro g hg
  cases hl : lackB S g
  · have e : getL S' (keyH g) = getL S (keyH g) := h.rest _ (fun x hx e => by
      rw [List.mem_filter] at hx
      have := key_one hn x hx.1 g hg e
      rw [this, hl] at hx
      cases hx.2)
    unfold lackB at hl ⊢
    rw [e, hl]
    decide
  · obtain ⟨y, h1, h2⟩ := h.had g (List.mem_filter.2 ⟨hg, hl⟩)
    unfold lackB
    rw [h1]
    dsimp only
    rw [h2, nw_self]
    decide
theorem told_ord {S : List La} (hs : SortL S) : Ord lessH (toldL S) := by
  unfold Ord toldL
  rw [List.pairwise_map]
  refine (List.Pairwise.filter _ hs).imp (fun {a b} h => ?_)
  exact swo_asymm swo_less h
theorem told_nodup {S : List La} (hs : SortL S) : ((toldL S).map keyH).Nodup := by
  unfold toldL
  rw [List.map_map]
  unfold List.Nodup
  rw [List.pairwise_map]
  refine (List.Pairwise.filter _ hs).imp (fun {a b} h e => ?_)
  have e2 : kyL a = kyL b := e
  rw [e2, lessKy_irrefl] at h
  cases h
theorem told_mem {S : List La} {h : Hd} (hh : h ∈ toldL S) : ∃ x ∈ S, x.h = h := by
  unfold toldL at hh
  obtain ⟨x, hx, e⟩ := List.mem_map.1 hh
  exact ⟨x, (List.mem_filter.1 hx).1, e⟩
theorem told_is {S : List La} {K : List Hd} (hs : SortL S) (ho : Ord lessH K) (ht : Stab lessH (toldL S) K) : K = toldL S := (stab_unique swo_less (told_ord hs) ho ht).symm
theorem putE_seven {S : List La} {x : La} (hr : rightB x.h x.L x.M = true) (he : putE 40 S x ≠ 0) : (40 : Int) ≤ (S.length : Int) := by
  unfold putE at he
  rw [if_neg (by rw [hr]; decide)] at he
  split at he
  · rename_i h
    exact h.2
  · exact absurd rfl he
end Go.Proofs.YtfdfdmbnggpnbaaGreat
namespace Go.Proofs.YtfdfdmbnggpnbaaGreat
open Go.RowKit Go.Lib Go.Sort Go.Deep

def BothS13 (T : List La) (w : World) (e : Ending) (w' : World) : Prop :=
  ∃ (lo2 p g : Nat) (F F' : Nat → Prop), e = .returned (.tuple #[.pointer (some ⟨p, 0, none⟩), .pointer (some ⟨g, 0, none⟩)]) ∧ Below w.heap.size w w' ∧ w.heap.size ≤ lo2 ∧ Pair w' w.heap.size lo2 p g (bothL T) F F'
set_option maxRecDepth 8000 in
set_option maxHeartbeats 8000000 in
theorem both13s_any {w : World} {A : Option Addr} {n c B : Nat} {T : List La} (hT : Las w B A n T) (hB : B ≤ w.heap.size) (hn : n ≤ 100) (h20 : ∀ a ∈ T, a.L.length ≤ 20 ∧ a.M.length ≤ 20) : Calls Tryz.prog 8 #[.slice A n c] w (BothS13 T w) := by
  generalize hQ : BothS13 T w = Q
  have HQ := Lib.hid hQ
  have HT := Lib.hid hT
  have H20 := Lib.hid h20
  clear hQ hT h20
  go_enter Tryz.func8, Tryz.ntmps8
  go_wp2_with (first | (go_at_call 21; refine (new_db 40 _).mono ?_; rintro e1 w1 ⟨p, F1, rfl, hb1, hd1⟩) | (go_at_call 22; refine (r7New_db 40 _).mono ?_; rintro e2 w2 ⟨rfl, hb2, F2, hd2⟩))
  rw [show roomOf 40 = 40 by decide] at hd1 hd2
  have B2 := Lib.hid (hb1.trans (hb2.mono hb1.size))
  have hlo2 := hb1.size
  have D2 := Lib.hid (show Pair w2 w.heap.size w1.heap.size p w1.heap.size [] F1 F2 from ⟨hd1.chg (F' := fun _ => False) (Chg.of_below hb2) (fun _ _ hf => hf), hd2, fun q h1 h2 => by
    have := (hd1.foot h1).2
    have := (hd2.foot h2).1
    omega⟩)
  clear hb1 hb2 hd1 hd2
  generalize w1.heap.size = lo2 at *
  go_wp2_with fail
  go_loopw [12] (fun s12 wr => ∃ (k : Nat) (F F' : Nat → Prop), s12 = .int .i64 k ∧ k ≤ n ∧ Hid (Pair wr w.heap.size lo2 p lo2 (bothL (T.take k)) F F') ∧ Hid (Below w.heap.size w wr)) (fun s12 _ => n - (intOf s12).toNat)
  case atStart => exact ⟨0, F1, F2, rfl, Nat.zero_le _, D2, B2⟩
  case round =>
    clear D2 B2
    obtain ⟨k, F, F', rfl, hk, DW, BW⟩ := hrel
    obtain ⟨S, hS⟩ : ∃ S, S = bothL (T.take k) := ⟨_, rfl⟩
    rw [← hS] at DW
    have HSS := Lib.hid hS
    clear hS
    by_cases hlt : k < n
    · have hlt' : (k : Int) < (n : Int) := by omega
      obtain ⟨b, o, x, A1, n1, c1, A2, n2, c2, rfl, hb, hx, hr, hL, hM, hm1, hm2⟩ := las_item (HT.out.below (BW.out.mono hB)) hlt
      have HR := Lib.hid hr
      have HNX := Lib.hid (show putS 40 S x = bothL (T.take (k + 1)) by rw [take_snocA T k x hx, bothL_snoc, HSS.out])
      have HL := Lib.hid hL
      have HM := Lib.hid hM
      obtain ⟨l1, l2⟩ := H20.out x (List.mem_of_getElem? hx)
      have l3 : n1 ≤ 20 := by have := hL.1; omega
      have l4 : n2 ≤ 20 := by have := hM.1; omega
      have hz := BW.out.size
      have BX := Lib.hid (BW.out.alloc hz (.cells #[.int .i64 x.h.age, .int .i64 x.h.kind, .int .i64 x.h.id, .int .i64 x.h.adv, .int .i64 x.h.seq, .int .i64 x.h.sum, .int .i64 x.h.long, .slice A1 n1 c1, .slice A2 n2 c2] 44))
      have KX := Lib.hid (Blk.new wr 44 #[.int .i64 x.h.age, .int .i64 x.h.kind, .int .i64 x.h.id, .int .i64 x.h.adv, .int .i64 x.h.seq, .int .i64 x.h.sum, .int .i64 x.h.long, .slice A1 n1 c1, .slice A2 n2 c2])
      have DX := Lib.hid (DW.out.below ((Below.refl wr.heap.size wr).alloc (Nat.le_refl _) (.cells #[.int .i64 x.h.age, .int .i64 x.h.kind, .int .i64 x.h.id, .int .i64 x.h.adv, .int .i64 x.h.seq, .int .i64 x.h.sum, .int .i64 x.h.long, .slice A1 n1 c1, .slice A2 n2 c2] 44)))
      have LX := Lib.hid (hL.alloc (by omega) (.cells #[.int .i64 x.h.age, .int .i64 x.h.kind, .int .i64 x.h.id, .int .i64 x.h.adv, .int .i64 x.h.seq, .int .i64 x.h.sum, .int .i64 x.h.long, .slice A1 n1 c1, .slice A2 n2 c2] 44))
      have MX := Lib.hid (hM.alloc (by omega) (.cells #[.int .i64 x.h.age, .int .i64 x.h.kind, .int .i64 x.h.id, .int .i64 x.h.adv, .int .i64 x.h.seq, .int .i64 x.h.sum, .int .i64 x.h.long, .slice A1 n1 c1, .slice A2 n2 c2] 44))
      have RX := Lib.hid (blk_range7 KX.out)
      have NX := Lib.hid (show (∀ q, F q → q ≠ wr.heap.size) ∧ (∀ q, F' q → q ≠ wr.heap.size) from ⟨fun q hq => by have := (DW.out.1.foot hq).2; omega, fun q hq => by have := (DW.out.2.1.foot hq).2; omega⟩)
      clear hr hx hL hM DW BW l1 l2
      go_wp2_with (first | refine wpList_load_row 44 _ _ (by rfl) (.tmp 14) rfl (by rfl) HR.out Tryz.underlying44 rfl (by kernel_rfl) ?_ | (refine wpList_load_row 44 _ _ (by rfl) (.tmp 7) rfl (by rfl) RX.out Tryz.underlying44 rfl (by kernel_rfl) ?_))
      generalize wr.alloc (.cells #[.int .i64 x.h.age, .int .i64 x.h.kind, .int .i64 x.h.id, .int .i64 x.h.adv, .int .i64 x.h.seq, .int .i64 x.h.sum, .int .i64 x.h.long, .slice A1 n1 c1, .slice A2 n2 c2] 44) = wx at *
      generalize wr.heap.size = X at *
      have hzx := BX.out.size
      refine (put_db DX.out.1 DX.out.sort hzx x.h x.L x.M A1 A2 n1 c1 n2 c2 B LX.out MX.out (by omega) (by omega) (by omega)).mono ?_
      rintro e3 w3 ⟨rfl, F3, hd3, hc3, hf3⟩
      have hB3 : Below w.heap.size wx w3 := hc3.to_below (fun q hq => (DX.out.1.foot hq).1) hzx
      have B3 := Lib.hid (BX.out.trans hB3)
      have hz3 := B3.out.size
      have R3 := Lib.hid (show RefDb w3 lo2 lo2 40 S F' from DX.out.2.1.chg hc3 (fun q h1 h2 => DX.out.2.2 q h2 h1))
      have P3 := Lib.hid hd3
      have J3 := Lib.hid (show ∀ q, F3 q → ¬ F' q from fun q h1 h2 => by
        rcases hf3 q h1 with h | h
        · exact DX.out.2.2 q h h2
        · have := (DX.out.2.1.foot h2).2
          omega)
      have K3 := Lib.hid (KX.out.chg hc3 (fun h => NX.out.1 X h rfl))
      have RX3 := Lib.hid (blk_range7 K3.out)
      have L3 := Lib.hid (LX.out.below (hB3.mono hB))
      have M3 := Lib.hid (MX.out.below (hB3.mono hB))
      clear hd3 hc3 hf3 hB3 DX KX LX MX RX BX NX HR
      go_wp2_with (refine wpList_load_row 44 _ _ (by rfl) (.tmp 7) rfl (by rfl) RX3.out Tryz.underlying44 rfl (by kernel_rfl) ?_)
      refine (r7Put_db R3.out (by have := (R3.out.foot (q := lo2) (by obtain ⟨_, _, _, _, -, -, -, -, -, -, -, -, hF⟩ := R3.out; exact (hF lo2).2 (.inl rfl))).2; omega) x.h x.L x.M A1 A2 n1 c1 n2 c2 B L3.out M3.out (by omega) (by omega) (by omega)).mono ?_
      rintro e4 w4 ⟨rfl, F4, hd4, hc4, hf4⟩
      have hB4 : Below w.heap.size w3 w4 := hc4.to_below (fun q hq => Nat.le_trans hlo2 (R3.out.foot hq).1) hz3
      have B4 := Lib.hid (B3.out.trans hB4)
      have D4 := Lib.hid (show Pair w4 w.heap.size lo2 p lo2 (putS 40 S ⟨x.h, x.L, x.M⟩) F3 F4 from ⟨P3.out.chg hc4 (fun q h1 h2 => J3.out q h1 h2), hd4, fun q h1 h2 => by
        rcases hf4 q h2 with h | h
        · exact J3.out q h1 h
        · have := (P3.out.foot h1).2
          omega⟩)
      clear hd4 hc4 hf4 hB4 R3 P3 J3 K3 RX3 L3 M3 B3 HL HM
      go_wp2
      go_roundw
      have D5 := Lib.hid (show Pair w4 w.heap.size lo2 p lo2 (bothL (T.take (k + 1))) F3 F4 by rw [← HNX.out]; exact D4.out)
      case rel => exact ⟨k + 1, F3, F4, by go_num, by omega, D5, B4⟩
      case measure => simp [intOf]; omega
    · have hlt' : ¬ (k : Int) < (n : Int) := by omega
      go_wp2
      show Q (.returned (.tuple #[.pointer (some ⟨p, 0, none⟩), .pointer (some ⟨lo2, 0, none⟩)])) wr
      rw [← HQ.out]
      have hT : T.take k = T := List.take_of_length_le (by have := HT.out.1; omega)
      rw [HSS.out, hT] at DW
      exact ⟨lo2, p, lo2, F, F', rfl, BW.out, hlo2, DW.out⟩
end Go.Proofs.YtfdfdmbnggpnbaaGreat
namespace Go.Proofs.YtfdfdmbnggpnbaaGreat
open Go.RowKit Go.Lib Go.Sort Go.Deep

/-- What All answers, read. -/
theorem all_las2 {w : World} {lo p : Nat} {room : Int} {S : List La} {F : Nat → Prop} (h : PDb w lo p room S F) (hs : SortL S) : Calls Tryz.prog 13 #[.pointer (some ⟨p, 0, none⟩)] w
    fun e w' => ∃ (A : Option Addr) (n c : Nat), e = .returned (.slice A n c) ∧ Below w.heap.size w w' ∧ Las w' w'.heap.size A n S ∧ n ≤ 40 := by
  have h0 := h
  obtain ⟨b, R, T, hB, h1, h2, hM, hA, hp, h3, h4, h5, hF⟩ := h
  refine (all_db h0 hs).mono ?_
  rintro e w' ⟨A, n, c, R', rfl, hb, ho, ha⟩
  have hL := las_of_own ho ha (fun x hx => right_short (h5 x hx))
  exact ⟨A, n, c, rfl, hb, hL, by have := hL.1; omega⟩
theorem pdb_right {w : World} {lo p : Nat} {room : Int} {S : List La} {F : Nat → Prop} (h : PDb w lo p room S F) : (S.length : Int) ≤ room ∧ ∀ x ∈ S, rightB x.h x.L x.M = true := by
  obtain ⟨_, _, _, -, -, -, -, -, -, h3, -, h5, -⟩ := h
  exact ⟨h3, h5⟩
theorem take_more (K : List Hd) (k : Nat) : K.take (3 * k) ++ (K.drop (3 * k)).take 3 = K.take (3 * (k + 1)) := by
  rw [← List.take_add]
  rfl
theorem drop_more (K : List Hd) (k : Nat) : (K.drop (3 * k)).drop 3 = K.drop (3 * (k + 1)) := by
  rw [List.drop_drop]
  rfl
set_option maxRecDepth 20000 in
set_option maxHeartbeats 32000000 in
theorem sync_walk {w : World} {A A2 : Option Addr} {n c n2 c2 : Nat} {T T2 : List La} (hT : Las w w.heap.size A n T) (hn : n ≤ maxLen) (hT2 : Las w w.heap.size A2 n2 T2) (hn2 : n2 ≤ maxLen) :
    Calls Tryz.prog 4 #[.slice A n c, .slice A2 n2 c2] w fun e w' => e = .returned (.bool true) ∧ Below w.heap.size w w' := by
  generalize hQ : (fun (e : Ending) (w' : World) => e = .returned (.bool true) ∧ Below w.heap.size w w') = Q
  have HQ := Lib.hid hQ
  have HT := Lib.hid hT
  have HN := Lib.hid hn
  have HT2 := Lib.hid hT2
  have HN2 := Lib.hid hn2
  clear hT hn hT2 hn2 hQ
  go_enter Tryz.func4, Tryz.ntmps4
  go_wp2_with fail
  refine (wakes_any _).mono ?_
  rintro e1 w1 ⟨rfl, hb1⟩
  have B1 := Lib.hid hb1
  clear hb1
  go_wp2_with fail
  refine (many_any A n c T w.heap.size w1 (HT.out.below B1.out) B1.out.size HN.out).mono ?_
  rintro e2 w2 ⟨⟨t, rfl, ht⟩, hb2⟩
  have B2 := Lib.hid (B1.out.trans (hb2.mono B1.out.size))
  clear hb2 B1
  cases t
  case true =>
    go_wp2
    show Q (.returned (.bool true)) w2
    rw [← HQ.out]
    exact ⟨rfl, B2.out⟩
  obtain ⟨hn60, h20⟩ := ht rfl
  have H20 := Lib.hid h20
  clear ht HN h20
  go_wp2_with fail
  refine (many_any A2 n2 c2 T2 w.heap.size w2 (HT2.out.below B2.out) B2.out.size HN2.out).mono ?_
  rintro e2 w3 ⟨⟨t, rfl, ht⟩, hb3⟩
  have B3 := Lib.hid (B2.out.trans (hb3.mono B2.out.size))
  clear hb3 B2
  cases t
  case true =>
    go_wp2
    show Q (.returned (.bool true)) w3
    rw [← HQ.out]
    exact ⟨rfl, B3.out⟩
  obtain ⟨hn60', h20⟩ := ht rfl
  have H20' := Lib.hid h20
  clear ht HN2 h20
  go_wp2_with fail
  refine (both13s_any (HT.out.below B3.out) B3.out.size (by omega) H20.out).mono ?_
  rintro e4 w4 ⟨lx, p, gx, F, Fx, rfl, hb4, -, hD⟩
  have B4 := Lib.hid (B3.out.trans (hb4.mono B3.out.size))
  have SA := Lib.hid hD.sort
  have PA := Lib.hid hD.1
  have OA := Lib.hid (bothL_ok H20.out)
  have RA := Lib.hid (pdb_right hD.1)
  have HFA := Lib.hid (show ∀ q, F q → q < w4.heap.size from fun q hq => (hD.1.foot hq).2)
  clear hb4 hD B3 H20
  generalize w3.heap.size = lo at *
  generalize bothL T = S0 at *
  clear HT
  go_wp2_with fail
  refine (both13s_any (HT2.out.below B4.out) B4.out.size (by omega) H20'.out).mono ?_
  rintro e5 w5 ⟨ly, p2, gy, F2, Fy, rfl, hb5, -, hD⟩
  have B5 := Lib.hid (B4.out.trans (hb5.mono B4.out.size))
  have SB := Lib.hid hD.sort
  have PB := Lib.hid hD.1
  have PA5 := Lib.hid (PA.out.chg (F' := fun _ => False) (Chg.of_below hb5) (fun _ _ hf => hf))
  have HFB := Lib.hid (show ∀ q, F2 q → q < w5.heap.size from fun q hq => (hD.1.foot hq).2)
  have hX12 := hb5.size
  have hX1 := B4.out.size
  clear hb5 hD B4 PA H20'
  generalize w4.heap.size = X1 at *
  generalize bothL T2 = S at *
  clear HT2
  go_wp2_with fail
  refine (all_las2 PA5.out SA.out).mono ?_
  rintro e6 w6 ⟨A6, n6, c6, rfl, hb6, hL6, hn6⟩
  have hz5 := B5.out.size
  have B6 := Lib.hid (B5.out.trans (hb6.mono hz5))
  have PA6 := Lib.hid (PA5.out.chg (F' := fun _ => False) (Chg.of_below hb6) (fun _ _ hf => hf))
  have PB6 := Lib.hid (PB.out.chg (F' := fun _ => False) (Chg.of_below hb6) (fun _ _ hf => hf))
  have HL6 := Lib.hid hL6
  have hX26 := hb6.size
  clear hb6 PA5 PB B5 hL6 hz5
  generalize w5.heap.size = X2 at *
  go_wp2_with fail
  refine (new_any HL6.out (Nat.le_refl _) (by omega)).mono ?_
  rintro e7 w7 ⟨ps, A7, n7, c7, K, rfl, hb7, hp7, hB7, hO7, hOrd, hStab⟩
  have hz6 := B6.out.size
  have B7 := Lib.hid (B6.out.trans (hb7.mono hz6))
  have PA7 := Lib.hid (PA6.out.chg (F' := fun _ => False) (Chg.of_below hb7) (fun _ _ hf => hf))
  have PB7 := Lib.hid (PB6.out.chg (F' := fun _ => False) (Chg.of_below hb7) (fun _ _ hf => hf))
  have S7 := Lib.hid (sum_new hp7 hB7 hO7)
  obtain rfl : K = toldL S0 := told_is SA.out hOrd hStab
  have hln6 := HL6.out.1
  have hKlen : (toldL S0).length ≤ 40 := by
    have : (toldL S0).length ≤ S0.length := by
      unfold toldL
      rw [List.length_map]
      exact List.length_filter_le _ _
    omega
  have HND := Lib.hid (told_nodup SA.out)
  have HME := Lib.hid (fun (h : Hd) (hh : h ∈ toldL S0) => told_mem hh)
  have HGT := Lib.hid (gone_told SA.out)
  have hX67 := hb7.size
  have hS040 : S0.length ≤ 40 := by have := RA.out.1; omega
  clear hb7 hp7 hB7 hO7 hOrd hStab HL6 PA6 PB6 B6 hln6
  generalize hFs : (fun q => w6.heap.size ≤ q ∧ q < w7.heap.size) = Fs at S7
  have HFS := Lib.hid (show ∀ q, Fs q → X2 ≤ q ∧ q < w7.heap.size from fun q hq => by
    rw [← hFs] at hq
    exact ⟨by omega, hq.2⟩)
  clear hFs
  generalize hK : toldL S0 = K at *
  clear hK
  have O7 := Lib.hid (World.ownsRow_nil w7 w7.heap.size 40 7)
  have Z7 := Lib.hid (Nat.le_refl w7.heap.size)
  have hb9 : w.heap.size ≤ w7.heap.size := B7.out.size
  have hX2b : X2 ≤ w7.heap.size := by omega
  generalize hg9 : w7.heap.size = b9 at *
  have HB9 := Lib.hid hg9
  clear hg9
  generalize hgw : w.heap.size = bw at *
  have HGW := Lib.hid hgw
  clear hgw
  have HOW := Lib.hid (fun (wz : World) (A' : Option Addr) (m c' : Nat) (xs : List Value) (h : wz.ownsRow b9 40 7 (.slice A' m c') m xs) (q : Nat) (hq : (Value.slice A' m c').ownBlock = some q) => own_base_le h hq)
  go_wp2_with fail
  go_loopw [9, 11] (fun s9 s11 wr => ∃ (k m c' : Nat) (A' : Option Addr), s11 = .int .i64 k ∧ s9 = .slice A' m c' ∧ k ≤ 20 ∧ Hid (wr.ownsRow b9 40 7 (.slice A' m c') m (cellsBy encHd (K.take (3 * k)))) ∧ Hid (∃ As ns cs, SumAt wr Fs ps As ns cs (K.drop (3 * k))) ∧ Hid (PDb wr lo p 40 S0 F) ∧ Hid (PDb wr X1 p2 40 S F2) ∧ Hid (Below bw w wr) ∧ Hid (b9 ≤ wr.heap.size)) (fun _ s11 _ => 20 - (intOf s11).toNat)
  case atStart => exact ⟨0, 0, 0, none, rfl, rfl, by omega, Lib.hid (by simpa [cellsBy] using O7.out), Lib.hid ⟨_, _, _, by simpa using S7.out⟩, PA7, PB7, B7, Lib.hid (Nat.le_of_eq HB9.out.symm)⟩
  case round =>
    clear O7 S7 PA7 PB7 B7 Z7 HB9
    obtain ⟨k, m, c', A', rfl, rfl, hk, OW, SW, PAW, PBW, BW, ZW⟩ := hrel
    by_cases hlt : k < 20
    · have hlt' : (k : Int) < 20 := by omega
      obtain ⟨As, ns, cs, hS⟩ := SW.out
      have S1 := Lib.hid hS
      have hns : ns ≤ 40 := by
        have := hS.len
        rw [List.length_drop] at this
        omega
      have hm := own_lenH encHd_len (by omega) OW.out
      rw [List.length_take] at hm
      have hm40 : m ≤ 40 := by omega
      have hzr := ZW.out
      clear SW hS hm
      go_wp2_with fail
      refine (pieceP_any S1.out (by omega)).mono ?_
      rintro e8 w8 ⟨A8, m8, c8, rfl, hb8, hO8⟩
      have hz8 := hb8.size
      have S8 := Lib.hid (S1.out.below hb8)
      have PA8 := Lib.hid (PAW.out.chg (F' := fun _ => False) (Chg.of_below hb8) (fun _ _ hf => hf))
      have PB8 := Lib.hid (PBW.out.chg (F' := fun _ => False) (Chg.of_below hb8) (fun _ _ hf => hf))
      have OW8 := Lib.hid (own_chg OW.out (Chg.of_below (F := fun _ => False) hb8) (fun _ _ hf => hf))
      have B8 := Lib.hid (BW.out.trans (hb8.mono (by omega)))
      have O8 := Lib.hid hO8
      have hm8 := own_lenH encHd_len (by omega) hO8
      have hm83 : m8 ≤ 3 := by
        rw [List.length_take] at hm8
        omega
      have HC8 := Lib.hid (own_hds hO8).cells
      have HM8 := Lib.hid hm8
      clear hb8 hO8 S1 PAW PBW OW BW hm8
      have hzb : b9 ≤ w8.heap.size := by omega
      go_wp2_with (at_builtin; refine wpList_append_any rfl (.tmp 41) (.tmp 43) 23 40 (.agg #[.int .i64 0, .int .i64 0, .int .i64 0, .int .i64 0, .int .i64 0, .int .i64 0, .int .i64 0]) 7 56 Tryz.underlying23 infoHd rfl (by decide) (by decide) rfl b9 (.slice A' m c') m (cellsBy encHd (K.take (3 * k))) (by rfl) OW8.out A8 m8 c8 (cellsBy encHd ((K.drop (3 * k)).take 3)) (by rfl) (by rw [by_length encHd_len, HM8.out]) HC8.out.1 HC8.out.2 (by_ones encHd_ones _) (by omega) hzb ?_; intro v9 w9 ho9 hg9; have C9 := Lib.hid (show Chg (fun q => (Value.slice A' m c').ownBlock = some q) w8 w9 from Chg.of_grown hg9.out (fun q hq => hq)); have S9 := Lib.hid (S8.out.chg C9.out (fun q h1 h2 => by have := (HFS.out q h1).2; have := HOW.out _ _ _ _ _ OW8.out q h2; omega)); clear S8)
      obtain ⟨A9, c9, rfl⟩ := own_slice ho9.out
      have O9 := Lib.hid (show w9.ownsRow b9 40 7 (.slice A9 (m + m8) c9) (m + m8) (cellsBy encHd (K.take (3 * (k + 1)))) by
        have h1 := ho9.out
        rw [← by_append, take_more] at h1
        exact h1)
      have PA9 := Lib.hid (PA8.out.chg C9.out (fun q h1 h2 => by have := HFA.out q h1; have := HOW.out _ _ _ _ _ OW8.out q h2; omega))
      have PB9 := Lib.hid (PB8.out.chg C9.out (fun q h1 h2 => by have := HFB.out q h1; have := HOW.out _ _ _ _ _ OW8.out q h2; omega))
      have hz9 : b9 ≤ w9.heap.size := Nat.le_trans hzb C9.out.size
      have B9 := Lib.hid (B8.out.trans (C9.out.to_below (fun q h2 => by have := HOW.out _ _ _ _ _ OW8.out q h2; omega) (by omega)))
      clear ho9 hg9 C9 PA8 PB8 OW8 B8 O8 HC8 HM8 hz8 hzb hzr
      go_wp2_with fail
      refine (step_any S9.out (by omega)).mono ?_
      rintro e10 w10 ⟨rfl, As', ns', cs', hS10, hc10⟩
      have hfp : X2 ≤ ps ∧ ps < b9 := HFS.out ps S9.out.fp
      have S10 := Lib.hid (show ∃ As ns cs, SumAt w10 Fs ps As ns cs (K.drop (3 * (k + 1))) from ⟨As', ns', cs', by rw [← drop_more]; exact hS10⟩)
      have O10 := Lib.hid (own_chg O9.out hc10 (fun q h1 h2 => by have := HOW.out _ _ _ _ _ O9.out q h1; omega))
      have PA10 := Lib.hid (PA9.out.chg hc10 (fun q h1 h2 => by have := HFA.out q h1; omega))
      have PB10 := Lib.hid (PB9.out.chg hc10 (fun q h1 h2 => by have := HFB.out q h1; omega))
      have Z10 := Lib.hid (Nat.le_trans hz9 hc10.size)
      have B10 := Lib.hid (B9.out.trans (hc10.to_below (fun q h2 => by omega) (by omega)))
      clear hS10 hc10 S9 O9 PA9 PB9 B9 hz9 hfp
      go_wp2
      go_roundw
      case rel => exact ⟨k + 1, m + m8, c9, A9, by go_num, by first | rfl | go_num, by omega, O10, S10, PA10, PB10, B10, Z10⟩
      case measure => simp [intOf]; omega
    · have hlt' : ¬ (k : Int) < 20 := by omega
      have hK : K.take (3 * k) = K := List.take_of_length_le (by omega)
      rw [hK] at OW
      have hm := own_lenH encHd_len (by omega) OW.out
      have hzr := ZW.out
      have HW := Lib.hid (fun (h : Hd) (hh : h ∈ K) => (by obtain ⟨z, hz, e⟩ := HME.out h hh; rw [← e]; exact ⟨wfKy_right (RA.out.2 z hz), (ageB_iff _).2 (right_age (RA.out.2 z hz))⟩ : wfKy (keyH h) ∧ ageB h = true))
      clear hK SW HFS hb9
      go_wp2_with fail
      refine (lacksS_any (F := F2) (B := wr.heap.size) (.inr ⟨X1, p2, 40, rfl, PBW.out, SB.out⟩) (own_hds OW.out) (Nat.le_refl _) (by omega) (fun h hh => (HW.out h hh).1) (fun h hh y hy => ⟨(HW.out h hh).2, pdb_age PBW.out hy⟩) (fun i j a b _ ha hb => ⟨(HW.out a (List.mem_of_getElem? ha)).2, (HW.out b (List.mem_of_getElem? hb)).2⟩)).mono ?_
      rintro e8 w8 ⟨A8, m8, c8, rfl, hb8, hO8⟩
      have PA8 := Lib.hid (PAW.out.chg (F' := fun _ => False) (Chg.of_below hb8) (fun _ _ hf => hf))
      have PB8 := Lib.hid (PBW.out.chg (F' := fun _ => False) (Chg.of_below hb8) (fun _ _ hf => hf))
      have OW8 := Lib.hid (own_chg OW.out (Chg.of_below (F := fun _ => False) hb8) (fun _ _ hf => hf))
      have B8 := Lib.hid (BW.out.trans (hb8.mono (by omega)))
      have HOB := Lib.hid (fun (q : Nat) (hq : (Value.slice A' m c').ownBlock = some q) => (⟨by have := HOW.out _ _ _ _ _ OW.out q hq; omega, Nat.lt_of_lt_of_le (OW.out.lt q hq).2 hb8.size⟩ : X2 ≤ q ∧ q < w8.heap.size))
      have HOM := Lib.hid (fun (q : Nat) (hq : (Value.slice A8 m8 c8).ownBlock = some q) => (⟨by have := hO8.lt q hq; omega, (hO8.lt q hq).2⟩ : X2 ≤ q ∧ q < w8.heap.size))
      have O8 := Lib.hid hO8
      have hz8 : bw ≤ w8.heap.size := by have := hb8.size; omega
      have hXb : X2 ≤ w8.heap.size := by have := hb8.size; omega
      have HMN := Lib.hid (lacksL_nodup S K)
      have HMK := Lib.hid (fun (h : Hd) (hh : h ∈ lacksL S K) => lacksL_mem hh)
      have HDN := Lib.hid (fun (S' : List La) (h : Synced S (lacksL S K) S') => Synced.done HND.out h)
      have hm8 := own_lenH encHd_len (by omega) hO8
      have hm840 : m8 ≤ 40 := by have := lacksL_len S K; omega
      have F8 := Lib.hid (show ∀ q, F2 q → q < X2 ∨ w8.heap.size ≤ q from fun q hq => .inl (HFB.out q hq))
      have Y8 := Lib.hid (Synced.start SB.out)
      generalize wr.heap.size = bL at *
      clear hb8 hO8 PAW PBW OW BW
      generalize hMM : lacksL S K = M at *
      clear hMM
      have HM8 := Lib.hid hm8
      clear hm8
      generalize hgM : w8.heap.size = bM at *
      have ZB := Lib.hid (Nat.le_of_eq hgM.symm)
      clear hgM HFB SB HND
      go_wp2_with fail
      go_loopw [51] (fun s51 wr => ∃ (i : Nat) (S' : List La) (F3 : Nat → Prop), s51 = .int .i64 i ∧ i ≤ m8 ∧ Hid (Synced S (M.take i) S') ∧ Hid (PDb wr X1 p2 40 S' F3) ∧ Hid (∀ q, F3 q → q < X2 ∨ bM ≤ q) ∧ Hid (PDb wr lo p 40 S0 F) ∧ Hid (wr.ownsRow b9 40 7 (.slice A' m c') m (cellsBy encHd K)) ∧ Hid (wr.ownsRow bL 40 7 (.slice A8 m8 c8) m8 (cellsBy encHd M)) ∧ Hid (Below bw w wr) ∧ Hid (bM ≤ wr.heap.size)) (fun s51 _ => m8 - (intOf s51).toNat)
      case atStart => exact ⟨0, S, F2, rfl, Nat.zero_le _, Lib.hid (by simpa using Y8.out), PB8, F8, PA8, OW8, O8, B8, ZB⟩
      case round =>
        clear Y8 PB8 F8 PA8 OW8 O8 B8 ZB
        obtain ⟨i, S', F3, rfl, hi, YW, PBW, FW, PAW, OKW, OMW, BW, ZW⟩ := hrel
        have hzM := ZW.out
        by_cases him : i < m8
        · have him' : (i : Int) < (m8 : Int) := by omega
          obtain ⟨x, hx⟩ : ∃ x, M[i]? = some x := ⟨_, List.getElem?_eq_getElem (by have := HM8.out; omega)⟩
          obtain ⟨q, rfl, -, hql, -, hmc, hcm, hr⟩ := item_range7 OMW.out hx
          unfold maxLen at hcm
          have hxM : x ∈ M := List.mem_of_getElem? hx
          have hxK := HMK.out x hxM
          obtain ⟨z, hz, hzx⟩ := HME.out x hxK
          have hgz : getL S0 (keyH x) = some z := by rw [← hzx]; exact getL_mem SA.out hz
          have HGZ := Lib.hid hgz
          have HZX := Lib.hid hzx
          have HZR := Lib.hid (RA.out.2 z hz)
          have HZO := Lib.hid (OA.out z hz)
          have HWX := Lib.hid (HW.out x hxK).1
          have HR := Lib.hid hr
          have HTK := Lib.hid (take_snocA M i x hx)
          have HNE := Lib.hid (show ∀ g ∈ M.take i, keyH g ≠ keyH x from fun g hg e => by
            have h1 : ((M.take (i + 1)).map keyH).Nodup := (List.map_take (f := keyH) (l := M) (i := i + 1)) ▸ HMN.out.sublist (List.take_sublist _ _)
            rw [HTK.out, List.map_append, List.nodup_append] at h1
            exact h1.2.2 (keyH g) (List.mem_map.2 ⟨g, hg, rfl⟩) (keyH x) (by simp) e)
          have hzr : bw ≤ wr.heap.size := by omega
          have BX := Lib.hid (BW.out.alloc hzr (.cells #[.int .i64 x.age, .int .i64 x.kind, .int .i64 x.id, .int .i64 x.adv, .int .i64 x.seq, .int .i64 x.sum, .int .i64 x.long] 40))
          have BN := Lib.hid ((Below.refl wr.heap.size wr).alloc (Nat.le_refl _) (.cells #[.int .i64 x.age, .int .i64 x.kind, .int .i64 x.id, .int .i64 x.adv, .int .i64 x.seq, .int .i64 x.sum, .int .i64 x.long] 40))
          have KX := Lib.hid (Blk.new wr 40 #[.int .i64 x.age, .int .i64 x.kind, .int .i64 x.id, .int .i64 x.adv, .int .i64 x.seq, .int .i64 x.sum, .int .i64 x.long])
          have RX := Lib.hid (blk_range7 KX.out)
          clear hx hr hxM hxK hz hzx hgz
          go_wp2_with (first | refine wpList_load_row 40 _ _ (by rfl) (.tmp 53) rfl (by rfl) HR.out Tryz.underlying40 rfl (by kernel_rfl) ?_ | refine wpList_load_row 40 _ _ (by rfl) (.tmp 13) rfl (by rfl) RX.out Tryz.underlying40 rfl (by kernel_rfl) ?_)
          refine (keyOf_any x _).mono ?_
          rintro e9 w9 ⟨rfl, hb9⟩
          have hzn := BN.out.size
          have BN9 := Lib.hid (BN.out.trans (hb9.mono hzn))
          clear hb9 BX KX RX HR BN hzn
          generalize wr.alloc (.cells #[.int .i64 x.age, .int .i64 x.kind, .int .i64 x.id, .int .i64 x.adv, .int .i64 x.seq, .int .i64 x.sum, .int .i64 x.long] 40) = wx at *
          have PA9 := Lib.hid (PAW.out.chg (F' := fun _ => False) (Chg.of_below BN9.out) (fun _ _ hf => hf))
          go_wp2_with fail
          refine (get_db PA9.out SA.out (keyH x) HWX.out).mono ?_
          rintro e10 w10 ⟨hb10, hG⟩
          rcases hG with ⟨hno, -⟩ | ⟨y, Ay, ny, cy, Az, nz, cz, hy, rfl, hoL, hlL, hoM, hlM⟩
          · rw [HGZ.out] at hno
            cases hno
          obtain rfl : z = y := by
            rw [HGZ.out] at hy
            injection hy
          have BN10 := Lib.hid (BN9.out.trans (hb10.mono BN9.out.size))
          obtain ⟨Ay', cy', ey, -, -, hLy⟩ := lnk_of_own hoL hlL
          injection ey with ey1 _ ey2
          subst ey1 ey2
          obtain ⟨Az', cz', ez, -, -, hMz⟩ := row_of_ints hoM hlM
          injection ez with ez1 _ ez2
          subst ez1 ez2
          obtain ⟨y, hyz⟩ : ∃ y, y = z := ⟨_, rfl⟩
          rw [← hyz] at HGZ HZX HZR HZO hlL hlM hLy hMz ⊢
          have hny : ny ≤ 20 := by have := HZO.out.2.1; omega
          have hnz : nz ≤ 20 := by have := HZO.out.2.2; omega
          have LY := Lib.hid hLy
          have MZ := Lib.hid hMz
          clear hb10 hy hoL hlL hoM hlM hLy hMz PA9 BN9 hyz
          have K11 := Lib.hid (Blk.new w10 44 #[.int .i64 y.h.age, .int .i64 y.h.kind, .int .i64 y.h.id, .int .i64 y.h.adv, .int .i64 y.h.seq, .int .i64 y.h.sum, .int .i64 y.h.long, .slice Ay ny cy, .slice Az nz cz])
          have R11 := Lib.hid (blk_range7 K11.out)
          have BN11 := Lib.hid (BN10.out.alloc BN10.out.size (.cells #[.int .i64 y.h.age, .int .i64 y.h.kind, .int .i64 y.h.id, .int .i64 y.h.adv, .int .i64 y.h.seq, .int .i64 y.h.sum, .int .i64 y.h.long, .slice Ay ny cy, .slice Az nz cz] 44))
          have LY11 := Lib.hid (LY.out.alloc (Nat.le_refl _) (.cells #[.int .i64 y.h.age, .int .i64 y.h.kind, .int .i64 y.h.id, .int .i64 y.h.adv, .int .i64 y.h.seq, .int .i64 y.h.sum, .int .i64 y.h.long, .slice Ay ny cy, .slice Az nz cz] 44))
          have MZ11 := Lib.hid (MZ.out.alloc (Nat.le_refl _) (.cells #[.int .i64 y.h.age, .int .i64 y.h.kind, .int .i64 y.h.id, .int .i64 y.h.adv, .int .i64 y.h.seq, .int .i64 y.h.sum, .int .i64 y.h.long, .slice Ay ny cy, .slice Az nz cz] 44))
          have hz10 : w10.heap.size ≤ (w10.alloc (.cells #[.int .i64 y.h.age, .int .i64 y.h.kind, .int .i64 y.h.id, .int .i64 y.h.adv, .int .i64 y.h.seq, .int .i64 y.h.sum, .int .i64 y.h.long, .slice Ay ny cy, .slice Az nz cz] 44)).heap.size := by simp
          go_wp2_with (refine wpList_load_row 44 _ _ (by rfl) (.tmp 14) rfl (by rfl) R11.out Tryz.underlying44 rfl (by kernel_rfl) ?_)
          clear R11 K11 LY MZ BN10
          generalize w10.alloc (.cells #[.int .i64 y.h.age, .int .i64 y.h.kind, .int .i64 y.h.id, .int .i64 y.h.adv, .int .i64 y.h.seq, .int .i64 y.h.sum, .int .i64 y.h.long, .slice Ay ny cy, .slice Az nz cz] 44) = w11 at *
          have C11 : Chg (fun _ => False) wr w11 := Chg.of_below BN11.out
          have PA11 := Lib.hid (PAW.out.chg C11 (fun _ _ hf => hf))
          have PB11 := Lib.hid (PBW.out.chg C11 (fun _ _ hf => hf))
          have OK11 := Lib.hid (own_chg OKW.out C11 (fun _ _ hf => hf))
          have OM11 := Lib.hid (own_chg OMW.out C11 (fun _ _ hf => hf))
          have B11 := Lib.hid (BW.out.trans (BN11.out.mono hzr))
          have hz11 : bM ≤ w11.heap.size := Nat.le_trans hzM C11.size
          clear C11 BN11 PAW PBW OKW OMW BW
          have hX11 : X1 ≤ w11.heap.size := by omega
          refine (put_db PB11.out YW.out.sort hX11 y.h y.L y.M Ay Az ny cy nz cz w10.heap.size LY11.out MZ11.out hz10 (by omega) (by omega)).mono ?_
          rintro e12 w12 ⟨rfl, F4, hP12, hc12, hf12⟩
          have hX212 : ∀ q, F3 q → X1 ≤ q := fun q hq => (PB11.out.foot hq).1
          have B12 := Lib.hid (B11.out.trans (hc12.to_below (fun q hq => by have := hX212 q hq; omega) (by omega)))
          have PA12 := Lib.hid (PA11.out.chg hc12 (fun q h1 h2 => by have := HFA.out q h1; have := hX212 q h2; omega))
          have OK12 := Lib.hid (own_chg OK11.out hc12 (fun q h1 h2 => by have := HOB.out q h1; have := FW.out q h2; omega))
          have OM12 := Lib.hid (own_chg OM11.out hc12 (fun q h1 h2 => by have := HOM.out q h1; have := FW.out q h2; omega))
          have Z12 := Lib.hid (Nat.le_trans hz11 hc12.size)
          have F12 := Lib.hid (show ∀ q, F4 q → q < X2 ∨ bM ≤ q from fun q hq => by
            rcases hf12 q hq with h | h
            · exact FW.out q h
            · exact .inr (Nat.le_trans hz11 h))
          have P12 := Lib.hid hP12
          clear hP12 hc12 hf12 hX212 PA11 PB11 OK11 OM11 B11 LY11 MZ11 FW hz10 hX11
          obtain ⟨E, hE⟩ : ∃ E, putE 40 S' ⟨y.h, y.L, y.M⟩ = E := ⟨_, rfl⟩
          rw [hE]
          have HE := Lib.hid hE
          clear hE
          by_cases h0 : E = 0
          · have d0 : (E != 0) = false := by simp [h0]
            have Y12 := Lib.hid (show Synced S (M.take (i + 1)) (putS 40 S' ⟨y.h, y.L, y.M⟩) by
              rw [HTK.out, ← HZX.out]
              exact YW.out.step (x := ⟨y.h, y.L, y.M⟩) HZO.out.1 (fun g hg => by rw [HZX.out]; exact HNE.out g hg) (HE.out.trans h0))
            clear YW HE HGZ HZX HZR HZO HWX HTK HNE h0
            go_wp2
            go_roundw
            case rel => exact ⟨i + 1, _, F4, by go_num, by omega, Y12, P12, F12, PA12, OK12, OM12, B12, Z12⟩
            case measure => simp [intOf]; omega
          · have d0 : (E != 0) = true := by simp [h0]
            have h40 := putE_seven (x := ⟨y.h, y.L, y.M⟩) HZR.out (by rw [HE.out]; exact h0)
            have hS40 : (putS 40 S' ⟨y.h, y.L, y.M⟩) = S' := by
              rcases put_two 40 S' ⟨y.h, y.L, y.M⟩ with ⟨e, -⟩ | ⟨-, e⟩
              · exact absurd (HE.out.symm.trans e) h0
              · exact e
            rw [hS40] at P12
            have hle := (pdb_right P12.out).1
            have HL40 := Lib.hid (show (S'.length : Int) = 40 by omega)
            clear h40 hS40 hle
            go_wp2_with fail
            refine (len_db P12.out).mono ?_
            rintro e13 w13 ⟨rfl, hb13⟩
            rw [HL40.out]
            have B13 := Lib.hid (B12.out.trans (hb13.mono (by have := B12.out.size; have := HGW.out; omega)))
            clear hb13
            go_wp2
            show Q (.returned (.bool true)) w13
            rw [← HQ.out]
            exact ⟨rfl, B13.out⟩
        · have him' : ¬ (i : Int) < (m8 : Int) := by omega
          have HN0 := Lib.hid (show lacksL S' K = [] by
            have h1 := YW.out
            rw [List.take_of_length_le (by have := HM8.out; omega)] at h1
            exact HDN.out S' h1)
          have hzr : bw ≤ wr.heap.size := by omega
          clear OMW FW HM8 HDN HMK HMN
          go_wp2_with fail
          refine (lacksS_any (F := F3) (B := wr.heap.size) (.inr ⟨X1, p2, 40, rfl, PBW.out, YW.out.sort⟩) (own_hds OKW.out) (Nat.le_refl _) (by omega) (fun h hh => (HW.out h hh).1) (fun h hh y hy => ⟨(HW.out h hh).2, pdb_age PBW.out hy⟩) (fun i j a b _ ha hb => ⟨(HW.out a (List.mem_of_getElem? ha)).2, (HW.out b (List.mem_of_getElem? hb)).2⟩)).mono ?_
          rintro e9 w9 ⟨A9, m9, c9, rfl, hb9, hO9⟩
          have hm9 := own_lenH encHd_len (by omega) hO9
          rw [HN0.out] at hm9
          obtain rfl : m9 = 0 := hm9.symm
          have B9 := Lib.hid (BW.out.trans (hb9.mono hzr))
          have PA9 := Lib.hid (PAW.out.chg (F' := fun _ => False) (Chg.of_below hb9) (fun _ _ hf => hf))
          clear hb9 hO9 hm9 PAW PBW YW OKW BW
          go_wp2_with fail
          refine (all_las2 PA9.out SA.out).mono ?_
          rintro e10 w10 ⟨A10, n10, c10, rfl, hb10, hL10, hn10⟩
          have B10 := Lib.hid (B9.out.trans (hb10.mono (by have := B9.out.size; have := HGW.out; omega)))
          have PA10 := Lib.hid (PA9.out.chg (F' := fun _ => False) (Chg.of_below hb10) (fun _ _ hf => hf))
          have HL10 := Lib.hid hL10
          clear hb10 hL10 PA9 B9
          go_wp2_with fail
          refine (goneS_any HL10.out (Nat.le_refl _) (by omega)).mono ?_
          rintro e11 w11 ⟨A11, m11, c11, rfl, hb11, hO11⟩
          have B11 := Lib.hid (B10.out.trans (hb11.mono (by have := B10.out.size; have := HGW.out; omega)))
          have PA11 := Lib.hid (PA10.out.chg (F' := fun _ => False) (Chg.of_below hb11) (fun _ _ hf => hf))
          have h11 := hO11.1
          rw [kyCells_length] at h11
          have hgt := HGT.out
          obtain ⟨N, hN⟩ : ∃ N, S0.length = N := ⟨_, rfl⟩
          have HN := Lib.hid (show (S0.length : Int) = (N : Int) by omega)
          have e_s : (m : Int) + (m11 : Int) = (N : Int) := by omega
          have w_s : IntKind.i64.wrap (N : Int) = (N : Int) := by rw [IntKind.wrap_i64]; omega
          clear hb11 hO11 PA10 B10 HL10 h11 hgt hN
          go_wp2_with fail
          refine (len_db PA11.out).mono ?_
          rintro e12 w12 ⟨rfl, hb12⟩
          rw [HN.out]
          have B12 := Lib.hid (B11.out.trans (hb12.mono (by have := B11.out.size; have := HGW.out; omega)))
          clear hb12
          go_wp2
          show Q (.returned (.bool true)) w12
          rw [← HQ.out]
          exact ⟨rfl, B12.out⟩
end Go.Proofs.YtfdfdmbnggpnbaaGreat
namespace Go.Proofs.YtfdfdmbnggpnbaaGreat
open Go.ChangeShapes Go.WideShapes Go.RowKit Go.Deep
set_option maxRecDepth 20000

theorem Tryz.cellsHd13 : Tryz.prog.cellsOf 40 = 7 := by kernel_rfl
section
variable {H : Type} {enc : TypeId × Value → H} {w : World} {base : Nat} {held : Bool} {fuel : Nat}
theorem las_came {v : Value} {x : DataW H × List MemPlace} (h : DataW.trod enc Tryz.prog w base (fun _ => true) held fuel 22 [v] = some x) :
    ∃ A n c L, v = .slice A n c ∧ Las w w.heap.size A n L ∧ n ≤ c ∧ c ≤ maxLen := by
  refine arr_came (P := LaAt) ⟨⟨0, 0, 0, 0, 0, 0, 0⟩, [], []⟩ Tryz.underlying22 Tryz.cellsLsa7 (by omega) ?_ h
  intro n a cs y hat htr hsp
  obtain ⟨hd, A, A', n1, e1, n2, e2, L, M, rfl, h1, h2, h3, h4, hw⟩ := la_cameB htr
  obtain ⟨b, o, spot⟩ := a
  obtain rfl : spot = none := hsp
  simp only [addr_add] at hat
  exact ⟨⟨hd, L, M⟩, ⟨hat 0 (by omega), hat 1 (by omega), hat 2 (by omega), hat 3 (by omega), hat 4 (by omega), hat 5 (by omega), hat 6 (by omega)⟩, A, n1, e1, A', n2, e2, hat 7 (by omega), hat 8 (by omega), h1, h3, h2, h4⟩
/-- From place p of block b on there lies a head with a key of 64 bits. -/
def HdW (w : World) (B b p : Nat) (h : Hd) : Prop := HdAt w B b p h ∧ wfKy (keyH h)
theorem hds_came {v : Value} {x : DataW H × List MemPlace} (h : DataW.trod enc Tryz.prog w base (fun _ => true) held fuel 23 [v] = some x) :
    ∃ A n c L, v = .slice A n c ∧ Hds w w.heap.size A n L ∧ (∀ h ∈ L, wfKy (keyH h)) ∧ n ≤ c ∧ c ≤ maxLen := by
  obtain ⟨A, n, c, L, rfl, hA, hc, hm⟩ := arr_came (P := HdW) ⟨0, 0, 0, 0, 0, 0, 0⟩ Tryz.underlying23 Tryz.cellsHd13 (by omega) (fun n a cs y hat htr hsp => by
    obtain ⟨hd, rfl, hw⟩ := head_cameB htr
    obtain ⟨b, o, spot⟩ := a
    obtain rfl : spot = none := hsp
    simp only [addr_add] at hat
    exact ⟨hd, ⟨hat 0 (by omega), hat 1 (by omega), hat 2 (by omega), hat 3 (by omega), hat 4 (by omega), hat 5 (by omega), hat 6 (by omega)⟩, hw⟩) h
  refine ⟨A, n, c, L, rfl, ⟨hA.1, fun hn => by
    obtain ⟨b, o, e, hb, hat⟩ := hA.2 hn
    exact ⟨b, o, e, hb, fun j x hx => (hat j x hx).1⟩⟩, fun h hh => ?_, hc, hm⟩
  obtain ⟨j, hj⟩ := List.getElem?_of_mem hh
  have hjl := (List.getElem?_eq_some_iff.1 hj).1
  obtain ⟨b, o, e, hb, hat⟩ := hA.2 (by have := hA.1; omega)
  exact (hat j h hj).2
end
end Go.Proofs.YtfdfdmbnggpnbaaGreat
