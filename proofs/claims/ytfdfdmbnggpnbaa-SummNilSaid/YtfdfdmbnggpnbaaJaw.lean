/- Plain facts on the keys of what is gone: in order, each once. No program, no conditions. · The reference's keys of what is gone. Conditions: at most 100 descriptions. · The program's database and the reference's, of the same descriptions. Conditions: at most 100 descriptions, of at most 20 links and members. · The walk of the statement SummGone. Conditions: what the words say. -/
import Derived.Test.YtfdfdmbnggpnbaaJau
import Derived.Test.YtfdfdmbnggpnbaaJan
import Derived.Test.YtfdfdmbnggpnbaaJav
import Derived.Test.YtfdfdmbnggpnbaaJao
namespace Go.Proofs.Ytfdfdmbnggpnbaa
open Go.Lib Go.Sort

/-- In order, each once. -/
def Strict (K : List Ky) : Prop := K.Pairwise fun a b => lessKy a b = true
theorem le_lt {a b c : Ky} (h : lessKy b a = false) (h' : lessKy b c = true) : lessKy a c = true := by
  have n : ¬ lessKy b a = true := by rw [h]; decide
  rw [lessKy_iff] at n h' ⊢
  omega
theorem le_trans' {a b c : Ky} (h : lessKy b a = false) (h' : lessKy c b = false) : lessKy c a = false := by
  cases e : lessKy c a
  · rfl
  · have n1 : ¬ lessKy b a = true := by rw [h]; decide
    have n2 : ¬ lessKy c b = true := by rw [h']; decide
    rw [lessKy_iff] at n1 n2 e
    omega
theorem compact_strict {d : Array Ky} (hs : ∀ i j, i < j → j < d.size → lessKy d[j]! d[i]! = false) : ∀ m, m ≤ d.size →
    Strict (compactUpTo d m) ∧ (∀ x ∈ compactUpTo d m, ∃ j, j < m ∧ x = d[j]!) ∧ ∀ j, j < m → d[j]! ∈ compactUpTo d m
  | 0, _ => by
    have : compactUpTo d 0 = [] := rfl
    rw [this]
    exact ⟨List.Pairwise.nil, fun x hx => (by cases hx), fun j hj => absurd hj (by omega)⟩
  | m + 1, h => by
    obtain ⟨i1, i2, i3⟩ := compact_strict hs m (by omega)
    rw [compactUpTo_succ]
    cases hk : keeps d m
    · rw [if_neg (by decide), List.append_nil]
      unfold keeps at hk
      rw [decide_eq_false_iff_not] at hk
      have hm : m ≠ 0 := fun e => hk (.inl e)
      have he : d[m]! = d[m - 1]! := by
        rcases Classical.em (d[m]! = d[m - 1]!) with h | h
        · exact h
        · exact absurd (.inr h) hk
      refine ⟨i1, fun x hx => ?_, fun j hj => ?_⟩
      · obtain ⟨j, hj, e⟩ := i2 x hx
        exact ⟨j, by omega, e⟩
      · by_cases e : j = m
        · rw [e, he]
          exact i3 (m - 1) (by omega)
        · exact i3 j (by omega)
    · rw [if_pos rfl]
      unfold keeps at hk
      rw [decide_eq_true_iff] at hk
      refine ⟨List.pairwise_append.2 ⟨i1, by simp, fun a ha b hb => ?_⟩, fun x hx => ?_, fun j hj => ?_⟩
      · rw [List.mem_singleton] at hb
        subst hb
        obtain ⟨j, hj, rfl⟩ := i2 a ha
        have hne : d[m - 1]! ≠ d[m]! := fun e => by
          rcases hk with h0 | h0
          · omega
          · exact h0 e.symm
        have h1 := lessKy_total (hs (m - 1) m (by omega) (by omega)) hne.symm
        by_cases e : j = m - 1
        · rw [e]
          exact h1
        · exact le_lt (hs j (m - 1) (by omega) (by omega)) h1
      · rcases List.mem_append.1 hx with hx | hx
        · obtain ⟨j, hj, e⟩ := i2 x hx
          exact ⟨j, by omega, e⟩
        · exact ⟨m, by omega, List.mem_singleton.1 hx⟩
      · by_cases e : j = m
        · rw [e]
          exact List.mem_append.2 (.inr (List.mem_singleton.2 rfl))
        · exact List.mem_append.2 (.inl (i3 j (by omega)))
theorem dedup_strict {L : List Ky} (hs : L.Pairwise fun a b => leKy a b = true) : Strict (dedupK L) ∧ ∀ x, x ∈ dedupK L ↔ x ∈ L := by
  have h := compact_strict (d := L.toArray) (fun i j hij hj => by
    have hj' : j < L.length := by simpa using hj
    have := List.pairwise_iff_getElem.1 hs i j (by omega) hj' hij
    rw [getElem!_pos L.toArray i (by simp; omega), getElem!_pos L.toArray j hj]
    unfold leKy at this
    simpa using this) L.length (by simp)
  refine ⟨h.1, fun x => ⟨fun hx => ?_, fun hx => ?_⟩⟩
  · obtain ⟨j, hj, rfl⟩ := h.2.1 x hx
    rw [getElem!_pos L.toArray j (by simpa using hj)]
    simp
  · obtain ⟨j, hj⟩ := List.getElem?_of_mem hx
    have hl := (List.getElem?_eq_some_iff.1 hj).1
    have := h.2.2 j hl
    rw [getElem!_pos L.toArray j (by simpa using hl)] at this
    rw [← (List.getElem?_eq_some_iff.1 hj).2]
    unfold dedupK
    simpa using this
theorem gone_strict (S : List La) : Strict (goneL S) ∧ ∀ x, x ∈ goneL S ↔ x ∈ goneK S := by
  have h := dedup_strict (L := (goneK S).mergeSort leKy) (List.pairwise_mergeSort (le := leKy) (fun a b c h1 h2 => by
    unfold leKy at *
    rw [Bool.not_eq_true'] at *
    exact le_trans' h1 h2) (fun a b => by
    unfold leKy
    cases h1 : lessKy b a
    · rfl
    · cases h2 : lessKy a b
      · rfl
      · have := lessKy_trans h1 h2
        rw [lessKy_irrefl] at this
        cases this) _)
  exact ⟨h.1, fun x => (h.2 x).trans (List.mergeSort_perm _ _).mem_iff⟩
/-- A key put into a row of keys, unless it is there. -/
def insK (k : Ky) : List Ky → List Ky
  | [] => [k]
  | o :: r => if o = k then o :: r else if lessKy k o = true then k :: o :: r else o :: insK k r
theorem insK_mem {k x : Ky} : ∀ {L : List Ky}, x ∈ insK k L ↔ x = k ∨ x ∈ L
  | [] => by simp [insK]
  | o :: r => by
    unfold insK
    split
    · rename_i h
      constructor
      · exact .inr
      · rintro (rfl | h2)
        · rw [h]
          exact List.mem_cons_self
        · exact h2
    · split
      · simp
      · rw [List.mem_cons, insK_mem, List.mem_cons]
        constructor
        · rintro (h | h | h)
          · exact .inr (.inl h)
          · exact .inl h
          · exact .inr (.inr h)
        · rintro (h | h | h)
          · exact .inr (.inl h)
          · exact .inl h
          · exact .inr (.inr h)
theorem insK_strict {k : Ky} : ∀ {L : List Ky}, Strict L → Strict (insK k L)
  | [], _ => by
    unfold insK Strict
    simp
  | o :: r, h => by
    obtain ⟨h1, h2⟩ := List.pairwise_cons.1 h
    unfold insK
    split
    · exact h
    · rename_i hne
      split
      · rename_i hl
        refine List.pairwise_cons.2 ⟨fun x hx => ?_, h⟩
        rcases List.mem_cons.1 hx with rfl | hx
        · exact hl
        · exact lessKy_trans hl (h1 x hx)
      · rename_i hl
        refine List.pairwise_cons.2 ⟨fun x hx => ?_, insK_strict h2⟩
        rcases insK_mem.1 hx with rfl | hx
        · exact lessKy_total (by simpa using hl) (fun e => hne e.symm)
        · exact h1 x hx
/-- The keys of what is gone, as the reference finds them. -/
def rgoneL (S : List La) : List Ky := (goneK S).foldl (fun o k => insK k o) []
theorem foldK {K : List Ky} : ∀ {L : List Ky}, Strict L → Strict (K.foldl (fun o k => insK k o) L) ∧ ∀ x, x ∈ K.foldl (fun o k => insK k o) L ↔ x ∈ L ∨ x ∈ K := by
  induction K with
  | nil => exact fun h => ⟨h, fun x => by simp⟩
  | cons k K ih =>
    intro L h
    obtain ⟨h1, h2⟩ := ih (insK_strict (k := k) h)
    refine ⟨h1, fun x => (h2 x).trans ?_⟩
    rw [insK_mem, List.mem_cons]
    constructor
    · rintro ((h | h) | h)
      · exact .inr (.inl h)
      · exact .inl h
      · exact .inr (.inr h)
    · rintro (h | h | h)
      · exact .inl (.inr h)
      · exact .inl (.inl h)
      · exact .inr h
theorem rgone_is (S : List La) : rgoneL S = goneL S := by
  obtain ⟨h1, h2⟩ := foldK (K := goneK S) (L := []) List.Pairwise.nil
  obtain ⟨h3, h4⟩ := gone_strict S
  exact ky_ext h1 h3 (fun x => by
    rw [h4]
    have := h2 x
    unfold rgoneL
    simpa using this)
theorem rgoneL_snoc (S : List La) (x : La) : rgoneL (S ++ [x]) = if goneB x = true then insK (kyL x) (rgoneL S) else rgoneL S := by
  unfold rgoneL
  rw [goneK_snoc]
  cases h : goneB x
  · rw [if_neg (by decide), if_neg (by decide)]
  · rw [if_pos rfl, if_pos rfl, List.foldl_append]
    rfl
theorem gone_sort {S : List La} (hs : SortL S) : goneL S = goneK S := by
  obtain ⟨h3, h4⟩ := gone_strict S
  refine ky_ext h3 ?_ h4
  unfold goneK
  rw [List.pairwise_map]
  exact List.Pairwise.filter _ hs
/-- Of a database all is told or gone. -/
theorem gone_told {S : List La} (hs : SortL S) : (goneL S).length + (toldL S).length = S.length := by
  rw [gone_sort hs]
  unfold goneK toldL
  rw [List.length_map, List.length_map]
  induction S with
  | nil => rfl
  | cons x S ih =>
    have := ih hs.tail
    cases h : goneB x
    · rw [List.filter_cons_of_neg (by rw [h]; decide), List.filter_cons_of_pos (by rw [h]; rfl), List.length_cons, List.length_cons]
      omega
    · rw [List.filter_cons_of_pos h, List.filter_cons_of_neg (by rw [h]; decide), List.length_cons, List.length_cons]
      omega
theorem gone_len (S : List La) : (goneL S).length ≤ S.length := by
  have h1 : (goneK S).length ≤ S.length := by
    unfold goneK
    rw [List.length_map]
    exact List.length_filter_le _ _
  have h2 : (goneL S).length ≤ (goneK S).length := by
    unfold goneL dedupK compactUpTo
    rw [List.length_map]
    refine Nat.le_trans (List.length_filter_le _ _) ?_
    rw [List.length_range, List.length_mergeSort]
    exact Nat.le_refl _
  omega
end Go.Proofs.Ytfdfdmbnggpnbaa
namespace Go.Proofs.Ytfdfdmbnggpnbaa
open Go.RowKit Go.Lib Go.Sort Go.Deep

theorem insK_len (k : Ky) : ∀ L : List Ky, (insK k L).length ≤ L.length + 1
  | [] => by simp [insK]
  | o :: r => by
    unfold insK
    split
    · simp
    · split
      · simp
      · have := insK_len k r
        simp
        omega
theorem own_lenK {w : World} {base n : Nat} {v : Value} {L : List Ky} (h : w.ownsRow base 86 3 v n (kyCells L)) : L.length = n := by
  have hl := h.1
  rw [kyCells_length] at hl
  omega
/-- What is left to do of an insertion: its front N is done. -/
def InsUp (k : Ky) (O : List Ky) (j : Nat) (N : List Ky) (dn : Bool) : Prop := N ++ (if dn = true then O.drop j else insK k (O.drop j)) = insK k O
theorem InsUp.start (k : Ky) (O : List Ky) : InsUp k O 0 [] false := by simp [InsUp]
theorem drop_at {O : List Ky} {j : Nat} {y : Ky} (hy : O[j]? = some y) : O.drop j = y :: O.drop (j + 1) := by
  have hl := (List.getElem?_eq_some_iff.1 hy).1
  rw [List.drop_eq_getElem_cons hl, (List.getElem?_eq_some_iff.1 hy).2]
theorem InsUp.over {k : Ky} {O : List Ky} {j : Nat} {N : List Ky} {y : Ky} (h : InsUp k O j N true) (hy : O[j]? = some y) : InsUp k O (j + 1) (N ++ [y]) true := by
  unfold InsUp at *
  rw [if_pos rfl] at *
  rw [drop_at hy] at h
  rw [← h]
  simp
theorem InsUp.same {k : Ky} {O : List Ky} {j : Nat} {N : List Ky} (h : InsUp k O j N false) (hy : O[j]? = some k) : InsUp k O (j + 1) (N ++ [k]) true := by
  unfold InsUp at *
  rw [if_pos rfl]
  rw [if_neg (by decide), drop_at hy] at h
  rw [← h]
  simp [insK]
theorem InsUp.less {k : Ky} {O : List Ky} {j : Nat} {N : List Ky} {y : Ky} (h : InsUp k O j N false) (hy : O[j]? = some y) (hne : ¬ y = k) (hl : lessKy k y = true) : InsUp k O (j + 1) (N ++ [k] ++ [y]) true := by
  unfold InsUp at *
  rw [if_pos rfl]
  rw [if_neg (by decide), drop_at hy] at h
  rw [← h]
  simp [insK, hne, hl]
theorem InsUp.more {k : Ky} {O : List Ky} {j : Nat} {N : List Ky} {y : Ky} (h : InsUp k O j N false) (hy : O[j]? = some y) (hne : ¬ y = k) (hl : lessKy k y = false) : InsUp k O (j + 1) (N ++ [y]) false := by
  unfold InsUp at *
  rw [if_neg (by decide)] at *
  rw [drop_at hy] at h
  rw [← h]
  simp [insK, hne, hl]
theorem las_head13 {w : World} {b p : Nat} {x : La} {A A' : Option Addr} {n c n' c' : Nat} (h : w.rangeAt b p [.int .i64 x.h.age, .int .i64 x.h.kind, .int .i64 x.h.id, .int .i64 x.h.adv, .int .i64 x.h.seq, .int .i64 x.h.sum, .int .i64 x.h.long, .slice A n c, .slice A' n' c']) : w.rangeAt b p [.int .i64 x.h.age, .int .i64 x.h.kind, .int .i64 x.h.id, .int .i64 x.h.adv, .int .i64 x.h.seq, .int .i64 x.h.sum, .int .i64 x.h.long] := fun j v hj => by
  have hl := (List.getElem?_eq_some_iff.1 hj).1
  refine h j v ?_
  rw [← hj, ← List.getElem?_append_left (l₂ := [.slice A n c, .slice A' n' c']) hl]
  rfl
theorem own_block_is {g n c q : Nat} (h : (Value.slice (some ⟨g, 0, none⟩) n c).ownBlock = some q) : q = g := by
  have h2 : some g = some q := h
  injection h2 with h2
  exact h2.symm
theorem chg_s13 {s : Nat} {w w' : World} (h : Below s w w') : Chg (fun q => s ≤ q) w w' := ⟨h.os, h.tape, h.output, h.size, fun q _ hn => h.block q (by omega)⟩
theorem key_range {w : World} {base n c j g : Nat} {L : List Ky} {x : Ky} (h : w.ownsRow base 86 3 (.slice (some ⟨g, 0, none⟩) n c) n (kyCells L)) (hj : L[j]? = some x) : w.rangeAt g (j * 3) [.int .i64 x.kind, .int .i64 x.id, .int .i64 x.adv] := by
  obtain ⟨g', e, -, -, -, -, h0, h1, h2⟩ := own_kyH h hj
  injection e with e
  injection e with e
  subst e
  intro i v hv
  match i, hv with
  | 0, hv => cases hv; exact h0
  | 1, hv => cases hv; exact h1
  | 2, hv => cases hv; exact h2
set_option maxRecDepth 20000 in
set_option maxHeartbeats 16000000 in
theorem rgone_any {w : World} {A : Option Addr} {n c : Nat} {S : List La} {B : Nat} (hS : Las w B A n S) (hB : B ≤ w.heap.size) (hn : n ≤ 100) : Calls Try.prog 22 #[.slice A n c] w (GoneQ S w) := by
  generalize hQ : GoneQ S w = Q
  have HQ := Lib.hid hQ
  have HS := Lib.hid hS
  have O0 := Lib.hid (World.ownsRow_nil w w.heap.size 86 3)
  have B0 := Lib.hid (Below.refl w.heap.size w)
  generalize hbm : w.heap.size = bm at *
  have HBM := Lib.hid hbm
  clear hQ hS hbm
  have mixed : Try.prog.follows .mixedOrders = true := by kernel_rfl
  go_enter Try.func22, Try.ntmps22
  go_wp2_with fail
  go_loopw [3, 4] (fun s3 s4 wr => ∃ (k m c' : Nat) (A' : Option Addr), s4 = .int .i64 k ∧ s3 = .slice A' m c' ∧ k ≤ n ∧ m ≤ k ∧ Hid (wr.ownsRow bm 86 3 (.slice A' m c') m (kyCells (rgoneL (S.take k)))) ∧ Hid (Below bm w wr)) (fun _ s4 _ => n - (intOf s4).toNat)
  case atStart => exact ⟨0, 0, 0, none, rfl, rfl, Nat.zero_le _, Nat.le_refl _, Lib.hid (by simpa [rgoneL, goneK, kyCells] using O0.out), B0⟩
  case round =>
    clear O0 B0
    obtain ⟨k, m, c', A', rfl, rfl, hk, hmk, OW, BW⟩ := hrel
    by_cases hlt : k < n
    · have hlt' : (k : Int) < (n : Int) := by omega
      obtain ⟨b, o, x, A1, n1, c1, A2, n2, c2, rfl, hb, hx, hr, -, -, -, -⟩ := las_item (HS.out.below (BW.out.mono (by rw [HBM.out] at *; exact hB))) hlt
      have HR := Lib.hid (las_head13 hr)
      have HX := Lib.hid hx
      have hz : bm ≤ wr.heap.size := by have := BW.out.size; have := HBM.out; omega
      have x0 : wr.cell? ⟨b, o + k * 9, none⟩ = some (.int .i64 x.h.age) := hr 0 _ rfl
      have HT := Lib.hid (rgoneL_snoc (S.take k) x)
      rw [← take_snocA S k x HX.out] at HT
      clear hr hx HX
      cases hg : goneB x
      · have HT2 := Lib.hid (show rgoneL (S.take (k + 1)) = rgoneL (S.take k) by
          have := HT.out
          rwa [hg, if_neg (by decide)] at this)
        have d60 : (x.h.age != 60) = true := by
          have h : (x.h.age == 60) = false := hg
          rw [bne, h]
          rfl
        have O2 := Lib.hid (show wr.ownsRow bm 86 3 (.slice A' m c') m (kyCells (rgoneL (S.take (k + 1)))) by rw [HT2.out]; exact OW.out)
        clear HT hg HT2 OW HR
        go_wp2
        go_roundw
        case rel => exact ⟨k + 1, m, c', A', by go_num, rfl, by omega, by omega, O2, BW⟩
        case measure => simp [intOf]; omega
      · have HT2 := Lib.hid (show rgoneL (S.take (k + 1)) = insK (kyL x) (rgoneL (S.take k)) by
          have := HT.out
          rwa [hg, if_pos rfl] at this)
        have d60 : (x.h.age != 60) = false := by
          have h : (x.h.age == 60) = true := hg
          rw [bne, h]
          rfl
        clear HT hg
        go_wp2_with (refine wpList_load_row 43 _ _ (by rfl) (.tmp 25) rfl (by rfl) HR.out Try.underlying43 rfl (by kernel_rfl) ?_)
        refine (key13_any x.h _).mono ?_
        rintro e1 w1 ⟨rfl, hb1⟩
        obtain ⟨kk, hkk⟩ : ∃ kk : Ky, kk = kyL x := ⟨_, rfl⟩
        have q1 : x.h.kind = kk.kind := by rw [hkk]; rfl
        have q2 : x.h.id = kk.id := by rw [hkk]; rfl
        have q3 : x.h.adv = kk.adv := by rw [hkk]; rfl
        rw [← hkk] at HT2
        rw [q1, q2, q3]
        have B1 := BW.out.trans (hb1.mono hz)
        have O1 := own_chg OW.out (Chg.of_below (F := fun _ => False) hb1) (fun _ _ hf => hf)
        have hz1 : bm ≤ w1.heap.size := Nat.le_trans hz hb1.size
        have B2 := Lib.hid (B1.alloc hz1 (.cells #[.int .i64 kk.kind, .int .i64 kk.id, .int .i64 kk.adv] 86))
        have O2 := Lib.hid (O1.alloc (.cells #[.int .i64 kk.kind, .int .i64 kk.id, .int .i64 kk.adv] 86))
        have K2 := Lib.hid (Blk.new w1 86 #[.int .i64 kk.kind, .int .i64 kk.id, .int .i64 kk.adv])
        have HLM := own_lenK O1
        clear hb1 B1 O1 OW BW HR x0 d60 q1 q2 q3 hkk
        go_wp2_with fail
        obtain ⟨X, hX⟩ : ∃ X, X = w1.heap.size := ⟨_, rfl⟩
        rw [← hX] at K2 ⊢
        have hXb : bm ≤ X := by omega
        clear hX
        generalize w1.alloc (.cells #[.int .i64 kk.kind, .int .i64 kk.id, .int .i64 kk.adv] 86) = ws at *
        clear hz1
        obtain ⟨s1, hs1⟩ : ∃ s1, s1 = ws.heap.size := ⟨_, rfl⟩
        have hXs : X < s1 := by rw [hs1]; exact K2.out.lt
        have hbs : bm ≤ s1 := by omega
        have I0 := Lib.hid (show ws.ownsRow s1 86 3 (.slice none 0 0) 0 (kyCells []) by simpa [kyCells] using World.ownsRow_nil ws s1 86 3)
        have J0 := Lib.hid (Below.refl s1 ws)
        have HS1 := Lib.hid hs1
        obtain ⟨O, hO⟩ : ∃ O, O = rgoneL (S.take k) := ⟨_, rfl⟩
        rw [← hO] at O2 HT2 HLM
        have M0 := Lib.hid (InsUp.start kk O)
        clear hs1 hO
        go_loopw [6, 7, 8] (fun s6 s7 s8 wr => ∃ (j q c6 : Nat) (A6 : Option Addr) (dn : Bool) (N : List Ky), s8 = .int .i64 j ∧ s6 = .slice A6 q c6 ∧ s7 = .bool dn ∧ j ≤ m ∧ q ≤ 2 * j ∧ Hid (wr.ownsRow s1 86 3 (.slice A6 q c6) q (kyCells N)) ∧ Hid (InsUp kk O j N dn) ∧ Hid (Below s1 ws wr)) (fun _ _ s8 _ => m - (intOf s8).toNat)
        case atStart => exact ⟨0, 0, 0, none, false, [], rfl, rfl, rfl, Nat.zero_le _, by omega, I0, M0, J0⟩
        case round =>
          clear I0 M0 J0
          obtain ⟨j, q, c6, A6, dn, N, rfl, rfl, rfl, hj, hq, OI, MI, BI⟩ := hrel
          have hzi : s1 ≤ wr.heap.size := by have := BI.out.size; have := HS1.out; omega
          have KI := Lib.hid (K2.out.below BI.out hXs)
          have KR := Lib.hid (blk_range7 KI.out)
          by_cases hjm : j < m
          · have hjm' : (j : Int) < (m : Int) := by omega
            obtain ⟨y, hy⟩ : ∃ y, O[j]? = some y := ⟨_, List.getElem?_eq_getElem (by omega)⟩
            have O3 := own_chg O2.out (Chg.of_below (F := fun _ => False) (show Below ws.heap.size ws wr by rw [← HS1.out]; exact BI.out)) (fun _ _ hf => hf)
            obtain ⟨g, rfl, hgb, hgl, hmc, hcm, y0, y1, y2⟩ := own_kyH O3 hy
            obtain ⟨k0, k1, k2⟩ := KI.out.three
            have hXl := KI.out.lt
            unfold maxLen at hcm
            have HY := Lib.hid hy
            have eK := fun W => equalKy y kk W
            have hgs : g < s1 := by
              obtain ⟨g', e, -, h, -⟩ := own_kyH O2.out hy
              injection e with e
              injection e with e
              subst e
              rw [HS1.out]
              exact h
            have OR := Lib.hid O3
            clear hy O3
            by_cases hyk : y = kk
            · have e1 : sameKy y kk = true := (sameKy_iff _ _).2 hyk
              rw [e1] at eK
              have MY := Lib.hid (show InsUp kk O (j + 1) (N ++ [y]) true from by
                cases dn
                · have := MI.out.same (by rw [← hyk]; exact HY.out)
                  rwa [← hyk] at this ⊢
                · exact MI.out.over HY.out)
              clear e1 hyk
              go_wp2_with fail
              go_quiet (fail)
              have W1 := Lib.hid (⟨rfl, rfl, rfl, Nat.le_refl _, fun _ _ => rfl⟩ : Below wr.heap.size wr (wr.drewN nq))
              have hz4 : s1 ≤ (wr.drewN nq).heap.size := hzi
              generalize wr.drewN nq = w4 at *
              clear nq
              have BI4 := Lib.hid (BI.out.trans (W1.out.mono hzi))
              have OI4 := Lib.hid (own_chg OI.out (Chg.of_below (F := fun _ => False) W1.out) (fun _ _ hf => hf))
              have OR4 := Lib.hid (own_chg OR.out (Chg.of_below (F := fun _ => False) W1.out) (fun _ _ hf => hf))
              have KI4 := Lib.hid (KI.out.below W1.out hXl)
              clear y0 y1 y2 k0 k1 k2 eK
              go_wp2_with fail
              go_quiet (fail)
              have W2 := Lib.hid (⟨rfl, rfl, rfl, Nat.le_refl _, fun _ _ => rfl⟩ : Below w4.heap.size w4 (w4.drewN nq))
              have hzx : s1 ≤ (w4.drewN nq).heap.size := hz4
              generalize w4.drewN nq = w5 at *
              have B5 := Lib.hid (BI4.out.trans (W2.out.mono hz4))
              have O5 := Lib.hid (own_chg OI4.out (Chg.of_below (F := fun _ => False) W2.out) (fun _ _ hf => hf))
              have RO := Lib.hid (key_range (own_chg OR4.out (Chg.of_below (F := fun _ => False) W2.out) (fun _ _ hf => hf)) HY.out)
              go_wp2_with (first | refine wpList_load_row 86 _ _ (by rfl) (.tmp 57) rfl (by rfl) RO.out Try.underlying86 rfl (by kernel_rfl) ?_ | (at_builtin; refine wpList_app_ky rfl (.tmp 54) (.tmp 59) rfl y (by rfl) (by rfl) O5.out (by omega) hzx ?_; intro A9 c9 w9 HO9 HB9))
              have B9 := Lib.hid (B5.out.trans HB9.out)
              have M9 := Lib.hid (show InsUp kk O (j + 1) (N ++ [y]) true from MY.out)
              have O9 := Lib.hid HO9.out
              clear HO9 HB9 OI BI KI KR MI HY OR RO W1 W2 BI4 OI4 OR4 KI4 B5 O5 MY
              go_wp2
              go_roundw
              case rel => exact ⟨j + 1, q + 1, c9, A9, true, N ++ [y], by go_num, by first | rfl | go_num, rfl, by omega, by omega, O9, M9, B9⟩
              case measure => simp [intOf]; omega
            · have e1 : sameKy y kk = false := by rw [Bool.eq_false_iff]; exact fun h => hyk ((sameKy_iff _ _).1 h)
              rw [e1] at eK
              clear e1
              cases dn
              · have HNE := Lib.hid hyk
                clear hyk
                go_wp2_with fail
                go_quiet (fail)
                have W1 := Lib.hid (⟨rfl, rfl, rfl, Nat.le_refl _, fun _ _ => rfl⟩ : Below wr.heap.size wr (wr.drewN nq))
                have hz4 : s1 ≤ (wr.drewN nq).heap.size := hzi
                generalize wr.drewN nq = w4 at *
                clear nq
                have BI4 := Lib.hid (BI.out.trans (W1.out.mono hzi))
                have OI4 := Lib.hid (own_chg OI.out (Chg.of_below (F := fun _ => False) W1.out) (fun _ _ hf => hf))
                have OR4 := Lib.hid (own_chg OR.out (Chg.of_below (F := fun _ => False) W1.out) (fun _ _ hf => hf))
                have KI4 := Lib.hid (KI.out.below W1.out hXl)
                clear y0 y1 y2 k0 k1 k2 eK
                obtain ⟨g2, ge, -, hgl4, -, -, y0, y1, y2⟩ := own_kyH OR4.out HY.out
                injection ge with ge
                injection ge with ge
                subst ge
                obtain ⟨k0, k1, k2⟩ := KI4.out.three
                have hXl4 := KI4.out.lt
                have gy0 := fun n os => cell_grown (n := n) (os := os) hgl4 y0
                have gy1 := fun n os => cell_grown (n := n) (os := os) hgl4 y1
                have gy2 := fun n os => cell_grown (n := n) (os := os) hgl4 y2
                have gk0 := fun n os => cell_grown (n := n) (os := os) hXl4 k0
                have gk1 := fun n os => cell_grown (n := n) (os := os) hXl4 k1
                have gk2 := fun n os => cell_grown (n := n) (os := os) hXl4 k2
                clear y0 y1 y2 k0 k1 k2
                have p3 := fun n os => Calls.grown_of (less_grown kk y (grow (w4.drewN n) os))
                obtain ⟨v, hv⟩ : ∃ v, lessKy kk y = v := ⟨_, rfl⟩
                rw [hv] at p3
                have HV := Lib.hid hv
                have hgr := fun n os => Lib.hid (below_grown13 (w := w4) (w' := grow (w4.drewN n) os) ⟨n, os, rfl⟩)
                clear hv
                go_wp2_with fail
                go_quiet_grown (first | (go_at_call 44; with_reducible exact p3 _ _))
                have W2 := hgr nq osq
                clear hgr p3 gy0 gy1 gy2 gk0 gk1 gk2
                generalize grow (w4.drewN nq) osq = w5 at *
                have hz5 : s1 ≤ w5.heap.size := Nat.le_trans hz4 W2.out.size
                have B5 := Lib.hid (BI4.out.trans (W2.out.mono hz4))
                have O5 := Lib.hid (own_chg OI4.out (Chg.of_below (F := fun _ => False) W2.out) (fun _ _ hf => hf))
                have R5 := Lib.hid (own_chg OR4.out (Chg.of_below (F := fun _ => False) W2.out) (fun _ _ hf => hf))
                have K5 := Lib.hid (KI4.out.below W2.out hXl4)
                have KR5 := Lib.hid (blk_range7 K5.out)
                cases v
                · have hzx : s1 ≤ w5.heap.size := hz5
                  have RO := Lib.hid (key_range R5.out HY.out)
                  go_wp2_with (first | refine wpList_load_row 86 _ _ (by rfl) (.tmp 57) rfl (by rfl) RO.out Try.underlying86 rfl (by kernel_rfl) ?_ | (at_builtin; refine wpList_app_ky rfl (.tmp 54) (.tmp 59) rfl y (by rfl) (by rfl) O5.out (by omega) hzx ?_; intro A9 c9 w9 HO9 HB9))
                  have B9 := Lib.hid (B5.out.trans HB9.out)
                  have M9 := Lib.hid (show InsUp kk O (j + 1) (N ++ [y]) false from MI.out.more HY.out HNE.out HV.out)
                  have O9 := Lib.hid HO9.out
                  clear HO9 HB9 OI BI KI KR MI HY OR RO W1 W2 BI4 OI4 OR4 KI4 B5 O5 R5 K5 KR5 HNE HV
                  go_wp2
                  go_roundw
                  case rel => exact ⟨j + 1, q + 1, c9, A9, false, N ++ [y], by go_num, by first | rfl | go_num, rfl, by omega, by omega, O9, M9, B9⟩
                  case measure => simp [intOf]; omega
                · go_wp2_with (first | refine wpList_load_row 86 _ _ (by rfl) (.tmp 5) rfl (by rfl) KR5.out Try.underlying86 rfl (by kernel_rfl) ?_ | (at_builtin; refine wpList_app_ky rfl (.tmp 50) (.tmp 52) rfl kk (by rfl) (by rfl) O5.out (by omega) hz5 ?_; intro A8 c8 w8 HO8 HB8; have hzx : s1 ≤ w8.heap.size := Nat.le_trans hz5 (HB8.out.size); have RO := Lib.hid (key_range (own_chg R5.out (chg_s13 HB8.out) (fun q hq hf => by have := own_block_is hq; have hf2 : s1 ≤ q := hf; omega)) HY.out); have B8 := Lib.hid (B5.out.trans HB8.out)) | refine wpList_load_row 86 _ _ (by rfl) (.tmp 57) rfl (by rfl) RO.out Try.underlying86 rfl (by kernel_rfl) ?_ | (at_builtin; refine wpList_app_ky rfl (.tmp 54) (.tmp 59) rfl y (by rfl) (by rfl) HO8.out (by omega) hzx ?_; intro A9 c9 w9 HO9 HB9))
                  have B9 := Lib.hid (B8.out.trans HB9.out)
                  have M9 := Lib.hid (show InsUp kk O (j + 1) (N ++ [kk] ++ [y]) true from MI.out.less HY.out HNE.out HV.out)
                  have O9 := Lib.hid HO9.out
                  clear HO8 HB8 HO9 HB9 OI BI KI KR MI HY OR RO W1 W2 BI4 OI4 OR4 KI4 B5 O5 R5 K5 KR5 HNE HV B8
                  go_wp2
                  go_roundw
                  case rel => exact ⟨j + 1, q + 1 + 1, c9, A9, true, N ++ [kk] ++ [y], by go_num, by first | rfl | go_num, rfl, by omega, by omega, O9, M9, B9⟩
                  case measure => simp [intOf]; omega
              · clear hyk
                go_wp2_with fail
                go_quiet (fail)
                have W1 := Lib.hid (⟨rfl, rfl, rfl, Nat.le_refl _, fun _ _ => rfl⟩ : Below wr.heap.size wr (wr.drewN nq))
                have hz4 : s1 ≤ (wr.drewN nq).heap.size := hzi
                generalize wr.drewN nq = w4 at *
                clear nq
                have BI4 := Lib.hid (BI.out.trans (W1.out.mono hzi))
                have OI4 := Lib.hid (own_chg OI.out (Chg.of_below (F := fun _ => False) W1.out) (fun _ _ hf => hf))
                have OR4 := Lib.hid (own_chg OR.out (Chg.of_below (F := fun _ => False) W1.out) (fun _ _ hf => hf))
                have KI4 := Lib.hid (KI.out.below W1.out hXl)
                clear y0 y1 y2 k0 k1 k2 eK
                go_wp2_with fail
                go_quiet (fail)
                have W2 := Lib.hid (⟨rfl, rfl, rfl, Nat.le_refl _, fun _ _ => rfl⟩ : Below w4.heap.size w4 (w4.drewN nq))
                have hzx : s1 ≤ (w4.drewN nq).heap.size := hz4
                generalize w4.drewN nq = w5 at *
                have B5 := Lib.hid (BI4.out.trans (W2.out.mono hz4))
                have O5 := Lib.hid (own_chg OI4.out (Chg.of_below (F := fun _ => False) W2.out) (fun _ _ hf => hf))
                have RO := Lib.hid (key_range (own_chg OR4.out (Chg.of_below (F := fun _ => False) W2.out) (fun _ _ hf => hf)) HY.out)
                go_wp2_with (first | refine wpList_load_row 86 _ _ (by rfl) (.tmp 57) rfl (by rfl) RO.out Try.underlying86 rfl (by kernel_rfl) ?_ | (at_builtin; refine wpList_app_ky rfl (.tmp 54) (.tmp 59) rfl y (by rfl) (by rfl) O5.out (by omega) hzx ?_; intro A9 c9 w9 HO9 HB9))
                have B9 := Lib.hid (B5.out.trans HB9.out)
                have M9 := Lib.hid (show InsUp kk O (j + 1) (N ++ [y]) true from MI.out.over HY.out)
                have O9 := Lib.hid HO9.out
                clear HO9 HB9 OI BI KI KR MI HY OR RO W1 W2 BI4 OI4 OR4 KI4 B5 O5
                go_wp2
                go_roundw
                case rel => exact ⟨j + 1, q + 1, c9, A9, true, N ++ [y], by go_num, by first | rfl | go_num, rfl, by omega, by omega, O9, M9, B9⟩
                case measure => simp [intOf]; omega
          · have hjm' : ¬ (j : Int) < (m : Int) := by omega
            have hd : O.drop j = [] := List.drop_of_length_le (by omega)
            cases dn
            · have EQ := Lib.hid (show N ++ [kk] = insK kk O by
                have := MI.out
                unfold InsUp at this
                rwa [hd, if_neg (by decide)] at this)
              clear hd MI
              go_wp2_with (first | refine wpList_load_row 86 _ _ (by rfl) (.tmp 5) rfl (by rfl) KR.out Try.underlying86 rfl (by kernel_rfl) ?_ | (at_builtin; refine wpList_app_ky rfl (.tmp 63) (.tmp 65) rfl kk (by rfl) (by rfl) OI.out (by omega) hzi ?_; intro A9 c9 w9 HO9 HB9))
              have HO := HO9.out
              rw [EQ.out, ← HT2.out] at HO
              have hql : q + 1 ≤ m + 1 := by
                have h1 := own_lenK HO
                rw [HT2.out] at h1
                have := insK_len kk O
                omega
              have O9 := Lib.hid (own_low HO hbs)
              have B9 := Lib.hid (B2.out.trans ((BI.out.trans HB9.out).mono hbs))
              clear HO HO9 HB9 OI BI KI KR EQ O2 B2 K2 HT2 HS1
              go_roundw
              case rel => exact ⟨k + 1, q + 1, c9, A9, by go_num, by first | rfl | go_num, by omega, by omega, O9, B9⟩
              case measure => simp [intOf]; omega
            · have EQ := Lib.hid (show N = insK kk O by
                have := MI.out
                unfold InsUp at this
                rwa [hd, if_pos rfl, List.append_nil] at this)
              have HO := OI.out
              rw [EQ.out, ← HT2.out] at HO
              have hql : q ≤ m + 1 := by
                have h1 := own_lenK HO
                rw [HT2.out] at h1
                have := insK_len kk O
                omega
              have O9 := Lib.hid (own_low HO hbs)
              have B9 := Lib.hid (B2.out.trans (BI.out.mono hbs))
              clear HO OI BI KI KR EQ O2 B2 K2 HT2 HS1 MI hd
              go_wp2
              go_roundw
              case rel => exact ⟨k + 1, q, c6, A6, by go_num, rfl, by omega, by omega, O9, B9⟩
              case measure => simp [intOf]; omega
    · have hlt' : ¬ (k : Int) < (n : Int) := by omega
      have HT := Lib.hid (show rgoneL (S.take k) = goneL S by
        rw [List.take_of_length_le (by have := HS.out.1; omega), rgone_is])
      rw [HT.out] at OW
      go_wp2
      show Q (.returned (.slice A' m c')) wr
      rw [← HQ.out]
      exact ⟨A', m, c', rfl, by rw [HBM.out]; exact BW.out, by rw [HBM.out]; exact OW.out⟩
end Go.Proofs.Ytfdfdmbnggpnbaa
namespace Go.Proofs.Ytfdfdmbnggpnbaa
open Go.RowKit Go.Lib Go.Sort Go.Deep

/-- Pair databases that hold S, each on blocks of its own. -/
def Pair (w : World) (lo lo2 p g : Nat) (S : List La) (F F' : Nat → Prop) : Prop :=
  PDb w lo p 40 S F ∧ RefDb w lo2 g 40 S F' ∧ ∀ q, F q → ¬ F' q
theorem Pair.sort {w : World} {lo lo2 p g : Nat} {S : List La} {F F' : Nat → Prop} (h : Pair w lo lo2 p g S F F') : SortL S := by
  obtain ⟨-, ⟨_, _, _, _, -, -, -, -, h1, -⟩, -⟩ := h
  exact h1
theorem Pair.chg {w w' : World} {lo lo2 p g : Nat} {S : List La} {F F' F2 : Nat → Prop} (h : Pair w lo lo2 p g S F F') (hc : Chg F2 w w') (h1 : ∀ q, F q → ¬ F2 q) (h2 : ∀ q, F' q → ¬ F2 q) : Pair w' lo lo2 p g S F F' :=
  ⟨h.1.chg hc h1, h.2.1.chg hc h2, h.2.2⟩
theorem Pair.below {w w' : World} {lo lo2 p g : Nat} {S : List La} {F F' : Nat → Prop} (h : Pair w lo lo2 p g S F F') (hb : Below w.heap.size w w') : Pair w' lo lo2 p g S F F' :=
  h.chg (F2 := fun _ => False) (Chg.of_below hb) (fun _ _ hf => hf) (fun _ _ hf => hf)
def BothQ13 (w : World) (e : Ending) (w' : World) : Prop :=
  ∃ (lo2 p g : Nat) (S : List La) (F F' : Nat → Prop), e = .returned (.tuple #[.pointer (some ⟨p, 0, none⟩), .pointer (some ⟨g, 0, none⟩)]) ∧ Below w.heap.size w w' ∧ w.heap.size ≤ lo2 ∧ Pair w' w.heap.size lo2 p g S F F'
set_option maxRecDepth 8000 in
set_option maxHeartbeats 8000000 in
theorem both13_any {w : World} {A : Option Addr} {n c B : Nat} {T : List La} (hT : Las w B A n T) (hB : B ≤ w.heap.size) (hn : n ≤ 100) (h20 : ∀ a ∈ T, a.L.length ≤ 20 ∧ a.M.length ≤ 20) : Calls Try.prog 19 #[.slice A n c] w (BothQ13 w) := by
  generalize hQ : BothQ13 w = Q
  have HQ := Lib.hid hQ
  have HT := Lib.hid hT
  have H20 := Lib.hid h20
  clear hQ hT h20
  go_enter Try.func19, Try.ntmps19
  go_wp2_with (first | (go_at_call 47; refine (new_db 40 _).mono ?_; rintro e1 w1 ⟨p, F1, rfl, hb1, hd1⟩) | (go_at_call 48; refine (r7New_db 40 _).mono ?_; rintro e2 w2 ⟨rfl, hb2, F2, hd2⟩))
  rw [show roomOf 40 = 40 by decide] at hd1 hd2
  have B2 := Lib.hid (hb1.trans (hb2.mono hb1.size))
  have hlo2 := hb1.size
  have D2 := Lib.hid (show Pair w2 w.heap.size w1.heap.size p w1.heap.size [] F1 F2 from ⟨hd1.chg (F' := fun _ => False) (Chg.of_below hb2) (fun _ _ hf => hf), hd2, fun q h1 h2 => by
    have := (hd1.foot h1).2
    have := (hd2.foot h2).1
    omega⟩)
  clear hb1 hb2 hd1 hd2
  generalize w1.heap.size = lo2 at *
  go_wp2_with fail
  go_loopw [12] (fun s12 wr => ∃ (k : Nat) (S : List La) (F F' : Nat → Prop), s12 = .int .i64 k ∧ k ≤ n ∧ Hid (Pair wr w.heap.size lo2 p lo2 S F F') ∧ Hid (Below w.heap.size w wr)) (fun s12 _ => n - (intOf s12).toNat)
  case atStart => exact ⟨0, [], F1, F2, rfl, Nat.zero_le _, D2, B2⟩
  case round =>
    clear D2 B2
    obtain ⟨k, S, F, F', rfl, hk, DW, BW⟩ := hrel
    by_cases hlt : k < n
    · have hlt' : (k : Int) < (n : Int) := by omega
      obtain ⟨b, o, x, A1, n1, c1, A2, n2, c2, rfl, hb, hx, hr, hL, hM, hm1, hm2⟩ := las_item (HT.out.below (BW.out.mono hB)) hlt
      have HR := Lib.hid hr
      have HL := Lib.hid hL
      have HM := Lib.hid hM
      obtain ⟨l1, l2⟩ := H20.out x (List.mem_of_getElem? hx)
      have l3 : n1 ≤ 20 := by have := hL.1; omega
      have l4 : n2 ≤ 20 := by have := hM.1; omega
      have hz := BW.out.size
      have BX := Lib.hid (BW.out.alloc hz (.cells #[.int .i64 x.h.age, .int .i64 x.h.kind, .int .i64 x.h.id, .int .i64 x.h.adv, .int .i64 x.h.seq, .int .i64 x.h.sum, .int .i64 x.h.long, .slice A1 n1 c1, .slice A2 n2 c2] 78))
      have KX := Lib.hid (Blk.new wr 78 #[.int .i64 x.h.age, .int .i64 x.h.kind, .int .i64 x.h.id, .int .i64 x.h.adv, .int .i64 x.h.seq, .int .i64 x.h.sum, .int .i64 x.h.long, .slice A1 n1 c1, .slice A2 n2 c2])
      have DX := Lib.hid (DW.out.below ((Below.refl wr.heap.size wr).alloc (Nat.le_refl _) (.cells #[.int .i64 x.h.age, .int .i64 x.h.kind, .int .i64 x.h.id, .int .i64 x.h.adv, .int .i64 x.h.seq, .int .i64 x.h.sum, .int .i64 x.h.long, .slice A1 n1 c1, .slice A2 n2 c2] 78)))
      have LX := Lib.hid (hL.alloc (by omega) (.cells #[.int .i64 x.h.age, .int .i64 x.h.kind, .int .i64 x.h.id, .int .i64 x.h.adv, .int .i64 x.h.seq, .int .i64 x.h.sum, .int .i64 x.h.long, .slice A1 n1 c1, .slice A2 n2 c2] 78))
      have MX := Lib.hid (hM.alloc (by omega) (.cells #[.int .i64 x.h.age, .int .i64 x.h.kind, .int .i64 x.h.id, .int .i64 x.h.adv, .int .i64 x.h.seq, .int .i64 x.h.sum, .int .i64 x.h.long, .slice A1 n1 c1, .slice A2 n2 c2] 78))
      have RX := Lib.hid (blk_range7 KX.out)
      have NX := Lib.hid (show (∀ q, F q → q ≠ wr.heap.size) ∧ (∀ q, F' q → q ≠ wr.heap.size) from ⟨fun q hq => by have := (DW.out.1.foot hq).2; omega, fun q hq => by have := (DW.out.2.1.foot hq).2; omega⟩)
      clear hr hx hL hM DW BW l1 l2
      go_wp2_with (first | refine wpList_load_row 78 _ _ (by rfl) (.tmp 14) rfl (by rfl) HR.out Try.underlying78 rfl (by kernel_rfl) ?_ | (refine wpList_load_row 78 _ _ (by rfl) (.tmp 7) rfl (by rfl) RX.out Try.underlying78 rfl (by kernel_rfl) ?_))
      generalize wr.alloc (.cells #[.int .i64 x.h.age, .int .i64 x.h.kind, .int .i64 x.h.id, .int .i64 x.h.adv, .int .i64 x.h.seq, .int .i64 x.h.sum, .int .i64 x.h.long, .slice A1 n1 c1, .slice A2 n2 c2] 78) = wx at *
      generalize wr.heap.size = X at *
      have hzx := BX.out.size
      refine (put_db DX.out.1 DX.out.sort hzx x.h x.L x.M A1 A2 n1 c1 n2 c2 B LX.out MX.out (by omega) (by omega) (by omega)).mono ?_
      rintro e3 w3 ⟨rfl, F3, hd3, hc3, hf3⟩
      have hB3 : Below w.heap.size wx w3 := hc3.to_below (fun q hq => (DX.out.1.foot hq).1) hzx
      have B3 := Lib.hid (BX.out.trans hB3)
      have hz3 := B3.out.size
      have R3 := Lib.hid (show RefDb w3 lo2 lo2 40 S F' from DX.out.2.1.chg hc3 (fun q h1 h2 => DX.out.2.2 q h2 h1))
      have P3 := Lib.hid hd3
      have J3 := Lib.hid (show ∀ q, F3 q → ¬ F' q from fun q h1 h2 => by
        rcases hf3 q h1 with h | h
        · exact DX.out.2.2 q h h2
        · have := (DX.out.2.1.foot h2).2
          omega)
      have K3 := Lib.hid (KX.out.chg hc3 (fun h => NX.out.1 X h rfl))
      have RX3 := Lib.hid (blk_range7 K3.out)
      have L3 := Lib.hid (LX.out.below (hB3.mono hB))
      have M3 := Lib.hid (MX.out.below (hB3.mono hB))
      clear hd3 hc3 hf3 hB3 DX KX LX MX RX BX NX HR
      go_wp2_with (refine wpList_load_row 78 _ _ (by rfl) (.tmp 7) rfl (by rfl) RX3.out Try.underlying78 rfl (by kernel_rfl) ?_)
      refine (r7Put_db R3.out (by have := (R3.out.foot (q := lo2) (by obtain ⟨_, _, _, _, -, -, -, -, -, -, -, -, hF⟩ := R3.out; exact (hF lo2).2 (.inl rfl))).2; omega) x.h x.L x.M A1 A2 n1 c1 n2 c2 B L3.out M3.out (by omega) (by omega) (by omega)).mono ?_
      rintro e4 w4 ⟨rfl, F4, hd4, hc4, hf4⟩
      have hB4 : Below w.heap.size w3 w4 := hc4.to_below (fun q hq => Nat.le_trans hlo2 (R3.out.foot hq).1) hz3
      have B4 := Lib.hid (B3.out.trans hB4)
      have D4 := Lib.hid (show Pair w4 w.heap.size lo2 p lo2 (putS 40 S ⟨x.h, x.L, x.M⟩) F3 F4 from ⟨P3.out.chg hc4 (fun q h1 h2 => J3.out q h1 h2), hd4, fun q h1 h2 => by
        rcases hf4 q h2 with h | h
        · exact J3.out q h1 h
        · have := (P3.out.foot h1).2
          omega⟩)
      clear hd4 hc4 hf4 hB4 R3 P3 J3 K3 RX3 L3 M3 B3 HL HM
      go_wp2
      go_roundw
      case rel => exact ⟨k + 1, _, F3, F4, by go_num, by omega, D4, B4⟩
      case measure => simp [intOf]; omega
    · have hlt' : ¬ (k : Int) < (n : Int) := by omega
      go_wp2
      show Q (.returned (.tuple #[.pointer (some ⟨p, 0, none⟩), .pointer (some ⟨lo2, 0, none⟩)])) wr
      rw [← HQ.out]
      exact ⟨lo2, p, lo2, S, F, F', rfl, BW.out, hlo2, DW.out⟩
end Go.Proofs.Ytfdfdmbnggpnbaa
namespace Go.Proofs.Ytfdfdmbnggpnbaa
open Go.RowKit Go.Lib Go.Sort Go.Deep

set_option maxRecDepth 8000 in
set_option maxHeartbeats 4000000 in
theorem keys13_yes {w : World} {base base' : Nat} {A A' : Option Addr} {n c n' c' : Nat} {K : List Ky} (hK : w.ownsRow base 86 3 (.slice A n c) n (kyCells K)) (hK' : w.ownsRow base' 86 3 (.slice A' n' c') n' (kyCells K)) :
    Calls Try.prog 20 #[.slice A n c, .slice A' n' c'] w fun e w' => e = .returned (.bool true) ∧ ∃ d, w' = w.drewN d := by
  have HR := Lib.hid hK
  have HR' := Lib.hid hK'
  obtain rfl : n = n' := (own_lenK hK).symm.trans (own_lenK hK')
  have HL := Lib.hid (own_lenK hK)
  clear hK hK'
  have hnn : ((n : Int) != n) = false := by simp
  go_enter Try.func20, Try.ntmps20
  go_wp2
  go_loopw [5] (fun i wr => ∃ k d : Nat, k ≤ n ∧ i = .int .i64 k ∧ Hid (wr = w.drewN d)) (fun i _ => n - (intOf i).toNat)
  case atStart => exact ⟨0, 0, Nat.zero_le _, rfl, Lib.hid rfl⟩
  case round =>
    obtain ⟨k, d, hk, rfl, HW⟩ := hrel
    by_cases hlt : k < n
    · obtain ⟨x, hx⟩ : ∃ x, K[k]? = some x := ⟨_, List.getElem?_eq_getElem (by have := HL.out; omega)⟩
      have O1 : wr.ownsRow base 86 3 (.slice A n c) n (kyCells K) := by rw [HW.out]; exact HR.out
      have O2 : wr.ownsRow base' 86 3 (.slice A' n c') n (kyCells K) := by rw [HW.out]; exact HR'.out
      obtain ⟨b, rfl, -, hbl, hc1, hc2, x0, x1, x2⟩ := own_kyH O1 hx
      obtain ⟨b', rfl, -, hbl', hc1', hc2', y0, y1, y2⟩ := own_kyH O2 hx
      unfold maxLen at hc2 hc2'
      have hlt' : (k : Int) < n := by omega
      have eK := fun W => equalKy x x W
      rw [show sameKy x x = true from (sameKy_iff _ _).2 rfl] at eK
      clear hx O1 O2
      go_wp2_with fail
      go_quiet (fail)
      have HW2 := Lib.hid (show wr.drewN nq = w.drewN (d + nq) by rw [HW.out, World.drewN_drewN])
      clear x0 x1 x2 y0 y1 y2 eK HW
      go_wp2
      go_roundw
      case rel => exact ⟨k + 1, _, by omega, by go_num, HW2⟩
      case measure => simp [intOf]; omega
    · go_wp2
      go_ret
      exact ⟨rfl, _, HW.out⟩
/-- What All answers, read. -/
theorem all_las {w : World} {lo p : Nat} {room : Int} {S : List La} {F : Nat → Prop} (h : PDb w lo p room S F) (hs : SortL S) : Calls Try.prog 23 #[.pointer (some ⟨p, 0, none⟩)] w
    fun e w' => ∃ (A : Option Addr) (n c : Nat), e = .returned (.slice A n c) ∧ Below w.heap.size w w' ∧ Las w' w'.heap.size A n S ∧ n ≤ 40 := by
  have h0 := h
  obtain ⟨b, R, T, hB, h1, h2, hM, hA, hp, h3, h4, h5, hF⟩ := h
  refine (all_db h0 hs).mono ?_
  rintro e w' ⟨A, n, c, R', rfl, hb, ho, ha⟩
  have hL := las_of_own ho ha (fun x hx => right_short (h5 x hx))
  exact ⟨A, n, c, rfl, hb, hL, by have := hL.1; omega⟩
set_option maxRecDepth 20000 in
set_option maxHeartbeats 16000000 in
theorem gone_walk {w : World} {A : Option Addr} {n c : Nat} {T : List La} (hT : Las w w.heap.size A n T) (hn : n ≤ maxLen) : Calls Try.prog 4 #[.slice A n c] w fun e w' => e = .returned (.bool true) ∧ Below w.heap.size w w' := by
  have HT := Lib.hid hT
  have HN := Lib.hid hn
  clear hT hn
  go_enter Try.func4, Try.ntmps4
  go_wp2_with fail
  refine (wakes_any _).mono ?_
  rintro e1 w1 ⟨rfl, hb1⟩
  have B1 := Lib.hid hb1
  clear hb1
  go_wp2_with fail
  refine (many_any A n c T w.heap.size w1 (HT.out.below B1.out) B1.out.size HN.out).mono ?_
  rintro e2 w2 ⟨⟨t, rfl, ht⟩, hb2⟩
  have B2 := Lib.hid (B1.out.trans (hb2.mono B1.out.size))
  clear hb2 B1
  cases t
  case true =>
    go_wp2
    go_ret
    exact ⟨rfl, B2.out⟩
  obtain ⟨hn60, h20⟩ := ht rfl
  have H20 := Lib.hid h20
  clear ht HN h20
  go_wp2_with fail
  refine (both13_any (HT.out.below B2.out) B2.out.size (by omega) H20.out).mono ?_
  rintro e3 w3 ⟨lo2, p, g, S, F, F', rfl, hb3, hlo2, hD⟩
  have B3 := Lib.hid (B2.out.trans (hb3.mono B2.out.size))
  have HS := Lib.hid hD.sort
  have PD := Lib.hid hD.1
  obtain ⟨Ax, nx, cx, hbx, hLx, hnx⟩ := hD.2.1.list
  have HSL := Lib.hid hLx.1
  have T3 := Lib.hid (HT.out.below B3.out)
  have hzw := B3.out.size
  clear hb3 hD hLx B2 H20 hlo2
  generalize w2.heap.size = lo at *
  have hTl := HT.out.1
  have hgT := gone_len T
  have x0 : w3.cell? ⟨g, 0, none⟩ = some (.slice Ax nx cx) := hbx.cell 0
  have hgl := hbx.lt
  clear hbx
  go_wp2_with fail
  have BR : Below w3.heap.size w3 w3.drew := ⟨rfl, rfl, rfl, Nat.le_refl _, fun _ _ => rfl⟩
  go_region_held3 (fun w' => Below w3.heap.size w3 w' ∧ (∀ b o, b < w3.heap.size → w'.cell? ⟨b, o, none⟩ = w3.cell? ⟨b, o, none⟩)) ((refine keepW ?_; first | with_reducible exact BR11 | with_reducible exact BR10 | with_reducible exact BR9 | with_reducible exact BR8 | with_reducible exact BR7 | with_reducible exact BR6 | with_reducible exact BR5 | with_reducible exact BR)) (first
    | (go_at_call 22; refine (rgone_any (T3.out.below (BR5.mono hzw)) (Nat.le_trans hzw BR5.size) (by omega)).mono ?_; rintro e6 w6 ⟨A6, m6, c6, rfl, hb6, hO6⟩; have BR6 := BR5.trans (hb6.mono BR5.size); have O56 := own_chg hO5 (Chg.of_below (F := fun _ => False) hb6) (fun _ _ hf => hf))
    | (go_at_call 20; refine (keys13_yes O56 hO6).mono ?_; rintro e7 w7 ⟨rfl, q7, rfl⟩; have BR7 := BR6.trans (⟨rfl, rfl, rfl, Nat.le_refl _, fun _ _ => rfl⟩ : Below w3.heap.size w6 (w6.drewN q7)); have D7 : PDb (w6.drewN q7) lo p 40 S F := PD.out.chg (F' := fun _ => False) (Chg.of_below BR7) (fun _ _ hf => hf))
    | (go_at_call 14; refine (heads_any hL10 (Nat.le_refl _) (by omega)).mono ?_; rintro e11 w11 ⟨A11, m11, c11, K11, rfl, hb11, hO11, -, hst⟩; have BR11 := BR10.trans (hb11.mono BR10.size); have hsum : m9 + m11 = nx := (by have h1 := own_lenK hO9; have h2 := own_lenH encHd_len (by omega) hO11; have h3 := hst.1; have h4 := gone_told HS.out; have h5 := HSL.out; omega); have e_s : (m9 : Int) + (m11 : Int) = (nx : Int) := (by omega); have w_s : IntKind.i64.wrap (nx : Int) = (nx : Int) := (by rw [IntKind.wrap_i64]; omega))
    | (go_at_call 21; refine (goneS_any hL8 (Nat.le_refl _) (by omega)).mono ?_; rintro e9 w9 ⟨A9, m9, c9, rfl, hb9, hO9⟩; have BR9 := BR8.trans (hb9.mono BR8.size); have D9 : PDb w9 lo p 40 S F := D8.chg (F' := fun _ => False) (Chg.of_below hb9) (fun _ _ hf => hf))
    | (go_at_call 21; refine (goneS_any (T3.out.below (BR.mono hzw)) (Nat.le_trans hzw BR.size) (by omega)).mono ?_; rintro e5 w5 ⟨A5, m5, c5, rfl, hb5, hO5⟩; have BR5 := BR.trans (show Below w3.heap.size w3.drew w5 from hb5))
    | (go_at_call 23; refine (all_las D9 HS.out).mono ?_; rintro e10 w10 ⟨A10, m10, c10, rfl, hb10, hL10, hm10⟩; have BR10 := BR9.trans (hb10.mono BR9.size))
    | (go_at_call 23; refine (all_las D7 HS.out).mono ?_; rintro e8 w8 ⟨A8, m8, c8, rfl, hb8, hL8, hm8⟩; have BR8 := BR7.trans (hb8.mono BR7.size); have D8 : PDb w8 lo p 40 S F := D7.chg (F' := fun _ => False) (Chg.of_below hb8) (fun _ _ hf => hf)))
  all_goals (go_wp2; go_ret; exact ⟨rfl, B3.out.trans (BR11.mono hzw)⟩)
end Go.Proofs.Ytfdfdmbnggpnbaa
