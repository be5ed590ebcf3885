/- The program's All of what is wanted. Conditions: at most 100000 heads. -/
import Derived.Test.YtnnkcgbnhjkahaaAz
import Derived.Test.YtnnkcgbnhjkahaaAg
import Derived.Test.YtnnkcgbnhjkahaaAc
import Derived.Test.YtnnkcgbnhjkahaaJar
import Derived.Test.YtnnkcgbnhjkahaaJao
namespace Go.Proofs.Ytnnkcgbnhjkahaa
open Go.RowKit Go.Lib Go.Sort Go.Deep
open Go.Maps (Keyed)

/-- Heads collected so far. -/
def CollH (R : List Hd) (left : Lit → Bool) (out : List Hd) : Prop :=
  (∀ h ∈ out, h ∈ R) ∧ out.Pairwise (fun a b => keyH a ≠ keyH b) ∧ ∀ r ∈ R, (r ∈ out ↔ left (kyLit (keyH r)) = false)
theorem hm_of {w : World} {b : Nat} {R : List Hd} (h : HmIs w b R) {l : List (Lit × DataW Value)} (hp : l.Perm (R.map hdE)) {k : Ky} (hk : wfKy k) {c : Value} (hat : ∀ zd, (DataW.map l).atKey (kyLit k) zd = .held c) : ∃ r ∈ R, keyH r = k ∧ c = hdVal r := by
  cases hg : getH R k with
  | none =>
    have h1 := ((hm_at h.1 h.nodup hp hk).1 .nil hg).1
    rw [hat] at h1
    cases h1
  | some r =>
    obtain ⟨hr, e⟩ := getH_some hg
    have h1 := ((hm_at h.1 h.nodup hp hk).2 r .nil hg).1
    rw [hat] at h1
    injection h1 with h1
    exact ⟨r, hr, e, h1⟩
theorem CollH.start {w : World} {b : Nat} {R : List Hd} (h : HmIs w b R) {l : List (Lit × DataW Value)} (hp : l.Perm (R.map hdE)) : CollH R (Maps.has (DataW.map l)) [] := by
  refine ⟨fun h hh => (by cases hh), List.Pairwise.nil, fun r hr => ⟨fun hh => (by cases hh), fun hf => ?_⟩⟩
  have h1 := ((hm_at h.1 h.nodup hp (h.1 r hr)).2 r .nil (getH_mem h.nodup hr)).2
  rw [h1] at hf
  cases hf
theorem CollH.step {w : World} {b : Nat} {R : List Hd} (h : HmIs w b R) {left : Lit → Bool} {out : List Hd} (hc : CollH R left out) {r : Hd} (hr : r ∈ R) (hl : left (kyLit (keyH r)) = true) : CollH R (fun z => left z && !z.sameKey (kyLit (keyH r))) (out ++ [r]) := by
  obtain ⟨h1, h2, h3⟩ := hc
  have hn : r ∉ out := fun hm => by
    have := (h3 r hr).1 hm
    rw [hl] at this
    cases this
  refine ⟨fun x hx => ?_, ?_, fun x hx => ?_⟩
  · rcases List.mem_append.1 hx with hx | hx
    · exact h1 x hx
    · rw [List.mem_singleton.1 hx]
      exact hr
  · rw [List.pairwise_append]
    refine ⟨h2, List.pairwise_singleton _ _, fun a ha y hy e => ?_⟩
    rw [List.mem_singleton.1 hy] at e
    have := pw_keyH h.nodup a (h1 a ha) r hr e
    exact hn (this ▸ ha)
  · rw [List.mem_append, List.mem_singleton]
    show x ∈ out ∨ x = r ↔ (left (kyLit (keyH x)) && !(kyLit (keyH x)).sameKey (kyLit (keyH r))) = false
    rw [sameKey_ky (h.1 x hx) (h.1 r hr)]
    constructor
    · rintro (hx' | rfl)
      · rw [(h3 x hx).1 hx']
        rfl
      · rw [(sameKy_iff _ _).2 rfl, hl]
        rfl
    · intro e
      cases hs : sameKy (keyH x) (keyH r)
      · rw [hs] at e
        simp at e
        exact .inl ((h3 x hx).2 e)
      · exact .inr (pw_keyH h.nodup x hx r hr ((sameKy_iff _ _).1 hs))
theorem CollH.done {R S K : List Hd} {left : Lit → Bool} {out : List Hd} (hc : CollH R left out) (hl : ∀ kl, left kl = false) (hP : R.Perm S) (hs : SortH S) (hk : SortH K) (hp : K.Perm out) : K = S :=
  sortH_ext hk hs fun x => by
    rw [hp.mem_iff, ← hP.mem_iff]
    exact ⟨fun h => hc.1 x h, fun h => (hc.2.2 x h).2 (hl _)⟩
theorem ranges_chg {w w' : World} {b r n cnt : Nat} {D : DataW Value} {left : Lit → Bool} {F : Nat → Prop} (h : w.ranges Try.prog 47 asIs b r n D left cnt) (hc : Chg F w w') (hb' : ¬ F b) (hr' : ¬ F r) : w'.ranges Try.prog 47 asIs b r n D left cnt := by
  have h1 := h.owns.lt
  have h2 := h.lt
  obtain ⟨es, clock, since, seen, c0, hb, F', hs, hD, hr, rest⟩ := h
  exact ⟨es, clock, since, seen, c0, (hc.block b h1 hb').trans hb, F', hs, hD, (hc.block r h2 hr').trans hr, rest⟩
theorem wpList_app_hd3 {wb : World} {ops : Array Oper} {rest : List Oper} {o : Oper} {a : Act} {Q : Exit → Act → World → Prop} (hgd : o.guard = none) (s x : Operand) (ho : o.op = .call { callee := .builtin .append, args := #[s, x], argTypes := #[27, 27] })
    {base n c : Nat} {A : Option Addr} {L : List Hd} (y : Hd) {g : Nat} (hgz : wb.heap.size = g) (hs : a.eval s = .slice A n c) (hx : a.eval x = .slice (some ⟨g, 0, none⟩) 1 1) (hown : wb.ownsRow base 38 7 (.slice A n c) n (cellsBy encHd L)) (hn : n ≤ 100000) (hbase : base ≤ wb.heap.size)
    (h : ∀ A' c' w', Hid (w'.ownsRow base 38 7 (.slice A' (n + 1) c') (n + 1) (cellsBy encHd (L ++ [y]))) → Hid (Chg (fun q => (Value.slice A n c).ownBlock = some q) wb w') → wpList Try.prog ops Q rest (a.put o.dst (.slice A' (n + 1) c')) w') : wpList Try.prog ops Q (o :: rest) a (wb.alloc (.cells #[.int .i64 y.age, .int .i64 y.kind, .int .i64 y.id, .int .i64 y.adv, .int .i64 y.seq, .int .i64 y.sum, .int .i64 y.long] 38)) := by
  subst hgz
  refine wpList_append_any hgd s x 27 38 (.agg #[.int .i64 0, .int .i64 0, .int .i64 0, .int .i64 0, .int .i64 0, .int .i64 0, .int .i64 0]) 7 56 Try.underlying27 infoHd rfl (by decide) (by decide) ho base (.slice A n c) n (cellsBy encHd L) hs (hown.alloc _) (some ⟨wb.heap.size, 0, none⟩) 1 1 (encHd y) hx rfl (fun h => by cases h) (news_new wb 38 (encHd y)) (encHd_ones y) (by omega) (by simp; omega) ?_
  intro v2 w2 ho2 hg2
  obtain ⟨A2, c2, rfl⟩ := own_slice ho2.out
  refine h A2 c2 w2 (Lib.hid (by rw [by_append, by_one]; exact ho2.out)) (Lib.hid ?_)
  exact (Chg.of_below (F := fun q => (Value.slice A n c).ownBlock = some q) ((Below.refl wb.heap.size wb).alloc (Nat.le_refl _) (.cells #[.int .i64 y.age, .int .i64 y.kind, .int .i64 y.id, .int .i64 y.adv, .int .i64 y.seq, .int .i64 y.sum, .int .i64 y.long] 38))).trans (Chg.of_grown hg2.out (fun q hq => hq)) (fun q hq => .inl hq)
/-- What All answers. -/
def AllW (S : List Hd) (w : World) (e : Ending) (w' : World) : Prop := ∃ (A : Option Addr) (n c : Nat), e = .returned (.slice A n c) ∧ Below w.heap.size w w' ∧ w'.ownsRow w.heap.size 38 7 (.slice A n c) n (cellsBy encHd S)
set_option maxHeartbeats 2000000 in
theorem all_wnil (w : World) : Calls Try.prog 21 #[.pointer none] w fun e w' => e = .returned (.slice none 0 0) ∧ w = w' := by
  go_enter Try.func21, Try.ntmps21
  go_wp2
  go_ret
  exact ⟨rfl, rfl⟩
set_option maxRecDepth 20000 in
set_option maxHeartbeats 8000000 in
theorem all_w {w : World} {p b : Nat} {S : List Hd} (h : PwIs w p b S) (hl : S.length ≤ 100000) : Calls Try.prog 21 #[.pointer (some ⟨p, 0, none⟩)] w (AllW S w) := by
  obtain ⟨hB, ⟨R, hM, hP⟩, hs⟩ := h
  generalize hQ : AllW S w = Q
  have HQ := Lib.hid hQ
  have HRL := Lib.hid (show R.length ≤ 100000 by rw [hP.length_eq]; exact hl)
  have HBLT := Lib.hid hM.lt
  have HMM := Lib.hid hM
  have HDN := Lib.hid (fun (K out : List Hd) (left : Lit → Bool) (hc : CollH R left out) (h0 : ∀ kl, left kl = false) (hk : SortH K) (hp : K.Perm out) => CollH.done hc h0 hP hs hk hp)
  obtain ⟨hw, l, ho, hpm⟩ := hM
  have HPM := Lib.hid hpm
  have HO := Lib.hid ho
  have c0 := hB.cell 0
  simp at c0
  clear hQ hw hpm ho hB hP hs hl
  go_enter Try.func21, Try.ntmps21
  go_wp2_with (first
    | (at_range; refine wpList_range_own _ rfl _ 77 rfl 47 38 keyed7 Try.underlying77 asIs b R.length _ rfl HO.out ?_; intro w0 hrg0 hg0 hs0)
    | go_in)
  go_frame
  have HG0 := Lib.hid hg0
  have HS0 := Lib.hid hs0
  clear hg0 hs0
  go_loopw [3] (fun s3 wr => ∃ (A : Option Addr) (n c : Nat) (out : List Hd) (left : Lit → Bool) (cnt : Nat), s3 = .slice A n c ∧ Hid (wr.ranges Try.prog 47 asIs b w.heap.size R.length (.map l) left cnt) ∧ Hid (wr.ownsRow (w.heap.size + 1) 38 7 (.slice A n c) n (cellsBy encHd out)) ∧ Hid (Below w.heap.size w wr) ∧ Hid (CollH R left out) ∧ Hid (out.length + cnt ≤ R.length) ∧ Hid (w.heap.size + 1 ≤ wr.heap.size))
    (fun _ wr => wr.rangeLeft b w.heap.size)
  case atStart =>
    have hsz : Maps.size (DataW.map l) = R.length := by
      rw [Maps.size_eq, HPM.out.length_eq, List.length_map]
    refine ⟨none, 0, 0, [], _, _, rfl, Lib.hid hrg0, Lib.hid (World.ownsRow_nil _ _ _ _), Lib.hid ?_, Lib.hid (CollH.start HMM.out HPM.out), Lib.hid (by rw [hsz]; simp), Lib.hid (by have := HS0.out; omega)⟩
    exact ⟨HG0.out.os, HG0.out.tape, HG0.out.output, HG0.out.size, fun k hk => HG0.out.block k hk (by simp)⟩
  case round =>
    obtain ⟨A, n, c, out, left, cnt, rfl, HRG, HOW, HBW, HC, HN, HZ⟩ := hrel
    go_wp2_with (first
      | (at_next; refine wpList_next_ranges _ rfl _ rfl 47 keyed7 asIs (fun k : Ky => .agg #[.int .i64 k.kind, .int .i64 k.id, .int .i64 k.adv]) (fun v : Value => v) (fun key kl hk => by obtain ⟨k, _, e, _⟩ := keyOf_ky_inv hk; exact ⟨k, e⟩) (fun v y _ => ⟨v, rfl⟩) b w.heap.size R.length _ _ _ rfl HRG.out ?_ ?_)
      | go_in)
    · intro _ hl0
      have HL0 := Lib.hid hl0
      clear hl0
      have hnk := own_lenH encHd_len (by omega) HOW.out
      have HN1 := Lib.hid (show n ≤ 100000 by have := HRL.out; have := HN.out; omega)
      clear hnk
      go_wp2_with fail
      refine (sort_wanted HOW.out HN1.out HC.out.2.1).mono ?_
      rintro e ws ⟨rfl, ⟨K, hks, hkp, hos⟩, hgs⟩
      have e1 := HDN.out K out left HC.out HL0.out hks hkp
      rw [e1] at hos
      have HOS := Lib.hid (own_low hos (Nat.le_succ _))
      have HBS := Lib.hid (HBW.out.grown hgs HBW.out.size (fun j hj => by have := (HOW.out.lt j hj).1; omega))
      clear hos hgs e1 hks hkp
      go_wp2
      show Q (.returned (.slice A n c)) ws
      rw [← HQ.out]
      exact ⟨A, n, c, rfl, HBS.out, HOS.out⟩
    · intro x cv kl yd yp w1 cnt1 hkey hlk hv hat hrg1 hlt hg1 hs1 hen
      obtain ⟨x', wx, ex, rfl⟩ := keyOf_ky_inv hkey
      obtain rfl : x = x' := by
        obtain ⟨a1, a2, a3⟩ := x
        obtain ⟨b1, b2, b3⟩ := x'
        simp at ex
        simp [ex]
      unfold asIs at hv
      injection hv with hv
      injection hv with hv hv2
      obtain ⟨r, hr, rfl, rfl⟩ := hm_of HMM.out HPM.out wx (c := cv) (fun zd => by rw [hat zd, ← hv])
      have HC2 := Lib.hid (CollH.step HMM.out HC.out hr hlk)
      have hnk := own_lenH encHd_len (by omega) HOW.out
      have HN1 := Lib.hid (show n ≤ 100000 ∧ out.length + 1 + cnt1 ≤ R.length ∧ out.length = n by have := HRL.out; have := HN.out; omega)
      have HR1 := Lib.hid hrg1
      have HO1 := Lib.hid (HOW.out.kept hg1 (.inr (own_not HOW.out (.inl (Nat.lt_succ_self _)))))
      have HB1 := Lib.hid (HBW.out.grown hg1 HBW.out.size (fun j hj => by cases hj; exact Nat.le_refl _))
      have HZ1 := Lib.hid (show w.heap.size + 1 ≤ w1.heap.size by rw [hs1]; exact HZ.out)
      have HLT := Lib.hid hlt
      clear hkey hlk hv hv2 hat hrg1 hlt hg1 hs1 hnk ex wx hr
      unfold hdVal at hen ⊢
      have HR2 := Lib.hid (HR1.out.alloc (.cells #[.int .i64 r.age, .int .i64 r.kind, .int .i64 r.id, .int .i64 r.adv, .int .i64 r.seq, .int .i64 r.sum, .int .i64 r.long] 38))
      have HO2 := Lib.hid (HO1.out.alloc (.cells #[.int .i64 r.age, .int .i64 r.kind, .int .i64 r.id, .int .i64 r.adv, .int .i64 r.seq, .int .i64 r.sum, .int .i64 r.long] 38))
      have HB2 := Lib.hid (HB1.out.alloc HB1.out.size (.cells #[.int .i64 r.age, .int .i64 r.kind, .int .i64 r.id, .int .i64 r.adv, .int .i64 r.seq, .int .i64 r.sum, .int .i64 r.long] 38))
      have HZ2 := Lib.hid (show w.heap.size + 1 ≤ (w1.alloc (.cells #[.int .i64 r.age, .int .i64 r.kind, .int .i64 r.id, .int .i64 r.adv, .int .i64 r.seq, .int .i64 r.sum, .int .i64 r.long] 38)).heap.size by have := HZ1.out; simp; omega)
      have RX := Lib.hid (blk_range7 (Blk.new w1 38 #[.int .i64 r.age, .int .i64 r.kind, .int .i64 r.id, .int .i64 r.adv, .int .i64 r.seq, .int .i64 r.sum, .int .i64 r.long]))
      go_wp2_with (first
        | (refine wpList_load_row 38 _ _ (by rfl) (.tmp 5) rfl (by rfl) RX.out Try.underlying38 rfl (by kernel_rfl) ?_)
        | (at_builtin; refine wpList_app_hd3 rfl (.tmp 17) (.tmp 19) rfl r (g := w1.heap.size + 1) (by simp) (by rfl) (by rfl) HO2.out (by have := HN1.out; omega) HZ2.out ?_; intro A5 c5 w5 HO5 HC5)
        | go_in)
      have ne1 : ¬ (Value.slice A n c).ownBlock = some b := own_not HO1.out (.inl (by have := HBLT.out; omega))
      have ne2 : ¬ (Value.slice A n c).ownBlock = some w.heap.size := own_not HO1.out (.inl (Nat.lt_succ_self _))
      have HR3 := Lib.hid (ranges_chg HR2.out HC5.out ne1 ne2)
      have HB3 := Lib.hid (HB2.out.trans (HC5.out.to_below (fun q hq => by have := (HO1.out.lt q hq).1; omega) HB2.out.size))
      have HZ3 := Lib.hid (Nat.le_trans HZ2.out HC5.out.size)
      clear ne1 ne2 HC5 HO2 HR2 HB2 HZ2
      refine ⟨⟨A5, n + 1, c5, out ++ [r], _, cnt1, rfl, HR3, HO5, HB3, HC2, Lib.hid (by have := HN1.out; simp; omega), HZ3⟩, ?_⟩
      rw [HR3.out.left_eq, HRG.out.left_eq]
      exact HLT.out
end Go.Proofs.Ytnnkcgbnhjkahaa
