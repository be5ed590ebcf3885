/- The program's Drop. Conditions: what the words say. -/
import Derived.Test.YtaghophkfogdgaaTf
import Derived.Maps.RangeWalk
namespace Go.Proofs.Ytaghophkfogdgaa
open Go.RowKit
open Go.Maps (Keyed)
open Go.ChangeMaps (notKey putKey delKey)

/-- What a range over a map has in hand. -/
theorem at_mem {R : List En} {l : List (Lit × DataW Value)} {x : Tm} {cv : Value} {y : DataW Value × List MemPlace} (hw : ∀ r ∈ R, wfTm r.t) (hn : R.Pairwise fun r s => r.t ≠ s.t) (hp : l.Perm (R.map rcE)) (hx : wfTm x) (hv : asIs cv = some y) (hat : ∀ zd, (DataW.map l).atKey (tmLit x) zd = y.1) :
    ∃ r ∈ R, r.t = x ∧ cv = .int .i64 r.tick := by
  have hh : Maps.has (DataW.map l) (tmLit x) = true := Maps.has_true_of_atKey hat
  cases hg : getR R x with
  | none =>
    have := ((map_at hw hn hp hx).1 .nil hg).2
    rw [hh] at this
    cases this
  | some r =>
    obtain ⟨h1, h2⟩ := getR_some hg
    have h3 := ((map_at hw hn hp hx).2 r (.held undef) hg).1
    rw [hat] at h3
    refine ⟨r, h1, h2, ?_⟩
    unfold asIs at hv
    injection hv with hv
    rw [← hv] at h3
    injection h3
theorem strike2 (left : Lit → Bool) (kl : Lit) : (fun z : Lit => (left z && !z.sameKey kl) && !z.sameKey kl) = fun z => left z && !z.sameKey kl := Maps.strike_twice left kl
/-- Those not of a network. -/
def dropR (R : List En) (lan : Int) : List En := R.filter fun e => !decide (e.t.lan = lan)
/-- .. as far as the range has come. -/
def keepR (R : List En) (lan : Int) (left : Lit → Bool) : List En := R.filter fun e => !decide (e.t.lan = lan) || left (tmLit e.t)
theorem keepR_start {R : List En} {lan : Int} {l : List (Lit × DataW Value)} (hw : ∀ r ∈ R, wfTm r.t) (hn : R.Pairwise fun r s => r.t ≠ s.t) (hp : l.Perm (R.map rcE)) : keepR R lan (Maps.has (DataW.map l)) = R := by
  unfold keepR
  rw [List.filter_eq_self]
  intro e he
  cases hg : getR R e.t with
  | none => exact absurd rfl (getR_none hg e he)
  | some r =>
    rw [((map_at hw hn hp (hw e he)).2 r .nil hg).2]
    simp
theorem keepR_end {R : List En} {lan : Int} {left : Lit → Bool} (h : ∀ kl, left kl = false) : keepR R lan left = dropR R lan := by
  unfold keepR dropR
  refine List.filter_congr (fun e _ => ?_)
  rw [h]
  simp
theorem keepR_other {R : List En} {lan : Int} {left : Lit → Bool} {x : Tm} (hw : ∀ r ∈ R, wfTm r.t) (hx : wfTm x) (h : x.lan ≠ lan) : keepR R lan (fun z => left z && !z.sameKey (tmLit x)) = keepR R lan left := by
  unfold keepR
  refine List.filter_congr (fun e he => ?_)
  show (!decide (e.t.lan = lan) || (left (tmLit e.t) && !(tmLit e.t).sameKey (tmLit x))) = _
  rw [sameKey_tm (hw e he) hx]
  by_cases e1 : e.t = x
  · have : ¬ e.t.lan = lan := by rw [e1]; exact h
    simp [this]
  · simp [e1]
theorem keepR_gone {R : List En} {lan : Int} {left : Lit → Bool} {x : Tm} (hw : ∀ r ∈ R, wfTm r.t) (hx : wfTm x) (h : x.lan = lan) : keepR R lan (fun z => left z && !z.sameKey (tmLit x)) = restR (keepR R lan left) x := by
  unfold keepR restR
  rw [List.filter_filter]
  refine List.filter_congr (fun e he => ?_)
  show (!decide (e.t.lan = lan) || (left (tmLit e.t) && !(tmLit e.t).sameKey (tmLit x))) = _
  rw [sameKey_tm (hw e he) hx]
  by_cases e1 : e.t = x
  · simp [e1, h]
  · simp [e1]
theorem keepR_wf {R : List En} {lan : Int} {left : Lit → Bool} (hw : ∀ r ∈ R, wfTm r.t) : ∀ r ∈ keepR R lan left, wfTm r.t := fun r hr => hw r (List.mem_filter.1 hr).1
theorem keepR_nodup {R : List En} {lan : Int} {left : Lit → Bool} (hn : R.Pairwise fun r s => r.t ≠ s.t) : (keepR R lan left).Pairwise fun r s => r.t ≠ s.t := hn.filter _
theorem perm_del {R : List En} {l : List (Lit × DataW Value)} {x : Tm} (hw : ∀ r ∈ R, wfTm r.t) (hp : l.Perm (R.map rcE)) (hx : wfTm x) : (DataW.map l).del (tmLit x) = .map (delKey (tmLit x) l) ∧ (delKey (tmLit x) l).Perm ((restR R x).map rcE) := by
  refine ⟨DataW.del_eq _ _, ?_⟩
  rw [← filter_rcE hw hx]
  exact hp.filter _
theorem map_of_own {w : World} {b n : Nat} {R : List En} {l : List (Lit × DataW Value)} (ho : w.ownsMap Try.prog 33 asIs b n (.map l)) (hw : ∀ r ∈ R, wfTm r.t) (hp : l.Perm (R.map rcE)) : MapIs w b R := by
  have h := own_tight ho
  rw [hp.length_eq, List.length_map] at h
  exact ⟨hw, l, h, hp⟩
theorem dropR_len (R : List En) (lan : Int) : (dropR R lan).length ≤ R.length := List.length_filter_le _ _
/-- 'delete(m, t)' in a round of a range over m. -/
theorem wpList_delete_r8 {ops : Array Oper} {rest : List Oper} {o : Oper} {a : Act} {w : World} {Q : Exit → Act → World → Prop} {b r n cnt : Nat} {R : List En} {l : List (Lit × DataW Value)} {left : Lit → Bool} {t : Tm} (hg : o.guard = none) (hd : o.dst = none) (m x : Operand) (hop : o.op = Op.call { callee := Callee.builtin Builtin.delete, args := #[m, x], argTypes := #[54, 33] })
    (hm : a.eval m = .map (some b)) (hx : a.eval x = .agg #[.int .i64 t.kind, .int .i64 t.lan, .int .i64 t.id, .int .i64 t.kk, .int .i64 t.ki, .int .i64 t.ka]) (h : w.ranges Try.prog 33 asIs b r n (.map l) left cnt) (hw : ∀ e ∈ R, wfTm e.t) (hp : l.Perm (R.map rcE)) (ht : wfTm t)
    (hK : ∀ w' cnt' l', w'.ranges Try.prog 33 asIs b r n (.map l') (fun z => left z && !z.sameKey (tmLit t)) cnt' → l'.Perm ((restR R t).map rcE) → cnt' ≤ cnt → w.mapTurned w' b → wpList Try.prog ops Q rest a w') : wpList Try.prog ops Q (o :: rest) a w :=
  wpList_delete_ranges w hg m x 54 33 hop 3 keyed8 Try.underlying54 asIs b r n _ left cnt hm h _ (tmLit t) hx (keyOf_tm ht) (fun w' cnt' h1 h2 h3 => by rw [hd]; exact hK w' cnt' _ (by rw [(perm_del hw hp ht).1] at h1; exact h1) (perm_del hw hp ht).2 h2 h3)
set_option maxRecDepth 8000 in
set_option maxHeartbeats 8000000 in
theorem drop_wh {w : World} {p b : Nat} {R : List En} (z : Int) (hz : 0 ≤ z) (h : PWh w p b R) (hR : R.length ≤ 1000000) :
    Calls Try.prog 15 #[.pointer (some ⟨p, 0, none⟩), .int .i64 z] w fun e w' => e = .returned (.int .i64 ((R.length : Int) - (dropR R z).length)) ∧ PWh w' p b (dropR R z) ∧ Chg (fun q => q = b) w w' := by
  generalize hQ : (fun (e : Ending) (w' : World) => e = .returned (.int .i64 ((R.length : Int) - (dropR R z).length)) ∧ PWh w' p b (dropR R z) ∧ Chg (fun q => q = b) w w') = Q
  have HQ := Lib.hid hQ
  clear hQ
  have c0 := h.1.one
  have hpl := h.1.lt
  have HB := Lib.hid h.1
  have HNE := Lib.hid (h.2.ne_blk h.1)
  have HRL := Lib.hid hR
  have HM := Lib.hid h.2
  have HND := Lib.hid h.2.nodup
  have HBL := Lib.hid h.2.lt
  obtain ⟨hw, l, ho, hpm⟩ := h.2
  have HW := Lib.hid hw
  have HPM := Lib.hid hpm
  have HO := Lib.hid ho
  have hz0 : (decide (z < 0)) = false := by simp; omega
  clear h hw ho hpm hR
  go_enter Try.func15, Try.ntmps15
  go_wp2_with (first
    | (at_range; refine wpList_range_own _ rfl _ 54 rfl 33 3 keyed8 Try.underlying54 asIs b R.length _ rfl HO.out ?_; intro w0 hrg0 hg0 hs0)
    | (at_len; refine wpList_len8 rfl _ rfl rfl HM.out ?_)
    | go_in)
  go_frame
  have HG0 := Lib.hid hg0
  have HS0 := Lib.hid hs0
  clear hg0 hs0 c0
  go_loopw [23] (fun _ wr => ∃ (left : Lit → Bool) (cnt : Nat) (l' : List (Lit × DataW Value)), Hid (wr.ranges Try.prog 33 asIs b w.heap.size R.length (.map l') left cnt) ∧ Hid (l'.Perm ((keepR R z left).map rcE)) ∧ Hid (Chg (fun q => q = b) w wr))
    (fun _ wr => wr.rangeLeft b w.heap.size)
  case atStart =>
    refine ⟨_, _, l, Lib.hid hrg0, Lib.hid ?_, Lib.hid ?_⟩
    · rw [keepR_start HW.out HND.out HPM.out]
      exact HPM.out
    · exact Chg.of_grown HG0.out (fun q hq => by cases hq)
  case round =>
    obtain ⟨left, cnt, l', HRG, HPR, HC⟩ := hrel
    have BP := Lib.hid (HB.out.chg HC.out HNE.out)
    have hplr := BP.out.lt
    go_wp2_with (first
      | (at_next; refine wpList_next_ranges _ rfl _ rfl 33 keyed8 asIs (fun t : Tm => .agg #[.int .i64 t.kind, .int .i64 t.lan, .int .i64 t.id, .int .i64 t.kk, .int .i64 t.ki, .int .i64 t.ka]) (fun v : Value => v) (fun key kl hk => by obtain ⟨t, _, e, _⟩ := keyOf_tm_inv hk; exact ⟨t, e⟩) (fun v y _ => ⟨v, rfl⟩) b w.heap.size R.length _ _ _ rfl HRG.out ?_ ?_)
      | go_in)
    · intro _ hl0
      have HPE := Lib.hid (keepR_end (R := R) (lan := z) hl0)
      clear hl0
      have HMF := Lib.hid (map_of_own HRG.out.owns (keepR_wf HW.out) HPR.out)
      rw [HPE.out] at HMF
      have c0 := BP.out.one
      have hcl := dropR_len R z
      have hrl := HRL.out
      go_wp2_with (at_len; refine wpList_len8 rfl _ rfl rfl HMF.out ?_)
      show Q (.returned (.int .i64 ((R.length : Int) - (dropR R z).length))) wr
      rw [← HQ.out]
      exact ⟨rfl, ⟨BP.out, HMF.out⟩, HC.out⟩
    · intro x cv kl yd yp w1 cnt1 hkey hlk hv hat hrg1 hlt hg1 hs1 hen
      obtain ⟨x', wx, ex, rfl⟩ := keyOf_tm_inv hkey
      obtain rfl : x = x' := by
        injection ex with ex
        exact encTm_inj (by unfold encTm; simpa [encTm] using ex)
      have HWX := Lib.hid wx
      have HRG1 := Lib.hid hrg1
      have HLT := Lib.hid hlt
      have HC1 := Lib.hid (HC.out.trans (Chg.of_grown (F := fun q => q = w.heap.size) hg1 (fun q hq => by cases hq; rfl)) (fun q hq => .inr (Nat.le_of_eq hq.symm)))
      clear hkey hlk hv hat hrg1 hlt hg1 ex hs1
      have HRG2 := Lib.hid (HRG1.out.alloc (.cells #[.int .i64 x.kind, .int .i64 x.lan, .int .i64 x.id, .int .i64 x.kk, .int .i64 x.ki, .int .i64 x.ka] 33))
      have J2 := Lib.hid (Blk.new w1 33 #[.int .i64 x.kind, .int .i64 x.lan, .int .i64 x.id, .int .i64 x.kk, .int .i64 x.ki, .int .i64 x.ka])
      have HC2 := Lib.hid (HC1.out.below ((Below.refl w1.heap.size w1).alloc (Nat.le_refl _) (.cells #[.int .i64 x.kind, .int .i64 x.lan, .int .i64 x.id, .int .i64 x.kk, .int .i64 x.ki, .int .i64 x.ka] 33)))
      clear HRG1 HC1
      by_cases hx : x.lan = z
      · have d1 : (x.lan == z) = true := by simp [hx]
        have HXL := Lib.hid hx
        clear hx
        go_wp2_with fail
        clear hen
        generalize w1.alloc (.cells #[.int .i64 x.kind, .int .i64 x.lan, .int .i64 x.id, .int .i64 x.kk, .int .i64 x.ki, .int .i64 x.ka] 33) = w2 at *
        obtain ⟨k0, k1, k2, k3, k4, k5⟩ := J2.out.six
        have hgl := J2.out.lt
        have BP2 := Lib.hid (HB.out.chg HC2.out HNE.out)
        have hpl2 := BP2.out.lt
        have c0 := BP2.out.one
        go_wp2_with fail
        go_still_tail 5, (by kernel_rfl)
        change wpList _ _ _ _ _ w2.drew
        have HC2d := Lib.hid (HC2.out.below (show Below w2.heap.size w2 w2.drew from ⟨rfl, rfl, rfl, Nat.le_refl _, fun _ _ => rfl⟩))
        have HRG3 := Lib.hid (show w2.drew.ranges Try.prog 33 asIs b w.heap.size R.length (.map l') (fun z => left z && !z.sameKey (tmLit x)) cnt1 from HRG2.out)
        go_wp2_with (at_delete; refine wpList_delete_r8 (t := x) rfl rfl _ _ rfl rfl rfl HRG3.out (keepR_wf HW.out) HPR.out HWX.out ?_; intro w3 cnt3 l3 hrg3 hp3 hle3 hturn; have HRG4 := Lib.hid hrg3; have HP3 := Lib.hid hp3; have HLE3 := Lib.hid hle3; have HC3 := Lib.hid (HC2d.out.trans (chg_of_turned hturn) (fun q hq => .inl hq)); clear hrg3 hp3 hle3 hturn k0 k1 k2 k3 k4 k5 c0)
        go_roundw
        case rel =>
          refine ⟨_, cnt3, l3, HRG4, Lib.hid ?_, HC3⟩
          rw [strike2, keepR_gone HW.out HWX.out HXL.out]
          exact HP3.out
        case measure =>
          rw [HRG4.out.left_eq, HRG.out.left_eq]
          exact Nat.lt_of_le_of_lt HLE3.out HLT.out
      · have d1 : (x.lan == z) = false := by simp [hx]
        have HXL := Lib.hid hx
        clear hx
        go_wp2
        clear hen
        generalize w1.alloc (.cells #[.int .i64 x.kind, .int .i64 x.lan, .int .i64 x.id, .int .i64 x.kk, .int .i64 x.ki, .int .i64 x.ka] 33) = w2 at *
        obtain ⟨k0, k1, k2, k3, k4, k5⟩ := J2.out.six
        have hgl := J2.out.lt
        have BP2 := Lib.hid (HB.out.chg HC2.out HNE.out)
        have hpl2 := BP2.out.lt
        refine ⟨⟨_, cnt1, l', HRG2, Lib.hid ?_, HC2⟩, ?_⟩
        · rw [keepR_other HW.out HWX.out HXL.out]
          exact HPR.out
        · rw [HRG2.out.left_eq, HRG.out.left_eq]
          exact HLT.out
end Go.Proofs.Ytaghophkfogdgaa
