/- The program's On, Len, Forget, Ack. Conditions: numbers of 64 bits. -/
import Derived.Test.YtndjoanlbaiaeaaKd
namespace Go.Proofs.Ytndjoanlbaiaeaa
open Go.RowKit Go.Lib Go.Deep Go.Sort
open Go.Maps (Keyed)

theorem MKind.holds.perm {P : Program} {κ : Type} [DecidableEq κ] {M : MKind P κ} {w : World} {b : Nat} {E E' : List (κ × Value)} (h : M.holds w b E) (hp : E.Perm E') : M.holds w b E' := by
  obtain ⟨hw, l, ho, hl⟩ := h
  refine ⟨fun x hx => hw x (hp.mem_iff.2 hx), l, ?_, hl.trans (hp.map _)⟩
  rw [← hp.length_eq]
  exact ho
theorem perm_rest {R : List Nb} {n : Int × Int} {r : Nb} (h1 : R.Pairwise fun r s => r.n ≠ s.n) (hg : getN R n = some r) : R.Perm (r :: restN R n) := by
  obtain ⟨hr, rfl⟩ := getN_some hg
  clear hg
  induction R with
  | nil => cases hr
  | cons x R ih =>
    obtain ⟨h2, h3⟩ := List.pairwise_cons.1 h1
    unfold restN
    rcases List.mem_cons.1 hr with rfl | hr'
    · rw [List.filter_cons_of_neg (by simp), List.filter_eq_self.2 fun s hs => by
        have := h2 s hs
        simp [Ne.symm this]]
    · have hne := h2 r hr'
      rw [List.filter_cons_of_pos (by simp [hne])]
      exact ((ih h3 hr').cons x).trans (List.Perm.swap _ _ _)
theorem rest_none {R : List Nb} {n : Int × Int} (hg : getN R n = none) : restN R n = R := by
  unfold restN
  rw [List.filter_eq_self]
  intro s hs
  have := getN_none hg s hs
  simp [this]
section
variable {w w' : World} {p m : Nat} {R : List Nb} {L L' : List Rw} {F : Nat → Prop} {n : Int × Int} {r : Nb} {k : Ky}
theorem RxAt.far (h : RxAt w p m R L F) (hg : getN R n = some r) {s : Nb} (hs : s ∈ restN R n) : s.b ≠ r.b := by
  obtain ⟨hr, rfl⟩ := getN_some hg
  have h1 := ((perm_rest h.rep.one hg).pairwise_iff (R := fun r s : Nb => r.b ≠ s.b) (fun {_ _} hne => Ne.symm hne)).1 h.apart
  exact ((List.pairwise_cons.1 h1).1 s hs).symm
/-- A neighbor's set has turned. -/
theorem RxAt.inner (h : RxAt w p m R L F) (hg : getN R n = some r) {ks : List Ky} (hi : InIs w' r.b ks) (hc : Chg (fun q => q = r.b) w w') (hr : Rep (⟨n, r.b, ks⟩ :: restN R n) L') : RxAt w' p m (⟨n, r.b, ks⟩ :: restN R n) L' F := by
  obtain ⟨hrm, e⟩ := getN_some hg
  have hp := perm_rest h.rep.one hg
  have hne := (h.ins r hrm).2
  refine ⟨h.blk.chg hc (fun e => h.np ((h.foot p).2 (.inr ⟨r, hrm, e⟩))), ?_, fun s hs => ?_, ?_, hr, fun q => (h.foot q).trans ?_⟩
  · have h1 : nbM.holds w' m (R.map fun r => (r.n, Value.map (some r.b))) := MKind.holds.chg h.out hc (Ne.symm hne)
    have h2 := h1.perm (hp.map _)
    rw [List.map_cons, e] at h2
    exact h2
  · rcases List.mem_cons.1 hs with rfl | hs
    · exact ⟨hi, hne⟩
    · have h1 := h.ins s (mem_restN.1 hs).1
      exact ⟨MKind.holds.chg h1.1 hc (h.far hg hs), h1.2⟩
  · refine List.pairwise_cons.2 ⟨fun s hs => (h.far hg hs).symm, h.apart.filter _⟩
  · have e2 : (∃ s ∈ R, q = s.b) ↔ ∃ s ∈ (⟨n, r.b, ks⟩ :: restN R n : List Nb), q = s.b := by
      constructor
      · rintro ⟨s, hs, rfl⟩
        rcases List.mem_cons.1 (hp.mem_iff.1 hs) with rfl | hs
        · exact ⟨_, List.mem_cons_self, rfl⟩
        · exact ⟨s, List.mem_cons_of_mem _ hs, rfl⟩
      · rintro ⟨s, hs, rfl⟩
        rcases List.mem_cons.1 hs with rfl | hs
        · exact ⟨r, hrm, rfl⟩
        · exact ⟨s, (mem_restN.1 hs).1, rfl⟩
    rw [e2]
/-- A neighbor's set is gone. -/
theorem RxAt.less (h : RxAt w p m R L F) (hg : getN R n = some r) (ho : OutIs w' m (restN R n)) (hc : Chg (fun q => q = m ∨ q = r.b) w w') (hr : Rep (restN R n) L') : ∃ F', RxAt w' p m (restN R n) L' F' ∧ ∀ q, F' q → F q := by
  obtain ⟨hrm, e⟩ := getN_some hg
  refine ⟨fun q => q = m ∨ ∃ s ∈ restN R n, q = s.b, ⟨h.blk.chg hc (fun e => h.np ((h.foot p).2 (e.imp id fun e => ⟨r, hrm, e⟩))), ho, fun s hs => ?_, h.apart.filter _, hr, fun q => Iff.rfl⟩, fun q hq => (h.foot q).2 (hq.imp id fun ⟨s, hs, e⟩ => ⟨s, (mem_restN.1 hs).1, e⟩)⟩
  have h1 := h.ins s (mem_restN.1 hs).1
  refine ⟨MKind.holds.chg h1.1 hc (fun e => ?_), h1.2⟩
  rcases e with e | e
  · exact h1.2 e
  · exact h.far hg hs e
/-- A neighbor's set is new. -/
theorem RxAt.more (h : RxAt w p m R L F) {b : Nat} {ks : List Ky} (hb : w.heap.size ≤ b) (ho : OutIs w' m (⟨n, b, ks⟩ :: restN R n)) (hi : InIs w' b ks) (hc : Chg (fun q => q = m) w w') (hr : Rep (⟨n, b, ks⟩ :: restN R n) L') : ∃ F', RxAt w' p m (⟨n, b, ks⟩ :: restN R n) L' F' ∧ ∀ q, F' q → F q ∨ w.heap.size ≤ q := by
  have hm := h.lt ((h.foot m).2 (.inl rfl))
  refine ⟨fun q => q = m ∨ ∃ s ∈ (⟨n, b, ks⟩ :: restN R n : List Nb), q = s.b, ⟨h.blk.chg hc (fun e => h.np ((h.foot p).2 (.inl e))), ho, fun s hs => ?_, ?_, hr, fun q => Iff.rfl⟩, fun q hq => ?_⟩
  · rcases List.mem_cons.1 hs with rfl | hs
    · exact ⟨hi, by show b ≠ m; omega⟩
    · have h1 := h.ins s (mem_restN.1 hs).1
      exact ⟨MKind.holds.chg h1.1 hc h1.2, h1.2⟩
  · refine List.pairwise_cons.2 ⟨fun s hs => ?_, h.apart.filter _⟩
    have h1 := h.lt ((h.foot s.b).2 (.inr ⟨s, (mem_restN.1 hs).1, rfl⟩))
    show b ≠ s.b
    omega
  · rcases hq with e | ⟨s, hs, e⟩
    · exact .inl ((h.foot q).2 (.inl e))
    · rcases List.mem_cons.1 hs with rfl | hs
      · exact .inr (by rw [e]; exact hb)
      · exact .inl ((h.foot q).2 (.inr ⟨s, (mem_restN.1 hs).1, e⟩))
theorem has_x (h : RxAt w p m R L F) (n : Int × Int) (k : Ky) (hk : wfKy k) : Calls Try.prog 28 #[mapOf (getN R n), .agg #[.int .i64 k.kind, .int .i64 k.id, .int .i64 k.adv]] w fun e w' => e = .returned (.bool (decide (Rw.mk n k ∈ L))) ∧ ∃ q os', w' = grow (w.drewN q) os' := by
  have hon := h.rep.on (n := n) (k := k)
  cases hg : getN R n with
  | none =>
    have e : ¬ Rw.mk n k ∈ L := fun hx => by
      obtain ⟨r, hr, -⟩ := hon.1 hx
      rw [hg] at hr
      cases hr
    rw [decide_eq_false e]
    exact has_v k false fun w' _ => in_nil hk w'
  | some r =>
    have e : Rw.mk n k ∈ L ↔ k ∈ r.ks := hon.trans (by rw [hg]; simp)
    have e2 : decide (Rw.mk n k ∈ L) = decide (k ∈ r.ks) := by rw [decide_eq_decide]; exact e
    rw [e2]
    have hI := (h.ins r (getN_some hg).1).1
    exact has_v k _ fun w' hb => InIs.look (MKind.holds.below hI hb hI.lt) hk
theorem len_of (h : RxAt w p m R L F) (n : Int × Int) (ty : TypeId) : (Builtin.len_ #[55] ty #[mapOf (getN R n)]).run Try.prog w = .ok (.int .i64 ((onL L n).length : Int)) w := by
  cases hg : getN R n with
  | none =>
    rw [h.rep.no hg]
    exact in_lenN w ty
  | some r =>
    rw [(h.rep.got hg).length_eq]
    exact (h.ins r (getN_some hg).1).1.len ty
set_option maxHeartbeats 2000000 in
theorem len_x (h : RxAt w p m R L F) (n : Int × Int) (hn : wfN n) : Calls Try.prog 19 #[.pointer (some ⟨p, 0, none⟩), .int .i64 n.1, .int .i64 n.2] w fun e w' => e = .returned (.int .i64 ((onL L n).length : Int)) ∧ w = w' := by
  have hlen := len_of h n 3
  have HO := Lib.hid (of_x h n hn)
  clear h hn
  go_enter Try.func19, Try.ntmps19
  go_wp2_with fail
  refine HO.out.mono ?_
  rintro e1 w1 ⟨rfl, rfl⟩
  generalize mapOf (getN R n) = v at *
  clear HO
  go_wp2_with (at_len; refine wpList_lenR hlen rfl _ rfl rfl ?_)
  go_ret
  exact ⟨rfl, rfl⟩
theorem len_nil (l i : Int) (w : World) : Calls Try.prog 19 #[.pointer none, .int .i64 l, .int .i64 i] w fun e w' => e = .returned (.int .i64 0) ∧ w = w' := by
  have hlen := in_lenN w 3
  go_enter Try.func19, Try.ntmps19
  go_wp2_with fail
  refine (of_nil l i _).mono ?_
  rintro e1 w1 ⟨rfl, rfl⟩
  go_wp2_with (at_len; refine wpList_lenR hlen rfl _ rfl rfl ?_)
  go_ret
  exact ⟨rfl, rfl⟩
theorem of_g (h : RxAt w p m R L F) (n : Int × Int) (hn : wfN n) : Calls Try.prog 27 #[.pointer (some ⟨p, 0, none⟩), .int .i64 n.1, .int .i64 n.2] w fun e w' => e = .returned (mapOf (getN R n)) ∧ ∃ q os', w' = grow (w.drewN q) os' :=
  (of_x h n hn).mono fun _ _ ⟨he, hw⟩ => ⟨he, 0, #[], by rw [← hw]; simp [grow, World.drewN]⟩
theorem of_gnil (l i : Int) (w : World) : Calls Try.prog 27 #[.pointer none, .int .i64 l, .int .i64 i] w fun e w' => e = .returned (.map none) ∧ ∃ q os', w' = grow (w.drewN q) os' :=
  (of_nil l i w).mono fun _ _ ⟨he, hw⟩ => ⟨he, 0, #[], by rw [← hw]; simp [grow, World.drewN]⟩
theorem below_gr (n : Nat) (os : Array Obj) : Below w.heap.size w (grow (w.drewN n) os) := below_grown13 ⟨n, os, rfl⟩
set_option maxHeartbeats 2000000 in
theorem on_x (h : RxAt w p m R L F) (n : Int × Int) (hn : wfN n) (k : Ky) (hk : wfKy k) : Calls Try.prog 23 #[.pointer (some ⟨p, 0, none⟩), .int .i64 n.1, .int .i64 n.2, .agg #[.int .i64 k.kind, .int .i64 k.id, .int .i64 k.adv]] w fun e w' => e = .returned (.bool (decide (Rw.mk n k ∈ L))) ∧ Below w.heap.size w w' := by
  have B0 := Lib.hid ((Below.refl w.heap.size w).alloc (Nat.le_refl _) (.cells #[.int .i64 k.kind, .int .i64 k.id, .int .i64 k.adv] 34))
  have H0 := h.below B0.out
  have K0 := Blk.new w 34 #[.int .i64 k.kind, .int .i64 k.id, .int .i64 k.adv]
  obtain ⟨k0, k1, k2⟩ := K0.three
  have hlt := K0.lt
  have p1 := fun n1 os => Calls.grown_of (of_g (H0.below (below_gr n1 os)) n hn)
  have p2 := fun n1 os => Calls.grown_of (has_x (H0.below (below_gr n1 os)) n k hk)
  generalize mapOf (getN R n) = v at *
  generalize decide (Rw.mk n k ∈ L) = t at *
  have mixed : Try.prog.follows .mixedOrders = true := by kernel_rfl
  clear h hn hk H0 K0
  go_enter Try.func23, Try.ntmps23
  go_wp2_with fail
  generalize w.alloc (.cells #[.int .i64 k.kind, .int .i64 k.id, .int .i64 k.adv] 34) = w0 at *
  have gk0 := fun n os => cell_grown (n := n) (os := os) hlt k0
  have gk1 := fun n os => cell_grown (n := n) (os := os) hlt k1
  have gk2 := fun n os => cell_grown (n := n) (os := os) hlt k2
  have hgr := Lib.hid (fun n os => below_gr (w := w0) n os)
  clear k0 k1 k2
  go_quiet_grown (first | (go_at_call 27; with_reducible exact p1 _ _) | (go_at_call 28; with_reducible exact p2 _ _))
  have B2 := Lib.hid (B0.out.trans ((hgr.out nq osq).mono B0.out.size))
  clear p1 p2 gk0 gk1 gk2
  go_wp2
  go_ret
  exact ⟨rfl, B2.out⟩
set_option maxHeartbeats 2000000 in
theorem on_nil (l i : Int) (k : Ky) (hk : wfKy k) (w : World) : Calls Try.prog 23 #[.pointer none, .int .i64 l, .int .i64 i, .agg #[.int .i64 k.kind, .int .i64 k.id, .int .i64 k.adv]] w fun e w' => e = .returned (.bool false) ∧ Below w.heap.size w w' := by
  have B0 := Lib.hid ((Below.refl w.heap.size w).alloc (Nat.le_refl _) (.cells #[.int .i64 k.kind, .int .i64 k.id, .int .i64 k.adv] 34))
  have K0 := Blk.new w 34 #[.int .i64 k.kind, .int .i64 k.id, .int .i64 k.adv]
  obtain ⟨k0, k1, k2⟩ := K0.three
  have hlt := K0.lt
  have p1 := fun n1 os => Calls.grown_of (of_gnil l i (grow ((w.alloc (.cells #[.int .i64 k.kind, .int .i64 k.id, .int .i64 k.adv] 34)).drewN n1) os))
  have p2 := fun n1 os => Calls.grown_of (has_v (w := grow ((w.alloc (.cells #[.int .i64 k.kind, .int .i64 k.id, .int .i64 k.adv] 34)).drewN n1) os) (v := .map none) k false fun w' _ => in_nil hk w')
  have mixed : Try.prog.follows .mixedOrders = true := by kernel_rfl
  clear hk K0
  go_enter Try.func23, Try.ntmps23
  go_wp2_with fail
  generalize w.alloc (.cells #[.int .i64 k.kind, .int .i64 k.id, .int .i64 k.adv] 34) = w0 at *
  have gk0 := fun n os => cell_grown (n := n) (os := os) hlt k0
  have gk1 := fun n os => cell_grown (n := n) (os := os) hlt k1
  have gk2 := fun n os => cell_grown (n := n) (os := os) hlt k2
  have hgr := Lib.hid (fun n os => below_gr (w := w0) n os)
  clear k0 k1 k2
  go_quiet_grown (first | (go_at_call 27; with_reducible exact p1 _ _) | (go_at_call 28; with_reducible exact p2 _ _))
  have B2 := Lib.hid (B0.out.trans ((hgr.out nq osq).mono B0.out.size))
  clear p1 p2 gk0 gk1 gk2
  go_wp2
  go_ret
  exact ⟨rfl, B2.out⟩
end
end Go.Proofs.Ytndjoanlbaiaeaa
