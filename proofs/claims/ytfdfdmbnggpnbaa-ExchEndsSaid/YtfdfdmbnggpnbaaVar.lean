/- The statements' small calls: wakes, many, begins. Conditions: what the words say. · One side of two in memory; it hears the other one. Conditions: at most 100 descriptions, at most 1000 heads. · The statements' two sides, new. No conditions. · Two sides in memory, on blocks of their own; there is an order of what is told. Conditions: what the words say. · Pieces, arrays of integers and of lists, lists of booleans that came in. No conditions. · The walk of the statement ExchSelf. Conditions: what the words say. -/
import Derived.Deep.RegionLaw
import Derived.Test.YtfdfdmbnggpnbaaVaq
import Derived.Test.YtfdfdmbnggpnbaaVah
import Derived.Test.YtfdfdmbnggpnbaaVam
import Derived.Test.YtfdfdmbnggpnbaaVan
namespace Go.Proofs.Ytfdfdmbnggpnbaa
open Go.RowKit Go.Lib Go.Sort Go.Deep

def exW : Ex := ⟨1, 2, 9, true, false, false, ⟨true, true, true, 9⟩, ⟨false, false, false, 9⟩, []⟩
theorem hear_w : hearE (newE 1 2 5) ⟨true, true, true, 9⟩ 0 [] = (2, exW) := by rfl
theorem told_nil : Told [] [] := ⟨List.Pairwise.nil, Stab.refl _⟩
set_option maxRecDepth 8000 in
set_option maxHeartbeats 4000000 in
theorem wakes14 (w : World) : Calls Try.prog 25 #[] w fun e w' => e = .returned (.bool true) ∧ Below w.heap.size w w' := by
  go_enter Try.func25, Try.ntmps25
  go_wp2_with fail
  refine (newX_any 1 2 5 w).mono ?_
  rintro e1 w1 ⟨rfl, hx1, hb1⟩
  have X1 := Lib.hid hx1
  have B1 := Lib.hid hb1
  have HZ := Lib.hid hx1.lt
  clear hx1 hb1
  go_wp2_with fail
  refine (hearX ⟨true, true, true, 9⟩ (Ah := none) (nh := 0) (ch := 0) (A := none) (n := 0) (c := 0) (B := w.heap.size) (S := []) (K := []) (by decide) (by decide) X1.out (fun q hq => by rw [hq]; exact HZ.out) Arr.nil B1.out.size (fun q hq => by rw [hq]; exact Nat.le_refl _) (by decide) told_nil).mono ?_
  rintro e2 w2 ⟨rfl, hx2, hc2⟩
  rw [hear_w] at hx2 ⊢
  obtain ⟨h, hB, hh⟩ := hx2.mem
  have B2 := Lib.hid (B1.out.trans (hc2.to_below (B := w.heap.size) (fun q hq => by rw [hq]; exact Nat.le_refl _) B1.out.size))
  have hok := hx2.ok
  clear hx2 hc2 X1 B1 HZ hh
  obtain ⟨z, hz⟩ : ∃ z, w.heap.size = z := ⟨_, rfl⟩
  rw [hz] at hB ⊢
  rw [hz] at B2
  have HZ := Lib.hid hz
  clear hz
  go_wp2_with fail
  refine (agreedX hB).mono ?_
  rintro e3 w3 ⟨rfl, h3⟩
  rw [h3]
  clear h3 w3
  go_wp2_with fail
  refine (leadsX hB).mono ?_
  rintro e3 w3 ⟨rfl, h3⟩
  rw [h3]
  clear h3 w3
  go_wp2_with fail
  refine (seqX hok hB).mono ?_
  rintro e3 w3 ⟨rfl, h3⟩
  rw [h3]
  clear h3 w3
  go_wp2
  go_ret
  rw [HZ.out]
  exact ⟨rfl, B2.out⟩
set_option maxRecDepth 8000 in
set_option maxHeartbeats 4000000 in
theorem many14 (A : Option Addr) (n c : Nat) (T : List La) (B : Nat) (w : World) (h : Las w B A n T) (hB : B ≤ w.heap.size) (hn : n ≤ maxLen) :
    Calls Try.prog 26 #[.slice A n c] w fun e w' => (∃ t : Bool, e = .returned (.bool t) ∧ (t = false → n ≤ 60 ∧ ∀ a ∈ T, a.L.length ≤ 20 ∧ a.M.length ≤ 20)) ∧ Below w.heap.size w w' := by
  unfold maxLen at hn
  have HP := Lib.hid h
  clear h
  go_enter Try.func26, Try.ntmps26
  go_wp2_with fail
  go_loopw [7] (fun i wr => ∃ k : Nat, k ≤ n ∧ i = .int .i64 k ∧ Hid (∀ (m : Nat) (a : La), m < k → T[m]? = some a → a.L.length ≤ 20 ∧ a.M.length ≤ 20) ∧ Hid (Below w.heap.size w wr)) (fun i _ => n - (intOf i).toNat)
  case atStart => exact ⟨0, Nat.zero_le _, rfl, Lib.hid (fun m a hm => absurd hm (by omega)), Lib.hid (Below.refl _ _)⟩
  case round =>
    obtain ⟨k, hk, rfl, HA, hb⟩ := hrel
    have hsz := hb.out.size
    by_cases hlt : k < n
    · obtain ⟨b, o, a, A1, n1, c1, A2, n2, c2, rfl, hbb, hx, hr, hL, hM, hn1, hn2⟩ := las_item (HP.out.below (hb.out.mono hB)) hlt
      have hl1 := hL.1
      have hl2 := hM.1
      have HX := Lib.hid hx
      have HR := Lib.hid hr
      unfold maxLen at hn1 hn2
      clear hx hr hL hM
      have hlt' : (k : Int) < n := by omega
      have BN := Lib.hid (hb.out.alloc hsz (.cells #[.int .i64 a.h.age, .int .i64 a.h.kind, .int .i64 a.h.id, .int .i64 a.h.adv, .int .i64 a.h.seq, .int .i64 a.h.sum, .int .i64 a.h.long, .slice A1 n1 c1, .slice A2 n2 c2] 78))
      by_cases h1 : 20 < n1
      · have d1 : decide (20 < (n1 : Int)) = true := by simp; omega
        go_wp2_with (refine wpList_load_row 78 _ _ (by rfl) (.tmp 9) rfl (by rfl) HR.out Try.underlying78 rfl (by kernel_rfl) ?_)
        go_ret
        exact ⟨⟨true, rfl, fun h => by cases h⟩, BN.out⟩
      · have d1 : decide (20 < (n1 : Int)) = false := by simp; omega
        by_cases h2 : 20 < n2
        · have d2 : decide (20 < (n2 : Int)) = true := by simp; omega
          go_wp2_with (refine wpList_load_row 78 _ _ (by rfl) (.tmp 9) rfl (by rfl) HR.out Try.underlying78 rfl (by kernel_rfl) ?_)
          go_ret
          exact ⟨⟨true, rfl, fun h => by cases h⟩, BN.out⟩
        · have d2 : decide (20 < (n2 : Int)) = false := by simp; omega
          have HN := Lib.hid (show ∀ (m : Nat) (a : La), m < k + 1 → T[m]? = some a → a.L.length ≤ 20 ∧ a.M.length ≤ 20 from fun m a' hm ha => by
            by_cases hmk : m = k
            · subst hmk
              rw [HX.out] at ha
              injection ha with ha
              subst ha
              omega
            · exact HA.out m a' (by omega) ha)
          go_wp2_with (refine wpList_load_row 78 _ _ (by rfl) (.tmp 9) rfl (by rfl) HR.out Try.underlying78 rfl (by kernel_rfl) ?_)
          go_roundw
          case rel => exact ⟨k + 1, by omega, by go_num, HN, BN⟩
          case measure => simp [intOf]; omega
    · have HT := Lib.hid (show ∀ a ∈ T, a.L.length ≤ 20 ∧ a.M.length ≤ 20 from fun a ha => by
        obtain ⟨m, hm⟩ := List.getElem?_of_mem ha
        exact HA.out m a (by have := (List.getElem?_eq_some_iff.1 hm).1; have := HP.out.1; omega) hm)
      by_cases h3 : 60 < n
      · have d3 : decide (60 < (n : Int)) = true := by simp; omega
        go_wp2
        go_ret
        exact ⟨⟨true, rfl, fun h => by cases h⟩, hb.out⟩
      · have d3 : decide (60 < (n : Int)) = false := by simp; omega
        go_wp2
        go_ret
        exact ⟨⟨false, rfl, fun _ => ⟨by omega, HT.out⟩⟩, hb.out⟩
set_option maxRecDepth 8000 in
set_option maxHeartbeats 4000000 in
theorem begins_yes {w : World} {A A' : Option Addr} {n c n' c' B B' : Nat} {L L' : List Hd} (hL : Hds w B A n L) (hL' : Hds w B' A' n' L') (hB : B ≤ w.heap.size) (hB' : B' ≤ w.heap.size) (hn : n ≤ 1000) (hc : n' ≤ c') (h1 : L.length ≤ L'.length) (h2 : L = L'.take L.length) :
    Calls Try.prog 34 #[.slice A n c, .slice A' n' c'] w fun e w' => e = .returned (.bool true) ∧ ∃ q, w' = w.drewN q := by
  have hl := hL.1
  have hl' := hL'.1
  have d1 : decide ((n : Int) ≤ (n' : Int)) = true := by simp; omega
  have HP := Lib.hid (hL'.take n (by omega))
  have H1 := Lib.hid hL
  have HE := Lib.hid (show L = L'.take n by rw [← hl]; exact h2)
  have hle : n ≤ n' := by omega
  have hcn : (n : Int) ≤ (c' : Int) := by omega
  have hnn : n ≤ c' := by omega
  clear hL hL' h1 h2
  go_enter Try.func34, Try.ntmps34
  go_wp2_with fail
  refine (same13_yes H1.out HP.out hB hB' hn (by omega) HE.out).mono ?_
  rintro e1 w1 ⟨rfl, q, rfl⟩
  go_wp2
  go_ret
  exact ⟨rfl, q, rfl⟩
end Go.Proofs.Ytfdfdmbnggpnbaa
namespace Go.Proofs.Ytfdfdmbnggpnbaa
open Go.RowKit Go.Lib Go.Sort Go.Deep

/-- append onto a row of the call's own, of any other row; where the new one lies. -/
theorem run_append_at (w : World) (t e ty : TypeId) (z : Value) (size bytes : Nat)
    (ht : Try.prog.underlying t = some (.slice e)) (hinfo : (Try.prog.info? e).map (fun i => (i.zero, i.size, i.bytes)) = some (some z, size, bytes)) (hzs : z.cells.size = size) (hsz : 0 < size) (hby : bytes ≤ 1024)
    (base : Nat) (v : Value) (n : Nat) (xs : List Value) (hown : w.ownsRow base e size v n xs) (A : Option Addr) (m c : Nat) (news : List Value) (hl : news.length = m * size) (hA : A = none → m = 0)
    (hnews : ∀ ad, A = some ad → ∀ j u, news[j]? = some u → w.cell? (ad.add j) = some u) (h1 : ∀ u ∈ news, u.oneCell' = true) (hz : n + m ≤ 1048576) (hbase : base ≤ w.heap.size) :
    ∃ v' w', (Builtin.append_ #[t, t] ty #[v, .slice A m c]).run Try.prog w = .ok v' w' ∧ w'.ownsRow base e size v' (n + m) (xs ++ news) ∧ w.grownBy w' v.ownBlock ∧ (v'.ownBlock = v.ownBlock ∨ v'.ownBlock = some w.heap.size) := by
  obtain ⟨i0, hi, hz0, hz1, hz2⟩ := info_parts hinfo
  cases A with
  | none =>
    have hm := hA rfl
    subst hm
    have hl0 : news = [] := List.eq_nil_of_length_eq_zero (by omega)
    subst hl0
    refine ⟨v, w, ?_, by simpa using hown, ⟨rfl, rfl, rfl, Nat.le_refl _, fun _ _ _ => rfl⟩, .inl rfl⟩
    rcases hown.2 with ⟨rfl, rfl⟩ | ⟨g, cap, cur, rfl, _, _, hnc, _⟩
    · simp [Builtin.append_, run_underlying ht, sizeOf, typeInfo, hi, Builtin.lenOf, Builtin.firstCells]
    · simp [Builtin.append_, run_underlying ht, sizeOf, typeInfo, hi, Builtin.lenOf, Builtin.firstCells, hnc, storeCells]
  | some ad =>
    have hb : (n + m) * bytes ≤ 1048576 * 1024 := Nat.mul_le_mul hz hby
    obtain ⟨v', w', h1, h2, h3, _, h5⟩ := run_append_own_at (P := Try.prog) w base t ty e i0 z size bytes ht hi hz0 hz1 hz2 hzs hsz v n xs hown ad m c news hl (hnews ad rfl) h1 (by unfold maxLen; omega) (by omega) hbase
    exact ⟨v', w', h1, h2, h3, h5⟩
theorem step_append_at {w : World} {ops : Array Oper} {o : Oper} {a : Act} {K : Act → World → Prop} {Q : Exit → Act → World → Prop} {E : Prop} (hgd : o.guard = none) (s x : Operand) (t e : TypeId) (z : Value) (size bytes : Nat)
    (ht : Try.prog.underlying t = some (.slice e)) (hinfo : (Try.prog.info? e).map (fun i => (i.zero, i.size, i.bytes)) = some (some z, size, bytes)) (hzs : z.cells.size = size) (hsz : 0 < size) (hby : bytes ≤ 1024)
    (ho : o.op = .call { callee := .builtin .append, args := #[s, x], argTypes := #[t, t] }) (base : Nat) (v : Value) (n : Nat) (xs : List Value) (hs : a.eval s = v) (hown : w.ownsRow base e size v n xs)
    (A : Option Addr) (m c : Nat) (news : List Value) (hx : a.eval x = .slice A m c) (hl : news.length = m * size) (hA : A = none → m = 0)
    (hnews : ∀ ad, A = some ad → ∀ j u, news[j]? = some u → w.cell? (ad.add j) = some u) (h1 : ∀ u ∈ news, u.oneCell' = true) (hz : n + m ≤ 1048576) (hbase : base ≤ w.heap.size)
    (h : ∀ v' w', Hid (w'.ownsRow base e size v' (n + m) (xs ++ news)) → Hid (w.grownBy w' v.ownBlock) → Hid (v'.ownBlock = v.ownBlock ∨ v'.ownBlock = some w.heap.size) → K (a.put o.dst v') w') : if Region.wanted o (yielded ops a.tmps) = true then Oper.wp Try.prog o a w K Q else E := by
  have hw : Region.wanted o (yielded ops a.tmps) = true := by simp [Region.wanted, hgd]
  rw [if_pos hw]
  obtain ⟨v', w', hrun, h2, h3, h4⟩ := run_append_at w t e o.type z size bytes ht hinfo hzs hsz hby base v n xs hown A m c news hl hA hnews h1 hz hbase
  unfold Oper.wp execOp
  simp only [ho, resolve, invoke, builtin, Sem.run_bind, Sem.run_pure, Result.andThen_ok, List.map_toArray, List.map_cons, List.map_nil, hs, hx, hrun]
  exact h v' w' h2 h3 h4
/-- One side in memory: its block s, its exchange's p, what it took; all on blocks of F, no two of the three on one. -/
structure SdAt (w : World) (F : Nat → Prop) (s p : Nat) (A : Option Addr) (n c : Nat) (d : Sd) : Prop where
  fs : F s
  bound : ∀ q, F q → q < w.heap.size
  mem : ∃ (E : Nat → Prop) (At : Option Addr) (nt ct : Nat), Blk w s 66 #[.pointer (some ⟨p, 0, none⟩), .slice A n c, .slice At nt ct] ∧ w.ownsRow 0 43 7 (.slice At nt ct) nt (cellsBy encHd d.took) ∧ ExAt w E p d.x ∧
    (∀ q, E q → F q ∧ q ≠ s) ∧ (∀ g, (Value.slice At nt ct).ownBlock = some g → F g ∧ g ≠ s ∧ ¬ E g)
section
variable {w w' : World} {F F' : Nat → Prop} {s p : Nat} {A : Option Addr} {n c : Nat} {d : Sd}
theorem own_move {w w' : World} {b n size : Nat} {t : TypeId} {v : Value} {xs : List Value} (h : w.ownsRow b t size v n xs) (hm : ∀ g, v.ownBlock = some g → w'.heap[g]? = w.heap[g]?) : w'.ownsRow b t size v n xs := by
  refine ⟨h.1, ?_⟩
  rcases h.2 with h2 | ⟨g, cap, cur, rfl, h2, h3, h4⟩
  · exact .inl h2
  · exact .inr ⟨g, cap, cur, rfl, h2, (hm g rfl).trans h3, h4⟩
theorem SdAt.move (h : SdAt w F s p A n c d) (hk : ∀ q, F q → q < w.heap.size → w'.heap[q]? = w.heap[q]?) (hz : w.heap.size ≤ w'.heap.size) : SdAt w' F s p A n c d := by
  obtain ⟨E, At, nt, ct, hb, ho, hx, hE, hg⟩ := h.mem
  have hk' : ∀ q, F q → w'.heap[q]? = w.heap[q]? := fun q hq => hk q hq (h.bound q hq)
  exact ⟨h.fs, fun q hq => Nat.lt_of_lt_of_le (h.bound q hq) hz, E, At, nt, ct, (hk' s h.fs).trans hb, own_move ho (fun g e => hk' g (hg g e).1), hx.move (fun q hq hl => hk q (hE q hq).1 hl) hz, hE, hg⟩
theorem SdAt.chg (h : SdAt w F s p A n c d) (hc : Chg F' w w') (hF : ∀ q, F q → ¬ F' q) : SdAt w' F s p A n c d := h.move (fun q hq hl => hc.block q hl (hF q hq)) hc.size
theorem SdAt.below (h : SdAt w F s p A n c d) (hb : Below w.heap.size w w') : SdAt w' F s p A n c d := h.move (fun q _ hl => hb.block q hl) hb.size
theorem SdAt.drewN (h : SdAt w F s p A n c d) (q : Nat) : SdAt (w.drewN q) F s p A n c d := h.move (fun _ _ _ => rfl) (Nat.le_refl _)
end
/-- What hears leaves. -/
def HearsQ (F : Nat → Prop) (s p : Nat) (A : Option Addr) (n c : Nat) (K : List Hd) (a b : Sd) (w : World) (e : Ending) (w' : World) : Prop :=
  e = .returned (.bool (decide (hearsC K a b ≠ 3))) ∧ SdAt w' (Fp F w w') s p A n c (hearsS K a b) ∧ Chg F w w'
set_option maxRecDepth 8000 in
set_option maxHeartbeats 8000000 in
theorem hears_any {w : World} {F G : Nat → Prop} {s p s' p' : Nat} {A A' : Option Addr} {n c n' c' B : Nat} {S : List La} {K : List Hd} {a b : Sd} (hA : SdAt w F s p A n c a) (hB : SdAt w G s' p' A' n' c' b)
    (hS : Las w B A n S) (hBw : B ≤ w.heap.size) (hFB : ∀ q, F q → B ≤ q) (hn : n ≤ 100) (hK : Told S K) (ht : a.took.length ≤ 1000) :
    Calls Try.prog 33 #[.pointer (some ⟨s, 0, none⟩), .pointer (some ⟨s', 0, none⟩)] w (HearsQ F s p A n c K a b w) := by
  generalize hQ : HearsQ F s p A n c K a b w = Q
  have HQ := Lib.hid hQ
  have HA := Lib.hid hA
  have HB := Lib.hid hB
  have HS := Lib.hid hS
  have HBW := Lib.hid hBw
  have HFB := Lib.hid hFB
  have HK := Lib.hid hK
  obtain ⟨E', At', nt', ct', hb', ho', hx', hE', hg'⟩ := hB.mem
  have c0 : w.cell? ⟨s', 0, none⟩ = some (.pointer (some ⟨p', 0, none⟩)) := hb'.cell 0
  have hsl := hb'.lt
  have HX' := Lib.hid hx'
  clear hQ hA hB hS hBw hFB hK hb' ho' hx' hE' hg'
  go_enter Try.func33, Try.ntmps33
  go_wp2_with fail
  refine (sayO HX'.out).mono ?_
  rintro e1 w1 ⟨A1, m1, c1, rfl, hb1, hO1⟩
  have HM := Lib.hid (own_lenH encHd_len (by omega) hO1)
  have hm3 : m1 ≤ 3 := by have := HM.out; rw [List.length_take] at this; omega
  have BW2 := Lib.hid (hb1.alloc hb1.size (.cells #[.bool b.x.said.init, .bool b.x.said.more, .bool b.x.said.master, .int .i64 b.x.said.seq, .slice A1 m1 c1] 53))
  have N2 := Lib.hid (Blk.new w1 53 #[.bool b.x.said.init, .bool b.x.said.more, .bool b.x.said.master, .int .i64 b.x.said.seq, .slice A1 m1 c1])
  have SA2 := Lib.hid (HA.out.below BW2.out)
  have O2 := Lib.hid (hO1.alloc (.cells #[.bool b.x.said.init, .bool b.x.said.more, .bool b.x.said.master, .int .i64 b.x.said.seq, .slice A1 m1 c1] 53))
  obtain ⟨hsq0, hsq1⟩ := (okSeq_iff _).1 HX'.out.ok.said
  have HZ1 := Lib.hid (show w.heap.size ≤ w1.heap.size from hb1.size)
  have HFW := Lib.hid HA.out.bound
  have HFS := Lib.hid HA.out.fs
  clear c0 hsl HX' hb1 hO1 HA HB
  go_wp2_with fail
  obtain ⟨z, hz⟩ : ∃ z, w1.heap.size = z := ⟨_, rfl⟩
  generalize w1.alloc (.cells #[.bool b.x.said.init, .bool b.x.said.more, .bool b.x.said.master, .int .i64 b.x.said.seq, .slice A1 m1 c1] 53) = w2 at *
  rw [hz] at N2 HZ1 ⊢
  clear hz w1
  obtain ⟨n0, n1, n2, n3, n4⟩ := N2.out.five
  have hnl := N2.out.lt
  obtain ⟨E, At, nt, ct, hb, ho, hx, hE, hg⟩ := SA2.out.mem
  have s0 : w2.cell? ⟨s, 0, none⟩ = some (.pointer (some ⟨p, 0, none⟩)) := hb.cell 0
  have s1 : w2.cell? ⟨s, 1, none⟩ = some (.slice A n c) := hb.cell 1
  have hsl := hb.lt
  have HE := Lib.hid hE
  have HG := Lib.hid hg
  have KS3 := Lib.hid (show Blk w2.drew s 66 #[.pointer (some ⟨p, 0, none⟩), .slice A n c, .slice At nt ct] from hb)
  have X3 := Lib.hid (show ExAt w2.drew E p a.x from hx.move (fun _ _ _ => rfl) (Nat.le_refl _))
  have T3 := Lib.hid (show w2.drew.ownsRow 0 43 7 (.slice At nt ct) nt (cellsBy encHd a.took) from ho)
  have N3 := Lib.hid (show Blk w2.drew z 53 #[.bool b.x.said.init, .bool b.x.said.more, .bool b.x.said.master, .int .i64 b.x.said.seq, .slice A1 m1 c1] from N2.out)
  have O3 := Lib.hid (show w2.drew.ownsRow w.heap.size 43 7 (.slice A1 m1 c1) m1 (cellsBy encHd (b.x.K.take 3)) from O2.out)
  have BW3 := Lib.hid (BW2.out.trans (⟨rfl, rfl, rfl, Nat.le_refl _, fun _ _ => rfl⟩ : Below w.heap.size w2 w2.drew))
  clear hE hg hb ho hx O2 BW2 SA2 N2
  go_still_tail 9, (by kernel_rfl)
  change wpList Try.prog _ _ _ _ w2.drew
  clear n0 n1 n2 n3 n4 hnl s0 s1 hsl
  generalize w2.drew = w3 at *
  clear w2
  go_wp2_with fail
  refine (hearX b.x.said (Ah := A1) (nh := m1) (ch := c1) (by omega) (by omega) X3.out (fun q hq => Nat.lt_of_lt_of_le (HFW.out q (HE.out q hq).1) BW3.out.size) (HS.out.below (BW3.out.mono HBW.out)) (Nat.le_trans HBW.out BW3.out.size) (fun q hq => HFB.out q (HE.out q hq).1) hn HK.out).mono ?_
  rintro e4 w4 ⟨rfl, hx4, hc4⟩
  have HR := Lib.hid (show hearE a.x b.x.said (b.x.K.take 3).length K = hearE a.x b.x.said m1 K by rw [HM.out])
  have HC := Lib.hid (show hearsC K a b = (hearE a.x b.x.said m1 K).1 by unfold hearsC; rw [HR.out])
  have HD := Lib.hid (show hearsS K a b = ⟨(hearE a.x b.x.said m1 K).2, if hearsC K a b = 2 then a.took ++ b.x.K.take 3 else a.took⟩ by unfold hearsS; rw [HR.out])
  generalize hearE a.x b.x.said m1 K = rr at *
  obtain ⟨v, y⟩ := rr
  dsimp only at hx4 HC HD ⊢
  have HSW := Lib.hid (show s < w.heap.size from HFW.out s HFS.out)
  have KS4 := Lib.hid (KS3.out.chg hc4 (fun he => (HE.out s he).2 rfl))
  have T4 := Lib.hid (own_move T3.out (fun g e => hc4.block g (Nat.lt_of_lt_of_le (HFW.out g (HG.out g e).1) BW3.out.size) (HG.out g e).2.2))
  have HEW := Lib.hid (show ∀ q, w.heap.size ≤ q → ¬ E q from fun q hq he => by have := HFW.out q (HE.out q he).1; omega)
  have N4 := Lib.hid (N3.out.chg hc4 (HEW.out z HZ1.out))
  have O4 := Lib.hid (own_chg O3.out hc4 (fun q hq => HEW.out q (own_base_le O3.out hq)))
  have C4 := Lib.hid ((Chg.of_below (F := F) (w' := w3) BW3.out).trans (hc4.wide (F' := F) (fun q hq => (HE.out q hq).1)) (fun q hq => .inl hq))
  have X4 := Lib.hid hx4
  have HZ3 := Lib.hid BW3.out.size
  have HZ4 := Lib.hid hc4.size
  clear hx4 hc4 KS3 T3 N3 O3 BW3 X3 HR
  by_cases h2 : v = 2
  · subst h2
    have HN := Lib.hid (own_lenH encHd_len (by omega) T4.out)
    have KS5 := Lib.hid (show Blk w4.drew s 66 #[.pointer (some ⟨p, 0, none⟩), .slice A n c, .slice At nt ct] from KS4.out)
    have X5 := Lib.hid (show ExAt w4.drew (Fp E w3 w4) p y from X4.out.move (fun _ _ _ => rfl) (Nat.le_refl _))
    have T5 := Lib.hid (show w4.drew.ownsRow 0 43 7 (.slice At nt ct) nt (cellsBy encHd a.took) from T4.out)
    have O5 := Lib.hid (show w4.drew.ownsRow w.heap.size 43 7 (.slice A1 m1 c1) m1 (cellsBy encHd (b.x.K.take 3)) from O4.out)
    have C5 := Lib.hid (C4.out.trans (⟨rfl, rfl, rfl, Nat.le_refl _, fun _ _ _ => rfl⟩ : Chg F w4 w4.drew) (fun q hq => .inl hq))
    have HZ5 := Lib.hid (show w4.heap.size ≤ w4.drew.heap.size from Nat.le_refl _)
    clear KS4 T4 O4 C4 X4
    have c2 : w4.drew.cell? ⟨s, 2, none⟩ = some (.slice At nt ct) := KS5.out.cell 2
    have c4 : w4.drew.cell? ⟨z, 4, none⟩ = some (.slice A1 m1 c1) := N4.out.cell 4
    have hsl : s < w4.drew.heap.size := KS5.out.lt
    have hzl : z < w4.drew.heap.size := N4.out.lt
    have hcl := (own_hds O5.out).cells
    go_wp2_with fail
    go_region_law (first | (refine step_append_at (by rfl) (.tmp 32) (.tmp 34) 27 43 (.agg #[.int .i64 0, .int .i64 0, .int .i64 0, .int .i64 0, .int .i64 0, .int .i64 0, .int .i64 0]) 7 56 Try.underlying27 infoHd rfl (by decide) (by decide) (by rfl) 0 (.slice At nt ct) nt (cellsBy encHd a.took) (by rfl) T5.out A1 m1 c1 (cellsBy encHd (b.x.K.take 3)) (by rfl) (by rw [by_length encHd_len, HM.out]) hcl.1 hcl.2 (by_ones encHd_ones _) (by have := HN.out; omega) (Nat.zero_le _) ?_; intro v6 w6 ho6 hg6 hw6; obtain ⟨A6, c6, rfl⟩ := own_slice ho6.out; have KS6 := (KS5.out.chg (Chg.of_grown (F := fun k => (Value.slice At nt ct).ownBlock = some k) hg6.out (fun k hk => hk)) (fun e => (HG.out s e).2.1 rfl)); have hsl6 := KS6.lt; have s2 : w6.cell? ⟨s, 2, none⟩ = some (.slice At nt ct) := KS6.cell 2; have f2 := KS6.frozen 2))
    all_goals
      go_wp2
      have hcc : decide (hearsC K a b ≠ 3) = true := by rw [HC.out]; decide
      show Q (.returned (.bool true)) _
      rw [← HQ.out]
      unfold HearsQ
      rw [hcc, HD.out, HC.out, if_pos rfl]
      have C6 : Chg F w w6 := C5.out.trans (Chg.of_grown (F := F) hg6.out (fun k hk => (HG.out k hk).1)) (fun q hq => .inl hq)
      have C7 : Chg F w (w6.setCell ⟨s, 2, none⟩ (.slice A6 (nt + m1) c6)) := C6.trans (chg_put (F := F) _ _ HFS.out) (fun q hq => .inl hq)
      have z5 := hg6.out.size
      have z7 : (w6.setCell ⟨s, 2, none⟩ (.slice A6 (nt + m1) c6)).heap.size = w6.heap.size := by simp
      have h3 := HZ3.out
      have h4 := HZ4.out
      have h5 := HZ5.out
      have hsw := HSW.out
      refine ⟨rfl, ⟨.inl HFS.out, fun q hq => ?_, Fp E w3 w4, A6, nt + m1, c6, KS6.put 2 _, ?_, ?_, fun q hq => ?_, fun g hg => ?_⟩, C7⟩
      · rcases hq with hq | hq
        · have := HFW.out q hq
          omega
        · exact hq.2
      · rw [by_append]
        exact own_move ho6.out (fun g e => Below.heap_setCell _ _ _ _ (by
          rcases hw6.out with h | h
          · exact (HG.out g (by rw [← h]; exact e)).2.1
          · rw [h] at e
            injection e with e
            show g ≠ s
            omega))
      · refine (X5.out.chg (Chg.of_grown (F := fun k => (Value.slice At nt ct).ownBlock = some k) hg6.out (fun k hk => hk)) (fun q hq e => ?_)).chg (chg_put (F := fun k => k = s) _ _ rfl) (fun q hq e => ?_)
        · rcases hq with hq | hq
          · exact (HG.out q e).2.2 hq
          · have := HFW.out q (HG.out q e).1
            omega
        · rcases hq with hq | hq
          · exact (HE.out q hq).2 e
          · omega
      · rcases hq with hq | hq
        · exact ⟨.inl (HE.out q hq).1, (HE.out q hq).2⟩
        · exact ⟨.inr (by omega), by omega⟩
      · rcases hw6.out with h | h
        · rw [h] at hg
          obtain ⟨g1, g2, g3⟩ := HG.out g hg
          refine ⟨.inl g1, g2, fun e => ?_⟩
          rcases e with e | e
          · exact g3 e
          · have := HFW.out g g1
            omega
        · rw [h] at hg
          injection hg with hg
          have hgl : w4.drew.heap.size < w6.heap.size := by
            rcases ho6.out.2 with ⟨e1, e2⟩ | ⟨g', cap, cur, e1, e2, e3, e4⟩
            · rw [e1] at h
              cases h
            · rw [e1] at h
              injection h with h
              have h : g' = w4.drew.heap.size := h
              rw [← h]
              exact (Array.getElem?_eq_some_iff.1 e3).1
          refine ⟨.inr (by omega), by omega, fun e => ?_⟩
          rcases e with e | e
          · exact HEW.out g (by omega) e
          · omega
  · have d2 : (v == 2) = false := by simpa using h2
    have d3 : decide (hearsC K a b ≠ 3) = (v != 3) := by
      rw [HC.out]
      by_cases h : v = 3 <;> simp [h]
    have HD2 := Lib.hid d3
    have H2 := Lib.hid h2
    clear d3 h2
    go_wp2
    show Q (.returned (.bool (v != 3))) _
    rw [← HQ.out]
    unfold HearsQ
    rw [HD2.out, HD.out, HC.out, if_neg H2.out]
    have h3 := HZ3.out
    have h4 := HZ4.out
    have hsw := HSW.out
    refine ⟨rfl, ⟨.inl HFS.out, fun q hq => ?_, Fp E w3 w4, At, nt, ct, KS4.out, T4.out, X4.out, fun q hq => ?_, fun g hg => ?_⟩, C4.out⟩
    · rcases hq with hq | hq
      · have := HFW.out q hq
        omega
      · exact hq.2
    · rcases hq with hq | hq
      · exact ⟨.inl (HE.out q hq).1, (HE.out q hq).2⟩
      · exact ⟨.inr (by omega), by omega⟩
    · obtain ⟨g1, g2, g3⟩ := HG.out g hg
      refine ⟨.inl g1, g2, fun e => ?_⟩
      rcases e with e | e
      · exact g3 e
      · have := HFW.out g g1
        omega
end Go.Proofs.Ytfdfdmbnggpnbaa
namespace Go.Proofs.Ytfdfdmbnggpnbaa
open Go.RowKit Go.Lib Go.Sort Go.Deep

/-- What two leaves: two sides, on blocks of their own. -/
def DuoQ (n0 n1 n2 n3 : Int) (A : Option Addr) (n c : Nat) (A' : Option Addr) (n' c' : Nat) (w : World) (e : Ending) (w' : World) : Prop :=
  ∃ (F G : Nat → Prop) (s p s' p' : Nat), e = .returned (.tuple #[.pointer (some ⟨s, 0, none⟩), .pointer (some ⟨s', 0, none⟩)]) ∧ SdAt w' F s p A n c ⟨newE n0 n1 n2, []⟩ ∧ SdAt w' G s' p' A' n' c' ⟨newE n1 n0 n3, []⟩ ∧
    (∀ q, F q → w.heap.size ≤ q ∧ ¬ G q) ∧ (∀ q, G q → w.heap.size ≤ q ∧ ¬ F q) ∧ Below w.heap.size w w'
theorem side_new {w : World} {s p : Nat} {A : Option Addr} {n c : Nat} {x : Ex} (hx : ExAt w (fun q => q = p) p x) (hs : Blk w s 66 #[.pointer (some ⟨p, 0, none⟩), .slice A n c, .slice none 0 0]) (hne : s ≠ p) : SdAt w (fun q => q = s ∨ q = p) s p A n c ⟨x, []⟩ :=
  ⟨.inl rfl, fun q hq => by
    rcases hq with hq | hq
    · rw [hq]; exact hs.lt
    · rw [hq]; exact hx.lt, fun q => q = p, none, 0, 0, hs, by simpa [cellsBy] using World.ownsRow_nil w 0 43 7, hx, fun q hq => ⟨.inr hq, by rw [hq]; exact Ne.symm hne⟩, fun g hg => by cases hg⟩
theorem duo_fin {n0 n1 n2 n3 : Int} {A : Option Addr} {n c : Nat} {A' : Option Addr} {n' c' : Nat} {w W : World} {s p s' p' : Nat} (X : ExAt W (fun q => q = p) p (newE n0 n1 n2)) (X' : ExAt W (fun q => q = p') p' (newE n1 n0 n3))
    (K : Blk W s 66 #[.pointer (some ⟨p, 0, none⟩), .slice A n c, .slice none 0 0]) (K' : Blk W s' 66 #[.pointer (some ⟨p', 0, none⟩), .slice A' n' c', .slice none 0 0])
    (h1 : s ≠ p) (h2 : s' ≠ p') (h3 : s ≠ s' ∧ s ≠ p' ∧ p ≠ s' ∧ p ≠ p') (h4 : w.heap.size ≤ s ∧ w.heap.size ≤ p ∧ w.heap.size ≤ s' ∧ w.heap.size ≤ p') (hB : Below w.heap.size w W) : DuoQ n0 n1 n2 n3 A n c A' n' c' w (.returned (.tuple #[.pointer (some ⟨s, 0, none⟩), .pointer (some ⟨s', 0, none⟩)])) W := by
  refine ⟨_, _, s, p, s', p', rfl, side_new X K h1, side_new X' K' h2, fun q hq => ?_, fun q hq => ?_, hB⟩
  · refine ⟨by rcases hq with hq | hq <;> omega, fun e => ?_⟩
    rcases hq with hq | hq <;> rcases e with e | e <;> omega
  · refine ⟨by rcases hq with hq | hq <;> omega, fun e => ?_⟩
    rcases hq with hq | hq <;> rcases e with e | e <;> omega
set_option maxRecDepth 8000 in
set_option maxHeartbeats 8000000 in
theorem two_any (n0 n1 n2 n3 : Int) (A : Option Addr) (n c : Nat) (A' : Option Addr) (n' c' : Nat) (w : World) : Calls Try.prog 32 #[.agg #[.int .i64 n0, .int .i64 n1, .int .i64 n2, .int .i64 n3], .agg #[.slice A n c, .slice A' n' c']] w (DuoQ n0 n1 n2 n3 A n c A' n' c' w) := by
  generalize hQ : DuoQ n0 n1 n2 n3 A n c A' n' c' w = Q
  have HQ := Lib.hid hQ
  have B1 := (Below.refl w.heap.size w).alloc (Nat.le_refl _) (.cells #[.int .i64 n0, .int .i64 n1, .int .i64 n2, .int .i64 n3] 58)
  have B2 := Lib.hid (B1.alloc (by simp) (.cells #[.slice A n c, .slice A' n' c'] 59))
  have M2 := Lib.hid ((Blk.new w 58 #[.int .i64 n0, .int .i64 n1, .int .i64 n2, .int .i64 n3]).alloc (.cells #[.slice A n c, .slice A' n' c'] 59))
  have N2 := Lib.hid (show Blk ((w.alloc (.cells #[.int .i64 n0, .int .i64 n1, .int .i64 n2, .int .i64 n3] 58)).alloc (.cells #[.slice A n c, .slice A' n' c'] 59)) (w.heap.size + 1) 59 #[.slice A n c, .slice A' n' c'] by
    have := Blk.new (w.alloc (.cells #[.int .i64 n0, .int .i64 n1, .int .i64 n2, .int .i64 n3] 58)) 59 #[.slice A n c, .slice A' n' c']
    simpa using this)
  clear hQ B1
  go_enter Try.func32, Try.ntmps32
  go_wp2_with fail
  generalize (w.alloc (.cells #[.int .i64 n0, .int .i64 n1, .int .i64 n2, .int .i64 n3] 58)).alloc (.cells #[.slice A n c, .slice A' n' c'] 59) = w2 at *
  obtain ⟨m0, m1, m2, m3⟩ := M2.out.four
  have k0 : w2.cell? ⟨w.heap.size + 1, 0, none⟩ = some (.slice A n c) := N2.out.cell 0
  have k1 : w2.cell? ⟨w.heap.size + 1, 1, none⟩ = some (.slice A' n' c') := N2.out.cell 1
  have hml := M2.out.lt
  have hnl := N2.out.lt
  have BR : Below w2.heap.size w2 w2.drew := ⟨rfl, rfl, rfl, Nat.le_refl _, fun _ _ => rfl⟩
  go_region_held3 (fun w' => Below w2.heap.size w2 w' ∧ (∀ b o, b < w2.heap.size → w'.cell? ⟨b, o, none⟩ = w2.cell? ⟨b, o, none⟩)) ((refine keepS ?_; first | with_reducible exact BR | with_reducible exact BR5 | with_reducible exact Below.alloc BR5 BR5.size _ | with_reducible exact BR6 | with_reducible exact Below.alloc BR6 BR6.size _ | with_reducible exact Below.alloc (Below.alloc BR6 BR6.size _) (Below.alloc BR6 BR6.size _).size _)) (first | (go_at_call 27; refine (newX_any _ _ _ _).mono ?_; first | (have hsecond := BR5; rintro e6 w6 ⟨rfl, hx6, hb6⟩; have hz6 := hx6.lt; first | (have BR6 := BR5.trans (show Below w2.heap.size w5 w6 from Below.mono hb6 BR5.size)) | (have BR6 := (Below.alloc BR5 BR5.size (.cells #[.pointer (some ⟨w2.heap.size, 0, none⟩), .slice A n c, .slice none 0 0] 66)).trans (show Below w2.heap.size _ w6 from Below.mono hb6 (Below.alloc BR5 BR5.size _).size))) | (rintro e5 w5 ⟨rfl, hx5, hb5⟩; have BR5 := BR.trans (show Below w2.heap.size w2.drew w5 from hb5); have hz5 := hx5.lt)))
  · clear m0 m1 m2 m3 k0 k1
    have h2 := B2.out.size
    have e5 : w2.drew.heap.size = w2.heap.size := rfl
    have ea : (w5.alloc (.cells #[.pointer (some ⟨w2.heap.size, 0, none⟩), .slice A n c, .slice none 0 0] 66)).heap.size = w5.heap.size + 1 := by simp
    have eb : (w6.alloc (.cells #[.pointer (some ⟨w5.heap.size + 1, 0, none⟩), .slice A' n' c', .slice none 0 0] 66)).heap.size = w6.heap.size + 1 := by simp
    rw [ea] at hx6 hz6 hb6
    rw [e5] at hx5 hz5
    have X1 := (hx5.below ((Below.refl w5.heap.size w5).alloc (Nat.le_refl _) (.cells #[.pointer (some ⟨w2.heap.size, 0, none⟩), .slice A n c, .slice none 0 0] 66))).below (by rw [ea]; exact hb6)
    have X2 := X1.below ((Below.refl w6.heap.size w6).alloc (Nat.le_refl _) (.cells #[.pointer (some ⟨w5.heap.size + 1, 0, none⟩), .slice A' n' c', .slice none 0 0] 66))
    have Y2 := hx6.below ((Below.refl w6.heap.size w6).alloc (Nat.le_refl _) (.cells #[.pointer (some ⟨w5.heap.size + 1, 0, none⟩), .slice A' n' c', .slice none 0 0] 66))
    have K2 := ((Blk.new w5 66 #[.pointer (some ⟨w2.heap.size, 0, none⟩), .slice A n c, .slice none 0 0]).below hb6 (by omega)).alloc (.cells #[.pointer (some ⟨w5.heap.size + 1, 0, none⟩), .slice A' n' c', .slice none 0 0] 66)
    have L2 := Blk.new w6 66 #[.pointer (some ⟨w5.heap.size + 1, 0, none⟩), .slice A' n' c', .slice none 0 0]
    have BF := B2.out.trans (Below.mono (BR6.alloc BR6.size (.cells #[.pointer (some ⟨w5.heap.size + 1, 0, none⟩), .slice A' n' c', .slice none 0 0] 66)) h2)
    clear BR BR5 BR6 hsecond hb5 hb6
    go_wp2
    show Q (.returned (.tuple #[.pointer (some ⟨w5.heap.size, 0, none⟩), .pointer (some ⟨w6.heap.size, 0, none⟩)])) _
    rw [← HQ.out]
    exact duo_fin X2 Y2 K2 L2 (by omega) (by omega) (by omega) (by omega) BF
  · clear m0 m1 m2 m3 k0 k1
    have h2 := B2.out.size
    have e5 : w2.drew.heap.size = w2.heap.size := rfl
    rw [e5] at hx5 hz5
    have ew : (w6.alloc (.cells #[.pointer (some ⟨w2.heap.size, 0, none⟩), .slice A n c, .slice none 0 0] 66)).heap.size = w6.heap.size + 1 := by simp
    have hA := ((Below.refl w6.heap.size w6).alloc (Nat.le_refl _) (.cells #[.pointer (some ⟨w2.heap.size, 0, none⟩), .slice A n c, .slice none 0 0] 66)).alloc (by simp) (.cells #[.pointer (some ⟨w5.heap.size, 0, none⟩), .slice A' n' c', .slice none 0 0] 66)
    have X2 := (hx5.below hb6).below hA
    have Y2 := hx6.below hA
    have K2 := (Blk.new w6 66 #[.pointer (some ⟨w2.heap.size, 0, none⟩), .slice A n c, .slice none 0 0]).alloc (.cells #[.pointer (some ⟨w5.heap.size, 0, none⟩), .slice A' n' c', .slice none 0 0] 66)
    have L2 := Blk.new (w6.alloc (.cells #[.pointer (some ⟨w2.heap.size, 0, none⟩), .slice A n c, .slice none 0 0] 66)) 66 #[.pointer (some ⟨w5.heap.size, 0, none⟩), .slice A' n' c', .slice none 0 0]
    rw [ew] at L2
    have BF := B2.out.trans (Below.mono (BR6.trans (Below.mono hA BR6.size)) h2)
    clear BR BR5 BR6 hsecond hb5 hb6 hA
    go_wp2
    show Q (.returned (.tuple #[.pointer (some ⟨w6.heap.size, 0, none⟩), .pointer (some ⟨w6.heap.size + 1, 0, none⟩)])) _
    rw [← HQ.out]
    exact duo_fin X2 Y2 K2 L2 (by omega) (by omega) (by omega) (by omega) BF
  · clear m0 m1 m2 m3 k0 k1
    have h2 := B2.out.size
    have e5 : w2.drew.heap.size = w2.heap.size := rfl
    rw [e5] at hx5 hz5
    have ew : (w6.alloc (.cells #[.pointer (some ⟨w5.heap.size, 0, none⟩), .slice A' n' c', .slice none 0 0] 66)).heap.size = w6.heap.size + 1 := by simp
    have hA := ((Below.refl w6.heap.size w6).alloc (Nat.le_refl _) (.cells #[.pointer (some ⟨w5.heap.size, 0, none⟩), .slice A' n' c', .slice none 0 0] 66)).alloc (by simp) (.cells #[.pointer (some ⟨w2.heap.size, 0, none⟩), .slice A n c, .slice none 0 0] 66)
    have X2 := (hx5.below hb6).below hA
    have Y2 := hx6.below hA
    have K2 := (Blk.new w6 66 #[.pointer (some ⟨w5.heap.size, 0, none⟩), .slice A' n' c', .slice none 0 0]).alloc (.cells #[.pointer (some ⟨w2.heap.size, 0, none⟩), .slice A n c, .slice none 0 0] 66)
    have L2 := Blk.new (w6.alloc (.cells #[.pointer (some ⟨w5.heap.size, 0, none⟩), .slice A' n' c', .slice none 0 0] 66)) 66 #[.pointer (some ⟨w2.heap.size, 0, none⟩), .slice A n c, .slice none 0 0]
    rw [ew] at L2
    have BF := B2.out.trans (Below.mono (BR6.trans (Below.mono hA BR6.size)) h2)
    clear BR BR5 BR6 hsecond hb5 hb6 hA
    go_wp2
    show Q (.returned (.tuple #[.pointer (some ⟨w6.heap.size + 1, 0, none⟩), .pointer (some ⟨w6.heap.size, 0, none⟩)])) _
    rw [← HQ.out]
    exact duo_fin X2 Y2 L2 K2 (by omega) (by omega) (by omega) (by omega) BF
end Go.Proofs.Ytfdfdmbnggpnbaa
namespace Go.Proofs.Ytfdfdmbnggpnbaa
open Go.RowKit Go.Lib Go.Sort Go.Deep

theorem place_ex (K : List Hd) (x : Hd) : ∀ k, k ≤ K.length → Above K k x → ∃ j, Above K j x ∧ (j = 0 ∨ ∃ y, K[j - 1]? = some y ∧ lessH x y = false)
  | 0, _, h => ⟨0, h, .inl rfl⟩
  | k + 1, hk, h => by
    have hy : K[k]? = some (K[k]'(by omega)) := List.getElem?_eq_getElem (by omega)
    cases hl : lessH x (K[k]'(by omega))
    · exact ⟨k + 1, h, .inr ⟨_, hy, hl⟩⟩
    · exact place_ex K x k (by omega) (h.step hy hl)
theorem order_rev : ∀ R : List Hd, ∃ K, Ord lessH K ∧ Stab lessH R.reverse K
  | [] => ⟨[], List.Pairwise.nil, Stab.refl _⟩
  | x :: R => by
    obtain ⟨K, h1, h2⟩ := order_rev R
    obtain ⟨j, h3, h4⟩ := place_ex K x K.length (Nat.le_refl _) (Above.end_ K _)
    refine ⟨insAt K j x, h3.ord h1 h4, ?_⟩
    rw [List.reverse_cons]
    exact (h2.app (Stab.refl [x])).trans h3.stab
theorem order_ex (L : List Hd) : ∃ K, Ord lessH K ∧ Stab lessH L K := by
  have := order_rev L.reverse
  rwa [List.reverse_reverse] at this
theorem told_ex (S : List La) : ∃ K, Told S K := order_ex (toldL S)
/-- Two sides in memory, on blocks from B on, none on one of the other's. -/
def DuoAt (w : World) (B s p s' p' : Nat) (A : Option Addr) (n c : Nat) (A' : Option Addr) (n' c' : Nat) (a b : Sd) : Prop :=
  ∃ F G : Nat → Prop, SdAt w F s p A n c a ∧ SdAt w G s' p' A' n' c' b ∧ (∀ q, F q → B ≤ q ∧ ¬ G q) ∧ (∀ q, G q → B ≤ q ∧ ¬ F q)
section
variable {w w' : World} {B s p s' p' : Nat} {A A' : Option Addr} {n c n' c' : Nat} {a b : Sd} {S : List La} {K : List Hd}
theorem DuoAt.below (h : DuoAt w B s p s' p' A n c A' n' c' a b) (hb : Below w.heap.size w w') : DuoAt w' B s p s' p' A n c A' n' c' a b := by
  obtain ⟨F, G, h1, h2, h3, h4⟩ := h
  exact ⟨F, G, h1.below hb, h2.below hb, h3, h4⟩
theorem DuoAt.drewN (h : DuoAt w B s p s' p' A n c A' n' c' a b) (q : Nat) : DuoAt (w.drewN q) B s p s' p' A n c A' n' c' a b := h.below ⟨rfl, rfl, rfl, Nat.le_refl _, fun _ _ => rfl⟩
theorem DuoAt.swap (h : DuoAt w B s p s' p' A n c A' n' c' a b) : DuoAt w B s' p' s p A' n' c' A n c b a := by
  obtain ⟨F, G, h1, h2, h3, h4⟩ := h
  exact ⟨G, F, h2, h1, h4, h3⟩
theorem duo_first (h : DuoAt w B s p s' p' A n c A' n' c' a b) (hS : Las w B A n S) (hBw : B ≤ w.heap.size) (hn : n ≤ 100) (hK : Told S K) (ht : a.took.length ≤ 1000) :
    Calls Try.prog 33 #[.pointer (some ⟨s, 0, none⟩), .pointer (some ⟨s', 0, none⟩)] w fun e w' => e = .returned (.bool (decide (hearsC K a b ≠ 3))) ∧ DuoAt w' B s p s' p' A n c A' n' c' (hearsS K a b) b ∧ Below B w w' := by
  obtain ⟨F, G, h1, h2, h3, h4⟩ := h
  refine (hears_any h1 h2 hS hBw (fun q hq => (h3 q hq).1) hn hK ht).mono ?_
  rintro e w1 ⟨rfl, ha, hc⟩
  refine ⟨rfl, ⟨Fp F w w1, G, ha, h2.chg hc (fun q hq => (h4 q hq).2), fun q hq => ?_, fun q hq => ⟨(h4 q hq).1, fun e => ?_⟩⟩, hc.to_below (fun q hq => (h3 q hq).1) hBw⟩
  · rcases hq with hq | hq
    · exact h3 q hq
    · exact ⟨by omega, fun e => by have := h2.bound q e; omega⟩
  · rcases e with e | e
    · exact (h4 q hq).2 e
    · have := h2.bound q hq
      omega
theorem DuoAt.side (h : DuoAt w B s p s' p' A n c A' n' c' a b) : w.cell? ⟨s, 0, none⟩ = some (.pointer (some ⟨p, 0, none⟩)) ∧ s < w.heap.size ∧ (∃ E, ExAt w E p a.x) ∧
    ∃ (At : Option Addr) (nt ct : Nat), w.cell? ⟨s, 2, none⟩ = some (.slice At nt ct) ∧ nt = a.took.length ∧ Hds w w.heap.size At nt a.took ∧ nt ≤ ct ∧ ct ≤ maxLen := by
  obtain ⟨F, G, h1, -, -, -⟩ := h
  obtain ⟨E, At, nt, ct, hb, ho, hx, -, -⟩ := h1.mem
  refine ⟨hb.cell 0, hb.lt, ⟨E, hx⟩, At, nt, ct, hb.cell 2, (own_lenH encHd_len (by omega) ho).symm, own_hds ho, ?_⟩
  rcases ho.2 with ⟨hv, hz⟩ | ⟨g, cap, cur, hv, hb, hg, h1, h2, h3, h4⟩
  · cases hv
    unfold maxLen
    omega
  · cases hv
    exact ⟨h1, h2⟩
theorem duo_new {n0 n1 n2 n3 : Int} {e : Ending} (h : DuoQ n0 n1 n2 n3 A n c A' n' c' w e w') (hB : B ≤ w.heap.size) :
    ∃ s p s' p', e = .returned (.tuple #[.pointer (some ⟨s, 0, none⟩), .pointer (some ⟨s', 0, none⟩)]) ∧ DuoAt w' B s p s' p' A n c A' n' c' ⟨newE n0 n1 n2, []⟩ ⟨newE n1 n0 n3, []⟩ ∧ Below w.heap.size w w' := by
  obtain ⟨F, G, s, p, s', p', he, h1, h2, h3, h4, h5⟩ := h
  exact ⟨s, p, s', p', he, ⟨F, G, h1, h2, fun q hq => ⟨Nat.le_trans hB (h3 q hq).1, (h3 q hq).2⟩, fun q hq => ⟨Nat.le_trans hB (h4 q hq).1, (h4 q hq).2⟩⟩, h5⟩
end
end Go.Proofs.Ytfdfdmbnggpnbaa
namespace Go.Proofs.Ytfdfdmbnggpnbaa
open Go.ChangeShapes Go.WideShapes Go.RowKit Go.Deep
set_option maxRecDepth 20000

/-- From place p of block b on there lies a piece with so many heads. -/
def DdW (w : World) (_B b p : Nat) (d : Pc × Nat) : Prop := ∃ (A : Option Addr) (c : Nat), w.rangeAt b p [.bool d.1.init, .bool d.1.more, .bool d.1.master, .int .i64 d.1.seq, .slice A d.2 c] ∧ -9223372036854775808 ≤ d.1.seq ∧ d.1.seq ≤ 9223372036854775807 ∧ d.2 ≤ c ∧ c ≤ maxLen
def Dds (w : World) (B : Nat) (A : Option Addr) (n : Nat) (L : List (Pc × Nat)) : Prop := Arr 5 DdW w B A n L
/-- A list of booleans. -/
def Bls (w : World) (B : Nat) (A : Option Addr) (n : Nat) (L : List Bool) : Prop := Arr 1 (fun w _ b p (z : Bool) => w.cell? ⟨b, p, none⟩ = some (.bool z)) w B A n L
theorem Dds.below {w w' : World} {B n : Nat} {A : Option Addr} {L : List (Pc × Nat)} (h : Dds w B A n L) (hb : Below B w w') : Dds w' B A n L := by
  refine ⟨h.1, fun hn => ?_⟩
  obtain ⟨b, o, e, hbl, hat⟩ := h.2 hn
  refine ⟨b, o, e, hbl, fun j x hx => ?_⟩
  obtain ⟨A', c, hr, h1⟩ := hat j x hx
  exact ⟨A', c, fun i v hv => (hb.cell (p := ⟨b, _, none⟩) hbl).trans (hr i v hv), h1⟩
theorem Bls.below {w w' : World} {B n : Nat} {A : Option Addr} {L : List Bool} (h : Bls w B A n L) (hb : Below B w w') : Bls w' B A n L := by
  refine ⟨h.1, fun hn => ?_⟩
  obtain ⟨b, o, e, hbl, hat⟩ := h.2 hn
  exact ⟨b, o, e, hbl, fun j x hx => (hb.cell (p := ⟨b, _, none⟩) hbl).trans (hat j x hx)⟩
section
variable {H : Type} {enc : TypeId × Value → H} {w : World} {base : Nat} {held : Bool} {fuel : Nat}
end
end Go.Proofs.Ytfdfdmbnggpnbaa
namespace Go.Proofs.Ytfdfdmbnggpnbaa
open Go.RowKit Go.Lib Go.Sort Go.Deep

theorem bls_item {w : World} {B n k : Nat} {A : Option Addr} {L : List Bool} (h : Bls w B A n L) (hk : k < n) : ∃ (b o : Nat) (x : Bool), A = some ⟨b, o, none⟩ ∧ b < B ∧ L[k]? = some x ∧ w.cell? ⟨b, o + k, none⟩ = some (.bool x) := by
  obtain ⟨b, o, x, rfl, hb, hx, hh⟩ := Arr.at h hk
  rw [Nat.mul_one] at hh
  exact ⟨b, o, x, rfl, hb, hx, hh⟩
theorem self_hear1 {w : World} {B s p s' p' : Nat} {A A' : Option Addr} {n c n' c' : Nat} {S : List La} {a b : Sd} (h : DuoAt w B s p s' p' A n c A' n' c' a b) (hS : Las w B A n S) (hBw : B ≤ w.heap.size) (hn : n ≤ 100) (ht : a.took.length ≤ 1000)
    (ha : a.x.agreed = false) (hs : a.x.self = a.x.other) :
    Calls Try.prog 33 #[.pointer (some ⟨s, 0, none⟩), .pointer (some ⟨s', 0, none⟩)] w fun e w' => e = .returned (.bool true) ∧ DuoAt w' B s p s' p' A n c A' n' c' a b ∧ Below B w w' := by
  obtain ⟨K, hK⟩ := told_ex S
  refine (duo_first h hS hBw hn hK ht).mono ?_
  rintro e w1 ⟨rfl, hd, hb⟩
  obtain ⟨h1, h2⟩ := self_hears (y := b) (K := K) ha hs
  rw [h2] at hd
  exact ⟨by rw [h1]; rfl, hd, hb⟩
set_option maxRecDepth 20000 in
set_option maxHeartbeats 16000000 in
theorem self_walk (n0 n1 n2 : Int) {w : World} {A : Option Addr} {n c : Nat} {T : List La} {Ab : Option Addr} {nb cb : Nat} {Lb : List Bool} (hT : Las w w.heap.size A n T) (hn : n ≤ maxLen) (hL : Bls w w.heap.size Ab nb Lb) (hnb : nb ≤ maxLen) :
    Calls Try.prog 9 #[.agg #[.int .i64 n0, .int .i64 n1, .int .i64 n2], .slice A n c, .slice Ab nb cb] w fun e w' => e = .returned (.bool true) ∧ Below w.heap.size w w' := by
  have HT := Lib.hid hT
  have HL := Lib.hid hL
  have HN := Lib.hid hn
  have B0 := Lib.hid ((Below.refl w.heap.size w).alloc (Nat.le_refl _) (.cells #[.int .i64 n0, .int .i64 n1, .int .i64 n2] 46))
  have N0 := Lib.hid (Blk.new w 46 #[.int .i64 n0, .int .i64 n1, .int .i64 n2])
  unfold maxLen at hnb
  clear hT hL hn
  go_enter Try.func9, Try.ntmps9
  go_wp2_with fail
  refine (wakes14 _).mono ?_
  rintro e1 w1 ⟨rfl, hb1⟩
  have B1 := Lib.hid (B0.out.trans (hb1.mono B0.out.size))
  have N1 := Lib.hid (N0.out.below hb1 N0.out.lt)
  clear hb1 B0 N0
  go_wp2_with fail
  refine (many14 A n c T w.heap.size w1 (HT.out.below B1.out) B1.out.size HN.out).mono ?_
  rintro e2 w2 ⟨⟨t, rfl, ht⟩, hb2⟩
  have B2 := Lib.hid (B1.out.trans (hb2.mono B1.out.size))
  have N2 := Lib.hid (N1.out.below hb2 N1.out.lt)
  clear hb2 B1 N1
  cases t
  case true =>
    go_wp2
    go_ret
    exact ⟨rfl, B2.out⟩
  obtain ⟨hn60, -⟩ := ht rfl
  clear ht HN
  by_cases hnb2 : 100 < nb
  · have d1 : decide (100 < (nb : Int)) = true := by simp; omega
    go_wp2
    go_ret
    exact ⟨rfl, B2.out⟩
  have d1 : decide (100 < (nb : Int)) = false := by simp; omega
  obtain ⟨n0', n1', n2'⟩ := N2.out.three
  have hnl := N2.out.lt
  go_wp2_with fail
  refine (two_any n0 n0 n1 n2 A n c A n c _).mono ?_
  rintro e3 w3 h3
  obtain ⟨s, p, s', p', rfl, hd3, hb3⟩ := duo_new h3 B2.out.size
  have D3 := Lib.hid hd3
  have B3 := Lib.hid (B2.out.trans (hb3.mono B2.out.size))
  clear h3 hd3 hb3 n0' n1' n2' hnl N2 B2
  go_wp2_with fail
  go_loopw [38] (fun s38 wr => ∃ k : Nat, s38 = .int .i64 k ∧ k ≤ nb ∧ Hid (DuoAt wr w.heap.size s p s' p' A n c A n c ⟨newE n0 n0 n1, []⟩ ⟨newE n0 n0 n2, []⟩) ∧ Hid (Below w.heap.size w wr)) (fun s38 _ => nb - (intOf s38).toNat)
  case atStart => exact ⟨0, rfl, Nat.zero_le _, D3, B3⟩
  case round =>
    clear D3 B3
    obtain ⟨k, rfl, hk, DR, BR⟩ := hrel
    by_cases hlt : k < nb
    · have hlt' : (k : Int) < (nb : Int) := by omega
      obtain ⟨bb, bo, x, rfl, hbb, hx, hcell⟩ := bls_item (HL.out.below BR.out) hlt
      have hbl : bb < wr.heap.size := Nat.lt_of_lt_of_le hbb BR.out.size
      clear hx
      cases x
      · go_wp2_with fail
        refine (self_hear1 DR.out.swap (HT.out.below BR.out) BR.out.size (by omega) (Nat.zero_le _) rfl rfl).mono ?_
        rintro e4 w4 ⟨rfl, hd4, hb4⟩
        have D4 := Lib.hid hd4.swap
        have B4 := Lib.hid (BR.out.trans hb4)
        clear hd4 hb4 DR BR hcell hbl
        obtain ⟨c0, hsl, ⟨E, hx⟩, -⟩ := D4.out.side
        obtain ⟨c0', hsl', ⟨E', hx'⟩, -⟩ := D4.out.swap.side
        obtain ⟨h, hB, -⟩ := hx.mem
        obtain ⟨h', hB', -⟩ := hx'.mem
        clear hx hx'
        go_wp2_with fail
        refine (agreedX hB).mono ?_
        rintro e5 w5 ⟨rfl, h5⟩
        rw [h5]
        clear h5 w5
        go_wp2_with fail
        refine (agreedX hB').mono ?_
        rintro e5 w5 ⟨rfl, h5⟩
        rw [h5]
        clear h5 w5 hB hB' c0 c0' hsl hsl'
        go_wp2
        go_roundw
        case rel => exact ⟨k + 1, by go_num, by omega, D4, B4⟩
        case measure => simp [intOf]; omega
      · go_wp2_with fail
        refine (self_hear1 DR.out (HT.out.below BR.out) BR.out.size (by omega) (Nat.zero_le _) rfl rfl).mono ?_
        rintro e4 w4 ⟨rfl, hd4, hb4⟩
        have D4 := Lib.hid hd4
        have B4 := Lib.hid (BR.out.trans hb4)
        clear hd4 hb4 DR BR hcell hbl
        obtain ⟨c0, hsl, ⟨E, hx⟩, -⟩ := D4.out.side
        obtain ⟨c0', hsl', ⟨E', hx'⟩, -⟩ := D4.out.swap.side
        obtain ⟨h, hB, -⟩ := hx.mem
        obtain ⟨h', hB', -⟩ := hx'.mem
        clear hx hx'
        go_wp2_with fail
        refine (agreedX hB).mono ?_
        rintro e5 w5 ⟨rfl, h5⟩
        rw [h5]
        clear h5 w5
        go_wp2_with fail
        refine (agreedX hB').mono ?_
        rintro e5 w5 ⟨rfl, h5⟩
        rw [h5]
        clear h5 w5 hB hB' c0 c0' hsl hsl'
        go_wp2
        go_roundw
        case rel => exact ⟨k + 1, by go_num, by omega, D4, B4⟩
        case measure => simp [intOf]; omega
    · have hlt' : ¬ (k : Int) < (nb : Int) := by omega
      obtain ⟨c0, hsl, -, At, nt, ct, c2, h0, -, -, -⟩ := DR.out.side
      obtain ⟨c0', hsl', -, At', nt', ct', c2', h0', -, -, -⟩ := DR.out.swap.side
      obtain rfl : nt = 0 := h0
      obtain rfl : nt' = 0 := h0'
      go_wp2_with fail
      go_quiet (fail)
      go_wp2
      go_ret
      exact ⟨rfl, belowD BR.out⟩
end Go.Proofs.Ytfdfdmbnggpnbaa
