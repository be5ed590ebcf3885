/- Pieces in a row, one more ahead of them; one of two sides hears a piece of anybody's. Conditions: what the words say. -/
import Derived.Test.YtjinleakjkbbgaaBt
import Derived.Test.YtjinleakjkbbgaaBq
namespace Go.Proofs.Ytjinleakjkbbgaa
open Go.RowKit Go.Lib Go.Sort Go.Deep

theorem dds_itemE {w : World} {B n k : Nat} {A : Option Addr} {L : List (Pc × Nat)} (h : Dds w B A n L) (hk : k < n) : ∃ (b o : Nat) (d : Pc × Nat) (Ah : Option Addr) (ch : Nat), A = some ⟨b, o, none⟩ ∧ b < B ∧ w.rangeAt b (o + k * 5) [.bool d.1.init, .bool d.1.more, .bool d.1.master, .int .i64 d.1.seq, .slice Ah d.2 ch] ∧ -9223372036854775808 ≤ d.1.seq ∧ d.1.seq ≤ 9223372036854775807 := by
  obtain ⟨b, o, d, rfl, hb, hx, Ah, ch, hr, h1, h2, -⟩ := Arr.at h hk
  exact ⟨b, o, d, Ah, ch, rfl, hb, hr, h1, h2⟩
theorem wpList_append_atE {w : World} {ops : Array Oper} {rest : List Oper} {o : Oper} {a : Act} {Q : Exit → Act → World → Prop} (hgd : o.guard = none) (s x : Operand) (t e : TypeId) (z : Value) (size bytes : Nat)
    (ht : Try.prog.underlying t = some (.slice e)) (hinfo : (Try.prog.info? e).map (fun i => (i.zero, i.size, i.bytes)) = some (some z, size, bytes)) (hzs : z.cells.size = size) (hsz : 0 < size) (hby : bytes ≤ 1024)
    (ho : o.op = .call { callee := .builtin .append, args := #[s, x], argTypes := #[t, t] }) (base : Nat) (v : Value) (n : Nat) (xs : List Value) (hs : a.eval s = v) (hown : w.ownsRow base e size v n xs)
    (A : Option Addr) (m c : Nat) (news : List Value) (hx : a.eval x = .slice A m c) (hl : news.length = m * size) (hA : A = none → m = 0)
    (hnews : ∀ ad, A = some ad → ∀ j u, news[j]? = some u → w.cell? (ad.add j) = some u) (h1 : ∀ u ∈ news, u.oneCell' = true) (hz : n + m ≤ 1048576) (hbase : base ≤ w.heap.size)
    (h : ∀ v' w', Hid (w'.ownsRow base e size v' (n + m) (xs ++ news)) → Hid (w.grownBy w' v.ownBlock) → Hid (v'.ownBlock = v.ownBlock ∨ v'.ownBlock = some w.heap.size) → wpList Try.prog ops Q rest (a.put o.dst v') w') : wpList Try.prog ops Q (o :: rest) a w := by
  refine wpList_plain hgd fun K hK => ?_
  obtain ⟨v', w', hrun, h2, h3, h4⟩ := run_append_at w t e o.type z size bytes ht hinfo hzs hsz hby base v n xs hown A m c news hl hA hnews h1 hz hbase
  unfold Oper.wp execOp
  simp only [ho, resolve, invoke, builtin, Sem.run_bind, Sem.run_pure, Result.andThen_ok, List.map_toArray, List.map_cons, List.map_nil, hs, hx, hrun]
  exact hK _ _ (h v' w' h2 h3 h4)
theorem dd_onesE (i m s : Bool) (q : Int) (A : Option Addr) (n c : Nat) : ∀ u ∈ [Value.bool i, .bool m, .bool s, .int .i64 q, .slice A n c], u.oneCell' = true := by
  intro u hu
  simp at hu
  rcases hu with rfl | rfl | rfl | rfl | rfl <;> rfl
theorem belowD1E {B : Nat} {w w' : World} (h : Below B w w') : Below B w w'.drew := ⟨h.os, h.tape, h.output, h.size, h.block⟩
theorem own_ltE {w : World} {base n size q : Nat} {t : TypeId} {v : Value} {xs : List Value} (h : w.ownsRow base t size v n xs) (hq : v.ownBlock = some q) : q < w.heap.size := by
  rcases h.2 with ⟨hv, _⟩ | ⟨g, cap, cur, hv, hb, hg, -⟩
  · subst hv
    cases hq
  · subst hv
    have h2 : some g = some q := hq
    injection h2 with h2
    rw [← h2]
    exact (Array.getElem?_eq_some_iff.1 hg).1
abbrev D4 := Pc × Option Addr × Nat × Nat
def encD (d : D4) : List Value := [.bool d.1.init, .bool d.1.more, .bool d.1.master, .int .i64 d.1.seq, .slice d.2.1 d.2.2.1 d.2.2.2]
theorem encD_len (d : D4) : (encD d).length = 5 := rfl
theorem encD_ones (d : D4) : ∀ u ∈ encD d, u.oneCell' = true   := dd_onesE _ _ _ _ _ _ _
theorem infoDd : (Try.prog.info? 33).map (fun i => (i.zero, i.size, i.bytes)) = some (some (.agg #[.bool false, .bool false, .bool false, .int .i64 0, .slice none 0 0]), 5, 40) := by kernel_rfl
theorem dds_cells {w : World} {B n : Nat} {A : Option Addr} {L : List (Pc × Nat)} (h : Dds w B A n L) : ∃ M : List D4, M.length = n ∧ (A = none → n = 0) ∧ (∀ ad, A = some ad → ∀ j u, (cellsBy encD M)[j]? = some u → w.cell? (ad.add j) = some u) ∧ ∀ d ∈ M, -9223372036854775808 ≤ d.1.seq ∧ d.1.seq ≤ 9223372036854775807 := by
  have hc : ∀ i, ∃ d : D4, i < n → (∀ b o, A = some ⟨b, o, none⟩ → w.rangeAt b (o + i * 5) (encD d)) ∧ -9223372036854775808 ≤ d.1.seq ∧ d.1.seq ≤ 9223372036854775807 := fun i => by
    by_cases hi : i < n
    · obtain ⟨b, o, d, Ah, ch, e, hb, hr, h1, h2⟩ := dds_itemE h hi
      refine ⟨(d.1, Ah, d.2, ch), fun _ => ⟨fun b' o' e' => ?_, h1, h2⟩⟩
      rw [e] at e'
      injection e' with e'
      injection e' with e1 e2 e3
      subst e1 e2
      exact hr
    · exact ⟨(pc0, none, 0, 0), fun h => absurd h hi⟩
  refine ⟨(List.range n).map fun i => Classical.choose (hc i), by simp, fun e => ?_, fun ad e j u hu => ?_, fun d hd => ?_⟩
  · rcases Nat.eq_zero_or_pos n with h0 | h0
    · exact h0
    · obtain ⟨_, _, e2, _⟩ := h.2 h0
      rw [e] at e2
      cases e2
  · have hj : j < n * 5 := by
      rcases Nat.lt_or_ge j (n * 5) with hj | hj
      · exact hj
      · rw [List.getElem?_eq_none (by rw [by_length encD_len]; simpa using hj)] at hu
        cases hu
    obtain ⟨b, o, e2, -, -⟩ := h.2 (by omega)
    rw [e] at e2
    injection e2 with e2
    subst e2
    have hx : ((List.range n).map fun i => Classical.choose (hc i))[j / 5]? = some (Classical.choose (hc (j / 5))) := by
      rw [List.getElem?_map, List.getElem?_range (by omega)]
      rfl
    have hb := by_at encD_len _ _ _ hx (j % 5) (by omega)
    rw [show j / 5 * 5 + j % 5 = j by omega, hu] at hb
    have hr := (Classical.choose_spec (hc (j / 5)) (by omega)).1 b o e
    rw [addr_add, show o + j = o + j / 5 * 5 + j % 5 by omega]
    exact hr (j % 5) u hb.symm
  · obtain ⟨i, hi, rfl⟩ := List.mem_map.1 hd
    exact (Classical.choose_spec (hc i) (List.mem_range.1 hi)).2
/-- One piece of a row of the call's own. -/
theorem own_dd {w : World} {n c k : Nat} {A : Option Addr} {M : List D4} (h : w.ownsRow 0 33 5 (.slice A n c) n (cellsBy encD M)) (hk : k < n) : ∃ (g : Nat) (d : D4), A = some ⟨g, 0, none⟩ ∧ g < w.heap.size ∧ M[k]? = some d ∧ w.rangeAt g (k * 5) [.bool d.1.init, .bool d.1.more, .bool d.1.master, .int .i64 d.1.seq, .slice d.2.1 d.2.2.1 d.2.2.2] := by
  have hl := own_lenH encD_len (by omega) h
  obtain ⟨d, hd⟩ : ∃ d, M[k]? = some d := ⟨_, List.getElem?_eq_getElem (by omega)⟩
  obtain ⟨g, e, -, hg, -, -, hc⟩ := own_item encD_len (by omega) h hd
  refine ⟨g, d, e, hg, hd, fun j v hv => ?_⟩
  have hj : j < 5 := (List.getElem?_eq_some_iff.1 hv).1
  exact (hc j hj).trans hv
section
variable {w w' : World} {P : Nat → Prop} {B s p s' p' : Nat} {A A' : Option Addr} {n c n' c' : Nat} {a b : Sd} {S : List La} {K : List Hd}
/-- What the blocks of the two are. -/
theorem DuoP.blocks (h : DuoP w P s p s' p' A n c A' n' c' a b) : ∃ N : Nat → Prop, (∀ q, N q → ¬ P q ∧ q < w.heap.size) ∧ ∀ M : Nat, DuoP w (fun q => q < M ∧ ¬ N q) s p s' p' A n c A' n' c' a b := by
  obtain ⟨F, G, h1, h2, h3, h4⟩ := h
  refine ⟨fun q => F q ∨ G q, fun q hq => ?_, fun M => ⟨F, G, h1, h2, fun q hq => ⟨fun e => e.2 (.inl hq), (h3 q hq).2⟩, fun q hq => ⟨fun e => e.2 (.inr hq), (h4 q hq).2⟩⟩⟩
  rcases hq with hq | hq
  · exact ⟨(h3 q hq).1, h1.bound q hq⟩
  · exact ⟨(h4 q hq).1, h2.bound q hq⟩
theorem duoP_hear (pc : Pc) {Ah : Option Addr} {nh ch : Nat} {Al : Option Addr} {nl cl : Nat} (h : DuoP w P s p s' p' A n c A' n' c' a b) (h0 : -9223372036854775808 ≤ pc.seq) (h1 : pc.seq ≤ 9223372036854775807) (hS : Las w B Al nl S) (hBw : B ≤ w.heap.size) (hP : ∀ q, P q → q < w.heap.size) (hPB : ∀ q, q < B → P q) (hn : nl ≤ 100) (hK : Told S K) :
    Calls Try.prog 13 #[.pointer (some ⟨p, 0, none⟩), .agg #[.bool pc.init, .bool pc.more, .bool pc.master, .int .i64 pc.seq, .slice Ah nh ch], .slice Al nl cl] w fun e w' => e = .returned (.int .i64 (hearE a.x pc nh K).1) ∧ DuoP w' P s p s' p' A n c A' n' c' ⟨(hearE a.x pc nh K).2, a.took⟩ b ∧ Chg (fun q => ¬ P q) w w' := by
  obtain ⟨F, G, hA, hB, h3, h4⟩ := h
  obtain ⟨E, At, nt, ct, hb, ho, hx, hE, hg⟩ := hA.mem
  refine (hearX pc h0 h1 hx (fun q hq => hA.bound q (hE q hq).1) hS hBw (fun q hq => ?_) hn hK).mono ?_
  · rcases Nat.lt_or_ge q B with hb | hb
    · exact absurd (hPB q hb) (h3 q (hE q hq).1).1
    · exact hb
  rintro e w1 ⟨rfl, hx1, hc1⟩
  have hs := hc1.size
  refine ⟨rfl, ⟨Fp F w w1, G, ⟨.inl hA.fs, fun q hq => ?_, Fp E w w1, At, nt, ct, hb.chg hc1 (fun he => (hE s he).2 rfl), own_move ho (fun g e => hc1.block g (hA.bound g (hg g e).1) (hg g e).2.2), hx1, fun q hq => ?_, fun g e => ?_⟩, hB.chg hc1 (fun q hq e => (h4 q hq).2 (hE q e).1), fun q hq => ?_, fun q hq => ⟨(h4 q hq).1, fun e => ?_⟩⟩, hc1.wide (fun q hq => (h3 q (hE q hq).1).1)⟩
  · rcases hq with hq | hq
    · exact Nat.lt_of_lt_of_le (hA.bound q hq) hs
    · exact hq.2
  · rcases hq with hq | hq
    · exact ⟨.inl (hE q hq).1, (hE q hq).2⟩
    · exact ⟨.inr hq, by have := hb.lt; omega⟩
  · obtain ⟨g1, g2, g3⟩ := hg g e
    refine ⟨.inl g1, g2, fun e2 => ?_⟩
    rcases e2 with e2 | e2
    · exact g3 e2
    · have := hA.bound g g1
      omega
  · rcases hq with hq | hq
    · exact h3 q hq
    · exact ⟨fun e => by have := hP q e; omega, fun e => by have := hB.bound q e; omega⟩
  · rcases e with e | e
    · exact (h4 q hq).2 e
    · have := hB.bound q hq
      omega
end
end Go.Proofs.Ytjinleakjkbbgaa
