/- The reference's Bytes: a description's bytes. Conditions: the description is right, at most 50 links and 50 members. -/
import Derived.Test.YtidncajbedgplaaLsI
import Derived.Test.YtidncajbedgplaaFlE
namespace Go.Proofs.Ytidncajbedgplaa
open Go.RowKit

/-- Block x is known whole, and the row v is not in it. -/
def Keep (w : World) (v : Value) (x : Nat) (t : TypeId) (cs : Array Value) : Prop := Blk w x t cs ∧ v.ownBlock ≠ some x
theorem Keep.below {w w' : World} {v : Value} {x : Nat} {t : TypeId} {cs : Array Value} (h : Keep w v x t cs) (hb : Below w.heap.size w w') : Keep w' v x t cs := ⟨h.1.below hb h.1.lt, h.2⟩
theorem Keep.alloc {w : World} {v : Value} {x : Nat} {t : TypeId} {cs : Array Value} (h : Keep w v x t cs) (o : Obj) : Keep (w.alloc o) v x t cs := ⟨h.1.alloc o, h.2⟩
theorem keep_new {w0 w : World} {v : Value} {n : Nat} {L : List Int} (h : Acc w0 w v n L) (t : TypeId) (cs : Array Value) : Keep (w.alloc (.cells cs t)) v w.heap.size t cs :=
  ⟨Blk.new w t cs, fun e => by have := (h.1.lt _ e).2; omega⟩
theorem wpList_append_keep {w : World} {ops : Array Oper} {rest : List Oper} {o : Oper} {a : Act} {Q : Exit → Act → World → Prop} (hgd : o.guard = none) (s x : Operand)
    (ho : o.op = .call { callee := .builtin .append, args := #[s, x], argTypes := #[28, 28] }) (w0 : World) (v : Value) (n : Nat) (L : List Int) (hs : a.eval s = v) (hacc : Acc w0 w v n L)
    (xb : Nat) (t : TypeId) (cs : Array Value) (hkeep : Keep w v xb t cs)
    (B : Nat) (A : Option Addr) (m c : Nat) (l : List Int) (hx : a.eval x = .slice A m c) (hr : Row .u8 w B A m l) (n' : Nat) (hn' : n + m = n') (hz : n' ≤ 1099511627776)
    (h : ∀ v' w', Hid (Acc w0 w' v' n' (L ++ l)) → Hid (Keep w' v' xb t cs) → wpList Try.prog ops Q rest (a.put o.dst v') w') : wpList Try.prog ops Q (o :: rest) a w := by
  subst hn'
  refine wpList_append_row hgd s x ho w0.heap.size v n _ hs hacc.1 B A m c l hx hr hz hacc.2.size ?_
  intro v' w' h1 h2 h3
  refine h v' w' ⟨?_, ?_⟩ ⟨?_, ?_⟩
  · rw [List.map_append]; exact h1.out
  · exact hacc.2.grown h2.out hacc.2.size (fun k hk => (hacc.1.lt k hk).1)
  · exact (h2.out.block xb hkeep.1.lt (fun e => hkeep.2 e.symm)).trans hkeep.1
  · rcases h3.out with e | e
    · rw [e]; exact hkeep.2
    · rw [e]
      intro q
      injection q with q
      have := hkeep.1.lt
      omega
/-- A row of the call's own, as a slice value. -/
theorem Acc.form {w0 w : World} {v : Value} {n : Nat} {L : List Int} (h : Acc w0 w v n L) : ∃ A c, v = .slice A n c ∧ n ≤ c ∧ c ≤ maxLen ∧ Row .u8 w w.heap.size A n L := by
  obtain ⟨A, c, h1, h2, h3, h4, _⟩ := h.putN
  injection h1 with h1
  exact ⟨A, c, h1, h2, h3, h4⟩
theorem Acc.some {w0 w : World} {v : Value} {n : Nat} {L : List Int} (h : Acc w0 w v n L) (hn : 0 < n) : ∃ g c, v = .slice (some ⟨g, 0, none⟩) n c ∧ n ≤ c ∧ c ≤ maxLen ∧ g < w.heap.size ∧ w0.heap.size ≤ g ∧ Row .u8 w w.heap.size (some ⟨g, 0, none⟩) n L := by
  obtain ⟨g, c, rest, rfl, hg, hc, hk⟩ := own_blk h.1 hn
  obtain ⟨A', c', h1, h2, h3, h4⟩ := h.form
  injection h1 with h1 _ h5
  subst h1 h5
  exact ⟨g, c, rfl, h2, h3, hk.lt, hg, h4⟩
/-- The first m of n. -/
theorem Row.head {k : IntKind} {w : World} {B n : Nat} {A : Option Addr} {l : List Int} (h : Row k w B A n l) (m : Nat) (hm : m ≤ n) : Row k w B A m (l.take m) :=
  ⟨by have := h.1; simp; omega, fun h0 => by
    obtain ⟨b, o, e, hb, hc⟩ := h.2 (by omega)
    refine ⟨b, o, e, hb, fun j hj => ?_⟩
    have := hc j (by omega)
    simpa [List.getElem?_take, hj] using this⟩
theorem byte_kind (n : Int) : n % 256 = byteAt n 0 := by simp [byteAt]

set_option maxRecDepth 100000 in
set_option maxHeartbeats 4000000 in
theorem refLsaBytes_net (h : Hd) (L : List Lk) (M : List Int) (A A' : Option Addr) (n c n' c' B m : Nat) (w : World) (hL : L.length = n) (hM : Row .i64 w B A' n' M) (hB : B ≤ w.heap.size) (hn : n = 0) (hn' : n' ≤ 50) (hk : (h.kind == 1) = false) (hm : (lsaBytes h L M).length = m) :
    Calls Try.prog 17 #[.agg #[.int .i64 h.age, .int .i64 h.kind, .int .i64 h.id, .int .i64 h.adv, .int .i64 h.seq, .int .i64 h.sum, .int .i64 h.long, .slice A n c, .slice A' n' c']] w
    (PutA w (lsaBytes h L M) m) := by
  generalize hQ : PutA w (lsaBytes h L M) m = Q
  have HQ := Lib.hid hQ
  have HM := Lib.hid hM
  have HN := Lib.hid hM.1
  have Hm := Lib.hid hm
  have HV := Lib.hid (show bodyBytes h L M = encs 4 M by unfold bodyBytes; rw [if_neg (by simpa using hk)])
  obtain ⟨q, hq⟩ : ∃ q, n' * 4 = q := ⟨_, rfl⟩
  have hq2 : q ≤ 200 := by omega
  have Hq := Lib.hid (show (bodyBytes h L M).length = q by rw [HV.out, encs_length, HN.out, hq])
  have HQ4 := Lib.hid hq
  subst hn
  clear hQ hL hM hm hq
  have B0 := Lib.hid ((Below.refl w.heap.size w).alloc (Nat.le_refl _) (.cells #[.int .i64 h.age, .int .i64 h.kind, .int .i64 h.id, .int .i64 h.adv, .int .i64 h.seq, .int .i64 h.sum, .int .i64 h.long, .slice A 0 c, .slice A' n' c'] 27))
  have K0 := Lib.hid (Blk.new w 27 #[.int .i64 h.age, .int .i64 h.kind, .int .i64 h.id, .int .i64 h.adv, .int .i64 h.seq, .int .i64 h.sum, .int .i64 h.long, .slice A 0 c, .slice A' n' c'])
  go_enter Try.func17, Try.ntmps17
  go_wp2_with fail
  have hw0 : ∃ w0, w.alloc (.cells #[.int .i64 h.age, .int .i64 h.kind, .int .i64 h.id, .int .i64 h.adv, .int .i64 h.seq, .int .i64 h.sum, .int .i64 h.long, .slice A 0 c, .slice A' n' c'] 27) = w0 := ⟨_, rfl⟩
  obtain ⟨w0, hw0⟩ := hw0
  rw [hw0] at K0 B0 ⊢
  clear hw0
  go_loopw [3, 6] (fun b i wr => ∃ k : Nat, k ≤ n' ∧ i = .int .i64 k ∧ Hid (Acc w0 wr b (k * 4) (encs 4 (M.take k)))) (fun _ i _ => n' - (intOf i).toNat)
  case atStart => exact ⟨0, Nat.zero_le _, rfl, Lib.hid (Acc.nil (Below.refl _ _))⟩
  case round =>
    obtain ⟨k, hk2, rfl, ha⟩ := hrel
    obtain ⟨k0, k1, k2, k3, k4, k5, k6, k7, k8⟩ := (ha.out.blk K0.out).nine
    by_cases hlt : k < n'
    · obtain ⟨b, o, rfl, hbb, hc⟩ := ((HM.out.below (B0.out.mono hB)).below (ha.out.2.mono (by have := B0.out.size; omega))).2 (by omega)
      have c0 := hc k hlt
      clear hc
      generalize hy : M.getD k 0 = y at *
      have HY := Lib.hid hy
      clear hy
      go_wp2_with fail
      refine (refBytes_n y 4 4 rfl _).mono ?_
      rintro e1 w1 ⟨rfl, hb1, hr1⟩
      have C1 := Lib.hid (ha.out.below hb1)
      have R1 := Lib.hid hr1
      clear hb1 hr1 k0 k1 k2 k3 k4 k5 k6 k7 k8 c0
      go_wp2_with (at_builtin; refine wpList_append_acc rfl (.tmp 60) (.tmp 66) rfl w0 _ (k * 4) _ (by rfl) (by exact C1.out) _ _ 4 4 _ (by rfl) (by exact R1.out) ((k + 1) * 4) (by omega) (by omega) ?_; intro v2 w2 ha2)
      go_roundw
      case rel =>
        refine ⟨k + 1, by omega, by go_num, Lib.hid ?_⟩
        rw [encs_snoc 4 M k (by rw [HN.out]; exact hlt), HY.out]
        exact ha2.out
      case measure => simp [intOf]; omega
    · obtain rfl : k = n' := by omega
      have h1 := ha.out
      rw [List.take_of_length_le (by rw [HN.out]; omega), ← HV.out, HQ4.out] at h1
      have HA3 := Lib.hid h1
      clear h1 ha k0 k1 k2 k3 k4 k5 k6 k7 k8
      obtain ⟨A3, c3, rfl, hc3, hm3, hr3⟩ := HA3.out.form
      have R3 := Lib.hid hr3
      obtain ⟨k0, k1, k2, k3, k4, k5, k6, k7, k8⟩ := (HA3.out.blk K0.out).nine
      clear hr3
      go_wp2_with fail
      refine (refHeadBytes_any { h with sum := 0, long := 20 + (q : Int) } _).mono ?_
      rintro e4 w4 ⟨v4, rfl, ha4⟩
      have BB := (HA3.out.2.alloc HA3.out.2.size (.cells #[.int .i64 h.age, .int .i64 h.kind, .int .i64 h.id, .int .i64 h.adv, .int .i64 h.seq, .int .i64 0, .int .i64 (20 + (q : Int))] 23))
      have HA4 := Lib.hid (ha4.lower BB)
      have R4 := Lib.hid ((R3.out.alloc (Nat.le_refl _) _).below (ha4.2.mono (by simp)))
      clear ha4 BB k0 k1 k2 k3 k4 k5 k6 k7 k8 R3 HA3
      go_upto_region 21 with (at_builtin; refine wpList_append_acc rfl (.tmp 77) (.tmp 78) rfl w0 v4 20 _ (by rfl) (by exact HA4.out) _ _ q c3 _ (by rfl) (by exact R4.out) (20 + q) (by rfl) (by omega) ?_; intro v5 w5 ha5)
      have HRAW := Lib.hid (show headBytes { h with sum := 0, long := 20 + (q : Int) } ++ bodyBytes h L M = rawBytes h L M 0 by
        unfold rawBytes; rw [Hq.out])
      have ha := ha5.out
      rw [HRAW.out] at ha
      have HA5 := Lib.hid ha
      obtain ⟨g5, c5, rfl, hc5, hm5, hg5, hg5', hr5⟩ := ha.some (by omega)
      unfold maxLen at hm5
      have R5 := Lib.hid hr5
      have hr5b := cut_some _ _ 2 (20 + q - 2) (by omega) _ _ _ _ hr5
      rw [List.take_of_length_le (by have := rawBytes_length h L M 0; rw [Hq.out] at this; simp; omega)] at hr5b
      have R5b := Lib.hid (show Row .u8 w5 w5.heap.size (some ⟨g5, 2, none⟩) (20 + q - 2) ((rawBytes h L M 0).drop 2) from hr5b)
      clear ha ha5 HA4 R4 hr5 hr5b
      go_upto_region 23 with (at_builtin; refine wpList_append_acc rfl (.tmp 80) (.tmp 82) rfl w5 (.slice none 0 0) 0 [] (by rfl) (by exact Acc.nil (Below.refl _ _)) _ (some ⟨g5, 0, none⟩) 2 c5 _ (by rfl) (by exact R5.out.head 2 (by omega)) 2 (by rfl) (by omega) ?_; intro v6 w6 ha6)
      have R6b := Lib.hid (R5b.out.below ha6.out.2)
      have HA6 := Lib.hid (ha6.out.lower HA5.out.2)
      clear R5b R5 ha6
      go_wp2_with fail
      refine (refFfill_ok (some ⟨g5, 2, none⟩) (20 + q - 2) (c5 - 2) w5.heap.size 14 _ w6 R6b.out ((rawBytes_byt h L M 0).drop 2) (by omega) (by omega)).mono ?_
      rintro e7 w7 ⟨⟨A7, c7, rfl, hr7⟩, hb7⟩
      have HA7 := Lib.hid (HA6.out.below hb7)
      have R7 := Lib.hid hr7
      clear hr7 hb7 HA6 R6b
      go_wp2_with (at_builtin; refine wpList_append_acc rfl (.tmp 84) (.tmp 87) rfl w0 v6 2 _ (by rfl) (by exact HA7.out) _ A7 (20 + q - 2) c7 _ (by rfl) (by exact R7.out) m (by have := lsaBytes_length h L M; rw [Hm.out, Hq.out] at this; omega) (by have := lsaBytes_length h L M; rw [Hm.out, Hq.out] at this; omega) ?_; intro v8 w8 ha8)
      rw [← HQ.out]
      refine ⟨_, rfl, ?_⟩
      have h8 := ha8.out.lower B0.out
      rw [List.nil_append] at h8
      exact h8

set_option maxRecDepth 100000 in
set_option maxHeartbeats 8000000 in
theorem refLsaBytes_rt (h : Hd) (L : List Lk) (M : List Int) (A A' : Option Addr) (n c n' c' B m : Nat) (w : World) (hL : Lnk w B A n L) (hM : M.length = n') (hB : B ≤ w.heap.size) (hn : n ≤ 50) (hn' : n' = 0) (hk : (h.kind == 1) = true) (hm : (lsaBytes h L M).length = m) :
    Calls Try.prog 17 #[.agg #[.int .i64 h.age, .int .i64 h.kind, .int .i64 h.id, .int .i64 h.adv, .int .i64 h.seq, .int .i64 h.sum, .int .i64 h.long, .slice A n c, .slice A' n' c']] w
    (PutA w (lsaBytes h L M) m) := by
  generalize hQ : PutA w (lsaBytes h L M) m = Q
  have HQ := Lib.hid hQ
  have HL := Lib.hid hL
  have HN := Lib.hid hL.1
  have Hm := Lib.hid hm
  have HV := Lib.hid (show bodyBytes h L M = enc L.length 4 ++ linksBytes L by unfold bodyBytes; rw [if_pos (by simpa using hk)])
  obtain ⟨q, hq⟩ : ∃ q, 4 + n * 12 = q := ⟨_, rfl⟩
  have hq2 : q ≤ 604 := by omega
  have Hq := Lib.hid (show (bodyBytes h L M).length = q by rw [HV.out, List.length_append, enc_length, linksBytes_length, HN.out, hq])
  have HQ4 := Lib.hid hq
  subst hn'
  clear hQ hL hM hm hq
  have B0 := Lib.hid ((Below.refl w.heap.size w).alloc (Nat.le_refl _) (.cells #[.int .i64 h.age, .int .i64 h.kind, .int .i64 h.id, .int .i64 h.adv, .int .i64 h.seq, .int .i64 h.sum, .int .i64 h.long, .slice A n c, .slice A' 0 c'] 27))
  have K0 := Lib.hid (Blk.new w 27 #[.int .i64 h.age, .int .i64 h.kind, .int .i64 h.id, .int .i64 h.adv, .int .i64 h.seq, .int .i64 h.sum, .int .i64 h.long, .slice A n c, .slice A' 0 c'])
  go_enter Try.func17, Try.ntmps17
  go_wp2_with fail
  have hw0 : ∃ w0, w.alloc (.cells #[.int .i64 h.age, .int .i64 h.kind, .int .i64 h.id, .int .i64 h.adv, .int .i64 h.seq, .int .i64 h.sum, .int .i64 h.long, .slice A n c, .slice A' 0 c'] 27) = w0 := ⟨_, rfl⟩
  obtain ⟨w0, hw0⟩ := hw0
  rw [hw0] at K0 B0 ⊢
  clear hw0
  refine (refBytes_n n 4 4 rfl _).mono ?_
  rintro e1 w1 ⟨rfl, hb1, hr1⟩
  have C1 := Lib.hid ((Acc.nil (Below.refl w0.heap.size w0)).below hb1)
  have R1 := Lib.hid hr1
  clear hb1 hr1
  go_wp2_with (at_builtin; refine wpList_append_acc rfl (.tmp 14) (.tmp 18) rfl w0 (.slice none 0 0) 0 [] (by rfl) (by exact C1.out) _ _ 4 4 _ (by rfl) (by exact R1.out) 4 (by rfl) (by omega) ?_; intro v2 w2 ha)
  clear C1 R1
  go_loopw [3, 4] (fun b i wr => ∃ k : Nat, k ≤ n ∧ i = .int .i64 k ∧ Hid (Acc w0 wr b (4 + k * 12) (enc n 4 ++ linksBytes (L.take k)))) (fun _ i _ => n - (intOf i).toNat)
  case atStart => exact ⟨0, Nat.zero_le _, rfl, Lib.hid (by simpa [linksBytes] using ha.out)⟩
  case round =>
    clear ha
    obtain ⟨k, hk2, rfl, ha⟩ := hrel
    obtain ⟨k0, k1, k2, k3, k4, k5, k6, k7, k8⟩ := (ha.out.blk K0.out).nine
    by_cases hlt : k < n
    · obtain ⟨b, o, rfl, hbb, hc⟩ := ((HL.out.below (B0.out.mono hB)).below (ha.out.2.mono (by have := B0.out.size; omega))).2 (by omega)
      obtain ⟨d0, d1, d2, d3⟩ := hc k hlt
      clear hc
      generalize hk3 : L.getD k ⟨0, 0, 0, 0⟩ = kk at d0 d1 d2 d3
      have HK := Lib.hid hk3
      have KP := Lib.hid (keep_new ha.out 53 #[.int .i64 kk.kind, .int .i64 kk.id, .int .i64 kk.data, .int .i64 kk.cost])
      have HA := fun o => Lib.hid (ha.out.alloc o)
      clear hk3
      go_wp2_with fail
      refine (refBytes_n kk.id 4 4 rfl _).mono ?_
      rintro e1 w3 ⟨rfl, hb1, hr1⟩
      have C1 := Lib.hid ((HA _).out.below hb1)
      have P1 := Lib.hid (KP.out.below hb1)
      rw [World.size_alloc] at hr1
      have R1 := Lib.hid hr1
      clear hb1 hr1 k0 k1 k2 k3 k4 k5 k6 k7 k8 d0 d1 d2 d3 HA KP ha
      go_upto_region 9 with (at_builtin; refine wpList_append_keep rfl (.tmp 32) (.tmp 35) rfl w0 _ (4 + k * 12) _ (by rfl) (by exact C1.out) _ _ _ (by exact P1.out) _ _ 4 4 _ (by rfl) (by exact R1.out) (8 + k * 12) (by omega) (by omega) ?_; intro v4 w4 ha4 hk4)
      obtain ⟨f0, f1, f2, f3⟩ := hk4.out.1.four
      clear C1 P1 R1
      go_wp2_with fail
      refine (refBytes_n kk.data 4 4 rfl _).mono ?_
      rintro e1 w5 ⟨rfl, hb1, hr1⟩
      have C1 := Lib.hid (ha4.out.below hb1)
      have P1 := Lib.hid (hk4.out.below hb1)
      have R1 := Lib.hid hr1
      clear hb1 hr1 f0 f1 f2 f3 ha4 hk4
      go_upto_region 10 with (at_builtin; refine wpList_append_keep rfl (.tmp 37) (.tmp 40) rfl w0 _ (8 + k * 12) _ (by rfl) (by exact C1.out) _ _ _ (by exact P1.out) _ _ 4 4 _ (by rfl) (by exact R1.out) (12 + k * 12) (by omega) (by omega) ?_; intro v6 w6 ha6 hk6)
      obtain ⟨f0, f1, f2, f3⟩ := hk6.out.1.four
      clear C1 P1 R1
      go_upto_region 11 with (at_builtin; refine wpList_append_keep rfl (.tmp 42) (.tmp 46) rfl w0 v6 (12 + k * 12) _ (by rfl) (by exact ha6.out.alloc _) _ _ _ (by exact hk6.out.alloc _) _ _ 2 2 [kk.kind % 256, 0] (by rfl) (by exact row_at w6 [kk.kind % 256, 0] 5 .u8 _ _ rfl rfl) (14 + k * 12) (by omega) (by omega) ?_; intro v7 w7 ha7 hk7)
      clear f0 f1 f2 f3
      obtain ⟨f0, f1, f2, f3⟩ := hk7.out.1.four
      clear ha6 hk6
      go_wp2_with fail
      refine (refBytes_n kk.cost 2 2 rfl _).mono ?_
      rintro e1 w8 ⟨rfl, hb1, hr1⟩
      have C1 := Lib.hid (ha7.out.below hb1)
      have R1 := Lib.hid hr1
      clear hb1 hr1 f0 f1 f2 f3 ha7 hk7
      go_wp2_with (at_builtin; refine wpList_append_acc rfl (.tmp 48) (.tmp 51) rfl w0 _ (14 + k * 12) _ (by rfl) (by exact C1.out) _ _ 2 2 _ (by rfl) (by exact R1.out) (4 + (k + 1) * 12) (by omega) (by omega) ?_; intro v9 w9 ha9)
      go_roundw
      case rel =>
        refine ⟨k + 1, by omega, by go_num, Lib.hid ?_⟩
        rw [linksBytes_snoc L k (by rw [HN.out]; exact hlt), HK.out]
        have h9 := ha9.out
        have e : enc (n : Int) 4 ++ linksBytes (L.take k) ++ enc kk.id 4 ++ enc kk.data 4 ++ [kk.kind % 256, 0] ++ enc kk.cost 2 = enc (n : Int) 4 ++ (linksBytes (L.take k) ++ linkBytes kk) := by
          simp [linkBytes, enc_one]
        rw [e] at h9
        exact h9
      case measure => simp [intOf]; omega
    · obtain rfl : k = n := by omega
      have h1 := ha.out
      rw [List.take_of_length_le (by rw [HN.out]; omega), HQ4.out] at h1
      have e2 : enc (k : Int) 4 ++ linksBytes L = bodyBytes h L M := by rw [HV.out, HN.out]
      rw [e2] at h1
      have HA2 := Lib.hid h1
      clear h1 ha e2
      go_wp2_with fail
      clear k0 k1 k2 k3 k4 k5 k6 k7 k8
      go_loopw [3, 6] (fun b i w3 => i = .int .i64 0 ∧ Hid (Acc w0 w3 b q (bodyBytes h L M))) (fun _ _ _ => 0)
      case atStart => exact ⟨rfl, HA2⟩
      case round =>
        clear HA2
        obtain ⟨rfl, HA3⟩ := hrel
        obtain ⟨A3, c3, rfl, hc3, hm3, hr3⟩ := HA3.out.form
        have R3 := Lib.hid hr3
        obtain ⟨k0, k1, k2, k3, k4, k5, k6, k7, k8⟩ := (HA3.out.blk K0.out).nine
        clear hr3
        go_wp2_with fail
        refine (refHeadBytes_any { h with sum := 0, long := 20 + (q : Int) } _).mono ?_
        rintro e4 w4 ⟨v4, rfl, ha4⟩
        have BB := (HA3.out.2.alloc HA3.out.2.size (.cells #[.int .i64 h.age, .int .i64 h.kind, .int .i64 h.id, .int .i64 h.adv, .int .i64 h.seq, .int .i64 0, .int .i64 (20 + (q : Int))] 23))
        have HA4 := Lib.hid (ha4.lower BB)
        have R4 := Lib.hid ((R3.out.alloc (Nat.le_refl _) _).below (ha4.2.mono (by simp)))
        clear ha4 BB k0 k1 k2 k3 k4 k5 k6 k7 k8 R3 HA3
        go_upto_region 21 with (at_builtin; refine wpList_append_acc rfl (.tmp 77) (.tmp 78) rfl w0 v4 20 _ (by rfl) (by exact HA4.out) _ _ q c3 _ (by rfl) (by exact R4.out) (20 + q) (by rfl) (by omega) ?_; intro v5 w5 ha5)
        have HRAW := Lib.hid (show headBytes { h with sum := 0, long := 20 + (q : Int) } ++ bodyBytes h L M = rawBytes h L M 0 by
          unfold rawBytes; rw [Hq.out])
        have ha := ha5.out
        rw [HRAW.out] at ha
        have HA5 := Lib.hid ha
        obtain ⟨g5, c5, rfl, hc5, hm5, hg5, hg5', hr5⟩ := ha.some (by omega)
        unfold maxLen at hm5
        have R5 := Lib.hid hr5
        have hr5b := cut_some _ _ 2 (20 + q - 2) (by omega) _ _ _ _ hr5
        rw [List.take_of_length_le (by have := rawBytes_length h L M 0; rw [Hq.out] at this; simp; omega)] at hr5b
        have R5b := Lib.hid (show Row .u8 w5 w5.heap.size (some ⟨g5, 2, none⟩) (20 + q - 2) ((rawBytes h L M 0).drop 2) from hr5b)
        clear ha ha5 HA4 R4 hr5 hr5b
        go_upto_region 23 with (at_builtin; refine wpList_append_acc rfl (.tmp 80) (.tmp 82) rfl w5 (.slice none 0 0) 0 [] (by rfl) (by exact Acc.nil (Below.refl _ _)) _ (some ⟨g5, 0, none⟩) 2 c5 _ (by rfl) (by exact R5.out.head 2 (by omega)) 2 (by rfl) (by omega) ?_; intro v6 w6 ha6)
        have R6b := Lib.hid (R5b.out.below ha6.out.2)
        have HA6 := Lib.hid (ha6.out.lower HA5.out.2)
        clear R5b R5 ha6
        go_wp2_with fail
        refine (refFfill_ok (some ⟨g5, 2, none⟩) (20 + q - 2) (c5 - 2) w5.heap.size 14 _ w6 R6b.out ((rawBytes_byt h L M 0).drop 2) (by omega) (by omega)).mono ?_
        rintro e7 w7 ⟨⟨A7, c7, rfl, hr7⟩, hb7⟩
        have HA7 := Lib.hid (HA6.out.below hb7)
        have R7 := Lib.hid hr7
        clear hr7 hb7 HA6 R6b
        go_wp2_with (at_builtin; refine wpList_append_acc rfl (.tmp 84) (.tmp 87) rfl w0 v6 2 _ (by rfl) (by exact HA7.out) _ A7 (20 + q - 2) c7 _ (by rfl) (by exact R7.out) m (by have := lsaBytes_length h L M; rw [Hm.out, Hq.out] at this; omega) (by have := lsaBytes_length h L M; rw [Hm.out, Hq.out] at this; omega) ?_; intro v8 w8 ha8)
        rw [← HQ.out]
        refine ⟨_, rfl, ?_⟩
        have h8 := ha8.out.lower B0.out
        rw [List.nil_append] at h8
        exact h8
end Go.Proofs.Ytidncajbedgplaa
