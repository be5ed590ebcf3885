/- Bytes put together by append, piece by piece, and the reference's HeadBytes. No conditions. -/
import Derived.Test.YtidncajbedgplaaLsE
import Derived.Deep.DeepCutAuto
namespace Go.Proofs.Ytidncajbedgplaa
open Go.RowKit

theorem wpList_append_acc {w : World} {ops : Array Oper} {rest : List Oper} {o : Oper} {a : Act} {Q : Exit → Act → World → Prop} (hgd : o.guard = none) (s x : Operand)
    (ho : o.op = .call { callee := .builtin .append, args := #[s, x], argTypes := #[28, 28] }) (w0 : World) (v : Value) (n : Nat) (L : List Int) (hs : a.eval s = v) (hacc : Acc w0 w v n L)
    (B : Nat) (A : Option Addr) (m c : Nat) (l : List Int) (hx : a.eval x = .slice A m c) (hr : Row .u8 w B A m l) (n' : Nat) (hn' : n + m = n') (hz : n' ≤ 1099511627776)
    (h : ∀ v' w', Hid (Acc w0 w' v' n' (L ++ l)) → wpList Try.prog ops Q rest (a.put o.dst v') w') : wpList Try.prog ops Q (o :: rest) a w := by
  subst hn'
  refine wpList_append_row hgd s x ho w0.heap.size v n _ hs hacc.1 B A m c l hx hr hz hacc.2.size ?_
  intro v' w' h1 h2 _
  refine h v' w' ⟨?_, ?_⟩
  · rw [List.map_append]; exact h1.out
  · exact hacc.2.grown h2.out hacc.2.size (fun k hk => (hacc.1.lt k hk).1)
theorem refBytes_n (n wd : Int) (m : Nat) (hm : (hold wd).toNat = m) (w : World) : Calls Try.prog 38 #[.int .i64 n, .int .i64 wd] w fun x w' =>
    x = .returned (.slice (some ⟨w.heap.size, 0, none⟩) m m) ∧ Below w.heap.size w w' ∧ Row .u8 w' w'.heap.size (some ⟨w.heap.size, 0, none⟩) m (enc n m) := by
  subst hm
  refine (refBytes_any n wd w).mono ?_
  rintro x w' ⟨rfl, hb, hk⟩
  have h1 := hk.row
  rw [enc_length] at h1
  exact ⟨rfl, hb, h1⟩
theorem kind_byte (n : Int) : (IntKind.u64.wrap n).tmod 256 % 256 = n % 256 := by
  rw [IntKind.wrap_u64, Int.tmod_eq_emod_of_nonneg (by omega)]; omega
theorem enc_one (n : Int) : enc n 1 = [n % 256] := by simp [enc, byteAt]

set_option maxHeartbeats 2000000 in
theorem refHeadBytes_any (h : Hd) (w : World) : Calls Try.prog 23 #[.agg #[.int .i64 h.age, .int .i64 h.kind, .int .i64 h.id, .int .i64 h.adv, .int .i64 h.seq, .int .i64 h.sum, .int .i64 h.long]] w (PutA w (headBytes h) 20) := by
  generalize hQ : PutA w (headBytes h) 20 = Q
  have HQ := Lib.hid hQ
  clear hQ
  have K0 := Lib.hid (Blk.new w 23 #[.int .i64 h.age, .int .i64 h.kind, .int .i64 h.id, .int .i64 h.adv, .int .i64 h.seq, .int .i64 h.sum, .int .i64 h.long])
  have B0 := Lib.hid ((Below.refl w.heap.size w).alloc (Nat.le_refl _) (.cells #[.int .i64 h.age, .int .i64 h.kind, .int .i64 h.id, .int .i64 h.adv, .int .i64 h.seq, .int .i64 h.sum, .int .i64 h.long] 23))
  go_enter Try.func23, Try.ntmps23
  go_wp2_with fail
  have hw0 : ∃ w0, w.alloc (.cells #[.int .i64 h.age, .int .i64 h.kind, .int .i64 h.id, .int .i64 h.adv, .int .i64 h.seq, .int .i64 h.sum, .int .i64 h.long] 23) = w0 := ⟨_, rfl⟩
  obtain ⟨w0, hw0⟩ := hw0
  rw [hw0] at K0 B0 ⊢
  clear hw0
  refine (refBytes_n h.age 2 2 rfl _).mono ?_
  rintro e1 w1 ⟨rfl, hb1, hr1⟩
  have C1 := Lib.hid ((Acc.nil (Below.refl w0.heap.size w0)).below hb1)
  have R1 := Lib.hid hr1
  clear hb1 hr1
  go_upto_region 3 with (at_builtin; refine wpList_append_acc rfl (.tmp 4) (.tmp 7) rfl w0 (.slice none 0 0) 0 [] (by rfl) (by exact C1.out) _ _ 2 2 _ (by rfl) (by exact R1.out) 2 (by rfl) (by omega) ?_; intro v2 w2 ha)
  obtain ⟨k0, k1, k2, k3, k4, k5, k6⟩ := (ha.out.blk K0.out).seven
  clear C1 R1
  have hx : (IntKind.u64.wrap h.kind).tmod 256 % 256 = h.kind % 256 := kind_byte h.kind
  have HX := Lib.hid hx
  clear hx
  go_upto_region 4 with (at_builtin; refine wpList_append_acc rfl (.tmp 9) (.tmp 15) rfl w0 v2 2 ([] ++ enc h.age 2) (by rfl) (by exact ha.out.alloc _) _ _ 2 2 [0, (IntKind.u64.wrap h.kind).tmod 256 % 256] (by rfl) (by exact row_at w2 [0, (IntKind.u64.wrap h.kind).tmod 256 % 256] 5 .u8 _ _ rfl rfl) 4 (by rfl) (by omega) ?_; intro v3 w3 ha3)
  clear k0 k1 k2 k3 k4 k5 k6
  obtain ⟨k0, k1, k2, k3, k4, k5, k6⟩ := (ha3.out.blk K0.out).seven
  clear ha
  go_wp2_with fail
  refine (refBytes_n h.id 4 4 rfl _).mono ?_
  rintro e1 w40 ⟨rfl, hb1, hr1⟩
  have C1 := Lib.hid (ha3.out.below hb1)
  have R1 := Lib.hid hr1
  clear hb1 hr1 ha3 k0 k1 k2 k3 k4 k5 k6
  go_upto_region 5 with (at_builtin; refine wpList_append_acc rfl (.tmp 17) (.tmp 20) rfl w0 v3 4 _ (by rfl) (by exact C1.out) _ _ 4 4 _ (by rfl) (by exact R1.out) 8 (by rfl) (by omega) ?_; intro v4 w4 ha4)
  obtain ⟨k0, k1, k2, k3, k4, k5, k6⟩ := (ha4.out.blk K0.out).seven
  clear C1 R1
  go_wp2_with fail
  refine (refBytes_n h.adv 4 4 rfl _).mono ?_
  rintro e1 w50 ⟨rfl, hb1, hr1⟩
  have C1 := Lib.hid (ha4.out.below hb1)
  have R1 := Lib.hid hr1
  clear hb1 hr1 ha4 k0 k1 k2 k3 k4 k5 k6
  go_upto_region 6 with (at_builtin; refine wpList_append_acc rfl (.tmp 22) (.tmp 25) rfl w0 v4 8 _ (by rfl) (by exact C1.out) _ _ 4 4 _ (by rfl) (by exact R1.out) 12 (by rfl) (by omega) ?_; intro v5 w5 ha5)
  obtain ⟨k0, k1, k2, k3, k4, k5, k6⟩ := (ha5.out.blk K0.out).seven
  clear C1 R1
  go_wp2_with fail
  refine (refBytes_n h.seq 4 4 rfl _).mono ?_
  rintro e1 w60 ⟨rfl, hb1, hr1⟩
  have C1 := Lib.hid (ha5.out.below hb1)
  have R1 := Lib.hid hr1
  clear hb1 hr1 ha5 k0 k1 k2 k3 k4 k5 k6
  go_upto_region 7 with (at_builtin; refine wpList_append_acc rfl (.tmp 27) (.tmp 30) rfl w0 v5 12 _ (by rfl) (by exact C1.out) _ _ 4 4 _ (by rfl) (by exact R1.out) 16 (by rfl) (by omega) ?_; intro v6 w6 ha6)
  obtain ⟨k0, k1, k2, k3, k4, k5, k6⟩ := (ha6.out.blk K0.out).seven
  clear C1 R1
  go_wp2_with fail
  refine (refBytes_n h.sum 2 2 rfl _).mono ?_
  rintro e1 w70 ⟨rfl, hb1, hr1⟩
  have C1 := Lib.hid (ha6.out.below hb1)
  have R1 := Lib.hid hr1
  clear hb1 hr1 ha6 k0 k1 k2 k3 k4 k5 k6
  go_upto_region 8 with (at_builtin; refine wpList_append_acc rfl (.tmp 32) (.tmp 35) rfl w0 v6 16 _ (by rfl) (by exact C1.out) _ _ 2 2 _ (by rfl) (by exact R1.out) 18 (by rfl) (by omega) ?_; intro v7 w7 ha7)
  obtain ⟨k0, k1, k2, k3, k4, k5, k6⟩ := (ha7.out.blk K0.out).seven
  clear C1 R1
  go_wp2_with fail
  refine (refBytes_n h.long 2 2 rfl _).mono ?_
  rintro e1 w80 ⟨rfl, hb1, hr1⟩
  have C1 := Lib.hid (ha7.out.below hb1)
  have R1 := Lib.hid hr1
  clear hb1 hr1 ha7 k0 k1 k2 k3 k4 k5 k6
  go_wp2_with (at_builtin; refine wpList_append_acc rfl (.tmp 37) (.tmp 40) rfl w0 v7 18 _ (by rfl) (by exact C1.out) _ _ 2 2 _ (by rfl) (by exact R1.out) 20 (by rfl) (by omega) ?_; intro v8 w8 ha8)
  rw [← HQ.out]
  have e : [] ++ enc h.age 2 ++ [0, (IntKind.u64.wrap h.kind).tmod 256 % 256] ++ enc h.id 4 ++ enc h.adv 4 ++ enc h.seq 4 ++ enc h.sum 2 ++ enc h.long 2 = headBytes h := by
    rw [HX.out]
    simp [headBytes, enc_one]
  have h8 := ha8.out
  rw [e] at h8
  exact ⟨_, rfl, h8.lower B0.out⟩
end Go.Proofs.Ytidncajbedgplaa
