/- The call Put of package packet. Conditions: lists read as such. · The reader of package packet: what must be 0. Conditions: the bytes are there. · The method head of packet's reader: what all packets have. Conditions: twenty-four bytes are there. · The method hello of packet's reader, of a Hello of nobody. Conditions: forty bytes. · The method rest of packet's reader, of a Hello of nobody, and the call length. Conditions: the bytes are there. · The calls told and Get of package packet: what isn't formed, and a Hello of nobody. Conditions: the slice reads as bytes. -/
import Derived.Laws.EntriesVeiled
import Derived.Test.YtekhgkkgmkodmaaGreatJaq
namespace Go.Proofs.YtekhgkkgmkodmaaGreat
open Go.RowKit

/-- A packet's bytes ahead of the body, and all of them, without the sum; with it. -/
def headP (v : Pv) (m : Nat) : List Int := enc 2 1 ++ (enc v.kind 1 ++ (enc (24 + (m : Int)) 2 ++ (enc v.sender 4 ++ (enc 0 4 ++ (enc 0 2 ++ (enc 0 2 ++ (enc 0 4 ++ enc 0 4)))))))
def pktBs (v : Pv) (l : Pl) : List Int := headP v (bodyBs v l).length ++ bodyBs v l
def pktBytes (v : Pv) (l : Pl) : List Int := fillL (pktBs v l) 12
theorem headP_length (v : Pv) (m : Nat) : (headP v m).length = 24 := by simp [headP, enc_length]
theorem headP_byt (v : Pv) (m : Nat) : Byt (headP v m) := by
  unfold headP
  repeat' (first | exact enc_byt _ _ | refine Byt.append ?_ ?_)
theorem pktBs_length (v : Pv) (l : Pl) : (pktBs v l).length = 24 + (bodyBs v l).length := by rw [pktBs, List.length_append, headP_length]
theorem pktBs_byt (v : Pv) (l : Pl) : Byt (pktBs v l) := (headP_byt _ _).append (bodyBs_byt _ _)
theorem pktBytes_length (v : Pv) (l : Pl) : (pktBytes v l).length = 24 + (bodyBs v l).length := by rw [pktBytes, fillL_length, pktBs_length]
theorem pktBytes_byt (v : Pv) (l : Pl) : Byt (pktBytes v l) := fillL_byt (pktBs_byt v l) 12
theorem right_parts {v : Pv} {l : Pl} (h : rightP v l = true) : inB v.sender 1 15 = true ∧ onlyB v l = true ∧ partB v l = true := by
  unfold rightP at h
  simp only [Bool.and_eq_true] at h
  exact h
/-- What Put answers of a right packet. -/
def PPut (W : World) (L : List Int) (n : Nat) (x : Ending) (w' : World) : Prop :=
  ∃ g, x = .returned (.tuple #[.slice (some ⟨g, 0, none⟩) n n, .int .i64 0]) ∧ W.heap.size ≤ g ∧ Blk w' g 5 (L.map (Value.int .u8)).toArray ∧ Below W.heap.size W w'

set_option maxRecDepth 8000 in
set_option maxHeartbeats 8000000 in
theorem pput_no (v : Pv) (l : Pl) (B : Nat) (w : World) (h : PkIn w B v l) (hs : PkSm v) (hB : B ≤ w.heap.size) (hr : rightP v l = false) :
    Calls Tryz.prog 6 #[.agg #[.int .i64 v.kind, .int .i64 v.sender, .int .i64 v.every, .int .i64 v.dead, .int .i64 v.prio, .int .i64 v.dr, .int .i64 v.bdr, .slice v.seen.a v.seen.n v.seen.c, .bool v.ini, .bool v.mor, .bool v.mas, .int .i64 v.seq, .slice v.heads.a v.heads.n v.heads.c, .slice v.wants.a v.wants.n v.wants.c, .slice v.lsas.a v.lsas.n v.lsas.c, .slice v.acks.a v.acks.n v.acks.c]] w fun x w' => x = .returned (.tuple #[.slice none 0 0, .int .i64 1]) ∧ Below w.heap.size w w' := by
  have HS := Lib.hid hs
  have HP := Lib.hid h
  have HR := Lib.hid hr
  clear h hs hr
  go_enter Tryz.func6, Tryz.ntmps6
  go_wp2_with fail
  refine (pright_any v l B _ (HP.out.alloc hB _) HS.out (by simp; omega)).mono ?_
  rintro e1 w1 ⟨rfl, hb1⟩
  rw [HR.out]
  have HB1 := Lib.hid (((Below.refl w.heap.size w).alloc (Nat.le_refl _) _).trans (hb1.mono (by simp)))
  clear hb1
  go_wp2
  go_ret2
  exact ⟨rfl, HB1.out⟩

set_option maxRecDepth 8000 in
set_option maxHeartbeats 8000000 in
theorem pput_yes (v : Pv) (l : Pl) (B m : Nat) (w : World) (h : PkIn w B v l) (hs : PkSm v) (hB : B ≤ w.heap.size) (hr : rightP v l = true) (hm : (bodyBs v l).length = m) :
    Calls Tryz.prog 6 #[.agg #[.int .i64 v.kind, .int .i64 v.sender, .int .i64 v.every, .int .i64 v.dead, .int .i64 v.prio, .int .i64 v.dr, .int .i64 v.bdr, .slice v.seen.a v.seen.n v.seen.c, .bool v.ini, .bool v.mor, .bool v.mas, .int .i64 v.seq, .slice v.heads.a v.heads.n v.heads.c, .slice v.wants.a v.wants.n v.wants.c, .slice v.lsas.a v.lsas.n v.lsas.c, .slice v.acks.a v.acks.n v.acks.c]] w (PPut w (pktBytes v l) (24 + m)) := by
  generalize hQ : PPut w (pktBytes v l) (24 + m) = Q
  have HQ := Lib.hid hQ
  have K0 := Lib.hid (Blk.new w 31 #[.int .i64 v.kind, .int .i64 v.sender, .int .i64 v.every, .int .i64 v.dead, .int .i64 v.prio, .int .i64 v.dr, .int .i64 v.bdr, .slice v.seen.a v.seen.n v.seen.c, .bool v.ini, .bool v.mor, .bool v.mas, .int .i64 v.seq, .slice v.heads.a v.heads.n v.heads.c, .slice v.wants.a v.wants.n v.wants.c, .slice v.lsas.a v.lsas.n v.lsas.c, .slice v.acks.a v.acks.n v.acks.c])
  have B0 := Lib.hid ((Below.refl w.heap.size w).alloc (Nat.le_refl _) (.cells #[.int .i64 v.kind, .int .i64 v.sender, .int .i64 v.every, .int .i64 v.dead, .int .i64 v.prio, .int .i64 v.dr, .int .i64 v.bdr, .slice v.seen.a v.seen.n v.seen.c, .bool v.ini, .bool v.mor, .bool v.mas, .int .i64 v.seq, .slice v.heads.a v.heads.n v.heads.c, .slice v.wants.a v.wants.n v.wants.c, .slice v.lsas.a v.lsas.n v.lsas.c, .slice v.acks.a v.acks.n v.acks.c] 31))
  have HS := Lib.hid hs
  have HP := Lib.hid (h.below (B0.out.mono hB))
  have HR := Lib.hid hr
  have HT := Lib.hid (right_parts hr).2.2
  have hm2 := body_len (right_parts hr).2.2
  rw [hm] at hm2
  obtain ⟨hm300, hmev⟩ := hm2
  have HEV := Lib.hid hmev
  have Hm := Lib.hid hm
  have hs0 : B ≤ (w.alloc (.cells #[.int .i64 v.kind, .int .i64 v.sender, .int .i64 v.every, .int .i64 v.dead, .int .i64 v.prio, .int .i64 v.dr, .int .i64 v.bdr, .slice v.seen.a v.seen.n v.seen.c, .bool v.ini, .bool v.mor, .bool v.mas, .int .i64 v.seq, .slice v.heads.a v.heads.n v.heads.c, .slice v.wants.a v.wants.n v.wants.c, .slice v.lsas.a v.lsas.n v.lsas.c, .slice v.acks.a v.acks.n v.acks.c] 31)).heap.size := by simp; omega
  have hz0 : w.heap.size ≤ (w.alloc (.cells #[.int .i64 v.kind, .int .i64 v.sender, .int .i64 v.every, .int .i64 v.dead, .int .i64 v.prio, .int .i64 v.dr, .int .i64 v.bdr, .slice v.seen.a v.seen.n v.seen.c, .bool v.ini, .bool v.mor, .bool v.mas, .int .i64 v.seq, .slice v.heads.a v.heads.n v.heads.c, .slice v.wants.a v.wants.n v.wants.c, .slice v.lsas.a v.lsas.n v.lsas.c, .slice v.acks.a v.acks.n v.acks.c] 31)).heap.size := by simp
  clear h hs hr hm hQ hmev
  go_enter Tryz.func6, Tryz.ntmps6
  go_upto_region 1 with fail
  generalize w.alloc (.cells #[.int .i64 v.kind, .int .i64 v.sender, .int .i64 v.every, .int .i64 v.dead, .int .i64 v.prio, .int .i64 v.dr, .int .i64 v.bdr, .slice v.seen.a v.seen.n v.seen.c, .bool v.ini, .bool v.mor, .bool v.mas, .int .i64 v.seq, .slice v.heads.a v.heads.n v.heads.c, .slice v.wants.a v.wants.n v.wants.c, .slice v.lsas.a v.lsas.n v.lsas.c, .slice v.acks.a v.acks.n v.acks.c] 31) = w0 at *
  obtain ⟨a0, a1, a2, a3, a4, a5, a6, a7, a8, a9, a10, a11, a12, a13, a14, a15⟩ := K0.out.sixteen
  have hlt0 := K0.out.lt
  go_wp2_with fail
  refine (pright_any v l B _ HP.out HS.out hs0).mono ?_
  rintro e1 w1 ⟨rfl, hb1⟩
  rw [HR.out]
  have K1 := Lib.hid (K0.out.below hb1 hlt0)
  have B1 := Lib.hid (B0.out.trans (hb1.mono hz0))
  have HP1 := Lib.hid (HP.out.below (hb1.mono hs0))
  have hsz1 := hb1.size
  clear hb1 K0 B0 HP a0 a1 a2 a3 a4 a5 a6 a7 a8 a9 a10 a11 a12 a13 a14 a15 hlt0
  obtain ⟨a0, a1, a2, a3, a4, a5, a6, a7, a8, a9, a10, a11, a12, a13, a14, a15⟩ := K1.out.sixteen
  have hlt1 := K1.out.lt
  go_wp2_with fail
  refine (pbody_any v l B m _ HP1.out (by omega) HT.out Hm.out).mono ?_
  rintro e2 w2 ⟨A2, c2, rfl, hc2, hm2, hr2, hb2⟩
  have RB := Lib.hid hr2
  have K2 := Lib.hid (K1.out.below hb2 hlt1)
  have B2 := Lib.hid (B1.out.trans (hb2.mono B1.out.size))
  clear hr2 hb2 K1 B1 HP1 a0 a1 a2 a3 a4 a5 a6 a7 a8 a9 a10 a11 a12 a13 a14 a15 hlt1
  obtain ⟨a0, a1, a2, a3, a4, a5, a6, a7, a8, a9, a10, a11, a12, a13, a14, a15⟩ := K2.out.sixteen
  have hlt2 := K2.out.lt
  go_wp2_with fail
  refine (put_new none 0 0 1 2 2 1 [] [2, v.kind] (enc 2 1 ++ enc v.kind 1) _ _ (by simp) rfl rfl (by simp [encs]) Row.nil (by omega) (by omega) rfl).mono ?_
  rintro e3 w3 ⟨A3, c3, rfl, hc3, hm3, hr3, hb3⟩
  have R3 := Lib.hid hr3
  have RB3 := Lib.hid ((RB.out.below hb3).more hb3.size)
  have K3 := Lib.hid (K2.out.below hb3 hlt2)
  have B3 := Lib.hid (B2.out.trans (hb3.mono B2.out.size))
  clear hr3 hb3 K2 B2 RB a0 a1 a2 a3 a4 a5 a6 a7 a8 a9 a10 a11 a12 a13 a14 a15 hlt2
  obtain ⟨a0, a1, a2, a3, a4, a5, a6, a7, a8, a9, a10, a11, a12, a13, a14, a15⟩ := K3.out.sixteen
  have hlt3 := K3.out.lt
  go_wp2_with fail
  refine (put_new A3 2 c3 2 4 1 2 _ [24 + (m : Int)] (enc 2 1 ++ (enc v.kind 1 ++ enc (24 + (m : Int)) 2)) _ _ rfl rfl rfl (by simp [encs]) R3.out (by omega) (by omega) rfl).mono ?_
  rintro e4 w4 ⟨A4, c4, rfl, hc4, hm4, hr4, hb4⟩
  have R4 := Lib.hid hr4
  have RB4 := Lib.hid ((RB3.out.below hb4).more hb4.size)
  have K4 := Lib.hid (K3.out.below hb4 hlt3)
  have B4 := Lib.hid (B3.out.trans (hb4.mono B3.out.size))
  clear hr4 hb4 K3 B3 R3 RB3 a0 a1 a2 a3 a4 a5 a6 a7 a8 a9 a10 a11 a12 a13 a14 a15 hlt3
  obtain ⟨a0, a1, a2, a3, a4, a5, a6, a7, a8, a9, a10, a11, a12, a13, a14, a15⟩ := K4.out.sixteen
  have hlt4 := K4.out.lt
  go_wp2_with fail
  refine (put_new A4 4 c4 4 12 2 4 _ [v.sender, 0] (enc 2 1 ++ (enc v.kind 1 ++ (enc (24 + (m : Int)) 2 ++ (enc v.sender 4 ++ enc 0 4)))) _ _ rfl rfl rfl (by simp [encs]) R4.out (by omega) (by omega) rfl).mono ?_
  rintro e5 w5 ⟨A5, c5, rfl, hc5, hm5, hr5, hb5⟩
  have R5 := Lib.hid hr5
  have RB5 := Lib.hid ((RB4.out.below hb5).more hb5.size)
  have B5 := Lib.hid (B4.out.trans (hb5.mono B4.out.size))
  clear hr5 hb5 K4 B4 R4 RB4 a0 a1 a2 a3 a4 a5 a6 a7 a8 a9 a10 a11 a12 a13 a14 a15 hlt4
  go_wp2_with fail
  refine (put_new A5 12 c5 2 16 2 2 _ [0, 0] (enc 2 1 ++ (enc v.kind 1 ++ (enc (24 + (m : Int)) 2 ++ (enc v.sender 4 ++ (enc 0 4 ++ (enc 0 2 ++ enc 0 2)))))) _ _ rfl rfl rfl (by simp [encs]) R5.out (by omega) (by omega) rfl).mono ?_
  rintro e6 w6 ⟨A6, c6, rfl, hc6, hm6, hr6, hb6⟩
  have R6 := Lib.hid hr6
  have RB6 := Lib.hid ((RB5.out.below hb6).more hb6.size)
  have B6 := Lib.hid (B5.out.trans (hb6.mono B5.out.size))
  clear hr6 hb6 B5 R5 RB5
  go_wp2_with fail
  refine (put_newA A6 16 c6 4 24 2 4 _ [0, 0] (headP v m) _ _ rfl rfl rfl (by simp [encs, headP]) R6.out (by omega) (by omega) rfl).mono ?_
  rintro e7 w7 ⟨v7, rfl, ha7⟩
  have RB7 := Lib.hid ((RB6.out.below ha7.2).more ha7.2.size)
  have C7 := Lib.hid (ha7.lower B6.out)
  clear ha7 B6 R6 RB6
  go_wp2_with (at_builtin; refine wpList_append_acc rfl (.tmp 33) (.tmp 34) rfl w v7 24 _ (by rfl) (by exact C7.out) _ A2 m c2 (bodyBs v l) (by rfl) (by exact RB7.out) (24 + m) (by rfl) (by omega) ?_; intro v8 w8 ha8; obtain ⟨A8, c8, rfl, hc8, hm8, hr8⟩ := ha8.out.form; have R8 := Lib.hid hr8; have B8 := Lib.hid ha8.out.2; clear hr8 ha8)
  have HL8 := Lib.hid (show headP v m ++ bodyBs v l = pktBs v l by unfold pktBs; rw [Hm.out])
  rw [HL8.out] at R8
  have hsz8 := B8.out.size
  refine (fill_ok A8 (24 + m) c8 w8.heap.size 12 _ _ R8.out (pktBs_byt v l) (Nat.le_refl _) (by omega) ⟨by omega, by omega, by have := HEV.out; omega, by omega⟩).mono ?_
  rintro e9 w9 ⟨rfl, hb9, hk9⟩
  have K9 := Lib.hid hk9
  have B9 := Lib.hid (B8.out.trans (hb9.mono hsz8))
  clear hb9 hk9
  go_wp2
  rw [← HQ.out]
  exact ⟨w8.heap.size, rfl, hsz8, K9.out, B9.out⟩
end Go.Proofs.YtekhgkkgmkodmaaGreat
namespace Go.Proofs.YtekhgkkgmkodmaaGreat
open Go.RowKit

theorem Blk.nt {w : World} {g : Nat} {t : TypeId} {a0 a1 a2 a3 a4 a5 a6 a7 a8 a9 a10 a11 a12 a13 a14 a15 a16 a17 a18 : Value} (h : Blk w g t #[a0, a1, a2, a3, a4, a5, a6, a7, a8, a9, a10, a11, a12, a13, a14, a15, a16, a17, a18]) :
    w.cell? ⟨g, 0, none⟩ = some a0 ∧ w.cell? ⟨g, 1, none⟩ = some a1 ∧ w.cell? ⟨g, 2, none⟩ = some a2 ∧ w.cell? ⟨g, 3, none⟩ = some a3 ∧ w.cell? ⟨g, 4, none⟩ = some a4 ∧ w.cell? ⟨g, 5, none⟩ = some a5 ∧ w.cell? ⟨g, 6, none⟩ = some a6 ∧ w.cell? ⟨g, 7, none⟩ = some a7 ∧ w.cell? ⟨g, 8, none⟩ = some a8 ∧ w.cell? ⟨g, 9, none⟩ = some a9 ∧ w.cell? ⟨g, 10, none⟩ = some a10 ∧ w.cell? ⟨g, 11, none⟩ = some a11 ∧ w.cell? ⟨g, 12, none⟩ = some a12 ∧ w.cell? ⟨g, 13, none⟩ = some a13 ∧ w.cell? ⟨g, 14, none⟩ = some a14 ∧ w.cell? ⟨g, 15, none⟩ = some a15 ∧ w.cell? ⟨g, 16, none⟩ = some a16 ∧ w.cell? ⟨g, 17, none⟩ = some a17 ∧ w.cell? ⟨g, 18, none⟩ = some a18 :=
  ⟨h.cell 0, h.cell 1, h.cell 2, h.cell 3, h.cell 4, h.cell 5, h.cell 6, h.cell 7, h.cell 8, h.cell 9, h.cell 10, h.cell 11, h.cell 12, h.cell 13, h.cell 14, h.cell 15, h.cell 16, h.cell 17, h.cell 18⟩
theorem Blk.ntF {w : World} {g : Nat} {t : TypeId} {cs : Array Value} (h : Blk w g t cs) :
    w.frozen? ⟨g, 0, none⟩ = false ∧ w.frozen? ⟨g, 1, none⟩ = false ∧ w.frozen? ⟨g, 2, none⟩ = false ∧ w.frozen? ⟨g, 3, none⟩ = false ∧ w.frozen? ⟨g, 4, none⟩ = false ∧ w.frozen? ⟨g, 5, none⟩ = false ∧ w.frozen? ⟨g, 6, none⟩ = false ∧ w.frozen? ⟨g, 7, none⟩ = false ∧ w.frozen? ⟨g, 8, none⟩ = false ∧ w.frozen? ⟨g, 9, none⟩ = false ∧ w.frozen? ⟨g, 10, none⟩ = false ∧ w.frozen? ⟨g, 11, none⟩ = false ∧ w.frozen? ⟨g, 12, none⟩ = false ∧ w.frozen? ⟨g, 13, none⟩ = false ∧ w.frozen? ⟨g, 14, none⟩ = false ∧ w.frozen? ⟨g, 15, none⟩ = false ∧ w.frozen? ⟨g, 16, none⟩ = false ∧ w.frozen? ⟨g, 17, none⟩ = false ∧ w.frozen? ⟨g, 18, none⟩ = false :=
  ⟨h.frozen 0, h.frozen 1, h.frozen 2, h.frozen 3, h.frozen 4, h.frozen 5, h.frozen 6, h.frozen 7, h.frozen 8, h.frozen 9, h.frozen 10, h.frozen 11, h.frozen 12, h.frozen 13, h.frozen 14, h.frozen 15, h.frozen 16, h.frozen 17, h.frozen 18⟩
/-- In block g there is a packet's reader, of what was read v, at place a of the bytes l; q is its reader of numbers. -/
def RS (w : World) (g q : Nat) (v : Pv) (wr : Bool) (er : Int) (l : List Int) (a : Nat) : Prop :=
  Blk w g 95 #[.pointer (some ⟨q, 0, none⟩), .int .i64 v.kind, .int .i64 v.sender, .int .i64 v.every, .int .i64 v.dead, .int .i64 v.prio, .int .i64 v.dr, .int .i64 v.bdr, .slice v.seen.a v.seen.n v.seen.c, .bool v.ini, .bool v.mor, .bool v.mas, .int .i64 v.seq, .slice v.heads.a v.heads.n v.heads.c, .slice v.wants.a v.wants.n v.wants.c, .slice v.lsas.a v.lsas.n v.lsas.c, .slice v.acks.a v.acks.n v.acks.c, .bool wr, .int .i64 er] ∧ Rd w (g + 1) q l a
/-- What a method of it leaves. -/
def RZ (w : World) (g q : Nat) (v : Pv) (wr : Bool) (er : Int) (l : List Int) (a : Nat) (x : Ending) (w' : World) : Prop :=
  x = .returned (.tuple #[]) ∧ RS w' g q v wr er l a ∧ Below g w w'
theorem grown_below {w w' : World} {g q : Nat} (h : w.grownBy w' (some q)) (hg : g ≤ q) (hs : g ≤ w.heap.size) : Below g w w' := below_grown (Below.refl g w) h hs hg

set_option maxRecDepth 8000 in
set_option maxHeartbeats 8000000 in
theorem zero_ok (v : Pv) (wr : Bool) (er : Int) (g q a m : Nat) (k : Int) (l : List Int) (w : World) (h : RS w g q v wr er l a) (hm : (hold k).toNat = m) (ha : a + m ≤ l.length) :
    Calls Tryz.prog 88 #[.pointer (some ⟨g, 0, none⟩), .int .i64 k] w (RZ w g q v (wr || decide (wordAt l a m ≠ 0)) er l (a + m)) := by
  generalize hQ : RZ w g q v (wr || decide (wordAt l a m ≠ 0)) er l (a + m) = Q
  have HQ := Lib.hid hQ
  obtain ⟨hb, hrd⟩ := h
  have KB := Lib.hid hb
  have RD := Lib.hid hrd
  have hgq : g < q := by have := hrd.lt.2; omega
  have hgw : g < w.heap.size := hb.lt
  clear hQ hb hrd
  obtain ⟨a0, a1, a2, a3, a4, a5, a6, a7, a8, a9, a10, a11, a12, a13, a14, a15, a16, a17, a18⟩ := KB.out.nt
  go_enter Tryz.func88, Tryz.ntmps88
  go_wp2_with fail
  refine (rd_num (g + 1) q a m k l _ RD.out hm ha).mono ?_
  rintro e1 w1 ⟨rfl, hrd, hgr⟩
  have KB1 := Lib.hid (KB.out.grown hgr (by omega))
  have RD1 := Lib.hid hrd
  have B1 := Lib.hid (show Below g w w1 from grown_below hgr (by omega) (by omega))
  clear hrd hgr KB RD a0 a1 a2 a3 a4 a5 a6 a7 a8 a9 a10 a11 a12 a13 a14 a15 a16 a17 a18
  generalize hx : wordAt l a m = x at *
  have HX := Lib.hid hx
  clear hx
  by_cases hz : x = 0
  · subst hz
    go_wp2
    refine bodyPost_end (results_none rfl _ _ _) rfl ?_
    rw [← HQ.out]
    refine ⟨rfl, ⟨?_, RD1.out⟩, B1.out⟩
    rw [show (wr || decide ((0 : Int) ≠ 0)) = wr by simp]
    exact KB1.out
  · have hd : (x != 0) = true := by simp [hz]
    have HZ := Lib.hid (show (wr || decide (x ≠ 0)) = true by simp [hz])
    clear hz
    have f17 := KB1.out.frozen 17
    obtain ⟨a0, a1, a2, a3, a4, a5, a6, a7, a8, a9, a10, a11, a12, a13, a14, a15, a16, a17, a18⟩ := KB1.out.nt
    go_wp2
    refine bodyPost_end (results_none rfl _ _ _) rfl ?_
    rw [← HQ.out]
    refine ⟨rfl, ⟨?_, RD1.out.far (.inl (by simp)) _⟩, B1.out.setCell (by simp) _⟩
    rw [HZ.out]
    have h9 := KB1.out.put 17 (.bool true)
    simp only [List.setIfInBounds_toArray, List.set_cons_zero, List.set_cons_succ] at h9
    exact h9
end Go.Proofs.YtekhgkkgmkodmaaGreat
namespace Go.Proofs.YtekhgkkgmkodmaaGreat
open Go.RowKit

/-- A packet with nothing but a kind and a sender. -/
def zeroP (k s : Int) : Pv := ⟨k, s, 0, 0, 0, 0, 0, ⟨none, 0, 0⟩, false, false, false, 0, ⟨none, 0, 0⟩, ⟨none, 0, 0⟩, ⟨none, 0, 0⟩, ⟨none, 0, 0⟩⟩
/-- Is one of the bytes ahead that must be 0 another one? -/
def wrongB (l : List Int) : Bool := (((false || decide (wordAt l 8 4 ≠ 0)) || decide (wordAt l 14 2 ≠ 0)) || decide (wordAt l 16 4 ≠ 0)) || decide (wordAt l 20 4 ≠ 0)
set_option maxRecDepth 8000 in
set_option maxHeartbeats 8000000 in
theorem phead_ok (g q : Nat) (l : List Int) (w : World) (h : RS w g q (zeroP 0 0) false 0 l 0) (ha : 24 ≤ l.length) :
    Calls Tryz.prog 67 #[.pointer (some ⟨g, 0, none⟩)] w (RZ w g q (zeroP (wordAt l 1 1) (wordAt l 4 4)) (wrongB l) 0 l 24) := by
  generalize hQ : RZ w g q (zeroP (wordAt l 1 1) (wordAt l 4 4)) (wrongB l) 0 l 24 = Q
  have HQ := Lib.hid hQ
  have HA := Lib.hid ha
  obtain ⟨hb, hrd⟩ := h
  have KB0 := Lib.hid (show Blk w g 95 #[.pointer (some ⟨q, 0, none⟩), .int .i64 0, .int .i64 0, .int .i64 0, .int .i64 0, .int .i64 0, .int .i64 0, .int .i64 0, .slice none 0 0, .bool false, .bool false, .bool false, .int .i64 0, .slice none 0 0, .slice none 0 0, .slice none 0 0, .slice none 0 0, .bool false, .int .i64 0] from hb)
  have RD0 := Lib.hid hrd
  have B0 := Lib.hid (Below.refl g w)
  have hgq : g < q := by have := hrd.lt.2; omega
  have hgw : g < w.heap.size := hb.lt
  clear hQ hb hrd ha
  obtain ⟨a0, a1, a2, a3, a4, a5, a6, a7, a8, a9, a10, a11, a12, a13, a14, a15, a16, a17, a18⟩ := KB0.out.nt
  go_enter Tryz.func67, Tryz.ntmps67
  go_wp2_with fail
  refine (rd_num (g + 1) q 0 1 1 l _ RD0.out rfl (by have := HA.out; omega)).mono ?_
  rintro e1 w1 ⟨rfl, hrd, hgr⟩
  have KB1 := Lib.hid (KB0.out.grown hgr (by omega))
  have RD1 := Lib.hid (show Rd w1 (g + 1) q l 1 from hrd)
  have B1 := Lib.hid (show Below g w w1 from B0.out.trans (grown_below hgr (by omega) (by have := B0.out.size; omega)))
  clear hrd hgr KB0 RD0 B0 a0 a1 a2 a3 a4 a5 a6 a7 a8 a9 a10 a11 a12 a13 a14 a15 a16 a17 a18
  generalize hx1 : wordAt l 0 1 = x0 at *
  have HX1 := Lib.hid hx1
  clear hx1
  obtain ⟨a0, a1, a2, a3, a4, a5, a6, a7, a8, a9, a10, a11, a12, a13, a14, a15, a16, a17, a18⟩ := KB1.out.nt
  go_wp2_with fail
  refine (rd_num (g + 1) q 1 1 1 l _ RD1.out rfl (by have := HA.out; omega)).mono ?_
  rintro e2 w2 ⟨rfl, hrd, hgr⟩
  have KB2 := Lib.hid (KB1.out.grown hgr (by omega))
  have RD2 := Lib.hid (show Rd w2 (g + 1) q l 2 from hrd)
  have B2 := Lib.hid (show Below g w w2 from B1.out.trans (grown_below hgr (by omega) (by have := B1.out.size; omega)))
  clear hrd hgr KB1 RD1 B1 a0 a1 a2 a3 a4 a5 a6 a7 a8 a9 a10 a11 a12 a13 a14 a15 a16 a17 a18
  generalize hx2 : wordAt l 1 1 = x1 at *
  have HX2 := Lib.hid hx2
  clear hx2
  obtain ⟨a0, a1, a2, a3, a4, a5, a6, a7, a8, a9, a10, a11, a12, a13, a14, a15, a16, a17, a18⟩ := KB2.out.nt
  have f1 := KB2.out.frozen 1
  have KB3 := Lib.hid (show Blk (w2.setCell ⟨g, 1, none⟩ (.int .i64 x1)) g 95 #[.pointer (some ⟨q, 0, none⟩), .int .i64 x1, .int .i64 0, .int .i64 0, .int .i64 0, .int .i64 0, .int .i64 0, .int .i64 0, .slice none 0 0, .bool false, .bool false, .bool false, .int .i64 0, .slice none 0 0, .slice none 0 0, .slice none 0 0, .slice none 0 0, .bool false, .int .i64 0] from (KB2.out.put 1 (.int .i64 x1)))
  have RD3 := Lib.hid (show Rd (w2.setCell ⟨g, 1, none⟩ (.int .i64 x1)) (g + 1) q l 2 from (RD2.out.far (p := ⟨g, 1, none⟩) (.inl (by simp)) (.int .i64 x1)))
  have B3 := Lib.hid (show Below g w (w2.setCell ⟨g, 1, none⟩ (.int .i64 x1)) from (B2.out.setCell (p := ⟨g, 1, none⟩) (by simp) (.int .i64 x1)))
  clear KB2 RD2 B2
  go_wp2_with fail
  refine (rd_num (g + 1) q 2 2 2 l _ RD3.out rfl (by have := HA.out; omega)).mono ?_
  rintro e4 w4 ⟨rfl, hrd, hgr⟩
  have KB4 := Lib.hid (KB3.out.grown hgr (by omega))
  have RD4 := Lib.hid (show Rd w4 (g + 1) q l 4 from hrd)
  have B4 := Lib.hid (show Below g w w4 from B3.out.trans (grown_below hgr (by omega) (by have := B3.out.size; omega)))
  clear hrd hgr KB3 RD3 B3 a0 a1 a2 a3 a4 a5 a6 a7 a8 a9 a10 a11 a12 a13 a14 a15 a16 a17 a18 f1
  generalize hx4 : wordAt l 2 2 = x2 at *
  have HX4 := Lib.hid hx4
  clear hx4
  obtain ⟨a0, a1, a2, a3, a4, a5, a6, a7, a8, a9, a10, a11, a12, a13, a14, a15, a16, a17, a18⟩ := KB4.out.nt
  go_wp2_with fail
  refine (rd_num (g + 1) q 4 4 4 l _ RD4.out rfl (by have := HA.out; omega)).mono ?_
  rintro e5 w5 ⟨rfl, hrd, hgr⟩
  have KB5 := Lib.hid (KB4.out.grown hgr (by omega))
  have RD5 := Lib.hid (show Rd w5 (g + 1) q l 8 from hrd)
  have B5 := Lib.hid (show Below g w w5 from B4.out.trans (grown_below hgr (by omega) (by have := B4.out.size; omega)))
  clear hrd hgr KB4 RD4 B4 a0 a1 a2 a3 a4 a5 a6 a7 a8 a9 a10 a11 a12 a13 a14 a15 a16 a17 a18
  generalize hx5 : wordAt l 4 4 = x3 at *
  have HX5 := Lib.hid hx5
  clear hx5
  obtain ⟨a0, a1, a2, a3, a4, a5, a6, a7, a8, a9, a10, a11, a12, a13, a14, a15, a16, a17, a18⟩ := KB5.out.nt
  have f2 := KB5.out.frozen 2
  have KB6 := Lib.hid (show Blk (w5.setCell ⟨g, 2, none⟩ (.int .i64 x3)) g 95 #[.pointer (some ⟨q, 0, none⟩), .int .i64 x1, .int .i64 x3, .int .i64 0, .int .i64 0, .int .i64 0, .int .i64 0, .int .i64 0, .slice none 0 0, .bool false, .bool false, .bool false, .int .i64 0, .slice none 0 0, .slice none 0 0, .slice none 0 0, .slice none 0 0, .bool false, .int .i64 0] from (KB5.out.put 2 (.int .i64 x3)))
  have RD6 := Lib.hid (show Rd (w5.setCell ⟨g, 2, none⟩ (.int .i64 x3)) (g + 1) q l 8 from (RD5.out.far (p := ⟨g, 2, none⟩) (.inl (by simp)) (.int .i64 x3)))
  have B6 := Lib.hid (show Below g w (w5.setCell ⟨g, 2, none⟩ (.int .i64 x3)) from (B5.out.setCell (p := ⟨g, 2, none⟩) (by simp) (.int .i64 x3)))
  clear KB5 RD5 B5
  go_wp2_with fail
  refine (zero_ok ⟨x1, x3, 0, 0, 0, 0, 0, ⟨none, 0, 0⟩, false, false, false, 0, ⟨none, 0, 0⟩, ⟨none, 0, 0⟩, ⟨none, 0, 0⟩, ⟨none, 0, 0⟩⟩ false 0 g q 8 4 4 l _ ⟨KB6.out, RD6.out⟩ rfl (by have := HA.out; omega)).mono ?_
  rintro e7 w7 ⟨rfl, ⟨hkb, hrd⟩, hbw⟩
  generalize hy7 : (false || decide (wordAt l 8 4 ≠ 0)) = y7 at *
  have HY7 := Lib.hid hy7
  have KB7 := Lib.hid (show Blk w7 g 95 #[.pointer (some ⟨q, 0, none⟩), .int .i64 x1, .int .i64 x3, .int .i64 0, .int .i64 0, .int .i64 0, .int .i64 0, .int .i64 0, .slice none 0 0, .bool false, .bool false, .bool false, .int .i64 0, .slice none 0 0, .slice none 0 0, .slice none 0 0, .slice none 0 0, .bool y7, .int .i64 0] from hkb)
  have RD7 := Lib.hid (show Rd w7 (g + 1) q l 12 from hrd)
  have B7 := Lib.hid (show Below g w w7 from B6.out.trans hbw)
  clear hkb hrd hbw hy7 KB6 RD6 B6 a0 a1 a2 a3 a4 a5 a6 a7 a8 a9 a10 a11 a12 a13 a14 a15 a16 a17 a18 f2
  obtain ⟨a0, a1, a2, a3, a4, a5, a6, a7, a8, a9, a10, a11, a12, a13, a14, a15, a16, a17, a18⟩ := KB7.out.nt
  go_wp2_with fail
  refine (rd_num (g + 1) q 12 2 2 l _ RD7.out rfl (by have := HA.out; omega)).mono ?_
  rintro e8 w8 ⟨rfl, hrd, hgr⟩
  have KB8 := Lib.hid (KB7.out.grown hgr (by omega))
  have RD8 := Lib.hid (show Rd w8 (g + 1) q l 14 from hrd)
  have B8 := Lib.hid (show Below g w w8 from B7.out.trans (grown_below hgr (by omega) (by have := B7.out.size; omega)))
  clear hrd hgr KB7 RD7 B7 a0 a1 a2 a3 a4 a5 a6 a7 a8 a9 a10 a11 a12 a13 a14 a15 a16 a17 a18
  generalize hx8 : wordAt l 12 2 = x4 at *
  have HX8 := Lib.hid hx8
  clear hx8
  obtain ⟨a0, a1, a2, a3, a4, a5, a6, a7, a8, a9, a10, a11, a12, a13, a14, a15, a16, a17, a18⟩ := KB8.out.nt
  go_wp2_with fail
  refine (zero_ok ⟨x1, x3, 0, 0, 0, 0, 0, ⟨none, 0, 0⟩, false, false, false, 0, ⟨none, 0, 0⟩, ⟨none, 0, 0⟩, ⟨none, 0, 0⟩, ⟨none, 0, 0⟩⟩ y7 0 g q 14 2 2 l _ ⟨KB8.out, RD8.out⟩ rfl (by have := HA.out; omega)).mono ?_
  rintro e9 w9 ⟨rfl, ⟨hkb, hrd⟩, hbw⟩
  generalize hy9 : (y7 || decide (wordAt l 14 2 ≠ 0)) = y9 at *
  have HY9 := Lib.hid hy9
  have KB9 := Lib.hid (show Blk w9 g 95 #[.pointer (some ⟨q, 0, none⟩), .int .i64 x1, .int .i64 x3, .int .i64 0, .int .i64 0, .int .i64 0, .int .i64 0, .int .i64 0, .slice none 0 0, .bool false, .bool false, .bool false, .int .i64 0, .slice none 0 0, .slice none 0 0, .slice none 0 0, .slice none 0 0, .bool y9, .int .i64 0] from hkb)
  have RD9 := Lib.hid (show Rd w9 (g + 1) q l 16 from hrd)
  have B9 := Lib.hid (show Below g w w9 from B8.out.trans hbw)
  clear hkb hrd hbw hy9 KB8 RD8 B8 a0 a1 a2 a3 a4 a5 a6 a7 a8 a9 a10 a11 a12 a13 a14 a15 a16 a17 a18
  obtain ⟨a0, a1, a2, a3, a4, a5, a6, a7, a8, a9, a10, a11, a12, a13, a14, a15, a16, a17, a18⟩ := KB9.out.nt
  go_wp2_with fail
  refine (zero_ok ⟨x1, x3, 0, 0, 0, 0, 0, ⟨none, 0, 0⟩, false, false, false, 0, ⟨none, 0, 0⟩, ⟨none, 0, 0⟩, ⟨none, 0, 0⟩, ⟨none, 0, 0⟩⟩ y9 0 g q 16 4 4 l _ ⟨KB9.out, RD9.out⟩ rfl (by have := HA.out; omega)).mono ?_
  rintro e10 w10 ⟨rfl, ⟨hkb, hrd⟩, hbw⟩
  generalize hy10 : (y9 || decide (wordAt l 16 4 ≠ 0)) = y10 at *
  have HY10 := Lib.hid hy10
  have KB10 := Lib.hid (show Blk w10 g 95 #[.pointer (some ⟨q, 0, none⟩), .int .i64 x1, .int .i64 x3, .int .i64 0, .int .i64 0, .int .i64 0, .int .i64 0, .int .i64 0, .slice none 0 0, .bool false, .bool false, .bool false, .int .i64 0, .slice none 0 0, .slice none 0 0, .slice none 0 0, .slice none 0 0, .bool y10, .int .i64 0] from hkb)
  have RD10 := Lib.hid (show Rd w10 (g + 1) q l 20 from hrd)
  have B10 := Lib.hid (show Below g w w10 from B9.out.trans hbw)
  clear hkb hrd hbw hy10 KB9 RD9 B9 a0 a1 a2 a3 a4 a5 a6 a7 a8 a9 a10 a11 a12 a13 a14 a15 a16 a17 a18
  obtain ⟨a0, a1, a2, a3, a4, a5, a6, a7, a8, a9, a10, a11, a12, a13, a14, a15, a16, a17, a18⟩ := KB10.out.nt
  go_wp2_with fail
  refine (zero_ok ⟨x1, x3, 0, 0, 0, 0, 0, ⟨none, 0, 0⟩, false, false, false, 0, ⟨none, 0, 0⟩, ⟨none, 0, 0⟩, ⟨none, 0, 0⟩, ⟨none, 0, 0⟩⟩ y10 0 g q 20 4 4 l _ ⟨KB10.out, RD10.out⟩ rfl (by have := HA.out; omega)).mono ?_
  rintro e11 w11 ⟨rfl, ⟨hkb, hrd⟩, hbw⟩
  generalize hy11 : (y10 || decide (wordAt l 20 4 ≠ 0)) = y11 at *
  have HY11 := Lib.hid hy11
  have KB11 := Lib.hid (show Blk w11 g 95 #[.pointer (some ⟨q, 0, none⟩), .int .i64 x1, .int .i64 x3, .int .i64 0, .int .i64 0, .int .i64 0, .int .i64 0, .int .i64 0, .slice none 0 0, .bool false, .bool false, .bool false, .int .i64 0, .slice none 0 0, .slice none 0 0, .slice none 0 0, .slice none 0 0, .bool y11, .int .i64 0] from hkb)
  have RD11 := Lib.hid (show Rd w11 (g + 1) q l 24 from hrd)
  have B11 := Lib.hid (show Below g w w11 from B10.out.trans hbw)
  clear hkb hrd hbw hy11 KB10 RD10 B10 a0 a1 a2 a3 a4 a5 a6 a7 a8 a9 a10 a11 a12 a13 a14 a15 a16 a17 a18
  obtain ⟨a0, a1, a2, a3, a4, a5, a6, a7, a8, a9, a10, a11, a12, a13, a14, a15, a16, a17, a18⟩ := KB11.out.nt
  go_wp2
  refine bodyPost_end (results_none rfl _ _ _) rfl ?_
  rw [← HQ.out]
  refine ⟨rfl, ⟨?_, RD11.out⟩, B11.out⟩
  have hw : wrongB l = y11 := by unfold wrongB; rw [HY7.out, HY9.out, HY10.out, HY11.out]
  rw [hw]
  exact KB11.out
end Go.Proofs.YtekhgkkgmkodmaaGreat
namespace Go.Proofs.YtekhgkkgmkodmaaGreat
open Go.RowKit

set_option maxRecDepth 8000 in
set_option maxHeartbeats 8000000 in
theorem hello_none (g q : Nat) (kd sd : Int) (wr0 : Bool) (l : List Int) (w : World) (h : RS w g q (zeroP kd sd) wr0 0 l 24) (ha : l.length = 40) :
    Calls Tryz.prog 89 #[.pointer (some ⟨g, 0, none⟩)] w (RZ w g q ⟨kd, sd, wordAt l 24 2, wordAt l 28 4, wordAt l 27 1, wordAt l 32 4, wordAt l 36 4, ⟨none, 0, 0⟩, false, false, false, 0, ⟨none, 0, 0⟩, ⟨none, 0, 0⟩, ⟨none, 0, 0⟩, ⟨none, 0, 0⟩⟩ (wr0 || decide (wordAt l 26 1 ≠ 0)) 0 l 40) := by
  generalize hQ : RZ w g q ⟨kd, sd, wordAt l 24 2, wordAt l 28 4, wordAt l 27 1, wordAt l 32 4, wordAt l 36 4, ⟨none, 0, 0⟩, false, false, false, 0, ⟨none, 0, 0⟩, ⟨none, 0, 0⟩, ⟨none, 0, 0⟩, ⟨none, 0, 0⟩⟩ (wr0 || decide (wordAt l 26 1 ≠ 0)) 0 l 40 = Q
  have HQ := Lib.hid hQ
  have HA := Lib.hid ha
  obtain ⟨hb, hrd⟩ := h
  have KB0 := Lib.hid (show Blk w g 95 #[.pointer (some ⟨q, 0, none⟩), .int .i64 kd, .int .i64 sd, .int .i64 0, .int .i64 0, .int .i64 0, .int .i64 0, .int .i64 0, .slice none 0 0, .bool false, .bool false, .bool false, .int .i64 0, .slice none 0 0, .slice none 0 0, .slice none 0 0, .slice none 0 0, .bool wr0, .int .i64 0] from hb)
  have RD0 := Lib.hid hrd
  have B0 := Lib.hid (Below.refl g w)
  have hgq : g < q := by have := hrd.lt.2; omega
  have hgw : g < w.heap.size := hb.lt
  clear hQ hb hrd ha
  obtain ⟨a0, a1, a2, a3, a4, a5, a6, a7, a8, a9, a10, a11, a12, a13, a14, a15, a16, a17, a18⟩ := KB0.out.nt
  go_enter Tryz.func89, Tryz.ntmps89
  go_wp2_with fail
  refine (rd_num (g + 1) q 24 2 2 l _ RD0.out rfl (by have := HA.out; omega)).mono ?_
  rintro e1 w1 ⟨rfl, hrd, hgr⟩
  have KB1 := Lib.hid (KB0.out.grown hgr (by omega))
  have RD1 := Lib.hid (show Rd w1 (g + 1) q l 26 from hrd)
  have B1 := Lib.hid (show Below g w w1 from B0.out.trans (grown_below hgr (by omega) (by have := B0.out.size; omega)))
  clear hrd hgr KB0 RD0 B0 a0 a1 a2 a3 a4 a5 a6 a7 a8 a9 a10 a11 a12 a13 a14 a15 a16 a17 a18
  generalize hx1 : wordAt l 24 2 = x0 at *
  have HX1 := Lib.hid hx1
  clear hx1
  obtain ⟨a0, a1, a2, a3, a4, a5, a6, a7, a8, a9, a10, a11, a12, a13, a14, a15, a16, a17, a18⟩ := KB1.out.nt
  have f3 := KB1.out.frozen 3
  have KB2 := Lib.hid (show Blk (w1.setCell ⟨g, 3, none⟩ (.int .i64 x0)) g 95 #[.pointer (some ⟨q, 0, none⟩), .int .i64 kd, .int .i64 sd, .int .i64 x0, .int .i64 0, .int .i64 0, .int .i64 0, .int .i64 0, .slice none 0 0, .bool false, .bool false, .bool false, .int .i64 0, .slice none 0 0, .slice none 0 0, .slice none 0 0, .slice none 0 0, .bool wr0, .int .i64 0] from (KB1.out.put 3 (.int .i64 x0)))
  have RD2 := Lib.hid (show Rd (w1.setCell ⟨g, 3, none⟩ (.int .i64 x0)) (g + 1) q l 26 from (RD1.out.far (p := ⟨g, 3, none⟩) (.inl (by simp)) (.int .i64 x0)))
  have B2 := Lib.hid (show Below g w (w1.setCell ⟨g, 3, none⟩ (.int .i64 x0)) from (B1.out.setCell (p := ⟨g, 3, none⟩) (by simp) (.int .i64 x0)))
  clear KB1 RD1 B1
  go_wp2_with fail
  refine (zero_ok ⟨kd, sd, x0, 0, 0, 0, 0, ⟨none, 0, 0⟩, false, false, false, 0, ⟨none, 0, 0⟩, ⟨none, 0, 0⟩, ⟨none, 0, 0⟩, ⟨none, 0, 0⟩⟩ wr0 0 g q 26 1 1 l _ ⟨KB2.out, RD2.out⟩ rfl (by have := HA.out; omega)).mono ?_
  rintro e3 w3 ⟨rfl, ⟨hkb, hrd⟩, hbw⟩
  generalize hy3 : (wr0 || decide (wordAt l 26 1 ≠ 0)) = y3 at *
  have HY3 := Lib.hid hy3
  have KB3 := Lib.hid (show Blk w3 g 95 #[.pointer (some ⟨q, 0, none⟩), .int .i64 kd, .int .i64 sd, .int .i64 x0, .int .i64 0, .int .i64 0, .int .i64 0, .int .i64 0, .slice none 0 0, .bool false, .bool false, .bool false, .int .i64 0, .slice none 0 0, .slice none 0 0, .slice none 0 0, .slice none 0 0, .bool y3, .int .i64 0] from hkb)
  have RD3 := Lib.hid (show Rd w3 (g + 1) q l 27 from hrd)
  have B3 := Lib.hid (show Below g w w3 from B2.out.trans hbw)
  clear hkb hrd hbw hy3 KB2 RD2 B2 a0 a1 a2 a3 a4 a5 a6 a7 a8 a9 a10 a11 a12 a13 a14 a15 a16 a17 a18 f3
  obtain ⟨a0, a1, a2, a3, a4, a5, a6, a7, a8, a9, a10, a11, a12, a13, a14, a15, a16, a17, a18⟩ := KB3.out.nt
  go_wp2_with fail
  refine (rd_num (g + 1) q 27 1 1 l _ RD3.out rfl (by have := HA.out; omega)).mono ?_
  rintro e4 w4 ⟨rfl, hrd, hgr⟩
  have KB4 := Lib.hid (KB3.out.grown hgr (by omega))
  have RD4 := Lib.hid (show Rd w4 (g + 1) q l 28 from hrd)
  have B4 := Lib.hid (show Below g w w4 from B3.out.trans (grown_below hgr (by omega) (by have := B3.out.size; omega)))
  clear hrd hgr KB3 RD3 B3 a0 a1 a2 a3 a4 a5 a6 a7 a8 a9 a10 a11 a12 a13 a14 a15 a16 a17 a18
  generalize hx4 : wordAt l 27 1 = x1 at *
  have HX4 := Lib.hid hx4
  clear hx4
  obtain ⟨a0, a1, a2, a3, a4, a5, a6, a7, a8, a9, a10, a11, a12, a13, a14, a15, a16, a17, a18⟩ := KB4.out.nt
  have f5 := KB4.out.frozen 5
  have KB5 := Lib.hid (show Blk (w4.setCell ⟨g, 5, none⟩ (.int .i64 x1)) g 95 #[.pointer (some ⟨q, 0, none⟩), .int .i64 kd, .int .i64 sd, .int .i64 x0, .int .i64 0, .int .i64 x1, .int .i64 0, .int .i64 0, .slice none 0 0, .bool false, .bool false, .bool false, .int .i64 0, .slice none 0 0, .slice none 0 0, .slice none 0 0, .slice none 0 0, .bool y3, .int .i64 0] from (KB4.out.put 5 (.int .i64 x1)))
  have RD5 := Lib.hid (show Rd (w4.setCell ⟨g, 5, none⟩ (.int .i64 x1)) (g + 1) q l 28 from (RD4.out.far (p := ⟨g, 5, none⟩) (.inl (by simp)) (.int .i64 x1)))
  have B5 := Lib.hid (show Below g w (w4.setCell ⟨g, 5, none⟩ (.int .i64 x1)) from (B4.out.setCell (p := ⟨g, 5, none⟩) (by simp) (.int .i64 x1)))
  clear KB4 RD4 B4
  go_wp2_with fail
  refine (rd_num (g + 1) q 28 4 4 l _ RD5.out rfl (by have := HA.out; omega)).mono ?_
  rintro e6 w6 ⟨rfl, hrd, hgr⟩
  have KB6 := Lib.hid (KB5.out.grown hgr (by omega))
  have RD6 := Lib.hid (show Rd w6 (g + 1) q l 32 from hrd)
  have B6 := Lib.hid (show Below g w w6 from B5.out.trans (grown_below hgr (by omega) (by have := B5.out.size; omega)))
  clear hrd hgr KB5 RD5 B5 a0 a1 a2 a3 a4 a5 a6 a7 a8 a9 a10 a11 a12 a13 a14 a15 a16 a17 a18 f5
  generalize hx6 : wordAt l 28 4 = x2 at *
  have HX6 := Lib.hid hx6
  clear hx6
  obtain ⟨a0, a1, a2, a3, a4, a5, a6, a7, a8, a9, a10, a11, a12, a13, a14, a15, a16, a17, a18⟩ := KB6.out.nt
  have f4 := KB6.out.frozen 4
  have KB7 := Lib.hid (show Blk (w6.setCell ⟨g, 4, none⟩ (.int .i64 x2)) g 95 #[.pointer (some ⟨q, 0, none⟩), .int .i64 kd, .int .i64 sd, .int .i64 x0, .int .i64 x2, .int .i64 x1, .int .i64 0, .int .i64 0, .slice none 0 0, .bool false, .bool false, .bool false, .int .i64 0, .slice none 0 0, .slice none 0 0, .slice none 0 0, .slice none 0 0, .bool y3, .int .i64 0] from (KB6.out.put 4 (.int .i64 x2)))
  have RD7 := Lib.hid (show Rd (w6.setCell ⟨g, 4, none⟩ (.int .i64 x2)) (g + 1) q l 32 from (RD6.out.far (p := ⟨g, 4, none⟩) (.inl (by simp)) (.int .i64 x2)))
  have B7 := Lib.hid (show Below g w (w6.setCell ⟨g, 4, none⟩ (.int .i64 x2)) from (B6.out.setCell (p := ⟨g, 4, none⟩) (by simp) (.int .i64 x2)))
  clear KB6 RD6 B6
  have HWR := Lib.hid (show (wr0 || decide (wordAt l 26 1 ≠ 0)) = y3 from HY3.out)
  go_upto_region 5 with fail
  generalize (w6.setCell ⟨g, 4, none⟩ (.int .i64 x2)) = wz at *
  obtain ⟨a0, a1, a2, a3, a4, a5, a6, a7, a8, a9, a10, a11, a12, a13, a14, a15, a16, a17, a18⟩ := KB7.out.nt
  have f6 := KB7.out.frozen 6
  have f7 := KB7.out.frozen 7
  generalize hx32 : wordAt l 32 4 = x3 at *
  generalize hx36 : wordAt l 36 4 = x4 at *
  have HX32 := Lib.hid hx32
  have HX36 := Lib.hid hx36
  clear hx32 hx36
  have RX := Lib.hid (show Rd wz.drew (g + 1) q l 32 from RD7.out)
  have KX := Lib.hid (Blk.drew KB7.out)
  have BX := Lib.hid (show Below g w wz.drew from below_drewN B7.out 1)
  have hzs := BX.out.size
  obtain ⟨d0, d1, d2, d3, d4, d5, d6, d7, d8, d9, d10, d11, d12, d13, d14, d15, d16, d17, d18⟩ := KX.out.nt
  clear a0 a1 a2 a3 a4 a5 a6 a7 a8 a9 a10 a11 a12 a13 a14 a15 a16 a17 a18
  go_region_with (first
    | (go_at_call 87; refine (rd_num (g + 1) q 36 4 4 l _ RY.out rfl (by have := HA.out; omega)).mono ?_; rintro ey wy ⟨rfl, hrdy, hgry⟩; rw [HX36.out]; have BY := Lib.hid (show Below g w wy from BXb.out.trans (grown_below hgry (by omega) (by have := BXb.out.size; omega))); have RE := Lib.hid hrdy; have KY := Lib.hid (KXb.out.grown hgry (by omega)); obtain ⟨a0, a1, a2, a3, a4, a5, a6, a7, a8, a9, a10, a11, a12, a13, a14, a15, a16, a17, a18⟩ := KY.out.nt; have f6 := KY.out.frozen 6; have f7 := KY.out.frozen 7)
    | (go_at_call 87; refine (rd_num (g + 1) q 32 4 4 l _ RX.out rfl (by have := HA.out; omega)).mono ?_; rintro ex wx ⟨rfl, hrdx, hgrx⟩; rw [HX32.out]; have BXb := Lib.hid (show Below g w wx from BX.out.trans (grown_below hgrx (by omega) (by have := BX.out.size; omega))); have RY := Lib.hid hrdx; have KXb := Lib.hid (KX.out.grown hgrx (by omega)); obtain ⟨a0, a1, a2, a3, a4, a5, a6, a7, a8, a9, a10, a11, a12, a13, a14, a15, a16, a17, a18⟩ := KXb.out.nt))
  all_goals
    have KBf := Lib.hid (show Blk ((wy.setCell ⟨g, 6, none⟩ (.int .i64 x3)).setCell ⟨g, 7, none⟩ (.int .i64 x4)) g 95 #[.pointer (some ⟨q, 0, none⟩), .int .i64 kd, .int .i64 sd, .int .i64 x0, .int .i64 x2, .int .i64 x1, .int .i64 x3, .int .i64 x4, .slice none 0 0, .bool false, .bool false, .bool false, .int .i64 0, .slice none 0 0, .slice none 0 0, .slice none 0 0, .slice none 0 0, .bool y3, .int .i64 0] from (KY.out.put 6 (.int .i64 x3)).put 7 (.int .i64 x4))
    have RDf := Lib.hid (show Rd ((wy.setCell ⟨g, 6, none⟩ (.int .i64 x3)).setCell ⟨g, 7, none⟩ (.int .i64 x4)) (g + 1) q l 40 from (RE.out.far (p := ⟨g, 6, none⟩) (.inl (by simp)) (.int .i64 x3)).far (p := ⟨g, 7, none⟩) (.inl (by simp)) (.int .i64 x4))
    have Bf := Lib.hid (show Below g w ((wy.setCell ⟨g, 6, none⟩ (.int .i64 x3)).setCell ⟨g, 7, none⟩ (.int .i64 x4)) from (BY.out.setCell (p := ⟨g, 6, none⟩) (by simp) (.int .i64 x3)).setCell (p := ⟨g, 7, none⟩) (by simp) (.int .i64 x4))
    generalize ((wy.setCell ⟨g, 6, none⟩ (.int .i64 x3)).setCell ⟨g, 7, none⟩ (.int .i64 x4)) = wf at *
    clear a0 a1 a2 a3 a4 a5 a6 a7 a8 a9 a10 a11 a12 a13 a14 a15 a16 a17 a18 f6 f7
    obtain ⟨a0, a1, a2, a3, a4, a5, a6, a7, a8, a9, a10, a11, a12, a13, a14, a15, a16, a17, a18⟩ := KBf.out.nt
    go_wp2_with fail
    go_loopw [] (fun wr => wr = wf) (fun _ => 0)
    case atStart => rfl
    case round =>
      subst hrel
      go_wp2_with fail
      refine (rd_left (g + 1) q 40 l _ RDf.out).mono ?_
      rintro el wl ⟨rfl, dl, rfl⟩
      rw [show ((l.length - 40 : Nat) : Int) = 0 by rw [HA.out]; rfl]
      go_wp2
      refine bodyPost_end (results_none rfl _ _ _) rfl ?_
      rw [← HQ.out]
      refine ⟨rfl, ⟨?_, RDf.out⟩, below_drewN Bf.out dl⟩
      exact KBf.out
end Go.Proofs.YtekhgkkgmkodmaaGreat
namespace Go.Proofs.YtekhgkkgmkodmaaGreat
open Go.RowKit

set_option maxRecDepth 8000 in
set_option maxHeartbeats 8000000 in
theorem rest_hello (g q : Nat) (sd : Int) (wr0 : Bool) (l : List Int) (w : World) (h : RS w g q (zeroP 1 sd) wr0 0 l 24) (ha : l.length = 40) :
    Calls Tryz.prog 68 #[.pointer (some ⟨g, 0, none⟩)] w (RZ w g q ⟨1, sd, wordAt l 24 2, wordAt l 28 4, wordAt l 27 1, wordAt l 32 4, wordAt l 36 4, ⟨none, 0, 0⟩, false, false, false, 0, ⟨none, 0, 0⟩, ⟨none, 0, 0⟩, ⟨none, 0, 0⟩, ⟨none, 0, 0⟩⟩ (wr0 || decide (wordAt l 26 1 ≠ 0)) 0 l 40) := by
  generalize hQ : RZ w g q ⟨1, sd, wordAt l 24 2, wordAt l 28 4, wordAt l 27 1, wordAt l 32 4, wordAt l 36 4, ⟨none, 0, 0⟩, false, false, false, 0, ⟨none, 0, 0⟩, ⟨none, 0, 0⟩, ⟨none, 0, 0⟩, ⟨none, 0, 0⟩⟩ (wr0 || decide (wordAt l 26 1 ≠ 0)) 0 l 40 = Q
  have HQ := Lib.hid hQ
  have HA := Lib.hid ha
  obtain ⟨hb, hrd⟩ := h
  have KB0 := Lib.hid (show Blk w g 95 #[.pointer (some ⟨q, 0, none⟩), .int .i64 1, .int .i64 sd, .int .i64 0, .int .i64 0, .int .i64 0, .int .i64 0, .int .i64 0, .slice none 0 0, .bool false, .bool false, .bool false, .int .i64 0, .slice none 0 0, .slice none 0 0, .slice none 0 0, .slice none 0 0, .bool wr0, .int .i64 0] from hb)
  have RD0 := Lib.hid hrd
  have hgq : g < q := by have := hrd.lt.2; omega
  have hgw : g < w.heap.size := hb.lt
  clear hQ hb hrd ha
  obtain ⟨a0, a1, a2, a3, a4, a5, a6, a7, a8, a9, a10, a11, a12, a13, a14, a15, a16, a17, a18⟩ := KB0.out.nt
  go_enter Tryz.func68, Tryz.ntmps68
  go_wp2_with fail
  refine (hello_none g q 1 sd wr0 l _ ⟨KB0.out.alloc _, RD0.out.alloc _⟩ HA.out).mono ?_
  rintro e1 w1 ⟨rfl, hrs, hb1⟩
  have RS1 := Lib.hid hrs
  have B1 := Lib.hid (show Below g w w1 from ((Below.refl g w).alloc (by omega) _).trans hb1)
  clear hrs hb1
  go_wp2
  refine bodyPost_end (results_none rfl _ _ _) rfl ?_
  rw [← HQ.out]
  exact ⟨rfl, RS1.out, B1.out⟩

/-- How many bytes a packet's bytes tell that they are. -/
def plong (l : List Int) : Nat := (wordAt l 2 2).toNat
/-- Is the version, the kind, the length, and what follows it, as told? -/
def lenOk (l : List Int) : Bool := decide (wordAt l 0 1 = 2) && (inB (wordAt l 1 1) 1 5 && (decide (24 ≤ plong l) && (decide (l.length = plong l + plong l % 2) && (decide (plong l % 2 = 0) || decide (l.getD (plong l) 0 = 0)))))
/-- What length answers: how many, if all is as told. -/
def LenR (w : World) (l : List Int) (x : Ending) (w' : World) : Prop :=
  Below w.heap.size w w' ∧ ∃ m : Int, x = .returned (.tuple #[.int .i64 m, .bool (lenOk l)]) ∧ (lenOk l = true → m = plong l)

theorem wordAt_pre (l : List Int) (a m k : Nat) (h : a + m ≤ k) : wordAt (l.take k) a m = wordAt l a m := by
  unfold wordAt
  rw [List.drop_take, List.take_take, Nat.min_eq_left (by omega)]
set_option maxRecDepth 8000 in
set_option maxHeartbeats 8000000 in
theorem length_any (A : Option Addr) (n c B : Nat) (l : List Int) (w : World) (hr : Row .u8 w B A n l) (hby : Byt l) (hB : B ≤ w.heap.size) (hn : 24 ≤ n) (hn2 : n ≤ 1048576) (hnc : n ≤ c) (hc : c ≤ maxLen) :
    Calls Tryz.prog 65 #[.slice A n c] w (LenR w l) := by
  generalize hQ : LenR w l = Q
  have HQ := Lib.hid hQ
  have HLEN := Lib.hid hr.1
  have HY := Lib.hid hby
  unfold maxLen at hc
  have hbd := wordAt_bd l hby 2 2 (by rw [hr.1]; omega)
  have hbd1 := wordAt_bd l hby 1 1 (by rw [hr.1]; omega)
  rw [show (256 : Int) ^ 2 = 65536 by decide] at hbd
  rw [show (256 : Int) ^ 1 = 256 by decide] at hbd1
  obtain ⟨p, hp⟩ : ∃ p, plong l = p := ⟨_, rfl⟩
  have hp2 : wordAt l 2 2 = (p : Int) := by rw [← hp]; unfold plong; omega
  have hp3 : p < 65536 := by omega
  have H0 := Lib.hid (wordAt_pre l 0 1 4 (by omega))
  have H1 := Lib.hid (wordAt_pre l 1 1 4 (by omega))
  have H2 := Lib.hid ((wordAt_pre l 2 2 4 (by omega)).trans hp2)
  have HPL := Lib.hid hp
  obtain ⟨b0, o0, rfl, hb0, -⟩ := hr.2 (by omega)
  have HR := Lib.hid hr
  have HR4 := Lib.hid (hr.head 4 (by omega))
  have H4 := Lib.hid (show (l.take 4).length = 4 by rw [List.length_take, hr.1]; omega)
  clear hr hby hbd hp hp2 hQ
  go_enter Tryz.func65, Tryz.ntmps65
  go_wp2_with fail
  refine (rd_read (some ⟨b0, o0, none⟩) 4 c B (l.take 4) _ HR4.out (HY.out.take 4) hB (by omega)).mono ?_
  rintro e1 w1 ⟨rfl, hb1, hrd1⟩
  have RD1 := Lib.hid hrd1
  have B1 := Lib.hid hb1
  clear hb1 hrd1
  go_wp2_with fail
  refine (rd_num _ _ 0 1 1 (l.take 4) _ RD1.out rfl (by rw [H4.out]; omega)).mono ?_
  rintro e2 w2 ⟨rfl, hrd2, hgr2⟩
  rw [H0.out]
  have RD2 := Lib.hid hrd2
  have B2 := Lib.hid (below_grown B1.out hgr2 (Nat.le_refl _) (by omega))
  clear hrd2 hgr2 RD1 B1
  by_cases hv : wordAt l 0 1 = 2
  · have HV := Lib.hid hv
    rw [hv]
    clear hv
    go_wp2_with fail
    refine (rd_num _ _ 1 1 1 (l.take 4) _ RD2.out rfl (by rw [H4.out]; omega)).mono ?_
    rintro e3 w3 ⟨rfl, hrd3, hgr3⟩
    rw [H1.out]
    have RD3 := Lib.hid hrd3
    have B3 := Lib.hid (below_grown B2.out hgr3 (Nat.le_refl _) (by omega))
    clear hrd3 hgr3 RD2 B2
    generalize hk : wordAt l 1 1 = kd at *
    have HK := Lib.hid hk
    clear hk
    go_wp2_with fail
    refine (pwithin_any _ _ _ _).mono ?_
    rintro e4 w4 ⟨rfl, rfl⟩
    cases hi : inB kd 1 5
    · have HE := Lib.hid (show lenOk l = false by unfold lenOk; rw [HK.out, hi]; simp)
      go_wp2
      rw [← HQ.out]
      exact ⟨B3.out, 0, by rw [HE.out] <;> rfl, by rw [HE.out]; intro h; cases h⟩
    · have HI := Lib.hid hi
      clear hi
      go_wp2_with fail
      refine (rd_num _ _ 2 2 2 (l.take 4) _ RD3.out rfl (by rw [H4.out]; omega)).mono ?_
      rintro e5 w5 ⟨rfl, hrd5, hgr5⟩
      rw [H2.out]
      have B5 := Lib.hid (below_grown B3.out hgr5 (Nat.le_refl _) (by omega))
      clear hrd5 hgr5 RD3 B3
      have HEQ := Lib.hid (show lenOk l = (decide (24 ≤ p) && (decide (n = p + p % 2) && (decide (p % 2 = 0) || decide (l.getD p 0 = 0)))) by
        unfold lenOk; rw [HK.out, HV.out, HI.out, HPL.out, HLEN.out]; simp)
      by_cases h24 : p < 24
      · have HE := Lib.hid (show lenOk l = false by rw [HEQ.out, decide_eq_false (by omega)]; rfl)
        go_wp2
        rw [← HQ.out]
        exact ⟨B5.out, 0, by rw [HE.out] <;> rfl, by rw [HE.out]; intro h; cases h⟩
      · have HEQ2 := Lib.hid (show lenOk l = (decide (n = p + p % 2) && (decide (p % 2 = 0) || decide (l.getD p 0 = 0))) by rw [HEQ.out, decide_eq_true (by omega)]; rfl)
        clear HEQ
        obtain ⟨r, hr⟩ : ∃ r, p % 2 = r := ⟨_, rfl⟩
        have hr2 : r < 2 := by omega
        have HRM := Lib.hid hr
        have hmod : (p : Int) % 2 = (r : Int) := by omega
        have h24' : (24 : Int) ≤ p := by omega
        clear hr h24
        by_cases hnp : n = p + r
        · have HR5 := Lib.hid (HR.out.below (B5.out.mono hB))
          by_cases hr0 : r = 0
          · subst hr0
            have HE := Lib.hid (show lenOk l = true by rw [HEQ2.out, HRM.out, decide_eq_true hnp]; rfl)
            have hmod0 : (p : Int) % 2 = 0 := hmod
            obtain rfl : n = p := hnp
            clear hmod
            go_wp2_with fail
            go_quiet (fail)
            go_wp2
            rw [← HQ.out]
            exact ⟨below_drewN B5.out _, n, by rw [HE.out] <;> rfl, fun _ => by rw [HPL.out]⟩
          · obtain rfl : r = 1 := by omega
            have hmod1 : (p : Int) % 2 = 1 := hmod
            have HE := Lib.hid (show lenOk l = decide (l.getD p 0 = 0) by rw [HEQ2.out, HRM.out, decide_eq_true hnp]; simp)
            subst hnp
            obtain ⟨b1, o1, e1, hb1, hc1⟩ := HR5.out.2 (by omega)
            have c0 := hc1 p (by omega)
            have e2 := Option.some.inj e1
            injection e2 with e3 e4
            subst e3 e4
            clear hc1 e1 hmod hr0
            generalize hy : l.getD p 0 = y at *
            have HY2 := Lib.hid hy
            clear hy
            go_wp2_with fail
            go_quiet (fail)
            go_wp2
            rw [← HQ.out]
            exact ⟨below_drewN B5.out _, p, by rw [HE.out] <;> rfl, fun _ => by rw [HPL.out]⟩
        · have HE := Lib.hid (show lenOk l = false by rw [HEQ2.out, HRM.out, decide_eq_false hnp]; rfl)
          have hne : ((n : Int) != (p : Int) + (r : Int)) = true := by simp; omega
          clear hnp
          go_wp2
          rw [← HQ.out]
          exact ⟨B5.out, 0, by rw [HE.out] <;> rfl, by rw [HE.out]; intro h; cases h⟩
  · have hd : (wordAt l 0 1 != 2) = true := by simp [hv]
    have HE := Lib.hid (show lenOk l = false by unfold lenOk; rw [decide_eq_false hv]; rfl)
    clear hv
    generalize wordAt l 0 1 = x0 at *
    go_wp2
    rw [← HQ.out]
    exact ⟨B2.out, 0, by rw [HE.out] <;> rfl, by rw [HE.out]; intro h; cases h⟩
end Go.Proofs.YtekhgkkgmkodmaaGreat
namespace Go.Proofs.YtekhgkkgmkodmaaGreat
open Go.RowKit

/-- No packet, and an error. -/
def NoP (w : World) (e : Int) (x : Ending) (w' : World) : Prop := x = .returned (.tuple #[.agg #[.int .i64 0, .int .i64 0, .int .i64 0, .int .i64 0, .int .i64 0, .int .i64 0, .int .i64 0, .slice none 0 0, .bool false, .bool false, .bool false, .int .i64 0, .slice none 0 0, .slice none 0 0, .slice none 0 0, .slice none 0 0], .int .i64 e]) ∧ Below w.heap.size w w'

set_option maxRecDepth 8000 in
set_option maxHeartbeats 8000000 in
theorem told_no (A : Option Addr) (n c B : Nat) (l : List Int) (w : World) (hr : Row .u8 w B A n l) (hby : Byt l) (hB : B ≤ w.heap.size) (hn : 24 ≤ n) (hn2 : n ≤ 1048576) (hnc : n ≤ c) (hc : c ≤ maxLen) (hno : lenOk l = false) :
    Calls Tryz.prog 36 #[.slice A n c] w (NoP w 4) := by
  generalize hQ : NoP w 4 = Q
  have HQ := Lib.hid hQ
  have HR := Lib.hid hr
  have HY := Lib.hid hby
  have HNO := Lib.hid hno
  have HC := Lib.hid hc
  have K0 := Lib.hid ((Blk.new w 31 #[.int .i64 0, .int .i64 0, .int .i64 0, .int .i64 0, .int .i64 0, .int .i64 0, .int .i64 0, .slice none 0 0, .bool false, .bool false, .bool false, .int .i64 0, .slice none 0 0, .slice none 0 0, .slice none 0 0, .slice none 0 0]).alloc (.cells #[.pointer none, .int .i64 0, .int .i64 0, .int .i64 0, .int .i64 0, .int .i64 0, .int .i64 0, .int .i64 0, .slice none 0 0, .bool false, .bool false, .bool false, .int .i64 0, .slice none 0 0, .slice none 0 0, .slice none 0 0, .slice none 0 0, .bool false, .int .i64 0] 95))
  have B0 := Lib.hid (((Below.refl w.heap.size w).alloc (Nat.le_refl _) (.cells #[.int .i64 0, .int .i64 0, .int .i64 0, .int .i64 0, .int .i64 0, .int .i64 0, .int .i64 0, .slice none 0 0, .bool false, .bool false, .bool false, .int .i64 0, .slice none 0 0, .slice none 0 0, .slice none 0 0, .slice none 0 0] 31)).alloc (by simp) (.cells #[.pointer none, .int .i64 0, .int .i64 0, .int .i64 0, .int .i64 0, .int .i64 0, .int .i64 0, .int .i64 0, .slice none 0 0, .bool false, .bool false, .bool false, .int .i64 0, .slice none 0 0, .slice none 0 0, .slice none 0 0, .slice none 0 0, .bool false, .int .i64 0] 95))
  clear hQ hr hby hno
  unfold maxLen at hc
  go_enter Tryz.func36, Tryz.ntmps36
  go_wp2
  refine scope_fwd 0 rfl ?_
  go_wp2_with fail
  refine (length_any A n c B l _ ((HR.out.alloc hB _).alloc (by simp; omega) _) HY.out (by simp; omega) hn hn2 hnc HC.out).mono ?_
  rintro e1 w1 ⟨hb1, m, rfl, -⟩
  rw [HNO.out]
  have K1 := Lib.hid (K0.out.below hb1 (by simp; omega))
  have B1 := Lib.hid (B0.out.trans (hb1.mono (by simp; omega)))
  clear hb1 K0 B0
  obtain ⟨a0, a1, a2, a3, a4, a5, a6, a7, a8, a9, a10, a11, a12, a13, a14, a15⟩ := K1.out.sixteen
  obtain ⟨f0, f1, f2, f3, f4, f5, f6, f7, f8, f9, f10, f11, f12, f13, f14, f15⟩ := K1.out.sixteenF
  go_wp2
  go_step3
  refine ⟨rfl, ?_⟩
  go_wp2
  refine bodyPost_ret (v := .tuple #[.agg #[.int .i64 0, .int .i64 0, .int .i64 0, .int .i64 0, .int .i64 0, .int .i64 0, .int .i64 0, .slice none 0 0, .bool false, .bool false, .bool false, .int .i64 0, .slice none 0 0, .slice none 0 0, .slice none 0 0, .slice none 0 0], .int .i64 4]) (by simp [results, Tryz.results36, go_sem, *]) rfl ?_
  rw [← HQ.out]
  refine ⟨rfl, ?_⟩
  iterate 16 (refine Below.setCell ?_ (by simp) _)
  exact B1.out

set_option maxRecDepth 8000 in
set_option maxHeartbeats 8000000 in
theorem get_short (A : Option Addr) (n c : Nat) (w : World) (hn : n < 24) :
    Calls Tryz.prog 9 #[.slice A n c] w (NoP w 3) := by
  generalize hQ : NoP w 3 = Q
  have HQ := Lib.hid hQ
  clear hQ
  have K0 := Lib.hid (Blk.new w 31 #[.int .i64 0, .int .i64 0, .int .i64 0, .int .i64 0, .int .i64 0, .int .i64 0, .int .i64 0, .slice none 0 0, .bool false, .bool false, .bool false, .int .i64 0, .slice none 0 0, .slice none 0 0, .slice none 0 0, .slice none 0 0])
  have B0 := Lib.hid ((Below.refl w.heap.size w).alloc (Nat.le_refl _) (.cells #[.int .i64 0, .int .i64 0, .int .i64 0, .int .i64 0, .int .i64 0, .int .i64 0, .int .i64 0, .slice none 0 0, .bool false, .bool false, .bool false, .int .i64 0, .slice none 0 0, .slice none 0 0, .slice none 0 0, .slice none 0 0] 31))
  obtain ⟨a0, a1, a2, a3, a4, a5, a6, a7, a8, a9, a10, a11, a12, a13, a14, a15⟩ := K0.out.sixteen
  go_enter Tryz.func9, Tryz.ntmps9
  go_wp2
  refine bodyPost_ret (v := .tuple #[.agg #[.int .i64 0, .int .i64 0, .int .i64 0, .int .i64 0, .int .i64 0, .int .i64 0, .int .i64 0, .slice none 0 0, .bool false, .bool false, .bool false, .int .i64 0, .slice none 0 0, .slice none 0 0, .slice none 0 0, .slice none 0 0], .int .i64 3]) (by simp [results, Tryz.results9, go_sem, *]) rfl ?_
  rw [← HQ.out]
  exact ⟨rfl, B0.out⟩

set_option maxRecDepth 8000 in
set_option maxHeartbeats 8000000 in
theorem get_sum (A : Option Addr) (n c B : Nat) (l : List Int) (w : World) (hr : Row .u8 w B A n l) (hby : Byt l) (hB : B ≤ w.heap.size) (hn : 24 ≤ n) (hn2 : n ≤ 1048576) (hnc : n ≤ c) (hno : goodB l = false) :
    Calls Tryz.prog 9 #[.slice A n c] w (NoP w 5) := by
  generalize hQ : NoP w 5 = Q
  have HQ := Lib.hid hQ
  have HR := Lib.hid hr
  have HY := Lib.hid hby
  have HNO := Lib.hid hno
  have K0 := Lib.hid (Blk.new w 31 #[.int .i64 0, .int .i64 0, .int .i64 0, .int .i64 0, .int .i64 0, .int .i64 0, .int .i64 0, .slice none 0 0, .bool false, .bool false, .bool false, .int .i64 0, .slice none 0 0, .slice none 0 0, .slice none 0 0, .slice none 0 0])
  have B0 := Lib.hid ((Below.refl w.heap.size w).alloc (Nat.le_refl _) (.cells #[.int .i64 0, .int .i64 0, .int .i64 0, .int .i64 0, .int .i64 0, .int .i64 0, .int .i64 0, .slice none 0 0, .bool false, .bool false, .bool false, .int .i64 0, .slice none 0 0, .slice none 0 0, .slice none 0 0, .slice none 0 0] 31))
  clear hQ hr hby hno
  go_enter Tryz.func9, Tryz.ntmps9
  go_wp2_with fail
  refine (good_any A n c B l _ (HR.out.alloc hB _) HY.out (by omega) (by simp; omega) hnc).mono ?_
  rintro e1 w1 ⟨rfl, hb1⟩
  rw [HNO.out]
  have K1 := Lib.hid (K0.out.below hb1 (by simp))
  have B1 := Lib.hid (B0.out.trans (hb1.mono (by simp)))
  clear hb1 K0 B0
  obtain ⟨a0, a1, a2, a3, a4, a5, a6, a7, a8, a9, a10, a11, a12, a13, a14, a15⟩ := K1.out.sixteen
  obtain ⟨f0, f1, f2, f3, f4, f5, f6, f7, f8, f9, f10, f11, f12, f13, f14, f15⟩ := K1.out.sixteenF
  go_wp2
  refine bodyPost_ret (v := .tuple #[.agg #[.int .i64 0, .int .i64 0, .int .i64 0, .int .i64 0, .int .i64 0, .int .i64 0, .int .i64 0, .slice none 0 0, .bool false, .bool false, .bool false, .int .i64 0, .slice none 0 0, .slice none 0 0, .slice none 0 0, .slice none 0 0], .int .i64 5]) (by simp [results, Tryz.results9, go_sem, *]) rfl ?_
  rw [← HQ.out]
  refine ⟨rfl, ?_⟩
  iterate 16 (refine Below.setCell ?_ (by simp) _)
  exact B1.out
end Go.Proofs.YtekhgkkgmkodmaaGreat
