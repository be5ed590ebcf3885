/- The call Right of package packet. Conditions: lists read as such. · The calls ddBytes, updateBytes and body of package packet. Conditions: lists read as such, and aren't long; descriptions are right. -/
import Derived.Test.YtekhgkkgmkodmaaGreatJan
import Derived.Test.YtekhgkkgmkodmaaGreatJao
import Derived.Test.YtekhgkkgmkodmaaGreatJap
import Derived.Test.YtekhgkkgmkodmaaGreatJam
namespace Go.Proofs.YtekhgkkgmkodmaaGreat
open Go.RowKit

/-- v2 has of v just the parts that the five tell. -/
def RelAll (v v2 : Pv) (f1 f2 f3 f4 f5 : Bool) : Prop := v2.kind = v.kind ∧ v2.sender = v.sender ∧ ∀ W B l, PkIn W B v l → RelH W B v v2 l f1 ∧ RelD W B v v2 l f2 ∧ RelW W B v v2 l f3 ∧ RelL W B v v2 l f4 ∧ RelA W B v v2 l f5
theorem only_any (v : Pv) (w : World) : Calls Tryz.prog 26 #[.agg #[.int .i64 v.kind, .int .i64 v.sender, .int .i64 v.every, .int .i64 v.dead, .int .i64 v.prio, .int .i64 v.dr, .int .i64 v.bdr, .slice v.seen.a v.seen.n v.seen.c, .bool v.ini, .bool v.mor, .bool v.mas, .int .i64 v.seq, .slice v.heads.a v.heads.n v.heads.c, .slice v.wants.a v.wants.n v.wants.c, .slice v.lsas.a v.lsas.n v.lsas.c, .slice v.acks.a v.acks.n v.acks.c]] w fun x w' => ∃ v2 : Pv, x = .returned (.agg #[.int .i64 v2.kind, .int .i64 v2.sender, .int .i64 v2.every, .int .i64 v2.dead, .int .i64 v2.prio, .int .i64 v2.dr, .int .i64 v2.bdr, .slice v2.seen.a v2.seen.n v2.seen.c, .bool v2.ini, .bool v2.mor, .bool v2.mas, .int .i64 v2.seq, .slice v2.heads.a v2.heads.n v2.heads.c, .slice v2.wants.a v2.wants.n v2.wants.c, .slice v2.lsas.a v2.lsas.n v2.lsas.c, .slice v2.acks.a v2.acks.n v2.acks.c]) ∧ RelAll v v2 (decide (v.kind = 1)) (decide (v.kind = 2)) (decide (v.kind = 3)) (decide (v.kind = 4)) (decide (v.kind = 5)) ∧ Below w.heap.size w w' := by
  by_cases h1 : v.kind = 1
  · refine (only_hello v w h1).mono ?_
    rintro x w' ⟨rfl, hb⟩
    refine ⟨⟨v.kind, v.sender, v.every, v.dead, v.prio, v.dr, v.bdr, v.seen, false, false, false, 0, ⟨none, 0, 0⟩, ⟨none, 0, 0⟩, ⟨none, 0, 0⟩, ⟨none, 0, 0⟩⟩, rfl, ⟨rfl, rfl, fun W B l h => ?_⟩, hb⟩
    rw [h1]
    exact ⟨⟨rfl, rfl, rfl, rfl, rfl, rfl, h.1⟩, ⟨rfl, rfl, rfl, rfl, rfl⟩, rfl, rfl, rfl⟩
  by_cases h2 : v.kind = 2
  · refine (only_dd v w h2).mono ?_
    rintro x w' ⟨rfl, hb⟩
    refine ⟨⟨v.kind, v.sender, 0, 0, 0, 0, 0, ⟨none, 0, 0⟩, v.ini, v.mor, v.mas, v.seq, v.heads, ⟨none, 0, 0⟩, ⟨none, 0, 0⟩, ⟨none, 0, 0⟩⟩, rfl, ⟨rfl, rfl, fun W B l h => ?_⟩, hb⟩
    rw [h2]
    exact ⟨⟨rfl, rfl, rfl, rfl, rfl, rfl⟩, ⟨rfl, rfl, rfl, rfl, rfl, h.2.1⟩, rfl, rfl, rfl⟩
  by_cases h3 : v.kind = 3
  · refine (only_want v w h3).mono ?_
    rintro x w' ⟨rfl, hb⟩
    refine ⟨⟨v.kind, v.sender, 0, 0, 0, 0, 0, ⟨none, 0, 0⟩, false, false, false, 0, ⟨none, 0, 0⟩, v.wants, ⟨none, 0, 0⟩, ⟨none, 0, 0⟩⟩, rfl, ⟨rfl, rfl, fun W B l h => ?_⟩, hb⟩
    rw [h3]
    exact ⟨⟨rfl, rfl, rfl, rfl, rfl, rfl⟩, ⟨rfl, rfl, rfl, rfl, rfl⟩, ⟨rfl, h.2.2.1⟩, rfl, rfl⟩
  by_cases h4 : v.kind = 4
  · refine (only_update v w h4).mono ?_
    rintro x w' ⟨rfl, hb⟩
    refine ⟨⟨v.kind, v.sender, 0, 0, 0, 0, 0, ⟨none, 0, 0⟩, false, false, false, 0, ⟨none, 0, 0⟩, ⟨none, 0, 0⟩, v.lsas, ⟨none, 0, 0⟩⟩, rfl, ⟨rfl, rfl, fun W B l h => ?_⟩, hb⟩
    rw [h4]
    exact ⟨⟨rfl, rfl, rfl, rfl, rfl, rfl⟩, ⟨rfl, rfl, rfl, rfl, rfl⟩, rfl, ⟨rfl, h.2.2.2.1⟩, rfl⟩
  by_cases h5 : v.kind = 5
  · refine (only_ack v w h5).mono ?_
    rintro x w' ⟨rfl, hb⟩
    refine ⟨⟨v.kind, v.sender, 0, 0, 0, 0, 0, ⟨none, 0, 0⟩, false, false, false, 0, ⟨none, 0, 0⟩, ⟨none, 0, 0⟩, ⟨none, 0, 0⟩, v.acks⟩, rfl, ⟨rfl, rfl, fun W B l h => ?_⟩, hb⟩
    rw [h5]
    exact ⟨⟨rfl, rfl, rfl, rfl, rfl, rfl⟩, ⟨rfl, rfl, rfl, rfl, rfl⟩, rfl, rfl, ⟨rfl, h.2.2.2.2⟩⟩
  refine (only_none v w h1 h2 h3 h4 h5).mono ?_
  rintro x w' ⟨rfl, hb⟩
  refine ⟨⟨v.kind, v.sender, 0, 0, 0, 0, 0, ⟨none, 0, 0⟩, false, false, false, 0, ⟨none, 0, 0⟩, ⟨none, 0, 0⟩, ⟨none, 0, 0⟩, ⟨none, 0, 0⟩⟩, rfl, ⟨rfl, rfl, fun W B l h => ?_⟩, hb⟩
  rw [decide_eq_false h1, decide_eq_false h2, decide_eq_false h3, decide_eq_false h4, decide_eq_false h5]
  exact ⟨⟨rfl, rfl, rfl, rfl, rfl, rfl⟩, ⟨rfl, rfl, rfl, rfl, rfl⟩, rfl, rfl, rfl⟩

/-- Has a packet what its kind has alone? -/
def onlyB (v : Pv) (l : Pl) : Bool := sameF v l (decide (v.kind = 1)) (decide (v.kind = 2)) (decide (v.kind = 3)) (decide (v.kind = 4)) (decide (v.kind = 5))
/-- Is what a packet's kind has right? -/
def partB (v : Pv) (l : Pl) : Bool := if v.kind = 1 then helloB v.every v.dead v.prio v.dr v.bdr l.seen else if v.kind = 2 then ddB v.ini v.mor v.mas v.seq l.heads else if v.kind = 3 then pieceB 1 keyB l.wants else if v.kind = 4 then pieceB 1 laB l.lsas else if v.kind = 5 then pieceB 1 hdB l.acks else false
/-- Is a packet right? -/
def rightP (v : Pv) (l : Pl) : Bool := inB v.sender 1 15 && (onlyB v l && partB v l)

theorem same_only (v v2 : Pv) (l : Pl) (B : Nat) (w : World) (h : PkIn w B v l) (hs : PkSm v) (hB : B ≤ w.heap.size) (hr : RelAll v v2 (decide (v.kind = 1)) (decide (v.kind = 2)) (decide (v.kind = 3)) (decide (v.kind = 4)) (decide (v.kind = 5))) :
    Calls Tryz.prog 13 #[.agg #[.int .i64 v.kind, .int .i64 v.sender, .int .i64 v.every, .int .i64 v.dead, .int .i64 v.prio, .int .i64 v.dr, .int .i64 v.bdr, .slice v.seen.a v.seen.n v.seen.c, .bool v.ini, .bool v.mor, .bool v.mas, .int .i64 v.seq, .slice v.heads.a v.heads.n v.heads.c, .slice v.wants.a v.wants.n v.wants.c, .slice v.lsas.a v.lsas.n v.lsas.c, .slice v.acks.a v.acks.n v.acks.c], .agg #[.int .i64 v2.kind, .int .i64 v2.sender, .int .i64 v2.every, .int .i64 v2.dead, .int .i64 v2.prio, .int .i64 v2.dr, .int .i64 v2.bdr, .slice v2.seen.a v2.seen.n v2.seen.c, .bool v2.ini, .bool v2.mor, .bool v2.mas, .int .i64 v2.seq, .slice v2.heads.a v2.heads.n v2.heads.c, .slice v2.wants.a v2.wants.n v2.wants.c, .slice v2.lsas.a v2.lsas.n v2.lsas.c, .slice v2.acks.a v2.acks.n v2.acks.c]] w fun x w' => x = .returned (.bool (onlyB v l)) ∧ Below w.heap.size w w' := by
  obtain ⟨hk, hf, hr⟩ := hr
  obtain ⟨r1, r2, r3, r4, r5⟩ := hr w B l h
  exact psame_any v v2 l _ _ _ _ _ B B w h hs hB hB hk hf r1 r2 r3 r4 r5

set_option maxRecDepth 8000 in
set_option maxHeartbeats 8000000 in
theorem pright_any (v : Pv) (l : Pl) (B : Nat) (w : World) (h : PkIn w B v l) (hs : PkSm v) (hB : B ≤ w.heap.size) :
    Calls Tryz.prog 8 #[.agg #[.int .i64 v.kind, .int .i64 v.sender, .int .i64 v.every, .int .i64 v.dead, .int .i64 v.prio, .int .i64 v.dr, .int .i64 v.bdr, .slice v.seen.a v.seen.n v.seen.c, .bool v.ini, .bool v.mor, .bool v.mas, .int .i64 v.seq, .slice v.heads.a v.heads.n v.heads.c, .slice v.wants.a v.wants.n v.wants.c, .slice v.lsas.a v.lsas.n v.lsas.c, .slice v.acks.a v.acks.n v.acks.c]] w fun x w' => x = .returned (.bool (rightP v l)) ∧ Below w.heap.size w w' := by
  have K0 := Lib.hid (Blk.new w 31 #[.int .i64 v.kind, .int .i64 v.sender, .int .i64 v.every, .int .i64 v.dead, .int .i64 v.prio, .int .i64 v.dr, .int .i64 v.bdr, .slice v.seen.a v.seen.n v.seen.c, .bool v.ini, .bool v.mor, .bool v.mas, .int .i64 v.seq, .slice v.heads.a v.heads.n v.heads.c, .slice v.wants.a v.wants.n v.wants.c, .slice v.lsas.a v.lsas.n v.lsas.c, .slice v.acks.a v.acks.n v.acks.c])
  have B0 := Lib.hid ((Below.refl w.heap.size w).alloc (Nat.le_refl _) (.cells #[.int .i64 v.kind, .int .i64 v.sender, .int .i64 v.every, .int .i64 v.dead, .int .i64 v.prio, .int .i64 v.dr, .int .i64 v.bdr, .slice v.seen.a v.seen.n v.seen.c, .bool v.ini, .bool v.mor, .bool v.mas, .int .i64 v.seq, .slice v.heads.a v.heads.n v.heads.c, .slice v.wants.a v.wants.n v.wants.c, .slice v.lsas.a v.lsas.n v.lsas.c, .slice v.acks.a v.acks.n v.acks.c] 31))
  have HS := Lib.hid hs
  have HP := Lib.hid (h.below (B0.out.mono hB))
  clear h hs
  have hs0 : B ≤ (w.alloc (.cells #[.int .i64 v.kind, .int .i64 v.sender, .int .i64 v.every, .int .i64 v.dead, .int .i64 v.prio, .int .i64 v.dr, .int .i64 v.bdr, .slice v.seen.a v.seen.n v.seen.c, .bool v.ini, .bool v.mor, .bool v.mas, .int .i64 v.seq, .slice v.heads.a v.heads.n v.heads.c, .slice v.wants.a v.wants.n v.wants.c, .slice v.lsas.a v.lsas.n v.lsas.c, .slice v.acks.a v.acks.n v.acks.c] 31)).heap.size := by simp; omega
  have hz0 : w.heap.size ≤ (w.alloc (.cells #[.int .i64 v.kind, .int .i64 v.sender, .int .i64 v.every, .int .i64 v.dead, .int .i64 v.prio, .int .i64 v.dr, .int .i64 v.bdr, .slice v.seen.a v.seen.n v.seen.c, .bool v.ini, .bool v.mor, .bool v.mas, .int .i64 v.seq, .slice v.heads.a v.heads.n v.heads.c, .slice v.wants.a v.wants.n v.wants.c, .slice v.lsas.a v.lsas.n v.lsas.c, .slice v.acks.a v.acks.n v.acks.c] 31)).heap.size := by simp
  go_enter Tryz.func8, Tryz.ntmps8
  go_upto_region 1 with fail
  have hlt0 := K0.out.lt
  generalize w.alloc (.cells #[.int .i64 v.kind, .int .i64 v.sender, .int .i64 v.every, .int .i64 v.dead, .int .i64 v.prio, .int .i64 v.dr, .int .i64 v.bdr, .slice v.seen.a v.seen.n v.seen.c, .bool v.ini, .bool v.mor, .bool v.mas, .int .i64 v.seq, .slice v.heads.a v.heads.n v.heads.c, .slice v.wants.a v.wants.n v.wants.c, .slice v.lsas.a v.lsas.n v.lsas.c, .slice v.acks.a v.acks.n v.acks.c] 31) = w0 at *
  obtain ⟨a0, a1, a2, a3, a4, a5, a6, a7, a8, a9, a10, a11, a12, a13, a14, a15⟩ := K0.out.sixteen
  have BR : Below w0.heap.size w0 w0.drew := ⟨rfl, rfl, rfl, Nat.le_refl _, fun _ _ => rfl⟩
  cases hi : inB v.sender 1 15
  · have HI := Lib.hid hi
    have HE := Lib.hid (show rightP v l = false by unfold rightP; rw [hi]; rfl)
    clear hi
    go_region_with (go_at_call 25; refine (pwithin_any _ _ _ _).mono ?_; rintro ea wa ⟨rfl, rfl⟩; rw [HI.out])
    all_goals
      go_wp2
      go_ret
      exact ⟨ret_bool HE.out.symm, B0.out.trans (BR.mono hz0)⟩
  · have HI := Lib.hid hi
    have HE1 := Lib.hid (show rightP v l = (onlyB v l && partB v l) by unfold rightP; rw [hi]; rfl)
    clear hi
    go_cut [13] (fun s13 wx => s13 = .bool (!onlyB v l) ∧ Hid (Below w0.heap.size w0 wx))
    case first =>
      go_region_held3 (fun w' => Below w0.heap.size w0 w' ∧ (∀ b o, b < w0.heap.size → w'.cell? ⟨b, o, none⟩ = w0.cell? ⟨b, o, none⟩)) ((refine keepW ?_; first | with_reducible exact BR | with_reducible exact hB3 | with_reducible exact hB2))
        (first
          | (go_at_call 25; refine (pwithin_any _ _ _ _).mono ?_; rintro ea wa ⟨rfl, rfl⟩; rw [HI.out])
          | (go_at_call 26; refine (only_any v _).mono ?_; rintro eb wb ⟨v2, rfl, hrel, hbb⟩; have hB2 := Below.trans (And.left ‹_›) (hbb.mono (Below.size (And.left ‹_›))))
          | (go_at_call 13; refine (same_only v v2 l B _ (HP.out.below (Below.mono (And.left ‹_›) hs0)) HS.out (Nat.le_trans hs0 (Below.size (And.left ‹_›))) hrel).mono ?_; rintro ec wc ⟨rfl, hbc⟩; have hB3 := Below.trans (And.left ‹_›) (hbc.mono (Below.size (And.left ‹_›)))))
      all_goals
        go_wp2_with fail
        go_meet
        exact ⟨rfl, Lib.hid hB3⟩
    case rest =>
      obtain ⟨rfl, hb⟩ := hcut
      have hsz := hb.out.size
      have HPc := Lib.hid (HP.out.below (hb.out.mono hs0))
      have BW := Lib.hid (B0.out.trans (hb.out.mono hz0))
      clear a0 a1 a2 a3 a4 a5 a6 a7 a8 a9 a10 a11 a12 a13 a14 a15
      obtain ⟨a0, a1, a2, a3, a4, a5, a6, a7, a8, a9, a10, a11, a12, a13, a14, a15⟩ := (K0.out.below hb.out hlt0).sixteen
      cases ho : onlyB v l
      · have HE := Lib.hid (show rightP v l = false by rw [HE1.out, ho]; rfl)
        go_wp2
        go_ret
        exact ⟨ret_bool HE.out.symm, BW.out⟩
      have HE2 := Lib.hid (show rightP v l = partB v l by rw [HE1.out, ho]; rfl)
      clear ho HE1
      by_cases hk1 : v.kind = 1
      · have HE := Lib.hid (show rightP v l = helloB v.every v.dead v.prio v.dr v.bdr l.seen by rw [HE2.out]; unfold partB; rw [if_pos hk1])
        have hd1 : (v.kind == 1) = true := by simp [hk1]
        clear hk1
        go_wp2_with fail
        refine (rightHello_any v.every v.dead v.prio v.dr v.bdr v.seen.a v.seen.n v.seen.c B l.seen _ HPc.out.1 (by omega) HS.out.1).mono ?_
        rintro e2 w2 ⟨rfl, hb2⟩
        have BW2 := Lib.hid (BW.out.trans (hb2.mono BW.out.size))
        clear hb2
        generalize (helloB v.every v.dead v.prio v.dr v.bdr l.seen) = y at *
        go_wp2
        go_ret
        exact ⟨ret_bool HE.out.symm, BW2.out⟩
      by_cases hk2 : v.kind = 2
      · have HE := Lib.hid (show rightP v l = ddB v.ini v.mor v.mas v.seq l.heads by rw [HE2.out]; unfold partB; rw [if_neg hk1]; rw [if_pos hk2])
        have hd1 : (v.kind == 1) = false := by simp [hk1]
        have hd2 : (v.kind == 2) = true := by simp [hk2]
        clear hk1 hk2
        go_wp2_with fail
        refine (rightDd_any v.ini v.mor v.mas v.seq v.heads.a v.heads.n v.heads.c B l.heads _ HPc.out.2.1 (by omega) HS.out.2.1 HS.out.2.2.2.2.2.1 HS.out.2.2.2.2.2.2).mono ?_
        rintro e2 w2 ⟨rfl, hb2⟩
        have BW2 := Lib.hid (BW.out.trans (hb2.mono BW.out.size))
        clear hb2
        generalize (ddB v.ini v.mor v.mas v.seq l.heads) = y at *
        go_wp2
        go_ret
        exact ⟨ret_bool HE.out.symm, BW2.out⟩
      by_cases hk3 : v.kind = 3
      · have HE := Lib.hid (show rightP v l = pieceB 1 keyB l.wants by rw [HE2.out]; unfold partB; rw [if_neg hk1]; rw [if_neg hk2]; rw [if_pos hk3])
        have hd1 : (v.kind == 1) = false := by simp [hk1]
        have hd2 : (v.kind == 2) = false := by simp [hk2]
        have hd3 : (v.kind == 3) = true := by simp [hk3]
        clear hk1 hk2 hk3
        go_wp2_with fail
        refine (pieceK_any 1 v.wants.a v.wants.n v.wants.c B l.wants _ HPc.out.2.2.1 (by omega) HS.out.2.2.1).mono ?_
        rintro e2 w2 ⟨rfl, hb2⟩
        have BW2 := Lib.hid (BW.out.trans (hb2.mono BW.out.size))
        clear hb2
        generalize (pieceB 1 keyB l.wants) = y at *
        go_wp2
        go_ret
        exact ⟨ret_bool HE.out.symm, BW2.out⟩
      by_cases hk4 : v.kind = 4
      · have HE := Lib.hid (show rightP v l = pieceB 1 laB l.lsas by rw [HE2.out]; unfold partB; rw [if_neg hk1]; rw [if_neg hk2]; rw [if_neg hk3]; rw [if_pos hk4])
        have hd1 : (v.kind == 1) = false := by simp [hk1]
        have hd2 : (v.kind == 2) = false := by simp [hk2]
        have hd3 : (v.kind == 3) = false := by simp [hk3]
        have hd4 : (v.kind == 4) = true := by simp [hk4]
        clear hk1 hk2 hk3 hk4
        go_wp2_with fail
        refine (pieceL_any 1 v.lsas.a v.lsas.n v.lsas.c B l.lsas _ HPc.out.2.2.2.1 (by omega) HS.out.2.2.2.1).mono ?_
        rintro e2 w2 ⟨rfl, hb2⟩
        have BW2 := Lib.hid (BW.out.trans (hb2.mono BW.out.size))
        clear hb2
        generalize (pieceB 1 laB l.lsas) = y at *
        go_wp2
        go_ret
        exact ⟨ret_bool HE.out.symm, BW2.out⟩
      by_cases hk5 : v.kind = 5
      · have HE := Lib.hid (show rightP v l = pieceB 1 hdB l.acks by rw [HE2.out]; unfold partB; rw [if_neg hk1]; rw [if_neg hk2]; rw [if_neg hk3]; rw [if_neg hk4]; rw [if_pos hk5])
        have hd1 : (v.kind == 1) = false := by simp [hk1]
        have hd2 : (v.kind == 2) = false := by simp [hk2]
        have hd3 : (v.kind == 3) = false := by simp [hk3]
        have hd4 : (v.kind == 4) = false := by simp [hk4]
        have hd5 : (v.kind == 5) = true := by simp [hk5]
        clear hk1 hk2 hk3 hk4 hk5
        go_wp2_with fail
        refine (pieceH_any 1 v.acks.a v.acks.n v.acks.c B l.acks _ HPc.out.2.2.2.2 (by omega) HS.out.2.2.2.2.1).mono ?_
        rintro e2 w2 ⟨rfl, hb2⟩
        have BW2 := Lib.hid (BW.out.trans (hb2.mono BW.out.size))
        clear hb2
        generalize (pieceB 1 hdB l.acks) = y at *
        go_wp2
        go_ret
        exact ⟨ret_bool HE.out.symm, BW2.out⟩
      have HE := Lib.hid (show rightP v l = false by rw [HE2.out]; unfold partB; rw [if_neg hk1, if_neg hk2, if_neg hk3, if_neg hk4, if_neg hk5])
      have hd1 : (v.kind == 1) = false := by simp [hk1]
      have hd2 : (v.kind == 2) = false := by simp [hk2]
      have hd3 : (v.kind == 3) = false := by simp [hk3]
      have hd4 : (v.kind == 4) = false := by simp [hk4]
      have hd5 : (v.kind == 5) = false := by simp [hk5]
      clear hk1 hk2 hk3 hk4 hk5
      go_wp2
      go_ret
      exact ⟨ret_bool HE.out.symm, BW.out⟩
end Go.Proofs.YtekhgkkgmkodmaaGreat
namespace Go.Proofs.YtekhgkkgmkodmaaGreat
open Go.RowKit

set_option maxRecDepth 4000 in
set_option maxHeartbeats 8000000 in
theorem ddBytes_any (i m s : Bool) (q : Int) (A : Option Addr) (n c B : Nat) (L : List Hd) (w : World) (hL : Hds w B A n L) (hB : B ≤ w.heap.size) (hn : n ≤ 1000) :
    Calls Tryz.prog 48 #[.agg #[.bool i, .bool m, .bool s, .int .i64 q, .slice A n c]] w (PutN w (ddBs i m s q L) (8 + n * 20)) := by
  generalize hQ : PutN w (ddBs i m s q L) (8 + n * 20) = Q
  have HQ := Lib.hid hQ
  have HL := Lib.hid hL
  clear hQ hL
  have K0 := Lib.hid (Blk.new w 27 #[.bool i, .bool m, .bool s, .int .i64 q, .slice A n c])
  have B0 := Lib.hid ((Below.refl w.heap.size w).alloc (Nat.le_refl _) (.cells #[.bool i, .bool m, .bool s, .int .i64 q, .slice A n c] 27))
  cases i <;> cases m <;> cases s
  · go_enter Tryz.func48, Tryz.ntmps48
    go_wp2_with fail
    refine (put_new none 0 0 2 2 1 2 [] [0] (enc 0 2) _ _ (by simp) rfl rfl (by simp [encs]) Row.nil (by omega) (by omega) rfl).mono ?_
    rintro e1 w1 ⟨A1, c1, rfl, hc1, hm1, hr1, hb1⟩
    have R1 := Lib.hid hr1
    have K1 := Lib.hid (K0.out.below hb1 (by simp))
    have B1 := Lib.hid (B0.out.trans (hb1.mono (by simp)))
    clear hr1 hb1 K0 B0
    have hlt1 := K1.out.lt
    go_wp2_with fail
    refine (put_new A1 2 c1 1 4 2 1 (enc 0 2) [0, 0] (enc 0 2 ++ (enc 0 1 ++ enc 0 1)) _ _ rfl rfl rfl (by simp [encs]) R1.out (by omega) (by omega) rfl).mono ?_
    rintro e2 w2 ⟨A2, c2, rfl, hc2, hm2, hr2, hb2⟩
    have R2 := Lib.hid hr2
    have K2 := Lib.hid (K1.out.below hb2 hlt1)
    have B2 := Lib.hid (B1.out.trans (hb2.mono B1.out.size))
    clear hr2 hb2 K1 B1 R1 hlt1
    obtain ⟨k0, k1, k2, k3, k4⟩ := K2.out.five
    have hlt2 := K2.out.lt
    go_wp2_with fail
    refine (put_newA A2 4 c2 4 8 1 4 _ [q] (enc 0 2 ++ (enc 0 1 ++ (enc 0 1 ++ enc q 4))) _ _ rfl rfl rfl (by simp [encs]) R2.out (by omega) (by omega) rfl).mono ?_
    rintro e3 w3 ⟨v3, rfl, ha3⟩
    have K3 := Lib.hid (K2.out.below ha3.2 hlt2)
    have C3 := Lib.hid (ha3.lower B2.out)
    clear ha3 K2 B2 R2 k0 k1 k2 k3 k4 hlt2
    obtain ⟨k0, k1, k2, k3, k4⟩ := K3.out.five
    have hsz3 := C3.out.2.size
    go_wp2_with fail
    refine (headBytesP_any A n c B L _ (HL.out.below (C3.out.2.mono hB)) (by omega) hn).mono ?_
    rintro e4 w4 ⟨v4, rfl, ha4⟩
    obtain ⟨A4, c4, rfl, hc4, hm4, hr4⟩ := ha4.form
    have R4 := Lib.hid hr4
    have C4 := Lib.hid (C3.out.below ha4.2)
    clear hr4 ha4 k0 k1 k2 k3 k4 C3 K3
    go_wp2_with (at_builtin; refine wpList_append_acc rfl (.tmp 28) (.tmp 31) rfl w v3 8 _ (by rfl) (by exact C4.out) _ A4 (n * 20) c4 (headsBs L) (by rfl) (by exact R4.out) (8 + n * 20) (by rfl) (by omega) ?_; intro v5 w5 ha5)
    rw [← HQ.out]
    have ev : enc 0 2 ++ (enc 0 1 ++ (enc 0 1 ++ enc q 4)) ++ headsBs L = ddBs false false false q L := by simp [ddBs, flagN]
    have h5 := ha5.out
    rw [ev] at h5
    exact h5.putN
  · go_enter Tryz.func48, Tryz.ntmps48
    go_wp2_with fail
    refine (put_new none 0 0 2 2 1 2 [] [0] (enc 0 2) _ _ (by simp) rfl rfl (by simp [encs]) Row.nil (by omega) (by omega) rfl).mono ?_
    rintro e1 w1 ⟨A1, c1, rfl, hc1, hm1, hr1, hb1⟩
    have R1 := Lib.hid hr1
    have K1 := Lib.hid (K0.out.below hb1 (by simp))
    have B1 := Lib.hid (B0.out.trans (hb1.mono (by simp)))
    clear hr1 hb1 K0 B0
    have hlt1 := K1.out.lt
    go_wp2_with fail
    refine (put_new A1 2 c1 1 4 2 1 (enc 0 2) [0, 1] (enc 0 2 ++ (enc 0 1 ++ enc 1 1)) _ _ rfl rfl rfl (by simp [encs]) R1.out (by omega) (by omega) rfl).mono ?_
    rintro e2 w2 ⟨A2, c2, rfl, hc2, hm2, hr2, hb2⟩
    have R2 := Lib.hid hr2
    have K2 := Lib.hid (K1.out.below hb2 hlt1)
    have B2 := Lib.hid (B1.out.trans (hb2.mono B1.out.size))
    clear hr2 hb2 K1 B1 R1 hlt1
    obtain ⟨k0, k1, k2, k3, k4⟩ := K2.out.five
    have hlt2 := K2.out.lt
    go_wp2_with fail
    refine (put_newA A2 4 c2 4 8 1 4 _ [q] (enc 0 2 ++ (enc 0 1 ++ (enc 1 1 ++ enc q 4))) _ _ rfl rfl rfl (by simp [encs]) R2.out (by omega) (by omega) rfl).mono ?_
    rintro e3 w3 ⟨v3, rfl, ha3⟩
    have K3 := Lib.hid (K2.out.below ha3.2 hlt2)
    have C3 := Lib.hid (ha3.lower B2.out)
    clear ha3 K2 B2 R2 k0 k1 k2 k3 k4 hlt2
    obtain ⟨k0, k1, k2, k3, k4⟩ := K3.out.five
    have hsz3 := C3.out.2.size
    go_wp2_with fail
    refine (headBytesP_any A n c B L _ (HL.out.below (C3.out.2.mono hB)) (by omega) hn).mono ?_
    rintro e4 w4 ⟨v4, rfl, ha4⟩
    obtain ⟨A4, c4, rfl, hc4, hm4, hr4⟩ := ha4.form
    have R4 := Lib.hid hr4
    have C4 := Lib.hid (C3.out.below ha4.2)
    clear hr4 ha4 k0 k1 k2 k3 k4 C3 K3
    go_wp2_with (at_builtin; refine wpList_append_acc rfl (.tmp 28) (.tmp 31) rfl w v3 8 _ (by rfl) (by exact C4.out) _ A4 (n * 20) c4 (headsBs L) (by rfl) (by exact R4.out) (8 + n * 20) (by rfl) (by omega) ?_; intro v5 w5 ha5)
    rw [← HQ.out]
    have ev : enc 0 2 ++ (enc 0 1 ++ (enc 1 1 ++ enc q 4)) ++ headsBs L = ddBs false false true q L := by simp [ddBs, flagN]
    have h5 := ha5.out
    rw [ev] at h5
    exact h5.putN
  · go_enter Tryz.func48, Tryz.ntmps48
    go_wp2_with fail
    refine (put_new none 0 0 2 2 1 2 [] [0] (enc 0 2) _ _ (by simp) rfl rfl (by simp [encs]) Row.nil (by omega) (by omega) rfl).mono ?_
    rintro e1 w1 ⟨A1, c1, rfl, hc1, hm1, hr1, hb1⟩
    have R1 := Lib.hid hr1
    have K1 := Lib.hid (K0.out.below hb1 (by simp))
    have B1 := Lib.hid (B0.out.trans (hb1.mono (by simp)))
    clear hr1 hb1 K0 B0
    have hlt1 := K1.out.lt
    go_wp2_with fail
    refine (put_new A1 2 c1 1 4 2 1 (enc 0 2) [0, 2] (enc 0 2 ++ (enc 0 1 ++ enc 2 1)) _ _ rfl rfl rfl (by simp [encs]) R1.out (by omega) (by omega) rfl).mono ?_
    rintro e2 w2 ⟨A2, c2, rfl, hc2, hm2, hr2, hb2⟩
    have R2 := Lib.hid hr2
    have K2 := Lib.hid (K1.out.below hb2 hlt1)
    have B2 := Lib.hid (B1.out.trans (hb2.mono B1.out.size))
    clear hr2 hb2 K1 B1 R1 hlt1
    obtain ⟨k0, k1, k2, k3, k4⟩ := K2.out.five
    have hlt2 := K2.out.lt
    go_wp2_with fail
    refine (put_newA A2 4 c2 4 8 1 4 _ [q] (enc 0 2 ++ (enc 0 1 ++ (enc 2 1 ++ enc q 4))) _ _ rfl rfl rfl (by simp [encs]) R2.out (by omega) (by omega) rfl).mono ?_
    rintro e3 w3 ⟨v3, rfl, ha3⟩
    have K3 := Lib.hid (K2.out.below ha3.2 hlt2)
    have C3 := Lib.hid (ha3.lower B2.out)
    clear ha3 K2 B2 R2 k0 k1 k2 k3 k4 hlt2
    obtain ⟨k0, k1, k2, k3, k4⟩ := K3.out.five
    have hsz3 := C3.out.2.size
    go_wp2_with fail
    refine (headBytesP_any A n c B L _ (HL.out.below (C3.out.2.mono hB)) (by omega) hn).mono ?_
    rintro e4 w4 ⟨v4, rfl, ha4⟩
    obtain ⟨A4, c4, rfl, hc4, hm4, hr4⟩ := ha4.form
    have R4 := Lib.hid hr4
    have C4 := Lib.hid (C3.out.below ha4.2)
    clear hr4 ha4 k0 k1 k2 k3 k4 C3 K3
    go_wp2_with (at_builtin; refine wpList_append_acc rfl (.tmp 28) (.tmp 31) rfl w v3 8 _ (by rfl) (by exact C4.out) _ A4 (n * 20) c4 (headsBs L) (by rfl) (by exact R4.out) (8 + n * 20) (by rfl) (by omega) ?_; intro v5 w5 ha5)
    rw [← HQ.out]
    have ev : enc 0 2 ++ (enc 0 1 ++ (enc 2 1 ++ enc q 4)) ++ headsBs L = ddBs false true false q L := by simp [ddBs, flagN]
    have h5 := ha5.out
    rw [ev] at h5
    exact h5.putN
  · go_enter Tryz.func48, Tryz.ntmps48
    go_wp2_with fail
    refine (put_new none 0 0 2 2 1 2 [] [0] (enc 0 2) _ _ (by simp) rfl rfl (by simp [encs]) Row.nil (by omega) (by omega) rfl).mono ?_
    rintro e1 w1 ⟨A1, c1, rfl, hc1, hm1, hr1, hb1⟩
    have R1 := Lib.hid hr1
    have K1 := Lib.hid (K0.out.below hb1 (by simp))
    have B1 := Lib.hid (B0.out.trans (hb1.mono (by simp)))
    clear hr1 hb1 K0 B0
    have hlt1 := K1.out.lt
    go_wp2_with fail
    refine (put_new A1 2 c1 1 4 2 1 (enc 0 2) [0, 3] (enc 0 2 ++ (enc 0 1 ++ enc 3 1)) _ _ rfl rfl rfl (by simp [encs]) R1.out (by omega) (by omega) rfl).mono ?_
    rintro e2 w2 ⟨A2, c2, rfl, hc2, hm2, hr2, hb2⟩
    have R2 := Lib.hid hr2
    have K2 := Lib.hid (K1.out.below hb2 hlt1)
    have B2 := Lib.hid (B1.out.trans (hb2.mono B1.out.size))
    clear hr2 hb2 K1 B1 R1 hlt1
    obtain ⟨k0, k1, k2, k3, k4⟩ := K2.out.five
    have hlt2 := K2.out.lt
    go_wp2_with fail
    refine (put_newA A2 4 c2 4 8 1 4 _ [q] (enc 0 2 ++ (enc 0 1 ++ (enc 3 1 ++ enc q 4))) _ _ rfl rfl rfl (by simp [encs]) R2.out (by omega) (by omega) rfl).mono ?_
    rintro e3 w3 ⟨v3, rfl, ha3⟩
    have K3 := Lib.hid (K2.out.below ha3.2 hlt2)
    have C3 := Lib.hid (ha3.lower B2.out)
    clear ha3 K2 B2 R2 k0 k1 k2 k3 k4 hlt2
    obtain ⟨k0, k1, k2, k3, k4⟩ := K3.out.five
    have hsz3 := C3.out.2.size
    go_wp2_with fail
    refine (headBytesP_any A n c B L _ (HL.out.below (C3.out.2.mono hB)) (by omega) hn).mono ?_
    rintro e4 w4 ⟨v4, rfl, ha4⟩
    obtain ⟨A4, c4, rfl, hc4, hm4, hr4⟩ := ha4.form
    have R4 := Lib.hid hr4
    have C4 := Lib.hid (C3.out.below ha4.2)
    clear hr4 ha4 k0 k1 k2 k3 k4 C3 K3
    go_wp2_with (at_builtin; refine wpList_append_acc rfl (.tmp 28) (.tmp 31) rfl w v3 8 _ (by rfl) (by exact C4.out) _ A4 (n * 20) c4 (headsBs L) (by rfl) (by exact R4.out) (8 + n * 20) (by rfl) (by omega) ?_; intro v5 w5 ha5)
    rw [← HQ.out]
    have ev : enc 0 2 ++ (enc 0 1 ++ (enc 3 1 ++ enc q 4)) ++ headsBs L = ddBs false true true q L := by simp [ddBs, flagN]
    have h5 := ha5.out
    rw [ev] at h5
    exact h5.putN
  · go_enter Tryz.func48, Tryz.ntmps48
    go_wp2_with fail
    refine (put_new none 0 0 2 2 1 2 [] [0] (enc 0 2) _ _ (by simp) rfl rfl (by simp [encs]) Row.nil (by omega) (by omega) rfl).mono ?_
    rintro e1 w1 ⟨A1, c1, rfl, hc1, hm1, hr1, hb1⟩
    have R1 := Lib.hid hr1
    have K1 := Lib.hid (K0.out.below hb1 (by simp))
    have B1 := Lib.hid (B0.out.trans (hb1.mono (by simp)))
    clear hr1 hb1 K0 B0
    have hlt1 := K1.out.lt
    go_wp2_with fail
    refine (put_new A1 2 c1 1 4 2 1 (enc 0 2) [0, 4] (enc 0 2 ++ (enc 0 1 ++ enc 4 1)) _ _ rfl rfl rfl (by simp [encs]) R1.out (by omega) (by omega) rfl).mono ?_
    rintro e2 w2 ⟨A2, c2, rfl, hc2, hm2, hr2, hb2⟩
    have R2 := Lib.hid hr2
    have K2 := Lib.hid (K1.out.below hb2 hlt1)
    have B2 := Lib.hid (B1.out.trans (hb2.mono B1.out.size))
    clear hr2 hb2 K1 B1 R1 hlt1
    obtain ⟨k0, k1, k2, k3, k4⟩ := K2.out.five
    have hlt2 := K2.out.lt
    go_wp2_with fail
    refine (put_newA A2 4 c2 4 8 1 4 _ [q] (enc 0 2 ++ (enc 0 1 ++ (enc 4 1 ++ enc q 4))) _ _ rfl rfl rfl (by simp [encs]) R2.out (by omega) (by omega) rfl).mono ?_
    rintro e3 w3 ⟨v3, rfl, ha3⟩
    have K3 := Lib.hid (K2.out.below ha3.2 hlt2)
    have C3 := Lib.hid (ha3.lower B2.out)
    clear ha3 K2 B2 R2 k0 k1 k2 k3 k4 hlt2
    obtain ⟨k0, k1, k2, k3, k4⟩ := K3.out.five
    have hsz3 := C3.out.2.size
    go_wp2_with fail
    refine (headBytesP_any A n c B L _ (HL.out.below (C3.out.2.mono hB)) (by omega) hn).mono ?_
    rintro e4 w4 ⟨v4, rfl, ha4⟩
    obtain ⟨A4, c4, rfl, hc4, hm4, hr4⟩ := ha4.form
    have R4 := Lib.hid hr4
    have C4 := Lib.hid (C3.out.below ha4.2)
    clear hr4 ha4 k0 k1 k2 k3 k4 C3 K3
    go_wp2_with (at_builtin; refine wpList_append_acc rfl (.tmp 28) (.tmp 31) rfl w v3 8 _ (by rfl) (by exact C4.out) _ A4 (n * 20) c4 (headsBs L) (by rfl) (by exact R4.out) (8 + n * 20) (by rfl) (by omega) ?_; intro v5 w5 ha5)
    rw [← HQ.out]
    have ev : enc 0 2 ++ (enc 0 1 ++ (enc 4 1 ++ enc q 4)) ++ headsBs L = ddBs true false false q L := by simp [ddBs, flagN]
    have h5 := ha5.out
    rw [ev] at h5
    exact h5.putN
  · go_enter Tryz.func48, Tryz.ntmps48
    go_wp2_with fail
    refine (put_new none 0 0 2 2 1 2 [] [0] (enc 0 2) _ _ (by simp) rfl rfl (by simp [encs]) Row.nil (by omega) (by omega) rfl).mono ?_
    rintro e1 w1 ⟨A1, c1, rfl, hc1, hm1, hr1, hb1⟩
    have R1 := Lib.hid hr1
    have K1 := Lib.hid (K0.out.below hb1 (by simp))
    have B1 := Lib.hid (B0.out.trans (hb1.mono (by simp)))
    clear hr1 hb1 K0 B0
    have hlt1 := K1.out.lt
    go_wp2_with fail
    refine (put_new A1 2 c1 1 4 2 1 (enc 0 2) [0, 5] (enc 0 2 ++ (enc 0 1 ++ enc 5 1)) _ _ rfl rfl rfl (by simp [encs]) R1.out (by omega) (by omega) rfl).mono ?_
    rintro e2 w2 ⟨A2, c2, rfl, hc2, hm2, hr2, hb2⟩
    have R2 := Lib.hid hr2
    have K2 := Lib.hid (K1.out.below hb2 hlt1)
    have B2 := Lib.hid (B1.out.trans (hb2.mono B1.out.size))
    clear hr2 hb2 K1 B1 R1 hlt1
    obtain ⟨k0, k1, k2, k3, k4⟩ := K2.out.five
    have hlt2 := K2.out.lt
    go_wp2_with fail
    refine (put_newA A2 4 c2 4 8 1 4 _ [q] (enc 0 2 ++ (enc 0 1 ++ (enc 5 1 ++ enc q 4))) _ _ rfl rfl rfl (by simp [encs]) R2.out (by omega) (by omega) rfl).mono ?_
    rintro e3 w3 ⟨v3, rfl, ha3⟩
    have K3 := Lib.hid (K2.out.below ha3.2 hlt2)
    have C3 := Lib.hid (ha3.lower B2.out)
    clear ha3 K2 B2 R2 k0 k1 k2 k3 k4 hlt2
    obtain ⟨k0, k1, k2, k3, k4⟩ := K3.out.five
    have hsz3 := C3.out.2.size
    go_wp2_with fail
    refine (headBytesP_any A n c B L _ (HL.out.below (C3.out.2.mono hB)) (by omega) hn).mono ?_
    rintro e4 w4 ⟨v4, rfl, ha4⟩
    obtain ⟨A4, c4, rfl, hc4, hm4, hr4⟩ := ha4.form
    have R4 := Lib.hid hr4
    have C4 := Lib.hid (C3.out.below ha4.2)
    clear hr4 ha4 k0 k1 k2 k3 k4 C3 K3
    go_wp2_with (at_builtin; refine wpList_append_acc rfl (.tmp 28) (.tmp 31) rfl w v3 8 _ (by rfl) (by exact C4.out) _ A4 (n * 20) c4 (headsBs L) (by rfl) (by exact R4.out) (8 + n * 20) (by rfl) (by omega) ?_; intro v5 w5 ha5)
    rw [← HQ.out]
    have ev : enc 0 2 ++ (enc 0 1 ++ (enc 5 1 ++ enc q 4)) ++ headsBs L = ddBs true false true q L := by simp [ddBs, flagN]
    have h5 := ha5.out
    rw [ev] at h5
    exact h5.putN
  · go_enter Tryz.func48, Tryz.ntmps48
    go_wp2_with fail
    refine (put_new none 0 0 2 2 1 2 [] [0] (enc 0 2) _ _ (by simp) rfl rfl (by simp [encs]) Row.nil (by omega) (by omega) rfl).mono ?_
    rintro e1 w1 ⟨A1, c1, rfl, hc1, hm1, hr1, hb1⟩
    have R1 := Lib.hid hr1
    have K1 := Lib.hid (K0.out.below hb1 (by simp))
    have B1 := Lib.hid (B0.out.trans (hb1.mono (by simp)))
    clear hr1 hb1 K0 B0
    have hlt1 := K1.out.lt
    go_wp2_with fail
    refine (put_new A1 2 c1 1 4 2 1 (enc 0 2) [0, 6] (enc 0 2 ++ (enc 0 1 ++ enc 6 1)) _ _ rfl rfl rfl (by simp [encs]) R1.out (by omega) (by omega) rfl).mono ?_
    rintro e2 w2 ⟨A2, c2, rfl, hc2, hm2, hr2, hb2⟩
    have R2 := Lib.hid hr2
    have K2 := Lib.hid (K1.out.below hb2 hlt1)
    have B2 := Lib.hid (B1.out.trans (hb2.mono B1.out.size))
    clear hr2 hb2 K1 B1 R1 hlt1
    obtain ⟨k0, k1, k2, k3, k4⟩ := K2.out.five
    have hlt2 := K2.out.lt
    go_wp2_with fail
    refine (put_newA A2 4 c2 4 8 1 4 _ [q] (enc 0 2 ++ (enc 0 1 ++ (enc 6 1 ++ enc q 4))) _ _ rfl rfl rfl (by simp [encs]) R2.out (by omega) (by omega) rfl).mono ?_
    rintro e3 w3 ⟨v3, rfl, ha3⟩
    have K3 := Lib.hid (K2.out.below ha3.2 hlt2)
    have C3 := Lib.hid (ha3.lower B2.out)
    clear ha3 K2 B2 R2 k0 k1 k2 k3 k4 hlt2
    obtain ⟨k0, k1, k2, k3, k4⟩ := K3.out.five
    have hsz3 := C3.out.2.size
    go_wp2_with fail
    refine (headBytesP_any A n c B L _ (HL.out.below (C3.out.2.mono hB)) (by omega) hn).mono ?_
    rintro e4 w4 ⟨v4, rfl, ha4⟩
    obtain ⟨A4, c4, rfl, hc4, hm4, hr4⟩ := ha4.form
    have R4 := Lib.hid hr4
    have C4 := Lib.hid (C3.out.below ha4.2)
    clear hr4 ha4 k0 k1 k2 k3 k4 C3 K3
    go_wp2_with (at_builtin; refine wpList_append_acc rfl (.tmp 28) (.tmp 31) rfl w v3 8 _ (by rfl) (by exact C4.out) _ A4 (n * 20) c4 (headsBs L) (by rfl) (by exact R4.out) (8 + n * 20) (by rfl) (by omega) ?_; intro v5 w5 ha5)
    rw [← HQ.out]
    have ev : enc 0 2 ++ (enc 0 1 ++ (enc 6 1 ++ enc q 4)) ++ headsBs L = ddBs true true false q L := by simp [ddBs, flagN]
    have h5 := ha5.out
    rw [ev] at h5
    exact h5.putN
  · go_enter Tryz.func48, Tryz.ntmps48
    go_wp2_with fail
    refine (put_new none 0 0 2 2 1 2 [] [0] (enc 0 2) _ _ (by simp) rfl rfl (by simp [encs]) Row.nil (by omega) (by omega) rfl).mono ?_
    rintro e1 w1 ⟨A1, c1, rfl, hc1, hm1, hr1, hb1⟩
    have R1 := Lib.hid hr1
    have K1 := Lib.hid (K0.out.below hb1 (by simp))
    have B1 := Lib.hid (B0.out.trans (hb1.mono (by simp)))
    clear hr1 hb1 K0 B0
    have hlt1 := K1.out.lt
    go_wp2_with fail
    refine (put_new A1 2 c1 1 4 2 1 (enc 0 2) [0, 7] (enc 0 2 ++ (enc 0 1 ++ enc 7 1)) _ _ rfl rfl rfl (by simp [encs]) R1.out (by omega) (by omega) rfl).mono ?_
    rintro e2 w2 ⟨A2, c2, rfl, hc2, hm2, hr2, hb2⟩
    have R2 := Lib.hid hr2
    have K2 := Lib.hid (K1.out.below hb2 hlt1)
    have B2 := Lib.hid (B1.out.trans (hb2.mono B1.out.size))
    clear hr2 hb2 K1 B1 R1 hlt1
    obtain ⟨k0, k1, k2, k3, k4⟩ := K2.out.five
    have hlt2 := K2.out.lt
    go_wp2_with fail
    refine (put_newA A2 4 c2 4 8 1 4 _ [q] (enc 0 2 ++ (enc 0 1 ++ (enc 7 1 ++ enc q 4))) _ _ rfl rfl rfl (by simp [encs]) R2.out (by omega) (by omega) rfl).mono ?_
    rintro e3 w3 ⟨v3, rfl, ha3⟩
    have K3 := Lib.hid (K2.out.below ha3.2 hlt2)
    have C3 := Lib.hid (ha3.lower B2.out)
    clear ha3 K2 B2 R2 k0 k1 k2 k3 k4 hlt2
    obtain ⟨k0, k1, k2, k3, k4⟩ := K3.out.five
    have hsz3 := C3.out.2.size
    go_wp2_with fail
    refine (headBytesP_any A n c B L _ (HL.out.below (C3.out.2.mono hB)) (by omega) hn).mono ?_
    rintro e4 w4 ⟨v4, rfl, ha4⟩
    obtain ⟨A4, c4, rfl, hc4, hm4, hr4⟩ := ha4.form
    have R4 := Lib.hid hr4
    have C4 := Lib.hid (C3.out.below ha4.2)
    clear hr4 ha4 k0 k1 k2 k3 k4 C3 K3
    go_wp2_with (at_builtin; refine wpList_append_acc rfl (.tmp 28) (.tmp 31) rfl w v3 8 _ (by rfl) (by exact C4.out) _ A4 (n * 20) c4 (headsBs L) (by rfl) (by exact R4.out) (8 + n * 20) (by rfl) (by omega) ?_; intro v5 w5 ha5)
    rw [← HQ.out]
    have ev : enc 0 2 ++ (enc 0 1 ++ (enc 7 1 ++ enc q 4)) ++ headsBs L = ddBs true true true q L := by simp [ddBs, flagN]
    have h5 := ha5.out
    rw [ev] at h5
    exact h5.putN

set_option maxRecDepth 4000 in
set_option maxHeartbeats 8000000 in
theorem updateBytes_any (A : Option Addr) (n c B m : Nat) (L : List La) (w : World) (hL : Las w B A n L) (hB : B ≤ w.heap.size) (hn : n ≤ 3) (hr : ∀ x ∈ L, rightB x.h x.L x.M = true) (hm : (updBs L).length = m) :
    Calls Tryz.prog 50 #[.slice A n c] w (PutN w (updBs L) m) := by
  generalize hQ : PutN w (updBs L) m = Q
  have HQ := Lib.hid hQ
  have HL := Lib.hid hL
  have HN := Lib.hid hL.1
  have HR := Lib.hid hr
  have Hm := Lib.hid hm
  clear hQ hL hr hm
  go_enter Tryz.func50, Tryz.ntmps50
  go_wp2_with fail
  refine (put_newA none 0 0 4 4 1 4 [] [(n : Int)] (enc n 4) _ _ rfl rfl rfl (by simp [encs]) Row.nil (by omega) (by omega) rfl).mono ?_
  rintro e1 w1 ⟨v1, rfl, ha1⟩
  have C1 := Lib.hid ha1
  clear ha1
  go_wp2_with fail
  go_loopw [3, 14] (fun b i wr => ∃ (k z : Nat), k ≤ n ∧ i = .int .i64 k ∧ z ≤ 4 + 80 * k ∧ Hid (Acc w wr b z (enc n 4 ++ lsasBs (L.take k)))) (fun _ i _ => n - (intOf i).toNat)
  case atStart => exact ⟨0, 4, Nat.zero_le _, rfl, by omega, Lib.hid (by simpa [lsasBs] using C1.out)⟩
  case round =>
    obtain ⟨k, z, hk, rfl, hz, ha⟩ := hrel
    by_cases hlt : k < n
    · obtain ⟨b, o, x, rfl, hbb, hx, hat⟩ := Arr.at (HL.out.below (ha.out.2.mono hB)) hlt
      obtain ⟨⟨k0, k1, k2, k3, k4, k5, k6⟩, Ax, nx, cx, Ax', nx', cx', k7, k8, hLx, hMx, hnx, hnx'⟩ := hat
      have hrx := HR.out x (List.mem_of_getElem? hx)
      have hls := lists_small hrx
      rw [hLx.1, hMx.1] at hls
      obtain ⟨q, hq⟩ : ∃ q, (lsaBytes x.h x.L x.M).length = q := ⟨_, rfl⟩
      have hq80 : q ≤ 80 := by have := body_small hrx; rw [← hq, lsaBytes_length]; omega
      have HRX := Lib.hid hrx
      have HLX := Lib.hid hLx
      have HMX := Lib.hid hMx
      have Hq := Lib.hid hq
      have HX := Lib.hid (show lsasBs (L.take (k + 1)) = lsasBs (L.take k) ++ lsaBytes x.h x.L x.M by rw [take_snocA _ _ _ hx, lsasBs_append]; simp [lsasBs])
      have hsz := ha.out.2.size
      clear hx hrx hLx hMx hq hnx hnx'
      go_wp2_with fail
      refine (lput_yes x.h x.L x.M Ax Ax' nx cx nx' cx' B q _ (HLX.out.alloc (by omega) _) (HMX.out.alloc (by omega) _) (by simp; omega) (by omega) (by omega) HRX.out Hq.out).mono ?_
      rintro e2 w2 ⟨v2, rfl, ha2⟩
      obtain ⟨A2, c2, rfl, hc2, hm2, hr2⟩ := ha2.form
      have R2 := Lib.hid hr2
      have C2 := Lib.hid ((ha.out.alloc _).below ha2.2)
      clear hr2 ha2 k0 k1 k2 k3 k4 k5 k6 k7 k8
      go_wp2_with (at_builtin; refine wpList_append_acc rfl (.tmp 23) (.tmp 24) rfl w _ z _ (by rfl) (by exact C2.out) _ A2 q c2 (lsaBytes x.h x.L x.M) (by rfl) (by exact R2.out) (z + q) (by rfl) (by omega) ?_; intro v3 w3 ha3)
      rw [List.append_assoc, ← HX.out] at ha3
      go_roundw
      case rel => exact ⟨k + 1, z + q, by omega, by go_num, by omega, ha3⟩
      case measure => simp [intOf]; omega
    · obtain rfl : k = n := by omega
      have h1 := ha.out
      rw [List.take_of_length_le (by rw [HN.out]; omega)] at h1
      have h2 : z = m := by
        have := h1.1.1
        rw [← Hm.out, updBs, HN.out]
        simpa using this.symm
      subst h2
      have H1 := Lib.hid (show Acc w _ _ z (updBs L) by rw [updBs, HN.out]; exact h1)
      clear h1
      go_wp2
      rw [← HQ.out]
      exact H1.out.putN

/-- The bytes of what a packet's kind has. -/
def bodyBs (v : Pv) (l : Pl) : List Int := if v.kind = 1 then helloBs v.every v.dead v.prio v.dr v.bdr l.seen else if v.kind = 2 then ddBs v.ini v.mor v.mas v.seq l.heads else if v.kind = 3 then keysBs l.wants else if v.kind = 4 then updBs l.lsas else headsBs l.acks
theorem piece_len {α : Type} {least : Int} {f : α → Bool} {L : List α} (h : pieceB least f L = true) : least ≤ L.length ∧ L.length ≤ 3 ∧ ∀ x ∈ L, f x = true := by
  unfold pieceB at h
  rw [Bool.and_eq_true, inB_iff, List.all_eq_true] at h
  exact ⟨h.1.1, by omega, h.2⟩
theorem la_right {x : La} (h : laB x = true) : rightB x.h x.L x.M = true := by
  unfold laB at h
  rw [Bool.and_eq_true] at h
  exact h.1
theorem hello_len {e d p dr bdr : Int} {S : List Int} (h : helloB e d p dr bdr S = true) : S.length ≤ 15 := by
  unfold helloB at h
  simp only [Bool.and_eq_true] at h
  have := rise_len S 0 h.2.2.2.2.2 (by omega)
  omega
theorem dd_piece {i m s : Bool} {q : Int} {L : List Hd} (h : ddB i m s q L = true) : pieceB 0 hdB L = true := by
  unfold ddB at h
  simp only [Bool.and_eq_true] at h
  exact h.2.2
/-- How many bytes descriptions have: an even number, not many. -/
theorem lsa_even {h : Hd} {L : List Lk} {M : List Int} : (lsaBytes h L M).length % 2 = 0 := by
  rw [lsaBytes_length]
  unfold bodyBytes
  split
  · rw [List.length_append, enc_length, linksBytes_length]; omega
  · rw [encs_length]; omega
theorem lsas_small : ∀ (L : List La), (∀ x ∈ L, rightB x.h x.L x.M = true) → (lsasBs L).length ≤ 80 * L.length ∧ (lsasBs L).length % 2 = 0
  | [], _ => by simp [lsasBs]
  | x :: l, h => by
    have h1 := lsas_small l (fun y hy => h y (List.mem_cons_of_mem _ hy))
    have h2 := body_small (h x (List.mem_cons_self ..))
    have h3 := lsa_even (h := x.h) (L := x.L) (M := x.M)
    simp only [lsasBs, List.length_append, List.length_cons]
    rw [lsaBytes_length] at h3 ⊢
    omega
/-- What a right packet's part has. -/
theorem body_len {v : Pv} {l : Pl} (h : partB v l = true) : (bodyBs v l).length ≤ 300 ∧ (bodyBs v l).length % 2 = 0 := by
  unfold partB at h
  unfold bodyBs
  split
  · rename_i hk
    rw [if_pos hk] at h
    have := hello_len h
    simp only [helloBs, List.length_append, enc_length, encs_length]
    omega
  · rename_i h1
    rw [if_neg h1] at h
    split
    · rename_i hk
      rw [if_pos hk] at h
      have := piece_len (dd_piece h)
      simp only [ddBs, List.length_append, enc_length, headsBs_length]
      omega
    · rename_i h2
      rw [if_neg h2] at h
      split
      · rename_i hk
        rw [if_pos hk] at h
        have := piece_len h
        rw [keysBs_length]
        omega
      · rename_i h3
        rw [if_neg h3] at h
        split
        · rename_i hk
          rw [if_pos hk] at h
          have h5 := piece_len h
          have h6 := lsas_small l.lsas (fun x hx => la_right (h5.2.2 x hx))
          simp only [updBs, List.length_append, enc_length]
          omega
        · rename_i h4
          rw [if_neg h4] at h
          split at h
          · have := piece_len h
            rw [headsBs_length]
            omega
          · cases h
theorem bodyBs_byt (v : Pv) (l : Pl) : Byt (bodyBs v l) := by
  unfold bodyBs
  split
  · unfold helloBs
    repeat' (first | exact enc_byt _ _ | exact encs_byt _ _ | refine Byt.append ?_ ?_)
  · split
    · unfold ddBs
      repeat' (first | exact enc_byt _ _ | exact headsBs_byt _ | refine Byt.append ?_ ?_)
    · split
      · exact keysBs_byt _
      · split
        · exact (enc_byt _ _).append (lsasBs_byt _)
        · exact headsBs_byt _

set_option maxRecDepth 8000 in
set_option maxHeartbeats 8000000 in
theorem pbody_any (v : Pv) (l : Pl) (B m : Nat) (w : World) (h : PkIn w B v l) (hB : B ≤ w.heap.size) (hr : partB v l = true) (hm : (bodyBs v l).length = m) :
    Calls Tryz.prog 14 #[.agg #[.int .i64 v.kind, .int .i64 v.sender, .int .i64 v.every, .int .i64 v.dead, .int .i64 v.prio, .int .i64 v.dr, .int .i64 v.bdr, .slice v.seen.a v.seen.n v.seen.c, .bool v.ini, .bool v.mor, .bool v.mas, .int .i64 v.seq, .slice v.heads.a v.heads.n v.heads.c, .slice v.wants.a v.wants.n v.wants.c, .slice v.lsas.a v.lsas.n v.lsas.c, .slice v.acks.a v.acks.n v.acks.c]] w (PutN w (bodyBs v l) m) := by
  generalize hQ : PutN w (bodyBs v l) m = Q
  have HQ := Lib.hid hQ
  have K0 := Lib.hid (Blk.new w 31 #[.int .i64 v.kind, .int .i64 v.sender, .int .i64 v.every, .int .i64 v.dead, .int .i64 v.prio, .int .i64 v.dr, .int .i64 v.bdr, .slice v.seen.a v.seen.n v.seen.c, .bool v.ini, .bool v.mor, .bool v.mas, .int .i64 v.seq, .slice v.heads.a v.heads.n v.heads.c, .slice v.wants.a v.wants.n v.wants.c, .slice v.lsas.a v.lsas.n v.lsas.c, .slice v.acks.a v.acks.n v.acks.c])
  have B0 := Lib.hid ((Below.refl w.heap.size w).alloc (Nat.le_refl _) (.cells #[.int .i64 v.kind, .int .i64 v.sender, .int .i64 v.every, .int .i64 v.dead, .int .i64 v.prio, .int .i64 v.dr, .int .i64 v.bdr, .slice v.seen.a v.seen.n v.seen.c, .bool v.ini, .bool v.mor, .bool v.mas, .int .i64 v.seq, .slice v.heads.a v.heads.n v.heads.c, .slice v.wants.a v.wants.n v.wants.c, .slice v.lsas.a v.lsas.n v.lsas.c, .slice v.acks.a v.acks.n v.acks.c] 31))
  have HP := Lib.hid (h.below (B0.out.mono hB))
  have HR := Lib.hid hr
  have Hm := Lib.hid hm
  have hs0 : B ≤ (w.alloc (.cells #[.int .i64 v.kind, .int .i64 v.sender, .int .i64 v.every, .int .i64 v.dead, .int .i64 v.prio, .int .i64 v.dr, .int .i64 v.bdr, .slice v.seen.a v.seen.n v.seen.c, .bool v.ini, .bool v.mor, .bool v.mas, .int .i64 v.seq, .slice v.heads.a v.heads.n v.heads.c, .slice v.wants.a v.wants.n v.wants.c, .slice v.lsas.a v.lsas.n v.lsas.c, .slice v.acks.a v.acks.n v.acks.c] 31)).heap.size := by simp; omega
  clear h hr hm hQ
  go_enter Tryz.func14, Tryz.ntmps14
  go_upto_region 1 with fail
  generalize w.alloc (.cells #[.int .i64 v.kind, .int .i64 v.sender, .int .i64 v.every, .int .i64 v.dead, .int .i64 v.prio, .int .i64 v.dr, .int .i64 v.bdr, .slice v.seen.a v.seen.n v.seen.c, .bool v.ini, .bool v.mor, .bool v.mas, .int .i64 v.seq, .slice v.heads.a v.heads.n v.heads.c, .slice v.wants.a v.wants.n v.wants.c, .slice v.lsas.a v.lsas.n v.lsas.c, .slice v.acks.a v.acks.n v.acks.c] 31) = w0 at *
  obtain ⟨a0, a1, a2, a3, a4, a5, a6, a7, a8, a9, a10, a11, a12, a13, a14, a15⟩ := K0.out.sixteen
  by_cases hk1 : v.kind = 1
  · have HH := Lib.hid (show helloB v.every v.dead v.prio v.dr v.bdr l.seen = true by have := HR.out; unfold partB at this; rw [if_pos hk1] at this; exact this)
    have HE := Lib.hid (show bodyBs v l = helloBs v.every v.dead v.prio v.dr v.bdr l.seen by unfold bodyBs; rw [if_pos hk1])
    have hd1 : (v.kind == 1) = true := by simp [hk1]
    clear hk1
    go_wp2_with fail
    refine (helloBytes_any v.every v.dead v.prio v.dr v.bdr v.seen.a v.seen.n v.seen.c B l.seen _ HP.out.1 (by omega) (by rw [← HP.out.1.1]; have := hello_len HH.out; omega)).mono ?_
    intro e2 w2 hp2
    rw [← HE.out] at hp2
    obtain ⟨A2, c2, rfl, hc2, hm2, hr2, hb2⟩ := putN_of m (put0_of hp2 (by rw [HE.out]; simp only [helloBs, List.length_append, enc_length, encs_length, HP.out.1.1]; omega)) Hm.out
    have R2 := Lib.hid hr2
    have B2 := Lib.hid (B0.out.trans (hb2.mono B0.out.size))
    clear hp2 hr2 hb2
    go_wp2
    rw [← HQ.out]
    exact ⟨_, _, rfl, hc2, hm2, R2.out, B2.out⟩
  by_cases hk2 : v.kind = 2
  · have HH := Lib.hid (show ddB v.ini v.mor v.mas v.seq l.heads = true by have := HR.out; unfold partB at this; rw [if_neg hk1] at this; rw [if_pos hk2] at this; exact this)
    have HE := Lib.hid (show bodyBs v l = ddBs v.ini v.mor v.mas v.seq l.heads by unfold bodyBs; rw [if_neg hk1]; rw [if_pos hk2])
    have hd1 : (v.kind == 1) = false := by simp [hk1]
    have hd2 : (v.kind == 2) = true := by simp [hk2]
    clear hk1 hk2
    go_wp2_with fail
    refine (ddBytes_any v.ini v.mor v.mas v.seq v.heads.a v.heads.n v.heads.c B l.heads _ HP.out.2.1 (by omega) (by rw [← HP.out.2.1.1]; have := piece_len (dd_piece HH.out); omega)).mono ?_
    intro e2 w2 hp2
    rw [← HE.out] at hp2
    obtain ⟨A2, c2, rfl, hc2, hm2, hr2, hb2⟩ := putN_of m (put0_of hp2 (by rw [HE.out]; simp only [ddBs, List.length_append, enc_length, headsBs_length, HP.out.2.1.1]; omega)) Hm.out
    have R2 := Lib.hid hr2
    have B2 := Lib.hid (B0.out.trans (hb2.mono B0.out.size))
    clear hp2 hr2 hb2
    go_wp2
    rw [← HQ.out]
    exact ⟨_, _, rfl, hc2, hm2, R2.out, B2.out⟩
  by_cases hk3 : v.kind = 3
  · have HH := Lib.hid (show pieceB 1 keyB l.wants = true by have := HR.out; unfold partB at this; rw [if_neg hk1] at this; rw [if_neg hk2] at this; rw [if_pos hk3] at this; exact this)
    have HE := Lib.hid (show bodyBs v l = keysBs l.wants by unfold bodyBs; rw [if_neg hk1]; rw [if_neg hk2]; rw [if_pos hk3])
    have hd1 : (v.kind == 1) = false := by simp [hk1]
    have hd2 : (v.kind == 2) = false := by simp [hk2]
    have hd3 : (v.kind == 3) = true := by simp [hk3]
    clear hk1 hk2 hk3
    go_wp2_with fail
    refine (wantBytes_any v.wants.a v.wants.n v.wants.c B l.wants _ HP.out.2.2.1 (by omega) (by rw [← HP.out.2.2.1.1]; have := piece_len HH.out; omega)).mono ?_
    intro e2 w2 hp2
    rw [← HE.out] at hp2
    obtain ⟨A2, c2, rfl, hc2, hm2, hr2, hb2⟩ := putN_of m (put0_of hp2 (by rw [HE.out]; rw [keysBs_length, HP.out.2.2.1.1])) Hm.out
    have R2 := Lib.hid hr2
    have B2 := Lib.hid (B0.out.trans (hb2.mono B0.out.size))
    clear hp2 hr2 hb2
    go_wp2
    rw [← HQ.out]
    exact ⟨_, _, rfl, hc2, hm2, R2.out, B2.out⟩
  by_cases hk4 : v.kind = 4
  · have HH := Lib.hid (show pieceB 1 laB l.lsas = true by have := HR.out; unfold partB at this; rw [if_neg hk1] at this; rw [if_neg hk2] at this; rw [if_neg hk3] at this; rw [if_pos hk4] at this; exact this)
    have HE := Lib.hid (show bodyBs v l = updBs l.lsas by unfold bodyBs; rw [if_neg hk1]; rw [if_neg hk2]; rw [if_neg hk3]; rw [if_pos hk4])
    have hd1 : (v.kind == 1) = false := by simp [hk1]
    have hd2 : (v.kind == 2) = false := by simp [hk2]
    have hd3 : (v.kind == 3) = false := by simp [hk3]
    have hd4 : (v.kind == 4) = true := by simp [hk4]
    clear hk1 hk2 hk3 hk4
    go_wp2_with fail
    refine (updateBytes_any v.lsas.a v.lsas.n v.lsas.c B m l.lsas _ HP.out.2.2.2.1 (by omega) (by rw [← HP.out.2.2.2.1.1]; have := piece_len HH.out; omega) (fun x hx => la_right ((piece_len HH.out).2.2 x hx)) (by rw [← HE.out]; exact Hm.out)).mono ?_
    intro e2 w2 hp2
    rw [← HE.out] at hp2
    obtain ⟨A2, c2, rfl, hc2, hm2, hr2, hb2⟩ := putN_of m (put0_of hp2 (by rw [HE.out]; rw [← HE.out]; exact Hm.out)) Hm.out
    have R2 := Lib.hid hr2
    have B2 := Lib.hid (B0.out.trans (hb2.mono B0.out.size))
    clear hp2 hr2 hb2
    go_wp2
    rw [← HQ.out]
    exact ⟨_, _, rfl, hc2, hm2, R2.out, B2.out⟩
  by_cases hk5 : v.kind = 5
  · have HH := Lib.hid (show pieceB 1 hdB l.acks = true by have := HR.out; unfold partB at this; rw [if_neg hk1] at this; rw [if_neg hk2] at this; rw [if_neg hk3] at this; rw [if_neg hk4] at this; rw [if_pos hk5] at this; exact this)
    have HE := Lib.hid (show bodyBs v l = headsBs l.acks by unfold bodyBs; rw [if_neg hk1]; rw [if_neg hk2]; rw [if_neg hk3]; rw [if_neg hk4])
    have hd1 : (v.kind == 1) = false := by simp [hk1]
    have hd2 : (v.kind == 2) = false := by simp [hk2]
    have hd3 : (v.kind == 3) = false := by simp [hk3]
    have hd4 : (v.kind == 4) = false := by simp [hk4]
    clear hk1 hk2 hk3 hk4 hk5
    go_wp2_with fail
    refine (headBytesP_any v.acks.a v.acks.n v.acks.c B l.acks _ HP.out.2.2.2.2 (by omega) (by rw [← HP.out.2.2.2.2.1]; have := piece_len HH.out; omega)).mono ?_
    rintro e2 w2 ⟨v2, rfl, ha2⟩
    have hp2 := ha2.putN
    rw [← HE.out] at hp2
    obtain ⟨A2, c2, e2, hc2, hm2, hr2, hb2⟩ := putN_of m (put0_of hp2 (by rw [HE.out, headsBs_length, HP.out.2.2.2.2.1])) Hm.out
    obtain rfl := Ending.returned.inj e2
    have R2 := Lib.hid hr2
    have B2 := Lib.hid (B0.out.trans (hb2.mono B0.out.size))
    clear hp2 hr2 hb2 ha2 e2
    go_wp2
    rw [← HQ.out]
    exact ⟨_, _, rfl, hc2, hm2, R2.out, B2.out⟩
  have := HR.out
  unfold partB at this
  rw [if_neg hk1, if_neg hk2, if_neg hk3, if_neg hk4, if_neg hk5] at this
  cases this
end Go.Proofs.YtekhgkkgmkodmaaGreat
