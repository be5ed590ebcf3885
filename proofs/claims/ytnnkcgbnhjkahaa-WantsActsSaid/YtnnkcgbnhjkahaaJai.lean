/- The call Seal of package lsa. Conditions: at most 50 links and 50 members. -/
import Derived.Deep.RegionHeld3
import Derived.Deep.DrawnRows
import Derived.Test.YtnnkcgbnhjkahaaJah
namespace Go.Proofs.Ytnnkcgbnhjkahaa
open Go.RowKit
attribute [local go_sem ↓] Go.wp_at_zero Go.wp_at_succ

/-- The nine cells of a description in block p. -/
theorem keep9 {w0 w' : World} {p : Nat} {t : TypeId} {a0 a1 a2 a3 a4 a5 a6 a7 a8 : Value} (hk : Blk w0 p t #[a0, a1, a2, a3, a4, a5, a6, a7, a8]) (hb : Below w0.heap.size w0 w') :
    Below w0.heap.size w0 w' ∧ w'.cell? ⟨p, 0, none⟩ = some a0 ∧ w'.cell? ⟨p, 1, none⟩ = some a1 ∧ w'.cell? ⟨p, 2, none⟩ = some a2 ∧ w'.cell? ⟨p, 3, none⟩ = some a3 ∧ w'.cell? ⟨p, 4, none⟩ = some a4 ∧ w'.cell? ⟨p, 5, none⟩ = some a5 ∧ w'.cell? ⟨p, 6, none⟩ = some a6 ∧ w'.cell? ⟨p, 7, none⟩ = some a7 ∧ w'.cell? ⟨p, 8, none⟩ = some a8 :=
  ⟨hb, (hk.below hb hk.lt).nine⟩
theorem own_slice {w : World} {base : Nat} {t : TypeId} {size n : Nat} {v : Value} {xs : List Value} (h : w.ownsRow base t size v n xs) : ∃ A c, v = .slice A n c := by
  rcases h.2 with ⟨rfl, rfl⟩ | ⟨g, cap, cur, rfl, _⟩
  · exact ⟨_, _, rfl⟩
  · exact ⟨_, _, rfl⟩
/-- What Seal answers. -/
def SealOk (w : World) (h : Hd) (L : List Lk) (M : List Int) (x : Ending) (w' : World) : Prop :=
  ∃ A n c A' n' c', x = .returned (.agg #[.int .i64 h.age, .int .i64 h.kind, .int .i64 h.id, .int .i64 h.adv, .int .i64 h.seq, .int .i64 h.sum, .int .i64 h.long, .slice A n c, .slice A' n' c']) ∧ w'.ownsRow w.heap.size 96 4 (.slice A n c) n (lkCells L) ∧ L.length = n ∧ w'.ownsRow w.heap.size 3 1 (.slice A' n' c') n' (M.map (Value.int .i64)) ∧ M.length = n' ∧ Below w.heap.size w w'
/-- What Seal has behind its first statement: a copy in block ob, its lists in memory of their own. -/
def SealMid (w0 : World) (h : Hd) (n : Nat) (L : List Lk) (n' : Nat) (M : List Int) (wx : World) (ob : Nat) (v v' : Value) : Prop :=
  Blk wx ob 62 #[.int .i64 h.age, .int .i64 h.kind, .int .i64 h.id, .int .i64 h.adv, .int .i64 h.seq, .int .i64 h.sum, .int .i64 h.long, v, v'] ∧ w0.heap.size ≤ ob ∧ wx.ownsRow w0.heap.size 96 4 v n (lkCells L) ∧ wx.ownsRow w0.heap.size 3 1 v' n' (M.map (Value.int .i64)) ∧ v.ownBlock ≠ some ob ∧ v'.ownBlock ≠ some ob ∧ Below w0.heap.size w0 wx

theorem own_ne {w : World} {base n size : Nat} {t : TypeId} {v : Value} {xs : List Value} (h : w.ownsRow base t size v n xs) (p : Addr) (u : Value) (hne : v.ownBlock ≠ some p.block) : (w.setCell p u).ownsRow base t size v n xs :=
  h.kept (grown_setCell w p u) (.inr hne)
theorem own_not {w : World} {base n size b : Nat} {t : TypeId} {v : Value} {xs : List Value} (h : w.ownsRow base t size v n xs) (hb : b < base ∨ w.heap.size ≤ b) : v.ownBlock ≠ some b := fun e => by
  have := h.lt b e
  omega
theorem sealA {w0 w : World} {h : Hd} {n n' : Nat} {L : List Lk} {M : List Int} {v v' : Value} (ho : w.ownsRow w0.heap.size 96 4 v n (lkCells L)) (ho' : w.ownsRow w0.heap.size 3 1 v' n' (M.map (Value.int .i64))) (hb : Below w0.heap.size w0 w) :
    SealMid w0 h n L n' M (w.alloc (.cells #[.int .i64 h.age, .int .i64 h.kind, .int .i64 h.id, .int .i64 h.adv, .int .i64 h.seq, .int .i64 h.sum, .int .i64 h.long, v, v'] 62)) w.heap.size v v' :=
  ⟨Blk.new w 62 _, hb.size, ho.alloc _, ho'.alloc _, own_not ho (.inr (Nat.le_refl _)), own_not ho' (.inr (Nat.le_refl _)), hb.alloc hb.size _⟩
theorem sealB {w0 w : World} {h : Hd} {n n' ob : Nat} {L : List Lk} {M : List Int} {v v' z0 z1 z2 z3 z4 z5 z6 z7 z8 : Value} (hk : Blk w ob 62 #[z0, z1, z2, z3, z4, z5, z6, z7, z8]) (hob : w0.heap.size ≤ ob) (ho : w.ownsRow w0.heap.size 96 4 v n (lkCells L)) (ho' : w.ownsRow w0.heap.size 3 1 v' n' (M.map (Value.int .i64)))
    (hne : v.ownBlock ≠ some ob) (hne' : v'.ownBlock ≠ some ob) (hb : Below w0.heap.size w0 w) :
    SealMid w0 h n L n' M (((((((((w.setCell ⟨ob, 0, none⟩ (.int .i64 h.age)).setCell ⟨ob, 1, none⟩ (.int .i64 h.kind)).setCell ⟨ob, 2, none⟩ (.int .i64 h.id)).setCell ⟨ob, 3, none⟩ (.int .i64 h.adv)).setCell ⟨ob, 4, none⟩ (.int .i64 h.seq)).setCell ⟨ob, 5, none⟩ (.int .i64 h.sum)).setCell ⟨ob, 6, none⟩ (.int .i64 h.long)).setCell ⟨ob, 7, none⟩ v).setCell ⟨ob, 8, none⟩ v') ob v v' :=
  ⟨(by have h9 := (((((((((hk.put 0 (.int .i64 h.age)).put 1 (.int .i64 h.kind)).put 2 (.int .i64 h.id)).put 3 (.int .i64 h.adv)).put 4 (.int .i64 h.seq)).put 5 (.int .i64 h.sum)).put 6 (.int .i64 h.long)).put 7 (v)).put 8 (v')); simp only [List.setIfInBounds_toArray, List.set_cons_zero, List.set_cons_succ] at h9; exact h9), hob, (own_ne (own_ne (own_ne (own_ne (own_ne (own_ne (own_ne (own_ne (own_ne ho _ _ hne) _ _ hne) _ _ hne) _ _ hne) _ _ hne) _ _ hne) _ _ hne) _ _ hne) _ _ hne), (own_ne (own_ne (own_ne (own_ne (own_ne (own_ne (own_ne (own_ne (own_ne ho' _ _ hne') _ _ hne') _ _ hne') _ _ hne') _ _ hne') _ _ hne') _ _ hne') _ _ hne') _ _ hne'), hne, hne', (((((((((hb.setCell hob _).setCell hob _).setCell hob _).setCell hob _).setCell hob _).setCell hob _).setCell hob _).setCell hob _).setCell hob _)⟩

set_option maxRecDepth 4000 in
set_option maxHeartbeats 8000000 in
theorem seal_any (h : Hd) (L : List Lk) (M : List Int) (A A' : Option Addr) (n c n' c' B : Nat) (w : World) (hL : Lnk w B A n L) (hM : Row .i64 w B A' n' M) (hB : B ≤ w.heap.size) (hn : n ≤ 50) (hn' : n' ≤ 50) :
    Calls Try.prog 45 #[.agg #[.int .i64 h.age, .int .i64 h.kind, .int .i64 h.id, .int .i64 h.adv, .int .i64 h.seq, .int .i64 h.sum, .int .i64 h.long, .slice A n c, .slice A' n' c']] w (SealOk w (if rightB h L M = true then sealHd h L M else h) L M) := by
  generalize hQ : SealOk w (if rightB h L M = true then sealHd h L M else h) L M = Q
  have HQ := Lib.hid hQ
  clear hQ
  have HLL := Lib.hid hL.1
  have HML := Lib.hid hM.1
  have HL := Lib.hid ((hL.alloc hB (.cells #[.int .i64 h.age, .int .i64 h.kind, .int .i64 h.id, .int .i64 h.adv, .int .i64 h.seq, .int .i64 h.sum, .int .i64 h.long, .slice A n c, .slice A' n' c'] 62)).alloc (by simp; omega) (.cells #[.int .i64 0, .int .i64 0, .int .i64 0, .int .i64 0, .int .i64 0, .int .i64 0, .int .i64 0, .slice none 0 0, .slice none 0 0] 62))
  have HM := Lib.hid ((hM.alloc hB (.cells #[.int .i64 h.age, .int .i64 h.kind, .int .i64 h.id, .int .i64 h.adv, .int .i64 h.seq, .int .i64 h.sum, .int .i64 h.long, .slice A n c, .slice A' n' c'] 62)).alloc (by simp; omega) (.cells #[.int .i64 0, .int .i64 0, .int .i64 0, .int .i64 0, .int .i64 0, .int .i64 0, .int .i64 0, .slice none 0 0, .slice none 0 0] 62))
  clear hL hM
  have K0 := Lib.hid ((Blk.new w 62 #[.int .i64 h.age, .int .i64 h.kind, .int .i64 h.id, .int .i64 h.adv, .int .i64 h.seq, .int .i64 h.sum, .int .i64 h.long, .slice A n c, .slice A' n' c']).alloc (.cells #[.int .i64 0, .int .i64 0, .int .i64 0, .int .i64 0, .int .i64 0, .int .i64 0, .int .i64 0, .slice none 0 0, .slice none 0 0] 62))
  have K1 := Lib.hid (blk_new1 w (.cells #[.int .i64 h.age, .int .i64 h.kind, .int .i64 h.id, .int .i64 h.adv, .int .i64 h.seq, .int .i64 h.sum, .int .i64 h.long, .slice A n c, .slice A' n' c'] 62) 62 #[.int .i64 0, .int .i64 0, .int .i64 0, .int .i64 0, .int .i64 0, .int .i64 0, .int .i64 0, .slice none 0 0, .slice none 0 0])
  have B0 := Lib.hid (((Below.refl w.heap.size w).alloc (Nat.le_refl _) (.cells #[.int .i64 h.age, .int .i64 h.kind, .int .i64 h.id, .int .i64 h.adv, .int .i64 h.seq, .int .i64 h.sum, .int .i64 h.long, .slice A n c, .slice A' n' c'] 62)).alloc (by simp) (.cells #[.int .i64 0, .int .i64 0, .int .i64 0, .int .i64 0, .int .i64 0, .int .i64 0, .int .i64 0, .slice none 0 0, .slice none 0 0] 62))
  go_enter Try.func45, Try.ntmps45
  go_upto_region 1 with fail
  generalize (w.alloc (.cells #[.int .i64 h.age, .int .i64 h.kind, .int .i64 h.id, .int .i64 h.adv, .int .i64 h.seq, .int .i64 h.sum, .int .i64 h.long, .slice A n c, .slice A' n' c'] 62)).alloc (.cells #[.int .i64 0, .int .i64 0, .int .i64 0, .int .i64 0, .int .i64 0, .int .i64 0, .int .i64 0, .slice none 0 0, .slice none 0 0] 62) = w0 at *
  have hlt := K0.out.lt
  have hlt1 := K1.out.lt
  obtain ⟨k0, k1, k2, k3, k4, k5, k6, k7, k8⟩ := K0.out.nine
  have HBw := Lib.hid (show B ≤ w0.heap.size by omega)
  have BR : Below w0.heap.size w0 w0.drew := ⟨rfl, rfl, rfl, Nat.le_refl _, fun _ _ => rfl⟩
  have BR2 : ∀ o, Below w0.heap.size w0 (w0.alloc o).drew := fun o => below_drewN ((Below.refl _ _).alloc (Nat.le_refl _) o) 1
  go_cut [3] (fun s3 wx => ∃ (ob : Nat) (v v' : Value), s3 = .pointer (some ⟨ob, 0, none⟩) ∧ Hid (SealMid w0 h n L n' M wx ob v v'))
  case first =>
    go_region_held3 (fun w' => Below w0.heap.size w0 w' ∧ w'.cell? ⟨w.heap.size, 0, none⟩ = some (.int .i64 h.age) ∧ w'.cell? ⟨w.heap.size, 1, none⟩ = some (.int .i64 h.kind) ∧ w'.cell? ⟨w.heap.size, 2, none⟩ = some (.int .i64 h.id) ∧ w'.cell? ⟨w.heap.size, 3, none⟩ = some (.int .i64 h.adv) ∧ w'.cell? ⟨w.heap.size, 4, none⟩ = some (.int .i64 h.seq) ∧ w'.cell? ⟨w.heap.size, 5, none⟩ = some (.int .i64 h.sum) ∧ w'.cell? ⟨w.heap.size, 6, none⟩ = some (.int .i64 h.long) ∧ w'.cell? ⟨w.heap.size, 7, none⟩ = some (.slice A n c) ∧ w'.cell? ⟨w.heap.size, 8, none⟩ = some (.slice A' n' c')) ((refine keep9 K0.out ?_; first | with_reducible exact BR | with_reducible exact hBI | with_reducible exact hBL | with_reducible exact BR2 _ | with_reducible exact hBI.alloc hBI.size _ | with_reducible exact hBL.alloc hBL.size _ | with_reducible exact BR.alloc BR.size _ | with_reducible exact (((((((((hBI.setCell (Nat.le_refl _) _).setCell (Nat.le_refl _) _).setCell (Nat.le_refl _) _).setCell (Nat.le_refl _) _).setCell (Nat.le_refl _) _).setCell (Nat.le_refl _) _).setCell (Nat.le_refl _) _).setCell (Nat.le_refl _) _).setCell (Nat.le_refl _) _) | with_reducible exact (((((((((hBI.setCell hBL.size _).setCell hBL.size _).setCell hBL.size _).setCell hBL.size _).setCell hBL.size _).setCell hBL.size _).setCell hBL.size _).setCell hBL.size _).setCell hBL.size _)))
      (first
        | (go_at_call 67; refine (freshL_any A n c B L _ (HL.out.below (Below.mono (And.left ‹_›) HBw.out)) (by omega)).mono ?_; rintro eL wL ⟨vL, rfl, hoL, hbL⟩; obtain ⟨AL, cL, rfl⟩ := own_slice hoL; have hBL := Below.trans (And.left ‹_›) (hbL.mono (Below.size (And.left ‹_›))); have hzL := hbL.size; (try simp at hzL); obtain ⟨hcL, hfL⟩ := bcell hbL; (try simp at hcL hfL); (try have hyL : w0.heap.size < wL.heap.size := by omega))
        | (go_at_call 68; refine (freshI_any A' n' c' B M _ (HM.out.below (Below.mono (And.left ‹_›) HBw.out)) (by omega)).mono ?_; rintro eI wI ⟨vI, rfl, hoI, hbI⟩; obtain ⟨AI, cI, rfl⟩ := own_slice hoI; have hBI := Below.trans (And.left ‹_›) (hbI.mono (Below.size (And.left ‹_›))); have hzI := hbI.size; (try simp at hzI); obtain ⟨hcI, hfI⟩ := bcell hbI; (try simp at hcI hfI)))
    · have h1 := sealA (w0 := w0) (h := h) (own_low (own_below2 hoL hbI) (Nat.le_refl _)) (own_low hoI hBL.size) hBI
      have H1 := Lib.hid h1
      clear h1 hcL hfL hcI hfI hoL hoI
      go_wp2_with fail
      go_meet
      exact ⟨wI.heap.size, _, _, rfl, H1⟩
    · have h1 := sealB (w0 := w0) (h := h) ((Blk.new wL 62 #[.int .i64 0, .int .i64 0, .int .i64 0, .int .i64 0, .int .i64 0, .int .i64 0, .int .i64 0, .slice none 0 0, .slice none 0 0]).below hbI (by simp)) hBL.size (own_low (own_below2 (hoL.alloc _) hbI) (Nat.le_refl _)) (own_low hoI (by have := hBL.size; simp; omega)) (own_not hoL (.inr (Nat.le_refl _))) (own_not hoI (.inl (by simp))) hBI
      have H1 := Lib.hid h1
      clear h1 hcL hfL hcI hfI hoL hoI
      go_wp2_with fail
      go_meet
      exact ⟨wL.heap.size, _, _, rfl, H1⟩
    · have hk := ((Blk.new w0 62 #[.int .i64 0, .int .i64 0, .int .i64 0, .int .i64 0, .int .i64 0, .int .i64 0, .int .i64 0, .slice none 0 0, .slice none 0 0]).drew.below hbL (by simp)).below hbI (by omega)
      have h1 := sealB (w0 := w0) (h := h) hk (Nat.le_refl _) (own_low (own_below2 hoL hbI) (by simp)) (own_low hoI hBL.size) (own_not hoL (.inl (by simp))) (own_not hoI (.inl (by omega))) hBI
      have H1 := Lib.hid h1
      clear h1 hk hcL hfL hcI hfI hoL hoI
      go_wp2_with fail
      go_meet
      exact ⟨w0.heap.size, _, _, rfl, H1⟩
  case rest =>
    obtain ⟨ob, v, v', rfl, hmid⟩ := hcut
    obtain ⟨q1, q2, q3, q4, q5, q6, q7⟩ := hmid.out
    obtain ⟨AL, cL, rfl⟩ := own_slice q3
    obtain ⟨AI, cI, rfl⟩ := own_slice q4
    have hob : w.heap.size + 1 < ob := by omega
    have HN5 := Lib.hid q5
    have HN6 := Lib.hid q6
    have hsz7 := q7.size
    have hsz0 := B0.out.size
    have HLc := Lib.hid (HL.out.below (q7.mono HBw.out))
    have HMc := Lib.hid (HM.out.below (q7.mono HBw.out))
    have KPc := Lib.hid (K0.out.below q7 hlt)
    have BWc := Lib.hid (B0.out.trans (q7.mono hsz0))
    clear hmid k0 k1 k2 k3 k4 k5 k6 k7 k8 BR BR2
    obtain ⟨k0, k1, k2, k3, k4, k5, k6, k7, k8⟩ := KPc.out.nine
    have Q1 := Lib.hid q1
    have Q3 := Lib.hid q3
    have Q4 := Lib.hid q4
    have Q7 := Lib.hid q7
    clear q1 q3 q4 q5 q6 q7
    go_wp2_with fail
    refine (right_any h L M A A' n c n' c' B _ HLc.out HMc.out (by have := HBw.out; omega) (by unfold maxLen; omega) (by unfold maxLen; omega)).mono ?_
    rintro e2 w2 ⟨rfl, hb2⟩
    have KP2 := Lib.hid (KPc.out.below hb2 KPc.out.lt)
    have KO2 := Lib.hid (Q1.out.below hb2 Q1.out.lt)
    have KR2 := Lib.hid ((K1.out.below Q7.out hlt1).below hb2 (by omega))
    have OL2 := Lib.hid (own_below2 Q3.out hb2)
    have OI2 := Lib.hid (own_below2 Q4.out hb2)
    have HL2 := Lib.hid (HLc.out.below (hb2.mono (by have := HBw.out; omega)))
    have HM2 := Lib.hid (HMc.out.below (hb2.mono (by have := HBw.out; omega)))
    have BW2 := Lib.hid (BWc.out.trans (hb2.mono (by omega)))
    have hsz2 := hb2.size
    have hrb : w.heap.size + 1 < w0.heap.size := hlt1
    clear hb2 KPc Q1 Q3 Q4 Q7 HLc HMc BWc k0 k1 k2 k3 k4 k5 k6 k7 k8 K0 K1
    cases hr : rightB h L M
    · have HR := Lib.hid (show (if rightB h L M = true then sealHd h L M else h) = h by rw [hr]; rfl)
      obtain ⟨k0, k1, k2, k3, k4, k5, k6, k7, k8⟩ := KO2.out.nine
      obtain ⟨a0, a1, a2, a3, a4, a5, a6, a7, a8⟩ := KR2.out.nine
      obtain ⟨g0, g1, g2, g3, g4, g5, g6, g7, g8⟩ := KR2.out.nineF
      go_wp2
      refine bodyPost_ret (v := .agg #[.int .i64 h.age, .int .i64 h.kind, .int .i64 h.id, .int .i64 h.adv, .int .i64 h.seq, .int .i64 h.sum, .int .i64 h.long, .slice AL n cL, .slice AI n' cI]) (by simp [results, Try.results45, go_sem, *]) rfl ?_
      rw [← HQ.out, HR.out]
      exact ⟨AL, n, cL, AI, n', cI, rfl, own_low (own_set (own_set (own_set (own_set (own_set (own_set (own_set (own_set (own_set OL2.out _ _ hrb) _ _ hrb) _ _ hrb) _ _ hrb) _ _ hrb) _ _ hrb) _ _ hrb) _ _ hrb) _ _ hrb) (by omega), HLL.out, own_low (own_set (own_set (own_set (own_set (own_set (own_set (own_set (own_set (own_set OI2.out _ _ hrb) _ _ hrb) _ _ hrb) _ _ hrb) _ _ hrb) _ _ hrb) _ _ hrb) _ _ hrb) _ _ hrb) (by omega), HML.out, (((((((((BW2.out.setCell (by simp) _).setCell (by simp) _).setCell (by simp) _).setCell (by simp) _).setCell (by simp) _).setCell (by simp) _).setCell (by simp) _).setCell (by simp) _).setCell (by simp) _)⟩
    · have HR := Lib.hid (show (if rightB h L M = true then sealHd h L M else h) = sealHd h L M by rw [hr]; rfl)
      have HRT := Lib.hid hr
      obtain ⟨k0, k1, k2, k3, k4, k5, k6, k7, k8⟩ := KP2.out.nine
      obtain ⟨m, hm⟩ : ∃ m, (lsaBytes h L M).length = m := ⟨_, rfl⟩
      have hm20 : 20 ≤ m := by rw [← hm, lsaBytes_length]; omega
      have hm80 : m ≤ 80 := by have := body_small hr; rw [← hm, lsaBytes_length]; omega
      have Hm := Lib.hid hm
      clear hr hm
      go_wp2_with fail
      refine (sealed_any h L M A A' n c n' c' B m _ HL2.out HM2.out (by have := HBw.out; omega) hn hn' (right_kind HRT.out) Hm.out).mono ?_
      rintro e3 w3 ⟨v3, rfl, ha3⟩
      obtain ⟨A3, c3, rfl, hc3, hm3, hr3⟩ := ha3.form
      have hb3 := ha3.2
      have KO3 := Lib.hid (KO2.out.below hb3 KO2.out.lt)
      have KR3 := Lib.hid (KR2.out.below hb3 KR2.out.lt)
      have OL3 := Lib.hid (own_below2 OL2.out hb3)
      have OI3 := Lib.hid (own_below2 OI2.out hb3)
      have BW3 := Lib.hid (BW2.out.trans (hb3.mono (by omega)))
      have R3 := Lib.hid hr3
      have hsz3 := hb3.size
      clear ha3 hr3 hb3 KP2 KO2 KR2 OL2 OI2 BW2 HL2 HM2 k0 k1 k2 k3 k4 k5 k6 k7 k8
      go_wp2_with fail
      refine (getHead_long A3 m c3 w3.heap.size _ _ R3.out (lsaBytes_byt h L M) (Nat.le_refl _) hm20 hc3 hm3).mono ?_
      rintro e4 w4 ⟨rfl, hb4⟩
      have hok := okHead_put HRT.out []
      have hhd := (headOf_put HRT.out []).1
      rw [List.append_nil] at hok hhd
      rw [hok, if_pos rfl, if_pos rfl, hhd]
      have hk4 := KO3.out.below hb4 KO3.out.lt
      have KO4 := Lib.hid hk4
      have KR4 := Lib.hid (KR3.out.below hb4 KR3.out.lt)
      have OL4 := Lib.hid (own_below2 OL3.out hb4)
      have OI4 := Lib.hid (own_below2 OI3.out hb4)
      have BW4 := Lib.hid (BW3.out.trans (hb4.mono (by omega)))
      clear hb4 hk4 hok hhd KO3 KR3 OL3 OI3 BW3 R3
      obtain ⟨h2, hh2⟩ : ∃ h2, sealHd h L M = h2 := ⟨_, rfl⟩
      have HR2 := Lib.hid (HR.out.trans hh2)
      rw [hh2]
      clear hh2 HR
      obtain ⟨k0, k1, k2, k3, k4, k5, k6, k7, k8⟩ := KO4.out.nine
      obtain ⟨f0, f1, f2, f3, f4, f5, f6, f7, f8⟩ := KO4.out.nineF
      go_upto_region 4 with fail
      have KO5 := Lib.hid (show Blk (((((((w4.setCell ⟨ob, 0, none⟩ (.int .i64 h2.age)).setCell ⟨ob, 1, none⟩ (.int .i64 h2.kind)).setCell ⟨ob, 2, none⟩ (.int .i64 h2.id)).setCell ⟨ob, 3, none⟩ (.int .i64 h2.adv)).setCell ⟨ob, 4, none⟩ (.int .i64 h2.seq)).setCell ⟨ob, 5, none⟩ (.int .i64 h2.sum)).setCell ⟨ob, 6, none⟩ (.int .i64 h2.long)) ob 62 #[.int .i64 h2.age, .int .i64 h2.kind, .int .i64 h2.id, .int .i64 h2.adv, .int .i64 h2.seq, .int .i64 h2.sum, .int .i64 h2.long, .slice AL n cL, .slice AI n' cI] from by
        have hk4 := KO4.out
        have h9 := (((((((hk4.put 0 (.int .i64 h2.age)).put 1 (.int .i64 h2.kind)).put 2 (.int .i64 h2.id)).put 3 (.int .i64 h2.adv)).put 4 (.int .i64 h2.seq)).put 5 (.int .i64 h2.sum)).put 6 (.int .i64 h2.long))
        simp only [List.setIfInBounds_toArray, List.set_cons_zero, List.set_cons_succ] at h9
        exact h9)
      have KR5 := Lib.hid (show Blk (((((((w4.setCell ⟨ob, 0, none⟩ (.int .i64 h2.age)).setCell ⟨ob, 1, none⟩ (.int .i64 h2.kind)).setCell ⟨ob, 2, none⟩ (.int .i64 h2.id)).setCell ⟨ob, 3, none⟩ (.int .i64 h2.adv)).setCell ⟨ob, 4, none⟩ (.int .i64 h2.seq)).setCell ⟨ob, 5, none⟩ (.int .i64 h2.sum)).setCell ⟨ob, 6, none⟩ (.int .i64 h2.long)) (w.heap.size + 1) 62 #[.int .i64 0, .int .i64 0, .int .i64 0, .int .i64 0, .int .i64 0, .int .i64 0, .int .i64 0, .slice none 0 0, .slice none 0 0] from (((((((KR4.out.far (by simp; omega) _).far (by simp; omega) _).far (by simp; omega) _).far (by simp; omega) _).far (by simp; omega) _).far (by simp; omega) _).far (by simp; omega) _))
      have OL5 := Lib.hid (show (((((((w4.setCell ⟨ob, 0, none⟩ (.int .i64 h2.age)).setCell ⟨ob, 1, none⟩ (.int .i64 h2.kind)).setCell ⟨ob, 2, none⟩ (.int .i64 h2.id)).setCell ⟨ob, 3, none⟩ (.int .i64 h2.adv)).setCell ⟨ob, 4, none⟩ (.int .i64 h2.seq)).setCell ⟨ob, 5, none⟩ (.int .i64 h2.sum)).setCell ⟨ob, 6, none⟩ (.int .i64 h2.long)).ownsRow w0.heap.size 96 4 (.slice AL n cL) n (lkCells L) from (own_ne (own_ne (own_ne (own_ne (own_ne (own_ne (own_ne OL4.out _ _ HN5.out) _ _ HN5.out) _ _ HN5.out) _ _ HN5.out) _ _ HN5.out) _ _ HN5.out) _ _ HN5.out))
      have OI5 := Lib.hid (show (((((((w4.setCell ⟨ob, 0, none⟩ (.int .i64 h2.age)).setCell ⟨ob, 1, none⟩ (.int .i64 h2.kind)).setCell ⟨ob, 2, none⟩ (.int .i64 h2.id)).setCell ⟨ob, 3, none⟩ (.int .i64 h2.adv)).setCell ⟨ob, 4, none⟩ (.int .i64 h2.seq)).setCell ⟨ob, 5, none⟩ (.int .i64 h2.sum)).setCell ⟨ob, 6, none⟩ (.int .i64 h2.long)).ownsRow w0.heap.size 3 1 (.slice AI n' cI) n' (M.map (Value.int .i64)) from (own_ne (own_ne (own_ne (own_ne (own_ne (own_ne (own_ne OI4.out _ _ HN6.out) _ _ HN6.out) _ _ HN6.out) _ _ HN6.out) _ _ HN6.out) _ _ HN6.out) _ _ HN6.out))
      have BW5 := Lib.hid (show Below w.heap.size w (((((((w4.setCell ⟨ob, 0, none⟩ (.int .i64 h2.age)).setCell ⟨ob, 1, none⟩ (.int .i64 h2.kind)).setCell ⟨ob, 2, none⟩ (.int .i64 h2.id)).setCell ⟨ob, 3, none⟩ (.int .i64 h2.adv)).setCell ⟨ob, 4, none⟩ (.int .i64 h2.seq)).setCell ⟨ob, 5, none⟩ (.int .i64 h2.sum)).setCell ⟨ob, 6, none⟩ (.int .i64 h2.long)) from (((((((BW4.out.setCell (by simp; omega) _).setCell (by simp; omega) _).setCell (by simp; omega) _).setCell (by simp; omega) _).setCell (by simp; omega) _).setCell (by simp; omega) _).setCell (by simp; omega) _))
      clear KO4 KR4 OL4 OI4 BW4 k0 k1 k2 k3 k4 k5 k6 k7 k8 f0 f1 f2 f3 f4 f5 f6 f7 f8
      generalize (((((((w4.setCell ⟨ob, 0, none⟩ (.int .i64 h2.age)).setCell ⟨ob, 1, none⟩ (.int .i64 h2.kind)).setCell ⟨ob, 2, none⟩ (.int .i64 h2.id)).setCell ⟨ob, 3, none⟩ (.int .i64 h2.adv)).setCell ⟨ob, 4, none⟩ (.int .i64 h2.seq)).setCell ⟨ob, 5, none⟩ (.int .i64 h2.sum)).setCell ⟨ob, 6, none⟩ (.int .i64 h2.long)) = w5 at *
      obtain ⟨k0, k1, k2, k3, k4, k5, k6, k7, k8⟩ := KO5.out.nine
      obtain ⟨a0, a1, a2, a3, a4, a5, a6, a7, a8⟩ := KR5.out.nine
      obtain ⟨g0, g1, g2, g3, g4, g5, g6, g7, g8⟩ := KR5.out.nineF
      go_wp2
      refine bodyPost_ret (v := .agg #[.int .i64 h2.age, .int .i64 h2.kind, .int .i64 h2.id, .int .i64 h2.adv, .int .i64 h2.seq, .int .i64 h2.sum, .int .i64 h2.long, .slice AL n cL, .slice AI n' cI]) (by simp [results, Try.results45, go_sem, *]) rfl ?_
      rw [← HQ.out, HR2.out]
      exact ⟨AL, n, cL, AI, n', cI, rfl, own_low (own_set (own_set (own_set (own_set (own_set (own_set (own_set (own_set (own_set OL5.out _ _ hrb) _ _ hrb) _ _ hrb) _ _ hrb) _ _ hrb) _ _ hrb) _ _ hrb) _ _ hrb) _ _ hrb) (by omega), HLL.out, own_low (own_set (own_set (own_set (own_set (own_set (own_set (own_set (own_set (own_set OI5.out _ _ hrb) _ _ hrb) _ _ hrb) _ _ hrb) _ _ hrb) _ _ hrb) _ _ hrb) _ _ hrb) _ _ hrb) (by omega), HML.out, (((((((((BW5.out.setCell (by simp) _).setCell (by simp) _).setCell (by simp) _).setCell (by simp) _).setCell (by simp) _).setCell (by simp) _).setCell (by simp) _).setCell (by simp) _).setCell (by simp) _)⟩
end Go.Proofs.Ytnnkcgbnhjkahaa
