/- The program's New, Len, Clear and Get of what is wanted. Conditions: keys of 64 bits. -/
import Derived.Test.YtnnkcgbnhjkahaaAz
import Derived.Test.YtnnkcgbnhjkahaaAd
import Derived.Test.YtnnkcgbnhjkahaaJan
import Derived.Test.YtnnkcgbnhjkahaaJap
namespace Go.Proofs.Ytnnkcgbnhjkahaa
open Go.RowKit Go.Lib Go.Sort Go.Deep

set_option maxHeartbeats 2000000 in
theorem new_w (w : World) : Calls Try.prog 9 #[] w fun e w' => ∃ (p b : Nat), e = .returned (.pointer (some ⟨p, 0, none⟩)) ∧ Below w.heap.size w w' ∧ PwIs w' p b [] ∧ w.heap.size ≤ p ∧ w.heap.size ≤ b := by
  have hmm := @run_makeMap Try.prog
  go_enter Try.func9, Try.ntmps9
  go_wp2
  go_ret
  exact ⟨w.heap.size + 1, w.heap.size, rfl, below_new2 _ _ _, ⟨blk_new1 _ _ _ _, ⟨[], (HmIs.made w).alloc _, List.Perm.refl _⟩, List.Pairwise.nil⟩, Nat.le_succ _, Nat.le_refl _⟩
set_option maxHeartbeats 2000000 in
theorem len_w {w : World} {p b : Nat} {S : List Hd} (h : PwIs w p b S) : Calls Try.prog 16 #[.pointer (some ⟨p, 0, none⟩)] w fun e w' => e = .returned (.int .i64 (S.length : Int)) ∧ w = w' := by
  obtain ⟨hB, ⟨R, hM, hP⟩, hs⟩ := h
  have c0 := hB.cell 0
  simp at c0
  rw [← hP.length_eq]
  have HM := Lib.hid hM
  clear hM hB hP hs
  go_enter Try.func16, Try.ntmps16
  go_wp2_with (at_len; refine wpList_lenHm rfl _ rfl rfl HM.out ?_)
  go_ret
  exact ⟨rfl, rfl⟩
set_option maxHeartbeats 2000000 in
theorem len_wnil (w : World) : Calls Try.prog 16 #[.pointer none] w fun e w' => e = .returned (.int .i64 0) ∧ w = w' := by
  go_enter Try.func16, Try.ntmps16
  go_wp2
  go_ret
  exact ⟨rfl, rfl⟩
set_option maxHeartbeats 2000000 in
theorem clear_wnil (w : World) : Calls Try.prog 15 #[.pointer none] w fun e w' => e = .returned (.int .i64 0) ∧ w = w' := by
  go_enter Try.func15, Try.ntmps15
  go_wp2
  go_ret
  exact ⟨rfl, rfl⟩
set_option maxRecDepth 8000 in
set_option maxHeartbeats 2000000 in
theorem clear_w {w : World} {p b : Nat} {S : List Hd} (h : PwIs w p b S) : Calls Try.prog 15 #[.pointer (some ⟨p, 0, none⟩)] w fun e w' => e = .returned (.int .i64 (S.length : Int)) ∧ PwIs w' p b [] ∧ Chg (fun q => q = b) w w' := by
  have HNE := Lib.hid h.ne
  obtain ⟨hB, ⟨R, hM, hP⟩, hs⟩ := h
  have c0 := hB.cell 0
  simp at c0
  rw [← hP.length_eq]
  have HM := Lib.hid hM
  have HB := Lib.hid hB
  obtain ⟨w2, hclr, hm2, ht2⟩ := hM.clear 0
  have M2 := Lib.hid hm2
  have C2 := Lib.hid (chg_of_turned ht2)
  clear hM hB hP hs hm2 ht2
  go_enter Try.func15, Try.ntmps15
  go_wp2_with (at_len; refine wpList_lenHm rfl _ rfl rfl HM.out ?_)
  go_ret
  exact ⟨rfl, ⟨HB.out.chg C2.out HNE.out, ⟨[], M2.out, List.Perm.refl _⟩, List.Pairwise.nil⟩, C2.out⟩
/-- What Get answers. -/
def GetW (S : List Hd) (k : Ky) (e : Ending) : Prop := ∃ r0 : Hd, ((getH S k = none ∧ r0 = zeroHd) ∨ getH S k = some r0) ∧ e = .returned (.tuple #[.agg #[.int .i64 r0.age, .int .i64 r0.kind, .int .i64 r0.id, .int .i64 r0.adv, .int .i64 r0.seq, .int .i64 r0.sum, .int .i64 r0.long], .bool (getH S k).isSome])
set_option maxRecDepth 8000 in
set_option maxHeartbeats 2000000 in
theorem get_wnil (k : Ky) (w : World) : Calls Try.prog 23 #[.pointer none, .agg #[.int .i64 k.kind, .int .i64 k.id, .int .i64 k.adv]] w fun e w' => e = .returned (.tuple #[.agg #[.int .i64 0, .int .i64 0, .int .i64 0, .int .i64 0, .int .i64 0, .int .i64 0, .int .i64 0], .bool false]) ∧ Below w.heap.size w w' := by
  have B0 := Lib.hid (below_new2 w (.cells #[.int .i64 k.kind, .int .i64 k.id, .int .i64 k.adv] 47) (.cells #[.int .i64 0, .int .i64 0, .int .i64 0, .int .i64 0, .int .i64 0, .int .i64 0, .int .i64 0] 38))
  have K1 := blk_new1 w (.cells #[.int .i64 k.kind, .int .i64 k.id, .int .i64 k.adv] 47) 38 #[.int .i64 0, .int .i64 0, .int .i64 0, .int .i64 0, .int .i64 0, .int .i64 0, .int .i64 0]
  obtain ⟨o0, o1, o2, o3, o4, o5, o6⟩ := K1.sevenH
  clear K1
  go_enter Try.func23, Try.ntmps23
  go_wp2
  refine bodyPost_ret (v := .tuple #[.agg #[.int .i64 0, .int .i64 0, .int .i64 0, .int .i64 0, .int .i64 0, .int .i64 0, .int .i64 0], .bool false]) (by simp [results, Try.results23, go_sem, *]) rfl ?_
  exact ⟨rfl, B0.out⟩
theorem keepPw {w0 w' : World} {b : Nat} {R : List Hd} (hM : HmIs w0 b R) (hb : Below w0.heap.size w0 w') : Below w0.heap.size w0 w' ∧ HmIs w' b R ∧ (∀ b o, b < w0.heap.size → w'.cell? ⟨b, o, none⟩ = w0.cell? ⟨b, o, none⟩) :=
  ⟨hb, hM.below hb hM.lt, fun _ _ hl => hb.cell (p := ⟨_, _, none⟩) hl⟩
set_option maxRecDepth 8000 in
set_option maxHeartbeats 8000000 in
theorem get_w {w : World} {p b : Nat} {S : List Hd} (h : PwIs w p b S) (k : Ky) (hk : wfKy k) :
    Calls Try.prog 23 #[.pointer (some ⟨p, 0, none⟩), .agg #[.int .i64 k.kind, .int .i64 k.id, .int .i64 k.adv]] w fun e w' => GetW S k e ∧ Below w.heap.size w w' := by
  obtain ⟨hB, ⟨R, hM, hP⟩, hs⟩ := h
  obtain ⟨r0, hwho, hlook⟩ := look_wanted hP hs hk b
  generalize hQ : (fun (e : Ending) (w' : World) => GetW S k e ∧ Below w.heap.size w w') = Q
  have HQ := Lib.hid hQ
  have HWHO := Lib.hid hwho
  clear hQ hwho hP hs
  obtain ⟨fd, hfd⟩ : ∃ fd, fd = (getH S k).isSome := ⟨_, rfl⟩
  rw [← hfd] at hlook
  have HFD := Lib.hid hfd
  clear hfd
  have B0 := Lib.hid (below_new2 w (.cells #[.int .i64 k.kind, .int .i64 k.id, .int .i64 k.adv] 47) (.cells #[.int .i64 0, .int .i64 0, .int .i64 0, .int .i64 0, .int .i64 0, .int .i64 0, .int .i64 0] 38))
  have K0 := Lib.hid (blk_new07 w #[.int .i64 k.kind, .int .i64 k.id, .int .i64 k.adv] 47 (.cells #[.int .i64 0, .int .i64 0, .int .i64 0, .int .i64 0, .int .i64 0, .int .i64 0, .int .i64 0] 38))
  have Z0 := Lib.hid (blk_new1 w (.cells #[.int .i64 k.kind, .int .i64 k.id, .int .i64 k.adv] 47) 38 #[.int .i64 0, .int .i64 0, .int .i64 0, .int .i64 0, .int .i64 0, .int .i64 0, .int .i64 0])
  have D0 := Lib.hid (hB.below B0.out hB.lt)
  have M0 := Lib.hid (hM.below B0.out hM.lt)
  have hpl := hB.lt
  go_enter Try.func23, Try.ntmps23
  go_wp2_with fail
  generalize (w.alloc (.cells #[.int .i64 k.kind, .int .i64 k.id, .int .i64 k.adv] 47)).alloc (.cells #[.int .i64 0, .int .i64 0, .int .i64 0, .int .i64 0, .int .i64 0, .int .i64 0, .int .i64 0] 38) = w0 at *
  have hlt := Z0.out.lt
  have hpl0 : p < w0.heap.size := by omega
  obtain ⟨k0, k1, k2⟩ := K0.out.three
  have c0 := D0.out.cell 0
  simp at c0
  have hlt0 : w.heap.size < w0.heap.size := by omega
  have BR : Below w0.heap.size w0 w0.drew := ⟨rfl, rfl, rfl, Nat.le_refl _, fun _ _ => rfl⟩
  have BR2 : ∀ o, Below w0.heap.size w0 (w0.alloc o).drew := fun o => below_drewN ((Below.refl _ _).alloc (Nat.le_refl _) o) 1
  go_cut [6, 7] (fun s6 s7 wx => ∃ ob, s6 = .pointer (some ⟨ob, 0, none⟩) ∧ s7 = .bool fd ∧ Hid (Below w0.heap.size w0 wx ∧ Blk wx ob 38 #[.int .i64 r0.age, .int .i64 r0.kind, .int .i64 r0.id, .int .i64 r0.adv, .int .i64 r0.seq, .int .i64 r0.sum, .int .i64 r0.long]))
  case first =>
    go_region_held3 (fun w' => Below w0.heap.size w0 w' ∧ HmIs w' b R ∧ (∀ b o, b < w0.heap.size → w'.cell? ⟨b, o, none⟩ = w0.cell? ⟨b, o, none⟩)) ((refine keepPw M0.out ?_; first | with_reducible exact BR | with_reducible exact BR2 _ | with_reducible exact BR.alloc BR.size _)) (first | fail)
    all_goals (go_wp2_with fail; go_meet; exact ⟨_, rfl, rfl, Lib.hid ⟨And.left ‹Below w0.heap.size w0 _ ∧ _›, Blk.new _ _ _⟩⟩)
  case rest =>
    obtain ⟨ob, rfl, rfl, hbx⟩ := hcut
    have Bx := Lib.hid (B0.out.trans (hbx.out.1.mono B0.out.size))
    have Zx := Lib.hid (Z0.out.below hbx.out.1 hlt)
    have Ox := Lib.hid hbx.out.2
    clear k0 k1 k2 c0 BR BR2 hbx K0 D0 M0 B0 Z0 hlook
    obtain ⟨o0, o1, o2, o3, o4, o5, o6⟩ := Ox.out.sevenH
    obtain ⟨z0, z1, z2, z3, z4, z5, z6⟩ := Zx.out.sevenH
    obtain ⟨f0, f1, f2, f3, f4, f5, f6⟩ := Zx.out.sevenF
    have BB := Lib.hid (((((((Bx.out.setCell (p := ⟨w.heap.size + 1, 0, none⟩) (Nat.le_succ _) (.int .i64 r0.age)).setCell (p := ⟨w.heap.size + 1, 1, none⟩) (Nat.le_succ _) (.int .i64 r0.kind)).setCell (p := ⟨w.heap.size + 1, 2, none⟩) (Nat.le_succ _) (.int .i64 r0.id)).setCell (p := ⟨w.heap.size + 1, 3, none⟩) (Nat.le_succ _) (.int .i64 r0.adv)).setCell (p := ⟨w.heap.size + 1, 4, none⟩) (Nat.le_succ _) (.int .i64 r0.seq)).setCell (p := ⟨w.heap.size + 1, 5, none⟩) (Nat.le_succ _) (.int .i64 r0.sum)).setCell (p := ⟨w.heap.size + 1, 6, none⟩) (Nat.le_succ _) (.int .i64 r0.long))
    go_wp2_with fail
    refine bodyPost_ret (v := .tuple #[.agg #[.int .i64 r0.age, .int .i64 r0.kind, .int .i64 r0.id, .int .i64 r0.adv, .int .i64 r0.seq, .int .i64 r0.sum, .int .i64 r0.long], .bool fd]) (by simp [results, Try.results23, go_sem, *]) rfl ?_
    rw [← HQ.out]
    exact ⟨⟨r0, HWHO.out, by rw [HFD.out]⟩, BB.out⟩
end Go.Proofs.Ytnnkcgbnhjkahaa
