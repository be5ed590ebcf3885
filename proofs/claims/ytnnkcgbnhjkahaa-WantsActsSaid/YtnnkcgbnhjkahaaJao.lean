/- The program's Put. Conditions: what the words say; at most 50 links and 50 members. · The order of keys, as the program's compare tells it. No conditions but that a list of three numbers is what Or is handed. · Keys of the call's own, sorted. No conditions. · Keys of the call's own, sorted by the library's sort under the program's compare. Conditions: at most 1000 keys. · The program's keys: the keys of all that a database holds, in order. Conditions: what the words say. · The program's keys. Conditions: what the words say. -/
import Derived.StillTailTactics
import Derived.Sort.Grow
import Derived.Deep.DeepCutAuto
import Derived.Test.YtnnkcgbnhjkahaaJan
import Derived.Test.YtnnkcgbnhjkahaaJam
namespace Go.Proofs.Ytnnkcgbnhjkahaa
open Go.RowKit

theorem seal_right {h : Hd} {L : List Lk} {M : List Int} (hr : rightB h L M = true) {A A' : Option Addr} {n c n' c' B : Nat} {w : World} (hL : Lnk w B A n L) (hM : Row .i64 w B A' n' M) (hB : B ≤ w.heap.size) (hn : n ≤ 50) (hn' : n' ≤ 50) :
    Calls Try.prog 45 #[.agg #[.int .i64 h.age, .int .i64 h.kind, .int .i64 h.id, .int .i64 h.adv, .int .i64 h.seq, .int .i64 h.sum, .int .i64 h.long, .slice A n c, .slice A' n' c']] w (SealOk w (sealHd h L M) L M) := by
  have h1 := seal_any h L M A A' n c n' c' B w hL hM hB hn hn'
  rwa [hr] at h1
/-- A database with one more. -/
theorem put_fin {w wS w3 : World} {lo p b : Nat} {room : Int} {S T : List La} {R : List Rc} {F : Nat → Prop} {x : La} {rS : Rc} (hB : Blk w p 85 #[.int .i64 room, .map (some b)]) (h1 : lo ≤ p) (h2 : lo ≤ b) (hM : MapIs w b R) (hA : All2 (RcIs w lo) R T) (hp : T.Perm S) (h3 : (S.length : Int) ≤ room) (h4 : room ≤ 40) (h5 : ∀ x ∈ S, rightB x.h x.L x.M = true) (hF : ∀ q, F q ↔ q = p ∨ q = b ∨ ∃ r ∈ R, rcFoot r q)
    (hs : SortL S) (hlo : lo ≤ w.heap.size) (hr : rightB x.h x.L x.M = true) (hfit : getL S (kyL x) = none → (S.length : Int) < room) (hbS : Below w.heap.size w wS) (hR : RcIs wS w.heap.size rS (sealL x)) (hM3 : MapIs w3 b (rS :: restR R (kyL x))) (ht : wS.mapTurned w3 b) :
    ∃ F', PDb w3 lo p room (insL (sealL x) (dropL S (kyL x))) F' ∧ Chg F w w3 ∧ ∀ q, F' q → F q ∨ w.heap.size ≤ q := by
  have hcS : Chg (fun q => q = b) w wS := Chg.of_below hbS
  have hct := chg_of_turned ht
  have hc : Chg (fun q => q = b) w w3 := hcS.trans hct (fun q hq => .inl hq)
  have hMS : MapIs wS b R := hM.below hbS hM.lt
  have hR3 : RcIs w3 lo rS (sealL x) := (hR.chg hct (fun q hq => hR.ne_map hMS hq)).mono hlo
  have hA2 : All2 (RcIs w3 lo) R T := all2_imp hA (fun r _ y hy => hy.chg hc (fun q hq => hy.ne_map hM hq))
  refine ⟨fun q => q = p ∨ q = b ∨ ∃ r ∈ rS :: restR R (kyL x), rcFoot r q, ⟨b, rS :: restR R (kyL x), sealL x :: dropL T (kyL x), hB.chg hc (hM.ne_blk hB), h1, h2, hM3, All2.cons hR3 (all2_rest (fun r x h => h.1) hA2 _), ?_, ?_, h4, fun y hy => ?_, fun q => Iff.rfl⟩, ⟨hc.os, hc.tape, hc.output, hc.size, fun q hq hn => hc.block q hq (fun e => hn ((hF q).2 (.inr (.inl e))))⟩, fun q hq => ?_⟩
  · exact ((hp.filter _).cons _).trans (insL_perm _ _).symm
  · rw [insL_length]
    cases hg : getL S (kyL x) with
    | none =>
      rw [dropL_none (getL_none.1 hg)]
      have := hfit hg
      omega
    | some y =>
      have := dropL_less hs hg
      omega
  · rcases mem_insL.1 hy with rfl | hy
    · show rightB (sealHd x.h x.L x.M) x.L x.M = true
      rw [right_seal]
      exact hr
    · exact h5 y (mem_drop.1 hy).1
  · rcases hq with hq | hq | ⟨r, hr', hq⟩
    · exact .inl ((hF q).2 (.inl hq))
    · exact .inl ((hF q).2 (.inr (.inl hq)))
    · rcases List.mem_cons.1 hr' with rfl | hr'
      · exact .inr (hR.foot hq).1
      · exact .inl ((hF q).2 (.inr (.inr ⟨r, (mem_restR.1 hr').1, hq⟩)))
theorem keepPut {w0 w' : World} {b p g gk : Nat} {t t2 t3 : TypeId} {v0 v1 k0 k1 k2 a0 a1 a2 a3 a4 a5 a6 a7 a8 : Value} (hB : Blk w0 p t #[v0, v1]) (hk : Blk w0 gk t2 #[k0, k1, k2]) (hg : Blk w0 g t3 #[a0, a1, a2, a3, a4, a5, a6, a7, a8]) (n1 : p ≠ b) (n2 : gk ≠ b) (n3 : g ≠ b) (hc : Chg (fun q => q = b) w0 w') :
    Chg (fun q => q = b) w0 w' ∧ w'.cell? ⟨p, 1, none⟩ = some v1 ∧ w'.cell? ⟨gk, 0, none⟩ = some k0 ∧ w'.cell? ⟨gk, 1, none⟩ = some k1 ∧ w'.cell? ⟨gk, 2, none⟩ = some k2 ∧ w'.cell? ⟨g, 0, none⟩ = some a0 ∧ w'.cell? ⟨g, 1, none⟩ = some a1 ∧ w'.cell? ⟨g, 2, none⟩ = some a2 ∧ w'.cell? ⟨g, 3, none⟩ = some a3 ∧ w'.cell? ⟨g, 4, none⟩ = some a4 ∧ w'.cell? ⟨g, 5, none⟩ = some a5 ∧ w'.cell? ⟨g, 6, none⟩ = some a6 ∧ w'.cell? ⟨g, 7, none⟩ = some a7 ∧ w'.cell? ⟨g, 8, none⟩ = some a8 := by
  obtain ⟨e0, e1, e2⟩ := (hk.chg hc n2).three
  obtain ⟨f0, f1, f2, f3, f4, f5, f6, f7, f8⟩ := (hg.chg hc n3).nine
  exact ⟨hc, (hB.chg hc n1).cell 1, e0, e1, e2, f0, f1, f2, f3, f4, f5, f6, f7, f8⟩
/-- A store of what is sealed. -/
theorem put_at {w wS : World} {b : Nat} {R : List Rc} (h : Hd) (L : List Lk) (M : List Int) (A A' : Option Addr) (n c n' c' : Nat) (hM : MapIs w b R) (hb : Below w.heap.size w wS) (hk : wfKy (keyH h)) (hn : R.length ≤ 40) :
    ∃ w3, (Instr.mapUpdate 83 (.map (some b)) (.agg #[.int .i64 h.kind, .int .i64 h.id, .int .i64 h.adv]) (.agg #[.int .i64 (sealHd h L M).age, .int .i64 (sealHd h L M).kind, .int .i64 (sealHd h L M).id, .int .i64 (sealHd h L M).adv, .int .i64 (sealHd h L M).seq, .int .i64 (sealHd h L M).sum, .int .i64 (sealHd h L M).long, .slice A n c, .slice A' n' c'])).run Try.prog wS = .ok () w3 ∧ MapIs w3 b (⟨sealHd h L M, ⟨A, n, c⟩, ⟨A', n', c'⟩⟩ :: restR R (keyH h)) ∧ wS.mapTurned w3 b :=
  (hM.below hb hM.lt).put ⟨sealHd h L M, ⟨A, n, c⟩, ⟨A', n', c'⟩⟩ hk (by unfold maxLen; omega)
set_option maxRecDepth 8000 in
set_option maxHeartbeats 8000000 in
theorem put_db {w : World} {lo p : Nat} {room : Int} {S : List La} {F : Nat → Prop} (h : PDb w lo p room S F) (hs : SortL S) (hlo : lo ≤ w.heap.size) (h : Hd) (L : List Lk) (M : List Int) (A A' : Option Addr) (n c n' c' B : Nat) (hL : Lnk w B A n L) (hM : Row .i64 w B A' n' M) (hBl : B ≤ w.heap.size) (hn : n ≤ 50) (hn' : n' ≤ 50) :
    Calls Try.prog 28 #[.pointer (some ⟨p, 0, none⟩), .agg #[.int .i64 h.age, .int .i64 h.kind, .int .i64 h.id, .int .i64 h.adv, .int .i64 h.seq, .int .i64 h.sum, .int .i64 h.long, .slice A n c, .slice A' n' c']] w fun e w' => e = .returned (.int .i64 (putE room S ⟨h, L, M⟩)) ∧ ∃ F', PDb w' lo p room (putS room S ⟨h, L, M⟩) F' ∧ Chg F w w' ∧ ∀ q, F' q → F q ∨ w.heap.size ≤ q := by
  rename_i hdb
  have HDB := Lib.hid hdb
  obtain ⟨b, R, T, hB, h1, h2, hMp, hA, hp, h3, h4, h5, hF⟩ := hdb
  generalize hQ : (fun (e : Ending) (w' : World) => e = .returned (.int .i64 (putE room S ⟨h, L, M⟩)) ∧ ∃ F', PDb w' lo p room (putS room S ⟨h, L, M⟩) F' ∧ Chg F w w' ∧ ∀ q, F' q → F q ∨ w.heap.size ≤ q) = Q
  have HQ := Lib.hid hQ
  clear hQ
  have HBl := Lib.hid hBl
  have HP := Lib.hid (show lo ≤ p ∧ lo ≤ b ∧ T.Perm S ∧ (S.length : Int) ≤ room ∧ room ≤ 40 ∧ (∀ x ∈ S, rightB x.h x.L x.M = true) ∧ (∀ q, F q ↔ q = p ∨ q = b ∨ ∃ r ∈ R, rcFoot r q) ∧ SortL S ∧ lo ≤ w.heap.size ∧ R.length = S.length ∧ R.length ≤ 40 from ⟨h1, h2, hp, h3, h4, h5, hF, hs, hlo, hA.1.trans hp.length_eq, by have := hA.1.trans hp.length_eq; omega⟩)
  have HA := Lib.hid hA
  have HB := Lib.hid hB
  have HM := Lib.hid hMp
  have hpl := hB.lt
  clear h1 h2 hp h3 h4 h5 hF hs hlo hA hBl hB hMp
  have K0 := Lib.hid (Blk.new w 62 #[.int .i64 h.age, .int .i64 h.kind, .int .i64 h.id, .int .i64 h.adv, .int .i64 h.seq, .int .i64 h.sum, .int .i64 h.long, .slice A n c, .slice A' n' c'])
  have B0 := Lib.hid ((Below.refl w.heap.size w).alloc (Nat.le_refl _) (.cells #[.int .i64 h.age, .int .i64 h.kind, .int .i64 h.id, .int .i64 h.adv, .int .i64 h.seq, .int .i64 h.sum, .int .i64 h.long, .slice A n c, .slice A' n' c'] 62))
  have HL0 := Lib.hid hL
  have HR0 := Lib.hid hM
  have HL := Lib.hid (hL.alloc HBl.out (.cells #[.int .i64 h.age, .int .i64 h.kind, .int .i64 h.id, .int .i64 h.adv, .int .i64 h.seq, .int .i64 h.sum, .int .i64 h.long, .slice A n c, .slice A' n' c'] 62))
  have HR := Lib.hid (hM.alloc HBl.out (.cells #[.int .i64 h.age, .int .i64 h.kind, .int .i64 h.id, .int .i64 h.adv, .int .i64 h.seq, .int .i64 h.sum, .int .i64 h.long, .slice A n c, .slice A' n' c'] 62))
  clear hL hM
  go_enter Try.func28, Try.ntmps28
  obtain ⟨o0, o1, o2, o3, o4, o5, o6, o7, o8⟩ := K0.out.nine
  go_wp2_with fail
  refine (right_any h L M A A' n c n' c' B _ HL.out HR.out (by have := HBl.out; simp; omega) (by unfold maxLen; omega) (by unfold maxLen; omega)).mono ?_
  rintro e1 w1 ⟨rfl, hb1⟩
  generalize w.alloc (.cells #[.int .i64 h.age, .int .i64 h.kind, .int .i64 h.id, .int .i64 h.adv, .int .i64 h.seq, .int .i64 h.sum, .int .i64 h.long, .slice A n c, .slice A' n' c'] 62) = w0 at *
  have hz0 := B0.out.size
  have B1 := Lib.hid (B0.out.trans (hb1.mono hz0))
  have K1 := Lib.hid (K0.out.below hb1 K0.out.lt)
  have HL1 := Lib.hid (HL.out.below (hb1.mono (Nat.le_trans HBl.out hz0)))
  have HR1 := Lib.hid (HR.out.below (hb1.mono (Nat.le_trans HBl.out hz0)))
  clear o0 o1 o2 o3 o4 o5 o6 o7 o8 K0 B0 HL HR hb1
  cases hr : rightB h L M
  · go_wp2
    show Q (.returned (.int .i64 1)) _
    rw [← HQ.out]
    have e1 : putE room S ⟨h, L, M⟩ = 1 := by unfold putE; rw [if_pos hr]
    have e2 : putS room S ⟨h, L, M⟩ = S := by unfold putS; rw [e1]; rfl
    rw [e1, e2]
    exact ⟨rfl, F, HDB.out.chg (Chg.of_below (F := fun _ => False) B1.out) (fun _ _ hf => hf), Chg.of_below B1.out, fun q hq => .inl hq⟩
  · have HRT := Lib.hid hr
    have HW := Lib.hid (show wfKy (keyH h) from wfKy_right (x := ⟨h, L, M⟩) hr)
    clear hr hz0
    obtain ⟨o0, o1, o2, o3, o4, o5, o6, o7, o8⟩ := K1.out.nine
    go_wp2_with fail
    refine (keyOf_any h _).mono ?_
    rintro e2 w2 ⟨rfl, hb2⟩
    have KL1 := Lib.hid K1.out.lt
    have B2 := Lib.hid ((B1.out.trans (hb2.mono B1.out.size)).alloc (Nat.le_trans B1.out.size hb2.size) (.cells #[.int .i64 h.kind, .int .i64 h.id, .int .i64 h.adv] 47))
    have K2 := Lib.hid ((K1.out.below hb2 K1.out.lt).below ((Below.refl w2.heap.size w2).alloc (Nat.le_refl _) (.cells #[.int .i64 h.kind, .int .i64 h.id, .int .i64 h.adv] 47)) (Nat.lt_of_lt_of_le K1.out.lt hb2.size))
    have J2 := Lib.hid (Blk.new w2 47 #[.int .i64 h.kind, .int .i64 h.id, .int .i64 h.adv])
    clear o0 o1 o2 o3 o4 o5 o6 o7 o8 K1 HL1 HR1 B1
    go_wp2_with fail
    have HGK := Lib.hid (show w.heap.size < w2.heap.size from Nat.lt_of_lt_of_le KL1.out hb2.size)
    clear hb2 KL1
    generalize w2.alloc (.cells #[.int .i64 h.kind, .int .i64 h.id, .int .i64 h.adv] 47) = wa at *
    generalize w2.heap.size = gk at *
    have DA := Lib.hid (HB.out.below B2.out HB.out.lt)
    have MA := Lib.hid (HM.out.below B2.out HM.out.lt)
    obtain ⟨fd, hfd⟩ : ∃ fd, fd = (getL S (keyH h)).isSome := ⟨_, rfl⟩
    obtain ⟨r0, hlook, -⟩ := look_both (b := b) HA.out HP.out.2.2.1 HP.out.2.2.2.2.2.2.2.1 HW.out
    rw [← hfd] at hlook
    have HFD := Lib.hid hfd
    clear hfd
    change ∀ W, MapIs W b R → (Instr.lookup 83 (.map (some b)) (.agg #[.int .i64 h.kind, .int .i64 h.id, .int .i64 h.adv]) true).run Try.prog W = _ at hlook
    have hpla : p < wa.heap.size := DA.out.lt
    have hgka : gk < wa.heap.size := J2.out.lt
    have hwa : w.heap.size < wa.heap.size := K2.out.lt
    obtain ⟨k0, k1, k2⟩ := J2.out.three
    have c1 := DA.out.cell 1
    simp at c1
    have BR : Below wa.heap.size wa wa.drew := ⟨rfl, rfl, rfl, Nat.le_refl _, fun _ _ => rfl⟩
    have BR2 : ∀ o, Below wa.heap.size wa (wa.alloc o).drew := fun o => below_drewN ((Below.refl _ _).alloc (Nat.le_refl _) o) 1
    go_cut [7] (fun s7 wx => s7 = .bool fd ∧ Hid (Below wa.heap.size wa wx))
    case first =>
      go_region_held3 (fun w' => Below wa.heap.size wa w' ∧ MapIs w' b R ∧ (∀ b o, b < wa.heap.size → w'.cell? ⟨b, o, none⟩ = wa.cell? ⟨b, o, none⟩)) ((refine keepDb MA.out ?_; first | with_reducible exact BR | with_reducible exact BR2 _ | with_reducible exact BR.alloc BR.size _)) (first | fail)
      all_goals (go_wp2_with fail; go_meet; exact ⟨rfl, Lib.hid (And.left ‹Below wa.heap.size wa _ ∧ _›)⟩)
    case rest =>
      obtain ⟨rfl, hbx⟩ := hcut
      have B3 := Lib.hid (B2.out.trans (hbx.out.mono B2.out.size))
      have K3 := Lib.hid (K2.out.below hbx.out hwa)
      have J3 := Lib.hid (J2.out.below hbx.out hgka)
      have D3 := Lib.hid (DA.out.below hbx.out hpla)
      have M3 := Lib.hid (MA.out.below hbx.out MA.out.lt)
      clear k0 k1 k2 c1 BR BR2 hbx K2 J2 DA MA B2 hlook hpla hgka hwa
      have c0 := D3.out.cell 0
      have c1 := D3.out.cell 1
      simp at c0 c1
      obtain ⟨full, hfull⟩ : ∃ full : Bool, full = (!fd && decide (room ≤ (S.length : Int))) := ⟨_, rfl⟩
      have HFU := Lib.hid hfull
      go_wp2_with fail
      go_cut [38] (fun s38 wx => s38 = .bool full ∧ Hid (∃ q, wx = wc.drewN q))
      case first =>
        have hlen : ∀ ty q, (Builtin.len_ #[83] ty #[.map (some b)]).run Try.prog (wc.drewN q) = .ok (.int .i64 (S.length : Int)) (wc.drewN q) := fun ty q => by rw [(M3.out.heap (w' := wc.drewN q) rfl).len ty, HP.out.2.2.2.2.2.2.2.2.2.1]
        cases fd
        · go_quiet (fail)
          go_wp2_with fail
          go_meet
          exact ⟨by rw [HFU.out]; simp, Lib.hid ⟨nq, rfl⟩⟩
        · go_quiet (fail)
          go_wp2_with fail
          go_meet
          exact ⟨by rw [HFU.out]; simp, Lib.hid ⟨nq, rfl⟩⟩
      case rest =>
        obtain ⟨rfl, hq⟩ := hcut
        obtain ⟨q, rfl⟩ := hq.out
        have B4 := Lib.hid (B3.out.trans (⟨rfl, rfl, rfl, Nat.le_refl _, fun _ _ => rfl⟩ : Below w.heap.size wc (wc.drewN q)))
        have K4 := Lib.hid (K3.out.drewN q)
        have J4 := Lib.hid (J3.out.drewN q)
        have D4 := Lib.hid (D3.out.drewN q)
        clear c0 c1 K3 J3 D3 M3 B3 hq hfull
        generalize wc.drewN q = wd at *
        cases full
        · have hfit : getL S (keyH h) = none → (S.length : Int) < room := fun hg => by
            have h1 := HFU.out
            rw [HFD.out, hg] at h1
            simp at h1
            omega
          have HFIT := Lib.hid hfit
          clear hfit
          have HL4 := Lib.hid (HL0.out.below (B4.out.mono HBl.out))
          have HR4 := Lib.hid (HR0.out.below (B4.out.mono HBl.out))
          have N1 := Lib.hid ((HM.out.below B4.out HM.out.lt).ne_blk D4.out)
          have N2 := Lib.hid ((HM.out.below B4.out HM.out.lt).ne_blk J4.out)
          have N3 := Lib.hid ((HM.out.below B4.out HM.out.lt).ne_blk K4.out)
          have M4 := Lib.hid (HM.out.below B4.out HM.out.lt)
          have HZ4 := Lib.hid (Nat.le_trans HBl.out B4.out.size)
          have c1 := D4.out.cell 1
          simp at c1
          obtain ⟨k0, k1, k2⟩ := J4.out.three
          obtain ⟨o0, o1, o2, o3, o4, o5, o6, o7, o8⟩ := K4.out.nine
          have C0 : Chg (fun q => q = b) wd wd.drew := ⟨rfl, rfl, rfl, Nat.le_refl _, fun _ _ _ => rfl⟩
          have BD : Below wd.heap.size wd wd.drew := ⟨rfl, rfl, rfl, Nat.le_refl _, fun _ _ => rfl⟩
          go_wp2_with fail
          go_region_held3 (fun w' => Chg (fun q => q = b) wd w' ∧ w'.cell? ⟨p, 1, none⟩ = some (.map (some b)) ∧ w'.cell? ⟨gk, 0, none⟩ = some (.int .i64 h.kind) ∧ w'.cell? ⟨gk, 1, none⟩ = some (.int .i64 h.id) ∧ w'.cell? ⟨gk, 2, none⟩ = some (.int .i64 h.adv) ∧ w'.cell? ⟨w.heap.size, 0, none⟩ = some (.int .i64 h.age) ∧ w'.cell? ⟨w.heap.size, 1, none⟩ = some (.int .i64 h.kind) ∧ w'.cell? ⟨w.heap.size, 2, none⟩ = some (.int .i64 h.id) ∧ w'.cell? ⟨w.heap.size, 3, none⟩ = some (.int .i64 h.adv) ∧ w'.cell? ⟨w.heap.size, 4, none⟩ = some (.int .i64 h.seq) ∧ w'.cell? ⟨w.heap.size, 5, none⟩ = some (.int .i64 h.sum) ∧ w'.cell? ⟨w.heap.size, 6, none⟩ = some (.int .i64 h.long) ∧ w'.cell? ⟨w.heap.size, 7, none⟩ = some (.slice A n c) ∧ w'.cell? ⟨w.heap.size, 8, none⟩ = some (.slice A' n' c')) ((refine keepPut D4.out J4.out K4.out N1.out N2.out N3.out ?_; first | with_reducible exact C0 | with_reducible exact hCS | with_reducible exact hC3))
            (first
              | (go_at_call 45; refine (seal_right HRT.out (B := B) (w := wd.drew) (HL4.out.below ⟨rfl, rfl, rfl, Nat.le_refl _, fun _ _ => rfl⟩) (HR4.out.below ⟨rfl, rfl, rfl, Nat.le_refl _, fun _ _ => rfl⟩) HZ4.out hn hn').mono ?_; rintro eS wS ⟨AS, nS, cS, AS', nS', cS', rfl, hoS, hlS, hoS', hlS', hbS⟩; have hCS := C0.below hbS; obtain ⟨w3, hput, hM3, hturn⟩ := put_at h L M AS AS' nS cS nS' cS' M4.out (BD.trans hbS) HW.out (HP.out.2.2.2.2.2.2.2.2.2.2); have hC3 := hCS.trans (chg_of_turned hturn) (fun q hq => .inl hq)))
          have HSX := Lib.hid (show RcIs wS w.heap.size ⟨sealHd h L M, ⟨AS, nS, cS⟩, ⟨AS', nS', cS'⟩⟩ (sealL ⟨h, L, M⟩) from ⟨rfl, own_low hoS B4.out.size, hlS, own_low hoS' B4.out.size, hlS'⟩)
          have HM3 := Lib.hid hM3
          have HTU := Lib.hid hturn
          have BS := Lib.hid (B4.out.trans ((BD.trans hbS).mono B4.out.size))
          clear k0 k1 k2 c1 o0 o1 o2 o3 o4 o5 o6 o7 o8 C0 BD hoS hoS' hlS hlS' hbS hCS hput hM3 hturn hC3
          go_wp2
          show Q (.returned (.int .i64 0)) _
          rw [← HQ.out]
          obtain ⟨p1, p2, p3, p4, p5, p6, p7, p8, p9, p10, p11⟩ := HP.out
          have e1 : putE room S ⟨h, L, M⟩ = 0 := by
            unfold putE
            rw [if_neg (by rw [HRT.out]; decide), if_neg (fun hx => by
              have h1 := HFIT.out (Option.isNone_iff_eq_none.1 hx.1)
              omega)]
          have e2 : putS room S ⟨h, L, M⟩ = insL (sealL ⟨h, L, M⟩) (dropL S (kyL ⟨h, L, M⟩)) := by unfold putS; rw [e1]; rfl
          rw [e1, e2]
          exact ⟨rfl, put_fin (x := ⟨h, L, M⟩) HB.out p1 p2 HM.out HA.out p3 p4 p5 p6 p7 p8 p9 HRT.out HFIT.out BS.out HSX.out HM3.out HTU.out⟩
        · go_wp2
          show Q (.returned (.int .i64 7)) _
          rw [← HQ.out]
          have hg : getL S (keyH h) = none ∧ room ≤ (S.length : Int) := by
            have h1 := HFU.out
            rw [HFD.out] at h1
            simpa using h1.symm
          have e1 : putE room S ⟨h, L, M⟩ = 7 := by
            have hn1 : (getL S (kyL ⟨h, L, M⟩)).isNone = true := by
              show (getL S (keyH h)).isNone = true
              rw [hg.1]
              rfl
            unfold putE
            rw [if_neg (by rw [HRT.out]; decide), if_pos ⟨hn1, hg.2⟩]
          have e2 : putS room S ⟨h, L, M⟩ = S := by unfold putS; rw [e1]; rfl
          rw [e1, e2]
          exact ⟨rfl, F, HDB.out.chg (Chg.of_below (F := fun _ => False) B4.out) (fun _ _ hf => hf), Chg.of_below B4.out, fun q hq => .inl hq⟩
end Go.Proofs.Ytnnkcgbnhjkahaa
namespace Go.Proofs.Ytnnkcgbnhjkahaa
open Go.RowKit Go.Shelf Go.Lib

theorem cmp7 (x y : Int) (w : World) : Calls Try.prog 58 #[.int .i64 x, .int .i64 y] w fun e w' => e = .returned (.int .i64 (Lib.compareInt x y)) ∧ w' = w :=
  AnyG.cmp_Compare_int cmpInt7 x y w
/-- The first number but 0. -/
def orI (a b : Int) : Int := if a = 0 then b else a
set_option maxHeartbeats 2000000 in
theorem or7 (c1 c2 c3 : Int) (g : Nat) (w : World) (h0 : w.cell? ⟨g, 0, none⟩ = some (.int .i64 c1)) (h1 : w.cell? ⟨g, 1, none⟩ = some (.int .i64 c2)) (h2 : w.cell? ⟨g, 2, none⟩ = some (.int .i64 c3)) :
    Calls Try.prog 90 #[.slice (some ⟨g, 0, none⟩) 3 3] w fun e w' => e = .returned (.int .i64 (orI c1 (orI c2 c3))) ∧ w' = w := by
  go_enter Try.func90, Try.ntmps90
  go_wp2
  refine wp_loop_rounds 4 ?_
  rw [rounds_succ]
  by_cases e1 : c1 = 0
  · subst e1
    go_wp2
    rw [rounds_succ]
    by_cases e2 : c2 = 0
    · subst e2
      go_wp2
      rw [rounds_succ]
      by_cases e3 : c3 = 0
      · subst e3
        go_wp2
        rw [rounds_succ]
        go_wp2
        go_ret
        exact ⟨rfl, rfl⟩
      · have e4 : (c3 == 0) = false := by simpa using e3
        go_wp2
        go_ret
        simp [orI]
    · have e4 : (c2 == 0) = false := by simpa using e2
      go_wp2
      go_ret
      simp [orI, e2]
  · have e4 : (c1 == 0) = false := by simpa using e1
    go_wp2
    go_ret
    simp [orI, e1]
/-- The order of keys. -/
def cmpK (a b : Ky) : Int := orI (Lib.compareInt a.kind b.kind) (orI (Lib.compareInt a.id b.id) (Lib.compareInt a.adv b.adv))
theorem compareInt_cases (x y : Int) : (x < y ∧ Lib.compareInt x y = -1) ∨ (x = y ∧ Lib.compareInt x y = 0) ∨ (y < x ∧ Lib.compareInt x y = 1) := by
  unfold Lib.compareInt
  by_cases h1 : x < y
  · simp [h1]
  · by_cases h2 : y < x
    · simp [h1, h2]
    · have : x = y := by omega
      subst this
      simp
theorem cmpK_less (a b : Ky) : decide (cmpK a b < 0) = lessKy a b := by
  have h := lessKy_iff a b
  have : cmpK a b < 0 ↔ lessKy a b = true := by
    rw [h]
    unfold cmpK orI
    rcases compareInt_cases a.kind b.kind with ⟨k1, k2⟩ | ⟨k1, k2⟩ | ⟨k1, k2⟩ <;> rw [k2] <;>
    rcases compareInt_cases a.id b.id with ⟨i1, i2⟩ | ⟨i1, i2⟩ | ⟨i1, i2⟩ <;> rw [i2] <;>
    rcases compareInt_cases a.adv b.adv with ⟨d1, d2⟩ | ⟨d1, d2⟩ | ⟨d1, d2⟩ <;> rw [d2] <;> simp <;> omega
  cases hl : lessKy a b
  · rw [decide_eq_false_iff_not, this, hl]
    decide
  · rw [decide_eq_true_iff, this, hl]
end Go.Proofs.Ytnnkcgbnhjkahaa
namespace Go.Proofs.Ytnnkcgbnhjkahaa
open Go.RowKit Go.Shelf Go.Lib Go.Sort

set_option maxRecDepth 20000 in
set_option maxHeartbeats 8000000 in
/-- The program's compare. -/
theorem compare7 (a b : Ky) (w : World) : Calls Try.prog 63 #[.agg #[.int .i64 a.kind, .int .i64 a.id, .int .i64 a.adv], .agg #[.int .i64 b.kind, .int .i64 b.id, .int .i64 b.adv]] w
    fun e w' => e = .returned (.int .i64 (cmpK a b)) ∧ ∃ q os', w' = grow (w.drewN q) os' := by
  obtain ⟨a0, a1, a2⟩ := Blk.three (blk_new07 w #[.int .i64 a.kind, .int .i64 a.id, .int .i64 a.adv] 47 (.cells #[.int .i64 b.kind, .int .i64 b.id, .int .i64 b.adv] 47))
  obtain ⟨b0, b1, b2⟩ := Blk.three (blk_new1 w (.cells #[.int .i64 a.kind, .int .i64 a.id, .int .i64 a.adv] 47) 47 #[.int .i64 b.kind, .int .i64 b.id, .int .i64 b.adv])
  have HG := Lib.hid (show ∃ os, (w.alloc (.cells #[.int .i64 a.kind, .int .i64 a.id, .int .i64 a.adv] 47)).alloc (.cells #[.int .i64 b.kind, .int .i64 b.id, .int .i64 b.adv] 47) = grow w os from ⟨_, by rw [alloc_eq_grow, alloc_eq_grow, grow_grow]⟩)
  have p1 := fun W => cmp7 a.kind b.kind W
  have p2 := fun W => cmp7 a.id b.id W
  have p3 := fun W => cmp7 a.adv b.adv W
  unfold cmpK
  generalize Lib.compareInt a.kind b.kind = x1 at *
  generalize Lib.compareInt a.id b.id = x2 at *
  generalize Lib.compareInt a.adv b.adv = x3 at *
  go_enter Try.func63, Try.ntmps63
  go_wp2_with fail
  generalize (w.alloc (.cells #[.int .i64 a.kind, .int .i64 a.id, .int .i64 a.adv] 47)).alloc (.cells #[.int .i64 b.kind, .int .i64 b.id, .int .i64 b.adv] 47) = w0 at *
  refine wp_region_still_tail 15 (by kernel_rfl) (by kernel_rfl) ?_
  simp only [List.take_succ_cons, List.take_zero, List.drop_succ_cons, List.drop_zero]
  repeat still_step
  still_call (p1 _)
  repeat still_step
  still_call (p2 _)
  repeat still_step
  still_call (p3 _)
  refine wpStill_nil ?_
  change wpList _ _ _ _ _ w0.drew
  obtain ⟨os, hos⟩ := HG.out
  have HW := Lib.hid (show w0.drew = grow (w.drewN 1) os by rw [hos]; rfl)
  clear HG hos a0 a1 a2 b0 b1 b2
  generalize w0.drew = w2 at *
  obtain ⟨c0, c1, c2⟩ := Blk.three (Blk.new w2 3 #[.int .i64 x1, .int .i64 x2, .int .i64 x3])
  go_wp2_with (go_at_call 90; refine (or7 x1 x2 x3 _ _ c0 c1 c2).mono ?_; rintro e w' ⟨rfl, rfl⟩)
  go_ret
  exact ⟨rfl, 1, _, by rw [HW.out, alloc_eq_grow, grow_grow]⟩
end Go.Proofs.Ytnnkcgbnhjkahaa
namespace Go.Proofs.Ytnnkcgbnhjkahaa
open Go.RowKit Go.Shelf Go.Lib Go.Sort

instance : Inhabited Ky := ⟨⟨0, 0, 0⟩⟩
def encKy (k : Ky) : List Value := [.int .i64 k.kind, .int .i64 k.id, .int .i64 k.adv]
theorem flat_ky (K : List Ky) : flatK encKy 3 K.toArray = (kyCells K).toArray := by
  refine ext_get! (by simp [kyCells_length]) fun t ht => ?_
  have ht' : t < K.toArray.size * 3 := by simpa using ht
  have ht2 : t < K.length * 3 := by simpa using ht'
  rw [get_flatK _ _ _ t ht']
  have hd : t / 3 < K.length := by omega
  have hK : K[t / 3]? = some (K[t / 3]'hd) := List.getElem?_eq_getElem hd
  have h1 : (kyCells K)[t / 3 * 3 + t % 3]? = (encKy _)[t % 3]? := kyCells_at K (t / 3) _ hK (t % 3) (by omega)
  rw [show t / 3 * 3 + t % 3 = t by omega] at h1
  have h2 : K.toArray[t / 3]! = K[t / 3]'hd := by
    rw [getElem!_pos K.toArray (t / 3) (by simpa using hd)]
    simp
  rw [h2]
  have hl : t < (kyCells K).toArray.size := by simp [kyCells_length]; omega
  have h3 : t % 3 < (encKy (K[t / 3]'hd)).length := by simp [encKy]; omega
  rw [getElem!_pos (kyCells K).toArray t hl, getElem!_pos _ (t % 3) h3]
  rw [List.getElem?_eq_getElem (by simpa using hl), List.getElem?_eq_getElem h3] at h1
  injection h1 with h1
  simpa using h1.symm
section
variable {w : World} {g : Nat} {e : TypeId} {cur : Array Value} {F : Array Value}
theorem holds7 (hb : w.heap[g]? = some (.cells cur e (0, 0))) (ht : cur.toList.take F.size = F.toList) : Holds id w g 0 F := by
  intro j hj
  refine ⟨?_, by simp [World.frozen?, hb]⟩
  have h1 : (cur.toList.take F.size)[j]? = F.toList[j]? := by rw [ht]
  rw [List.getElem?_take_of_lt hj] at h1
  simp only [World.cell?, hb, Nat.zero_add]
  simp only [Option.isSome_none, Bool.false_eq_true, if_false]
  rw [← Array.getElem?_toList, h1]
  simp [hj]
theorem heap_sorted7 {n : Nat} {os : Array Obj} {fr : Nat × Nat} (F : Array Value) (hb : w.heap[g]? = some (.cells cur e fr)) :
    (grow (putRow id (Sort.ahead w n) g 0 F) os).heap[g]? = some (.cells (putCells id 0 F cur) e fr) := by
  have hg : g < w.heap.size := (Array.getElem?_eq_some_iff.1 hb).1
  rw [heap_grow_old _ _ (by simpa using hg)]
  simp [putRow, mapBlock, Sort.ahead, Array.getElem?_modify, hb, onCells]
theorem grownBy_sorted7 {n : Nat} {os : Array Obj} (F : Array Value) : w.grownBy (grow (putRow id (Sort.ahead w n) g 0 F) os) (some g) := by
  refine ⟨rfl, rfl, rfl, by simp, fun k hk hne => ?_⟩
  rw [heap_grow_old _ _ (by simpa using hk)]
  have : g ≠ k := fun e => hne (by rw [e])
  simp [putRow, mapBlock, Sort.ahead, Array.getElem?_modify, this]
theorem take_putCells7 (h : F.size ≤ cur.size) : (putCells id 0 F cur).toList.take F.size = F.toList := by
  apply List.ext_getElem?
  intro j
  by_cases hj : j < F.size
  · rw [List.getElem?_take_of_lt hj, Array.getElem?_toList]
    simp [putCells, hj, show j < cur.size by omega]
  · rw [List.getElem?_take_eq_none (by omega), List.getElem?_eq_none (by simp; omega)]
end
/-- In order, equals let. -/
def leKy (a b : Ky) : Bool := !lessKy b a
theorem ltOf_cmpK (x y : Ky) : ltOf cmpK x y = lessKy x y := cmpK_less x y
theorem swo_cmpK : SWO (ltOf cmpK) where
  irrefl x := by rw [ltOf_cmpK]; exact lessKy_irrefl x
  trans x y z h1 h2 := by rw [ltOf_cmpK] at *; exact lessKy_trans h1 h2
  ntrans x y z h1 h2 := by
    rw [ltOf_cmpK] at *
    cases h : lessKy x z
    · rfl
    · have n1 : ¬ lessKy x y = true := by rw [h1]; decide
      have n2 : ¬ lessKy y z = true := by rw [h2]; decide
      rw [lessKy_iff] at n1 n2 h
      omega
theorem enters_cmp7 : ∀ args w, (callFunc 63 args).run Try.prog w = .ok (.enter 63 args) w := enters_of Try.func63 (by kernel_rfl) rfl
set_option maxHeartbeats 2000000 in
theorem sort_keys7 {w : World} {base n c : Nat} {A : Option Addr} {K : List Ky} (ho : w.ownsRow base 47 3 (.slice A n c) n (kyCells K)) (hn : n ≤ 1000) :
    Calls Try.prog 72 #[.slice A n c, .func (.func 63) #[] #[]] w
      fun e w' => e = .returned (.tuple #[]) ∧ w'.ownsRow base 47 3 (.slice A n c) n (kyCells (K.mergeSort leKy)) ∧ w.grownBy w' (Value.slice A n c).ownBlock := by
  have hl := ho.1
  rw [kyCells_length] at hl
  have hlK : K.length = n := by omega
  rcases ho.2 with ⟨hv, hn0⟩ | ⟨g, cap, cur, hv, hbase, hb, h1, h2, h3, h4⟩
  · injection hv with e1 e2 e3
    subst e1 e2 e3
    have hK : K = [] := List.eq_nil_of_length_eq_zero hlK
    subst hK
    refine (AnyF.slices_SortFunc_none { sortKy7 with } none 0 (.func (.func 63) #[] #[]) w).mono ?_
    rintro e w' ⟨rfl, rfl⟩
    exact ⟨rfl, by simpa using ho, ⟨rfl, rfl, rfl, Nat.le_refl _, fun _ _ _ => rfl⟩⟩
  · cases hv
    have hF : (flatK encKy 3 K.toArray) = (kyCells K).toArray := flat_ky K
    have hH : HoldsK encKy 3 w g 0 K.toArray := by
      unfold HoldsK
      rw [hF]
      refine holds7 hb ?_
      rw [List.size_toArray, kyCells_length, hlK, h4]
    have hcon := AnyQ.slices_SortFunc_total sortKy7 3 Try.isAgg47 Try.sizeOf47 encKy (fun _ => rfl) (fun x v hv => by simp [encKy] at hv; rcases hv with rfl | rfl | rfl <;> rfl) cmpK swo_cmpK 63 #[] g 0 c K.toArray w enters_cmp7 (fun _ _ _ _ x y => compare7 x y _) hH (Array.getElem?_eq_some_iff.1 hb).1 (by simp; omega) (fun x y h1 h2 => by
      rw [ltOf_cmpK] at h1 h2
      refine Classical.byContradiction fun h => ?_
      exact absurd (lessKy_total h1 h) (by rw [h2]; decide))
    have hle : (fun x y => !(ltOf cmpK) y x) = leKy := by
      funext x y
      rw [ltOf_cmpK]
      rfl
    rw [hle] at hcon
    simp only [List.size_toArray, hlK] at hcon
    refine Calls.mono hcon ?_
    rintro e w' ⟨rfl, m, os, rfl⟩
    unfold sortWorldK putRowK
    rw [flat_ky]
    have hls : (kyCells (K.mergeSort leKy)).length = n * 3 := by rw [kyCells_length, List.length_mergeSort, hlK]
    refine ⟨rfl, ⟨hls, .inr ⟨g, c, _, rfl, hbase, heap_sorted7 _ hb, h1, h2, by simp [putCells, h3], ?_⟩⟩, grownBy_sorted7 _⟩
    have h5 := take_putCells7 (cur := cur) (F := (kyCells (K.mergeSort leKy)).toArray) (by
      simp [hls, h3]
      omega)
    simpa [hls] using h5
end Go.Proofs.Ytnnkcgbnhjkahaa
namespace Go.Proofs.Ytnnkcgbnhjkahaa
open Go.RowKit
open Go.Maps (Keyed)

/-- Keys collected so far. -/
def Coll (D : DataW Value) (left : Lit → Bool) (ks : List Ky) : Prop :=
  (∀ k ∈ ks, wfKy k) ∧ ks.Pairwise (· ≠ ·) ∧ ∀ k, wfKy k → (k ∈ ks ↔ Maps.has D (kyLit k) = true ∧ left (kyLit k) = false)
theorem Coll.start (D : DataW Value) : Coll D (Maps.has D) [] :=
  ⟨fun k h => (by cases h), List.Pairwise.nil, fun k _ => ⟨fun h => (by cases h), fun h => by rw [h.1] at h; exact absurd h.2 (by decide)⟩⟩
theorem Coll.step {D : DataW Value} {left : Lit → Bool} {ks : List Ky} (h : Coll D left ks) {x : Ky} (hx : wfKy x) (hl : left (kyLit x) = true) {y : DataW Value} (hat : ∀ zd, D.atKey (kyLit x) zd = y) :
    Coll D (fun z => left z && !z.sameKey (kyLit x)) (ks ++ [x]) := by
  obtain ⟨h1, h2, h3⟩ := h
  have hh : Maps.has D (kyLit x) = true := Maps.has_true_of_atKey hat
  have hnx : x ∉ ks := fun hm => by
    have := ((h3 x hx).1 hm).2
    rw [hl] at this
    cases this
  refine ⟨fun k hk => ?_, ?_, fun k hk => ?_⟩
  · rcases List.mem_append.1 hk with hk | hk
    · exact h1 k hk
    · rw [List.mem_singleton.1 hk]
      exact hx
  · rw [List.pairwise_append]
    refine ⟨h2, List.pairwise_singleton _ _, fun a ha b hb e => ?_⟩
    rw [List.mem_singleton.1 hb] at e
    exact hnx (e ▸ ha)
  · rw [List.mem_append, List.mem_singleton]
    show k ∈ ks ∨ k = x ↔ _ ∧ (left (kyLit k) && !(kyLit k).sameKey (kyLit x)) = false
    rw [sameKey_ky hk hx]
    constructor
    · rintro (hk' | rfl)
      · obtain ⟨e1, e2⟩ := (h3 k hk).1 hk'
        exact ⟨e1, by rw [e2]; rfl⟩
      · exact ⟨hh, by rw [(sameKy_iff k k).2 rfl, hl]; rfl⟩
    · rintro ⟨e1, e2⟩
      cases hs : sameKy k x
      · rw [hs] at e2
        simp at e2
        exact .inl ((h3 k hk).2 ⟨e1, e2⟩)
      · exact .inr ((sameKy_iff _ _).1 hs)
theorem ky_ext : ∀ {A B : List Ky}, A.Pairwise (fun a b => lessKy a b = true) → B.Pairwise (fun a b => lessKy a b = true) → (∀ x, x ∈ A ↔ x ∈ B) → A = B
  | [], B, _, _, h => by
    cases B with
    | nil => rfl
    | cons y T => exact absurd ((h y).2 (by simp)) (by simp)
  | x :: S, [], _, _, h => absurd ((h x).1 (by simp)) (by simp)
  | x :: S, y :: T, hs, ht, h => by
    obtain ⟨hs1, hs2⟩ := List.pairwise_cons.1 hs
    obtain ⟨ht1, ht2⟩ := List.pairwise_cons.1 ht
    have hxy : x = y := by
      rcases List.mem_cons.1 ((h x).1 (by simp)) with e | hx
      · exact e
      · rcases List.mem_cons.1 ((h y).2 (by simp)) with e | hy
        · exact e.symm
        · have := lessKy_trans (ht1 x hx) (hs1 y hy)
          rw [lessKy_irrefl] at this
          cases this
    subst hxy
    congr 1
    refine ky_ext hs2 ht2 (fun z => ?_)
    constructor
    · intro hz
      rcases List.mem_cons.1 ((h z).1 (by simp [hz])) with e | hz'
      · subst e
        have := hs1 z hz
        rw [lessKy_irrefl] at this
        cases this
      · exact hz'
    · intro hz
      rcases List.mem_cons.1 ((h z).2 (by simp [hz])) with e | hz'
      · subst e
        have := ht1 z hz
        rw [lessKy_irrefl] at this
        cases this
      · exact hz'
/-- What was collected, sorted, is the keys of the database. -/
theorem coll_sorted {ks : List Ky} {S : List La} (hn : ks.Pairwise (· ≠ ·)) (hm : ∀ k, k ∈ ks ↔ k ∈ S.map kyL) (hs : SortL S) : ks.mergeSort leKy = S.map kyL := by
  have hp := List.mergeSort_perm ks leKy
  have h1 : (ks.mergeSort leKy).Pairwise (fun a b => leKy a b = true) := List.pairwise_mergeSort (fun a b c h1 h2 => by
    unfold leKy at *
    simp at *
    cases h : lessKy c a
    · rfl
    · have n1 : ¬ lessKy b a = true := by rw [h1]; decide
      have n2 : ¬ lessKy c b = true := by rw [h2]; decide
      rw [lessKy_iff] at n1 n2 h
      omega) (fun a b => by
    unfold leKy
    cases h : lessKy b a
    · rfl
    · cases h2 : lessKy a b
      · rfl
      · have := lessKy_trans h h2
        rw [lessKy_irrefl] at this
        cases this) ks
  have h2 : (ks.mergeSort leKy).Pairwise (· ≠ ·) := (hp.pairwise_iff (fun {_ _} hne => Ne.symm hne)).2 hn
  refine ky_ext (h1.imp₂ (fun a b e1 e2 => ?_) h2) ?_ (fun k => (hp.mem_iff).trans (hm k))
  · unfold leKy at e1
    simp at e1
    exact lessKy_total e1 (Ne.symm e2)
  · rw [List.pairwise_map]
    exact hs
theorem coll_end {w : World} {b n : Nat} {R : List Rc} {T S : List La} {l : List (Lit × DataW Value)} {left : Lit → Bool} {ks : List Ky} {lo : Nat} (hM : MapIs w b R) (hp : l.Perm (R.map rcE)) (hA : All2 (RcIs w lo) R T) (hT : T.Perm S) (hC : Coll (.map l) left ks) (hl0 : ∀ kl, left kl = false) (hs : SortL S) (hn : ks.length + n ≤ R.length) :
    ks.mergeSort leKy = S.map kyL ∧ ks.length ≤ S.length := by
  obtain ⟨h1, h2, h3⟩ := hC
  have hl : R.length = S.length := hA.1.trans hT.length_eq
  refine ⟨coll_sorted h2 (fun k => ?_) hs, by omega⟩
  have mem : (∃ r ∈ R, keyH r.h = k) ↔ k ∈ S.map kyL := by
    rw [List.mem_map]
    constructor
    · rintro ⟨r, hr, rfl⟩
      obtain ⟨x, hx, hq⟩ := all2_mem hA hr
      exact ⟨x, hT.mem_iff.1 hx, by unfold kyL; rw [hq.1]⟩
    · rintro ⟨x, hx, rfl⟩
      obtain ⟨j, hj⟩ := List.getElem?_of_mem (hT.mem_iff.2 hx)
      obtain ⟨r, hr, hq⟩ := hA.at' hj
      exact ⟨r, List.mem_of_getElem? hr, by unfold kyL; rw [hq.1]⟩
  rw [← mem]
  constructor
  · intro hk
    have hw := h1 k hk
    have hh := ((h3 k hw).1 hk).1
    cases hg : getR R k with
    | none =>
      have := ((map_at hM.1 hM.nodup hp hw).1 .nil hg).2
      rw [hh] at this
      cases this
    | some r => exact ⟨r, getR_some hg⟩
  · rintro ⟨r, hr, rfl⟩
    have hw := hM.1 r hr
    refine (h3 _ hw).2 ⟨?_, hl0 _⟩
    cases hg : getR R (keyH r.h) with
    | none => exact absurd rfl (getR_none hg r hr)
    | some r' => exact ((map_at hM.1 hM.nodup hp hw).2 r' .nil hg).2
end Go.Proofs.Ytnnkcgbnhjkahaa
namespace Go.Proofs.Ytnnkcgbnhjkahaa
open Go.RowKit
open Go.Maps (Keyed)

set_option maxRecDepth 20000 in
set_option maxHeartbeats 8000000 in
theorem keys_db {w : World} {lo p : Nat} {room : Int} {S : List La} {F : Nat → Prop} (h : PDb w lo p room S F) (hs : SortL S) : Calls Try.prog 51 #[.pointer (some ⟨p, 0, none⟩)] w
    fun e w' => ∃ (A : Option Addr) (n c : Nat), e = .returned (.slice A n c) ∧ Below w.heap.size w w' ∧ w'.ownsRow w.heap.size 47 3 (.slice A n c) n (kyCells (S.map kyL)) := by
  obtain ⟨b, R, T, hB, h1, h2, hM, hA, hp, h3, h4, h5, hF⟩ := h
  generalize hQ : (fun (e : Ending) (w' : World) => ∃ (A : Option Addr) (n c : Nat), e = .returned (.slice A n c) ∧ Below w.heap.size w w' ∧ w'.ownsRow w.heap.size 47 3 (.slice A n c) n (kyCells (S.map kyL))) = Q
  have HQ := Lib.hid hQ
  clear hQ
  have HE := Lib.hid (show ∀ (l : List (Lit × DataW Value)) (left : Lit → Bool) (ks : List Ky) (n : Nat), l.Perm (R.map rcE) → Coll (.map l) left ks → (∀ kl, left kl = false) → ks.length + n ≤ R.length → ks.mergeSort leKy = S.map kyL ∧ ks.length ≤ S.length from fun l left ks n e1 e2 e3 e4 => coll_end hM e1 hA hp e2 e3 hs e4)
  have HRL := Lib.hid (show R.length ≤ 40 by have := hA.1.trans hp.length_eq; omega)
  have hbl := hM.lt
  have HBLT := Lib.hid hbl
  obtain ⟨hw, l, ho, hpm⟩ := hM
  have HPM := Lib.hid hpm
  have HO := Lib.hid ho
  have c1 := hB.cell 1
  simp at c1
  clear hw hpm ho hB h1 h2 hA hp h3 h4 h5 hF hbl
  go_enter Try.func51, Try.ntmps51
  go_wp2_with (first
    | (at_range; refine wpList_range_own _ rfl _ 83 rfl 47 62 keyed7 Try.underlying83 asIs b R.length _ rfl HO.out ?_; intro w0 hrg0 hg0 hs0)
    | go_in)
  go_frame
  have HG0 := Lib.hid hg0
  have HS0 := Lib.hid hs0
  clear hg0 hs0
  go_loopw [3] (fun s3 wr => ∃ (A : Option Addr) (n c : Nat) (ks : List Ky) (left : Lit → Bool) (cnt : Nat), s3 = .slice A n c ∧ Hid (wr.ranges Try.prog 47 asIs b w.heap.size R.length (.map l) left cnt) ∧ Hid (wr.ownsRow (w.heap.size + 1) 47 3 (.slice A n c) n (kyCells ks)) ∧ Hid (Below w.heap.size w wr) ∧ Hid (Coll (.map l) left ks) ∧ Hid (ks.length + cnt ≤ R.length) ∧ Hid (w.heap.size + 1 ≤ wr.heap.size))
    (fun _ wr => wr.rangeLeft b w.heap.size)
  case atStart =>
    have hsz : Maps.size (DataW.map l) = R.length := by
      rw [Maps.size_eq, HPM.out.length_eq, List.length_map]
    refine ⟨none, 0, 0, [], _, _, rfl, Lib.hid hrg0, Lib.hid (World.ownsRow_nil _ _ _ _), Lib.hid ?_, Lib.hid (Coll.start _), Lib.hid (by rw [hsz]; simp), Lib.hid (by have := HS0.out; omega)⟩
    exact ⟨HG0.out.os, HG0.out.tape, HG0.out.output, HG0.out.size, fun k hk => HG0.out.block k hk (by simp)⟩
  case round =>
    obtain ⟨A, n, c, ks, left, cnt, rfl, HRG, HOW, HBW, HC, HN, HZ⟩ := hrel
    go_wp2_with (first
      | (at_next; refine wpList_next_ranges _ rfl _ rfl 47 keyed7 asIs (fun k : Ky => .agg #[.int .i64 k.kind, .int .i64 k.id, .int .i64 k.adv]) (fun v : Value => v) (fun key kl hk => by obtain ⟨k, _, e, _⟩ := keyOf_ky_inv hk; exact ⟨k, e⟩) (fun v y _ => ⟨v, rfl⟩) b w.heap.size R.length _ _ _ rfl HRG.out ?_ ?_)
      | go_in)
    · intro _ hl0
      have HL0 := Lib.hid hl0
      clear hl0
      obtain ⟨e1, e2⟩ := HE.out l left ks cnt HPM.out HC.out HL0.out HN.out
      have hnk := HOW.out.1
      rw [kyCells_length] at hnk
      have HN1 := Lib.hid (show n ≤ 1000 by have := HRL.out; have := HN.out; omega)
      have HE1 := Lib.hid e1
      clear e1 e2 hnk
      go_wp2_with fail
      refine (sort_keys7 HOW.out HN1.out).mono ?_
      rintro e ws ⟨rfl, hos, hgs⟩
      rw [HE1.out] at hos
      have HOS := Lib.hid (own_low hos (Nat.le_succ _))
      have HBS := Lib.hid (HBW.out.grown hgs HBW.out.size (fun j hj => by have := (HOW.out.lt j hj).1; omega))
      clear hos hgs
      go_wp2
      show Q (.returned (.slice A n c)) ws
      rw [← HQ.out]
      exact ⟨A, n, c, rfl, HBS.out, HOS.out⟩
    · intro x cv kl yd yp w1 cnt1 hkey hlk hv hat hrg1 hlt hg1 hs1 hen
      obtain ⟨x', wx, ex, rfl⟩ := keyOf_ky_inv hkey
      obtain rfl : x = x' := by
        obtain ⟨a1, a2, a3⟩ := x
        obtain ⟨b1, b2, b3⟩ := x'
        simp at ex
        simp [ex]
      have HC2 := Lib.hid (HC.out.step wx hlk hat)
      have hnk := HOW.out.1
      rw [kyCells_length] at hnk
      have HN1 := Lib.hid (show n ≤ 1000 ∧ ks.length + 1 + cnt1 ≤ R.length ∧ ks.length = n by have := HRL.out; have := HN.out; omega)
      have HR1 := Lib.hid hrg1
      have HO1 := Lib.hid (HOW.out.kept hg1 (.inr (own_not HOW.out (.inl (Nat.lt_succ_self _)))))
      have HB1 := Lib.hid (HBW.out.grown hg1 HBW.out.size (fun j hj => by cases hj; exact Nat.le_refl _))
      have HZ1 := Lib.hid (show w.heap.size + 1 ≤ w1.heap.size by rw [hs1]; exact HZ.out)
      have HLT := Lib.hid hlt
      clear hkey hlk hv hat hrg1 hlt hg1 hs1 hnk ex
      go_wp2_with (first
        | (at_builtin; refine wpList_append_any rfl (.tmp 16) (.tmp 18) 42 47 (.agg #[.int .i64 0, .int .i64 0, .int .i64 0]) 3 24 Try.underlying42 Try.infoKey rfl (by decide) (by decide) rfl (w.heap.size + 1) (.slice A n c) n (kyCells ks) (by rfl) ((HO1.out.alloc _).alloc _) (some ⟨w1.heap.size + 1, 0, none⟩) 1 1 [.int .i64 x.kind, .int .i64 x.id, .int .i64 x.adv] (by rfl) (by rfl) (fun h => by cases h) (by have hn := news_new (w1.alloc (.cells #[.int .i64 x.kind, .int .i64 x.id, .int .i64 x.adv] 47)) 47 [.int .i64 x.kind, .int .i64 x.id, .int .i64 x.adv]; rwa [World.size_alloc] at hn) (fun u hu => kyCells_ones [x] u (by rw [kyCells_cons, List.mem_append]; exact .inl hu)) (by have := HN1.out; omega) (by have := HZ1.out; simp; omega) ?_; intro v2 w2 ho2 hg2)
        | go_in)
      obtain ⟨A2, c2, rfl⟩ := own_slice ho2.out
      have hg3 := hg2.out
      have ne1 : some b ≠ (Value.slice A n c).ownBlock := Ne.symm (own_not HO1.out (.inl (by have := HBLT.out; omega)))
      have ne2 : some w.heap.size ≠ (Value.slice A n c).ownBlock := Ne.symm (own_not HO1.out (.inl (Nat.lt_succ_self _)))
      have HR2 := Lib.hid (((HR1.out.alloc (.cells #[.int .i64 x.kind, .int .i64 x.id, .int .i64 x.adv] 47)).alloc (.cells #[.int .i64 x.kind, .int .i64 x.id, .int .i64 x.adv] 47)).kept hg3 ne1 ne2)
      have HB2 := Lib.hid (((HB1.out.alloc HB1.out.size (.cells #[.int .i64 x.kind, .int .i64 x.id, .int .i64 x.adv] 47)).alloc (by have := HB1.out.size; simp; omega) (.cells #[.int .i64 x.kind, .int .i64 x.id, .int .i64 x.adv] 47)).grown hg3 (by have := HB1.out.size; simp; omega) (fun j hj => by have := (HO1.out.lt j hj).1; omega))
      have HZ2 := Lib.hid (show w.heap.size + 1 ≤ w2.heap.size by have := hg3.size; have := HZ1.out; simp at *; omega)
      have HO2 := Lib.hid (show w2.ownsRow (w.heap.size + 1) 47 3 (.slice A2 (n + 1) c2) (n + 1) (kyCells (ks ++ [x])) by rw [kyCells_append]; exact ho2.out)
      clear hg3 ne1 ne2 ho2 hg2
      refine ⟨⟨A2, n + 1, c2, ks ++ [x], _, cnt1, rfl, HR2, HO2, HB2, HC2, Lib.hid (by have := HN1.out; simp; omega), HZ2⟩, ?_⟩
      rw [HR2.out.left_eq, HRG.out.left_eq]
      exact HLT.out
end Go.Proofs.Ytnnkcgbnhjkahaa
