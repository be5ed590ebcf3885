/- The walk of the statement DbActs, of any database that does what it must. Conditions: the slice reads as acts. -/
import Derived.Test.YtiibefgdlmjdgaaJao
namespace Go.Proofs.Ytiibefgdlmjdgaa
open Go.RowKit

theorem RefDb.low {w : World} {lo lo' g : Nat} {room : Int} {S : List La} {F : Nat → Prop} (h : RefDb w lo g room S F) (hl : lo' ≤ lo) : RefDb w lo' g room S F := by
  obtain ⟨A, n, c, R, hB, hlo, hO, hA, h1, h2, h3, h4, hF⟩ := h
  exact ⟨A, n, c, R, hB, by omega, own_low hO hl, all2_imp hA (fun r _ x hx => hx.mono hl), h1, h2, h3, h4, hF⟩
theorem RefDb.sort {w : World} {lo g : Nat} {room : Int} {S : List La} {F : Nat → Prop} (h : RefDb w lo g room S F) : SortL S := by
  obtain ⟨A, n, c, R, hB, hlo, hO, hA, h1, h2, h3, h4, hF⟩ := h
  exact h1
theorem RefDb.right {w : World} {lo g : Nat} {room : Int} {S : List La} {F : Nat → Prop} (h : RefDb w lo g room S F) : ∀ x ∈ S, rightB x.h x.L x.M = true := by
  obtain ⟨A, n, c, R, hB, hlo, hO, hA, h1, h2, h3, h4, hF⟩ := h
  exact h4
/-- Two databases that hold the same, apart from each other, in memory from lo on. -/
def Both (Dv : World → Nat → Nat → Int → List La → (Nat → Prop) → Prop) (lo p g : Nat) (room : Int) (B : Nat) (w : World) (S : List La) : Prop :=
  ∃ F F', Dv w lo p room S F ∧ RefDb w lo g room S F' ∧ (∀ q, F q → ¬ F' q) ∧ (∀ q, F q → q < B) ∧ (∀ q, F' q → q < B) ∧ lo ≤ w.heap.size

theorem Both.below {Dv : World → Nat → Nat → Int → List La → (Nat → Prop) → Prop} (D : DevOk Dv) {lo p g : Nat} {room : Int} {B : Nat} {w w' : World} {S : List La} (h : Both Dv lo p g room B w S) (hb : Below w.heap.size w w') : Both Dv lo p g room B w' S := by
  obtain ⟨F, F', h1, h2, h3, h4, h5, h6⟩ := h
  have hcg : Chg (fun _ => False) w w' := Chg.of_below hb
  exact ⟨F, F', D.chg h1 hcg (fun _ _ hf => hf), h2.chg hcg (fun _ _ hf => hf), h3, h4, h5, Nat.le_trans h6 hb.size⟩

theorem act9 {w : World} {X : Nat} {a : Ac} {A1 : Option Addr} {n1 c1 : Nat} {A2 : Option Addr} {n2 c2 : Nat} (h : Blk w X 36 #[.int .i64 a.kind, .int .i64 a.x.h.age, .int .i64 a.x.h.kind, .int .i64 a.x.h.id, .int .i64 a.x.h.adv, .int .i64 a.x.h.seq, .int .i64 a.x.h.sum, .int .i64 a.x.h.long, .slice A1 n1 c1, .slice A2 n2 c2]) : w.cell? ⟨X, 1, none⟩ = some (.int .i64 a.x.h.age) ∧ w.cell? ⟨X, 2, none⟩ = some (.int .i64 a.x.h.kind) ∧ w.cell? ⟨X, 3, none⟩ = some (.int .i64 a.x.h.id) ∧ w.cell? ⟨X, 4, none⟩ = some (.int .i64 a.x.h.adv) ∧ w.cell? ⟨X, 5, none⟩ = some (.int .i64 a.x.h.seq) ∧ w.cell? ⟨X, 6, none⟩ = some (.int .i64 a.x.h.sum) ∧ w.cell? ⟨X, 7, none⟩ = some (.int .i64 a.x.h.long) ∧ w.cell? ⟨X, 8, none⟩ = some (.slice A1 n1 c1) ∧ w.cell? ⟨X, 9, none⟩ = some (.slice A2 n2 c2) :=
  ⟨h.cell 1, h.cell 2, h.cell 3, h.cell 4, h.cell 5, h.cell 6, h.cell 7, h.cell 8, h.cell 9⟩
theorem la_range {w : World} {B b p : Nat} {h : Hd} {A A' : Option Addr} {n c n' c' : Nat} (hh : HdAt w B b p h) (h7 : w.cell? ⟨b, p + 7, none⟩ = some (.slice A n c)) (h8 : w.cell? ⟨b, p + 8, none⟩ = some (.slice A' n' c')) : w.rangeAt b p [.int .i64 h.age, .int .i64 h.kind, .int .i64 h.id, .int .i64 h.adv, .int .i64 h.seq, .int .i64 h.sum, .int .i64 h.long, .slice A n c, .slice A' n' c'] := by
  obtain ⟨h0, h1, h2, h3, h4, h5, h6⟩ := hh
  intro j v hj
  match j, hj with
  | 0, hj => cases hj; exact h0
  | 1, hj => cases hj; exact h1
  | 2, hj => cases hj; exact h2
  | 3, hj => cases hj; exact h3
  | 4, hj => cases hj; exact h4
  | 5, hj => cases hj; exact h5
  | 6, hj => cases hj; exact h6
  | 7, hj => cases hj; exact h7
  | 8, hj => cases hj; exact h8
theorem World.rangeAt.below7 {w w' : World} {B b p : Nat} {cs : List Value} (h : w.rangeAt b p cs) (hb : Below B w w') (hlt : b < B) : w'.rangeAt b p cs := fun j v hj => (hb.cell (p := ⟨b, p + j, none⟩) hlt).trans (h j v hj)
theorem blk_range7 {w : World} {g : Nat} {t : TypeId} {cs : Array Value} (h : Blk w g t cs) : w.rangeAt g 0 cs.toList := fun j v hj => by
  have := h.cell j
  rw [Nat.zero_add, this]
  simpa using hj
/-- Both have been through the same. -/
theorem both_after {Dv : World → Nat → Nat → Int → List La → (Nat → Prop) → Prop} (D : DevOk Dv) {lo p g : Nat} {room : Int} {w wa wb : World} {S' : List La} {F F' Fa Fb : Nat → Prop} (hF' : ∀ q, F' q → q < w.heap.size) (hd : ∀ q, F q → ¬ F' q) (hlo : lo ≤ w.heap.size)
    (ha : Dv wa lo p room S' Fa) (ga : ∀ q, Fa q → F q ∨ w.heap.size ≤ q) (ca : Chg F w wa) (hb : RefDb wb lo g room S' Fb) (gb : ∀ q, Fb q → F' q ∨ wa.heap.size ≤ q) (cb : Chg F' wa wb) : Both Dv lo p g room wb.heap.size wb S' := by
  have hda : ∀ q, Fa q → ¬ F' q := fun q h1 h2 => by
    rcases ga q h1 with h3 | h3
    · exact hd q h3 h2
    · have := hF' q h2
      omega
  refine ⟨Fa, Fb, D.chg ha cb hda, hb, fun q h1 h2 => ?_, fun q h1 => ?_, fun q h1 => (hb.foot h1).2, ?_⟩
  · rcases gb q h2 with h3 | h3
    · exact hda q h1 h3
    · have := (D.foot ha h1).2
      omega
  · have := (D.foot ha h1).2
    have := cb.size
    omega
  · have := ca.size
    have := cb.size
    omega

set_option maxRecDepth 100000 in
set_option maxHeartbeats 16000000 in
theorem acts_walk {Dv : World → Nat → Nat → Int → List La → (Nat → Prop) → Prop} (D : DevOk Dv) (room : Int) (A : Option Addr) (n c : Nat) (T : List Ac) (w : World) (hT : Acs w w.heap.size A n T) (hn : n ≤ maxLen) :
    Calls Try.prog 3 #[.int .i64 room, .slice A n c] w fun e w' => e = .returned (.bool true) ∧ Below w.heap.size w w' := by
  have HT := Lib.hid hT
  have HN := Lib.hid hn
  unfold maxLen at hn
  clear hT
  go_enter Try.func3, Try.ntmps3
  go_wp2_with fail
  refine (wakes_dev D _).mono ?_
  rintro e1 w1 ⟨rfl, hb1⟩
  have B1 := Lib.hid hb1
  have hs1 := hb1.size
  clear hb1
  go_wp2_with fail
  refine (great_any A n c T w.heap.size _ (HT.out.below B1.out) hs1 HN.out).mono ?_
  rintro e2 w2 ⟨⟨t, rfl, ht⟩, hb2⟩
  have B2 := Lib.hid (B1.out.trans (hb2.mono hs1))
  have hs2 := B2.out.size
  clear hb2 B1
  cases t
  case true =>
    clear ht
    go_wp2
    go_ret
    exact ⟨rfl, B2.out⟩
  obtain ⟨hn100, hsm⟩ := ht rfl
  have HSM := Lib.hid hsm
  clear ht hsm
  go_wp2_with fail
  refine (D.new room _).mono ?_
  rintro e3 w3 ⟨p, F3, rfl, hb3, hd3⟩
  have HD3 := Lib.hid hd3
  have B3 := Lib.hid (B2.out.trans (hb3.mono hs2))
  have hs23 := hb3.size
  clear hd3 hb3
  go_wp2_with fail
  refine (r7New_db room _).mono ?_
  rintro e4 w4 ⟨rfl, hb4, F4, hd4⟩
  have HBo := Lib.hid (show Both Dv w2.heap.size p w3.heap.size (roomOf room) w4.heap.size w4 [] from
    ⟨F3, F4, D.chg HD3.out (F' := fun _ => False) (Chg.of_below hb4) (fun _ _ hf => hf), hd4.low hs23, fun q h1 h2 => by
      have := (D.foot HD3.out h1).2
      have := (hd4.foot h2).1
      omega, fun q h1 => by
      have := (D.foot HD3.out h1).2
      have := hb4.size
      omega, fun q h1 => (hd4.foot h1).2, by have := hb4.size; omega⟩)
  have B4 := Lib.hid (B3.out.trans (hb4.mono (by omega)))
  have hs34 := hb4.size
  clear hb4 hd4 B3 HD3
  go_wp2_with fail
  go_loopw [23] (fun i wr => ∃ (k : Nat) (S : List La), k ≤ n ∧ i = .int .i64 k ∧ Hid (Both Dv w2.heap.size p w3.heap.size (roomOf room) wr.heap.size wr S) ∧ Hid (Below w2.heap.size w4 wr)) (fun i _ => n - (intOf i).toNat)
  case atStart => exact ⟨0, [], Nat.zero_le _, rfl, HBo, Lib.hid (Below.refl _ _)⟩
  case round =>
  obtain ⟨k, S, hk, rfl, HB, hb⟩ := hrel
  have hsz := hb.out.size
  have Br := Lib.hid (B4.out.trans (hb.out.mono hs2))
  by_cases hlt0 : ¬ k < n
  · go_wp2
    go_ret
    exact ⟨rfl, Br.out⟩
  have hlt : k < n := by omega
  clear hlt0
  obtain ⟨b, o, a, rfl, hbb, hx, hat⟩ := Arr.at (HT.out.below Br.out) hlt
  obtain ⟨hwf, A1, n1, c1, A2, n2, c2, hr, hL, hM, hn1, hn2⟩ := hat
  have hsma := HSM.out a (List.mem_of_getElem? hx)
  have hl1 := hL.1
  have hl2 := hM.1
  have HL := Lib.hid hL
  have HM := Lib.hid hM
  have HR := Lib.hid hr
  have HW := Lib.hid hwf
  clear hx hr hL hM hwf
  have hlt' : (k : Int) < n := by omega
  have KX := Lib.hid (Blk.new wr 36 #[.int .i64 a.kind, .int .i64 a.x.h.age, .int .i64 a.x.h.kind, .int .i64 a.x.h.id, .int .i64 a.x.h.adv, .int .i64 a.x.h.seq, .int .i64 a.x.h.sum, .int .i64 a.x.h.long, .slice A1 n1 c1, .slice A2 n2 c2])
  have BN := Lib.hid (hb.out.alloc (by omega) (.cells #[.int .i64 a.kind, .int .i64 a.x.h.age, .int .i64 a.x.h.kind, .int .i64 a.x.h.id, .int .i64 a.x.h.adv, .int .i64 a.x.h.seq, .int .i64 a.x.h.sum, .int .i64 a.x.h.long, .slice A1 n1 c1, .slice A2 n2 c2] 36))
  go_upto_region 9 with (refine wpList_load_row 36 _ _ (by rfl) (.tmp 25) rfl (by rfl) HR.out Try.underlying36 rfl (by kernel_rfl) ?_)
  have HB5 := Lib.hid (show Both Dv w2.heap.size p w3.heap.size (roomOf room) wr.heap.size (wr.alloc (.cells #[.int .i64 a.kind, .int .i64 a.x.h.age, .int .i64 a.x.h.kind, .int .i64 a.x.h.id, .int .i64 a.x.h.adv, .int .i64 a.x.h.seq, .int .i64 a.x.h.sum, .int .i64 a.x.h.long, .slice A1 n1 c1, .slice A2 n2 c2] 36)) S from by
    obtain ⟨F, F', h1, h2, h3, h4, h5, h6⟩ := HB.out
    have hcg : Chg (fun _ => False) wr (wr.alloc (.cells #[.int .i64 a.kind, .int .i64 a.x.h.age, .int .i64 a.x.h.kind, .int .i64 a.x.h.id, .int .i64 a.x.h.adv, .int .i64 a.x.h.seq, .int .i64 a.x.h.sum, .int .i64 a.x.h.long, .slice A1 n1 c1, .slice A2 n2 c2] 36)) := Chg.of_below ((Below.refl _ _).alloc (Nat.le_refl _) _)
    exact ⟨F, F', D.chg h1 hcg (fun _ _ hf => hf), h2.chg hcg (fun _ _ hf => hf), h3, h4, h5, by simp; omega⟩)
  have hX : ∃ X, wr.heap.size = X := ⟨_, rfl⟩
  obtain ⟨X, hX⟩ := hX
  rw [hX] at KX HB5 hsz
  generalize hw5 : wr.alloc (.cells #[.int .i64 a.kind, .int .i64 a.x.h.age, .int .i64 a.x.h.kind, .int .i64 a.x.h.id, .int .i64 a.x.h.adv, .int .i64 a.x.h.seq, .int .i64 a.x.h.sum, .int .i64 a.x.h.long, .slice A1 n1 c1, .slice A2 n2 c2] 36) = w5 at *
  rw [hX]
  have hlX := KX.out.lt
  have hs5 : wr.heap.size ≤ w5.heap.size := by omega
  clear hw5
  have k1 := KX.out.cell 1
  have k2 := KX.out.cell 2
  have k3 := KX.out.cell 3
  have k4 := KX.out.cell 4
  have k5 := KX.out.cell 5
  have k6 := KX.out.cell 6
  have k7 := KX.out.cell 7
  go_wp2_with fail
  refine (keyOf_any a.x.h _).mono ?_
  rintro e6 w6 ⟨rfl, hb6⟩
  have KX6 := Lib.hid (KX.out.below hb6 hlX)
  have HB6 := Lib.hid (HB5.out.below D hb6)
  have BN6 := Lib.hid (BN.out.trans (hb6.mono (show w2.heap.size ≤ w5.heap.size by omega)))
  have hs6 := hb6.size
  clear hb6 k1 k2 k3 k4 k5 k6 k7 KX HB5 BN
  go_upto_region 10 with fail
  have KY := Lib.hid (Blk.new w6 38 #[.int .i64 a.x.h.kind, .int .i64 a.x.h.id, .int .i64 a.x.h.adv])
  have hb7 := Below.alloc (Below.refl w6.heap.size w6) (Nat.le_refl _) (.cells #[.int .i64 a.x.h.kind, .int .i64 a.x.h.id, .int .i64 a.x.h.adv] 38)
  have KX7 := Lib.hid (KX6.out.below hb7 KX6.out.lt)
  have HB7 := Lib.hid (HB6.out.below D hb7)
  have BN7 := Lib.hid (BN6.out.trans (hb7.mono (show w2.heap.size ≤ w6.heap.size by omega)))
  have hs7 := hb7.size
  obtain ⟨Y, hY⟩ : ∃ Y, w6.heap.size = Y := ⟨_, rfl⟩
  rw [hY] at KY
  have hXY : X < Y := by omega
  clear hb7 KX6 HB6 BN6
  generalize w6.alloc (.cells #[.int .i64 a.x.h.kind, .int .i64 a.x.h.id, .int .i64 a.x.h.adv] 38) = w7 at *
  rw [hY]
  have hlY := KY.out.lt
  have k0 := KX7.out.cell 0
  go_cut [32] (fun s32 wx => s32 = .int .i64 a.kind ∧ w7 = wx)
  case first =>
    go_wp2_with fail
    go_meet
    exact ⟨rfl, rfl⟩
  case rest =>
  obtain ⟨rfl, rfl⟩ := hcut
  go_step
  go_cut [32] (fun s32 wx => ∃ S' : List La, s32 = .int .i64 a.kind ∧ Hid (Both Dv w2.heap.size p w3.heap.size (roomOf room) wx.heap.size wx S') ∧ Hid (Blk wx Y 38 #[.int .i64 a.x.h.kind, .int .i64 a.x.h.id, .int .i64 a.x.h.adv]) ∧ Hid (Below w2.heap.size w4 wx))
  case first =>
    obtain ⟨F, F', hdv, hrf, hdis, hFX, hFX', hlo⟩ := HB7.out
    have HD7 := Lib.hid hdv
    have HF7 := Lib.hid hrf
    have hlow := Lib.hid (show ∀ q, F q → w2.heap.size ≤ q from fun q h => (D.foot hdv h).1)
    have hlow' := Lib.hid (show ∀ q, F' q → w2.heap.size ≤ q from fun q h => (hrf.foot h).1)
    have HDIS := Lib.hid hdis
    have HFX := Lib.hid hFX
    have HFX' := Lib.hid hFX'
    clear hdv hrf hdis hFX hFX' k0
    have Bw7 := Lib.hid (B4.out.trans (BN7.out.mono hs2))
    have HL7 := Lib.hid ((HL.out.keep (fun q hq => (Br.out.cell hq).symm)).below Bw7.out)
    have HM7 := Lib.hid ((HM.out.keep (fun q hq => (Br.out.cell hq).symm)).below Bw7.out)
    have BRd : Below w7.heap.size w7 w7.drew := ⟨rfl, rfl, rfl, Nat.le_refl _, fun _ _ => rfl⟩
    have HDd := Lib.hid (D.chg HD7.out (F' := fun _ => False) (Chg.of_below BRd) (fun _ _ hf => hf))
    have HRd := Lib.hid (HF7.out.chg (F' := fun _ => False) (Chg.of_below BRd) (fun _ _ hf => hf))
    have hXd : Blk w7.drew X 36 #[.int .i64 a.kind, .int .i64 a.x.h.age, .int .i64 a.x.h.kind, .int .i64 a.x.h.id, .int .i64 a.x.h.adv, .int .i64 a.x.h.seq, .int .i64 a.x.h.sum, .int .i64 a.x.h.long, .slice A1 n1 c1, .slice A2 n2 c2] := KX7.out
    have hYd : Blk w7.drew Y 38 #[.int .i64 a.x.h.kind, .int .i64 a.x.h.id, .int .i64 a.x.h.adv] := KY.out
    have HFXs := Lib.hid (show ∀ q, F' q → q < w7.drew.heap.size from fun q h => by have := HFX'.out q h; exact Nat.lt_of_lt_of_le this (by show X ≤ w7.heap.size; omega))
    have HFXw := Lib.hid (show ∀ q, F' q → q < w7.heap.size from fun q h => by have := HFX'.out q h; omega)
    have HSR := Lib.hid HF7.out.sort
    have HRR := Lib.hid HF7.out.right
    have Bw7 := Lib.hid (B4.out.trans (BN7.out.mono hs2))
    have HL7 := Lib.hid ((HL.out.keep (fun q hq => (Br.out.cell hq).symm)).below Bw7.out)
    have HM7 := Lib.hid ((HM.out.keep (fun q hq => (Br.out.cell hq).symm)).below Bw7.out)
    have BRd : Below w7.heap.size w7 w7.drew := ⟨rfl, rfl, rfl, Nat.le_refl _, fun _ _ => rfl⟩
    have HDd := Lib.hid (D.chg HD7.out (F' := fun _ => False) (Chg.of_below BRd) (fun _ _ hf => hf))
    have HRd := Lib.hid (HF7.out.chg (F' := fun _ => False) (Chg.of_below BRd) (fun _ _ hf => hf))
    have hXd : Blk w7.drew X 36 #[.int .i64 a.kind, .int .i64 a.x.h.age, .int .i64 a.x.h.kind, .int .i64 a.x.h.id, .int .i64 a.x.h.adv, .int .i64 a.x.h.seq, .int .i64 a.x.h.sum, .int .i64 a.x.h.long, .slice A1 n1 c1, .slice A2 n2 c2] := KX7.out
    have hYd : Blk w7.drew Y 38 #[.int .i64 a.x.h.kind, .int .i64 a.x.h.id, .int .i64 a.x.h.adv] := KY.out
    have HFXs := Lib.hid (show ∀ q, F' q → q < w7.drew.heap.size from fun q h => by have := HFX'.out q h; exact Nat.lt_of_lt_of_le this (by show X ≤ w7.heap.size; omega))
    have HSR := Lib.hid HF7.out.sort
    have HRR := Lib.hid HF7.out.right
    by_cases h0 : a.kind = 0
    · have d0 : (a.kind == 0) = true := by simp [h0]
      clear h0
      go_upto_region 12 with fail
      go_region_held3 (fun w' => w'.cell? ⟨X, 1, none⟩ = some (.int .i64 a.x.h.age) ∧ w'.cell? ⟨X, 2, none⟩ = some (.int .i64 a.x.h.kind) ∧ w'.cell? ⟨X, 3, none⟩ = some (.int .i64 a.x.h.id) ∧ w'.cell? ⟨X, 4, none⟩ = some (.int .i64 a.x.h.adv) ∧ w'.cell? ⟨X, 5, none⟩ = some (.int .i64 a.x.h.seq) ∧ w'.cell? ⟨X, 6, none⟩ = some (.int .i64 a.x.h.sum) ∧ w'.cell? ⟨X, 7, none⟩ = some (.int .i64 a.x.h.long) ∧ w'.cell? ⟨X, 8, none⟩ = some (.slice A1 n1 c1) ∧ w'.cell? ⟨X, 9, none⟩ = some (.slice A2 n2 c2)) (first | with_reducible exact act9 hXb | with_reducible exact act9 hXa | with_reducible exact act9 hXd)
        (first
          | (go_at_call 14; refine (D.put HDd.out HSR.out hlo a.x.h a.x.L a.x.M A1 A2 n1 c1 n2 c2 w.heap.size (HL7.out.drewN 1) (HM7.out.drewN 1) hs2 (by omega) (by omega)).mono ?_; rintro ea wa ⟨rfl, Fa, hda, hca, hga⟩; have hRa := HRd.out.chg hca (fun q h1 h2 => HDIS.out q h2 h1); have hXa := hXd.chg hca (fun h => Nat.lt_irrefl _ (HFX.out X h)); have hYa := hYd.chg hca (fun h => Nat.lt_irrefl _ (Nat.lt_trans hXY (HFX.out Y h))); have hLa := HL7.out.below (BRd.mono (Nat.le_trans hs2 hlo)) |>.below (hca.to_below (B := w.heap.size) (fun q h => Nat.le_trans hs2 (hlow.out q h)) (Nat.le_trans hs2 hlo)); have hMa := HM7.out.below (BRd.mono (Nat.le_trans hs2 hlo)) |>.below (hca.to_below (B := w.heap.size) (fun q h => Nat.le_trans hs2 (hlow.out q h)) (Nat.le_trans hs2 hlo)))
          | (go_at_call 15; refine (r7Put_db hRa (Nat.le_trans hlo hca.size) a.x.h a.x.L a.x.M A1 A2 n1 c1 n2 c2 w.heap.size hLa hMa hs2 (by omega) (by omega)).mono ?_; rintro eb wb ⟨rfl, Fb, hdb, hcb, hgb⟩; have hXb := hXa.chg hcb (fun h => Nat.lt_irrefl _ (HFX'.out X h))))
      have hbo := both_after D (w := w7.drew) HFXs.out HDIS.out (by exact hlo) hda hga hca hdb hgb hcb
      have hYb : Blk wb Y 38 #[.int .i64 a.x.h.kind, .int .i64 a.x.h.id, .int .i64 a.x.h.adv] := (hYa.chg hcb (fun h => by have := HFX'.out Y h; omega))
      have hBa := hca.to_below (B := w2.heap.size) hlow.out (by exact hlo)
      have hBb := hcb.to_below (B := w2.heap.size) hlow'.out (by have := hca.size; exact Nat.le_trans hlo this)
      have HBO := Lib.hid hbo
      have HYB := Lib.hid hYb
      have HBB := Lib.hid (BN7.out.trans ((BRd.mono hlo).trans (hBa.trans hBb)))
      clear hbo hYb hBa hBb hda hca hga hdb hcb hgb hXa hXb hYa hLa hMa hRa
      generalize putE (roomOf room) S ⟨a.x.h, a.x.L, a.x.M⟩ = ev at *
      have dev : (ev != ev) = false := by simp
      go_wp2_with fail
      go_meet
      exact ⟨_, rfl, HBO, HYB, HBB⟩
    · have d0 : (a.kind == 0) = false := by simp [h0]
      by_cases h1 : a.kind = 1
      · have d1 : (a.kind == 1) = true := by simp [h1]
        clear h0 h1
        go_upto_region 15 with fail
        go_region_held3 (fun w' => w'.cell? ⟨Y, 0, none⟩ = some (.int .i64 a.x.h.kind) ∧ w'.cell? ⟨Y, 1, none⟩ = some (.int .i64 a.x.h.id) ∧ w'.cell? ⟨Y, 2, none⟩ = some (.int .i64 a.x.h.adv)) (first | with_reducible exact hYb.three | with_reducible exact hYa.three | with_reducible exact hYd.three)
          (first
            | (go_at_call 16; refine (D.drop HDd.out HSR.out hlo ⟨a.x.h.kind, a.x.h.id, a.x.h.adv⟩ HW.out).mono ?_; rintro ea wa ⟨rfl, Fa, hda, hca, hga⟩; have hRa := HRd.out.chg hca (fun q h1 h2 => HDIS.out q h2 h1); have hYa := hYd.chg hca (fun h => Nat.lt_irrefl _ (Nat.lt_trans hXY (HFX.out Y h))))
            | (go_at_call 17; refine (r7Drop_db hRa (Nat.le_trans hlo hca.size) ⟨a.x.h.kind, a.x.h.id, a.x.h.adv⟩).mono ?_; rintro eb wb ⟨rfl, Fb, hdb, hcb, hgb⟩; have hYb := hYa.chg hcb (fun h => Nat.lt_irrefl _ (Nat.lt_trans hXY (HFX'.out Y h)))))
        have hbo := both_after D (w := w7.drew) HFXs.out HDIS.out (by exact hlo) hda hga hca hdb hgb hcb
        have hBa := hca.to_below (B := w2.heap.size) hlow.out (by exact hlo)
        have hBb := hcb.to_below (B := w2.heap.size) hlow'.out (by have := hca.size; exact Nat.le_trans hlo this)
        have HBO := Lib.hid hbo
        have HYB := Lib.hid hYb
        have HBB := Lib.hid (BN7.out.trans ((BRd.mono hlo).trans (hBa.trans hBb)))
        clear hbo hBa hBb hda hca hga hdb hcb hgb hYa hYb hRa
        generalize (getL S ⟨a.x.h.kind, a.x.h.id, a.x.h.adv⟩).isSome = ev at *
        have dev : (ev != ev) = false := by simp
        have dev2 : (!(ev == ev)) = false := by simp
        go_wp2_with fail
        go_meet
        exact ⟨_, rfl, HBO, HYB, HBB⟩
      · have d1 : (a.kind == 1) = false := by simp [h1]
        by_cases h2 : a.kind = 2
        · have d2 : (a.kind == 2) = true := by simp [h2]
          clear h0 h1 h2
          go_wp2_with fail
          refine (D.tick HD7.out HSR.out HRR.out hlo).mono ?_
          rintro ea wa ⟨Aa, ma, ca, rfl, hka, Fa, hda, hca, hga⟩
          have hRa := HF7.out.chg hca (fun q h1 h2 => HDIS.out q h2 h1)
          have hYa := KY.out.chg hca (fun h => Nat.lt_irrefl _ (Nat.lt_trans hXY (HFX.out Y h)))
          have HKa := Lib.hid hka
          have HRa := Lib.hid hRa
          have HCa := Lib.hid hca
          have HDa := Lib.hid hda
          have HGa := Lib.hid hga
          clear hka hRa hca hda hga
          go_wp2_with fail
          refine (r7Tick_db HRa.out).mono ?_
          rintro eb wb ⟨Ab, mb, cb, rfl, hkb, hmb, hcb', hdb, hcb⟩
          have hYb := hYa.chg hcb (fun h => Nat.lt_irrefl _ (Nat.lt_trans hXY (HFX'.out Y h)))
          have hoa := own_chg HKa.out hcb (fun q hq hf => by
            have h1 := (HKa.out.lt q hq).1
            have h2 := HFX'.out q hf
            omega)
          obtain ⟨ha1, ha2, ha3⟩ := tick_kys HRR.out hoa
          obtain rfl : ma = mb := ha1.1.symm.trans hkb.1
          have hbo := both_after D (w := w7) HFXw.out HDIS.out hlo HDa.out HGa.out HCa.out hdb (fun q h => .inl h) hcb
          have hBa := HCa.out.to_below (B := w2.heap.size) hlow.out hlo
          have hBb := hcb.to_below (B := w2.heap.size) hlow'.out (by have := HCa.out.size; omega)
          have HBO := Lib.hid hbo
          have HYB := Lib.hid hYb
          have HBB := Lib.hid (BN7.out.trans (hBa.trans hBb))
          have HKA := Lib.hid ha1
          have HKB := Lib.hid hkb
          have HMA := Lib.hid (Nat.le_trans ha2 ha3)
          have hsb := hbo.choose_spec.choose_spec.2.2.2.2.2
          clear hbo hBa hBb hYb hYa hdb hcb hkb hmb hcb' hoa ha1 ha2 ha3 HRa HDa HGa HCa HKa
          go_wp2_with fail
          refine (r7keys_yes Aa Ab ma ca cb _ _ (tickKeysL S) _ HKA.out HKB.out HMA.out).mono ?_
          rintro ec wc' ⟨rfl, dd, rfl⟩
          have hdr : Below wb.heap.size wb (wb.drewN dd) := below_drewN (Below.refl _ _) dd
          have HBO2 := Lib.hid (HBO.out.below D hdr)
          have HYB2 := Lib.hid (show Blk (wb.drewN dd) Y 38 #[.int .i64 a.x.h.kind, .int .i64 a.x.h.id, .int .i64 a.x.h.adv] from HYB.out)
          have HBB2 := Lib.hid (HBB.out.trans (hdr.mono hsb))
          clear hdr
          go_wp2_with fail
          go_meet
          exact ⟨_, rfl, HBO2, HYB2, HBB2⟩
        · have d2 : (a.kind == 2) = false := by simp [h2]
          clear h0 h1 h2
          have HBO := Lib.hid (show Both Dv w2.heap.size p w3.heap.size (roomOf room) w7.heap.size w7 S from ⟨F, F', HD7.out, HF7.out, HDIS.out, fun q h => (D.foot HD7.out h).2, fun q h => (HF7.out.foot h).2, hlo⟩)
          go_wp2_with fail
          go_meet
          exact ⟨_, rfl, HBO, KY, BN7⟩
  case rest =>
  obtain ⟨S', rfl, HBs, HYs, HBBs⟩ := hcut
  rename World => ws
  obtain ⟨F, F', hdv, hrf, hdj, -, -, hlo⟩ := HBs.out
  have HDJ := Lib.hid hdj
  clear hdj
  have HDs := Lib.hid hdv
  have HRs := Lib.hid hrf
  have HSS := Lib.hid hrf.sort
  have HRS := Lib.hid hrf.right
  have hBBsz := HBBs.out.size
  clear hdv hrf
  obtain ⟨y0, y1, y2⟩ := HYs.out.three
  go_wp2_with fail
  refine (D.get HDs.out HSS.out ⟨a.x.h.kind, a.x.h.id, a.x.h.adv⟩ HW.out).mono ?_
  rintro eg wg ⟨hbg, hget⟩
  have HDg := Lib.hid (D.chg HDs.out (F' := fun _ => False) (Chg.of_below hbg) (fun _ _ hf => hf))
  have HRg := Lib.hid (HRs.out.chg (F' := fun _ => False) (Chg.of_below hbg) (fun _ _ hf => hf))
  have KYg := Lib.hid (HYs.out.below hbg HYs.out.lt)
  have Bg := Lib.hid (HBBs.out.trans (hbg.mono hlo))
  have hlog : w2.heap.size ≤ wg.heap.size := Nat.le_trans hlo hbg.size
  clear hbg y0 y1 y2
  rcases hget with ⟨hno, rfl⟩ | ⟨x, Ag, ng, cg, Ag', ng', cg', hxs, rfl, hg1, hg2, hg3, hg4⟩
  · have HNO := Lib.hid hno
    clear hno
    have hbz := Below.alloc (Below.refl wg.heap.size wg) (Nat.le_refl _) (.cells #[.int .i64 0, .int .i64 0, .int .i64 0, .int .i64 0, .int .i64 0, .int .i64 0, .int .i64 0, .slice none 0 0, .slice none 0 0] 34)
    have HDz := Lib.hid (D.chg HDg.out (F' := fun _ => False) (Chg.of_below hbz) (fun _ _ hf => hf))
    have HRz := Lib.hid (HRg.out.chg (F' := fun _ => False) (Chg.of_below hbz) (fun _ _ hf => hf))
    have KYz := Lib.hid (KYg.out.below hbz KYg.out.lt)
    have KZ := Lib.hid (Blk.new wg 34 #[.int .i64 0, .int .i64 0, .int .i64 0, .int .i64 0, .int .i64 0, .int .i64 0, .int .i64 0, .slice none 0 0, .slice none 0 0])
    have Bz := Lib.hid (Bg.out.trans (hbz.mono hlog))
    go_upto_region 21 with fail
    have hbz2 := Lib.hid hbz
    clear hbz
    obtain ⟨Z, hZ⟩ : ∃ Z, wg.heap.size = Z := ⟨_, rfl⟩
    rw [hZ] at KZ
    generalize wg.alloc (.cells #[.int .i64 0, .int .i64 0, .int .i64 0, .int .i64 0, .int .i64 0, .int .i64 0, .int .i64 0, .slice none 0 0, .slice none 0 0] 34) = wz at *
    rw [hZ]
    have hloz : w2.heap.size ≤ wz.heap.size := by have := hbz2.out.size; omega
    obtain ⟨y0, y1, y2⟩ := KYz.out.three
    go_wp2_with fail
    refine (r7Find_db HRz.out ⟨a.x.h.kind, a.x.h.id, a.x.h.adv⟩).mono ?_
    rintro ef wq ⟨vf, rfl, hbf, hvf⟩
    have hvf' : vf = -1 := by
      rcases hvf with h | ⟨j, x, h, _⟩
      · exact h.2
      · have := HNO.out.symm.trans h
        cases this
    subst hvf'
    have HDq := Lib.hid (D.chg HDz.out (F' := fun _ => False) (Chg.of_below hbf) (fun _ _ hf => hf))
    have HRq := Lib.hid (HRz.out.chg (F' := fun _ => False) (Chg.of_below hbf) (fun _ _ hf => hf))
    have Bq := Lib.hid (Bz.out.trans (hbf.mono hloz))
    have hloq : w2.heap.size ≤ wq.heap.size := Nat.le_trans hloz hbf.size
    obtain ⟨Aq, nq, cq, hgb, hlq, hnq⟩ := HRq.out.list
    have HGB := Lib.hid hgb
    have HLQ := Lib.hid hlq
    have hgq := hgb.lt
    have BRd : Below wq.heap.size wq wq.drew := ⟨rfl, rfl, rfl, Nat.le_refl _, fun _ _ => rfl⟩
    clear hgb hlq y0 y1 y2
    have d0 : decide ((0 : Int) ≤ -1) = false := by decide
    go_upto_region 22 with fail
    refine wp_region_noPanic ?_
    refine wp_region_held_drew (S := fun w' => Below wq.heap.size wq w') (by kernel_rfl) BRd (fun hHeld => ?_)
    refine wpAnyH_take (i := 0) (oi := { dst := Option.some 70, op := Go.Op.move (Go.Operand.tmp 11), type := 4, pos := "law.go:64", after := #[], guard := Option.none }) (v := ?_) rfl (by kernel_rfl) (by kernel_rfl) (by kernel_rfl) (fun _ _ _ h => h) (Or.inl ⟨by rfl, ?_⟩) hHeld ?_
    rotate_left 1
    · intro ww hSw
      try dsimp only at hSw
      go_simp
      try with_reducible rfl
    try simp only [Act.put, List.setIfInBounds_toArray, List.set_cons_zero, List.set_cons_succ]
    refine wpAnyH_take (i := 1) (oi := { dst := Option.some 71, op := Go.Op.move (Go.Operand.tmp 12), type := 3, pos := "law.go:64", after := #[], guard := Option.none }) (v := ?_) rfl (by kernel_rfl) (by kernel_rfl) (by kernel_rfl) (fun _ _ _ h => h) (Or.inl ⟨by rfl, ?_⟩) hHeld ?_
    rotate_left 1
    · intro ww hSw
      try dsimp only at hSw
      go_simp
      try with_reducible rfl
    try simp only [Act.put, List.setIfInBounds_toArray, List.set_cons_zero, List.set_cons_succ]
    refine wpAnyH_take (i := 2) (oi := { dst := Option.some 72, op := Go.Op.binOp Go.BinOp.geq 3 (Go.Operand.tmp 71) (Go.Operand.const (Go.Value.int Go.IntKind.i64 0)) 3, type := 4, pos := "law.go:64", after := #[{ on := 1, ground := Go.Ground.data }], guard := Option.none }) (v := ?_) rfl (by kernel_rfl) (by kernel_rfl) (by kernel_rfl) (fun _ _ _ h => h) (Or.inl ⟨by rfl, ?_⟩) hHeld ?_
    rotate_left 1
    · intro ww hSw
      try dsimp only at hSw
      go_simp
      try with_reducible rfl
    try simp only [Act.put, List.setIfInBounds_toArray, List.set_cons_zero, List.set_cons_succ]
    refine wpAnyH_take (i := 3) (oi := { dst := Option.some 73, op := Go.Op.binOp Go.BinOp.neq 4 (Go.Operand.tmp 70) (Go.Operand.tmp 72) 4, type := 4, pos := "law.go:64", after := #[{ on := 0, ground := Go.Ground.data }, { on := 2, ground := Go.Ground.data }], guard := Option.none }) (v := ?_) rfl (by kernel_rfl) (by kernel_rfl) (by kernel_rfl) (fun _ _ _ h => h) (Or.inl ⟨by rfl, ?_⟩) hHeld ?_
    rotate_left 1
    · intro ww hSw
      try dsimp only at hSw
      go_simp
      try with_reducible rfl
    try simp only [Act.put, List.setIfInBounds_toArray, List.set_cons_zero, List.set_cons_succ]
    refine wpAnyH_take (i := 4) (oi := { dst := Option.some 74, op := Go.Op.move (Go.Operand.tmp 73), type := 4, pos := "law.go:64", after := #[{ on := 3, ground := Go.Ground.data }], guard := Option.none }) (v := ?_) rfl (by kernel_rfl) (by kernel_rfl) (by kernel_rfl) (fun _ _ _ h => h) (Or.inl ⟨by rfl, ?_⟩) hHeld ?_
    rotate_left 1
    · intro ww hSw
      try dsimp only at hSw
      go_simp
      try with_reducible rfl
    try simp only [Act.put, List.setIfInBounds_toArray, List.set_cons_zero, List.set_cons_succ]
    refine wpAnyH_take (i := 5) (oi := { dst := Option.some 75, op := Go.Op.move (Go.Operand.tmp 11), type := 4, pos := "law.go:64", after := #[{ on := 4, ground := Go.Ground.guard }], guard := Option.some (4, Bool.false) }) (v := ?_) rfl (by kernel_rfl) (by kernel_rfl) (by kernel_rfl) (fun _ _ _ h => h) (Or.inl ⟨by rfl, ?_⟩) hHeld ?_
    rotate_left 1
    · intro ww hSw
      try dsimp only at hSw
      go_simp
      try with_reducible rfl
    try simp only [Act.put, List.setIfInBounds_toArray, List.set_cons_zero, List.set_cons_succ]
    refine wpAnyH_take (i := 6) (oi := { dst := Option.some 76, op := Go.Op.move (Go.Operand.tmp 75), type := 4, pos := "law.go:64", after := #[{ on := 5, ground := Go.Ground.data }, { on := 4, ground := Go.Ground.chain }, { on := 4, ground := Go.Ground.guard }], guard := Option.some (4, Bool.false) }) (v := ?_) rfl (by kernel_rfl) (by kernel_rfl) (by kernel_rfl) (fun _ _ _ h => h) (Or.inl ⟨by rfl, ?_⟩) hHeld ?_
    rotate_left 1
    · intro ww hSw
      try dsimp only at hSw
      go_simp
      try with_reducible rfl
    try simp only [Act.put, List.setIfInBounds_toArray, List.set_cons_zero, List.set_cons_succ]
    refine wpAnyH_take (i := 7) (oi := { dst := Option.some 77, op := Go.Op.load 34 (Go.Operand.tmp 10), type := 34, pos := "law.go:64", after := #[{ on := 6, ground := Go.Ground.guard }], guard := Option.some (6, Bool.true) }) (v := undef) rfl (by kernel_rfl) (by kernel_rfl) (by kernel_rfl) (fun _ _ _ h => h) (Or.inr ⟨by rfl, rfl⟩) hHeld ?_
    try simp only [Act.put, List.setIfInBounds_toArray, List.set_cons_zero, List.set_cons_succ]
    refine wpAnyH_take (i := 8) (oi := { dst := Option.some 78, op := Go.Op.move (Go.Operand.tmp 6), type := 27, pos := "law.go:64", after := #[{ on := 6, ground := Go.Ground.guard }], guard := Option.some (6, Bool.true) }) (v := undef) rfl (by kernel_rfl) (by kernel_rfl) (by kernel_rfl) (fun _ _ _ h => h) (Or.inr ⟨by rfl, rfl⟩) hHeld ?_
    try simp only [Act.put, List.setIfInBounds_toArray, List.set_cons_zero, List.set_cons_succ]
    refine wpAnyH_take (i := 9) (oi := { dst := Option.some 79, op := Go.Op.nilCheck (Go.Operand.tmp 78), type := 0, pos := "law.go:64", after := #[{ on := 8, ground := Go.Ground.data }, { on := 6, ground := Go.Ground.guard }], guard := Option.some (6, Bool.true) }) (v := undef) rfl (by kernel_rfl) (by kernel_rfl) (by kernel_rfl) (fun _ _ _ h => h) (Or.inr ⟨by rfl, rfl⟩) hHeld ?_
    try simp only [Act.put, List.setIfInBounds_toArray, List.set_cons_zero, List.set_cons_succ]
    refine wpAnyH_take (i := 10) (oi := { dst := Option.some 80, op := Go.Op.fieldAddr 53 (Go.Operand.tmp 79) 0, type := 0, pos := "law.go:64", after := #[{ on := 9, ground := Go.Ground.data }, { on := 6, ground := Go.Ground.guard }], guard := Option.some (6, Bool.true) }) (v := undef) rfl (by kernel_rfl) (by kernel_rfl) (by kernel_rfl) (fun _ _ _ h => h) (Or.inr ⟨by rfl, rfl⟩) hHeld ?_
    try simp only [Act.put, List.setIfInBounds_toArray, List.set_cons_zero, List.set_cons_succ]
    refine wpAnyH_take (i := 11) (oi := { dst := Option.some 81, op := Go.Op.load 51 (Go.Operand.tmp 80), type := 51, pos := "law.go:64", after := #[{ on := 10, ground := Go.Ground.data }, { on := 6, ground := Go.Ground.guard }], guard := Option.some (6, Bool.true) }) (v := undef) rfl (by kernel_rfl) (by kernel_rfl) (by kernel_rfl) (fun _ _ _ h => h) (Or.inr ⟨by rfl, rfl⟩) hHeld ?_
    try simp only [Act.put, List.setIfInBounds_toArray, List.set_cons_zero, List.set_cons_succ]
    refine wpAnyH_take (i := 12) (oi := { dst := Option.some 82, op := Go.Op.move (Go.Operand.tmp 12), type := 3, pos := "law.go:64", after := #[{ on := 6, ground := Go.Ground.guard }], guard := Option.some (6, Bool.true) }) (v := undef) rfl (by kernel_rfl) (by kernel_rfl) (by kernel_rfl) (fun _ _ _ h => h) (Or.inr ⟨by rfl, rfl⟩) hHeld ?_
    try simp only [Act.put, List.setIfInBounds_toArray, List.set_cons_zero, List.set_cons_succ]
    refine wpAnyH_take (i := 13) (oi := { dst := Option.some 83, op := Go.Op.indexAddr 51 (Go.Operand.tmp 81) (Go.Operand.tmp 82), type := 0, pos := "law.go:64", after := #[{ on := 11, ground := Go.Ground.data }, { on := 12, ground := Go.Ground.data }, { on := 6, ground := Go.Ground.guard }], guard := Option.some (6, Bool.true) }) (v := undef) rfl (by kernel_rfl) (by kernel_rfl) (by kernel_rfl) (fun _ _ _ h => h) (Or.inr ⟨by rfl, rfl⟩) hHeld ?_
    try simp only [Act.put, List.setIfInBounds_toArray, List.set_cons_zero, List.set_cons_succ]
    refine wpAnyH_take (i := 14) (oi := { dst := Option.some 84, op := Go.Op.load 34 (Go.Operand.tmp 83), type := 34, pos := "law.go:64", after := #[{ on := 13, ground := Go.Ground.data }, { on := 6, ground := Go.Ground.guard }], guard := Option.some (6, Bool.true) }) (v := undef) rfl (by kernel_rfl) (by kernel_rfl) (by kernel_rfl) (fun _ _ _ h => h) (Or.inr ⟨by rfl, rfl⟩) hHeld ?_
    try simp only [Act.put, List.setIfInBounds_toArray, List.set_cons_zero, List.set_cons_succ]
    refine wpAnyH_take (i := 15) (oi := { dst := Option.some 85, op := Go.Op.call { callee := Go.Callee.value (Go.Operand.func 23), args := #[Go.Operand.tmp 77, Go.Operand.tmp 84], argTypes := #[34, 34] }, type := 4, pos := "law.go:64", after := #[{ on := 7, ground := Go.Ground.data }, { on := 14, ground := Go.Ground.data }, { on := 6, ground := Go.Ground.chain }, { on := 6, ground := Go.Ground.guard }], guard := Option.some (6, Bool.true) }) (v := undef) rfl (by kernel_rfl) (by kernel_rfl) (by kernel_rfl) (fun _ _ _ h => h) (Or.inr ⟨by rfl, rfl⟩) hHeld ?_
    try simp only [Act.put, List.setIfInBounds_toArray, List.set_cons_zero, List.set_cons_succ]
    refine wpAnyH_take (i := 16) (oi := { dst := Option.some 86, op := Go.Op.unOp Go.UnOp.not 4 (Go.Operand.tmp 85), type := 4, pos := "law.go:64", after := #[{ on := 15, ground := Go.Ground.data }, { on := 6, ground := Go.Ground.guard }], guard := Option.some (6, Bool.true) }) (v := undef) rfl (by kernel_rfl) (by kernel_rfl) (by kernel_rfl) (fun _ _ _ h => h) (Or.inr ⟨by rfl, rfl⟩) hHeld ?_
    try simp only [Act.put, List.setIfInBounds_toArray, List.set_cons_zero, List.set_cons_succ]
    refine wpAnyH_take (i := 17) (oi := { dst := Option.some 87, op := Go.Op.pick (Go.Operand.tmp 76) (Go.Operand.tmp 86) (Go.Operand.const (Go.Value.bool Bool.false)), type := 4, pos := "law.go:64", after := #[{ on := 6, ground := Go.Ground.data }, { on := 16, ground := Go.Ground.data }, { on := 4, ground := Go.Ground.guard }], guard := Option.some (4, Bool.false) }) (v := ?_) rfl (by kernel_rfl) (by kernel_rfl) (by kernel_rfl) (fun _ _ _ h => h) (Or.inl ⟨by rfl, ?_⟩) hHeld ?_
    rotate_left 1
    · intro ww hSw
      try dsimp only at hSw
      go_simp
      try with_reducible rfl
    try simp only [Act.put, List.setIfInBounds_toArray, List.set_cons_zero, List.set_cons_succ]
    refine wpAnyH_take (i := 18) (oi := { dst := Option.some 88, op := Go.Op.pick (Go.Operand.tmp 74) (Go.Operand.const (Go.Value.bool Bool.true)) (Go.Operand.tmp 87), type := 4, pos := "law.go:64", after := #[{ on := 4, ground := Go.Ground.data }, { on := 17, ground := Go.Ground.data }], guard := Option.none }) (v := ?_) rfl (by kernel_rfl) (by kernel_rfl) (by kernel_rfl) (fun _ _ _ h => h) (Or.inl ⟨by rfl, ?_⟩) hHeld ?_
    rotate_left 1
    · intro ww hSw
      try dsimp only at hSw
      go_simp
      try with_reducible rfl
    try simp only [Act.put, List.setIfInBounds_toArray, List.set_cons_zero, List.set_cons_succ]
    refine wpAnyH_take (i := 19) (oi := { dst := Option.some 89, op := Go.Op.move (Go.Operand.tmp 88), type := 4, pos := "law.go:64", after := #[{ on := 18, ground := Go.Ground.data }, { on := 15, ground := Go.Ground.chain }], guard := Option.none }) (v := ?_) rfl (by kernel_rfl) (by kernel_rfl) (by kernel_rfl) (fun _ _ _ h => h) (Or.inl ⟨by rfl, ?_⟩) hHeld ?_
    rotate_left 1
    · intro ww hSw
      try dsimp only at hSw
      go_simp
      try with_reducible rfl
    try simp only [Act.put, List.setIfInBounds_toArray, List.set_cons_zero, List.set_cons_succ]
    refine wpAnyH_take (i := 20) (oi := { dst := Option.some 90, op := Go.Op.move (Go.Operand.tmp 5), type := 25, pos := "law.go:64", after := #[{ on := 19, ground := Go.Ground.guard }], guard := Option.some (19, Bool.false) }) (v := ?_) rfl (by kernel_rfl) (by kernel_rfl) (by kernel_rfl) (fun _ _ _ h => h) (Or.inl ⟨by rfl, ?_⟩) hHeld ?_
    rotate_left 1
    · intro ww hSw
      try dsimp only at hSw
      go_simp
      try with_reducible rfl
    try simp only [Act.put, List.setIfInBounds_toArray, List.set_cons_zero, List.set_cons_succ]
    refine wpAnyH_take (i := 22) (oi := { dst := Option.some 92, op := Go.Op.move (Go.Operand.tmp 6), type := 27, pos := "law.go:64", after := #[{ on := 19, ground := Go.Ground.guard }], guard := Option.some (19, Bool.false) }) (v := ?_) rfl (by kernel_rfl) (by kernel_rfl) (by kernel_rfl) (fun _ _ _ h => h) (Or.inl ⟨by rfl, ?_⟩) hHeld ?_
    rotate_left 1
    · intro ww hSw
      try dsimp only at hSw
      go_simp
      try with_reducible rfl
    try simp only [Act.put, List.setIfInBounds_toArray, List.set_cons_zero, List.set_cons_succ]
    refine wpAnyH_take (i := 23) (oi := { dst := Option.some 93, op := Go.Op.nilCheck (Go.Operand.tmp 92), type := 0, pos := "law.go:64", after := #[{ on := 22, ground := Go.Ground.data }, { on := 19, ground := Go.Ground.guard }], guard := Option.some (19, Bool.false) }) (v := ?_) rfl (by kernel_rfl) (by kernel_rfl) (by kernel_rfl) (fun _ _ _ h => h) (Or.inl ⟨by rfl, ?_⟩) hHeld ?_
    rotate_left 1
    · intro ww hSw
      try dsimp only at hSw
      go_simp
      try with_reducible rfl
    try simp only [Act.put, List.setIfInBounds_toArray, List.set_cons_zero, List.set_cons_succ]
    refine wpAnyH_take (i := 24) (oi := { dst := Option.some 94, op := Go.Op.fieldAddr 53 (Go.Operand.tmp 93) 0, type := 0, pos := "law.go:64", after := #[{ on := 23, ground := Go.Ground.data }, { on := 19, ground := Go.Ground.guard }], guard := Option.some (19, Bool.false) }) (v := ?_) rfl (by kernel_rfl) (by kernel_rfl) (by kernel_rfl) (fun _ _ _ h => h) (Or.inl ⟨by rfl, ?_⟩) hHeld ?_
    rotate_left 1
    · intro ww hSw
      try dsimp only at hSw
      go_simp
      try with_reducible rfl
    try simp only [Act.put, List.setIfInBounds_toArray, List.set_cons_zero, List.set_cons_succ]
    refine wpAnyH_take (i := 25) (oi := { dst := Option.some 95, op := Go.Op.load 51 (Go.Operand.tmp 94), type := 51, pos := "law.go:64", after := #[{ on := 24, ground := Go.Ground.data }, { on := 19, ground := Go.Ground.guard }], guard := Option.some (19, Bool.false) }) (v := ?_) rfl (by kernel_rfl) (by kernel_rfl) (by kernel_rfl) (fun _ _ _ h => h) (Or.inl ⟨by rfl, ?_⟩) hHeld ?_
    rotate_left 1
    · intro ww hSw
      try dsimp only at hSw
      have q0 := (HGB.out.below hSw hgq).cell 0
      go_simp
      try with_reducible rfl
    try simp only [Act.put, List.setIfInBounds_toArray, List.set_cons_zero, List.set_cons_succ]
    refine wpAnyH_ready (rs := [21]) (by kernel_rfl) (by simp) ?_
    refine AllReadyH.cons (o := { dst := Option.some 91, op := Go.Op.call { callee := Go.Callee.value (Go.Operand.func 25), args := #[Go.Operand.tmp 90], argTypes := #[25] }, type := 51, pos := "law.go:64", after := #[{ on := 20, ground := Go.Ground.data }, { on := 19, ground := Go.Ground.chain }, { on := 19, ground := Go.Ground.guard }], guard := Option.some (19, Bool.false) }) rfl (fun K hK => ?_) AllReadyH.nil
    go_simp
    refine (D.all (D.chg HDq.out (F' := fun _ => False) (Chg.of_below BRd) (fun _ _ hf => hf)) HSS.out).mono ?_
    rintro eb wb ⟨Aa, na, ca, Ra, rfl, hbb, hoa, hra⟩
    have hC2 := BRd.trans (hbb.mono BRd.size)
    have HLA := Lib.hid (las_of_own hoa hra (fun y hy => right_short (HRS.out y hy)))
    obtain rfl : na = nq := HLA.out.1.symm.trans HLQ.out.1
    clear hbb hoa hra hHeld
    refine hK.out _ _ hC2 (fun hHeld => ?_)
    clear hK K
    try simp only [Act.put, List.setIfInBounds_toArray, List.set_cons_zero, List.set_cons_succ]
    refine wpAnyH_ready (rs := [26]) (by kernel_rfl) (by simp) ?_
    refine AllReadyH.cons (o := { dst := Option.some 96, op := Go.Op.call { callee := Go.Callee.value (Go.Operand.func 24), args := #[Go.Operand.tmp 91, Go.Operand.tmp 95], argTypes := #[51, 51] }, type := 4, pos := "law.go:64", after := #[{ on := 21, ground := Go.Ground.data }, { on := 25, ground := Go.Ground.data }, { on := 21, ground := Go.Ground.chain }, { on := 19, ground := Go.Ground.guard }], guard := Option.some (19, Bool.false) }) rfl (fun K hK => ?_) AllReadyH.nil
    go_simp
    refine (r7same_yes Aa Aq na ca cq _ _ S' _ HLA.out (HLQ.out.below hC2) (Nat.le_refl _) hC2.size (by unfold maxLen; omega)).mono ?_
    rintro ec wcc ⟨rfl, hbc⟩
    have hC3 := hC2.trans (hbc.mono hC2.size)
    clear hbc hHeld
    refine hK.out _ _ hC3 (fun hHeld => ?_)
    clear hK K
    try simp only [Act.put, List.setIfInBounds_toArray, List.set_cons_zero, List.set_cons_succ]
    refine wpAnyH_take (i := 27) (oi := { dst := Option.some 97, op := Go.Op.unOp Go.UnOp.not 4 (Go.Operand.tmp 96), type := 4, pos := "law.go:64", after := #[{ on := 26, ground := Go.Ground.data }, { on := 19, ground := Go.Ground.guard }], guard := Option.some (19, Bool.false) }) (v := ?_) rfl (by kernel_rfl) (by kernel_rfl) (by kernel_rfl) (fun _ _ _ h => h) (Or.inl ⟨by rfl, ?_⟩) hHeld ?_
    rotate_left 1
    · intro ww hSw
      try dsimp only at hSw
      go_simp
      try with_reducible rfl
    try simp only [Act.put, List.setIfInBounds_toArray, List.set_cons_zero, List.set_cons_succ]
    refine wpAnyH_take (i := 28) (oi := { dst := Option.some 98, op := Go.Op.pick (Go.Operand.tmp 89) (Go.Operand.const (Go.Value.bool Bool.true)) (Go.Operand.tmp 97), type := 4, pos := "law.go:64", after := #[{ on := 19, ground := Go.Ground.data }, { on := 27, ground := Go.Ground.data }], guard := Option.none }) (v := ?_) rfl (by kernel_rfl) (by kernel_rfl) (by kernel_rfl) (fun _ _ _ h => h) (Or.inl ⟨by rfl, ?_⟩) hHeld ?_
    rotate_left 1
    · intro ww hSw
      try dsimp only at hSw
      go_simp
      try with_reducible rfl
    try simp only [Act.put, List.setIfInBounds_toArray, List.set_cons_zero, List.set_cons_succ]
    refine wpAnyH_take (i := 29) (oi := { dst := Option.some 99, op := Go.Op.move (Go.Operand.tmp 98), type := 4, pos := "law.go:64", after := #[{ on := 28, ground := Go.Ground.data }, { on := 26, ground := Go.Ground.chain }], guard := Option.none }) (v := ?_) rfl (by kernel_rfl) (by kernel_rfl) (by kernel_rfl) (fun _ _ _ h => h) (Or.inl ⟨by rfl, ?_⟩) hHeld ?_
    rotate_left 1
    · intro ww hSw
      try dsimp only at hSw
      go_simp
      try with_reducible rfl
    try simp only [Act.put, List.setIfInBounds_toArray, List.set_cons_zero, List.set_cons_succ]
    refine wpAnyH_take (i := 30) (oi := { dst := Option.some 100, op := Go.Op.move (Go.Operand.tmp 5), type := 25, pos := "law.go:64", after := #[{ on := 29, ground := Go.Ground.guard }], guard := Option.some (29, Bool.false) }) (v := ?_) rfl (by kernel_rfl) (by kernel_rfl) (by kernel_rfl) (fun _ _ _ h => h) (Or.inl ⟨by rfl, ?_⟩) hHeld ?_
    rotate_left 1
    · intro ww hSw
      try dsimp only at hSw
      go_simp
      try with_reducible rfl
    try simp only [Act.put, List.setIfInBounds_toArray, List.set_cons_zero, List.set_cons_succ]
    refine wpAnyH_take (i := 32) (oi := { dst := Option.some 102, op := Go.Op.move (Go.Operand.tmp 6), type := 27, pos := "law.go:64", after := #[{ on := 29, ground := Go.Ground.guard }], guard := Option.some (29, Bool.false) }) (v := ?_) rfl (by kernel_rfl) (by kernel_rfl) (by kernel_rfl) (fun _ _ _ h => h) (Or.inl ⟨by rfl, ?_⟩) hHeld ?_
    rotate_left 1
    · intro ww hSw
      try dsimp only at hSw
      go_simp
      try with_reducible rfl
    try simp only [Act.put, List.setIfInBounds_toArray, List.set_cons_zero, List.set_cons_succ]
    refine wpAnyH_take (i := 33) (oi := { dst := Option.some 103, op := Go.Op.nilCheck (Go.Operand.tmp 102), type := 0, pos := "law.go:64", after := #[{ on := 32, ground := Go.Ground.data }, { on := 29, ground := Go.Ground.guard }], guard := Option.some (29, Bool.false) }) (v := ?_) rfl (by kernel_rfl) (by kernel_rfl) (by kernel_rfl) (fun _ _ _ h => h) (Or.inl ⟨by rfl, ?_⟩) hHeld ?_
    rotate_left 1
    · intro ww hSw
      try dsimp only at hSw
      go_simp
      try with_reducible rfl
    try simp only [Act.put, List.setIfInBounds_toArray, List.set_cons_zero, List.set_cons_succ]
    refine wpAnyH_take (i := 34) (oi := { dst := Option.some 104, op := Go.Op.fieldAddr 53 (Go.Operand.tmp 103) 0, type := 0, pos := "law.go:64", after := #[{ on := 33, ground := Go.Ground.data }, { on := 29, ground := Go.Ground.guard }], guard := Option.some (29, Bool.false) }) (v := ?_) rfl (by kernel_rfl) (by kernel_rfl) (by kernel_rfl) (fun _ _ _ h => h) (Or.inl ⟨by rfl, ?_⟩) hHeld ?_
    rotate_left 1
    · intro ww hSw
      try dsimp only at hSw
      go_simp
      try with_reducible rfl
    try simp only [Act.put, List.setIfInBounds_toArray, List.set_cons_zero, List.set_cons_succ]
    refine wpAnyH_take (i := 35) (oi := { dst := Option.some 105, op := Go.Op.load 51 (Go.Operand.tmp 104), type := 51, pos := "law.go:64", after := #[{ on := 34, ground := Go.Ground.data }, { on := 29, ground := Go.Ground.guard }], guard := Option.some (29, Bool.false) }) (v := ?_) rfl (by kernel_rfl) (by kernel_rfl) (by kernel_rfl) (fun _ _ _ h => h) (Or.inl ⟨by rfl, ?_⟩) hHeld ?_
    rotate_left 1
    · intro ww hSw
      try dsimp only at hSw
      have q0 := (HGB.out.below hSw hgq).cell 0
      go_simp
      try with_reducible rfl
    try simp only [Act.put, List.setIfInBounds_toArray, List.set_cons_zero, List.set_cons_succ]
    refine wpAnyH_take (i := 36) (oi := { dst := Option.some 106, op := Go.Op.call { callee := Go.Callee.builtin Go.Builtin.len, args := #[Go.Operand.tmp 105], argTypes := #[51] }, type := 3, pos := "law.go:64", after := #[{ on := 35, ground := Go.Ground.data }, { on := 29, ground := Go.Ground.guard }], guard := Option.some (29, Bool.false) }) (v := ?_) rfl (by kernel_rfl) (by kernel_rfl) (by kernel_rfl) (fun _ _ _ h => h) (Or.inl ⟨by rfl, ?_⟩) hHeld ?_
    rotate_left 1
    · intro ww hSw
      try dsimp only at hSw
      go_simp
      try with_reducible rfl
    try simp only [Act.put, List.setIfInBounds_toArray, List.set_cons_zero, List.set_cons_succ]
    refine wpAnyH_ready (rs := [31]) (by kernel_rfl) (by simp) ?_
    refine AllReadyH.cons (o := { dst := Option.some 101, op := Go.Op.call { callee := Go.Callee.value (Go.Operand.func 26), args := #[Go.Operand.tmp 100], argTypes := #[25] }, type := 3, pos := "law.go:64", after := #[{ on := 30, ground := Go.Ground.data }, { on := 29, ground := Go.Ground.chain }, { on := 29, ground := Go.Ground.guard }], guard := Option.some (29, Bool.false) }) rfl (fun K hK => ?_) AllReadyH.nil
    go_simp
    refine (D.len (D.chg HDq.out (F' := fun _ => False) (Chg.of_below hC3) (fun _ _ hf => hf))).mono ?_
    rintro ed wd ⟨rfl, hbd⟩
    rw [HLQ.out.1]
    have hC4 := hC3.trans (hbd.mono hC3.size)
    clear hbd hHeld
    refine hK.out _ _ hC4 (fun hHeld => ?_)
    clear hK K
    try simp only [Act.put, List.setIfInBounds_toArray, List.set_cons_zero, List.set_cons_succ]
    refine wpAnyH_take (i := 37) (oi := { dst := Option.some 107, op := Go.Op.binOp Go.BinOp.neq 3 (Go.Operand.tmp 101) (Go.Operand.tmp 106) 3, type := 4, pos := "law.go:64", after := #[{ on := 31, ground := Go.Ground.data }, { on := 36, ground := Go.Ground.data }, { on := 29, ground := Go.Ground.guard }], guard := Option.some (29, Bool.false) }) (v := ?_) rfl (by kernel_rfl) (by kernel_rfl) (by kernel_rfl) (fun _ _ _ h => h) (Or.inl ⟨by rfl, ?_⟩) hHeld ?_
    rotate_left 1
    · intro ww hSw
      try dsimp only at hSw
      go_simp
      try with_reducible rfl
    try simp only [Act.put, List.setIfInBounds_toArray, List.set_cons_zero, List.set_cons_succ]
    refine wpAnyH_take (i := 38) (oi := { dst := Option.some 108, op := Go.Op.pick (Go.Operand.tmp 99) (Go.Operand.const (Go.Value.bool Bool.true)) (Go.Operand.tmp 107), type := 4, pos := "law.go:64", after := #[{ on := 29, ground := Go.Ground.data }, { on := 37, ground := Go.Ground.data }], guard := Option.none }) (v := ?_) rfl (by kernel_rfl) (by kernel_rfl) (by kernel_rfl) (fun _ _ _ h => h) (Or.inl ⟨by rfl, ?_⟩) hHeld ?_
    rotate_left 1
    · intro ww hSw
      try dsimp only at hSw
      go_simp
      try with_reducible rfl
    try simp only [Act.put, List.setIfInBounds_toArray, List.set_cons_zero, List.set_cons_succ]
    refine wpAnyH_done (by kernel_rfl) ?_ _
    refine NoPanic.normal ?_
    have BE := Lib.hid (Bq.out.trans (hC4.mono hloq))
    have HBE := Lib.hid (show Both Dv w2.heap.size p w3.heap.size (roomOf room) wd.heap.size wd S' from
      ⟨F, F', D.chg HDq.out (F' := fun _ => False) (Chg.of_below hC4) (fun _ _ hf => hf), HRq.out.chg (F' := fun _ => False) (Chg.of_below hC4) (fun _ _ hf => hf), HDJ.out, fun q h => Nat.lt_of_lt_of_le (D.foot HDq.out h).2 hC4.size, fun q h => Nat.lt_of_lt_of_le (HRq.out.foot h).2 hC4.size, Nat.le_trans hloq hC4.size⟩)
    clear hC4
    go_wp2
    go_roundw
    case rel => exact ⟨k + 1, S', by omega, by go_num, HBE, BE⟩
    case measure => simp [intOf]; omega
  · have HXS := Lib.hid hxs
    have HG1z := Lib.hid hg1
    have HG3z := Lib.hid hg3
    have HE2 := Lib.hid hg2
    have HE4 := Lib.hid hg4
    clear hxs hg1 hg2 hg3 hg4
    have hbz := Below.alloc (Below.refl wg.heap.size wg) (Nat.le_refl _) (.cells #[.int .i64 x.h.age, .int .i64 x.h.kind, .int .i64 x.h.id, .int .i64 x.h.adv, .int .i64 x.h.seq, .int .i64 x.h.sum, .int .i64 x.h.long, .slice Ag ng cg, .slice Ag' ng' cg'] 34)
    have HDz := Lib.hid (D.chg HDg.out (F' := fun _ => False) (Chg.of_below hbz) (fun _ _ hf => hf))
    have HRz := Lib.hid (HRg.out.chg (F' := fun _ => False) (Chg.of_below hbz) (fun _ _ hf => hf))
    have KYz := Lib.hid (KYg.out.below hbz KYg.out.lt)
    have KZ := Lib.hid (Blk.new wg 34 #[.int .i64 x.h.age, .int .i64 x.h.kind, .int .i64 x.h.id, .int .i64 x.h.adv, .int .i64 x.h.seq, .int .i64 x.h.sum, .int .i64 x.h.long, .slice Ag ng cg, .slice Ag' ng' cg'])
    have Bz := Lib.hid (Bg.out.trans (hbz.mono hlog))
    go_upto_region 21 with fail
    have hbz2 := Lib.hid hbz
    clear hbz
    obtain ⟨Z, hZ⟩ : ∃ Z, wg.heap.size = Z := ⟨_, rfl⟩
    rw [hZ] at KZ
    generalize wg.alloc (.cells #[.int .i64 x.h.age, .int .i64 x.h.kind, .int .i64 x.h.id, .int .i64 x.h.adv, .int .i64 x.h.seq, .int .i64 x.h.sum, .int .i64 x.h.long, .slice Ag ng cg, .slice Ag' ng' cg'] 34) = wz at *
    rw [hZ]
    have hloz : w2.heap.size ≤ wz.heap.size := by have := hbz2.out.size; omega
    obtain ⟨y0, y1, y2⟩ := KYz.out.three
    go_wp2_with fail
    refine (r7Find_db HRz.out ⟨a.x.h.kind, a.x.h.id, a.x.h.adv⟩).mono ?_
    rintro ef wq ⟨vf, rfl, hbf, hvf⟩
    obtain ⟨j, hvj, hxj⟩ : ∃ j : Nat, vf = (j : Int) ∧ S'[j]? = some x := by
      rcases hvf with h | ⟨j, x', h1, h2, h3⟩
      · have := HXS.out.symm.trans h.1
        cases this
      · have := HXS.out.symm.trans h1
        injection this with this
        subst this
        exact ⟨j, h2, h3⟩
    subst hvj
    have HDq := Lib.hid (D.chg HDz.out (F' := fun _ => False) (Chg.of_below hbf) (fun _ _ hf => hf))
    have HRq := Lib.hid (HRz.out.chg (F' := fun _ => False) (Chg.of_below hbf) (fun _ _ hf => hf))
    have Bq := Lib.hid (Bz.out.trans (hbf.mono hloz))
    have hloq : w2.heap.size ≤ wq.heap.size := Nat.le_trans hloz hbf.size
    obtain ⟨Aq, nq, cq, hgb, hlq, hnq⟩ := HRq.out.list
    have HGB := Lib.hid hgb
    have HLQ := Lib.hid hlq
    have hgq := hgb.lt
    have BRd : Below wq.heap.size wq wq.drew := ⟨rfl, rfl, rfl, Nat.le_refl _, fun _ _ => rfl⟩
    clear hgb hlq y0 y1 y2
    have hjq : j < nq := by
      have h1 := (List.getElem?_eq_some_iff.1 hxj).1
      have h2 := HLQ.out.1
      omega
    obtain ⟨bl, ol, x', rfl, hbl, hx', hlat⟩ := Arr.at HLQ.out hjq
    obtain rfl : x = x' := by rw [hxj] at hx'; exact Option.some.inj hx'
    obtain ⟨hhd, Al, nl, cl, Al', nl', cl', l7, l8, hl1', hl2', hnl, hnl'⟩ := hlat
    obtain ⟨A1', c1', e1, q1, q2, q3⟩ := lnk_of_own (own_below2 (own_below2 HG1z.out hbz2.out) hbf) HE2.out
    injection e1 with e1 _ e2
    subst e1 e2
    obtain ⟨A2', c2', e3, q4, q5, q6⟩ := row_of_ints (own_below2 (own_below2 HG3z.out hbz2.out) hbf) HE4.out
    injection e3 with e3 _ e4
    subst e3 e4
    obtain rfl : ng = nl := HE2.out.symm.trans hl1'.1
    obtain rfl : ng' = nl' := HE4.out.symm.trans hl2'.1
    have HG1 := Lib.hid q3
    have HG2 := Lib.hid q6
    have HL1 := Lib.hid hl1'
    have HL2 := Lib.hid hl2'
    have HNG := Lib.hid hnl
    have HNG' := Lib.hid hnl'
    have HZ := Lib.hid (KZ.out.below hbf KZ.out.lt)
    have hlZ := HZ.out.lt
    have HLR := Lib.hid (la_range hhd l7 l8)
    have hj40 : j < 40 := by omega
    have hjq' : (j : Int) < nq := by omega
    clear q1 q2 q3 q4 q5 q6 hhd l7 l8 hl1' hl2' hnl hnl' hx' hxj hvf
    have d0 : decide ((0 : Int) ≤ (j : Int)) = true := by simp
    go_upto_region 22 with fail
    refine wp_region_noPanic ?_
    refine wp_region_held_drew (S := fun w' => Below wq.heap.size wq w') (by kernel_rfl) BRd (fun hHeld => ?_)
    refine wpAnyH_take (i := 0) (oi := { dst := Option.some 70, op := Go.Op.move (Go.Operand.tmp 11), type := 4, pos := "law.go:64", after := #[], guard := Option.none }) (v := ?_) rfl (by kernel_rfl) (by kernel_rfl) (by kernel_rfl) (fun _ _ _ h => h) (Or.inl ⟨by rfl, ?_⟩) hHeld ?_
    rotate_left 1
    · intro ww hSw
      try dsimp only at hSw
      go_simp
      try with_reducible rfl
    try simp only [Act.put, List.setIfInBounds_toArray, List.set_cons_zero, List.set_cons_succ]
    refine wpAnyH_take (i := 1) (oi := { dst := Option.some 71, op := Go.Op.move (Go.Operand.tmp 12), type := 3, pos := "law.go:64", after := #[], guard := Option.none }) (v := ?_) rfl (by kernel_rfl) (by kernel_rfl) (by kernel_rfl) (fun _ _ _ h => h) (Or.inl ⟨by rfl, ?_⟩) hHeld ?_
    rotate_left 1
    · intro ww hSw
      try dsimp only at hSw
      go_simp
      try with_reducible rfl
    try simp only [Act.put, List.setIfInBounds_toArray, List.set_cons_zero, List.set_cons_succ]
    refine wpAnyH_take (i := 2) (oi := { dst := Option.some 72, op := Go.Op.binOp Go.BinOp.geq 3 (Go.Operand.tmp 71) (Go.Operand.const (Go.Value.int Go.IntKind.i64 0)) 3, type := 4, pos := "law.go:64", after := #[{ on := 1, ground := Go.Ground.data }], guard := Option.none }) (v := ?_) rfl (by kernel_rfl) (by kernel_rfl) (by kernel_rfl) (fun _ _ _ h => h) (Or.inl ⟨by rfl, ?_⟩) hHeld ?_
    rotate_left 1
    · intro ww hSw
      try dsimp only at hSw
      go_simp
      try with_reducible rfl
    try simp only [Act.put, List.setIfInBounds_toArray, List.set_cons_zero, List.set_cons_succ]
    refine wpAnyH_take (i := 3) (oi := { dst := Option.some 73, op := Go.Op.binOp Go.BinOp.neq 4 (Go.Operand.tmp 70) (Go.Operand.tmp 72) 4, type := 4, pos := "law.go:64", after := #[{ on := 0, ground := Go.Ground.data }, { on := 2, ground := Go.Ground.data }], guard := Option.none }) (v := ?_) rfl (by kernel_rfl) (by kernel_rfl) (by kernel_rfl) (fun _ _ _ h => h) (Or.inl ⟨by rfl, ?_⟩) hHeld ?_
    rotate_left 1
    · intro ww hSw
      try dsimp only at hSw
      go_simp
      try with_reducible rfl
    try simp only [Act.put, List.setIfInBounds_toArray, List.set_cons_zero, List.set_cons_succ]
    refine wpAnyH_take (i := 4) (oi := { dst := Option.some 74, op := Go.Op.move (Go.Operand.tmp 73), type := 4, pos := "law.go:64", after := #[{ on := 3, ground := Go.Ground.data }], guard := Option.none }) (v := ?_) rfl (by kernel_rfl) (by kernel_rfl) (by kernel_rfl) (fun _ _ _ h => h) (Or.inl ⟨by rfl, ?_⟩) hHeld ?_
    rotate_left 1
    · intro ww hSw
      try dsimp only at hSw
      go_simp
      try with_reducible rfl
    try simp only [Act.put, List.setIfInBounds_toArray, List.set_cons_zero, List.set_cons_succ]
    refine wpAnyH_take (i := 5) (oi := { dst := Option.some 75, op := Go.Op.move (Go.Operand.tmp 11), type := 4, pos := "law.go:64", after := #[{ on := 4, ground := Go.Ground.guard }], guard := Option.some (4, Bool.false) }) (v := ?_) rfl (by kernel_rfl) (by kernel_rfl) (by kernel_rfl) (fun _ _ _ h => h) (Or.inl ⟨by rfl, ?_⟩) hHeld ?_
    rotate_left 1
    · intro ww hSw
      try dsimp only at hSw
      go_simp
      try with_reducible rfl
    try simp only [Act.put, List.setIfInBounds_toArray, List.set_cons_zero, List.set_cons_succ]
    refine wpAnyH_take (i := 6) (oi := { dst := Option.some 76, op := Go.Op.move (Go.Operand.tmp 75), type := 4, pos := "law.go:64", after := #[{ on := 5, ground := Go.Ground.data }, { on := 4, ground := Go.Ground.chain }, { on := 4, ground := Go.Ground.guard }], guard := Option.some (4, Bool.false) }) (v := ?_) rfl (by kernel_rfl) (by kernel_rfl) (by kernel_rfl) (fun _ _ _ h => h) (Or.inl ⟨by rfl, ?_⟩) hHeld ?_
    rotate_left 1
    · intro ww hSw
      try dsimp only at hSw
      go_simp
      try with_reducible rfl
    try simp only [Act.put, List.setIfInBounds_toArray, List.set_cons_zero, List.set_cons_succ]
    refine wpAnyH_take (i := 7) (oi := { dst := Option.some 77, op := Go.Op.load 34 (Go.Operand.tmp 10), type := 34, pos := "law.go:64", after := #[{ on := 6, ground := Go.Ground.guard }], guard := Option.some (6, Bool.true) }) (v := .agg #[.int .i64 x.h.age, .int .i64 x.h.kind, .int .i64 x.h.id, .int .i64 x.h.adv, .int .i64 x.h.seq, .int .i64 x.h.sum, .int .i64 x.h.long, .slice Ag ng cg, .slice Ag' ng' cg']) rfl (by kernel_rfl) (by kernel_rfl) (by kernel_rfl) (fun _ _ _ h => h) (yieldsIf_load_mid (by rfl) 34 (.tmp 10) rfl Z 0 rfl [.int .i64 x.h.age, .int .i64 x.h.kind, .int .i64 x.h.id, .int .i64 x.h.adv, .int .i64 x.h.seq, .int .i64 x.h.sum, .int .i64 x.h.long, .slice Ag ng cg, .slice Ag' ng' cg'] _ (fun _ hb => blk_range7 (HZ.out.below hb hlZ)) Try.underlying34 rfl (by kernel_rfl)) hHeld ?_
    try simp only [Act.put, List.setIfInBounds_toArray, List.set_cons_zero, List.set_cons_succ]
    refine wpAnyH_take (i := 8) (oi := { dst := Option.some 78, op := Go.Op.move (Go.Operand.tmp 6), type := 27, pos := "law.go:64", after := #[{ on := 6, ground := Go.Ground.guard }], guard := Option.some (6, Bool.true) }) (v := ?_) rfl (by kernel_rfl) (by kernel_rfl) (by kernel_rfl) (fun _ _ _ h => h) (Or.inl ⟨by rfl, ?_⟩) hHeld ?_
    rotate_left 1
    · intro ww hSw
      try dsimp only at hSw
      go_simp
      try with_reducible rfl
    try simp only [Act.put, List.setIfInBounds_toArray, List.set_cons_zero, List.set_cons_succ]
    refine wpAnyH_take (i := 9) (oi := { dst := Option.some 79, op := Go.Op.nilCheck (Go.Operand.tmp 78), type := 0, pos := "law.go:64", after := #[{ on := 8, ground := Go.Ground.data }, { on := 6, ground := Go.Ground.guard }], guard := Option.some (6, Bool.true) }) (v := ?_) rfl (by kernel_rfl) (by kernel_rfl) (by kernel_rfl) (fun _ _ _ h => h) (Or.inl ⟨by rfl, ?_⟩) hHeld ?_
    rotate_left 1
    · intro ww hSw
      try dsimp only at hSw
      go_simp
      try with_reducible rfl
    try simp only [Act.put, List.setIfInBounds_toArray, List.set_cons_zero, List.set_cons_succ]
    refine wpAnyH_take (i := 10) (oi := { dst := Option.some 80, op := Go.Op.fieldAddr 53 (Go.Operand.tmp 79) 0, type := 0, pos := "law.go:64", after := #[{ on := 9, ground := Go.Ground.data }, { on := 6, ground := Go.Ground.guard }], guard := Option.some (6, Bool.true) }) (v := ?_) rfl (by kernel_rfl) (by kernel_rfl) (by kernel_rfl) (fun _ _ _ h => h) (Or.inl ⟨by rfl, ?_⟩) hHeld ?_
    rotate_left 1
    · intro ww hSw
      try dsimp only at hSw
      go_simp
      try with_reducible rfl
    try simp only [Act.put, List.setIfInBounds_toArray, List.set_cons_zero, List.set_cons_succ]
    refine wpAnyH_take (i := 11) (oi := { dst := Option.some 81, op := Go.Op.load 51 (Go.Operand.tmp 80), type := 51, pos := "law.go:64", after := #[{ on := 10, ground := Go.Ground.data }, { on := 6, ground := Go.Ground.guard }], guard := Option.some (6, Bool.true) }) (v := ?_) rfl (by kernel_rfl) (by kernel_rfl) (by kernel_rfl) (fun _ _ _ h => h) (Or.inl ⟨by rfl, ?_⟩) hHeld ?_
    rotate_left 1
    · intro ww hSw
      try dsimp only at hSw
      have q0 := (HGB.out.below hSw hgq).cell 0
      go_simp
      try with_reducible rfl
    try simp only [Act.put, List.setIfInBounds_toArray, List.set_cons_zero, List.set_cons_succ]
    refine wpAnyH_take (i := 12) (oi := { dst := Option.some 82, op := Go.Op.move (Go.Operand.tmp 12), type := 3, pos := "law.go:64", after := #[{ on := 6, ground := Go.Ground.guard }], guard := Option.some (6, Bool.true) }) (v := ?_) rfl (by kernel_rfl) (by kernel_rfl) (by kernel_rfl) (fun _ _ _ h => h) (Or.inl ⟨by rfl, ?_⟩) hHeld ?_
    rotate_left 1
    · intro ww hSw
      try dsimp only at hSw
      go_simp
      try with_reducible rfl
    try simp only [Act.put, List.setIfInBounds_toArray, List.set_cons_zero, List.set_cons_succ]
    refine wpAnyH_take (i := 13) (oi := { dst := Option.some 83, op := Go.Op.indexAddr 51 (Go.Operand.tmp 81) (Go.Operand.tmp 82), type := 0, pos := "law.go:64", after := #[{ on := 11, ground := Go.Ground.data }, { on := 12, ground := Go.Ground.data }, { on := 6, ground := Go.Ground.guard }], guard := Option.some (6, Bool.true) }) (v := ?_) rfl (by kernel_rfl) (by kernel_rfl) (by kernel_rfl) (fun _ _ _ h => h) (Or.inl ⟨by rfl, ?_⟩) hHeld ?_
    rotate_left 1
    · intro ww hSw
      try dsimp only at hSw
      go_simp
      try with_reducible rfl
    try simp only [Act.put, List.setIfInBounds_toArray, List.set_cons_zero, List.set_cons_succ]
    refine wpAnyH_take (i := 14) (oi := { dst := Option.some 84, op := Go.Op.load 34 (Go.Operand.tmp 83), type := 34, pos := "law.go:64", after := #[{ on := 13, ground := Go.Ground.data }, { on := 6, ground := Go.Ground.guard }], guard := Option.some (6, Bool.true) }) (v := .agg #[.int .i64 x.h.age, .int .i64 x.h.kind, .int .i64 x.h.id, .int .i64 x.h.adv, .int .i64 x.h.seq, .int .i64 x.h.sum, .int .i64 x.h.long, .slice Al ng cl, .slice Al' ng' cl']) rfl (by kernel_rfl) (by kernel_rfl) (by kernel_rfl) (fun _ _ _ h => h) (yieldsIf_load_mid (by rfl) 34 (.tmp 83) rfl bl (ol + j * 9) rfl [.int .i64 x.h.age, .int .i64 x.h.kind, .int .i64 x.h.id, .int .i64 x.h.adv, .int .i64 x.h.seq, .int .i64 x.h.sum, .int .i64 x.h.long, .slice Al ng cl, .slice Al' ng' cl'] _ (fun _ hb => World.rangeAt.below7 HLR.out hb hbl) Try.underlying34 rfl (by kernel_rfl)) hHeld ?_
    try simp only [Act.put, List.setIfInBounds_toArray, List.set_cons_zero, List.set_cons_succ]
    refine wpAnyH_ready (rs := [15]) (by kernel_rfl) (by simp) ?_
    refine AllReadyH.cons (o := { dst := Option.some 85, op := Go.Op.call { callee := Go.Callee.value (Go.Operand.func 23), args := #[Go.Operand.tmp 77, Go.Operand.tmp 84], argTypes := #[34, 34] }, type := 4, pos := "law.go:64", after := #[{ on := 7, ground := Go.Ground.data }, { on := 14, ground := Go.Ground.data }, { on := 6, ground := Go.Ground.chain }, { on := 6, ground := Go.Ground.guard }], guard := Option.some (6, Bool.true) }) rfl (fun K hK => ?_) AllReadyH.nil
    go_simp
    refine (refSame_yes x.h x.L x.M Ag Ag' Al Al' ng cg ng' cg' cl cl' wq.heap.size wq.heap.size _ (HG1.out.below BRd) (HG2.out.below BRd) (HL1.out.below BRd) (HL2.out.below BRd) BRd.size BRd.size HNG.out HNG'.out).mono ?_
    rintro ea wa ⟨rfl, hba⟩
    have hC1 := BRd.trans (hba.mono BRd.size)
    clear hba hHeld
    refine hK.out _ _ hC1 (fun hHeld => ?_)
    clear hK K
    try simp only [Act.put, List.setIfInBounds_toArray, List.set_cons_zero, List.set_cons_succ]
    refine wpAnyH_take (i := 16) (oi := { dst := Option.some 86, op := Go.Op.unOp Go.UnOp.not 4 (Go.Operand.tmp 85), type := 4, pos := "law.go:64", after := #[{ on := 15, ground := Go.Ground.data }, { on := 6, ground := Go.Ground.guard }], guard := Option.some (6, Bool.true) }) (v := ?_) rfl (by kernel_rfl) (by kernel_rfl) (by kernel_rfl) (fun _ _ _ h => h) (Or.inl ⟨by rfl, ?_⟩) hHeld ?_
    rotate_left 1
    · intro ww hSw
      try dsimp only at hSw
      go_simp
      try with_reducible rfl
    try simp only [Act.put, List.setIfInBounds_toArray, List.set_cons_zero, List.set_cons_succ]
    refine wpAnyH_take (i := 17) (oi := { dst := Option.some 87, op := Go.Op.pick (Go.Operand.tmp 76) (Go.Operand.tmp 86) (Go.Operand.const (Go.Value.bool Bool.false)), type := 4, pos := "law.go:64", after := #[{ on := 6, ground := Go.Ground.data }, { on := 16, ground := Go.Ground.data }, { on := 4, ground := Go.Ground.guard }], guard := Option.some (4, Bool.false) }) (v := ?_) rfl (by kernel_rfl) (by kernel_rfl) (by kernel_rfl) (fun _ _ _ h => h) (Or.inl ⟨by rfl, ?_⟩) hHeld ?_
    rotate_left 1
    · intro ww hSw
      try dsimp only at hSw
      go_simp
      try with_reducible rfl
    try simp only [Act.put, List.setIfInBounds_toArray, List.set_cons_zero, List.set_cons_succ]
    refine wpAnyH_take (i := 18) (oi := { dst := Option.some 88, op := Go.Op.pick (Go.Operand.tmp 74) (Go.Operand.const (Go.Value.bool Bool.true)) (Go.Operand.tmp 87), type := 4, pos := "law.go:64", after := #[{ on := 4, ground := Go.Ground.data }, { on := 17, ground := Go.Ground.data }], guard := Option.none }) (v := ?_) rfl (by kernel_rfl) (by kernel_rfl) (by kernel_rfl) (fun _ _ _ h => h) (Or.inl ⟨by rfl, ?_⟩) hHeld ?_
    rotate_left 1
    · intro ww hSw
      try dsimp only at hSw
      go_simp
      try with_reducible rfl
    try simp only [Act.put, List.setIfInBounds_toArray, List.set_cons_zero, List.set_cons_succ]
    refine wpAnyH_take (i := 19) (oi := { dst := Option.some 89, op := Go.Op.move (Go.Operand.tmp 88), type := 4, pos := "law.go:64", after := #[{ on := 18, ground := Go.Ground.data }, { on := 15, ground := Go.Ground.chain }], guard := Option.none }) (v := ?_) rfl (by kernel_rfl) (by kernel_rfl) (by kernel_rfl) (fun _ _ _ h => h) (Or.inl ⟨by rfl, ?_⟩) hHeld ?_
    rotate_left 1
    · intro ww hSw
      try dsimp only at hSw
      go_simp
      try with_reducible rfl
    try simp only [Act.put, List.setIfInBounds_toArray, List.set_cons_zero, List.set_cons_succ]
    refine wpAnyH_take (i := 20) (oi := { dst := Option.some 90, op := Go.Op.move (Go.Operand.tmp 5), type := 25, pos := "law.go:64", after := #[{ on := 19, ground := Go.Ground.guard }], guard := Option.some (19, Bool.false) }) (v := ?_) rfl (by kernel_rfl) (by kernel_rfl) (by kernel_rfl) (fun _ _ _ h => h) (Or.inl ⟨by rfl, ?_⟩) hHeld ?_
    rotate_left 1
    · intro ww hSw
      try dsimp only at hSw
      go_simp
      try with_reducible rfl
    try simp only [Act.put, List.setIfInBounds_toArray, List.set_cons_zero, List.set_cons_succ]
    refine wpAnyH_take (i := 22) (oi := { dst := Option.some 92, op := Go.Op.move (Go.Operand.tmp 6), type := 27, pos := "law.go:64", after := #[{ on := 19, ground := Go.Ground.guard }], guard := Option.some (19, Bool.false) }) (v := ?_) rfl (by kernel_rfl) (by kernel_rfl) (by kernel_rfl) (fun _ _ _ h => h) (Or.inl ⟨by rfl, ?_⟩) hHeld ?_
    rotate_left 1
    · intro ww hSw
      try dsimp only at hSw
      go_simp
      try with_reducible rfl
    try simp only [Act.put, List.setIfInBounds_toArray, List.set_cons_zero, List.set_cons_succ]
    refine wpAnyH_take (i := 23) (oi := { dst := Option.some 93, op := Go.Op.nilCheck (Go.Operand.tmp 92), type := 0, pos := "law.go:64", after := #[{ on := 22, ground := Go.Ground.data }, { on := 19, ground := Go.Ground.guard }], guard := Option.some (19, Bool.false) }) (v := ?_) rfl (by kernel_rfl) (by kernel_rfl) (by kernel_rfl) (fun _ _ _ h => h) (Or.inl ⟨by rfl, ?_⟩) hHeld ?_
    rotate_left 1
    · intro ww hSw
      try dsimp only at hSw
      go_simp
      try with_reducible rfl
    try simp only [Act.put, List.setIfInBounds_toArray, List.set_cons_zero, List.set_cons_succ]
    refine wpAnyH_take (i := 24) (oi := { dst := Option.some 94, op := Go.Op.fieldAddr 53 (Go.Operand.tmp 93) 0, type := 0, pos := "law.go:64", after := #[{ on := 23, ground := Go.Ground.data }, { on := 19, ground := Go.Ground.guard }], guard := Option.some (19, Bool.false) }) (v := ?_) rfl (by kernel_rfl) (by kernel_rfl) (by kernel_rfl) (fun _ _ _ h => h) (Or.inl ⟨by rfl, ?_⟩) hHeld ?_
    rotate_left 1
    · intro ww hSw
      try dsimp only at hSw
      go_simp
      try with_reducible rfl
    try simp only [Act.put, List.setIfInBounds_toArray, List.set_cons_zero, List.set_cons_succ]
    refine wpAnyH_take (i := 25) (oi := { dst := Option.some 95, op := Go.Op.load 51 (Go.Operand.tmp 94), type := 51, pos := "law.go:64", after := #[{ on := 24, ground := Go.Ground.data }, { on := 19, ground := Go.Ground.guard }], guard := Option.some (19, Bool.false) }) (v := ?_) rfl (by kernel_rfl) (by kernel_rfl) (by kernel_rfl) (fun _ _ _ h => h) (Or.inl ⟨by rfl, ?_⟩) hHeld ?_
    rotate_left 1
    · intro ww hSw
      try dsimp only at hSw
      have q0 := (HGB.out.below hSw hgq).cell 0
      go_simp
      try with_reducible rfl
    try simp only [Act.put, List.setIfInBounds_toArray, List.set_cons_zero, List.set_cons_succ]
    refine wpAnyH_ready (rs := [21]) (by kernel_rfl) (by simp) ?_
    refine AllReadyH.cons (o := { dst := Option.some 91, op := Go.Op.call { callee := Go.Callee.value (Go.Operand.func 25), args := #[Go.Operand.tmp 90], argTypes := #[25] }, type := 51, pos := "law.go:64", after := #[{ on := 20, ground := Go.Ground.data }, { on := 19, ground := Go.Ground.chain }, { on := 19, ground := Go.Ground.guard }], guard := Option.some (19, Bool.false) }) rfl (fun K hK => ?_) AllReadyH.nil
    go_simp
    refine (D.all (D.chg HDq.out (F' := fun _ => False) (Chg.of_below hC1) (fun _ _ hf => hf)) HSS.out).mono ?_
    rintro eb wb ⟨Aa, na, ca, Ra, rfl, hbb, hoa, hra⟩
    have hC2 := hC1.trans (hbb.mono hC1.size)
    have HLA := Lib.hid (las_of_own hoa hra (fun y hy => right_short (HRS.out y hy)))
    obtain rfl : na = nq := HLA.out.1.symm.trans HLQ.out.1
    clear hbb hoa hra hHeld
    refine hK.out _ _ hC2 (fun hHeld => ?_)
    clear hK K
    try simp only [Act.put, List.setIfInBounds_toArray, List.set_cons_zero, List.set_cons_succ]
    refine wpAnyH_ready (rs := [26]) (by kernel_rfl) (by simp) ?_
    refine AllReadyH.cons (o := { dst := Option.some 96, op := Go.Op.call { callee := Go.Callee.value (Go.Operand.func 24), args := #[Go.Operand.tmp 91, Go.Operand.tmp 95], argTypes := #[51, 51] }, type := 4, pos := "law.go:64", after := #[{ on := 21, ground := Go.Ground.data }, { on := 25, ground := Go.Ground.data }, { on := 21, ground := Go.Ground.chain }, { on := 19, ground := Go.Ground.guard }], guard := Option.some (19, Bool.false) }) rfl (fun K hK => ?_) AllReadyH.nil
    go_simp
    refine (r7same_yes Aa (some ⟨bl, ol, none⟩) na ca cq _ _ S' _ HLA.out (HLQ.out.below hC2) (Nat.le_refl _) hC2.size (by unfold maxLen; omega)).mono ?_
    rintro ec wcc ⟨rfl, hbc⟩
    have hC3 := hC2.trans (hbc.mono hC2.size)
    clear hbc hHeld
    refine hK.out _ _ hC3 (fun hHeld => ?_)
    clear hK K
    try simp only [Act.put, List.setIfInBounds_toArray, List.set_cons_zero, List.set_cons_succ]
    refine wpAnyH_take (i := 27) (oi := { dst := Option.some 97, op := Go.Op.unOp Go.UnOp.not 4 (Go.Operand.tmp 96), type := 4, pos := "law.go:64", after := #[{ on := 26, ground := Go.Ground.data }, { on := 19, ground := Go.Ground.guard }], guard := Option.some (19, Bool.false) }) (v := ?_) rfl (by kernel_rfl) (by kernel_rfl) (by kernel_rfl) (fun _ _ _ h => h) (Or.inl ⟨by rfl, ?_⟩) hHeld ?_
    rotate_left 1
    · intro ww hSw
      try dsimp only at hSw
      go_simp
      try with_reducible rfl
    try simp only [Act.put, List.setIfInBounds_toArray, List.set_cons_zero, List.set_cons_succ]
    refine wpAnyH_take (i := 28) (oi := { dst := Option.some 98, op := Go.Op.pick (Go.Operand.tmp 89) (Go.Operand.const (Go.Value.bool Bool.true)) (Go.Operand.tmp 97), type := 4, pos := "law.go:64", after := #[{ on := 19, ground := Go.Ground.data }, { on := 27, ground := Go.Ground.data }], guard := Option.none }) (v := ?_) rfl (by kernel_rfl) (by kernel_rfl) (by kernel_rfl) (fun _ _ _ h => h) (Or.inl ⟨by rfl, ?_⟩) hHeld ?_
    rotate_left 1
    · intro ww hSw
      try dsimp only at hSw
      go_simp
      try with_reducible rfl
    try simp only [Act.put, List.setIfInBounds_toArray, List.set_cons_zero, List.set_cons_succ]
    refine wpAnyH_take (i := 29) (oi := { dst := Option.some 99, op := Go.Op.move (Go.Operand.tmp 98), type := 4, pos := "law.go:64", after := #[{ on := 28, ground := Go.Ground.data }, { on := 26, ground := Go.Ground.chain }], guard := Option.none }) (v := ?_) rfl (by kernel_rfl) (by kernel_rfl) (by kernel_rfl) (fun _ _ _ h => h) (Or.inl ⟨by rfl, ?_⟩) hHeld ?_
    rotate_left 1
    · intro ww hSw
      try dsimp only at hSw
      go_simp
      try with_reducible rfl
    try simp only [Act.put, List.setIfInBounds_toArray, List.set_cons_zero, List.set_cons_succ]
    refine wpAnyH_take (i := 30) (oi := { dst := Option.some 100, op := Go.Op.move (Go.Operand.tmp 5), type := 25, pos := "law.go:64", after := #[{ on := 29, ground := Go.Ground.guard }], guard := Option.some (29, Bool.false) }) (v := ?_) rfl (by kernel_rfl) (by kernel_rfl) (by kernel_rfl) (fun _ _ _ h => h) (Or.inl ⟨by rfl, ?_⟩) hHeld ?_
    rotate_left 1
    · intro ww hSw
      try dsimp only at hSw
      go_simp
      try with_reducible rfl
    try simp only [Act.put, List.setIfInBounds_toArray, List.set_cons_zero, List.set_cons_succ]
    refine wpAnyH_take (i := 32) (oi := { dst := Option.some 102, op := Go.Op.move (Go.Operand.tmp 6), type := 27, pos := "law.go:64", after := #[{ on := 29, ground := Go.Ground.guard }], guard := Option.some (29, Bool.false) }) (v := ?_) rfl (by kernel_rfl) (by kernel_rfl) (by kernel_rfl) (fun _ _ _ h => h) (Or.inl ⟨by rfl, ?_⟩) hHeld ?_
    rotate_left 1
    · intro ww hSw
      try dsimp only at hSw
      go_simp
      try with_reducible rfl
    try simp only [Act.put, List.setIfInBounds_toArray, List.set_cons_zero, List.set_cons_succ]
    refine wpAnyH_take (i := 33) (oi := { dst := Option.some 103, op := Go.Op.nilCheck (Go.Operand.tmp 102), type := 0, pos := "law.go:64", after := #[{ on := 32, ground := Go.Ground.data }, { on := 29, ground := Go.Ground.guard }], guard := Option.some (29, Bool.false) }) (v := ?_) rfl (by kernel_rfl) (by kernel_rfl) (by kernel_rfl) (fun _ _ _ h => h) (Or.inl ⟨by rfl, ?_⟩) hHeld ?_
    rotate_left 1
    · intro ww hSw
      try dsimp only at hSw
      go_simp
      try with_reducible rfl
    try simp only [Act.put, List.setIfInBounds_toArray, List.set_cons_zero, List.set_cons_succ]
    refine wpAnyH_take (i := 34) (oi := { dst := Option.some 104, op := Go.Op.fieldAddr 53 (Go.Operand.tmp 103) 0, type := 0, pos := "law.go:64", after := #[{ on := 33, ground := Go.Ground.data }, { on := 29, ground := Go.Ground.guard }], guard := Option.some (29, Bool.false) }) (v := ?_) rfl (by kernel_rfl) (by kernel_rfl) (by kernel_rfl) (fun _ _ _ h => h) (Or.inl ⟨by rfl, ?_⟩) hHeld ?_
    rotate_left 1
    · intro ww hSw
      try dsimp only at hSw
      go_simp
      try with_reducible rfl
    try simp only [Act.put, List.setIfInBounds_toArray, List.set_cons_zero, List.set_cons_succ]
    refine wpAnyH_take (i := 35) (oi := { dst := Option.some 105, op := Go.Op.load 51 (Go.Operand.tmp 104), type := 51, pos := "law.go:64", after := #[{ on := 34, ground := Go.Ground.data }, { on := 29, ground := Go.Ground.guard }], guard := Option.some (29, Bool.false) }) (v := ?_) rfl (by kernel_rfl) (by kernel_rfl) (by kernel_rfl) (fun _ _ _ h => h) (Or.inl ⟨by rfl, ?_⟩) hHeld ?_
    rotate_left 1
    · intro ww hSw
      try dsimp only at hSw
      have q0 := (HGB.out.below hSw hgq).cell 0
      go_simp
      try with_reducible rfl
    try simp only [Act.put, List.setIfInBounds_toArray, List.set_cons_zero, List.set_cons_succ]
    refine wpAnyH_take (i := 36) (oi := { dst := Option.some 106, op := Go.Op.call { callee := Go.Callee.builtin Go.Builtin.len, args := #[Go.Operand.tmp 105], argTypes := #[51] }, type := 3, pos := "law.go:64", after := #[{ on := 35, ground := Go.Ground.data }, { on := 29, ground := Go.Ground.guard }], guard := Option.some (29, Bool.false) }) (v := ?_) rfl (by kernel_rfl) (by kernel_rfl) (by kernel_rfl) (fun _ _ _ h => h) (Or.inl ⟨by rfl, ?_⟩) hHeld ?_
    rotate_left 1
    · intro ww hSw
      try dsimp only at hSw
      go_simp
      try with_reducible rfl
    try simp only [Act.put, List.setIfInBounds_toArray, List.set_cons_zero, List.set_cons_succ]
    refine wpAnyH_ready (rs := [31]) (by kernel_rfl) (by simp) ?_
    refine AllReadyH.cons (o := { dst := Option.some 101, op := Go.Op.call { callee := Go.Callee.value (Go.Operand.func 26), args := #[Go.Operand.tmp 100], argTypes := #[25] }, type := 3, pos := "law.go:64", after := #[{ on := 30, ground := Go.Ground.data }, { on := 29, ground := Go.Ground.chain }, { on := 29, ground := Go.Ground.guard }], guard := Option.some (29, Bool.false) }) rfl (fun K hK => ?_) AllReadyH.nil
    go_simp
    refine (D.len (D.chg HDq.out (F' := fun _ => False) (Chg.of_below hC3) (fun _ _ hf => hf))).mono ?_
    rintro ed wd ⟨rfl, hbd⟩
    rw [HLQ.out.1]
    have hC4 := hC3.trans (hbd.mono hC3.size)
    clear hbd hHeld
    refine hK.out _ _ hC4 (fun hHeld => ?_)
    clear hK K
    try simp only [Act.put, List.setIfInBounds_toArray, List.set_cons_zero, List.set_cons_succ]
    refine wpAnyH_take (i := 37) (oi := { dst := Option.some 107, op := Go.Op.binOp Go.BinOp.neq 3 (Go.Operand.tmp 101) (Go.Operand.tmp 106) 3, type := 4, pos := "law.go:64", after := #[{ on := 31, ground := Go.Ground.data }, { on := 36, ground := Go.Ground.data }, { on := 29, ground := Go.Ground.guard }], guard := Option.some (29, Bool.false) }) (v := ?_) rfl (by kernel_rfl) (by kernel_rfl) (by kernel_rfl) (fun _ _ _ h => h) (Or.inl ⟨by rfl, ?_⟩) hHeld ?_
    rotate_left 1
    · intro ww hSw
      try dsimp only at hSw
      go_simp
      try with_reducible rfl
    try simp only [Act.put, List.setIfInBounds_toArray, List.set_cons_zero, List.set_cons_succ]
    refine wpAnyH_take (i := 38) (oi := { dst := Option.some 108, op := Go.Op.pick (Go.Operand.tmp 99) (Go.Operand.const (Go.Value.bool Bool.true)) (Go.Operand.tmp 107), type := 4, pos := "law.go:64", after := #[{ on := 29, ground := Go.Ground.data }, { on := 37, ground := Go.Ground.data }], guard := Option.none }) (v := ?_) rfl (by kernel_rfl) (by kernel_rfl) (by kernel_rfl) (fun _ _ _ h => h) (Or.inl ⟨by rfl, ?_⟩) hHeld ?_
    rotate_left 1
    · intro ww hSw
      try dsimp only at hSw
      go_simp
      try with_reducible rfl
    try simp only [Act.put, List.setIfInBounds_toArray, List.set_cons_zero, List.set_cons_succ]
    refine wpAnyH_done (by kernel_rfl) ?_ _
    refine NoPanic.normal ?_
    have BE := Lib.hid (Bq.out.trans (hC4.mono hloq))
    have HBE := Lib.hid (show Both Dv w2.heap.size p w3.heap.size (roomOf room) wd.heap.size wd S' from
      ⟨F, F', D.chg HDq.out (F' := fun _ => False) (Chg.of_below hC4) (fun _ _ hf => hf), HRq.out.chg (F' := fun _ => False) (Chg.of_below hC4) (fun _ _ hf => hf), HDJ.out, fun q h => Nat.lt_of_lt_of_le (D.foot HDq.out h).2 hC4.size, fun q h => Nat.lt_of_lt_of_le (HRq.out.foot h).2 hC4.size, Nat.le_trans hloq hC4.size⟩)
    clear hC4
    go_wp2
    go_roundw
    case rel => exact ⟨k + 1, S', by omega, by go_num, HBE, BE⟩
    case measure => simp [intOf]; omega
end Go.Proofs.Ytiibefgdlmjdgaa
