/- The method heads of packet's reader: heads, to the end. Conditions: at most 2^20 bytes. · Plain facts on bytes in pieces of one size: what is put is told again, and what is told is put as the very bytes. No program, no conditions. · The methods ack and dd of packet's reader. Conditions: at most 2^20 bytes. -/
import Derived.Test.YtekhgkkgmkodmaaJat
namespace Go.Proofs.Ytekhgkkgmkodmaa
open Go.RowKit

theorem Try.infoHd : (Try.prog.info? 45).map (fun i => (i.zero, i.size, i.bytes)) = some (some (.agg #[.int .i64 0, .int .i64 0, .int .i64 0, .int .i64 0, .int .i64 0, .int .i64 0, .int .i64 0]), 7, 56) := by kernel_rfl
/-- The cells of heads, one behind the other. -/
def hdCells : List Hd → List Value
  | [] => []
  | h :: l => .int .i64 h.age :: .int .i64 h.kind :: .int .i64 h.id :: .int .i64 h.adv :: .int .i64 h.seq :: .int .i64 h.sum :: .int .i64 h.long :: hdCells l
theorem hdCells_one (h : Hd) : ∀ u ∈ [Value.int .i64 h.age, .int .i64 h.kind, .int .i64 h.id, .int .i64 h.adv, .int .i64 h.seq, .int .i64 h.sum, .int .i64 h.long], u.oneCell' = true := by
  intro u hu
  simp at hu
  rcases hu with rfl | rfl | rfl | rfl | rfl | rfl | rfl <;> rfl
theorem hdCells_snoc (l : List Hd) (h : Hd) : hdCells (l ++ [h]) = hdCells l ++ [.int .i64 h.age, .int .i64 h.kind, .int .i64 h.id, .int .i64 h.adv, .int .i64 h.seq, .int .i64 h.sum, .int .i64 h.long] := by
  induction l with
  | nil => rfl
  | cons x l ih => simp [hdCells, ih]
theorem hdCells_get (l : List Hd) (j : Nat) (h : Hd) (hj : l[j]? = some h) : (hdCells l)[j * 7]? = some (.int .i64 h.age) ∧ (hdCells l)[j * 7 + 1]? = some (.int .i64 h.kind) ∧ (hdCells l)[j * 7 + 2]? = some (.int .i64 h.id) ∧ (hdCells l)[j * 7 + 3]? = some (.int .i64 h.adv) ∧ (hdCells l)[j * 7 + 4]? = some (.int .i64 h.seq) ∧ (hdCells l)[j * 7 + 5]? = some (.int .i64 h.sum) ∧ (hdCells l)[j * 7 + 6]? = some (.int .i64 h.long) := by
  induction l generalizing j with
  | nil => simp at hj
  | cons x l ih =>
    cases j with
    | zero =>
      obtain rfl : x = h := by simpa using hj
      simp [hdCells]
    | succ j =>
      have := ih j (by simpa using hj)
      rw [show (j + 1) * 7 = j * 7 + 7 from by omega]
      simpa [hdCells] using this
/-- A row of structs of the call's own reads as such. -/
theorem arr_of_own {α : Type} {sz : Nat} {P : World → Nat → Nat → Nat → α → Prop} {w : World} {base n : Nat} {t : TypeId} {v : Value} {L : List α} {cs : List Value} (h : w.ownsRow base t sz v n cs) (hn : L.length = n)
    (hP : ∀ (g : Nat) (j : Nat) (x : α), g < w.heap.size → L[j]? = some x → (∀ (p : Nat) (u : Value), cs[p]? = some u → w.cell? ⟨g, 0 + p, none⟩ = some u) → P w w.heap.size g (0 + j * sz) x) : ∃ A c, v = .slice A n c ∧ n ≤ c ∧ c ≤ maxLen ∧ Arr sz P w w.heap.size A n L := by
  rcases h.2 with ⟨rfl, rfl⟩ | ⟨g, cap, cur, rfl, hg, hh, hc, hm, hs, ht⟩
  · have : L = [] := List.eq_nil_of_length_eq_zero hn
    subst this
    exact ⟨_, _, rfl, Nat.le_refl _, by unfold maxLen; omega, Arr.nil⟩
  · refine ⟨_, _, rfl, hc, hm, hn, fun _ => ⟨g, 0, rfl, Blk.lt hh, fun j x hx => hP g j x (Blk.lt hh) hx ?_⟩⟩
    intro p u hu
    have h1 := h.cells (g := g) rfl p u hu
    have e : (⟨g, 0, none⟩ : Addr).add p = ⟨g, 0 + p, none⟩ := by
      unfold Addr.add
      split <;> simp_all
    rwa [e] at h1
theorem hds_of_own {w : World} {base n : Nat} {v : Value} {L : List Hd} (h : w.ownsRow base 45 7 v n (hdCells L)) (hn : L.length = n) : ∃ A c, v = .slice A n c ∧ n ≤ c ∧ c ≤ maxLen ∧ Hds w w.heap.size A n L := by
  refine arr_of_own (P := HdAt) h hn fun g j x _ hx hc => ?_
  obtain ⟨h0, h1, h2, h3, h4, h5, h6⟩ := hdCells_get L j x hx
  exact ⟨hc _ _ h0, hc _ _ h1, hc _ _ h2, hc _ _ h3, hc _ _ h4, hc _ _ h5, hc _ _ h6⟩
theorem own_keeps {w w' : World} {b : Nat} {t : TypeId} {size n : Nat} {v : Value} {xs : List Value} (ho : w.ownsRow b t size v n xs) (hg : w.grownBy w' v.ownBlock) (hb : b ≤ w.heap.size) : Below b w w' :=
  (Below.refl b w).grown hg hb (fun k hk => (ho.lt k hk).1)
theorem blk_newS (w : World) (o : Obj) (p : Addr) (u : Value) (t : TypeId) (cs : Array Value) : Blk (((w.alloc o).setCell p u).alloc (.cells cs t)) (w.heap.size + 1) t cs := by
  have := Blk.new ((w.alloc o).setCell p u) t cs
  simpa using this
/-- The head at place p, if it is one. -/
def hdAt (l : List Int) (p : Nat) : Hd := if okHead ((l.drop p).take 20) = true then headOf ((l.drop p).take 20) else zeroHd
/-- k heads from place a on; are they heads? -/
def hdsAt (l : List Int) (a k : Nat) : List Hd := (List.range k).map fun j => hdAt l (a + 20 * j)
def okHds (l : List Int) (a k : Nat) : Bool := (List.range k).all fun j => okHead ((l.drop (a + 20 * j)).take 20)
theorem hdsAt_length (l : List Int) (a k : Nat) : (hdsAt l a k).length = k := by simp [hdsAt]
theorem hdsAt_succ (l : List Int) (a k : Nat) : hdsAt l a (k + 1) = hdsAt l a k ++ [hdAt l (a + 20 * k)] := by simp [hdsAt, List.range_succ]
theorem okHds_succ (l : List Int) (a k : Nat) : okHds l a (k + 1) = (okHds l a k && okHead ((l.drop (a + 20 * k)).take 20)) := by simp [okHds, List.range_succ]
def sliceLen : Value → Nat
  | .slice _ n _ => n
  | _ => 0
/-- What heads answers, and leaves. -/
def HeadsR (w : World) (g q : Nat) (v : Pv) (wr : Bool) (er : Int) (l : List Int) (a : Nat) (e : Int) (x : Ending) (w' : World) : Prop :=
  ∃ A k c, x = .returned (.slice A k c) ∧ k = (l.length - a) / 20 ∧ w'.ownsRow w.heap.size 45 7 (.slice A k c) k (hdCells (hdsAt l a k)) ∧ RSE w' g q v (wr || !okHds l a k) er l (a + 20 * k) e ∧ Below g w w'
set_option maxRecDepth 8000 in
set_option maxHeartbeats 8000000 in
theorem heads_any (v : Pv) (wb : Bool) (er : Int) (g q a : Nat) (e : Int) (l : List Int) (w : World) (h : RSE w g q v wb er l a e) (hl : l.length ≤ 1048576) :
    Calls Try.prog 70 #[.pointer (some ⟨g, 0, none⟩)] w (HeadsR w g q v wb er l a e) := by
  generalize hQ : HeadsR w g q v wb er l a e = Q
  have HQ := Lib.hid hQ
  have HRS := Lib.hid h
  have HA := Lib.hid h.2.at
  have HIS := Lib.hid h.2.is
  have HBY := Lib.hid h.2.byt
  have hgq : g < q := by have := h.2.lt.2; omega
  have hqw : q < w.heap.size := h.2.lt.1
  have hgw : g < w.heap.size := by omega
  clear hQ h
  go_enter Try.func70, Try.ntmps70
  go_wp2_with fail
  go_loopw [3] (fun val W => ∃ k : Nat, Hid (a + 20 * k ≤ l.length) ∧ Hid (RSE W g q v (wb || !okHds l a k) er l (a + 20 * k) e) ∧ Hid (W.ownsRow w.heap.size 45 7 val k (hdCells (hdsAt l a k))) ∧ Hid (Below g w W)) (fun val _ => l.length - sliceLen val)
  case atStart =>
    refine ⟨0, HA, Lib.hid ?_, Lib.hid (World.ownsRow_nil _ _ _ _), Lib.hid (Below.refl _ _)⟩
    rw [show (wb || !okHds l a 0) = wb by simp [okHds]]
    exact HRS.out
  case round =>
    obtain ⟨k, hk, hrs, hown, hbel⟩ := hrel
    obtain ⟨A, c, rfl⟩ := own_slice hown.out
    obtain ⟨y, hy⟩ : ∃ y, (wb || !okHds l a k) = y := ⟨_, rfl⟩
    rw [hy] at hrs
    have HY := Lib.hid hy
    have KB := Lib.hid hrs.out.1
    have RD := Lib.hid hrs.out.2
    clear hy hrs
    obtain ⟨a0, a1, a2, a3, a4, a5, a6, a7, a8, a9, a10, a11, a12, a13, a14, a15, a16, a17, a18⟩ := KB.out.nt
    go_wp2_with fail
    refine (rde_left (g + 1) q _ e l _ RD.out).mono ?_
    rintro e1 w1 ⟨rfl, d1, rfl⟩
    clear a0 a1 a2 a3 a4 a5 a6 a7 a8 a9 a10 a11 a12 a13 a14 a15 a16 a17 a18
    have hb1 := below_drewN hbel.out d1
    have KB1 := Lib.hid (KB.out.drewN d1)
    have RD1 := Lib.hid (show RdE (wr.drewN d1) (g + 1) q l (a + 20 * k) e from RD.out)
    have OW1 := Lib.hid (show (wr.drewN d1).ownsRow w.heap.size 45 7 (.slice A k c) k (hdCells (hdsAt l a k)) from hown.out)
    have B1 := Lib.hid hb1
    have hs1 := hb1.size
    clear hb1 KB RD hown hbel
    generalize wr.drewN d1 = w1 at *
    obtain ⟨r, hr⟩ : ∃ r, l.length - (a + 20 * k) = r := ⟨_, rfl⟩
    rw [hr]
    have hak := hk.out
    obtain ⟨a0, a1, a2, a3, a4, a5, a6, a7, a8, a9, a10, a11, a12, a13, a14, a15, a16, a17, a18⟩ := KB1.out.nt
    by_cases h20 : 20 ≤ r
    · obtain rfl : e = 0 := by
        rcases RD1.out.is with he | ⟨_, hlt⟩
        · exact he
        · omega
      have h20' : (20 : Int) ≤ r := by omega
      go_wp2_with fail
      refine (rd_bytesK (g + 1) q (a + 20 * k) 20 20 l _ RD1.out.ok rfl (by omega) hl).mono ?_
      rintro e2 w2 ⟨A2, c2, rfl, hc2, hm2, hrow, hrd, hgr⟩
      have KB2 := Lib.hid (KB1.out.grown hgr (by omega))
      have RD2 := Lib.hid hrd
      have OW2 := Lib.hid (own_grown OW1.out hgr hqw)
      have B2 := Lib.hid (B1.out.trans (grown_below hgr (by omega) (by omega)))
      have R2 := Lib.hid hrow
      have HM2 := Lib.hid hm2
      have HB20 := Lib.hid ((HBY.out.drop (a + 20 * k)).take 20)
      have hs2 := B2.out.size
      clear hrd hgr hrow hm2 KB1 RD1 OW1 B1 h20' a0 a1 a2 a3 a4 a5 a6 a7 a8 a9 a10 a11 a12 a13 a14 a15 a16 a17 a18
      obtain ⟨s, hs⟩ : ∃ s, (l.drop (a + 20 * k)).take 20 = s := ⟨_, rfl⟩
      rw [hs] at R2 HB20
      have HSS := Lib.hid hs
      clear hs
      go_wp2_with fail
      refine (getHead_long A2 20 c2 w2.heap.size s _ R2.out HB20.out (Nat.le_refl _) (Nat.le_refl _) hc2 HM2.out).mono ?_
      rintro e3 w3 ⟨rfl, hb3⟩
      have KB3 := Lib.hid (KB2.out.below hb3 KB2.out.lt)
      have RD3 := Lib.hid (RD2.out.below hb3 RD2.out.lt.1)
      have OW3 := Lib.hid (own_below2 OW2.out hb3)
      have B3 := Lib.hid (B2.out.trans (hb3.mono (by omega)))
      have hs3 := hb3.size
      clear hb3 KB2 RD2 OW2 B2 R2
      cases hok : okHead s
      · have HOK := Lib.hid (show (wb || !okHds l a (k + 1)) = true by rw [okHds_succ, HSS.out, hok]; simp)
        have HHD := Lib.hid (show hdAt l (a + 20 * k) = zeroHd by unfold hdAt; rw [HSS.out, hok]; rfl)
        rw [if_neg (by simp), if_neg (by simp)]
        clear hok
        have KB4 := Lib.hid (KB3.out.alloc (.cells #[.int .i64 0, .int .i64 0, .int .i64 0, .int .i64 0, .int .i64 0, .int .i64 0, .int .i64 0] 45))
        have KB5 := Lib.hid (KB4.out.put 17 (.bool true))
        have f17 := KB4.out.frozen 17
        obtain ⟨a0, a1, a2, a3, a4, a5, a6, a7, a8, a9, a10, a11, a12, a13, a14, a15, a16, a17, a18⟩ := KB4.out.nt
        have KH := Lib.hid ((Blk.new w3 45 #[.int .i64 0, .int .i64 0, .int .i64 0, .int .i64 0, .int .i64 0, .int .i64 0, .int .i64 0]).far (p := ⟨g, 17, none⟩) (show w3.heap.size ≠ g by omega) (.bool true))
        obtain ⟨z0, z1, z2, z3, z4, z5, z6⟩ := KH.out.seven
        simp only [List.setIfInBounds_toArray, List.set_cons_zero, List.set_cons_succ] at KB5
        have RD5 := Lib.hid (((RD3.out.alloc (.cells #[.int .i64 0, .int .i64 0, .int .i64 0, .int .i64 0, .int .i64 0, .int .i64 0, .int .i64 0] 45)).far (p := ⟨g, 17, none⟩) (.inl (by simp)) (.bool true)))
        have OW5 := Lib.hid (own_set (OW3.out.alloc (.cells #[.int .i64 0, .int .i64 0, .int .i64 0, .int .i64 0, .int .i64 0, .int .i64 0, .int .i64 0] 45)) ⟨g, 17, none⟩ (.bool true) hgw)
        have B5 := Lib.hid ((B3.out.alloc (by omega) (.cells #[.int .i64 0, .int .i64 0, .int .i64 0, .int .i64 0, .int .i64 0, .int .i64 0, .int .i64 0] 45)).setCell (p := ⟨g, 17, none⟩) (by simp) (.bool true))
        unfold zeroHd
        go_upto_region 6 with fail
        clear a0 a1 a2 a3 a4 a5 a6 a7 a8 a9 a10 a11 a12 a13 a14 a15 a16 a17 a18 f17 KB4 KB3 RD3 OW3 B3
        generalize hbk : w3.heap.size = hb at *
        generalize (w3.alloc (.cells #[.int .i64 0, .int .i64 0, .int .i64 0, .int .i64 0, .int .i64 0, .int .i64 0, .int .i64 0] 45)).setCell ⟨g, 17, none⟩ (.bool true) = w4 at *
        obtain ⟨z0, z1, z2, z3, z4, z5, z6⟩ := KH.out.seven
        have hs4 := B5.out.size
        go_wp2_with (at_builtin; refine wpList_append_new rfl (.tmp 26) (.tmp 28) 25 45 (.agg #[.int .i64 0, .int .i64 0, .int .i64 0, .int .i64 0, .int .i64 0, .int .i64 0, .int .i64 0]) 7 56 Try.underlying25 Try.infoHd rfl (by decide) (by decide) rfl w.heap.size _ k _ (by rfl) (by exact OW5.out.alloc _) w4.heap.size [.int .i64 0, .int .i64 0, .int .i64 0, .int .i64 0, .int .i64 0, .int .i64 0, .int .i64 0] (by rfl) rfl (by exact Blk.new w4 45 _) (by exact hdCells_one zeroHd) (by omega) (by simp; omega) ?_; intro v5 w5 ho5 hg5)
        have BK := Lib.hid (own_keeps (OW5.out.alloc (.cells #[.int .i64 0, .int .i64 0, .int .i64 0, .int .i64 0, .int .i64 0, .int .i64 0, .int .i64 0] 45)) hg5.out (by simp; omega))
        go_roundw
        case rel =>
          refine ⟨k + 1, Lib.hid (by omega), Lib.hid ⟨?_, ?_⟩, Lib.hid ?_, Lib.hid ?_⟩
          · rw [HOK.out]
            exact (KB5.out.alloc _).below BK.out (by omega)
          · have h2 := (RD5.out.alloc (.cells #[.int .i64 0, .int .i64 0, .int .i64 0, .int .i64 0, .int .i64 0, .int .i64 0, .int .i64 0] 45)).below BK.out hqw
            rw [show a + 20 * (k + 1) = a + 20 * k + 20 from by omega]
            exact h2.toE
          · have h1 := ho5.out
            rw [hdsAt_succ, HHD.out, hdCells_snoc]
            exact h1
          · exact (B5.out.alloc (by omega) _).trans (BK.out.mono (by omega))
        case measure =>
          obtain ⟨A5, c5, rfl⟩ := own_slice ho5.out
          simp [sliceLen]; omega
      · have HOK := Lib.hid (show (wb || !okHds l a (k + 1)) = y by rw [okHds_succ, HSS.out, hok, Bool.and_true]; exact HY.out)
        have HHD := Lib.hid (show hdAt l (a + 20 * k) = headOf s by unfold hdAt; rw [HSS.out, hok]; rfl)
        rw [if_pos rfl, if_pos rfl]
        clear hok
        generalize headOf s = h at *
        obtain ⟨a0, a1, a2, a3, a4, a5, a6, a7, a8, a9, a10, a11, a12, a13, a14, a15, a16, a17, a18⟩ := KB3.out.nt
        go_wp2_with (at_builtin; refine wpList_append_new rfl (.tmp 26) (.tmp 28) 25 45 (.agg #[.int .i64 0, .int .i64 0, .int .i64 0, .int .i64 0, .int .i64 0, .int .i64 0, .int .i64 0]) 7 56 Try.underlying25 Try.infoHd rfl (by decide) (by decide) rfl w.heap.size _ k _ (by rfl) (by exact (OW3.out.alloc _).alloc _) (w3.heap.size + 1) [.int .i64 h.age, .int .i64 h.kind, .int .i64 h.id, .int .i64 h.adv, .int .i64 h.seq, .int .i64 h.sum, .int .i64 h.long] (by rfl) rfl (by exact blk_new1 w3 _ 45 _) (by exact hdCells_one h) (by omega) (by simp; omega) ?_; intro v5 w5 ho5 hg5)
        have BK := Lib.hid (own_keeps ((OW3.out.alloc (.cells #[.int .i64 h.age, .int .i64 h.kind, .int .i64 h.id, .int .i64 h.adv, .int .i64 h.seq, .int .i64 h.sum, .int .i64 h.long] 45)).alloc (.cells #[.int .i64 h.age, .int .i64 h.kind, .int .i64 h.id, .int .i64 h.adv, .int .i64 h.seq, .int .i64 h.sum, .int .i64 h.long] 45)) hg5.out (by simp; omega))
        go_roundw
        case rel =>
          refine ⟨k + 1, Lib.hid (by omega), Lib.hid ⟨?_, ?_⟩, Lib.hid ?_, Lib.hid ?_⟩
          · rw [HOK.out]
            exact ((KB3.out.alloc _).alloc _).below BK.out (by omega)
          · have h2 := ((RD3.out.alloc (.cells #[.int .i64 h.age, .int .i64 h.kind, .int .i64 h.id, .int .i64 h.adv, .int .i64 h.seq, .int .i64 h.sum, .int .i64 h.long] 45)).alloc (.cells #[.int .i64 h.age, .int .i64 h.kind, .int .i64 h.id, .int .i64 h.adv, .int .i64 h.seq, .int .i64 h.sum, .int .i64 h.long] 45)).below BK.out hqw
            rw [show a + 20 * (k + 1) = a + 20 * k + 20 from by omega]
            exact h2.toE
          · have h1 := ho5.out
            rw [hdsAt_succ, HHD.out, hdCells_snoc]
            exact h1
          · exact ((B3.out.alloc (by omega) _).alloc (by simp; omega) _).trans (BK.out.mono (by omega))
        case measure =>
          obtain ⟨A5, c5, rfl⟩ := own_slice ho5.out
          simp [sliceLen]; omega
    · have h20' : ¬ (20 : Int) ≤ r := by omega
      go_wp2
      rw [← HQ.out]
      refine ⟨A, k, c, rfl, by omega, OW1.out, ⟨?_, RD1.out⟩, B1.out⟩
      rw [HY.out]
      exact KB1.out
end Go.Proofs.Ytekhgkkgmkodmaa
namespace Go.Proofs.Ytekhgkkgmkodmaa

theorem enc_num (m : Nat) (s : List Int) (hs : s.length = m) (hm : m ≤ 4) (hb : Byt s) : enc (num s) m = s := by
  subst hs
  match s, hm, hb with
  | [], _, _ => rfl
  | [a], _, hb =>
    have ha := hb a (by simp)
    simp [enc, byteAt, num]; omega
  | [a, b], _, hb =>
    have ha := hb a (by simp)
    have hb' := hb b (by simp)
    simp [enc, byteAt, num]; omega
  | [a, b, c], _, hb =>
    have ha := hb a (by simp)
    have hb' := hb b (by simp)
    have hc := hb c (by simp)
    simp [enc, byteAt, num]; omega
  | [a, b, c, d], _, hb =>
    have ha := hb a (by simp)
    have hb' := hb b (by simp)
    have hc := hb c (by simp)
    have hd := hb d (by simp)
    simp [enc, byteAt, num]; omega
  | _ :: _ :: _ :: _ :: _ :: _, h, _ => simp only [List.length_cons] at h; omega
theorem enc_word (l : List Int) (a m : Nat) (hb : Byt l) (hm : m ≤ 4) (h : a + m ≤ l.length) : enc (wordAt l a m) m = (l.drop a).take m :=
  enc_num m _ (by simp; omega) hm ((hb.drop a).take m)
theorem cut_join (l : List Int) (a m k c : Nat) (h : a + m = c) : (l.drop a).take m ++ (l.drop c).take k = (l.drop a).take (m + k) := by
  subst h
  rw [List.take_add, List.drop_drop]
theorem enc_sgn (n : Int) : enc (sgn n) 4 = enc n 4 := by
  unfold sgn
  split
  · simp [enc, byteAt]; omega
  · rfl
theorem enc_zero (l : List Int) (a : Nat) (hb : Byt l) (h : a + 1 ≤ l.length) (hz : wordAt l a 1 = 0) : enc 0 1 = (l.drop a).take 1 := by
  rw [← enc_word l a 1 hb (by omega) h, hz]
/-- The head that bytes tell has these bytes. -/
theorem headBytes_of (t : List Int) (hs : 20 ≤ t.length) (hb : Byt t) (h2 : t.getD 2 0 = 0) : headBytes (headOf t) = t.take 20 := by
  have hz : wordAt t 2 1 = 0 := by rw [wordAt_one t 2 (by omega)]; exact h2
  unfold headBytes headOf
  simp only []
  rw [enc_sgn, enc_zero t 2 hb (by omega) hz]
  rw [enc_word t 0 2 hb (by omega) (by omega), enc_word t 3 1 hb (by omega) (by omega), enc_word t 4 4 hb (by omega) (by omega), enc_word t 8 4 hb (by omega) (by omega), enc_word t 12 4 hb (by omega) (by omega), enc_word t 16 2 hb (by omega) (by omega), enc_word t 18 2 hb (by omega) (by omega)]
  rw [cut_join t 16 2 2 18 rfl, cut_join t 12 4 4 16 rfl, cut_join t 8 4 8 12 rfl, cut_join t 4 4 12 8 rfl, cut_join t 3 1 16 4 rfl, cut_join t 2 1 17 3 rfl, cut_join t 0 2 18 2 rfl, List.drop_zero]

/-- The bytes of a list, one behind the other. -/
def cat {α : Type} (f : α → List Int) : List α → List Int
  | [] => []
  | x :: l => f x ++ cat f l
theorem cat_append {α : Type} (f : α → List Int) (a b : List α) : cat f (a ++ b) = cat f a ++ cat f b := by
  induction a with
  | nil => rfl
  | cons x a ih => simp [cat, ih]
theorem cat_length {α : Type} (f : α → List Int) (sz : Nat) (L : List α) (h : ∀ x ∈ L, (f x).length = sz) : (cat f L).length = sz * L.length := by
  induction L with
  | nil => rfl
  | cons x L ih =>
    have h1 := ih fun y hy => h y (List.mem_cons_of_mem _ hy)
    have h2 := h x (List.mem_cons_self ..)
    rw [cat, List.length_append, h1, h2, List.length_cons, Nat.mul_add]
    omega
/-- k pieces of sz bytes each, from place a on, each told by d. -/
def decs {α : Type} (sz : Nat) (d : List Int → α) (l : List Int) (a k : Nat) : List α := (List.range k).map fun j => d ((l.drop (a + sz * j)).take sz)
theorem decs_length {α : Type} (sz : Nat) (d : List Int → α) (l : List Int) (a k : Nat) : (decs sz d l a k).length = k := by simp [decs]
theorem decs_succ {α : Type} (sz : Nat) (d : List Int → α) (l : List Int) (a k : Nat) : decs sz d l a (k + 1) = decs sz d l a k ++ [d ((l.drop (a + sz * k)).take sz)] := by simp [decs, List.range_succ]
/-- What is told is put as the very bytes. -/
theorem cat_decs {α : Type} (sz : Nat) (d : List Int → α) (f : α → List Int) (l : List Int) (a : Nat) : ∀ k, (∀ j, j < k → f (d ((l.drop (a + sz * j)).take sz)) = (l.drop (a + sz * j)).take sz) → cat f (decs sz d l a k) = (l.drop a).take (sz * k)
  | 0, _ => by simp [decs, cat]
  | k + 1, h => by
    rw [decs_succ, cat_append, cat_decs sz d f l a k (fun j hj => h j (by omega)), cat, cat, List.append_nil, h k (by omega), cut_join l a (sz * k) sz _ rfl, Nat.mul_succ]
/-- What is put is told. -/
theorem decs_cat {α : Type} (sz : Nat) (d : List Int → α) (f : α → List Int) : ∀ (L : List α) (pre post : List Int) (p : Nat), pre.length = p → (∀ x ∈ L, (f x).length = sz ∧ d (f x) = x) → decs sz d (pre ++ (cat f L ++ post)) p L.length = L
  | [], _, _, _, _, _ => rfl
  | x :: L, pre, post, p, hp, h => by
    obtain ⟨h1, h2⟩ := h x (List.mem_cons_self ..)
    have ih := decs_cat sz d f L (pre ++ f x) post (p + sz) (by simp [hp, h1]) fun y hy => h y (List.mem_cons_of_mem _ hy)
    have e : pre ++ (cat f (x :: L) ++ post) = (pre ++ f x) ++ (cat f L ++ post) := by simp [cat]
    unfold decs at ih ⊢
    rw [List.length_cons, List.range_succ_eq_map, List.map_cons, List.map_map]
    congr 1
    · rw [Nat.mul_zero, Nat.add_zero, List.drop_left' hp, cat, List.append_assoc, List.take_left' h1, h2]
    · rw [e]
      conv => rhs; rw [← ih]
      apply List.map_congr_left
      intro j _
      show d _ = d _
      rw [show p + sz * (j + 1) = p + sz + sz * j by rw [Nat.mul_add]; omega]

/-- Words of four bytes. -/
def wordsAt (l : List Int) (a k : Nat) : List Int := (List.range k).map fun j => wordAt l (a + 4 * j) 4
theorem wordsAt_eq (l : List Int) (a k : Nat) : wordsAt l a k = decs 4 num l a k := rfl
theorem wordsAt_length (l : List Int) (a k : Nat) : (wordsAt l a k).length = k := by simp [wordsAt]
theorem wordsAt_succ (l : List Int) (a k : Nat) : wordsAt l a (k + 1) = wordsAt l a k ++ [wordAt l (a + 4 * k) 4] := by simp [wordsAt, List.range_succ]
theorem encs_cat (m : Nat) (L : List Int) : encs m L = cat (fun x => enc x m) L := by
  induction L with
  | nil => rfl
  | cons x L ih => rw [cat, ← ih]; rfl
theorem chunk_len (l : List Int) (a sz k j : Nat) (h : a + sz * k ≤ l.length) (hj : j < k) : ((l.drop (a + sz * j)).take sz).length = sz := by
  have : sz * (j + 1) ≤ sz * k := Nat.mul_le_mul_left sz (by omega)
  rw [Nat.mul_add] at this
  rw [List.length_take, List.length_drop]
  omega
theorem encs_wordsAt (l : List Int) (a k : Nat) (hb : Byt l) (h : a + 4 * k ≤ l.length) : encs 4 (wordsAt l a k) = (l.drop a).take (4 * k) := by
  rw [encs_cat, wordsAt_eq]
  exact cat_decs 4 num _ l a k fun j hj => enc_num 4 _ (chunk_len l a 4 k j h hj) (by omega) ((hb.drop _).take 4)
theorem wordsAt_encs (S pre post : List Int) (p : Nat) (hp : pre.length = p) (hS : ∀ x ∈ S, 0 ≤ x ∧ x < 4294967296) : wordsAt (pre ++ (encs 4 S ++ post)) p S.length = S := by
  rw [encs_cat, wordsAt_eq]
  refine decs_cat 4 num _ S pre post p hp fun x hx => ⟨enc_length _ _, ?_⟩
  have := hS x hx
  rw [num_enc _ 4 (by omega) (by omega)]
  omega

/-- A key out of twelve bytes. -/
def kyDec (s : List Int) : Ky := ⟨wordAt s 0 4, wordAt s 4 4, wordAt s 8 4⟩
def kysAt (l : List Int) (a k : Nat) : List Ky := decs 12 kyDec l a k
theorem keysBs_cat (L : List Ky) : keysBs L = cat keyBs L := by
  induction L with
  | nil => rfl
  | cons x L ih => rw [cat, ← ih]; rfl
theorem kyDec_put (s : List Int) (hs : s.length = 12) (hb : Byt s) : keyBs (kyDec s) = s := by
  unfold keyBs kyDec
  simp only []
  rw [enc_word s 0 4 hb (by omega) (by omega), enc_word s 4 4 hb (by omega) (by omega), enc_word s 8 4 hb (by omega) (by omega), cut_join s 4 4 4 8 rfl, cut_join s 0 4 8 4 rfl, List.drop_zero]
  exact List.take_of_length_le (by omega)
theorem kyDec_of (k : Ky) (h : keyB k = true) : kyDec (keyBs k) = k := by
  unfold keyB at h
  simp only [Bool.and_eq_true, inB_iff] at h
  obtain ⟨h1, h2, h3⟩ := h
  rw [fit_iff 4 _ (by omega) (by omega), decide_eq_true_iff, num_enc _ 4 (by omega) (by omega)] at h2
  unfold kyDec keyBs
  rw [wordAt_mid _ [] (enc k.kind 4) (enc k.id 4 ++ enc k.adv 4) 0 4 (by simp) rfl (enc_length _ _),
    wordAt_mid _ (enc k.kind 4) (enc k.id 4) (enc k.adv 4) 4 4 (by simp) (enc_length _ _) (enc_length _ _),
    wordAt_mid _ (enc k.kind 4 ++ enc k.id 4) (enc k.adv 4) [] 8 4 (by simp) (by simp [enc_length]) (enc_length _ _)]
  rw [num_enc _ 4 (by omega) (by omega), num_enc _ 4 (by omega) (by omega), num_enc _ 4 (by omega) (by omega)]
  have e1 : k.kind % 256 ^ 4 = k.kind := by omega
  have e3 : k.adv % 256 ^ 4 = k.adv := by omega
  rw [e1, h2, e3]
theorem keysBs_kysAt (l : List Int) (a k : Nat) (hb : Byt l) (h : a + 12 * k ≤ l.length) : keysBs (kysAt l a k) = (l.drop a).take (12 * k) := by
  rw [keysBs_cat]
  exact cat_decs 12 kyDec _ l a k fun j hj => kyDec_put _ (chunk_len l a 12 k j h hj) ((hb.drop _).take 12)
theorem kysAt_keysBs (L : List Ky) (pre post : List Int) (p : Nat) (hp : pre.length = p) (hL : ∀ x ∈ L, keyB x = true) : kysAt (pre ++ (keysBs L ++ post)) p L.length = L := by
  rw [keysBs_cat]
  exact decs_cat 12 kyDec _ L pre post p hp fun x hx => ⟨keyBs_length x, kyDec_of x (hL x hx)⟩

/-- A head out of twenty bytes. -/
def hdDec (s : List Int) : Hd := if okHead s = true then headOf s else zeroHd
theorem hdsAt_eq (l : List Int) (a k : Nat) : hdsAt l a k = decs 20 hdDec l a k := rfl
theorem headsBs_cat (L : List Hd) : headsBs L = cat headBytes L := by
  induction L with
  | nil => rfl
  | cons x L ih => rw [cat, ← ih]; rfl
theorem headsBs_hdsAt (l : List Int) (a k : Nat) (hb : Byt l) (h : a + 20 * k ≤ l.length) (hok : okHds l a k = true) : headsBs (hdsAt l a k) = (l.drop a).take (20 * k) := by
  rw [headsBs_cat, hdsAt_eq]
  refine cat_decs 20 hdDec _ l a k fun j hj => ?_
  have h1 := chunk_len l a 20 k j h hj
  unfold okHds at hok
  rw [List.all_eq_true] at hok
  have h2 := hok j (List.mem_range.2 hj)
  unfold hdDec
  rw [if_pos h2]
  unfold okHead at h2
  rw [Bool.and_eq_true, decide_eq_true_iff] at h2
  rw [headBytes_of _ (by omega) ((hb.drop _).take 20) h2.1]
  exact List.take_of_length_le (by omega)
theorem hdB_dec (h : Hd) (hh : hdB h = true) : okHead (headBytes h) = true ∧ headOf (headBytes h) = h := by
  unfold hdB at hh
  rw [Bool.and_eq_true, sameHd_iff] at hh
  exact hh
theorem hdsAt_headsBs (L : List Hd) (pre post : List Int) (p : Nat) (hp : pre.length = p) (hL : ∀ x ∈ L, hdB x = true) : hdsAt (pre ++ (headsBs L ++ post)) p L.length = L := by
  rw [headsBs_cat, hdsAt_eq]
  refine decs_cat 20 hdDec _ L pre post p hp fun x hx => ⟨headBytes_length x, ?_⟩
  obtain ⟨h1, h2⟩ := hdB_dec x (hL x hx)
  unfold hdDec
  rw [if_pos h1, h2]
theorem okHds_headsBs (L : List Hd) (pre post : List Int) (p : Nat) (hp : pre.length = p) (hL : ∀ x ∈ L, hdB x = true) : okHds (pre ++ (headsBs L ++ post)) p L.length = true := by
  have h := decs_cat 20 (fun s => s) (fun x => x) (L.map headBytes) pre post p hp (by
    intro x hx
    obtain ⟨y, _, rfl⟩ := List.mem_map.1 hx
    exact ⟨headBytes_length y, rfl⟩)
  have e : cat (fun x => x) (L.map headBytes) = headsBs L := by
    rw [headsBs_cat]
    clear h hL
    induction L with
    | nil => rfl
    | cons x L ih => rw [List.map_cons, cat, cat, ih]
  rw [e, List.length_map] at h
  unfold okHds
  have e2 : ((List.range L.length).all fun j => okHead (((pre ++ (headsBs L ++ post)).drop (p + 20 * j)).take 20)) = (decs 20 (fun s => s) (pre ++ (headsBs L ++ post)) p L.length).all okHead := by
    unfold decs
    rw [List.all_map]
    rfl
  rw [e2, h, List.all_eq_true]
  intro x hx
  obtain ⟨y, hy, rfl⟩ := List.mem_map.1 hx
  exact (hdB_dec y (hL y hy)).1
end Go.Proofs.Ytekhgkkgmkodmaa
namespace Go.Proofs.Ytekhgkkgmkodmaa
open Go.RowKit

/-- What ack leaves. -/
def AckR (w : World) (g q : Nat) (v : Pv) (wr : Bool) (er : Int) (l : List Int) (a : Nat) (e : Int) (x : Ending) (w' : World) : Prop :=
  ∃ A k c, x = .returned (.tuple #[]) ∧ k = (l.length - a) / 20 ∧ w'.ownsRow w.heap.size 45 7 (.slice A k c) k (hdCells (hdsAt l a k)) ∧ RSE w' g q ⟨v.kind, v.sender, v.every, v.dead, v.prio, v.dr, v.bdr, v.seen, v.ini, v.mor, v.mas, v.seq, v.heads, v.wants, v.lsas, ⟨A, k, c⟩⟩ (wr || !okHds l a k) er l (a + 20 * k) e ∧ Below g w w'
set_option maxRecDepth 8000 in
set_option maxHeartbeats 8000000 in
theorem ack_any (v : Pv) (wr : Bool) (er : Int) (g q a : Nat) (e : Int) (l : List Int) (w : World) (h : RSE w g q v wr er l a e) (hl : l.length ≤ 1048576) :
    Calls Try.prog 60 #[.pointer (some ⟨g, 0, none⟩)] w (AckR w g q v wr er l a e) := by
  generalize hQ : AckR w g q v wr er l a e = Q
  have HQ := Lib.hid hQ
  have HRS := Lib.hid h
  have hgw : g < w.heap.size := h.1.lt
  clear hQ h
  go_enter Try.func60, Try.ntmps60
  go_wp2_with fail
  refine (heads_any v wr er g q a e l _ HRS.out hl).mono ?_
  rintro e1 w1 ⟨A, k, c, rfl, hk, hown, ⟨hkb, hrd⟩, hb⟩
  obtain ⟨y, hy⟩ : ∃ y, (wr || !okHds l a k) = y := ⟨_, rfl⟩
  rw [hy] at hkb
  have HY := Lib.hid hy
  clear hy
  have HK := Lib.hid hk
  have OW := Lib.hid hown
  have KB := Lib.hid hkb
  have RD := Lib.hid hrd
  have B1 := Lib.hid hb
  clear hk hown hkb hrd hb HRS
  obtain ⟨a0, a1, a2, a3, a4, a5, a6, a7, a8, a9, a10, a11, a12, a13, a14, a15, a16, a17, a18⟩ := KB.out.nt
  have f16 := KB.out.frozen 16
  go_wp2
  refine bodyPost_end (results_none rfl _ _ _) rfl ?_
  rw [← HQ.out]
  refine ⟨A, k, c, rfl, HK.out, own_set OW.out ⟨g, 16, none⟩ _ hgw, ⟨?_, RD.out.far (.inl (by simp)) _⟩, B1.out.setCell (by simp) _⟩
  rw [HY.out]
  have h9 := KB.out.put 16 (.slice A k c)
  simp only [List.setIfInBounds_toArray, List.set_cons_zero, List.set_cons_succ] at h9
  exact h9

/-- What dd leaves. -/
def DdR (w : World) (g q : Nat) (v : Pv) (wr : Bool) (er : Int) (l : List Int) (a : Nat) (e : Int) (x : Ending) (w' : World) : Prop :=
  ∃ (y1 y2 fl sq : Int) (a1 a2 a3 a4 : Nat) (e1 e2 e3 e4 : Int) (b1 b2 b3 : Bool) (A : Option Addr) (k c : Nat), x = .returned (.tuple #[]) ∧ NxP l a e 2 y1 a1 e1 ∧ NxP l a1 e1 1 y2 a2 e2 ∧ NxP l a2 e2 1 fl a3 e3 ∧ NxP l a3 e3 4 sq a4 e4 ∧
    b1 = (bits .and .i64 fl 4 != 0) ∧ b2 = (bits .and .i64 fl 2 != 0) ∧ b3 = (bits .and .i64 fl 1 != 0) ∧ k = (l.length - a4) / 20 ∧ w'.ownsRow w.heap.size 45 7 (.slice A k c) k (hdCells (hdsAt l a4 k)) ∧
    RSE w' g q ⟨v.kind, v.sender, v.every, v.dead, v.prio, v.dr, v.bdr, v.seen, b1, b2, b3, sq, ⟨A, k, c⟩, v.wants, v.lsas, v.acks⟩ ((((wr || decide (y1 ≠ 0)) || decide (y2 ≠ 0)) || decide (7 < fl)) || !okHds l a4 k) er l (a4 + 20 * k) e4 ∧ Below g w w'
set_option maxRecDepth 8000 in
set_option maxHeartbeats 8000000 in
theorem dd_any (v : Pv) (wr : Bool) (er : Int) (g q a : Nat) (e : Int) (l : List Int) (w : World) (h : RSE w g q v wr er l a e) (hl : l.length ≤ 1048576) :
    Calls Try.prog 57 #[.pointer (some ⟨g, 0, none⟩)] w (DdR w g q v wr er l a e) := by
  generalize hQ : DdR w g q v wr er l a e = Q
  have HQ := Lib.hid hQ
  have HRS := Lib.hid h
  have hgw : g < w.heap.size := h.1.lt
  have hgq : g < q := by have := h.2.lt.2; omega
  clear hQ h
  go_enter Try.func57, Try.ntmps57
  go_wp2_with fail
  refine (zero_any v wr er g q a 2 e 2 l _ HRS.out rfl).mono ?_
  rintro e1 w1 ⟨y1, p1, x1, rfl, hrs, hb, hn⟩
  have N1 := Lib.hid hn
  have RS1 := Lib.hid hrs
  have B1 := Lib.hid hb
  clear hn hrs hb HRS
  go_wp2_with fail
  refine (zero_any v _ er g q p1 1 x1 1 l _ RS1.out rfl).mono ?_
  rintro e2 w2 ⟨y2, p2, x2, rfl, ⟨hkb, hrd⟩, hb, hn⟩
  obtain ⟨u2, hu2⟩ : ∃ u, ((wr || decide (y1 ≠ 0)) || decide (y2 ≠ 0)) = u := ⟨_, rfl⟩
  rw [hu2] at hkb
  have HU2 := Lib.hid hu2
  have N2 := Lib.hid hn
  have KB2 := Lib.hid hkb
  have RD2 := Lib.hid hrd
  have B2 := Lib.hid (B1.out.trans hb)
  clear hn hkb hrd hb hu2 RS1 B1
  obtain ⟨a0, a1, a2, a3, a4, a5, a6, a7, a8, a9, a10, a11, a12, a13, a14, a15, a16, a17, a18⟩ := KB2.out.nt
  go_wp2_with fail
  refine (rde_num (g + 1) q p2 1 x2 1 l _ RD2.out rfl).mono ?_
  rintro e3 w3 ⟨fl, p3, x3, rfl, hrd, hgr, hn, hf0, hf1⟩
  rw [show (256 : Int) ^ 1 = 256 by decide] at hf1
  have N3 := Lib.hid hn
  have KB3 := Lib.hid (KB2.out.grown hgr (by omega))
  have RD3 := Lib.hid hrd
  have B3 := Lib.hid (B2.out.trans (grown_below hgr (by omega) (by have := B2.out.size; omega)))
  clear hn hrd hgr KB2 RD2 B2 a0 a1 a2 a3 a4 a5 a6 a7 a8 a9 a10 a11 a12 a13 a14 a15 a16 a17 a18
  obtain ⟨a0, a1, a2, a3, a4, a5, a6, a7, a8, a9, a10, a11, a12, a13, a14, a15, a16, a17, a18⟩ := KB3.out.nt
  have f9 := KB3.out.frozen 9
  have f10 := KB3.out.frozen 10
  have f11 := KB3.out.frozen 11
  have f17 := KB3.out.frozen 17
  go_upto_region 5 with fail
  generalize hb1 : (bits .and .i64 fl 4 != 0) = b1 at *
  generalize hb2 : (bits .and .i64 fl 2 != 0) = b2 at *
  generalize hb3 : (bits .and .i64 fl 1 != 0) = b3 at *
  have HB1 := Lib.hid hb1
  have HB2 := Lib.hid hb2
  have HB3 := Lib.hid hb3
  have KB4 := Lib.hid (show Blk (((w3.setCell ⟨g, 9, none⟩ (.bool b1)).setCell ⟨g, 10, none⟩ (.bool b2)).setCell ⟨g, 11, none⟩ (.bool b3)) g 78 #[.pointer (some ⟨q, 0, none⟩), .int .i64 v.kind, .int .i64 v.sender, .int .i64 v.every, .int .i64 v.dead, .int .i64 v.prio, .int .i64 v.dr, .int .i64 v.bdr, .slice v.seen.a v.seen.n v.seen.c, .bool b1, .bool b2, .bool b3, .int .i64 v.seq, .slice v.heads.a v.heads.n v.heads.c, .slice v.wants.a v.wants.n v.wants.c, .slice v.lsas.a v.lsas.n v.lsas.c, .slice v.acks.a v.acks.n v.acks.c, .bool u2, .int .i64 er] from ((KB3.out.put 9 (.bool b1)).put 10 (.bool b2)).put 11 (.bool b3))
  have RD4 := Lib.hid (((RD3.out.far (p := ⟨g, 9, none⟩) (.inl (by simp)) (.bool b1)).far (p := ⟨g, 10, none⟩) (.inl (by simp)) (.bool b2)).far (p := ⟨g, 11, none⟩) (.inl (by simp)) (.bool b3))
  have B4 := Lib.hid (((B3.out.setCell (p := ⟨g, 9, none⟩) (by simp) (.bool b1)).setCell (p := ⟨g, 10, none⟩) (by simp) (.bool b2)).setCell (p := ⟨g, 11, none⟩) (by simp) (.bool b3))
  clear hb1 hb2 hb3 f9 f10 f11 f17 KB3 RD3 B3 a0 a1 a2 a3 a4 a5 a6 a7 a8 a9 a10 a11 a12 a13 a14 a15 a16 a17 a18
  generalize ((w3.setCell ⟨g, 9, none⟩ (.bool b1)).setCell ⟨g, 10, none⟩ (.bool b2)).setCell ⟨g, 11, none⟩ (.bool b3) = w4 at *
  obtain ⟨a0, a1, a2, a3, a4, a5, a6, a7, a8, a9, a10, a11, a12, a13, a14, a15, a16, a17, a18⟩ := KB4.out.nt
  have f17 := KB4.out.frozen 17
  by_cases h7 : 7 < fl
  · have HU := Lib.hid (show (u2 || decide (7 < fl)) = true by rw [decide_eq_true h7, Bool.or_true])
    have KB5 := Lib.hid (show Blk (w4.setCell ⟨g, 17, none⟩ (.bool true)) g 78 #[.pointer (some ⟨q, 0, none⟩), .int .i64 v.kind, .int .i64 v.sender, .int .i64 v.every, .int .i64 v.dead, .int .i64 v.prio, .int .i64 v.dr, .int .i64 v.bdr, .slice v.seen.a v.seen.n v.seen.c, .bool b1, .bool b2, .bool b3, .int .i64 v.seq, .slice v.heads.a v.heads.n v.heads.c, .slice v.wants.a v.wants.n v.wants.c, .slice v.lsas.a v.lsas.n v.lsas.c, .slice v.acks.a v.acks.n v.acks.c, .bool true, .int .i64 er] from KB4.out.put 17 (.bool true))
    have RD5 := Lib.hid (RD4.out.far (p := ⟨g, 17, none⟩) (.inl (by simp)) (.bool true))
    have B5 := Lib.hid (B4.out.setCell (p := ⟨g, 17, none⟩) (by simp) (.bool true))
    go_upto_region 7 with fail
    clear f17 h7 KB4 RD4 B4
    generalize w4.setCell ⟨g, 17, none⟩ (.bool true) = w5 at *
    clear a0 a1 a2 a3 a4 a5 a6 a7 a8 a9 a10 a11 a12 a13 a14 a15 a16 a17 a18
    obtain ⟨a0, a1, a2, a3, a4, a5, a6, a7, a8, a9, a10, a11, a12, a13, a14, a15, a16, a17, a18⟩ := KB5.out.nt
    have f12 := KB5.out.frozen 12
    go_wp2_with fail
    refine (rde_num (g + 1) q p3 4 x3 4 l _ RD5.out rfl).mono ?_
    rintro e6 w6 ⟨sq, p4, x4, rfl, hrd, hgr, hn, -, -⟩
    have N4 := Lib.hid hn
    have KB6 := Lib.hid (KB5.out.grown hgr (by omega))
    have RD6 := Lib.hid hrd
    have B6 := Lib.hid (B5.out.trans (grown_below hgr (by omega) (by have := B5.out.size; omega)))
    clear hn hrd hgr KB5 RD5 B5 a0 a1 a2 a3 a4 a5 a6 a7 a8 a9 a10 a11 a12 a13 a14 a15 a16 a17 a18 f12
    obtain ⟨a0, a1, a2, a3, a4, a5, a6, a7, a8, a9, a10, a11, a12, a13, a14, a15, a16, a17, a18⟩ := KB6.out.nt
    have f12 := KB6.out.frozen 12
    have KB7 := Lib.hid (show Blk (w6.setCell ⟨g, 12, none⟩ (.int .i64 sq)) g 78 #[.pointer (some ⟨q, 0, none⟩), .int .i64 v.kind, .int .i64 v.sender, .int .i64 v.every, .int .i64 v.dead, .int .i64 v.prio, .int .i64 v.dr, .int .i64 v.bdr, .slice v.seen.a v.seen.n v.seen.c, .bool b1, .bool b2, .bool b3, .int .i64 sq, .slice v.heads.a v.heads.n v.heads.c, .slice v.wants.a v.wants.n v.wants.c, .slice v.lsas.a v.lsas.n v.lsas.c, .slice v.acks.a v.acks.n v.acks.c, .bool true, .int .i64 er] from KB6.out.put 12 (.int .i64 sq))
    have RD7 := Lib.hid (RD6.out.far (p := ⟨g, 12, none⟩) (.inl (by simp)) (.int .i64 sq))
    have B7 := Lib.hid (B6.out.setCell (p := ⟨g, 12, none⟩) (by simp) (.int .i64 sq))
    go_wp2_with fail
    refine (heads_any ⟨v.kind, v.sender, v.every, v.dead, v.prio, v.dr, v.bdr, v.seen, b1, b2, b3, sq, v.heads, v.wants, v.lsas, v.acks⟩ true er g q p4 x4 l _ ⟨KB7.out, RD7.out⟩ hl).mono ?_
    rintro e8 w8 ⟨A, k, c, rfl, hk, hown, ⟨hkb, hrd⟩, hb⟩
    have OW8 := Lib.hid (own_low hown B7.out.size)
    have B8 := Lib.hid (B7.out.trans hb)
    obtain ⟨z, hz⟩ : ∃ z, (true || !okHds l p4 k) = z := ⟨_, rfl⟩
    rw [hz] at hkb
    have HZ := Lib.hid hz
    have HK := Lib.hid hk
    have KB8 := Lib.hid (show Blk w8 g 78 #[.pointer (some ⟨q, 0, none⟩), .int .i64 v.kind, .int .i64 v.sender, .int .i64 v.every, .int .i64 v.dead, .int .i64 v.prio, .int .i64 v.dr, .int .i64 v.bdr, .slice v.seen.a v.seen.n v.seen.c, .bool b1, .bool b2, .bool b3, .int .i64 sq, .slice v.heads.a v.heads.n v.heads.c, .slice v.wants.a v.wants.n v.wants.c, .slice v.lsas.a v.lsas.n v.lsas.c, .slice v.acks.a v.acks.n v.acks.c, .bool z, .int .i64 er] from hkb)
    have RD8 := Lib.hid hrd
    clear hown hb hz hk hkb hrd KB7 RD7 B7 a0 a1 a2 a3 a4 a5 a6 a7 a8 a9 a10 a11 a12 a13 a14 a15 a16 a17 a18 f12 KB6 RD6 B6
    obtain ⟨a0, a1, a2, a3, a4, a5, a6, a7, a8, a9, a10, a11, a12, a13, a14, a15, a16, a17, a18⟩ := KB8.out.nt
    have f13 := KB8.out.frozen 13
    go_wp2
    refine bodyPost_end (results_none rfl _ _ _) rfl ?_
    rw [← HQ.out]
    refine ⟨y1, y2, fl, sq, p1, p2, p3, p4, x1, x2, x3, x4, b1, b2, b3, A, k, c, rfl, N1.out, N2.out, N3.out, N4.out, HB1.out.symm, HB2.out.symm, HB3.out.symm, HK.out, own_set OW8.out ⟨g, 13, none⟩ _ hgw, ⟨?_, RD8.out.far (.inl (by simp)) _⟩, B8.out.setCell (by simp) _⟩
    rw [HU2.out, HU.out, HZ.out]
    have h9 := KB8.out.put 13 (.slice A k c)
    simp only [List.setIfInBounds_toArray, List.set_cons_zero, List.set_cons_succ] at h9
    exact h9
  · have HU := Lib.hid (show (u2 || decide (7 < fl)) = u2 by rw [decide_eq_false h7, Bool.or_false])
    have KB5 := KB4
    have RD5 := RD4
    have B5 := B4
    go_upto_region 7 with fail
    clear f17 h7 KB4 RD4 B4
    clear a0 a1 a2 a3 a4 a5 a6 a7 a8 a9 a10 a11 a12 a13 a14 a15 a16 a17 a18
    obtain ⟨a0, a1, a2, a3, a4, a5, a6, a7, a8, a9, a10, a11, a12, a13, a14, a15, a16, a17, a18⟩ := KB5.out.nt
    have f12 := KB5.out.frozen 12
    go_wp2_with fail
    refine (rde_num (g + 1) q p3 4 x3 4 l _ RD5.out rfl).mono ?_
    rintro e6 w6 ⟨sq, p4, x4, rfl, hrd, hgr, hn, -, -⟩
    have N4 := Lib.hid hn
    have KB6 := Lib.hid (KB5.out.grown hgr (by omega))
    have RD6 := Lib.hid hrd
    have B6 := Lib.hid (B5.out.trans (grown_below hgr (by omega) (by have := B5.out.size; omega)))
    clear hn hrd hgr KB5 RD5 B5 a0 a1 a2 a3 a4 a5 a6 a7 a8 a9 a10 a11 a12 a13 a14 a15 a16 a17 a18 f12
    obtain ⟨a0, a1, a2, a3, a4, a5, a6, a7, a8, a9, a10, a11, a12, a13, a14, a15, a16, a17, a18⟩ := KB6.out.nt
    have f12 := KB6.out.frozen 12
    have KB7 := Lib.hid (show Blk (w6.setCell ⟨g, 12, none⟩ (.int .i64 sq)) g 78 #[.pointer (some ⟨q, 0, none⟩), .int .i64 v.kind, .int .i64 v.sender, .int .i64 v.every, .int .i64 v.dead, .int .i64 v.prio, .int .i64 v.dr, .int .i64 v.bdr, .slice v.seen.a v.seen.n v.seen.c, .bool b1, .bool b2, .bool b3, .int .i64 sq, .slice v.heads.a v.heads.n v.heads.c, .slice v.wants.a v.wants.n v.wants.c, .slice v.lsas.a v.lsas.n v.lsas.c, .slice v.acks.a v.acks.n v.acks.c, .bool u2, .int .i64 er] from KB6.out.put 12 (.int .i64 sq))
    have RD7 := Lib.hid (RD6.out.far (p := ⟨g, 12, none⟩) (.inl (by simp)) (.int .i64 sq))
    have B7 := Lib.hid (B6.out.setCell (p := ⟨g, 12, none⟩) (by simp) (.int .i64 sq))
    go_wp2_with fail
    refine (heads_any ⟨v.kind, v.sender, v.every, v.dead, v.prio, v.dr, v.bdr, v.seen, b1, b2, b3, sq, v.heads, v.wants, v.lsas, v.acks⟩ u2 er g q p4 x4 l _ ⟨KB7.out, RD7.out⟩ hl).mono ?_
    rintro e8 w8 ⟨A, k, c, rfl, hk, hown, ⟨hkb, hrd⟩, hb⟩
    have OW8 := Lib.hid (own_low hown B7.out.size)
    have B8 := Lib.hid (B7.out.trans hb)
    obtain ⟨z, hz⟩ : ∃ z, (u2 || !okHds l p4 k) = z := ⟨_, rfl⟩
    rw [hz] at hkb
    have HZ := Lib.hid hz
    have HK := Lib.hid hk
    have KB8 := Lib.hid (show Blk w8 g 78 #[.pointer (some ⟨q, 0, none⟩), .int .i64 v.kind, .int .i64 v.sender, .int .i64 v.every, .int .i64 v.dead, .int .i64 v.prio, .int .i64 v.dr, .int .i64 v.bdr, .slice v.seen.a v.seen.n v.seen.c, .bool b1, .bool b2, .bool b3, .int .i64 sq, .slice v.heads.a v.heads.n v.heads.c, .slice v.wants.a v.wants.n v.wants.c, .slice v.lsas.a v.lsas.n v.lsas.c, .slice v.acks.a v.acks.n v.acks.c, .bool z, .int .i64 er] from hkb)
    have RD8 := Lib.hid hrd
    clear hown hb hz hk hkb hrd KB7 RD7 B7 a0 a1 a2 a3 a4 a5 a6 a7 a8 a9 a10 a11 a12 a13 a14 a15 a16 a17 a18 f12 KB6 RD6 B6
    obtain ⟨a0, a1, a2, a3, a4, a5, a6, a7, a8, a9, a10, a11, a12, a13, a14, a15, a16, a17, a18⟩ := KB8.out.nt
    have f13 := KB8.out.frozen 13
    go_wp2
    refine bodyPost_end (results_none rfl _ _ _) rfl ?_
    rw [← HQ.out]
    refine ⟨y1, y2, fl, sq, p1, p2, p3, p4, x1, x2, x3, x4, b1, b2, b3, A, k, c, rfl, N1.out, N2.out, N3.out, N4.out, HB1.out.symm, HB2.out.symm, HB3.out.symm, HK.out, own_set OW8.out ⟨g, 13, none⟩ _ hgw, ⟨?_, RD8.out.far (.inl (by simp)) _⟩, B8.out.setCell (by simp) _⟩
    rw [HU2.out, HU.out, HZ.out]
    have h9 := KB8.out.put 13 (.slice A k c)
    simp only [List.setIfInBounds_toArray, List.set_cons_zero, List.set_cons_succ] at h9
    exact h9
end Go.Proofs.Ytekhgkkgmkodmaa
