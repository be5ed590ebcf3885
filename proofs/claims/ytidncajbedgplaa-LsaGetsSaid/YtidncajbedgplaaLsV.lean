/- The call links of package lsa: a router's links, read to the end. Conditions: at most 2^20 bytes. -/
import Derived.Test.YtidncajbedgplaaLsU
namespace Go.Proofs.Ytidncajbedgplaa
open Go.RowKit

/-- The first k links. -/
def lks (l : List Int) (k : Nat) : List Lk := (List.range k).map fun j => lkAt l (4 + 12 * j)
theorem lks_length (l : List Int) (k : Nat) : (lks l k).length = k := by simp [lks]
theorem lks_succ (l : List Int) (k : Nat) : lks l (k + 1) = lks l k ++ [lkAt l (4 + 12 * k)] := by simp [lks, List.range_succ]
/-- Is the byte behind the kind 0 in the first k links? -/
def zerosB (l : List Int) (k : Nat) : Bool := (List.range k).all fun j => decide (wordAt l (4 + 12 * j + 9) 1 = 0)
theorem zerosB_succ (l : List Int) (k : Nat) : zerosB l (k + 1) = (zerosB l k && decide (wordAt l (4 + 12 * k + 9) 1 = 0)) := by
  simp [zerosB, List.range_succ]
theorem zerosB_false (l : List Int) (k n : Nat) (h : k < n) (hz : ¬ wordAt l (4 + 12 * k + 9) 1 = 0) : zerosB l n = false := by
  unfold zerosB
  rw [List.all_eq_false]
  exact ⟨k, List.mem_range.2 h, by simpa using hz⟩
/-- How many links there is room for. -/
def many (l : List Int) : Nat := (l.length - 4) / 12
/-- Are a router's links formed as told? -/
def okLinks (l : List Int) : Bool := decide (4 ≤ l.length) && (decide ((l.length : Int) = 4 + 12 * wordAt l 0 4) && zerosB l (many l))
theorem blk_new1 (w : World) (o : Obj) (t : TypeId) (cs : Array Value) : Blk ((w.alloc o).alloc (.cells cs t)) (w.heap.size + 1) t cs := by
  have := Blk.new (w.alloc o) t cs
  rwa [World.size_alloc] at this
/-- What links answers, and leaves. -/
def GotLs (w : World) (g : Nat) (L : List Lk) (is : Bool) (x : Ending) (w' : World) : Prop :=
  ∃ v, x = .returned (.tuple #[v, .bool is]) ∧ w'.ownsRow w.heap.size 53 4 v L.length (lkCells L) ∧ w.grownBy w' (some g)

set_option maxHeartbeats 8000000 in
theorem links_no (base g : Nat) (l : List Int) (w : World) (h : Rd w base g l 0) (hl : l.length ≤ 1048576) (hn : ¬ (4 ≤ l.length ∧ (l.length : Int) = 4 + 12 * wordAt l 0 4)) :
    Calls Try.prog 52 #[.pointer (some ⟨g, 0, none⟩)] w (GotLs w g [] false) := by
  generalize hQ : GotLs w g [] false = Q
  have HQ := Lib.hid hQ
  have HR := Lib.hid h
  have hg0 := h.lt.1
  clear hQ h
  by_cases h4 : 4 ≤ l.length
  · have hne : ¬ ((l.length : Int) = 4 + 12 * wordAt l 0 4) := fun e => hn ⟨h4, e⟩
    obtain ⟨d, c, _, _, _, _, _, _, _, hby⟩ := HR.out
    have hbd := wordAt_bd l hby 0 4 (by omega)
    rw [show (256 : Int) ^ 4 = 4294967296 by decide] at hbd
    clear hn hby
    go_enter Try.func52, Try.ntmps52
    go_wp2_with fail
    refine (rd_num base g 0 4 4 l _ HR.out rfl (by omega)).mono ?_
    rintro e1 w1 ⟨rfl, hrd, hgr⟩
    have RD1 := Lib.hid hrd
    have GR1 := Lib.hid hgr
    clear hrd hgr HR
    generalize wordAt l 0 4 = m at *
    go_wp2_with fail
    refine (rd_err base g _ l _ RD1.out).mono ?_
    rintro e2 w2 ⟨rfl, rfl⟩
    go_wp2_with fail
    refine (rd_left base g _ l _ RD1.out).mono ?_
    rintro e3 w3 ⟨rfl, d3, rfl⟩
    have GR2 := Lib.hid (show w.grownBy (w1.drewN d3) (some g) from ⟨GR1.out.os, GR1.out.tape, GR1.out.output, GR1.out.size, GR1.out.block⟩)
    obtain ⟨r, hr⟩ : ∃ r, l.length - (0 + 4) = r := ⟨_, rfl⟩
    rw [hr]
    have hd : ((r : Int) != m * 12) = true := by simp; omega
    have hb1 : 0 ≤ m := hbd.1
    have hb2 : m < 4294967296 := hbd.2
    clear hr hne hbd RD1 GR1
    generalize w1.drewN d3 = w3 at *
    go_wp2
    rw [← HQ.out]
    exact ⟨_, rfl, World.ownsRow_nil _ _ _ _, GR2.out⟩
  · go_enter Try.func52, Try.ntmps52
    go_wp2_with fail
    refine (rd_short base g 0 4 4 l _ HR.out rfl (by omega)).mono ?_
    rintro e1 w1 ⟨rfl, ⟨A, n, c, b, hk⟩, hgr⟩
    have KB := Lib.hid hk
    have GR1 := Lib.hid hgr
    clear hk hgr HR
    go_wp2_with fail
    refine (err_any g A n c b 3 _ KB.out).mono ?_
    rintro e2 w2 ⟨rfl, rfl⟩
    go_wp2
    rw [← HQ.out]
    exact ⟨_, rfl, World.ownsRow_nil _ _ _ _, GR1.out⟩

set_option maxHeartbeats 8000000 in
theorem links_any (base g : Nat) (l : List Int) (w : World) (h : Rd w base g l 0) (hl : l.length ≤ 1048576) (h4 : 4 ≤ l.length) (he : (l.length : Int) = 4 + 12 * wordAt l 0 4) :
    Calls Try.prog 52 #[.pointer (some ⟨g, 0, none⟩)] w (GotLs w g (if zerosB l (many l) = true then lks l (many l) else []) (zerosB l (many l))) := by
  generalize hQ : GotLs w g (if zerosB l (many l) = true then lks l (many l) else []) (zerosB l (many l)) = Q
  have HQ := Lib.hid hQ
  have HR := Lib.hid h
  have hg0 := h.lt.1
  obtain ⟨m, hm⟩ : ∃ m, many l = m := ⟨_, rfl⟩
  have hml : l.length = 4 + 12 * m := by rw [← hm]; unfold many; omega
  have hw : wordAt l 0 4 = (m : Int) := by omega
  have HML := Lib.hid hml
  have HW := Lib.hid hw
  have HMM := Lib.hid hm
  clear hQ h hm
  go_enter Try.func52, Try.ntmps52
  go_wp2_with fail
  refine (rd_num base g 0 4 4 l _ HR.out rfl (by omega)).mono ?_
  rintro e1 w1 ⟨rfl, hrd, hgr⟩
  have RD1 := Lib.hid hrd
  have GR1 := Lib.hid hgr
  rw [HW.out]
  clear hrd hgr HR hw he
  go_wp2_with fail
  refine (rd_err base g _ l _ RD1.out).mono ?_
  rintro e2 w2 ⟨rfl, rfl⟩
  go_wp2_with fail
  refine (rd_left base g _ l _ RD1.out).mono ?_
  rintro e3 w3 ⟨rfl, d3, rfl⟩
  have GR2 := Lib.hid (show w.grownBy (w1.drewN d3) (some g) from ⟨GR1.out.os, GR1.out.tape, GR1.out.output, GR1.out.size, GR1.out.block⟩)
  have RD2 := Lib.hid (show Rd (w1.drewN d3) base g l (4 + 12 * 0) from RD1.out)
  obtain ⟨r, hr⟩ : ∃ r, l.length - (0 + 4) = r := ⟨_, rfl⟩
  rw [hr]
  have hd : ((r : Int) != (m : Int) * 12) = false := by simp; omega
  have hm2 : m ≤ 1048576 := by omega
  clear hr RD1 GR1 hml h4
  generalize w1.drewN d3 = w3 at *
  go_wp2_with fail
  clear hd
  go_loopw [5, 21] (fun v i wr => ∃ k : Nat, k ≤ m ∧ i = .int .i64 k ∧ Hid (Rd wr base g l (4 + 12 * k)) ∧ Hid (wr.ownsRow w.heap.size 53 4 v k (lkCells (lks l k))) ∧ Hid (w.grownBy wr (some g)) ∧ Hid (zerosB l k = true)) (fun _ i _ => m - (intOf i).toNat)
  case atStart => exact ⟨0, Nat.zero_le _, rfl, RD2, Lib.hid (World.ownsRow_nil _ _ _ _), GR2, Lib.hid rfl⟩
  case round =>
    clear RD2 GR2
    obtain ⟨k, hk, rfl, hr, ho, hg, hz⟩ := hrel
    by_cases hlt : k < m
    · go_wp2_with fail
      refine (link_any base g (4 + 12 * k) l _ hr.out (by have := HML.out; omega)).mono ?_
      rintro e4 w4 ⟨rfl, hrd, hgr⟩
      have RD4 := Lib.hid hrd
      have OW4 := Lib.hid (own_grown ho.out hgr hg0)
      have GR4 := Lib.hid (grown_trans hg.out hgr)
      have hsz4 := GR4.out.size
      clear hrd hgr hr ho hg
      generalize hkk : lkAt l (4 + 12 * k) = kk at *
      have HKK := Lib.hid hkk
      clear hkk
      by_cases h0 : wordAt l (4 + 12 * k + 9) 1 = 0
      · rw [decide_eq_true h0]
        have HZ := Lib.hid (show zerosB l (k + 1) = true by rw [zerosB_succ, hz.out, decide_eq_true h0]; rfl)
        clear h0 hz
        go_wp2_with (at_builtin; refine wpList_append_new rfl (.tmp 30) (.tmp 32) 24 53 (.agg #[.int .i64 0, .int .i64 0, .int .i64 0, .int .i64 0]) 4 32 Try.underlying24 Try.info53 rfl (by decide) (by decide) rfl w.heap.size _ k _ (by rfl) (by exact (OW4.out.alloc _).alloc _) (w4.heap.size + 1) [.int .i64 kk.kind, .int .i64 kk.id, .int .i64 kk.data, .int .i64 kk.cost] (by rfl) rfl (by exact blk_new1 w4 _ 53 _) (by exact lkCells_one kk) (by omega) (by simp; omega) ?_; intro v5 w5 ho5 hg5)
        go_roundw
        case rel =>
          refine ⟨k + 1, by omega, by go_num, Lib.hid ?_, Lib.hid ?_, Lib.hid ?_, HZ⟩
          · have h1 := rd_grown ((RD4.out.alloc _).alloc _) ((OW4.out.alloc _).alloc _) hg5.out hg0 (by simp; omega)
            rw [show 4 + 12 * (k + 1) = 4 + 12 * k + 12 from by omega]
            exact h1
          · have h1 := ho5.out
            rw [lks_succ, HKK.out, lkCells_snoc]
            exact h1
          · exact grown_own (grown_alloc (grown_alloc GR4.out _) _) ((OW4.out.alloc _).alloc _) hg5.out
        case measure => simp [intOf]; omega
      · rw [decide_eq_false h0]
        have HZ := Lib.hid (zerosB_false l k m hlt h0)
        clear h0
        go_wp2
        rw [← HQ.out, HMM.out, HZ.out]
        refine ⟨_, rfl, World.ownsRow_nil _ _ _ _, grown_alloc GR4.out _⟩
    · obtain rfl : k = m := by omega
      have HZ := Lib.hid hz.out
      go_wp2
      rw [← HQ.out, HMM.out, HZ.out]
      refine ⟨_, rfl, ?_, hg.out⟩
      rw [if_pos rfl, lks_length]
      exact ho.out
end Go.Proofs.Ytidncajbedgplaa
