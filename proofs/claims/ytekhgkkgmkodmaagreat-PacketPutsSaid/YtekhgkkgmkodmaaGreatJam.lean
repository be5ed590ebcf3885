/- The calls slices.Equal and EqualFunc, sameHello, sameDd and Same of package packet, where the second one has the same parts, or none. Conditions: lists read as such. · The calls sameHello, sameDd and Same of package packet, where the second one has the same parts, or none. Conditions: lists read as such. · The calls of package packet that put a kind's part into bytes. Conditions: lists read as such, and aren't long. -/
import Derived.Test.YtekhgkkgmkodmaaGreatJal
namespace Go.Proofs.YtekhgkkgmkodmaaGreat
open Go.RowKit

set_option maxRecDepth 4000 in
set_option maxHeartbeats 1000000 in
theorem equalI_nil (A A' : Option Addr) (n c c' : Nat) (w : World) (hn : n ≤ maxLen) :
    Calls Tryz.prog 74 #[.slice A n c, .slice A' 0 c'] w fun e w' => e = .returned (.bool (decide (n = 0))) ∧ Below w.heap.size w w' := by
  unfold maxLen at hn
  by_cases h0 : n = 0
  · subst h0
    go_enter Tryz.func74, Tryz.ntmps74
    go_wp2
    go_loopw [13] (fun i wr => i = .int .i64 0 ∧ wr = w) (fun _ _ => 0)
    case atStart => exact ⟨rfl, rfl⟩
    case round =>
      obtain ⟨rfl, rfl⟩ := hrel
      go_wp2
      go_ret
      exact ⟨rfl, Below.refl _ _⟩
  · have HE := Lib.hid (show decide (n = 0) = false by simp [h0])
    have hp : 0 < n := by omega
    clear h0
    go_enter Tryz.func74, Tryz.ntmps74
    go_wp2
    go_ret
    exact ⟨ret_bool HE.out.symm, Below.refl _ _⟩
set_option maxRecDepth 4000 in
set_option maxHeartbeats 1000000 in
theorem equalK_nil (A A' : Option Addr) (n c c' : Nat) (w : World) (hn : n ≤ maxLen) :
    Calls Tryz.prog 43 #[.slice A n c, .slice A' 0 c'] w fun e w' => e = .returned (.bool (decide (n = 0))) ∧ Below w.heap.size w w' := by
  unfold maxLen at hn
  by_cases h0 : n = 0
  · subst h0
    go_enter Tryz.func43, Tryz.ntmps43
    go_wp2
    go_loopw [13] (fun i wr => i = .int .i64 0 ∧ wr = w) (fun _ _ => 0)
    case atStart => exact ⟨rfl, rfl⟩
    case round =>
      obtain ⟨rfl, rfl⟩ := hrel
      go_wp2
      go_ret
      exact ⟨rfl, Below.refl _ _⟩
  · have HE := Lib.hid (show decide (n = 0) = false by simp [h0])
    have hp : 0 < n := by omega
    clear h0
    go_enter Tryz.func43, Tryz.ntmps43
    go_wp2
    go_ret
    exact ⟨ret_bool HE.out.symm, Below.refl _ _⟩
set_option maxRecDepth 4000 in
set_option maxHeartbeats 1000000 in
theorem equalH_nil (A A' : Option Addr) (n c c' : Nat) (w : World) (hn : n ≤ maxLen) :
    Calls Tryz.prog 46 #[.slice A n c, .slice A' 0 c'] w fun e w' => e = .returned (.bool (decide (n = 0))) ∧ Below w.heap.size w w' := by
  unfold maxLen at hn
  by_cases h0 : n = 0
  · subst h0
    go_enter Tryz.func46, Tryz.ntmps46
    go_wp2
    go_loopw [13] (fun i wr => i = .int .i64 0 ∧ wr = w) (fun _ _ => 0)
    case atStart => exact ⟨rfl, rfl⟩
    case round =>
      obtain ⟨rfl, rfl⟩ := hrel
      go_wp2
      go_ret
      exact ⟨rfl, Below.refl _ _⟩
  · have HE := Lib.hid (show decide (n = 0) = false by simp [h0])
    have hp : 0 < n := by omega
    clear h0
    go_enter Tryz.func46, Tryz.ntmps46
    go_wp2
    go_ret
    exact ⟨ret_bool HE.out.symm, Below.refl _ _⟩
set_option maxRecDepth 4000 in
set_option maxHeartbeats 2000000 in
theorem equalK_yes (A A' : Option Addr) (n c c' B B' : Nat) (L : List Ky) (w : World) (hr : Kys w B A n L) (hr' : Kys w B' A' n L) (hn : n ≤ maxLen) :
    Calls Tryz.prog 43 #[.slice A n c, .slice A' n c'] w fun e w' => e = .returned (.bool true) ∧ Below w.heap.size w w' := by
  unfold maxLen at hn
  have HR := Lib.hid hr
  have HR' := Lib.hid hr'
  clear hr hr'
  go_enter Tryz.func43, Tryz.ntmps43
  go_wp2
  go_loopw [13] (fun i wr => ∃ k d : Nat, k ≤ n ∧ i = .int .i64 k ∧ wr = w.drewN d) (fun i _ => n - (intOf i).toNat)
  case atStart => exact ⟨0, 0, Nat.zero_le _, rfl, rfl⟩
  case round =>
    obtain ⟨k, d, hk, rfl, rfl⟩ := hrel
    by_cases hlt : k < n
    · obtain ⟨b, o, x, rfl, hb, hx, hat⟩ := Arr.at HR.out hlt
      obtain ⟨b', o', y, rfl, hb', hy, hat'⟩ := Arr.at HR'.out hlt
      obtain rfl : x = y := by rw [hx] at hy; exact Option.some.inj hy
      obtain ⟨x0, x1, x2, -, -⟩ := hat
      obtain ⟨y0, y1, y2, -, -⟩ := hat'
      clear hx hy
      have hlt' : (k : Int) < n := by omega
      go_wp2
      go_quiet (fail)
      go_wp2
      go_roundw
      case rel => exact ⟨k + 1, _, by omega, by go_num, rfl⟩
      case measure => simp [intOf]; omega
    · go_wp2
      go_ret
      exact ⟨rfl, below_drewN (Below.refl _ _) _⟩
set_option maxRecDepth 4000 in
set_option maxHeartbeats 2000000 in
theorem equalH_yes (A A' : Option Addr) (n c c' B B' : Nat) (L : List Hd) (w : World) (hr : Hds w B A n L) (hr' : Hds w B' A' n L) (hn : n ≤ maxLen) :
    Calls Tryz.prog 46 #[.slice A n c, .slice A' n c'] w fun e w' => e = .returned (.bool true) ∧ Below w.heap.size w w' := by
  unfold maxLen at hn
  have HR := Lib.hid hr
  have HR' := Lib.hid hr'
  clear hr hr'
  go_enter Tryz.func46, Tryz.ntmps46
  go_wp2
  go_loopw [13] (fun i wr => ∃ k d : Nat, k ≤ n ∧ i = .int .i64 k ∧ wr = w.drewN d) (fun i _ => n - (intOf i).toNat)
  case atStart => exact ⟨0, 0, Nat.zero_le _, rfl, rfl⟩
  case round =>
    obtain ⟨k, d, hk, rfl, rfl⟩ := hrel
    by_cases hlt : k < n
    · obtain ⟨b, o, x, rfl, hb, hx, hat⟩ := Arr.at HR.out hlt
      obtain ⟨b', o', y, rfl, hb', hy, hat'⟩ := Arr.at HR'.out hlt
      obtain rfl : x = y := by rw [hx] at hy; exact Option.some.inj hy
      obtain ⟨x0, x1, x2, x3, x4, x5, x6⟩ := hat
      obtain ⟨y0, y1, y2, y3, y4, y5, y6⟩ := hat'
      clear hx hy
      have hlt' : (k : Int) < n := by omega
      go_wp2
      go_quiet (fail)
      go_wp2
      go_roundw
      case rel => exact ⟨k + 1, _, by omega, by go_num, rfl⟩
      case measure => simp [intOf]; omega
    · go_wp2
      go_ret
      exact ⟨rfl, below_drewN (Below.refl _ _) _⟩
set_option maxRecDepth 4000 in
set_option maxHeartbeats 1000000 in
theorem equalF_nil (A A' : Option Addr) (n c c' : Nat) (w : World) (hn : n ≤ maxLen) :
    Calls Tryz.prog 44 #[.slice A n c, .slice A' 0 c', .func (.func 45) #[] #[]] w fun e w' => e = .returned (.bool (decide (n = 0))) ∧ Below w.heap.size w w' := by
  unfold maxLen at hn
  by_cases h0 : n = 0
  · subst h0
    go_enter Tryz.func44, Tryz.ntmps44
    go_wp2
    go_loopw [17] (fun i wr => i = .int .i64 0 ∧ wr = w) (fun _ _ => 0)
    case atStart => exact ⟨rfl, rfl⟩
    case round =>
      obtain ⟨rfl, rfl⟩ := hrel
      go_wp2
      go_ret
      exact ⟨rfl, Below.refl _ _⟩
  · have HE := Lib.hid (show decide (n = 0) = false by simp [h0])
    have hp : 0 < n := by omega
    clear h0
    go_enter Tryz.func44, Tryz.ntmps44
    go_wp2
    go_ret
    exact ⟨ret_bool HE.out.symm, Below.refl _ _⟩
set_option maxRecDepth 4000 in
set_option maxHeartbeats 4000000 in
theorem equalF_yes (A A' : Option Addr) (n c c' B B' : Nat) (L : List La) (w : World) (hr : Las w B A n L) (hr' : Las w B' A' n L) (hB : B ≤ w.heap.size) (hB' : B' ≤ w.heap.size) (hn : n ≤ maxLen) :
    Calls Tryz.prog 44 #[.slice A n c, .slice A' n c', .func (.func 45) #[] #[]] w fun e w' => e = .returned (.bool true) ∧ Below w.heap.size w w' := by
  unfold maxLen at hn
  have HR := Lib.hid hr
  have HR' := Lib.hid hr'
  clear hr hr'
  go_enter Tryz.func44, Tryz.ntmps44
  go_wp2
  go_loopw [17] (fun i wr => ∃ k : Nat, k ≤ n ∧ i = .int .i64 k ∧ Hid (Below w.heap.size w wr)) (fun i _ => n - (intOf i).toNat)
  case atStart => exact ⟨0, Nat.zero_le _, rfl, Lib.hid (Below.refl _ _)⟩
  case round =>
    obtain ⟨k, hk, rfl, hb⟩ := hrel
    by_cases hlt : k < n
    · obtain ⟨b, o, x, rfl, hbb, hx, hat⟩ := Arr.at (HR.out.below (hb.out.mono hB)) hlt
      obtain ⟨b', o', y, rfl, hbb', hy, hat'⟩ := Arr.at (HR'.out.below (hb.out.mono hB')) hlt
      obtain rfl : x = y := by rw [hx] at hy; exact Option.some.inj hy
      obtain ⟨⟨x0, x1, x2, x3, x4, x5, x6⟩, Ax, nx, cx, Ax', nx', cx', x7, x8, hLx, hMx, hnx, hnx'⟩ := hat
      obtain ⟨⟨y0, y1, y2, y3, y4, y5, y6⟩, Ay, ny, cy, Ay', ny', cy', y7, y8, hLy, hMy, hny, hny'⟩ := hat'
      obtain rfl : nx = ny := hLx.1.symm.trans hLy.1
      obtain rfl : nx' = ny' := hMx.1.symm.trans hMy.1
      have HLx := Lib.hid hLx
      have HMx := Lib.hid hMx
      have HLy := Lib.hid hLy
      have HMy := Lib.hid hMy
      have HNx := Lib.hid hnx
      have HNx' := Lib.hid hnx'
      unfold maxLen at hnx hnx'
      have hsz := hb.out.size
      clear hx hy hLx hMx hLy hMy hny hny'
      have hbw : b' < wr.heap.size := by omega
      have hlt' : (k : Int) < n := by omega
      go_wp2_with fail
      refine (same_hdL x.h x.h x.L x.M Ax Ax' Ay Ay' nx cx nx' cx' cy cy' B B' _ ((HLx.out.alloc (by omega) _).alloc (by simp; omega) _) ((HMx.out.alloc (by omega) _).alloc (by simp; omega) _) ((HLy.out.alloc (by omega) _).alloc (by simp; omega) _) ((HMy.out.alloc (by omega) _).alloc (by simp; omega) _) (by simp; omega) (by simp; omega) HNx.out HNx'.out).mono ?_
      rintro e2 w2 ⟨rfl, hb2⟩
      rw [show sameHd x.h x.h = true from (sameHd_iff _ _).2 rfl]
      have HB2 := Lib.hid (((hb.out.alloc hsz _).alloc (by simp; omega) _).trans (hb2.mono (by simp; omega)))
      clear hb2 x0 x1 x2 x3 x4 x5 x6 x7 x8 y0 y1 y2 y3 y4 y5 y6 y7 y8
      go_wp2
      go_roundw
      case rel => exact ⟨k + 1, by omega, by go_num, HB2⟩
      case measure => simp [intOf]; omega
    · go_wp2
      go_ret
      exact ⟨rfl, hb.out⟩
end Go.Proofs.YtekhgkkgmkodmaaGreat
namespace Go.Proofs.YtekhgkkgmkodmaaGreat
open Go.RowKit

theorem Blk.sixteen {w : World} {g : Nat} {t : TypeId} {a0 a1 a2 a3 a4 a5 a6 a7 a8 a9 a10 a11 a12 a13 a14 a15 : Value} (h : Blk w g t #[a0, a1, a2, a3, a4, a5, a6, a7, a8, a9, a10, a11, a12, a13, a14, a15]) :
    w.cell? ⟨g, 0, none⟩ = some a0 ∧ w.cell? ⟨g, 1, none⟩ = some a1 ∧ w.cell? ⟨g, 2, none⟩ = some a2 ∧ w.cell? ⟨g, 3, none⟩ = some a3 ∧ w.cell? ⟨g, 4, none⟩ = some a4 ∧ w.cell? ⟨g, 5, none⟩ = some a5 ∧ w.cell? ⟨g, 6, none⟩ = some a6 ∧ w.cell? ⟨g, 7, none⟩ = some a7 ∧ w.cell? ⟨g, 8, none⟩ = some a8 ∧ w.cell? ⟨g, 9, none⟩ = some a9 ∧ w.cell? ⟨g, 10, none⟩ = some a10 ∧ w.cell? ⟨g, 11, none⟩ = some a11 ∧ w.cell? ⟨g, 12, none⟩ = some a12 ∧ w.cell? ⟨g, 13, none⟩ = some a13 ∧ w.cell? ⟨g, 14, none⟩ = some a14 ∧ w.cell? ⟨g, 15, none⟩ = some a15 :=
  ⟨h.cell 0, h.cell 1, h.cell 2, h.cell 3, h.cell 4, h.cell 5, h.cell 6, h.cell 7, h.cell 8, h.cell 9, h.cell 10, h.cell 11, h.cell 12, h.cell 13, h.cell 14, h.cell 15⟩
theorem Blk.sixteenF {w : World} {g : Nat} {t : TypeId} {cs : Array Value} (h : Blk w g t cs) :
    w.frozen? ⟨g, 0, none⟩ = false ∧ w.frozen? ⟨g, 1, none⟩ = false ∧ w.frozen? ⟨g, 2, none⟩ = false ∧ w.frozen? ⟨g, 3, none⟩ = false ∧ w.frozen? ⟨g, 4, none⟩ = false ∧ w.frozen? ⟨g, 5, none⟩ = false ∧ w.frozen? ⟨g, 6, none⟩ = false ∧ w.frozen? ⟨g, 7, none⟩ = false ∧ w.frozen? ⟨g, 8, none⟩ = false ∧ w.frozen? ⟨g, 9, none⟩ = false ∧ w.frozen? ⟨g, 10, none⟩ = false ∧ w.frozen? ⟨g, 11, none⟩ = false ∧ w.frozen? ⟨g, 12, none⟩ = false ∧ w.frozen? ⟨g, 13, none⟩ = false ∧ w.frozen? ⟨g, 14, none⟩ = false ∧ w.frozen? ⟨g, 15, none⟩ = false :=
  ⟨h.frozen 0, h.frozen 1, h.frozen 2, h.frozen 3, h.frozen 4, h.frozen 5, h.frozen 6, h.frozen 7, h.frozen 8, h.frozen 9, h.frozen 10, h.frozen 11, h.frozen 12, h.frozen 13, h.frozen 14, h.frozen 15⟩

theorem blk_new2 (w : World) (o o2 : Obj) (t : TypeId) (cs : Array Value) : Blk (((w.alloc o).alloc o2).alloc (.cells cs t)) (w.heap.size + 1 + 1) t cs := by
  have := Blk.new ((w.alloc o).alloc o2) t cs
  simpa using this
/-- A slice's value. -/
structure Sl where
  a : Option Addr
  n : Nat
  c : Nat
/-- A packet's value: its numbers, and where its lists lie. -/
structure Pv where
  kind : Int
  sender : Int
  every : Int
  dead : Int
  prio : Int
  dr : Int
  bdr : Int
  seen : Sl
  ini : Bool
  mor : Bool
  mas : Bool
  seq : Int
  heads : Sl
  wants : Sl
  lsas : Sl
  acks : Sl
/-- A packet's lists. -/
structure Pl where
  seen : List Int
  heads : List Hd
  wants : List Ky
  lsas : List La
  acks : List Hd
/-- The lists of v read as l. -/
def PkIn (w : World) (B : Nat) (v : Pv) (l : Pl) : Prop :=
  Row .i64 w B v.seen.a v.seen.n l.seen ∧ Hds w B v.heads.a v.heads.n l.heads ∧ Kys w B v.wants.a v.wants.n l.wants ∧ Las w B v.lsas.a v.lsas.n l.lsas ∧ Hds w B v.acks.a v.acks.n l.acks
/-- No list is too long. -/
def PkSm (v : Pv) : Prop := v.seen.n ≤ maxLen ∧ v.heads.n ≤ maxLen ∧ v.wants.n ≤ maxLen ∧ v.lsas.n ≤ maxLen ∧ v.acks.n ≤ maxLen ∧ -9223372036854775808 ≤ v.seq ∧ v.seq ≤ 9223372036854775807
theorem PkIn.below {w w' : World} {B : Nat} {v : Pv} {l : Pl} (h : PkIn w B v l) (hb : Below B w w') : PkIn w' B v l :=
  ⟨h.1.below hb, h.2.1.below hb, h.2.2.1.below hb, h.2.2.2.1.below hb, h.2.2.2.2.below hb⟩
theorem PkIn.alloc {w : World} {B : Nat} {v : Pv} {l : Pl} (h : PkIn w B v l) (hB : B ≤ w.heap.size) (o : Obj) : PkIn (w.alloc o) B v l :=
  ⟨h.1.alloc hB o, h.2.1.alloc hB o, h.2.2.1.alloc hB o, h.2.2.2.1.alloc hB o, h.2.2.2.2.alloc hB o⟩
theorem PkIn.more {w : World} {B B' : Nat} {v : Pv} {l : Pl} (h : PkIn w B v l) (hB : B ≤ B') : PkIn w B' v l :=
  ⟨h.1.more hB, h.2.1.more hB, h.2.2.1.more hB, h.2.2.2.1.more hB, h.2.2.2.2.more hB⟩

/-- Has a Hello, a Dd, nothing? -/
def zeroH (e d p dr bdr : Int) (S : List Int) : Bool := decide (e = 0) && (decide (d = 0) && (decide (p = 0) && (decide (dr = 0) && (decide (bdr = 0) && decide (S.length = 0)))))
def zeroD (i m s : Bool) (q : Int) (L : List Hd) : Bool := !i && (!m && (!s && (decide (q = 0) && decide (L.length = 0))))

set_option maxRecDepth 4000 in
set_option maxHeartbeats 4000000 in
theorem sameHello_yes (e d p dr bdr : Int) (A A2 : Option Addr) (n c c2 B B2 : Nat) (S : List Int) (w : World) (hS : Row .i64 w B A n S) (hS2 : Row .i64 w B2 A2 n S) (hB : B ≤ w.heap.size) (hB2 : B2 ≤ w.heap.size) (hn : n ≤ maxLen) :
    Calls Tryz.prog 41 #[.agg #[.int .i64 e, .int .i64 d, .int .i64 p, .int .i64 dr, .int .i64 bdr, .slice A n c], .agg #[.int .i64 e, .int .i64 d, .int .i64 p, .int .i64 dr, .int .i64 bdr, .slice A2 n c2]] w fun x w' => x = .returned (.bool true) ∧ Below w.heap.size w w' := by
  have H1 := Lib.hid hS
  have H2 := Lib.hid hS2
  have H3 := Lib.hid hn
  clear hS hS2
  go_enter Tryz.func41, Tryz.ntmps41
  go_wp2_with fail
  refine (equalI_yes A A2 n c c2 B B2 S _ ((H1.out.alloc hB _).alloc (by simp; omega) _) ((H2.out.alloc hB2 _).alloc (by simp; omega) _) H3.out).mono ?_
  rintro e1 w1 ⟨rfl, d1, rfl⟩
  go_wp2
  go_ret
  exact ⟨rfl, below_drewN (((Below.refl _ _).alloc (Nat.le_refl _) _).alloc (by simp) _) _⟩
set_option maxRecDepth 4000 in
set_option maxHeartbeats 4000000 in
theorem sameHello_zero (e d p dr bdr : Int) (A A2 : Option Addr) (n c c2 : Nat) (S : List Int) (w : World) (hS : S.length = n) (hn : n ≤ maxLen) :
    Calls Tryz.prog 41 #[.agg #[.int .i64 e, .int .i64 d, .int .i64 p, .int .i64 dr, .int .i64 bdr, .slice A n c], .agg #[.int .i64 0, .int .i64 0, .int .i64 0, .int .i64 0, .int .i64 0, .slice A2 0 c2]] w fun x w' => x = .returned (.bool (zeroH e d p dr bdr S)) ∧ Below w.heap.size w w' := by
  have H1 := Lib.hid hS
  have H3 := Lib.hid hn
  clear hS
  by_cases hce : e = 0
  · subst hce
    by_cases hcd : d = 0
    · subst hcd
      by_cases hcp : p = 0
      · subst hcp
        by_cases hcdr : dr = 0
        · subst hcdr
          by_cases hcbdr : bdr = 0
          · subst hcbdr
            go_enter Tryz.func41, Tryz.ntmps41
            go_wp2_with fail
            refine (equalI_nil A A2 n c c2 _ H3.out).mono ?_
            rintro e1 w1 ⟨rfl, hb1⟩
            have HB := Lib.hid ((((Below.refl w.heap.size w).alloc (Nat.le_refl _) _).alloc (by simp) _).trans (hb1.mono (by simp; omega)))
            clear hb1
            have HE := Lib.hid (show zeroH 0 0 0 0 0 S = decide (n = 0) by simp [zeroH, H1.out])
            go_wp2
            go_ret
            exact ⟨ret_bool HE.out.symm, HB.out⟩
          · have hd : (bdr == 0) = false := by simp [hcbdr]
            have HE := Lib.hid (show zeroH 0 0 0 0 bdr S = false by simp [zeroH, hcbdr])
            clear hcbdr
            go_enter Tryz.func41, Tryz.ntmps41
            go_wp2
            go_ret
            exact ⟨ret_bool HE.out.symm, ((Below.refl _ _).alloc (Nat.le_refl _) _).alloc (by simp) _⟩
        · have hd : (dr == 0) = false := by simp [hcdr]
          have HE := Lib.hid (show zeroH 0 0 0 dr bdr S = false by simp [zeroH, hcdr])
          clear hcdr
          go_enter Tryz.func41, Tryz.ntmps41
          go_wp2
          go_ret
          exact ⟨ret_bool HE.out.symm, ((Below.refl _ _).alloc (Nat.le_refl _) _).alloc (by simp) _⟩
      · have hd : (p == 0) = false := by simp [hcp]
        have HE := Lib.hid (show zeroH 0 0 p dr bdr S = false by simp [zeroH, hcp])
        clear hcp
        go_enter Tryz.func41, Tryz.ntmps41
        go_wp2
        go_ret
        exact ⟨ret_bool HE.out.symm, ((Below.refl _ _).alloc (Nat.le_refl _) _).alloc (by simp) _⟩
    · have hd : (d == 0) = false := by simp [hcd]
      have HE := Lib.hid (show zeroH 0 d p dr bdr S = false by simp [zeroH, hcd])
      clear hcd
      go_enter Tryz.func41, Tryz.ntmps41
      go_wp2
      go_ret
      exact ⟨ret_bool HE.out.symm, ((Below.refl _ _).alloc (Nat.le_refl _) _).alloc (by simp) _⟩
  · have hd : (e == 0) = false := by simp [hce]
    have HE := Lib.hid (show zeroH e d p dr bdr S = false by simp [zeroH, hce])
    clear hce
    go_enter Tryz.func41, Tryz.ntmps41
    go_wp2
    go_ret
    exact ⟨ret_bool HE.out.symm, ((Below.refl _ _).alloc (Nat.le_refl _) _).alloc (by simp) _⟩

set_option maxRecDepth 4000 in
set_option maxHeartbeats 4000000 in
theorem sameDd_yes (i m s : Bool) (q : Int) (A A2 : Option Addr) (n c c2 B B2 : Nat) (L : List Hd) (w : World) (hS : Hds w B A n L) (hS2 : Hds w B2 A2 n L) (hB : B ≤ w.heap.size) (hB2 : B2 ≤ w.heap.size) (hn : n ≤ maxLen) :
    Calls Tryz.prog 42 #[.agg #[.bool i, .bool m, .bool s, .int .i64 q, .slice A n c], .agg #[.bool i, .bool m, .bool s, .int .i64 q, .slice A2 n c2]] w fun x w' => x = .returned (.bool true) ∧ Below w.heap.size w w' := by
  have H1 := Lib.hid hS
  have H2 := Lib.hid hS2
  have H3 := Lib.hid hn
  clear hS hS2
  go_enter Tryz.func42, Tryz.ntmps42
  go_wp2_with fail
  refine (equalH_yes A A2 n c c2 B B2 L _ ((H1.out.alloc hB _).alloc (by simp; omega) _) ((H2.out.alloc hB2 _).alloc (by simp; omega) _) H3.out).mono ?_
  rintro e1 w1 ⟨rfl, hb1⟩
  have HB := Lib.hid ((((Below.refl w.heap.size w).alloc (Nat.le_refl _) _).alloc (by simp) _).trans (hb1.mono (by simp; omega)))
  clear hb1
  go_wp2
  go_ret
  exact ⟨rfl, HB.out⟩
set_option maxRecDepth 4000 in
set_option maxHeartbeats 4000000 in
theorem sameDd_zero (i m s : Bool) (q : Int) (A A2 : Option Addr) (n c c2 : Nat) (L : List Hd) (w : World) (hS : L.length = n) (hn : n ≤ maxLen) :
    Calls Tryz.prog 42 #[.agg #[.bool i, .bool m, .bool s, .int .i64 q, .slice A n c], .agg #[.bool false, .bool false, .bool false, .int .i64 0, .slice A2 0 c2]] w fun x w' => x = .returned (.bool (zeroD i m s q L)) ∧ Below w.heap.size w w' := by
  have H1 := Lib.hid hS
  have H3 := Lib.hid hn
  clear hS
  cases i
  · cases m
    · cases s
      · by_cases hq : q = 0
        · subst hq
          have HE := Lib.hid (show zeroD false false false 0 L = decide (n = 0) by simp [zeroD, H1.out])
          go_enter Tryz.func42, Tryz.ntmps42
          go_wp2_with fail
          refine (equalH_nil A A2 n c c2 _ H3.out).mono ?_
          rintro e1 w1 ⟨rfl, hb1⟩
          have HB := Lib.hid ((((Below.refl w.heap.size w).alloc (Nat.le_refl _) _).alloc (by simp) _).trans (hb1.mono (by simp; omega)))
          clear hb1
          go_wp2
          go_ret
          exact ⟨ret_bool HE.out.symm, HB.out⟩
        · have hd : (q == 0) = false := by simp [hq]
          have HE := Lib.hid (show zeroD false false false q L = false by simp [zeroD, hq])
          clear hq
          go_enter Tryz.func42, Tryz.ntmps42
          go_wp2
          go_ret
          exact ⟨ret_bool HE.out.symm, ((Below.refl _ _).alloc (Nat.le_refl _) _).alloc (by simp) _⟩
      · have HE := Lib.hid (show zeroD false false true q L = false by simp [zeroD])
        go_enter Tryz.func42, Tryz.ntmps42
        go_wp2
        go_ret
        exact ⟨ret_bool HE.out.symm, ((Below.refl _ _).alloc (Nat.le_refl _) _).alloc (by simp) _⟩
    · have HE := Lib.hid (show zeroD false true s q L = false by simp [zeroD])
      go_enter Tryz.func42, Tryz.ntmps42
      go_wp2
      go_ret
      exact ⟨ret_bool HE.out.symm, ((Below.refl _ _).alloc (Nat.le_refl _) _).alloc (by simp) _⟩
  · have HE := Lib.hid (show zeroD true m s q L = false by simp [zeroD])
    go_enter Tryz.func42, Tryz.ntmps42
    go_wp2
    go_ret
    exact ⟨ret_bool HE.out.symm, ((Below.refl _ _).alloc (Nat.le_refl _) _).alloc (by simp) _⟩

/-- The second packet's parts are those of the first one, or none. -/
def RelH (w : World) (B2 : Nat) (v v2 : Pv) (l : Pl) : Bool → Prop
  | true => v2.every = v.every ∧ v2.dead = v.dead ∧ v2.prio = v.prio ∧ v2.dr = v.dr ∧ v2.bdr = v.bdr ∧ v2.seen.n = v.seen.n ∧ Row .i64 w B2 v2.seen.a v.seen.n l.seen
  | false => v2.every = 0 ∧ v2.dead = 0 ∧ v2.prio = 0 ∧ v2.dr = 0 ∧ v2.bdr = 0 ∧ v2.seen.n = 0
def RelD (w : World) (B2 : Nat) (v v2 : Pv) (l : Pl) : Bool → Prop
  | true => v2.ini = v.ini ∧ v2.mor = v.mor ∧ v2.mas = v.mas ∧ v2.seq = v.seq ∧ v2.heads.n = v.heads.n ∧ Hds w B2 v2.heads.a v.heads.n l.heads
  | false => v2.ini = false ∧ v2.mor = false ∧ v2.mas = false ∧ v2.seq = 0 ∧ v2.heads.n = 0
def RelW (w : World) (B2 : Nat) (v v2 : Pv) (l : Pl) : Bool → Prop
  | true => v2.wants.n = v.wants.n ∧ Kys w B2 v2.wants.a v.wants.n l.wants
  | false => v2.wants.n = 0
def RelL (w : World) (B2 : Nat) (v v2 : Pv) (l : Pl) : Bool → Prop
  | true => v2.lsas.n = v.lsas.n ∧ Las w B2 v2.lsas.a v.lsas.n l.lsas
  | false => v2.lsas.n = 0
def RelA (w : World) (B2 : Nat) (v v2 : Pv) (l : Pl) : Bool → Prop
  | true => v2.acks.n = v.acks.n ∧ Hds w B2 v2.acks.a v.acks.n l.acks
  | false => v2.acks.n = 0
theorem RelH.below {w w' : World} {B2 : Nat} {v v2 : Pv} {l : Pl} {f : Bool} (h : RelH w B2 v v2 l f) (hb : Below B2 w w') : RelH w' B2 v v2 l f := by
  cases f
  · exact h
  · obtain ⟨h1, h2, h3, h4, h5, h6, h7⟩ := h
    exact ⟨h1, h2, h3, h4, h5, h6, h7.below hb⟩
theorem RelD.below {w w' : World} {B2 : Nat} {v v2 : Pv} {l : Pl} {f : Bool} (h : RelD w B2 v v2 l f) (hb : Below B2 w w') : RelD w' B2 v v2 l f := by
  cases f
  · exact h
  · obtain ⟨h1, h2, h3, h4, h5, h6⟩ := h
    exact ⟨h1, h2, h3, h4, h5, h6.below hb⟩
theorem RelW.below {w w' : World} {B2 : Nat} {v v2 : Pv} {l : Pl} {f : Bool} (h : RelW w B2 v v2 l f) (hb : Below B2 w w') : RelW w' B2 v v2 l f := by
  cases f
  · exact h
  · exact ⟨h.1, h.2.below hb⟩
theorem RelL.below {w w' : World} {B2 : Nat} {v v2 : Pv} {l : Pl} {f : Bool} (h : RelL w B2 v v2 l f) (hb : Below B2 w w') : RelL w' B2 v v2 l f := by
  cases f
  · exact h
  · exact ⟨h.1, h.2.below hb⟩
theorem RelA.below {w w' : World} {B2 : Nat} {v v2 : Pv} {l : Pl} {f : Bool} (h : RelA w B2 v v2 l f) (hb : Below B2 w w') : RelA w' B2 v v2 l f := by
  cases f
  · exact h
  · exact ⟨h.1, h.2.below hb⟩

theorem callH (v v2 : Pv) (l : Pl) (f : Bool) (B B2 : Nat) (w : World) (h : PkIn w B v l) (hs : PkSm v) (hB : B ≤ w.heap.size) (hB2 : B2 ≤ w.heap.size) (hr : RelH w B2 v v2 l f) :
    Calls Tryz.prog 41 #[.agg #[.int .i64 v.every, .int .i64 v.dead, .int .i64 v.prio, .int .i64 v.dr, .int .i64 v.bdr, .slice v.seen.a v.seen.n v.seen.c], .agg #[.int .i64 v2.every, .int .i64 v2.dead, .int .i64 v2.prio, .int .i64 v2.dr, .int .i64 v2.bdr, .slice v2.seen.a v2.seen.n v2.seen.c]] w fun x w' => x = .returned (.bool (f || zeroH v.every v.dead v.prio v.dr v.bdr l.seen)) ∧ Below w.heap.size w w' := by
  cases f
  · obtain ⟨h1, h2, h3, h4, h5, h6⟩ := hr
    rw [h1, h2, h3, h4, h5, h6]
    exact sameHello_zero v.every v.dead v.prio v.dr v.bdr v.seen.a v2.seen.a v.seen.n v.seen.c v2.seen.c l.seen w h.1.1 hs.1
  · obtain ⟨h1, h2, h3, h4, h5, h6, h7⟩ := hr
    rw [h1, h2, h3, h4, h5, h6]
    exact sameHello_yes v.every v.dead v.prio v.dr v.bdr v.seen.a v2.seen.a v.seen.n v.seen.c v2.seen.c B B2 l.seen w h.1 h7 hB hB2 hs.1
theorem callD (v v2 : Pv) (l : Pl) (f : Bool) (B B2 : Nat) (w : World) (h : PkIn w B v l) (hs : PkSm v) (hB : B ≤ w.heap.size) (hB2 : B2 ≤ w.heap.size) (hr : RelD w B2 v v2 l f) :
    Calls Tryz.prog 42 #[.agg #[.bool v.ini, .bool v.mor, .bool v.mas, .int .i64 v.seq, .slice v.heads.a v.heads.n v.heads.c], .agg #[.bool v2.ini, .bool v2.mor, .bool v2.mas, .int .i64 v2.seq, .slice v2.heads.a v2.heads.n v2.heads.c]] w fun x w' => x = .returned (.bool (f || zeroD v.ini v.mor v.mas v.seq l.heads)) ∧ Below w.heap.size w w' := by
  cases f
  · obtain ⟨h1, h2, h3, h4, h5⟩ := hr
    rw [h1, h2, h3, h4, h5]
    exact sameDd_zero v.ini v.mor v.mas v.seq v.heads.a v2.heads.a v.heads.n v.heads.c v2.heads.c l.heads w h.2.1.1 hs.2.1
  · obtain ⟨h1, h2, h3, h4, h5, h6⟩ := hr
    rw [h1, h2, h3, h4, h5]
    exact sameDd_yes v.ini v.mor v.mas v.seq v.heads.a v2.heads.a v.heads.n v.heads.c v2.heads.c B B2 l.heads w h.2.1 h6 hB hB2 hs.2.1
theorem callW (v v2 : Pv) (l : Pl) (f : Bool) (B B2 : Nat) (w : World) (h : PkIn w B v l) (hs : PkSm v) (hr : RelW w B2 v v2 l f) :
    Calls Tryz.prog 43 #[.slice v.wants.a v.wants.n v.wants.c, .slice v2.wants.a v2.wants.n v2.wants.c] w fun x w' => x = .returned (.bool (f || decide (l.wants.length = 0))) ∧ Below w.heap.size w w' := by
  cases f
  · rw [show v2.wants.n = 0 from hr, h.2.2.1.1]
    exact equalK_nil _ _ _ _ _ w hs.2.2.1
  · rw [hr.1]
    exact equalK_yes _ _ _ _ _ B B2 l.wants w h.2.2.1 hr.2 hs.2.2.1
theorem callL (v v2 : Pv) (l : Pl) (f : Bool) (B B2 : Nat) (w : World) (h : PkIn w B v l) (hs : PkSm v) (hB : B ≤ w.heap.size) (hB2 : B2 ≤ w.heap.size) (hr : RelL w B2 v v2 l f) :
    Calls Tryz.prog 44 #[.slice v.lsas.a v.lsas.n v.lsas.c, .slice v2.lsas.a v2.lsas.n v2.lsas.c, .func (.func 45) #[] #[]] w fun x w' => x = .returned (.bool (f || decide (l.lsas.length = 0))) ∧ Below w.heap.size w w' := by
  cases f
  · rw [show v2.lsas.n = 0 from hr, h.2.2.2.1.1]
    exact equalF_nil _ _ _ _ _ w hs.2.2.2.1
  · rw [hr.1]
    exact equalF_yes _ _ _ _ _ B B2 l.lsas w h.2.2.2.1 hr.2 hB hB2 hs.2.2.2.1
theorem callA (v v2 : Pv) (l : Pl) (f : Bool) (B B2 : Nat) (w : World) (h : PkIn w B v l) (hs : PkSm v) (hr : RelA w B2 v v2 l f) :
    Calls Tryz.prog 46 #[.slice v.acks.a v.acks.n v.acks.c, .slice v2.acks.a v2.acks.n v2.acks.c] w fun x w' => x = .returned (.bool (f || decide (l.acks.length = 0))) ∧ Below w.heap.size w w' := by
  cases f
  · rw [show v2.acks.n = 0 from hr, h.2.2.2.2.1]
    exact equalH_nil _ _ _ _ _ w hs.2.2.2.2.1
  · rw [hr.1]
    exact equalH_yes _ _ _ _ _ B B2 l.acks w h.2.2.2.2 hr.2 hs.2.2.2.2.1

/-- What Same answers. -/
def sameF (v : Pv) (l : Pl) (f1 f2 f3 f4 f5 : Bool) : Bool :=
  (f1 || zeroH v.every v.dead v.prio v.dr v.bdr l.seen) && ((f2 || zeroD v.ini v.mor v.mas v.seq l.heads) && ((f3 || decide (l.wants.length = 0)) && ((f4 || decide (l.lsas.length = 0)) && (f5 || decide (l.acks.length = 0)))))
set_option maxRecDepth 8000 in
set_option maxHeartbeats 8000000 in
theorem psame_any (v v2 : Pv) (l : Pl) (f1 f2 f3 f4 f5 : Bool) (B B2 : Nat) (w : World) (h : PkIn w B v l) (hs : PkSm v) (hB : B ≤ w.heap.size) (hB2 : B2 ≤ w.heap.size) (hk : v2.kind = v.kind) (hf : v2.sender = v.sender) (r1 : RelH w B2 v v2 l f1) (r2 : RelD w B2 v v2 l f2) (r3 : RelW w B2 v v2 l f3) (r4 : RelL w B2 v v2 l f4) (r5 : RelA w B2 v v2 l f5) :
    Calls Tryz.prog 13 #[.agg #[.int .i64 v.kind, .int .i64 v.sender, .int .i64 v.every, .int .i64 v.dead, .int .i64 v.prio, .int .i64 v.dr, .int .i64 v.bdr, .slice v.seen.a v.seen.n v.seen.c, .bool v.ini, .bool v.mor, .bool v.mas, .int .i64 v.seq, .slice v.heads.a v.heads.n v.heads.c, .slice v.wants.a v.wants.n v.wants.c, .slice v.lsas.a v.lsas.n v.lsas.c, .slice v.acks.a v.acks.n v.acks.c], .agg #[.int .i64 v2.kind, .int .i64 v2.sender, .int .i64 v2.every, .int .i64 v2.dead, .int .i64 v2.prio, .int .i64 v2.dr, .int .i64 v2.bdr, .slice v2.seen.a v2.seen.n v2.seen.c, .bool v2.ini, .bool v2.mor, .bool v2.mas, .int .i64 v2.seq, .slice v2.heads.a v2.heads.n v2.heads.c, .slice v2.wants.a v2.wants.n v2.wants.c, .slice v2.lsas.a v2.lsas.n v2.lsas.c, .slice v2.acks.a v2.acks.n v2.acks.c]] w fun x w' => x = .returned (.bool (sameF v l f1 f2 f3 f4 f5)) ∧ Below w.heap.size w w' := by
  have K1 := Lib.hid ((Blk.new w 31 #[.int .i64 v.kind, .int .i64 v.sender, .int .i64 v.every, .int .i64 v.dead, .int .i64 v.prio, .int .i64 v.dr, .int .i64 v.bdr, .slice v.seen.a v.seen.n v.seen.c, .bool v.ini, .bool v.mor, .bool v.mas, .int .i64 v.seq, .slice v.heads.a v.heads.n v.heads.c, .slice v.wants.a v.wants.n v.wants.c, .slice v.lsas.a v.lsas.n v.lsas.c, .slice v.acks.a v.acks.n v.acks.c]).alloc (.cells #[.int .i64 v2.kind, .int .i64 v2.sender, .int .i64 v2.every, .int .i64 v2.dead, .int .i64 v2.prio, .int .i64 v2.dr, .int .i64 v2.bdr, .slice v2.seen.a v2.seen.n v2.seen.c, .bool v2.ini, .bool v2.mor, .bool v2.mas, .int .i64 v2.seq, .slice v2.heads.a v2.heads.n v2.heads.c, .slice v2.wants.a v2.wants.n v2.wants.c, .slice v2.lsas.a v2.lsas.n v2.lsas.c, .slice v2.acks.a v2.acks.n v2.acks.c] 31))
  have K2 := Lib.hid (blk_new1 w (.cells #[.int .i64 v.kind, .int .i64 v.sender, .int .i64 v.every, .int .i64 v.dead, .int .i64 v.prio, .int .i64 v.dr, .int .i64 v.bdr, .slice v.seen.a v.seen.n v.seen.c, .bool v.ini, .bool v.mor, .bool v.mas, .int .i64 v.seq, .slice v.heads.a v.heads.n v.heads.c, .slice v.wants.a v.wants.n v.wants.c, .slice v.lsas.a v.lsas.n v.lsas.c, .slice v.acks.a v.acks.n v.acks.c] 31) 31 #[.int .i64 v2.kind, .int .i64 v2.sender, .int .i64 v2.every, .int .i64 v2.dead, .int .i64 v2.prio, .int .i64 v2.dr, .int .i64 v2.bdr, .slice v2.seen.a v2.seen.n v2.seen.c, .bool v2.ini, .bool v2.mor, .bool v2.mas, .int .i64 v2.seq, .slice v2.heads.a v2.heads.n v2.heads.c, .slice v2.wants.a v2.wants.n v2.wants.c, .slice v2.lsas.a v2.lsas.n v2.lsas.c, .slice v2.acks.a v2.acks.n v2.acks.c])
  have B0 := Lib.hid (((Below.refl w.heap.size w).alloc (Nat.le_refl _) (.cells #[.int .i64 v.kind, .int .i64 v.sender, .int .i64 v.every, .int .i64 v.dead, .int .i64 v.prio, .int .i64 v.dr, .int .i64 v.bdr, .slice v.seen.a v.seen.n v.seen.c, .bool v.ini, .bool v.mor, .bool v.mas, .int .i64 v.seq, .slice v.heads.a v.heads.n v.heads.c, .slice v.wants.a v.wants.n v.wants.c, .slice v.lsas.a v.lsas.n v.lsas.c, .slice v.acks.a v.acks.n v.acks.c] 31)).alloc (by simp) (.cells #[.int .i64 v2.kind, .int .i64 v2.sender, .int .i64 v2.every, .int .i64 v2.dead, .int .i64 v2.prio, .int .i64 v2.dr, .int .i64 v2.bdr, .slice v2.seen.a v2.seen.n v2.seen.c, .bool v2.ini, .bool v2.mor, .bool v2.mas, .int .i64 v2.seq, .slice v2.heads.a v2.heads.n v2.heads.c, .slice v2.wants.a v2.wants.n v2.wants.c, .slice v2.lsas.a v2.lsas.n v2.lsas.c, .slice v2.acks.a v2.acks.n v2.acks.c] 31))
  have HS := Lib.hid hs
  have HP := Lib.hid (h.below (B0.out.mono hB))
  have R1 := Lib.hid (r1.below (B0.out.mono hB2))
  have R2 := Lib.hid (r2.below (B0.out.mono hB2))
  have R3 := Lib.hid (r3.below (B0.out.mono hB2))
  have R4 := Lib.hid (r4.below (B0.out.mono hB2))
  have R5 := Lib.hid (r5.below (B0.out.mono hB2))
  have HK := Lib.hid hk
  have HF := Lib.hid hf
  clear h hs r1 r2 r3 r4 r5 hk hf
  have hsz : w.heap.size + 2 = ((w.alloc (.cells #[.int .i64 v.kind, .int .i64 v.sender, .int .i64 v.every, .int .i64 v.dead, .int .i64 v.prio, .int .i64 v.dr, .int .i64 v.bdr, .slice v.seen.a v.seen.n v.seen.c, .bool v.ini, .bool v.mor, .bool v.mas, .int .i64 v.seq, .slice v.heads.a v.heads.n v.heads.c, .slice v.wants.a v.wants.n v.wants.c, .slice v.lsas.a v.lsas.n v.lsas.c, .slice v.acks.a v.acks.n v.acks.c] 31)).alloc (.cells #[.int .i64 v2.kind, .int .i64 v2.sender, .int .i64 v2.every, .int .i64 v2.dead, .int .i64 v2.prio, .int .i64 v2.dr, .int .i64 v2.bdr, .slice v2.seen.a v2.seen.n v2.seen.c, .bool v2.ini, .bool v2.mor, .bool v2.mas, .int .i64 v2.seq, .slice v2.heads.a v2.heads.n v2.heads.c, .slice v2.wants.a v2.wants.n v2.wants.c, .slice v2.lsas.a v2.lsas.n v2.lsas.c, .slice v2.acks.a v2.acks.n v2.acks.c] 31)).heap.size := by simp
  go_enter Tryz.func13, Tryz.ntmps13
  go_upto_region 1 with fail
  generalize (w.alloc (.cells #[.int .i64 v.kind, .int .i64 v.sender, .int .i64 v.every, .int .i64 v.dead, .int .i64 v.prio, .int .i64 v.dr, .int .i64 v.bdr, .slice v.seen.a v.seen.n v.seen.c, .bool v.ini, .bool v.mor, .bool v.mas, .int .i64 v.seq, .slice v.heads.a v.heads.n v.heads.c, .slice v.wants.a v.wants.n v.wants.c, .slice v.lsas.a v.lsas.n v.lsas.c, .slice v.acks.a v.acks.n v.acks.c] 31)).alloc (.cells #[.int .i64 v2.kind, .int .i64 v2.sender, .int .i64 v2.every, .int .i64 v2.dead, .int .i64 v2.prio, .int .i64 v2.dr, .int .i64 v2.bdr, .slice v2.seen.a v2.seen.n v2.seen.c, .bool v2.ini, .bool v2.mor, .bool v2.mas, .int .i64 v2.seq, .slice v2.heads.a v2.heads.n v2.heads.c, .slice v2.wants.a v2.wants.n v2.wants.c, .slice v2.lsas.a v2.lsas.n v2.lsas.c, .slice v2.acks.a v2.acks.n v2.acks.c] 31) = w0 at *
  obtain ⟨a0, a1, a2, a3, a4, a5, a6, a7, a8, a9, a10, a11, a12, a13, a14, a15⟩ := K1.out.sixteen
  obtain ⟨b0, b1, b2, b3, b4, b5, b6, b7, b8, b9, b10, b11, b12, b13, b14, b15⟩ := K2.out.sixteen
  rw [HK.out] at b0
  rw [HF.out] at b1
  have C0 := Lib.hid (Below.refl w0.heap.size w0)
  have hc0 := C0.out.size
  go_wp2_with fail
  refine (callH v v2 l f1 B B2 _ (HP.out.below (C0.out.mono (by omega))) HS.out (by omega) (by omega) (R1.out.below (C0.out.mono (by omega)))).mono ?_
  rintro e1 w1 ⟨rfl, hb1⟩
  have C1 := Lib.hid (C0.out.trans (hb1.mono hc0))
  have hq1 := fun (j : Nat) (hj : j < w0.heap.size) => (hb1.block j (by omega))
  clear hb1
  obtain ⟨a0, a1, a2, a3, a4, a5, a6, a7, a8, a9, a10, a11, a12, a13, a14, a15⟩ := (K1.out.below C1.out K1.out.lt).sixteen
  obtain ⟨b0, b1, b2, b3, b4, b5, b6, b7, b8, b9, b10, b11, b12, b13, b14, b15⟩ := (K2.out.below C1.out K2.out.lt).sixteen
  rw [HK.out] at b0
  rw [HF.out] at b1
  clear hq1
  cases hx1 : (f1 || zeroH v.every v.dead v.prio v.dr v.bdr l.seen)
  · have HE := Lib.hid (show sameF v l f1 f2 f3 f4 f5 = false by unfold sameF; rw [hx1]; simp only [Bool.false_and])
    go_wp2
    go_ret
    exact ⟨ret_bool HE.out.symm, B0.out.trans (C1.out.mono B0.out.size)⟩
  have hc1 := C1.out.size
  go_wp2_with fail
  refine (callD v v2 l f2 B B2 _ (HP.out.below (C1.out.mono (by omega))) HS.out (by omega) (by omega) (R2.out.below (C1.out.mono (by omega)))).mono ?_
  rintro e2 w2 ⟨rfl, hb2⟩
  have C2 := Lib.hid (C1.out.trans (hb2.mono hc1))
  have hq2 := fun (j : Nat) (hj : j < w0.heap.size) => (hb2.block j (by omega))
  clear hb2
  obtain ⟨a0, a1, a2, a3, a4, a5, a6, a7, a8, a9, a10, a11, a12, a13, a14, a15⟩ := (K1.out.below C2.out K1.out.lt).sixteen
  obtain ⟨b0, b1, b2, b3, b4, b5, b6, b7, b8, b9, b10, b11, b12, b13, b14, b15⟩ := (K2.out.below C2.out K2.out.lt).sixteen
  rw [HK.out] at b0
  rw [HF.out] at b1
  clear hq2
  cases hx2 : (f2 || zeroD v.ini v.mor v.mas v.seq l.heads)
  · have HE := Lib.hid (show sameF v l f1 f2 f3 f4 f5 = false by unfold sameF; rw [hx2]; simp only [Bool.false_and, Bool.and_false])
    go_wp2
    go_ret
    exact ⟨ret_bool HE.out.symm, B0.out.trans (C2.out.mono B0.out.size)⟩
  have hc2 := C2.out.size
  go_wp2_with fail
  refine (callW v v2 l f3 B B2 _ (HP.out.below (C2.out.mono (by omega))) HS.out (R3.out.below (C2.out.mono (by omega)))).mono ?_
  rintro e3 w3 ⟨rfl, hb3⟩
  have C3 := Lib.hid (C2.out.trans (hb3.mono hc2))
  have hq3 := fun (j : Nat) (hj : j < w0.heap.size) => (hb3.block j (by omega))
  clear hb3
  obtain ⟨a0, a1, a2, a3, a4, a5, a6, a7, a8, a9, a10, a11, a12, a13, a14, a15⟩ := (K1.out.below C3.out K1.out.lt).sixteen
  obtain ⟨b0, b1, b2, b3, b4, b5, b6, b7, b8, b9, b10, b11, b12, b13, b14, b15⟩ := (K2.out.below C3.out K2.out.lt).sixteen
  rw [HK.out] at b0
  rw [HF.out] at b1
  clear hq3
  cases hx3 : (f3 || decide (l.wants.length = 0))
  · have HE := Lib.hid (show sameF v l f1 f2 f3 f4 f5 = false by unfold sameF; rw [hx3]; simp only [Bool.false_and, Bool.and_false])
    go_wp2
    go_ret
    exact ⟨ret_bool HE.out.symm, B0.out.trans (C3.out.mono B0.out.size)⟩
  have hc3 := C3.out.size
  go_wp2_with fail
  refine (callL v v2 l f4 B B2 _ (HP.out.below (C3.out.mono (by omega))) HS.out (by omega) (by omega) (R4.out.below (C3.out.mono (by omega)))).mono ?_
  rintro e4 w4 ⟨rfl, hb4⟩
  have C4 := Lib.hid (C3.out.trans (hb4.mono hc3))
  have hq4 := fun (j : Nat) (hj : j < w0.heap.size) => (hb4.block j (by omega))
  clear hb4
  obtain ⟨a0, a1, a2, a3, a4, a5, a6, a7, a8, a9, a10, a11, a12, a13, a14, a15⟩ := (K1.out.below C4.out K1.out.lt).sixteen
  obtain ⟨b0, b1, b2, b3, b4, b5, b6, b7, b8, b9, b10, b11, b12, b13, b14, b15⟩ := (K2.out.below C4.out K2.out.lt).sixteen
  rw [HK.out] at b0
  rw [HF.out] at b1
  clear hq4
  cases hx4 : (f4 || decide (l.lsas.length = 0))
  · have HE := Lib.hid (show sameF v l f1 f2 f3 f4 f5 = false by unfold sameF; rw [hx4]; simp only [Bool.false_and, Bool.and_false])
    go_wp2
    go_ret
    exact ⟨ret_bool HE.out.symm, B0.out.trans (C4.out.mono B0.out.size)⟩
  have hc4 := C4.out.size
  go_wp2_with fail
  refine (callA v v2 l f5 B B2 _ (HP.out.below (C4.out.mono (by omega))) HS.out (R5.out.below (C4.out.mono (by omega)))).mono ?_
  rintro e5 w5 ⟨rfl, hb5⟩
  have C5 := Lib.hid (C4.out.trans (hb5.mono hc4))
  have HE := Lib.hid (show sameF v l f1 f2 f3 f4 f5 = (f5 || decide (l.acks.length = 0)) by unfold sameF; rw [hx1, hx2, hx3, hx4]; rfl)
  clear hx1 hx2 hx3 hx4
  generalize (f5 || decide (l.acks.length = 0)) = y at *
  go_wp2
  go_ret
  exact ⟨ret_bool HE.out.symm, B0.out.trans (C5.out.mono B0.out.size)⟩
end Go.Proofs.YtekhgkkgmkodmaaGreat
namespace Go.Proofs.YtekhgkkgmkodmaaGreat
open Go.RowKit

theorem Blk.six {w : World} {g : Nat} {t : TypeId} {a0 a1 a2 a3 a4 a5 : Value} (h : Blk w g t #[a0, a1, a2, a3, a4, a5]) :
    w.cell? ⟨g, 0, none⟩ = some a0 ∧ w.cell? ⟨g, 1, none⟩ = some a1 ∧ w.cell? ⟨g, 2, none⟩ = some a2 ∧ w.cell? ⟨g, 3, none⟩ = some a3 ∧ w.cell? ⟨g, 4, none⟩ = some a4 ∧ w.cell? ⟨g, 5, none⟩ = some a5 :=
  ⟨h.cell 0, h.cell 1, h.cell 2, h.cell 3, h.cell 4, h.cell 5⟩
theorem Blk.five {w : World} {g : Nat} {t : TypeId} {a0 a1 a2 a3 a4 : Value} (h : Blk w g t #[a0, a1, a2, a3, a4]) :
    w.cell? ⟨g, 0, none⟩ = some a0 ∧ w.cell? ⟨g, 1, none⟩ = some a1 ∧ w.cell? ⟨g, 2, none⟩ = some a2 ∧ w.cell? ⟨g, 3, none⟩ = some a3 ∧ w.cell? ⟨g, 4, none⟩ = some a4 :=
  ⟨h.cell 0, h.cell 1, h.cell 2, h.cell 3, h.cell 4⟩
/-- All heads' bytes, keys' bytes, descriptions' bytes. -/
def headsBs : List Hd → List Int
  | [] => []
  | h :: l => headBytes h ++ headsBs l
def keyBs (k : Ky) : List Int := enc k.kind 4 ++ (enc k.id 4 ++ enc k.adv 4)
def keysBs : List Ky → List Int
  | [] => []
  | k :: l => keyBs k ++ keysBs l
def lsasBs : List La → List Int
  | [] => []
  | x :: l => lsaBytes x.h x.L x.M ++ lsasBs l
theorem headsBs_append (a b : List Hd) : headsBs (a ++ b) = headsBs a ++ headsBs b := by
  induction a with
  | nil => rfl
  | cons x a ih => simp [headsBs, ih]
theorem keysBs_append (a b : List Ky) : keysBs (a ++ b) = keysBs a ++ keysBs b := by
  induction a with
  | nil => rfl
  | cons x a ih => simp [keysBs, ih]
theorem lsasBs_append (a b : List La) : lsasBs (a ++ b) = lsasBs a ++ lsasBs b := by
  induction a with
  | nil => rfl
  | cons x a ih => simp [lsasBs, ih]
theorem headsBs_length (l : List Hd) : (headsBs l).length = l.length * 20 := by
  induction l with
  | nil => rfl
  | cons x l ih => simp only [headsBs, List.length_append, headBytes_length, ih, List.length_cons]; omega
theorem keyBs_length (k : Ky) : (keyBs k).length = 12 := by simp [keyBs, enc_length]
theorem keysBs_length (l : List Ky) : (keysBs l).length = l.length * 12 := by
  induction l with
  | nil => rfl
  | cons x l ih => simp only [keysBs, List.length_append, keyBs_length, ih, List.length_cons]; omega
theorem headsBs_byt (l : List Hd) : Byt (headsBs l) := by
  induction l with
  | nil => exact Byt.nil
  | cons x l ih => exact (headBytes_byt x).append ih
theorem keysBs_byt (l : List Ky) : Byt (keysBs l) := by
  induction l with
  | nil => exact Byt.nil
  | cons x l ih => exact ((enc_byt _ _).append ((enc_byt _ _).append (enc_byt _ _))).append ih
theorem lsasBs_byt (l : List La) : Byt (lsasBs l) := by
  induction l with
  | nil => exact Byt.nil
  | cons x l ih => exact (lsaBytes_byt _ _ _).append ih
/-- A Hello's bytes, a Dd's. -/
def helloBs (e d p dr bdr : Int) (S : List Int) : List Int := enc e 2 ++ (enc 0 1 ++ (enc p 1 ++ (enc d 4 ++ (enc dr 4 ++ (enc bdr 4 ++ encs 4 S)))))
def flagN (i m s : Bool) : Int := (if i then 4 else 0) + ((if m then 2 else 0) + (if s then 1 else 0))
def ddBs (i m s : Bool) (q : Int) (L : List Hd) : List Int := enc 0 2 ++ (enc 0 1 ++ (enc (flagN i m s) 1 ++ (enc q 4 ++ headsBs L)))
def updBs (L : List La) : List Int := enc L.length 4 ++ lsasBs L

set_option maxRecDepth 4000 in
set_option maxHeartbeats 4000000 in
theorem headBytesP_any (A : Option Addr) (n c B : Nat) (L : List Hd) (w : World) (hL : Hds w B A n L) (hB : B ≤ w.heap.size) (hn : n ≤ 1000) :
    Calls Tryz.prog 51 #[.slice A n c] w (PutA w (headsBs L) (n * 20)) := by
  generalize hQ : PutA w (headsBs L) (n * 20) = Q
  have HQ := Lib.hid hQ
  have HL := Lib.hid hL
  have HN := Lib.hid hL.1
  clear hL hQ
  go_enter Tryz.func51, Tryz.ntmps51
  go_wp2_with fail
  go_loopw [3, 8] (fun b i wr => ∃ k : Nat, k ≤ n ∧ i = .int .i64 k ∧ Hid (Acc w wr b (k * 20) (headsBs (L.take k)))) (fun _ i _ => n - (intOf i).toNat)
  case atStart => exact ⟨0, Nat.zero_le _, rfl, Lib.hid (Acc.nil (Below.refl _ _))⟩
  case round =>
    obtain ⟨k, hk, rfl, ha⟩ := hrel
    by_cases hlt : k < n
    · obtain ⟨b, o, x, rfl, hbb, hx, hat⟩ := Arr.at (HL.out.below (ha.out.2.mono hB)) hlt
      obtain ⟨k0, k1, k2, k3, k4, k5, k6⟩ := hat
      have HX := Lib.hid (show headsBs (L.take (k + 1)) = headsBs (L.take k) ++ headBytes x by rw [take_snocA _ _ _ hx, headsBs_append]; simp [headsBs])
      clear hx
      go_wp2_with fail
      refine (putHead_any x _).mono ?_
      rintro e2 w2 ⟨v2, rfl, ha2⟩
      obtain ⟨A2, c2, rfl, hc2, hm2, hr2⟩ := ha2.form
      have R2 := Lib.hid hr2
      have C2 := Lib.hid ((ha.out.alloc _).below ha2.2)
      clear hr2 ha2 k0 k1 k2 k3 k4 k5 k6
      rename_i bv _
      go_wp2_with (at_builtin; refine wpList_append_acc rfl (.tmp 12) (.tmp 14) rfl w _ (k * 20) _ (by rfl) (by exact C2.out) _ A2 20 c2 (headBytes x) (by rfl) (by exact R2.out) ((k + 1) * 20) (by omega) (by omega) ?_; intro v3 w3 ha3)
      rw [← HX.out] at ha3
      go_roundw
      case rel => exact ⟨k + 1, by omega, by go_num, ha3⟩
      case measure => simp [intOf]; omega
    · obtain rfl : k = n := by omega
      have h1 := ha.out
      rw [List.take_of_length_le (by rw [HN.out]; omega)] at h1
      have H1 := Lib.hid h1
      clear h1
      go_wp2
      rw [← HQ.out]
      exact ⟨_, rfl, H1.out⟩

set_option maxRecDepth 4000 in
set_option maxHeartbeats 4000000 in
theorem wantBytes_any (A : Option Addr) (n c B : Nat) (L : List Ky) (w : World) (hL : Kys w B A n L) (hB : B ≤ w.heap.size) (hn : n ≤ 1000) :
    Calls Tryz.prog 49 #[.slice A n c] w (PutN w (keysBs L) (n * 12)) := by
  generalize hQ : PutN w (keysBs L) (n * 12) = Q
  have HQ := Lib.hid hQ
  have HL := Lib.hid hL
  have HN := Lib.hid hL.1
  clear hL hQ
  go_enter Tryz.func49, Tryz.ntmps49
  go_wp2_with fail
  go_loopw [3, 8] (fun b i wr => ∃ (k : Nat) (A2 : Option Addr) (c2 : Nat), k ≤ n ∧ i = .int .i64 k ∧ b = .slice A2 (k * 12) c2 ∧ k * 12 ≤ c2 ∧ c2 ≤ maxLen ∧ Hid (Row .u8 wr wr.heap.size A2 (k * 12) (keysBs (L.take k))) ∧ Hid (Below w.heap.size w wr)) (fun _ i _ => n - (intOf i).toNat)
  case atStart => exact ⟨0, none, 0, Nat.zero_le _, rfl, rfl, Nat.le_refl _, by unfold maxLen; omega, Lib.hid Row.nil, Lib.hid (Below.refl _ _)⟩
  case round =>
    obtain ⟨k, A2, c2, hk, rfl, rfl, hc2, hm2, hr, hb⟩ := hrel
    by_cases hlt : k < n
    · obtain ⟨b, o, x, rfl, hbb, hx, hat⟩ := Arr.at (HL.out.below (hb.out.mono hB)) hlt
      obtain ⟨k0, k1, k2, hi0, hi1⟩ := hat
      have HX := Lib.hid (show keysBs (L.take (k + 1)) = keysBs (L.take k) ++ keyBs x by rw [take_snocA _ _ _ hx, keysBs_append]; simp [keysBs])
      have hsz := hb.out.size
      clear hx
      go_wp2_with fail
      refine (put_new A2 (k * 12) c2 4 ((k + 1) * 12) 3 4 (keysBs (L.take k)) [x.kind, x.id, x.adv] (keysBs (L.take (k + 1))) _ _ (by simp) rfl rfl (by rw [HX.out]; simp [encs, keyBs]) ((hr.out.alloc (Nat.le_refl _) _).more (by simp)) (by omega) (by omega) (by omega)).mono ?_
      rintro e2 w2 ⟨A3, c3, rfl, hc3, hm3, hr3, hb3⟩
      have R3 := Lib.hid hr3
      have B3 := Lib.hid ((hb.out.alloc hsz _).trans (hb3.mono (by simp; omega)))
      clear hr3 hb3 k0 k1 k2
      go_wp2
      go_roundw
      case rel => exact ⟨k + 1, A3, c3, by omega, by go_num, rfl, hc3, hm3, R3, B3⟩
      case measure => simp [intOf]; omega
    · obtain rfl : k = n := by omega
      have h1 := hr.out
      rw [List.take_of_length_le (by rw [HN.out]; omega)] at h1
      have H1 := Lib.hid h1
      clear h1
      go_wp2
      rw [← HQ.out]
      exact ⟨_, _, rfl, hc2, hm2, H1.out, hb.out⟩

set_option maxRecDepth 4000 in
set_option maxHeartbeats 4000000 in
theorem helloBytes_any (e d p dr bdr : Int) (A : Option Addr) (n c B : Nat) (S : List Int) (w : World) (hS : Row .i64 w B A n S) (hB : B ≤ w.heap.size) (hn : n ≤ 1000) :
    Calls Tryz.prog 47 #[.agg #[.int .i64 e, .int .i64 d, .int .i64 p, .int .i64 dr, .int .i64 bdr, .slice A n c]] w (PutN w (helloBs e d p dr bdr S) (16 + n * 4)) := by
  generalize hQ : PutN w (helloBs e d p dr bdr S) (16 + n * 4) = Q
  have HQ := Lib.hid hQ
  have HS := Lib.hid hS
  have HN := Lib.hid hS.1
  clear hQ hS
  have K0 := Lib.hid (Blk.new w 24 #[.int .i64 e, .int .i64 d, .int .i64 p, .int .i64 dr, .int .i64 bdr, .slice A n c])
  have B0 := Lib.hid ((Below.refl w.heap.size w).alloc (Nat.le_refl _) (.cells #[.int .i64 e, .int .i64 d, .int .i64 p, .int .i64 dr, .int .i64 bdr, .slice A n c] 24))
  go_enter Tryz.func47, Tryz.ntmps47
  go_wp2_with fail
  refine (put_new none 0 0 2 2 1 2 [] [e] (enc e 2) _ _ (by simp) rfl rfl (by simp [encs]) Row.nil (by omega) (by omega) rfl).mono ?_
  rintro e1 w1 ⟨A1, c1, rfl, hc1, hm1, hr1, hb1⟩
  have R1 := Lib.hid hr1
  have K1 := Lib.hid (K0.out.below hb1 (by simp))
  have B1 := Lib.hid (B0.out.trans (hb1.mono (by simp)))
  clear hr1 hb1 K0 B0
  obtain ⟨k0, k1, k2, k3, k4, k5⟩ := K1.out.six
  have hlt1 := K1.out.lt
  go_wp2_with fail
  refine (put_new A1 2 c1 1 4 2 1 (enc e 2) [0, p] (enc e 2 ++ (enc 0 1 ++ enc p 1)) _ _ rfl rfl rfl (by simp [encs]) R1.out (by omega) (by omega) rfl).mono ?_
  rintro e2 w2 ⟨A2, c2, rfl, hc2, hm2, hr2, hb2⟩
  have R2 := Lib.hid hr2
  have K2 := Lib.hid (K1.out.below hb2 hlt1)
  have B2 := Lib.hid (B1.out.trans (hb2.mono B1.out.size))
  clear hr2 hb2 K1 B1 R1 k0 k1 k2 k3 k4 k5 hlt1
  obtain ⟨k0, k1, k2, k3, k4, k5⟩ := K2.out.six
  have hlt2 := K2.out.lt
  go_wp2_with fail
  refine (put_new A2 4 c2 4 16 3 4 _ [d, dr, bdr] (enc e 2 ++ (enc 0 1 ++ (enc p 1 ++ (enc d 4 ++ (enc dr 4 ++ enc bdr 4))))) _ _ rfl rfl rfl (by simp [encs]) R2.out (by omega) (by omega) rfl).mono ?_
  rintro e3 w3 ⟨A3, c3, rfl, hc3, hm3, hr3, hb3⟩
  have R3 := Lib.hid hr3
  have K3 := Lib.hid (K2.out.below hb3 hlt2)
  have B3 := Lib.hid (B2.out.trans (hb3.mono B2.out.size))
  clear hr3 hb3 K2 B2 R2 k0 k1 k2 k3 k4 k5 hlt2
  obtain ⟨k0, k1, k2, k3, k4, k5⟩ := K3.out.six
  have hsz3 := B3.out.size
  go_wp2_with fail
  refine (put_any A3 A 16 c3 n c w3.heap.size B 4 _ S _ R3.out (HS.out.below (B3.out.mono hB)) (Nat.le_refl _) (by omega) (by omega) (by omega)).mono ?_
  intro e4 w4 hp
  have ev : enc e 2 ++ (enc 0 1 ++ (enc p 1 ++ (enc d 4 ++ (enc dr 4 ++ enc bdr 4)))) ++ encs (hold 4).toNat S = helloBs e d p dr bdr S := by
    rw [show (hold 4).toNat = 4 from rfl]; simp [helloBs]
  rw [ev] at hp
  obtain ⟨A4, c4, rfl, hc4, hm4, hr4, hb4⟩ := putN_of (16 + n * 4) hp (by rw [← ev, List.length_append, encs_length, HN.out]; simp [enc_length, hold])
  have R4 := Lib.hid hr4
  have B4 := Lib.hid (B3.out.trans (hb4.mono hsz3))
  clear ev hp hr4 hb4 k0 k1 k2 k3 k4 k5
  go_wp2
  rw [← HQ.out]
  exact ⟨_, _, rfl, hc4, hm4, R4.out, B4.out⟩
end Go.Proofs.YtekhgkkgmkodmaaGreat
