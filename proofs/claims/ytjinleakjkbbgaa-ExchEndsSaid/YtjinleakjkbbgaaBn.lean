/- The statements' two sides, new. No conditions. -/
import Derived.Test.YtjinleakjkbbgaaBm
namespace Go.Proofs.Ytjinleakjkbbgaa
open Go.RowKit Go.Lib Go.Sort Go.Deep

/-- What two leaves: two sides, on blocks of their own. -/
def DuoQ (n0 n1 n2 n3 : Int) (A : Option Addr) (n c : Nat) (A' : Option Addr) (n' c' : Nat) (w : World) (e : Ending) (w' : World) : Prop :=
  ∃ (F G : Nat → Prop) (s p s' p' : Nat), e = .returned (.tuple #[.pointer (some ⟨s, 0, none⟩), .pointer (some ⟨s', 0, none⟩)]) ∧ SdAt w' F s p A n c ⟨newE n0 n1 n2, []⟩ ∧ SdAt w' G s' p' A' n' c' ⟨newE n1 n0 n3, []⟩ ∧
    (∀ q, F q → w.heap.size ≤ q ∧ ¬ G q) ∧ (∀ q, G q → w.heap.size ≤ q ∧ ¬ F q) ∧ Below w.heap.size w w'
theorem side_new {w : World} {s p : Nat} {A : Option Addr} {n c : Nat} {x : Ex} (hx : ExAt w (fun q => q = p) p x) (hs : Blk w s 48 #[.pointer (some ⟨p, 0, none⟩), .slice A n c, .slice none 0 0]) (hne : s ≠ p) : SdAt w (fun q => q = s ∨ q = p) s p A n c ⟨x, []⟩ :=
  ⟨.inl rfl, fun q hq => by
    rcases hq with hq | hq
    · rw [hq]; exact hs.lt
    · rw [hq]; exact hx.lt, fun q => q = p, none, 0, 0, hs, by simpa [cellsBy] using World.ownsRow_nil w 0 58 7, hx, fun q hq => ⟨.inr hq, by rw [hq]; exact Ne.symm hne⟩, fun g hg => by cases hg⟩
theorem duo_fin {n0 n1 n2 n3 : Int} {A : Option Addr} {n c : Nat} {A' : Option Addr} {n' c' : Nat} {w W : World} {s p s' p' : Nat} (X : ExAt W (fun q => q = p) p (newE n0 n1 n2)) (X' : ExAt W (fun q => q = p') p' (newE n1 n0 n3))
    (K : Blk W s 48 #[.pointer (some ⟨p, 0, none⟩), .slice A n c, .slice none 0 0]) (K' : Blk W s' 48 #[.pointer (some ⟨p', 0, none⟩), .slice A' n' c', .slice none 0 0])
    (h1 : s ≠ p) (h2 : s' ≠ p') (h3 : s ≠ s' ∧ s ≠ p' ∧ p ≠ s' ∧ p ≠ p') (h4 : w.heap.size ≤ s ∧ w.heap.size ≤ p ∧ w.heap.size ≤ s' ∧ w.heap.size ≤ p') (hB : Below w.heap.size w W) : DuoQ n0 n1 n2 n3 A n c A' n' c' w (.returned (.tuple #[.pointer (some ⟨s, 0, none⟩), .pointer (some ⟨s', 0, none⟩)])) W := by
  refine ⟨_, _, s, p, s', p', rfl, side_new X K h1, side_new X' K' h2, fun q hq => ?_, fun q hq => ?_, hB⟩
  · refine ⟨by rcases hq with hq | hq <;> omega, fun e => ?_⟩
    rcases hq with hq | hq <;> rcases e with e | e <;> omega
  · refine ⟨by rcases hq with hq | hq <;> omega, fun e => ?_⟩
    rcases hq with hq | hq <;> rcases e with e | e <;> omega
set_option maxRecDepth 8000 in
set_option maxHeartbeats 8000000 in
theorem two_any (n0 n1 n2 n3 : Int) (A : Option Addr) (n c : Nat) (A' : Option Addr) (n' c' : Nat) (w : World) : Calls Try.prog 15 #[.agg #[.int .i64 n0, .int .i64 n1, .int .i64 n2, .int .i64 n3], .agg #[.slice A n c, .slice A' n' c']] w (DuoQ n0 n1 n2 n3 A n c A' n' c' w) := by
  generalize hQ : DuoQ n0 n1 n2 n3 A n c A' n' c' w = Q
  have HQ := Lib.hid hQ
  have B1 := (Below.refl w.heap.size w).alloc (Nat.le_refl _) (.cells #[.int .i64 n0, .int .i64 n1, .int .i64 n2, .int .i64 n3] 38)
  have B2 := Lib.hid (B1.alloc (by simp) (.cells #[.slice A n c, .slice A' n' c'] 39))
  have M2 := Lib.hid ((Blk.new w 38 #[.int .i64 n0, .int .i64 n1, .int .i64 n2, .int .i64 n3]).alloc (.cells #[.slice A n c, .slice A' n' c'] 39))
  have N2 := Lib.hid (show Blk ((w.alloc (.cells #[.int .i64 n0, .int .i64 n1, .int .i64 n2, .int .i64 n3] 38)).alloc (.cells #[.slice A n c, .slice A' n' c'] 39)) (w.heap.size + 1) 39 #[.slice A n c, .slice A' n' c'] by
    have := Blk.new (w.alloc (.cells #[.int .i64 n0, .int .i64 n1, .int .i64 n2, .int .i64 n3] 38)) 39 #[.slice A n c, .slice A' n' c']
    simpa using this)
  clear hQ B1
  go_enter Try.func15, Try.ntmps15
  go_wp2_with fail
  generalize (w.alloc (.cells #[.int .i64 n0, .int .i64 n1, .int .i64 n2, .int .i64 n3] 38)).alloc (.cells #[.slice A n c, .slice A' n' c'] 39) = w2 at *
  obtain ⟨m0, m1, m2, m3⟩ := M2.out.four
  have k0 : w2.cell? ⟨w.heap.size + 1, 0, none⟩ = some (.slice A n c) := N2.out.cell 0
  have k1 : w2.cell? ⟨w.heap.size + 1, 1, none⟩ = some (.slice A' n' c') := N2.out.cell 1
  have hml := M2.out.lt
  have hnl := N2.out.lt
  have BR : Below w2.heap.size w2 w2.drew := ⟨rfl, rfl, rfl, Nat.le_refl _, fun _ _ => rfl⟩
  go_region_held3 (fun w' => Below w2.heap.size w2 w' ∧ (∀ b o, b < w2.heap.size → w'.cell? ⟨b, o, none⟩ = w2.cell? ⟨b, o, none⟩)) ((refine keepS ?_; first | with_reducible exact BR | with_reducible exact BR5 | with_reducible exact Below.alloc BR5 BR5.size _ | with_reducible exact BR6 | with_reducible exact Below.alloc BR6 BR6.size _ | with_reducible exact Below.alloc (Below.alloc BR6 BR6.size _) (Below.alloc BR6 BR6.size _).size _)) (first | (go_at_call 10; refine (newX_any _ _ _ _).mono ?_; first | (have hsecond := BR5; rintro e6 w6 ⟨rfl, hx6, hb6⟩; have hz6 := hx6.lt; first | (have BR6 := BR5.trans (show Below w2.heap.size w5 w6 from Below.mono hb6 BR5.size)) | (have BR6 := (Below.alloc BR5 BR5.size (.cells #[.pointer (some ⟨w2.heap.size, 0, none⟩), .slice A n c, .slice none 0 0] 48)).trans (show Below w2.heap.size _ w6 from Below.mono hb6 (Below.alloc BR5 BR5.size _).size))) | (rintro e5 w5 ⟨rfl, hx5, hb5⟩; have BR5 := BR.trans (show Below w2.heap.size w2.drew w5 from hb5); have hz5 := hx5.lt)))
  · clear m0 m1 m2 m3 k0 k1
    have h2 := B2.out.size
    have e5 : w2.drew.heap.size = w2.heap.size := rfl
    have ea : (w5.alloc (.cells #[.pointer (some ⟨w2.heap.size, 0, none⟩), .slice A n c, .slice none 0 0] 48)).heap.size = w5.heap.size + 1 := by simp
    have eb : (w6.alloc (.cells #[.pointer (some ⟨w5.heap.size + 1, 0, none⟩), .slice A' n' c', .slice none 0 0] 48)).heap.size = w6.heap.size + 1 := by simp
    rw [ea] at hx6 hz6 hb6
    rw [e5] at hx5 hz5
    have X1 := (hx5.below ((Below.refl w5.heap.size w5).alloc (Nat.le_refl _) (.cells #[.pointer (some ⟨w2.heap.size, 0, none⟩), .slice A n c, .slice none 0 0] 48))).below (by rw [ea]; exact hb6)
    have X2 := X1.below ((Below.refl w6.heap.size w6).alloc (Nat.le_refl _) (.cells #[.pointer (some ⟨w5.heap.size + 1, 0, none⟩), .slice A' n' c', .slice none 0 0] 48))
    have Y2 := hx6.below ((Below.refl w6.heap.size w6).alloc (Nat.le_refl _) (.cells #[.pointer (some ⟨w5.heap.size + 1, 0, none⟩), .slice A' n' c', .slice none 0 0] 48))
    have K2 := ((Blk.new w5 48 #[.pointer (some ⟨w2.heap.size, 0, none⟩), .slice A n c, .slice none 0 0]).below hb6 (by omega)).alloc (.cells #[.pointer (some ⟨w5.heap.size + 1, 0, none⟩), .slice A' n' c', .slice none 0 0] 48)
    have L2 := Blk.new w6 48 #[.pointer (some ⟨w5.heap.size + 1, 0, none⟩), .slice A' n' c', .slice none 0 0]
    have BF := B2.out.trans (Below.mono (BR6.alloc BR6.size (.cells #[.pointer (some ⟨w5.heap.size + 1, 0, none⟩), .slice A' n' c', .slice none 0 0] 48)) h2)
    clear BR BR5 BR6 hsecond hb5 hb6
    go_wp2
    show Q (.returned (.tuple #[.pointer (some ⟨w5.heap.size, 0, none⟩), .pointer (some ⟨w6.heap.size, 0, none⟩)])) _
    rw [← HQ.out]
    exact duo_fin X2 Y2 K2 L2 (by omega) (by omega) (by omega) (by omega) BF
  · clear m0 m1 m2 m3 k0 k1
    have h2 := B2.out.size
    have e5 : w2.drew.heap.size = w2.heap.size := rfl
    rw [e5] at hx5 hz5
    have ew : (w6.alloc (.cells #[.pointer (some ⟨w2.heap.size, 0, none⟩), .slice A n c, .slice none 0 0] 48)).heap.size = w6.heap.size + 1 := by simp
    have hA := ((Below.refl w6.heap.size w6).alloc (Nat.le_refl _) (.cells #[.pointer (some ⟨w2.heap.size, 0, none⟩), .slice A n c, .slice none 0 0] 48)).alloc (by simp) (.cells #[.pointer (some ⟨w5.heap.size, 0, none⟩), .slice A' n' c', .slice none 0 0] 48)
    have X2 := (hx5.below hb6).below hA
    have Y2 := hx6.below hA
    have K2 := (Blk.new w6 48 #[.pointer (some ⟨w2.heap.size, 0, none⟩), .slice A n c, .slice none 0 0]).alloc (.cells #[.pointer (some ⟨w5.heap.size, 0, none⟩), .slice A' n' c', .slice none 0 0] 48)
    have L2 := Blk.new (w6.alloc (.cells #[.pointer (some ⟨w2.heap.size, 0, none⟩), .slice A n c, .slice none 0 0] 48)) 48 #[.pointer (some ⟨w5.heap.size, 0, none⟩), .slice A' n' c', .slice none 0 0]
    rw [ew] at L2
    have BF := B2.out.trans (Below.mono (BR6.trans (Below.mono hA BR6.size)) h2)
    clear BR BR5 BR6 hsecond hb5 hb6 hA
    go_wp2
    show Q (.returned (.tuple #[.pointer (some ⟨w6.heap.size, 0, none⟩), .pointer (some ⟨w6.heap.size + 1, 0, none⟩)])) _
    rw [← HQ.out]
    exact duo_fin X2 Y2 K2 L2 (by omega) (by omega) (by omega) (by omega) BF
  · clear m0 m1 m2 m3 k0 k1
    have h2 := B2.out.size
    have e5 : w2.drew.heap.size = w2.heap.size := rfl
    rw [e5] at hx5 hz5
    have ew : (w6.alloc (.cells #[.pointer (some ⟨w5.heap.size, 0, none⟩), .slice A' n' c', .slice none 0 0] 48)).heap.size = w6.heap.size + 1 := by simp
    have hA := ((Below.refl w6.heap.size w6).alloc (Nat.le_refl _) (.cells #[.pointer (some ⟨w5.heap.size, 0, none⟩), .slice A' n' c', .slice none 0 0] 48)).alloc (by simp) (.cells #[.pointer (some ⟨w2.heap.size, 0, none⟩), .slice A n c, .slice none 0 0] 48)
    have X2 := (hx5.below hb6).below hA
    have Y2 := hx6.below hA
    have K2 := (Blk.new w6 48 #[.pointer (some ⟨w5.heap.size, 0, none⟩), .slice A' n' c', .slice none 0 0]).alloc (.cells #[.pointer (some ⟨w2.heap.size, 0, none⟩), .slice A n c, .slice none 0 0] 48)
    have L2 := Blk.new (w6.alloc (.cells #[.pointer (some ⟨w5.heap.size, 0, none⟩), .slice A' n' c', .slice none 0 0] 48)) 48 #[.pointer (some ⟨w2.heap.size, 0, none⟩), .slice A n c, .slice none 0 0]
    rw [ew] at L2
    have BF := B2.out.trans (Below.mono (BR6.trans (Below.mono hA BR6.size)) h2)
    clear BR BR5 BR6 hsecond hb5 hb6 hA
    go_wp2
    show Q (.returned (.tuple #[.pointer (some ⟨w6.heap.size + 1, 0, none⟩), .pointer (some ⟨w6.heap.size, 0, none⟩)])) _
    rw [← HQ.out]
    exact duo_fin X2 Y2 L2 K2 (by omega) (by omega) (by omega) (by omega) BF
end Go.Proofs.Ytjinleakjkbbgaa
