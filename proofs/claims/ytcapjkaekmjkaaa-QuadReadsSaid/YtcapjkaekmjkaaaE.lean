/- The Reader's call Bytes. Conditions: the reader's three fields as they stand, and its bytes in another block. -/
import Derived.Test.YtcapjkaekmjkaaaD
import Derived.Laws.CopyOwn
import Derived.Laws.MakeOwn
namespace Go.Proofs.Ytcapjkaekmjkaaa
open Go.RowKit

def pos (n : Int) : Int := if n < 0 then 0 else n

theorem Try.info5 : (Try.prog.info? 5).map (fun i => (i.zero, i.size, i.bytes)) = some (some (.int .u8 0), 1, 1) := by kernel_rfl

/-- A run of zeros. -/
def zeros (n : Nat) : List Value := List.replicate n (.int .u8 0)

theorem run_make5 (m c : Nat) (hc : m ≤ c) (h : c ≤ 281474976710656) (W : World) :
    (Instr.makeSlice 22 (.int .i64 (m : Int)) (.int .i64 (c : Int))).run Try.prog W = .ok (.slice (some ⟨W.heap.size, 0, none⟩) m c) (W.alloc (.cells (zeros c).toArray 5)) := by
  obtain ⟨i0, hi, hz0, hz1, hz2⟩ := info_parts Try.info5
  have hr := run_make (P := Try.prog) W 22 5 i0 (.int .u8 0) Try.underlying22 hi hz0 .i64 .i64 (m : Int) (c : Int) (by omega) (by omega) (by rw [hz2]; omega) (by omega)
  rw [hr]
  have e : madeCells (Value.int .u8 0).cells ((c : Int).toNat * i0.size) = (zeros c).toArray := by
    rw [hz1]
    apply Array.ext
    · simp [madeCells, zeros]
    · intro j h1 h2
      simp [madeCells, zeros, Value.cells, Nat.mod_one]
  rw [e]
  simp

theorem run_make5_0 (W : World) : (Instr.makeSlice 22 (.int .i64 0) (.int .i64 0)).run Try.prog W = .ok (.slice (some ⟨W.heap.size, 0, none⟩) 0 0) (W.alloc (.cells #[] 5)) := run_make5 0 0 (by omega) (by omega) W

theorem oneCell_ints (k : IntKind) (l : List Int) : ∀ v ∈ l.map (Value.int k), v.oneCell' = true := by
  intro v hv
  obtain ⟨x, _, rfl⟩ := List.mem_map.1 hv
  rfl

/-- copy of a row of bytes over the beginning of a block of bytes that is known whole. -/
theorem wpList_copy_row {w : World} {ops : Array Oper} {rest : List Oper} {o : Oper} {a : Act} {Q : Exit → Act → World → Prop} (hgd : o.guard = none) (d s : Operand)
    (ho : o.op = .call { callee := .builtin .copy, args := #[d, s], argTypes := #[22, 22] }) (g m dc sc : Nat) (A : Option Addr) (hd : a.eval d = .slice (some ⟨g, 0, none⟩) m dc) (hs : a.eval s = .slice A m sc)
    (B : Nat) (l : List Int) (hr : Row .u8 w B A m l) (cur : List Value) (hcur : m ≤ cur.length) (hg : Blk w g 5 cur.toArray)
    (h : ∀ w', Hid (Blk w' g 5 (l.map (Value.int .u8) ++ cur.drop m).toArray) → w.grownBy w' (some g) → wpList Try.prog ops Q rest (a.put o.dst (goInt m)) w') : wpList Try.prog ops Q (o :: rest) a w := by
  obtain ⟨i0, hi, hz0, hz1, hz2⟩ := info_parts Try.info5
  have hsz : (Try.prog.info? 5).map (·.size) = some 1 := by rw [hi]; simp [hz1]
  by_cases h0 : m = 0
  · subst h0
    refine wpList_copy_nothing hgd d s 22 22 ho 5 Try.underlying22 hsz _ _ _ _ _ _ hd hs rfl ?_
    have hl : l = [] := List.eq_nil_of_length_eq_zero hr.1
    subst hl
    exact h w (show Blk _ _ _ _ by simpa using hg) ⟨rfl, rfl, rfl, Nat.le_refl _, fun _ _ _ => rfl⟩
  · obtain ⟨b, off, rfl, hb, hc⟩ := hr.2 (by omega)
    have hlen := hr.1
    refine wpList_copy_own hgd d s 22 22 ho 5 Try.underlying22 hsz g 0 m dc ⟨b, off, none⟩ m sc hd hs cur.toArray 5 hg (l.map (Value.int .u8)) (by simp [hlen]) ?_ (by simp [hlen]; exact hcur) (oneCell_ints _ _) ?_
    · intro j v hv
      rw [List.getElem?_map] at hv
      have hj : j < m := by
        rcases Nat.lt_or_ge j m with hj | hj
        · exact hj
        · rw [List.getElem?_eq_none (by omega)] at hv; cases hv
      have := hc j hj
      rw [List.getD_eq_getElem?_getD] at this
      rw [List.getElem?_eq_getElem (by omega)] at hv this
      simp at hv this
      subst hv
      have e : (⟨b, off, none⟩ : Addr).add j = ⟨b, off + j, none⟩ := by
        unfold Addr.add
        split <;> simp_all
      rw [e]
      exact this
    · have h2 := h (w.setRow g (cur.toArray.toList.take 0 ++ (l.map (Value.int .u8) ++ cur.toArray.toList.drop (0 + (l.map (Value.int .u8)).length))).toArray)
        (by have := setRow_heap w g cur.toArray (cur.toArray.toList.take 0 ++ (l.map (Value.int .u8) ++ cur.toArray.toList.drop (0 + (l.map (Value.int .u8)).length))).toArray 5 _ hg
            have e : (cur.toArray.toList.take 0 ++ (l.map (Value.int .u8) ++ cur.toArray.toList.drop (0 + (l.map (Value.int .u8)).length))) = l.map (Value.int .u8) ++ cur.drop m := by simp [hlen]
            rw [e] at this ⊢
            exact this)
        ⟨rfl, rfl, rfl, by simp [World.setRow], fun k _ hk => setRow_other w g k _ (fun e => hk (by rw [e]))⟩
      have e3 : (l.map (Value.int .u8)).length = m := by simp [hlen]
      rw [e3] at h2 ⊢
      exact h2

set_option maxHeartbeats 400000 in
theorem bytes_nilr (k : Int) (w : World) : Calls Try.prog 16 #[.pointer none, .int .i64 k] w fun e' w' => e' = .returned (.slice (some ⟨w.heap.size, 0, none⟩) 0 0) ∧ Below w.heap.size w w' := by
  have hmk := run_make5_0
  go_enter Try.func16, Try.ntmps16
  go_wp2_with fail
  all_goals
    refine (take_nil _ _).mono ?_
    rintro e1 w1 ⟨rfl, rfl⟩
    go_wp2_with (with_reducible refine wpList_copy_row rfl (.tmp 14) (.tmp 15) rfl w.heap.size 0 0 0 none rfl rfl 0 [] Row.nil [] (Nat.le_refl _) (Blk.new _ _ _) ?_; intro w2 hg2 hb2)
    go_ret
    exact ⟨rfl, below_new hb2 (Nat.le_refl _)⟩

/-- Behind a call of the reader in block g: that block holds the three fields as given; no other block that was there has turned. -/
def Step (w : World) (g : Nat) (A : Option Addr) (n c : Nat) (a e : Int) (w' : World) : Prop := w.grownBy w' (some g) ∧ Blk w' g 45 #[.slice A n c, .int .i64 a, .int .i64 e]

section
variable {w w' w2 : World} {g n c : Nat} {A : Option Addr} {a e : Int}
theorem step_at (h : Blk w g 45 #[.slice A n c, .int .i64 a, .int .i64 e]) (a' : Int) (d : Nat) : Step w g A n c a' e ((w.setCell ⟨g, 1, none⟩ (.int .i64 a')).drewN d) :=
  ⟨⟨rfl, rfl, rfl, by simp [World.setCell, World.drewN], fun k _ hk => Below.heap_setCell w _ _ k (fun e => hk (by rw [e]))⟩, h.put 1 _⟩
theorem step_err (h : Blk w g 45 #[.slice A n c, .int .i64 a, .int .i64 e]) (e' : Int) (d : Nat) : Step w g A n c a e' ((w.setCell ⟨g, 2, none⟩ (.int .i64 e')).drewN d) :=
  ⟨⟨rfl, rfl, rfl, by simp [World.setCell, World.drewN], fun k _ hk => Below.heap_setCell w _ _ k (fun e => hk (by rw [e]))⟩, h.put 2 _⟩
theorem Step.lt (h : Step w g A n c a e w') (hg : g < w.heap.size) : g < w'.heap.size := Nat.lt_of_lt_of_le hg h.1.size
theorem Step.more (h : Step w g A n c a e w') (hb : Below w'.heap.size w' w2) : Step w g A n c a e w2 :=
  ⟨⟨hb.os.trans h.1.os, hb.tape.trans h.1.tape, hb.output.trans h.1.output, Nat.le_trans h.1.size hb.size, fun k hk hne => (hb.block k (Nat.lt_of_lt_of_le hk h.1.size)).trans (h.1.block k hk hne)⟩, h.2.below hb h.2.lt⟩
theorem Row.step {k : IntKind} {B m : Nat} {l : List Int} {A' : Option Addr} (hr : Row k w B A' m l) (h : Step w g A n c a e w') (hB : B ≤ w.heap.size) (hg : B ≤ g) : Row k w' B A' m l :=
  hr.keep fun p hp => World.cell?_of_block (h.1.block p.block (by omega) (fun q => by injection q with q; omega))
end

/-- What Bytes answers, and leaves: a row of bytes of its own. -/
def Got (w : World) (g : Nat) (A : Option Addr) (n c : Nat) (a e : Int) (l : List Int) (x : Ending) (w' : World) : Prop :=
  ∃ A' c', x = .returned (.slice A' l.length c') ∧ Row .u8 w' w'.heap.size A' l.length l ∧ Step w g A n c a e w'

theorem row_of_blk {w : World} {g : Nat} {l : List Int} {rest : List Value} (h : Blk w g 5 (l.map (Value.int .u8) ++ rest).toArray) : Row .u8 w w.heap.size (some ⟨g, 0, none⟩) l.length l := by
  refine ⟨rfl, fun _ => ⟨g, 0, rfl, h.lt, fun j hj => ?_⟩⟩
  rw [h.cell]
  simp [List.getElem?_append, hj]

set_option maxHeartbeats 400000 in
theorem bytes_bad (g : Nat) (A : Option Addr) (n c : Nat) (a k e : Int) (w : World) (hb : Blk w g 45 #[.slice A n c, .int .i64 a, .int .i64 e]) (he : (e != 0) = true) :
    Calls Try.prog 16 #[.pointer (some ⟨g, 0, none⟩), .int .i64 k] w (Got w g A n c a 3 []) := by
  have hmk := run_make5_0
  have HS := Lib.hid (step_err hb 3 0)
  have HB := Lib.hid hb
  have HE := Lib.hid he
  clear hb he
  go_enter Try.func16, Try.ntmps16
  go_wp2_with fail
  all_goals
    refine (take_bad g A n c a _ e _ HB.out HE.out).mono ?_
    rintro e1 w1 ⟨rfl, rfl⟩
    go_wp2_with (with_reducible refine wpList_copy_row rfl (.tmp 14) (.tmp 15) rfl w.heap.size 0 0 0 none rfl rfl 0 [] Row.nil [] (Nat.le_refl _) (by simpa using Blk.new (w.setCell ⟨g, 2, none⟩ (.int .i64 3)) 5 #[]) ?_; intro w2 hg2 hb2)
    go_ret
    refine ⟨_, _, rfl, Row.nil, HS.out.more ?_⟩
    exact below_new hb2 (by simp)

set_option maxHeartbeats 400000 in
theorem bytes_short (g : Nat) (A : Option Addr) (n c : Nat) (a k : Int) (w : World) (hb : Blk w g 45 #[.slice A n c, .int .i64 a, .int .i64 0]) (h0 : 0 ≤ a) (h1 : a ≤ n) (h2 : n ≤ maxLen) (hk : n - a < k) :
    Calls Try.prog 16 #[.pointer (some ⟨g, 0, none⟩), .int .i64 k] w (Got w g A n c a 3 []) := by
  have hmk := run_make5_0
  have HS := fun d => Lib.hid (step_err hb 3 d)
  have HB := Lib.hid hb
  clear hb
  have hkp : ¬ k < 0 := by omega
  go_enter Try.func16, Try.ntmps16
  go_wp2_with fail
  refine (take_short g A n c a _ _ HB.out h0 h1 h2 hk).mono ?_
  rintro e1 w1 ⟨rfl, d, rfl⟩
  go_wp2_with (with_reducible refine wpList_copy_row rfl (.tmp 14) (.tmp 15) rfl w.heap.size 0 0 0 none rfl rfl 0 [] Row.nil [] (Nat.le_refl _) (by simpa using Blk.new ((w.setCell ⟨g, 2, none⟩ (.int .i64 3)).drewN d) 5 #[]) ?_; intro w2 hg2 hb2)
  go_ret
  refine ⟨_, _, rfl, Row.nil, (HS d).out.more ?_⟩
  exact below_new hb2 (by simp)

set_option maxHeartbeats 400000 in
theorem bytes_ok (g : Nat) (A : Option Addr) (n c B : Nat) (a k : Int) (l : List Int) (w : World) (hb : Blk w g 45 #[.slice A n c, .int .i64 a, .int .i64 0]) (h0 : 0 ≤ a) (h1 : a ≤ n) (h2 : n ≤ c) (h3 : c ≤ 281474976710656) (hk : pos k ≤ n - a)
    (hr : Row .u8 w B A n l) (hB : B ≤ w.heap.size) (hg : B ≤ g) :
    Calls Try.prog 16 #[.pointer (some ⟨g, 0, none⟩), .int .i64 k] w (Got w g A n c (a + pos k) 0 ((l.drop a.toNat).take (pos k).toNat)) := by
  have hz : c ≤ maxLen := by unfold maxLen; omega
  have HS := fun x d => Lib.hid (step_at hb x d)
  have HB := Lib.hid hb
  have HR := Lib.hid hr
  clear hb hr
  have hl := HR.out.1
  generalize hQ : Got w g A n c (a + pos k) 0 ((l.drop a.toNat).take (pos k).toNat) = Q
  by_cases hneg : k < 0
  · have hp : pos k = 0 := if_pos hneg
    rw [hp] at hk hQ
    have HQ := Lib.hid hQ
    clear hQ hp hl
    have hmk := run_make5_0
    go_enter Try.func16, Try.ntmps16
    go_wp2_with fail
    refine (take_ok g A n c a _ _ HB.out h0 h1 h2 hz (by omega) hk).mono ?_
    rintro e1 w1 ⟨A', c', d, rfl, hc1, hc2, hcut, rfl⟩
    have HT := Lib.hid (HS (a + 0) d).out
    clear hcut HS
    generalize (w.setCell ⟨g, 1, none⟩ (.int .i64 (a + 0))).drewN d = w1 at *
    go_wp2_with (refine wpList_copy_row rfl (.tmp 14) (.tmp 15) rfl w1.heap.size 0 0 c' A' (by rfl) (by rfl) 0 [] Row.nil [] (Nat.le_refl _) (by simpa using Blk.new w1 5 #[]) ?_; intro w2 hg2 hb2)
    rw [← HQ.out]
    exact ⟨_, _, rfl, Row.nil, HT.out.more (below_new hb2 (by simp))⟩
  · have hp : pos k = k := if_neg hneg
    rw [hp] at hk hQ
    have HQ := Lib.hid hQ
    clear hQ hp
    go_enter Try.func16, Try.ntmps16
    go_wp2_with fail
    refine (take_ok g A n c a _ _ HB.out h0 h1 h2 hz (by omega) hk).mono ?_
    rintro e1 w1 ⟨A', c', d, rfl, hc1, hc2, hcut, rfl⟩
    have HT := Lib.hid (HS (a + k) d).out
    have hrow := hcut _ _ _ _ (HR.out.step HT.out hB hg)
    have hmk := run_make5 k.toNat k.toNat (Nat.le_refl _) (by omega)
    generalize hL : (l.drop a.toNat).take k.toNat = l' at *
    have hl' : l'.length = k.toNat := by rw [← hL]; simp; omega
    clear hcut hL hl HS
    generalize k.toNat = m at *
    have HL := Lib.hid hl'
    have HR' := Lib.hid hrow
    clear hl' hrow
    generalize (w.setCell ⟨g, 1, none⟩ (.int .i64 (a + k))).drewN d = w1 at *
    go_wp2_with (refine wpList_copy_row rfl (.tmp 14) (.tmp 15) rfl w1.heap.size m m c' A' (by rfl) (by rfl) B l' (by exact HR'.out.alloc (Nat.le_trans hB HT.out.1.size) _) (zeros m) (by simp [zeros]) (by simpa using Blk.new w1 5 _) ?_; intro w2 hg2 hb2)
    rw [← HQ.out]
    rw [← HL.out]
    exact ⟨_, _, rfl, row_of_blk hg2.out, HT.out.more (below_new hb2 (by simp))⟩
end Go.Proofs.Ytcapjkaekmjkaaa
