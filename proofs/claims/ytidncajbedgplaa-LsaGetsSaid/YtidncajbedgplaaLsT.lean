/- The call members of package lsa: a network's members, read to the end. Conditions: at most 2^20 bytes. -/
import Derived.Test.YtidncajbedgplaaLsS
namespace Go.Proofs.Ytidncajbedgplaa
open Go.RowKit

theorem Try.info3 : (Try.prog.info? 3).map (fun i => (i.zero, i.size, i.bytes)) = some (some (.int .i64 0), 1, 8) := by kernel_rfl
theorem Try.info53 : (Try.prog.info? 53).map (fun i => (i.zero, i.size, i.bytes)) = some (some (.agg #[.int .i64 0, .int .i64 0, .int .i64 0, .int .i64 0]), 4, 32) := by kernel_rfl

/-- append of one element that was laid out for it, to a row of the call's own. -/
theorem wpList_append_new {w : World} {ops : Array Oper} {rest : List Oper} {o : Oper} {a : Act} {Q : Exit → Act → World → Prop} (hgd : o.guard = none) (s x : Operand) (t e : TypeId) (z : Value) (size bytes : Nat)
    (ht : Try.prog.underlying t = some (.slice e)) (hinfo : (Try.prog.info? e).map (fun i => (i.zero, i.size, i.bytes)) = some (some z, size, bytes)) (hzs : z.cells.size = size) (hsz : 0 < size) (hby : bytes ≤ 1024)
    (ho : o.op = .call { callee := .builtin .append, args := #[s, x], argTypes := #[t, t] }) (base : Nat) (v : Value) (n : Nat) (xs : List Value) (hs : a.eval s = v) (hown : w.ownsRow base e size v n xs)
    (b : Nat) (news : List Value) (hx : a.eval x = .slice (some ⟨b, 0, none⟩) 1 1) (hl : news.length = size) (hb : Blk w b e news.toArray) (h1 : ∀ u ∈ news, u.oneCell' = true) (hn : n ≤ 1048576) (hbase : base ≤ w.heap.size)
    (h : ∀ v' w', Hid (w'.ownsRow base e size v' (n + 1) (xs ++ news)) → Hid (w.grownBy w' v.ownBlock) → wpList Try.prog ops Q rest (a.put o.dst v') w') : wpList Try.prog ops Q (o :: rest) a w := by
  obtain ⟨i0, hi, hz0, hz1, hz2⟩ := info_parts hinfo
  refine wpList_append_own w hgd s x t ho base e i0 z size bytes ht hi hz0 hz1 hz2 hzs hsz v n xs hs hown ⟨b, 0, none⟩ 1 1 news hx (by omega) ?_ h1 (by unfold maxLen; omega) ?_ hbase ?_
  · intro j u hu
    have e2 : (⟨b, 0, none⟩ : Addr).add j = ⟨b, 0 + j, none⟩ := by
      unfold Addr.add
      split <;> simp_all
    rw [e2, hb.cell, Nat.zero_add, List.getElem?_toArray]
    exact hu
  · have : (n + 1) * bytes ≤ 1048577 * 1024 := Nat.mul_le_mul (by omega) hby
    omega
  · intro v' w' h2 h3 _
    exact h v' w' h2 h3

/-- How many elements a slice value has. -/
def lenV : Value → Nat
  | .slice _ n _ => n
  | _ => 0
/-- The first k words of four bytes. -/
def words (l : List Int) (k : Nat) : List Int := (List.range k).map fun j => wordAt l (4 * j) 4
theorem words_length (l : List Int) (k : Nat) : (words l k).length = k := by simp [words]
theorem words_succ (l : List Int) (k : Nat) : words l (k + 1) = words l k ++ [wordAt l (4 * k) 4] := by simp [words, List.range_succ]
theorem own_len {w : World} {base : Nat} {t : TypeId} {size n : Nat} {v : Value} {xs : List Value} (h : w.ownsRow base t size v n xs) : lenV v = n := by
  rcases h.2 with ⟨rfl, rfl⟩ | ⟨g, cap, cur, rfl, _⟩ <;> rfl
theorem own_grown {w w' : World} {base g : Nat} {t : TypeId} {size n : Nat} {v : Value} {xs : List Value} (h : w.ownsRow base t size v n xs) (hg : w.grownBy w' (some g)) (hb : g < base) : w'.ownsRow base t size v n xs :=
  h.kept hg (by
    cases hv : v.ownBlock with
    | none => exact .inl rfl
    | some k =>
      refine .inr fun e => ?_
      injection e with e
      have := (h.lt k hv).1
      omega)
theorem rd_grown {w w' : World} {base b g a : Nat} {l : List Int} {v : Value} {t : TypeId} {size n : Nat} {xs : List Value} (h : Rd w base g l a) (ho : w.ownsRow b t size v n xs) (hg : w.grownBy w' v.ownBlock) (hb : g < b) (hb2 : b ≤ w.heap.size) : Rd w' base g l a := by
  refine h.below (b := b) (w' := w') ?_ hb
  exact (Below.refl b w).grown hg hb2 (fun k hk => (ho.lt k hk).1)
/-- .. and of the world: only the block of the reader may have turned. -/
theorem grown_own {w w1 w2 : World} {g : Nat} {v : Value} {t : TypeId} {size n : Nat} {xs : List Value} (h : w.grownBy w1 (some g)) (ho : w1.ownsRow w.heap.size t size v n xs) (hg : w1.grownBy w2 v.ownBlock) : w.grownBy w2 (some g) :=
  ⟨hg.os.trans h.os, hg.tape.trans h.tape, hg.output.trans h.output, Nat.le_trans h.size hg.size, fun k hk hne => (hg.block k (Nat.lt_of_lt_of_le hk h.size) (fun e => by have := (ho.lt k e.symm).1; omega)).trans (h.block k hk hne)⟩

theorem ret_pair_b {v : Value} {a b : Bool} (h : a = b) : Ending.returned (.tuple #[v, .bool a]) = .returned (.tuple #[v, .bool b]) := by rw [h]
/-- What members answers, and leaves. -/
def GotM (w : World) (g : Nat) (M : List Int) (is : Bool) (x : Ending) (w' : World) : Prop :=
  ∃ v, x = .returned (.tuple #[v, .bool is]) ∧ w'.ownsRow w.heap.size 3 1 v M.length (M.map (Value.int .i64)) ∧ w.grownBy w' (some g)

set_option maxHeartbeats 4000000 in
theorem members_any (base g : Nat) (l : List Int) (w : World) (h : Rd w base g l 0) (hl : l.length ≤ 1048576) :
    Calls Try.prog 53 #[.pointer (some ⟨g, 0, none⟩)] w (GotM w g (words l (l.length / 4)) (decide (l.length % 4 = 0))) := by
  generalize hQ : GotM w g (words l (l.length / 4)) (decide (l.length % 4 = 0)) = Q
  have HQ := Lib.hid hQ
  have HR := Lib.hid h
  have hg0 := h.lt.1
  clear hQ h
  go_enter Try.func53, Try.ntmps53
  go_wp2_with fail
  go_loopw [4] (fun v wr => ∃ k : Nat, 4 * k ≤ l.length ∧ Hid (Rd wr base g l (4 * k)) ∧ Hid (wr.ownsRow w.heap.size 3 1 v k ((words l k).map (Value.int .i64))) ∧ Hid (w.grownBy wr (some g))) (fun v _ => l.length - lenV v)
  case atStart => exact ⟨0, by omega, HR, Lib.hid (World.ownsRow_nil w _ _ _), Lib.hid (grown_refl w _)⟩
  case round =>
    clear HR
    obtain ⟨k, hk, hr, ho, hg⟩ := hrel
    go_wp2_with fail
    refine (rd_left base g (4 * k) l _ hr.out).mono ?_
    rintro e1 w1 ⟨rfl, d, rfl⟩
    have RD1 := Lib.hid (show Rd (wr.drewN d) base g l (4 * k) from hr.out)
    have OW1 := Lib.hid (show (wr.drewN d).ownsRow w.heap.size 3 1 u4 k ((words l k).map (Value.int .i64)) from ho.out)
    have GR1 := Lib.hid (show w.grownBy (wr.drewN d) (some g) from ⟨hg.out.os, hg.out.tape, hg.out.output, hg.out.size, hg.out.block⟩)
    have HLV := Lib.hid (own_len ho.out)
    clear hr ho hg
    generalize wr.drewN d = w1 at *
    obtain ⟨r, hr⟩ : ∃ r, l.length - 4 * k = r := ⟨_, rfl⟩
    rw [hr]
    have hr2 : l.length = 4 * k + r := by omega
    have HR2 := Lib.hid hr2
    clear hr hr2
    have hsz := GR1.out.size
    by_cases hlt : 4 ≤ r
    · go_wp2_with fail
      refine (rd_num base g (4 * k) 4 4 l _ RD1.out rfl (by have := HR2.out; omega)).mono ?_
      rintro e2 w2 ⟨rfl, hrd, hgr⟩
      have RD2 := Lib.hid hrd
      have OW2 := Lib.hid (own_grown OW1.out hgr hg0)
      have GR2 := Lib.hid (grown_trans GR1.out hgr)
      have hsz2 := GR2.out.size
      clear hrd hgr RD1 OW1 GR1
      generalize hx : wordAt l (4 * k) 4 = x at *
      have HX := Lib.hid hx
      clear hx
      go_wp2_with (at_builtin; refine wpList_append_new rfl (.tmp 8) (.tmp 11) 25 3 (.int .i64 0) 1 8 Try.underlying25 Try.info3 rfl (by decide) (by decide) rfl w.heap.size u4 k _ (by rfl) (by exact OW2.out.alloc _) w2.heap.size [.int .i64 x] (by rfl) rfl (by exact Blk.new w2 3 #[.int .i64 x]) (by exact oneCell_ints .i64 [x]) (by have := HR2.out; omega) (by simp; omega) ?_; intro v3 w3 ho3 hg3)
      go_roundw
      case rel =>
        refine ⟨k + 1, by have := HR2.out; omega, Lib.hid ?_, Lib.hid ?_, Lib.hid ?_⟩
        · have h1 := rd_grown (RD2.out.alloc _) (OW2.out.alloc _) hg3.out hg0 (by simp; omega)
          rw [show 4 * (k + 1) = 4 * k + 4 from by omega]
          exact h1
        · have h1 := ho3.out
          rw [words_succ, HX.out, List.map_append]
          exact h1
        · exact grown_own (grown_alloc GR2.out _) (OW2.out.alloc _) hg3.out
      case measure =>
        rw [HLV.out, own_len ho3.out]
        have := HR2.out
        omega
    · go_wp2_with fail
      refine (rd_left base g (4 * k) l _ RD1.out).mono ?_
      rintro e2 w2 ⟨rfl, d2, rfl⟩
      have OW2 := Lib.hid (show (w1.drewN d2).ownsRow w.heap.size 3 1 u4 k ((words l k).map (Value.int .i64)) from OW1.out)
      have GR2 := Lib.hid (show w.grownBy (w1.drewN d2) (some g) from ⟨GR1.out.os, GR1.out.tape, GR1.out.output, GR1.out.size, GR1.out.block⟩)
      have HK := Lib.hid (show l.length / 4 = k by have := HR2.out; omega)
      have HM := Lib.hid (show (((l.length - 4 * k : Nat) : Int) == 0) = decide (l.length % 4 = 0) by
        have := HR2.out
        rw [Bool.eq_iff_iff]
        simp
        omega)
      clear OW1 GR1 RD1 hsz
      generalize w1.drewN d2 = w2 at *
      go_wp2
      rw [← HQ.out, HK.out]
      refine ⟨u4, ret_pair_b HM.out, ?_, GR2.out⟩
      rw [words_length]
      exact OW2.out
end Go.Proofs.Ytidncajbedgplaa
