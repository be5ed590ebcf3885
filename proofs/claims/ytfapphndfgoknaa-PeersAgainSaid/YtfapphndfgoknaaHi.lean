/- numbers, All, Seen, Late, Cands of the program. Conditions: what the words say. -/
import Derived.Test.YtfapphndfgoknaaHh
namespace Go.Proofs.Ytfapphndfgoknaa
open Go.RowKit Go.Deep

set_option maxRecDepth 8000 in
set_option maxHeartbeats 4000000 in
theorem numbers_any {w : World} {base n c : Nat} {A : Option Addr} {L : List Pe} (hO : w.ownsRow base 47 7 (.slice A n c) n (cellsBy encPe L)) (hn : n ≤ 100) :
    Calls Try.prog 29 #[.slice A n c] w fun e w' => (∃ A' n' c', e = .returned (.slice A' n' c') ∧ w'.ownsRow w.heap.size 3 1 (.slice A' n' c') n' (cellsBy encI (L.map (·.id)))) ∧ Below w.heap.size w w' := by
  generalize hQ : (fun (e : Ending) (w' : World) => (∃ A' n' c', e = .returned (.slice A' n' c') ∧ w'.ownsRow w.heap.size 3 1 (.slice A' n' c') n' (cellsBy encI (L.map (·.id)))) ∧ Below w.heap.size w w') = Q
  have HQ := Lib.hid hQ
  have HO := Lib.hid hO
  have HLEN := Lib.hid (own_len encPe_len (by omega) hO)
  clear hQ hO
  go_enter Try.func29, Try.ntmps29
  go_wp2_with fail
  go_loopw [3, 8] (fun s3 s8 wr => ∃ (j m c' : Nat) (A' : Option Addr), j ≤ n ∧ s8 = .int .i64 j ∧ s3 = .slice A' m c' ∧ Hid (wr.ownsRow w.heap.size 3 1 (.slice A' m c') m (cellsBy encI ((L.take j).map (·.id)))) ∧ Hid (Below w.heap.size w wr)) (fun _ i _ => n - (intOf i).toNat)
  case atStart => exact ⟨0, 0, 0, none, Nat.zero_le _, rfl, rfl, Lib.hid (World.ownsRow_nil _ _ _ _), Lib.hid (Below.refl _ _)⟩
  case round =>
    obtain ⟨j, m, c', A', hj, rfl, rfl, HR, HB⟩ := hrel
    by_cases hlt : j < n
    · have hlt' : (j : Int) < n := by omega
      have hm := own_len encI_len (by omega) HR.out
      have HM := Lib.hid (show m ≤ 1000 by rw [← hm]; simp; omega)
      clear hm
      obtain ⟨x, hx⟩ : ∃ x, L[j]? = some x := ⟨L[j]'(by have := HLEN.out; omega), List.getElem?_eq_getElem (by have := HLEN.out; omega)⟩
      have HX := Lib.hid (show (L.take j).map (·.id) ++ [x.id] = (L.take (j + 1)).map (·.id) by rw [take_snocA L j x hx]; simp)
      obtain ⟨g, rfl, -, hgl, hnc, hcm, hrg, -⟩ := own_pe (own_below2 HO.out HB.out) hx
      have RG := Lib.hid hrg
      unfold maxLen at hcm
      clear hx hrg
      go_upto_region 5 with (refine wpList_load_pe (y := x) (by rfl) _ rfl (by rfl) RG.out ?_)
      have K2 := Lib.hid (Blk.new wr 47 #[.int .i64 x.id, .int .i64 x.prio, .int .i64 x.dr, .int .i64 x.bdr, .int .i64 x.st, .bool x.two, .int .i64 x.tick])
      have B2 := Lib.hid (HB.out.alloc HB.out.size (.cells #[.int .i64 x.id, .int .i64 x.prio, .int .i64 x.dr, .int .i64 x.bdr, .int .i64 x.st, .bool x.two, .int .i64 x.tick] 47))
      have R2 := Lib.hid (HR.out.alloc (.cells #[.int .i64 x.id, .int .i64 x.prio, .int .i64 x.dr, .int .i64 x.bdr, .int .i64 x.st, .bool x.two, .int .i64 x.tick] 47))
      generalize wr.alloc (.cells #[.int .i64 x.id, .int .i64 x.prio, .int .i64 x.dr, .int .i64 x.bdr, .int .i64 x.st, .bool x.two, .int .i64 x.tick] 47) = w2 at *
      have k0 := K2.out.seven.1
      have hl2 := K2.out.lt
      have hs2 := B2.out.size
      go_wp2_with (at_builtin; refine wpList_app_int rfl _ _ rfl x.id (by rfl) (by rfl) R2.out HM.out hs2 ?_; intro A3 c3 w3 ho3 hb3)
      rw [HX.out] at ho3
      have B3 := Lib.hid (B2.out.trans hb3.out)
      go_roundw
      case rel => exact ⟨j + 1, m + 1, c3, A3, by omega, by go_num, rfl, ho3, B3⟩
      case measure => simp [intOf]; omega
    · have hjn : j = n := by omega
      have HR2 := Lib.hid (show wr.ownsRow w.heap.size 3 1 (.slice A' m c') m (cellsBy encI (L.map (·.id))) by
        have h1 : L.take j = L := by rw [hjn, ← HLEN.out, List.take_length]
        have := HR.out
        rwa [h1] at this)
      clear hjn HR
      go_wp2
      show Q (.returned (.slice A' m c')) wr
      rw [← HQ.out]
      exact ⟨⟨A', m, c', rfl, HR2.out⟩, HB.out⟩
theorem enterAll : ∀ args w, (callFunc 35 args).run Try.prog w = .ok (.enter 35 args) w := fun _ _ => by kernel_rfl
theorem enterCands : ∀ args w, (callFunc 36 args).run Try.prog w = .ok (.enter 36 args) w := fun _ _ => by kernel_rfl
theorem enterLate : ∀ args w, (callFunc 31 args).run Try.prog w = .ok (.enter 31 args) w := fun _ _ => by kernel_rfl
theorem all1_any (x : Pe) (w : World) : Calls Try.prog 35 #[.agg #[.int .i64 x.id, .int .i64 x.prio, .int .i64 x.dr, .int .i64 x.bdr, .int .i64 x.st, .bool x.two, .int .i64 x.tick]] w fun e w' => e = .returned (.bool true) ∧ Below w.heap.size w w' := by
  have B0 := Lib.hid ((Below.refl w.heap.size w).alloc (Nat.le_refl _) (.cells #[.int .i64 x.id, .int .i64 x.prio, .int .i64 x.dr, .int .i64 x.bdr, .int .i64 x.st, .bool x.two, .int .i64 x.tick] 47))
  go_enter Try.func35, Try.ntmps35
  go_wp2
  go_ret
  exact ⟨rfl, B0.out⟩
theorem cands1_any (x : Pe) (w : World) : Calls Try.prog 36 #[.agg #[.int .i64 x.id, .int .i64 x.prio, .int .i64 x.dr, .int .i64 x.bdr, .int .i64 x.st, .bool x.two, .int .i64 x.tick]] w fun e w' => e = .returned (.bool x.two) ∧ Below w.heap.size w w' := by
  have B0 := Lib.hid ((Below.refl w.heap.size w).alloc (Nat.le_refl _) (.cells #[.int .i64 x.id, .int .i64 x.prio, .int .i64 x.dr, .int .i64 x.bdr, .int .i64 x.st, .bool x.two, .int .i64 x.tick] 47))
  have K0 := Lib.hid (Blk.new w 47 #[.int .i64 x.id, .int .i64 x.prio, .int .i64 x.dr, .int .i64 x.bdr, .int .i64 x.st, .bool x.two, .int .i64 x.tick])
  go_enter Try.func36, Try.ntmps36
  go_upto_region 1 with fail
  generalize w.alloc (.cells #[.int .i64 x.id, .int .i64 x.prio, .int .i64 x.dr, .int .i64 x.bdr, .int .i64 x.st, .bool x.two, .int .i64 x.tick] 47) = w0 at *
  obtain ⟨k0, k1, k2, k3, k4, k5, k6⟩ := K0.out.seven
  have hl := K0.out.lt
  go_wp2
  go_ret
  exact ⟨rfl, B0.out⟩
theorem late1_any (x : Pe) (now : Int) (q : Nat) (w : World) (hq : Blk w q 3 #[.int .i64 now]) (hx : 0 ≤ x.tick ∧ x.tick ≤ 1048576) (hn : 0 ≤ now ∧ now ≤ 1048600) : Calls Try.prog 31 #[.agg #[.int .i64 x.id, .int .i64 x.prio, .int .i64 x.dr, .int .i64 x.bdr, .int .i64 x.st, .bool x.two, .int .i64 x.tick], .pointer (some ⟨q, 0, none⟩)] w fun e w' => e = .returned (.bool (lateB now x)) ∧ Below w.heap.size w w' := by
  have B0 := Lib.hid ((Below.refl w.heap.size w).alloc (Nat.le_refl _) (.cells #[.int .i64 x.id, .int .i64 x.prio, .int .i64 x.dr, .int .i64 x.bdr, .int .i64 x.st, .bool x.two, .int .i64 x.tick] 47))
  have K0 := Lib.hid (Blk.new w 47 #[.int .i64 x.id, .int .i64 x.prio, .int .i64 x.dr, .int .i64 x.bdr, .int .i64 x.st, .bool x.two, .int .i64 x.tick])
  have Q0 := Lib.hid (hq.alloc (.cells #[.int .i64 x.id, .int .i64 x.prio, .int .i64 x.dr, .int .i64 x.bdr, .int .i64 x.st, .bool x.two, .int .i64 x.tick] 47))
  have HX := Lib.hid hx
  have HN := Lib.hid hn
  clear hq hx hn
  go_enter Try.func31, Try.ntmps31
  go_upto_region 1 with fail
  generalize w.alloc (.cells #[.int .i64 x.id, .int .i64 x.prio, .int .i64 x.dr, .int .i64 x.bdr, .int .i64 x.st, .bool x.two, .int .i64 x.tick] 47) = w0 at *
  obtain ⟨k0, k1, k2, k3, k4, k5, k6⟩ := K0.out.seven
  have hl := K0.out.lt
  have q0 := Q0.out.one
  have hlq := Q0.out.lt
  go_wp2_with fail
  refine (late_any x.tick now HX.out HN.out _).mono ?_
  rintro e1 w1 ⟨rfl, rfl⟩
  go_wp2
  go_ret
  exact ⟨rfl, B0.out⟩
theorem filter_true (X : List Pe) : X.filter (fun _ => true) = X := List.filter_eq_self.2 (fun _ _ => rfl)
set_option maxRecDepth 8000 in
theorem all_any {w : World} {p : Nat} {F : Nat → Prop} {sf lan : Int} {X : List Pe} {bk : Int → Nat} (hD : PDb w p F sf lan X bk) :
    Calls Try.prog 18 #[.pointer (some ⟨p, 0, none⟩)] w fun e w' => (∃ A n c, e = .returned (.slice A n c) ∧ w'.ownsRow w.heap.size 47 7 (.slice A n c) n (cellsBy encPe X)) ∧ Below w.heap.size w w' := by
  have HD := Lib.hid hD
  clear hD
  go_enter Try.func18, Try.ntmps18
  go_wp2_with fail
  refine (which_plain 35 (fun _ => true) (fun _ => True) enterAll (fun _ _ _ _ => trivial) (fun x W _ _ => all1_any x W) trivial HD.out).mono ?_
  rintro e1 w1 ⟨⟨A1, n1, c1, rfl, ho1⟩, hb1⟩
  have HO1 := Lib.hid ho1
  have B1 := Lib.hid hb1
  rw [filter_true] at HO1
  clear ho1 hb1
  go_wp2
  go_ret
  exact ⟨⟨A1, n1, c1, rfl, HO1.out⟩, B1.out⟩
set_option maxRecDepth 8000 in
theorem seen_any {w : World} {p : Nat} {F : Nat → Prop} {sf lan : Int} {X : List Pe} {bk : Int → Nat} (hD : PDb w p F sf lan X bk) :
    Calls Try.prog 20 #[.pointer (some ⟨p, 0, none⟩)] w fun e w' => (∃ A n c, e = .returned (.slice A n c) ∧ w'.ownsRow w.heap.size 3 1 (.slice A n c) n (cellsBy encI (X.map (·.id)))) ∧ Below w.heap.size w w' := by
  have HD := Lib.hid hD
  have HLN := Lib.hid hD.srt.len
  clear hD
  go_enter Try.func20, Try.ntmps20
  go_wp2_with fail
  refine (all_any HD.out).mono ?_
  rintro e1 w1 ⟨⟨A1, n1, c1, rfl, ho1⟩, hb1⟩
  have HO1 := Lib.hid ho1
  have B1 := Lib.hid hb1
  have HN1 := Lib.hid (show n1 ≤ 100 by rw [← own_len encPe_len (by omega) ho1]; have := HLN.out; omega)
  clear ho1 hb1
  go_wp2_with fail
  refine (numbers_any HO1.out HN1.out).mono ?_
  rintro e2 w2 ⟨⟨A2, n2, c2, rfl, ho2⟩, hb2⟩
  have HO2 := Lib.hid (own_low ho2 B1.out.size)
  have B2 := Lib.hid (B1.out.trans (hb2.mono B1.out.size))
  clear ho2 hb2
  go_wp2
  go_ret
  exact ⟨⟨A2, n2, c2, rfl, HO2.out⟩, B2.out⟩
set_option maxRecDepth 8000 in
theorem lateL_any {w : World} {p : Nat} {F : Nat → Prop} {sf lan : Int} {X : List Pe} {bk : Int → Nat} (now : Int) (hn : 0 ≤ now ∧ now ≤ 1048600) (hD : PDb w p F sf lan X bk) :
    Calls Try.prog 11 #[.pointer (some ⟨p, 0, none⟩), .int .i64 now] w fun e w' => (∃ A n c, e = .returned (.slice A n c) ∧ w'.ownsRow w.heap.size 3 1 (.slice A n c) n (cellsBy encI (lateL X now))) ∧ Below w.heap.size w w' := by
  have B0 := Lib.hid ((Below.refl w.heap.size w).alloc (Nat.le_refl _) (.cells #[.int .i64 now] 3))
  have K0 := Lib.hid (Blk.new w 3 #[.int .i64 now])
  have D0 := Lib.hid (hD.below B0.out)
  have HLN := Lib.hid hD.srt.len
  have HTK := Lib.hid hD.srt.ticks
  have HN := Lib.hid hn
  clear hD hn
  have hmf : ∀ (fn : Fn) (first cap : Array Value) (w : World), (Instr.makeFunc fn first cap).run Try.prog w = .ok (.func fn first cap) w := fun _ _ _ _ => rfl
  go_enter Try.func11, Try.ntmps11
  go_wp2_with fail
  generalize w.alloc (.cells #[.int .i64 now] 3) = w0 at *
  refine (which_bound 31 w.heap.size (lateB now) (fun W => Blk W w.heap.size 3 #[.int .i64 now]) enterLate (fun W W' h hb => h.below hb h.lt) (fun x W hx hW => late1_any x now _ W hW (HTK.out x hx) HN.out) K0.out D0.out).mono ?_
  rintro e1 w1 ⟨⟨A1, n1, c1, rfl, ho1⟩, hb1⟩
  have HO1 := Lib.hid ho1
  have B1 := Lib.hid (B0.out.trans (hb1.mono B0.out.size))
  have HN1 := Lib.hid (show n1 ≤ 100 by
    rw [← own_len encPe_len (by omega) ho1]
    have h1 : (X.filter (lateB now)).length ≤ X.length := List.length_filter_le _ _
    have := HLN.out
    omega)
  clear ho1 hb1
  go_wp2_with fail
  refine (numbers_any HO1.out HN1.out).mono ?_
  rintro e2 w2 ⟨⟨A2, n2, c2, rfl, ho2⟩, hb2⟩
  have HO2 := Lib.hid (own_low ho2 B1.out.size)
  have B2 := Lib.hid (B1.out.trans (hb2.mono B1.out.size))
  clear ho2 hb2
  go_wp2
  go_ret
  exact ⟨⟨A2, n2, c2, rfl, HO2.out⟩, B2.out⟩
set_option maxRecDepth 8000 in
set_option maxHeartbeats 4000000 in
theorem cands_any {w : World} {p : Nat} {F : Nat → Prop} {sf lan : Int} {X : List Pe} {bk : Int → Nat} (hD : PDb w p F sf lan X bk) :
    Calls Try.prog 21 #[.pointer (some ⟨p, 0, none⟩)] w fun e w' => (∃ A n c, e = .returned (.slice A n c) ∧ w'.ownsRow w.heap.size 69 4 (.slice A n c) n (cellsBy encCd (cdsL X))) ∧ Below w.heap.size w w' := by
  generalize hQ : (fun (e : Ending) (w' : World) => (∃ A n c, e = .returned (.slice A n c) ∧ w'.ownsRow w.heap.size 69 4 (.slice A n c) n (cellsBy encCd (cdsL X))) ∧ Below w.heap.size w w') = Q
  have HQ := Lib.hid hQ
  have HD := Lib.hid hD
  have HLN := Lib.hid hD.srt.len
  clear hD hQ
  go_enter Try.func21, Try.ntmps21
  go_wp2_with fail
  refine (which_plain 36 (fun x => x.two) (fun _ => True) enterCands (fun _ _ _ _ => trivial) (fun x W _ _ => cands1_any x W) trivial HD.out).mono ?_
  rintro e1 w1 ⟨⟨A1, n, c, rfl, ho1⟩, hb1⟩
  have HO := Lib.hid ho1
  have B1 := Lib.hid hb1
  have HLEN := Lib.hid (own_len encPe_len (by omega) ho1)
  have HN := Lib.hid (show n ≤ 100 by
    rw [← HLEN.out]
    have h1 : (X.filter (fun x => x.two)).length ≤ X.length := List.length_filter_le _ _
    have := HLN.out
    omega)
  have HCD := Lib.hid (show cdsL X = (X.filter (fun x => x.two)).map cdP from rfl)
  generalize X.filter (fun x => x.two) = L at *
  have hs1 := hb1.size
  clear ho1 hb1
  go_wp2_with fail
  go_loopw [3, 9] (fun s3 s8 wr => ∃ (j m c' : Nat) (A' : Option Addr), j ≤ n ∧ s8 = .int .i64 j ∧ s3 = .slice A' m c' ∧ Hid (wr.ownsRow w1.heap.size 69 4 (.slice A' m c') m (cellsBy encCd ((L.take j).map cdP))) ∧ Hid (Below w1.heap.size w1 wr)) (fun _ i _ => n - (intOf i).toNat)
  case atStart => exact ⟨0, 0, 0, none, Nat.zero_le _, rfl, rfl, Lib.hid (World.ownsRow_nil _ _ _ _), Lib.hid (Below.refl _ _)⟩
  case round =>
    obtain ⟨j, m, c', A', hj, rfl, rfl, HR, HB⟩ := hrel
    by_cases hlt : j < n
    · have hlt' : (j : Int) < n := by omega
      have hm := own_len encCd_len (by omega) HR.out
      have HM := Lib.hid (show m ≤ 1000 by rw [← hm]; have := HN.out; simp; omega)
      clear hm
      obtain ⟨x, hx⟩ : ∃ x, L[j]? = some x := ⟨L[j]'(by have := HLEN.out; omega), List.getElem?_eq_getElem (by have := HLEN.out; omega)⟩
      have HX := Lib.hid (show (L.take j).map cdP ++ [⟨x.id, x.prio, x.dr, x.bdr⟩] = (L.take (j + 1)).map cdP by rw [take_snocA L j x hx, List.map_append]; rfl)
      obtain ⟨g, rfl, -, hgl, hnc, hcm, hrg, -⟩ := own_pe (own_below2 HO.out HB.out) hx
      have RG := Lib.hid hrg
      unfold maxLen at hcm
      clear hx hrg
      go_upto_region 5 with (refine wpList_load_pe (y := x) (by rfl) _ rfl (by rfl) RG.out ?_)
      have K2 := Lib.hid (Blk.new wr 47 #[.int .i64 x.id, .int .i64 x.prio, .int .i64 x.dr, .int .i64 x.bdr, .int .i64 x.st, .bool x.two, .int .i64 x.tick])
      have B2 := Lib.hid (HB.out.alloc HB.out.size (.cells #[.int .i64 x.id, .int .i64 x.prio, .int .i64 x.dr, .int .i64 x.bdr, .int .i64 x.st, .bool x.two, .int .i64 x.tick] 47))
      have R2 := Lib.hid (HR.out.alloc (.cells #[.int .i64 x.id, .int .i64 x.prio, .int .i64 x.dr, .int .i64 x.bdr, .int .i64 x.st, .bool x.two, .int .i64 x.tick] 47))
      generalize wr.alloc (.cells #[.int .i64 x.id, .int .i64 x.prio, .int .i64 x.dr, .int .i64 x.bdr, .int .i64 x.st, .bool x.two, .int .i64 x.tick] 47) = w2 at *
      obtain ⟨k0, k1, k2, k3, k4, k5, k6⟩ := K2.out.seven
      have hl2 := K2.out.lt
      have hs2 := B2.out.size
      go_wp2_with (at_builtin; refine wpList_app_cd rfl _ _ rfl ⟨x.id, x.prio, x.dr, x.bdr⟩ (by rfl) (by rfl) R2.out HM.out hs2 ?_; intro A3 c3 w3 ho3 hb3)
      rw [HX.out] at ho3
      have B3 := Lib.hid (B2.out.trans hb3.out)
      go_roundw
      case rel => exact ⟨j + 1, m + 1, c3, A3, by omega, by go_num, rfl, ho3, B3⟩
      case measure => simp [intOf]; omega
    · have hjn : j = n := by omega
      have HR2 := Lib.hid (show wr.ownsRow w.heap.size 69 4 (.slice A' m c') m (cellsBy encCd (cdsL X)) by
        have h1 : L.take j = L := by rw [hjn, ← HLEN.out, List.take_length]
        have := HR.out
        rw [h1, ← HCD.out] at this
        exact own_low this hs1)
      clear hjn HR
      go_wp2
      show Q (.returned (.slice A' m c')) wr
      rw [← HQ.out]
      exact ⟨⟨A', m, c', rfl, HR2.out⟩, B1.out.trans (HB.out.mono hs1)⟩
end Go.Proofs.Ytfapphndfgoknaa
