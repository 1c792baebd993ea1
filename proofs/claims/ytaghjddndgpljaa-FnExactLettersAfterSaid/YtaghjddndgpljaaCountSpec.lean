/- The model's CountWords, WordAt, PlaceOf. No condition. -/
import Derived.Test.YtaghjddndgpljaaCountImpl
import Derived.Test.YtaghjddndgpljaaRolled
namespace Go.Proofs.Ytaghjddndgpljaa
open Go.RowKit

theorem countedB_eq (n : Int) : (decide (0 ≤ n) && decide (n ≤ 10)) = countedB n := rfl

set_option maxHeartbeats 1600000 in
theorem specCountWords_any (m : M) (n : Int) (nv ev : Value) (w : World) (h1 : IsInts w nv m.next) (h2 : IsBools w ev m.ends) (hst : (Lit.int .i64 m.st).wf = true) :
    Calls Try.prog 35 #[.agg #[.int .i64 m.st, nv, ev], .int .i64 n] w fun e w' => e = .returned (.int .i64 (countWords m n)) ∧ Below w.heap.size w w' := by
  have MB := Lib.hid (MachBox.new (st := m.st) 26 h1 h2)
  have q0 := Lib.hid ((Below.refl w.heap.size w).alloc (Nat.le_refl _) (.cells #[.int .i64 m.st, nv, ev] 26))
  have HOK := Lib.hid (fun W a b => specMachineOk_any m nv ev W a b hst)
  have HCO := Lib.hid (fun W => l1In_any n 0 10 W)
  rw [countedB_eq] at HCO
  have y0 := MB.out.c0
  have y1 := MB.out.c1
  have y2 := MB.out.c2
  clear h1 h2
  go_enter Try.func35, Try.ntmps35
  go_wp2_with fail
  refine (HOK.out _ MB.out.ints MB.out.bools).mono ?_
  rintro e w1 ⟨rfl, hb1⟩
  have M1 := Lib.hid (MB.out.below hb1)
  have q1 := Lib.hid (q0.out.trans (hb1.mono q0.out.size))
  have z0 := M1.out.c0
  have z1 := M1.out.c1
  have z2 := M1.out.c2
  clear y0 y1 y2 hb1
  cases hk : m.ok with
  | false =>
    have HR := Lib.hid (countWords_no (m := m) (n := n) (by rw [hk, Bool.false_and]))
    go_wp2_with fail
    go_ret
    exact ⟨ret_int HR.out.symm, q1.out⟩
  | true =>
    have HK := Lib.hid hk
    go_wp2_with fail
    refine (HCO.out _).mono ?_
    rintro e w2 ⟨rfl, rfl⟩
    cases hc : countedB n with
    | false =>
      have HR := Lib.hid (countWords_no (m := m) (n := n) (by rw [hc, Bool.and_false]))
      go_wp2_with fail
      go_ret
      exact ⟨ret_int HR.out.symm, q1.out⟩
    | true =>
      obtain ⟨r, rfl, hr⟩ := countedB_nat hc
      have HR := Lib.hid (countWords_yes HK.out hc)
      have hsh := M.ok_shape HK.out
      clear hc HCO
      go_wp2_with fail
      refine (l6Many_any m 0 r nv ev _ M1.out.ints M1.out.bools (M.ok_good HK.out) (Int.le_refl _) (by omega) hr).mono ?_
      rintro e w3 ⟨rfl, hb3⟩
      have q3 := Lib.hid (q1.out.trans (hb3.mono q1.out.size))
      clear z0 z1 z2 hb3
      go_wp2_with fail
      go_ret
      exact ⟨ret_int HR.out.symm, q3.out⟩

theorem rdnW_cut : ∀ l, l < 3 → ((⟨#[114, 100, 110]⟩ : ByteArray).extract l (l + 1)).data.toList = [byteOf l]
  | 0, _ => by kernel_rfl
  | 1, _ => by kernel_rfl
  | 2, _ => by kernel_rfl
theorem rdnW_at (l : Nat) (hl : l < 3) (li : Int) (h : li = (l : Int)) (w : World) : (Instr.slice 9 (.string ⟨#[114, 100, 110]⟩) (some (.int .i64 li)) (some (.int .i64 (li + 1))) none).run Try.prog w = .ok (.string (letS l)) w := by
  subst h
  have hs : (⟨#[114, 100, 110]⟩ : ByteArray).size = 3 := by kernel_rfl
  have h := slice_one ⟨#[114, 100, 110]⟩ l (by omega) w
  have e : (⟨#[114, 100, 110]⟩ : ByteArray).extract l (l + 1) = letS l := bytes_ext (rdnW_cut l hl)
  rw [e] at h; exact h
theorem letS_app (s : ByteArray) (l : Nat) : (s ++ letS l).data.toList = s.data.toList ++ [byteOf l] := by
  rw [ByteArray.data_append, Array.toList_append]; rfl
theorem l1In_no {y a : Int} (h : ¬ (0 ≤ a ∧ a < y)) : (decide (0 ≤ a) && decide (a ≤ y - 1)) = false := by
  by_cases h1 : 0 ≤ a
  · rw [decide_eq_false (show ¬ a ≤ y - 1 by omega), Bool.and_false]
  · rw [decide_eq_false h1, Bool.false_and]
theorem l1In_yes {y a : Int} (h : 0 ≤ a ∧ a < y) : (decide (0 ≤ a) && decide (a ≤ y - 1)) = true := by
  rw [decide_eq_true h.1, decide_eq_true (show a ≤ y - 1 by omega)]; rfl

set_option maxHeartbeats 3200000 in
theorem specWordAt_any (m : M) (n a0 : Int) (nv ev : Value) (w : World) (h1 : IsInts w nv m.next) (h2 : IsBools w ev m.ends) (hst : (Lit.int .i64 m.st).wf = true) :
    Calls Try.prog 37 #[.agg #[.int .i64 m.st, nv, ev], .int .i64 n, .int .i64 a0] w fun e w' => e = .returned (.tuple #[.string (wordAtZ m n a0).1, .bool (wordAtZ m n a0).2]) ∧ Below w.heap.size w w' := by
  have MB := Lib.hid (MachBox.new (st := m.st) 26 h1 h2)
  have q0 := Lib.hid ((Below.refl w.heap.size w).alloc (Nat.le_refl _) (.cells #[.int .i64 m.st, nv, ev] 26))
  have HOK := Lib.hid (fun W a b => specMachineOk_any m nv ev W a b hst)
  have HCO := Lib.hid (fun W => l1In_any n 0 10 W)
  rw [countedB_eq] at HCO
  have y0 := MB.out.c0
  have y1 := MB.out.c1
  have y2 := MB.out.c2
  clear h1 h2
  go_enter Try.func37, Try.ntmps37
  go_upto_region 1 with fail
  generalize (w.alloc (.cells #[.int .i64 m.st, nv, ev] 26)) = W0 at *
  generalize hR : w.heap.size = R at *
  have HR := Lib.hid hR
  clear hR
  go_wp2_with fail
  refine (HOK.out _ MB.out.ints MB.out.bools).mono ?_
  rintro e w1 ⟨rfl, hb1⟩
  have M1 := Lib.hid (MB.out.below hb1)
  have q1 := Lib.hid (q0.out.trans (hb1.mono (by rw [← HR.out]; exact q0.out.size)))
  have z0 := M1.out.c0
  have z1 := M1.out.c1
  have z2 := M1.out.c2
  clear y0 y1 y2 hb1
  cases hk : m.ok with
  | false =>
    have HZ := Lib.hid (wordAtZ_no (m := m) (n := n) (a := a0) (by rw [hk, Bool.false_and]))
    go_wp2_with fail
    go_ret2
    exact ⟨(ret_sb HZ.out).symm, by rw [HR.out]; exact q1.out⟩
  | true =>
    have HK := Lib.hid hk
    go_wp2_with fail
    refine (HCO.out _).mono ?_
    rintro e w2 ⟨rfl, rfl⟩
    cases hc : countedB n with
    | false =>
      have HZ := Lib.hid (wordAtZ_no (m := m) (n := n) (a := a0) (by rw [hc, Bool.and_false]))
      go_wp2_with fail
      go_ret2
      exact ⟨(ret_sb HZ.out).symm, by rw [HR.out]; exact q1.out⟩
    | true =>
      obtain ⟨r, rfl, hr⟩ := countedB_nat hc
      have HZ := Lib.hid (wordAtZ_yes (a := a0) HK.out hc)
      have hsh := M.ok_shape HK.out
      have hwb := m.ways_bd r 0 hr
      clear hc HCO
      go_wp2_with fail
      refine (l6Many_any m 0 r nv ev _ M1.out.ints M1.out.bools (M.ok_good HK.out) (Int.le_refl _) (by omega) hr).mono ?_
      rintro e w3 ⟨rfl, hb3⟩
      have M3 := Lib.hid (M1.out.below hb3)
      have q3 := Lib.hid (q1.out.trans (hb3.mono (by rw [← HR.out]; exact q1.out.size)))
      have hq0 : IntKind.i64.wrap (m.ways r 0 - 1) = m.ways r 0 - 1 := IntWalk.i64_in _ (by omega)
      have HIN := Lib.hid (fun W => l1In_any a0 0 (m.ways r 0 - 1) W)
      have HSH := Lib.hid hsh
      clear z0 z1 z2 hb3 hk hsh
      by_cases hin : 0 ≤ a0 ∧ a0 < m.ways r 0
      · have HB : Hid (wordZ m r a0 = (⟨(m.wordOn r 0 a0).toArray⟩, true)) := Lib.hid (wordZ_yes hin)
        have HINB := Lib.hid hin
        rw [l1In_yes hin] at HIN
        have ha9 : a0 < 59049 := by omega
        clear hin
        generalize hy : m.ways r 0 = y at *
        have HY := Lib.hid hy
        clear hy
        go_wp2_with fail
        refine (HIN.out _).mono ?_
        rintro e w4 ⟨rfl, rfl⟩
        have hqr : IntKind.i64.wrap ((r : Int) - 1) = (r : Int) - 1 := IntWalk.i64_in _ (by omega)
        go_wp2_with fail
        go_loopw [2, 8, 9, 10] (fun av wv sv i wr => ∃ (k : Nat) (a s left : Int) (p : ByteArray), k ≤ r ∧ left = (k : Int) - 1 ∧ i = .int .i64 left ∧ av = .int .i64 a ∧ sv = .int .i64 s ∧ wv = .string p ∧ 0 ≤ a ∧ a < m.ways k s ∧ 0 ≤ s ∧ s < m.st ∧ p.data.toList ++ m.wordOn k s a = m.wordOn r 0 a0 ∧ p.size + k = r ∧ MachBox R m.st nv m.next ev m.ends wr ∧ Below R w wr) (fun _ _ _ i _ => (intOf i + 1).toNat)
        case atStart => exact ⟨r, a0, 0, (r : Int) - 1, ⟨#[]⟩, Nat.le_refl _, rfl, rfl, rfl, rfl, rfl, HINB.out.1, by rw [HY.out]; exact HINB.out.2, Int.le_refl _, by have := HSH.out; omega, rfl, Nat.zero_add _, M3.out, q3.out⟩
        case round =>
          obtain ⟨k, a, s, left, p, hk, hleft, rfl, rfl, rfl, rfl, haa0, haa1, hs0, hs1, hp, hpl, hM, hQ⟩ := hrel
          have MM := Lib.hid hM
          have QQ := Lib.hid hQ
          have HP := Lib.hid hp
          have HPL := Lib.hid hpl
          have HLEFT := Lib.hid hleft
          have hp10 : p.size ≤ 10 := by omega
          clear hM hQ hp hpl M3 q3
          by_cases hpos : left < 0
          · obtain rfl : k = 0 := by omega
            have HE : Hid (wordZ m r a0 = (p, true)) := Lib.hid (by
              rw [HB.out, ← HP.out, M.wordOn, List.append_nil])
            clear haa1 hleft
            go_wp2_with fail
            go_ret2
            exact ⟨(ret_sb (HZ.out.trans HE.out)).symm, by rw [HR.out]; exact QQ.out⟩
          · obtain ⟨j, rfl⟩ : ∃ j, k = j + 1 := ⟨k - 1, by omega⟩
            have hl9 : left ≤ 9 := by omega
            have HWS := Lib.hid (m.ways_succ j s)
            rw [HWS.out] at haa1
            have hwt := m.waysTo_bd j s 3 (by omega) (by omega)
            have HA1 := Lib.hid haa1
            have ha9 : a ≤ 177147 := by omega
            have HLJ : Hid (left = (j : Int)) := Lib.hid (by omega)
            clear haa1 hwt hleft
            go_wp2_with fail
            go_loopw [2, 8, 9, 11] (fun av wv sv i wr => ∃ (l : Nat) (li a2 : Int), l < 3 ∧ i = .int .i64 li ∧ av = .int .i64 a2 ∧ wv = .string p ∧ sv = .int .i64 s ∧ LetAt m j s a l li a2 ∧ MachBox R m.st nv m.next ev m.ends wr ∧ Below R w wr) (fun _ _ _ i _ => 3 - (intOf i).toNat)
            case atStart => exact ⟨0, 0, a, by omega, rfl, rfl, rfl, rfl, ⟨rfl, by rw [M.waysTo_zero]; omega, haa0⟩, MM.out, QQ.out⟩
            case round =>
              obtain ⟨l, li, a2, hl, rfl, rfl, rfl, rfl, ⟨hli, ha2, ha20⟩, hM, hQ⟩ := hrel
              have M2 := Lib.hid hM
              have Q2 := Lib.hid hQ
              have HLI := Lib.hid hli
              have HA2 := Lib.hid ha2
              have hli0 : 0 ≤ li := by omega
              have hli2 : li ≤ 2 := by omega
              have HST := Lib.hid (m.waysTo_succ j s l)
              rw [← hli] at HST
              have hwl := m.waysTo_bd j s l (by omega) (by omega)
              have ha29 : a2 ≤ 177147 := by omega
              obtain ⟨ix, hx1, hx2, hx3⟩ := M.nx_at HK.out s li hs0 hs1 hli0 hli2
              have hnb := M.nx_bd HK.out s li hs1 hli0 hli2
              have hl2 : m.ways j (m.nx s li) ≤ a2 → l < 2 := by
                intro hge
                by_cases h : l < 2
                · exact h
                · obtain rfl : l = 2 := by omega
                  have h1 := HA1.out
                  have h2 : m.waysTo j s 3 = m.waysTo j s 2 + m.ways j (m.nx s li) := HST.out
                  omega
              have HL2 := Lib.hid hl2
              have c0 := M2.out.c0
              have c1 := M2.out.c1
              have c2 := M2.out.c2
              obtain ⟨ga, gn, gc, rfl⟩ := M2.out.ints.slice
              obtain ⟨g, off, rfl, rfl, hc1', hc2', hg, hcc⟩ := ints_cells M2.out.ints (by omega)
              have hcell := hcc ix hx2
              have c1 := M2.out.c1
              have HMANY : Hid (∀ W, IsInts W (.slice (some ⟨g, off, none⟩) m.next.length gc) m.next → IsBools W ev m.ends → 0 ≤ m.nx s li → Calls Try.prog 91 #[.agg #[.int .i64 m.st, .slice (some ⟨g, off, none⟩) m.next.length gc, ev], .int .i64 (m.nx s li), .int .i64 left] W fun e w' => e = .returned (.int .i64 (m.ways j (m.nx s li))) ∧ Below W.heap.size W w') := Lib.hid (fun W a b h0 => by
                rw [HLJ.out]; exact l6Many_any m (m.nx s li) j _ ev W a b (M.ok_good HK.out) h0 hnb.2 (by omega))
              have hq1 : IntKind.i64.wrap (3 * s) = 3 * s := IntWalk.i64_in _ (by have := HSH.out; omega)
              have hq2 : IntKind.i64.wrap (3 * s + li) = 3 * s + li := IntWalk.i64_in _ (by have := HSH.out; omega)
              have hq3 : 3 * s + li = (ix : Int) := hx1.symm
              have hq4 : IntKind.i64.wrap (li + 1) = li + 1 := IntWalk.i64_in _ (by omega)
              unfold maxLen at hc2'
              have hxl : m.next.length ≤ 144 := by have := HSH.out; omega
              rw [← hx3] at hcell
              have HNB := Lib.hid hnb
              have hwy := m.ways_bd j (m.nx s li) (by omega)
              have HSTEP := Lib.hid (fun (h : a2 < m.ways j (m.nx s li)) => m.wordOn_step j s a l hl (by have := HA2.out; omega) (by have h1 := HST.out; have h2 := HA2.out; omega))
              have HPA : Hid (a - m.waysTo j s l = a2) := Lib.hid HA2.out.symm
              rw [← HLI.out] at HSTEP
              have hsl := fun W => rdnW_at l hl li HLI.out W
              have hcat : ¬ (9223372036854775807 < p.size + 1) := by omega
              have hls : (letS l).size = 1 := rfl
              clear hM hQ hli ha2 hwl hl2 hcc hx1 hx3 hnb
              generalize hyy : m.nx s li = y at *
              have HYY := Lib.hid hyy
              clear hyy
              by_cases hy0 : y < 0
              · have hz := m.ways_lt j y hy0
                have hl2 := HL2.out (by omega)
                have HST2 : Hid (m.waysTo j s (l + 1) = m.waysTo j s l) := Lib.hid (by rw [HST.out, hz, Int.add_zero])
                clear hz hsl
                go_wp2_with fail
                go_roundw
                case rel => exact ⟨l + 1, li + 1, a2, by omega, by first | rfl | rw [hq4], rfl, rfl, rfl, ⟨by rw [HLI.out]; omega, by rw [HST2.out]; exact HA2.out, ha20⟩, M2.out, Q2.out⟩
                case measure => simp [intOf]; omega
              · go_wp2_with fail
                refine (HMANY.out _ M2.out.ints M2.out.bools (by omega)).mono ?_
                rintro e w6 ⟨rfl, hb6⟩
                have M6 := Lib.hid (M2.out.below hb6)
                have Q6 := Lib.hid (Q2.out.trans (hb6.mono (by rw [← HR.out]; exact Q2.out.size)))
                clear hb6 c0 c1 c2
                by_cases hge : m.ways j y ≤ a2
                · have hl2 := HL2.out hge
                  have hq5 : IntKind.i64.wrap (a2 - m.ways j y) = a2 - m.ways j y := IntWalk.i64_in _ (by omega)
                  clear hsl
                  generalize m.ways j y = x at *
                  go_wp2_with fail
                  go_roundw
                  case rel => exact ⟨l + 1, li + 1, a2 - x, by omega, by first | rfl | rw [hq4], by first | rfl | rw [hq5], rfl, rfl, ⟨by rw [HLI.out]; omega, by rw [HST.out, HA2.out]; omega, by omega⟩, M6.out, Q6.out⟩
                  case measure => simp [intOf]; omega
                · have HLT : Hid (0 ≤ a2 ∧ a2 < m.ways j y) := Lib.hid ⟨ha20, by omega⟩
                  have HS2 := Lib.hid (HSTEP.out HLT.out.2)
                  have hq6 : IntKind.i64.wrap (left - 1) = left - 1 := IntWalk.i64_in _ (by omega)
                  have hy1 := HNB.out.2
                  generalize hx : m.ways j y = x at *
                  have HX := Lib.hid hx
                  clear hx
                  go_wp2_with fail
                  go_roundw
                  case rel => exact ⟨j, a2, y, left - 1, p ++ letS l, by omega, by have := HLJ.out; omega, by first | rfl | rw [hq6], rfl, rfl, rfl, HLT.out.1, by rw [HX.out]; exact HLT.out.2, by omega, hy1, by rw [letS_app, List.append_assoc, ← HP.out, HS2.out, HPA.out]; rfl, by rw [ByteArray.size_append, hls, ← HPL.out]; omega, M6.out, Q6.out⟩
                  case measure => simp [intOf]; omega
      · have HE := Lib.hid (HZ.out.trans (wordZ_no hin))
        rw [l1In_no hin] at HIN
        clear hin
        generalize m.ways r 0 = y at *
        go_wp2_with fail
        refine (HIN.out _).mono ?_
        rintro e w4 ⟨rfl, rfl⟩
        go_wp2_with fail
        go_ret2
        exact ⟨(ret_sb HE.out).symm, by rw [HR.out]; exact q3.out⟩

/-- the state of a taken word does not stop on the way -/
theorem goes_live {m : M} {word : ByteArray} (h : m.takes word = true) (k : Nat) : 0 ≤ m.goes 0 (word.data.toList.take k) := by
  obtain ⟨hk, hw⟩ := takes_ok h
  have hsh := M.ok_shape hk
  have hb := goes_step_le (s := 0) hk hw (by omega) (by omega) k
  by_cases h1 : m.goes 0 (word.data.toList.take k) = -1
  · have := M.goes_cut m 0 word k h1
    rw [M.takes, M.after_yes hk hw, this, M.endAt_neg m _ (by omega)] at h; cases h
  · omega

set_option maxHeartbeats 3200000 in
theorem specPlaceOf_any (m : M) (word : ByteArray) (nv ev : Value) (w : World) (h1 : IsInts w nv m.next) (h2 : IsBools w ev m.ends) (hst : (Lit.int .i64 m.st).wf = true) (hs : word.size ≤ maxLen) :
    Calls Try.prog 39 #[.agg #[.int .i64 m.st, nv, ev], .string word] w fun e w' => e = .returned (.int .i64 (placeOf m word)) ∧ Below w.heap.size w w' := by
  have MB := Lib.hid (MachBox.new (st := m.st) 26 h1 h2)
  have q0 := Lib.hid ((Below.refl w.heap.size w).alloc (Nat.le_refl _) (.cells #[.int .i64 m.st, nv, ev] 26))
  have HTK := Lib.hid (fun W a b => specTakesOk_any m word nv ev W a b hst hs)
  have y0 := MB.out.c0
  have y1 := MB.out.c1
  have y2 := MB.out.c2
  clear h1 h2
  go_enter Try.func39, Try.ntmps39
  go_upto_region 1 with fail
  generalize (w.alloc (.cells #[.int .i64 m.st, nv, ev] 26)) = W0 at *
  generalize hR : w.heap.size = R at *
  have HR := Lib.hid hR
  clear hR
  go_wp2_with fail
  refine (HTK.out _ MB.out.ints MB.out.bools).mono ?_
  rintro e w1 ⟨rfl, hb1⟩
  have M1 := Lib.hid (MB.out.below hb1)
  have q1 := Lib.hid (q0.out.trans (hb1.mono (by rw [← HR.out]; exact q0.out.size)))
  clear y0 y1 y2 hb1
  cases ht : m.takes word with
  | false =>
    have HZ := Lib.hid (placeOf_no (m := m) (word := word) (by rw [ht, Bool.and_false]))
    go_wp2_with fail
    go_ret
    exact ⟨ret_int HZ.out.symm, by rw [HR.out]; exact q1.out⟩
  | true =>
    have HT := Lib.hid ht
    have h14 := wordOk_size (takes_ok ht).2
    clear ht
    by_cases h10 : 10 < word.size
    · have HZ := Lib.hid (placeOf_no (m := m) (word := word) (by rw [countedB, decide_eq_false (show ¬ (word.size : Int) ≤ 10 by omega), Bool.and_false, Bool.false_and]))
      go_wp2_with fail
      go_ret
      exact ⟨ret_int HZ.out.symm, by rw [HR.out]; exact q1.out⟩
    · have h10b : ¬ ((10 : Int) < (word.size : Int)) := by omega
      have HZ := Lib.hid (placeOf_yes (m := m) (word := word) (by rw [HT.out, countedB, decide_eq_true (show (word.size : Int) ≤ 10 by omega), decide_eq_true (show (0 : Int) ≤ (word.size : Int) by omega)]; rfl))
      obtain ⟨hkk, hww⟩ := takes_ok HT.out
      have HK := Lib.hid hkk
      have HW := Lib.hid hww
      have hrk := m.rank_bd 0 word.data.toList (wordOk_all hww)
      have htk := m.took_bd 0 word.data.toList
      have hwb := m.ways_bd word.data.toList.length 0 (by rw [len_data]; omega)
      have HBD := Lib.hid (show 0 ≤ m.rank 0 word.data.toList ∧ m.rank 0 word.data.toList ≤ 59049 by omega)
      clear hkk hww hrk htk hwb
      go_wp2_with fail
      go_loopw [5, 6, 7] (fun bv sv i wr => ∃ (k : Nat) (B : Int), k ≤ word.size ∧ i = .int .i64 (k : Int) ∧ sv = .int .i64 (m.goes 0 (word.data.toList.take k)) ∧ bv = .int .i64 B ∧ 0 ≤ B ∧ B + m.rank (m.goes 0 (word.data.toList.take k)) (word.data.toList.drop k) = m.rank 0 word.data.toList ∧ MachBox R m.st nv m.next ev m.ends wr ∧ Below R w wr) (fun _ _ i _ => word.size - (intOf i).toNat)
      case atStart => exact ⟨0, 0, Nat.zero_le _, rfl, rfl, rfl, Int.le_refl _, by rw [Int.zero_add]; rfl, M1.out, q1.out⟩
      case round =>
        obtain ⟨k, B, hkk, rfl, rfl, rfl, hB0, hBR, hM, hQ⟩ := hrel
        have X1 := Lib.hid hM
        have Q1 := Lib.hid hQ
        have HBR := Lib.hid hBR
        clear hM hQ hBR M1 q1
        by_cases hlt : k < word.size
        · have hltI : (k : Int) < (word.size : Int) := by omega
          have HSTEP := Lib.hid (M.goes_snoc m 0 word k hlt)
          have hsh := M.ok_shape HK.out
          have hbd := goes_step_le (s := 0) HK.out HW.out (by omega) (by omega) k
          have hp0 := goes_live HT.out k
          have hL := wordOk_at HW.out k hlt
          have hlb := letter_bd hL
          have HRC := Lib.hid (m.rank_cons (m.goes 0 (word.data.toList.take k)) word k hlt)
          have hrk2 := m.rank_bd (m.nx (m.goes 0 (word.data.toList.take k)) (letterOf (word[k].toNat : Int))) (word.data.toList.drop (k + 1)) (by
            have h := wordOk_all HW.out
            simp only [allL, List.all_eq_true] at h ⊢
            exact fun x hx => h x (List.mem_of_mem_drop hx))
          have HRK := Lib.hid hrk2.1
          have HLT0 := Lib.hid (fun W => l1Letter_any (word[k].toNat : Int) W)
          obtain ⟨ixN, hxN1, hxN2, hxN3⟩ := M.nx_at HK.out (m.goes 0 (word.data.toList.take k)) (letterOf (word[k].toNat : Int)) hp0 hbd.2 hlb.1 hlb.2
          clear hL hrk2
          generalize hlv : letterOf (word[k].toNat : Int) = lv at *
          have HLV := Lib.hid hlv
          obtain ⟨lt, rfl⟩ := Int.eq_ofNat_of_zero_le hlb.1
          rw [Int.toNat_natCast] at HRC
          generalize hpv : m.goes 0 (word.data.toList.take k) = p at *
          have HPV := Lib.hid hpv
          clear hlv hpv
          obtain ⟨ga, gn, gc, rfl⟩ := X1.out.ints.slice
          obtain ⟨g, off, rfl, rfl, hc1', hc2', hg0, hcc0⟩ := ints_cells X1.out.ints (by omega)
          unfold maxLen at hc2'
          have hxl : m.next.length ≤ 144 := by omega
          have hst48 : m.st ≤ 48 := hsh.2.1
          have HSH := Lib.hid hsh
          have HBM : Hid (∀ l, l ≤ lt → B + m.waysTo (word.size - 1 - k) p l ≤ 300000 ∧ 0 ≤ B + m.waysTo (word.size - 1 - k) p l) := Lib.hid (fun l hl => by
            have h1 := HBD.out.2
            have h2 := HBR.out
            have h3 := HRC.out
            have h4 := HRK.out
            have h5 := (m.waysTo_bd (word.size - 1 - k) p lt (by omega) (by omega)).1
            have h6 := m.waysTo_bd (word.size - 1 - k) p l (by omega) (by omega)
            omega)
          clear hcc0 hg0 hsh
          go_wp2_with fail
          go_loopw [5, 8] (fun bv i wr => ∃ (l : Nat) (B2 : Int), l ≤ lt ∧ i = .int .i64 (l : Int) ∧ bv = .int .i64 B2 ∧ B2 = B + m.waysTo (word.size - 1 - k) p l ∧ MachBox R m.st (.slice (some ⟨g, off, none⟩) m.next.length gc) m.next ev m.ends wr ∧ Below R w wr) (fun _ i _ => lt - (intOf i).toNat)
          case atStart => exact ⟨0, B, Nat.zero_le _, rfl, rfl, by rw [M.waysTo_zero]; omega, X1.out, Q1.out⟩
          case round =>
            obtain ⟨l, B2, hll, rfl, rfl, hB2, hM, hQ⟩ := hrel
            have X2 := Lib.hid hM
            have Q2 := Lib.hid hQ
            have HB2 := Lib.hid hB2
            have hB3 := HBM.out l hll
            rw [← hB2] at hB3
            obtain ⟨g', off', he', -, -, -, hg, hcc⟩ := ints_cells X2.out.ints (by have := HSH.out; omega)
            simp only [Option.some.injEq, Addr.mk.injEq, and_true] at he'
            obtain ⟨rfl, rfl⟩ := he'
            have c0 := X2.out.c0
            have c1 := X2.out.c1
            have c2 := X2.out.c2
            clear hM hQ hB2
            by_cases hltl : l < lt
            · have hltlI : (l : Int) < (lt : Int) := by omega
              obtain ⟨ix, hx1, hx2, hx3⟩ := M.nx_at HK.out p (l : Int) hp0 hbd.2 (by omega) (by omega)
              have hcell := hcc ix hx2
              have hnb := M.nx_bd HK.out p (l : Int) hbd.2 (by omega) (by omega)
              have hq1 : IntKind.i64.wrap (3 * p) = 3 * p := IntWalk.i64_in _ (by omega)
              have hq2 : IntKind.i64.wrap (3 * p + (l : Int)) = 3 * p + (l : Int) := IntWalk.i64_in _ (by omega)
              have hq3 : 3 * p + (l : Int) = (ix : Int) := hx1.symm
              have hq6 : IntKind.i64.wrap (ix : Int) = (ix : Int) := IntWalk.i64_in _ (by omega)
              have hwy := m.ways_bd (word.size - 1 - k) (m.nx p (l : Int)) (by omega)
              have HST := Lib.hid (m.waysTo_succ (word.size - 1 - k) p l)
              have hsum : IntKind.i64.wrap (B2 + m.ways (word.size - 1 - k) (m.nx p (l : Int))) = B2 + m.ways (word.size - 1 - k) (m.nx p (l : Int)) := IntWalk.i64_in _ (by omega)
              have hq4 : IntKind.i64.wrap ((word.size : Int) - 1) = (word.size : Int) - 1 := IntWalk.i64_in _ (by omega)
              have hq5 : IntKind.i64.wrap ((word.size : Int) - 1 - (k : Int)) = ((word.size - 1 - k : Nat) : Int) := by rw [IntWalk.i64_in _ (by omega)]; omega
              have HMANY : Hid (∀ W, IsInts W (.slice (some ⟨g, off, none⟩) m.next.length gc) m.next → IsBools W ev m.ends → 0 ≤ m.nx p (l : Int) → Calls Try.prog 91 #[.agg #[.int .i64 m.st, .slice (some ⟨g, off, none⟩) m.next.length gc, ev], .int .i64 (m.nx p (l : Int)), .int .i64 ((word.size - 1 - k : Nat) : Int)] W fun e w' => e = .returned (.int .i64 (m.ways (word.size - 1 - k) (m.nx p (l : Int)))) ∧ Below W.heap.size W w') := Lib.hid (fun W a b h0 =>
                l6Many_any m (m.nx p (l : Int)) (word.size - 1 - k) _ ev W a b (M.ok_good HK.out) h0 hnb.2 (by omega))
              rw [← hx3] at hcell
              clear hcc hx1 hx3 hnb HBM hwy
              generalize word.size - 1 - k = rr at *
              generalize m.nx p (l : Int) = y at *
              by_cases hy0 : y < 0
              · have hz := m.ways_lt rr y hy0
                have HST2 : Hid (m.waysTo rr p (l + 1) = m.waysTo rr p l) := Lib.hid (by rw [HST.out, hz, Int.add_zero])
                clear hz
                go_wp2_with (go_at_call 97; refine (HLT0.out _).mono ?_; rintro e w7 ⟨rfl, rfl⟩)
                go_roundw
                case rel => exact ⟨l + 1, B2, by omega, by go_num, rfl, by rw [HST2.out]; exact HB2.out, X2.out, Q2.out⟩
                case measure => simp [intOf]; omega
              · have hyp : 0 ≤ y := by omega
                generalize m.ways rr y = x at *
                go_wp2_with (go_at_call 97; refine (HLT0.out _).mono ?_; rintro e w7 ⟨rfl, rfl⟩)
                have X2d := Lib.hid (X2.out.below (Below.refl _ _).drew)
                go_region_with (go_at_call 91; refine (HMANY.out _ X2d.out.ints X2d.out.bools hyp).mono ?_; rintro e w8 ⟨rfl, hb8⟩)
                all_goals
                  have X8 := Lib.hid (X2d.out.below hb8)
                  have Q8 := Lib.hid (Q2.out.drew.trans (hb8.mono (by rw [← HR.out]; exact Q2.out.size)))
                  clear hb8 c0 c1 c2
                  go_wp2
                  go_roundw
                  case rel => exact ⟨l + 1, B2 + x, by omega, by go_num, rfl, by rw [HST.out, HB2.out, Int.add_assoc], X8.out, Q8.out⟩
                  case measure => simp [intOf]; omega
            · obtain rfl : l = lt := by omega
              have hcell := hcc ixN hxN2
              have hq1 : IntKind.i64.wrap (3 * p) = 3 * p := IntWalk.i64_in _ (by omega)
              have hq2 : IntKind.i64.wrap (3 * p + (l : Int)) = 3 * p + (l : Int) := IntWalk.i64_in _ (by omega)
              have hq3 : 3 * p + (l : Int) = (ixN : Int) := hxN1.symm
              rw [← hxN3] at hcell
              have HN3 : Hid (B + m.rank p (word.data.toList.drop k) = B2 + m.rank (m.nx p (l : Int)) (word.data.toList.drop (k + 1))) := Lib.hid (by rw [HB2.out, HRC.out, Int.add_assoc])
              clear hcc hxN1 hxN3 HBM
              generalize hy : m.nx p (l : Int) = y at *
              go_wp2_with (go_at_call 97; refine (HLT0.out _).mono ?_; rintro e w7 ⟨rfl, rfl⟩)
              go_quiet ((go_at_call 97; exact Calls.quiet_of_same ((HLT0.out _).mono fun _ _ ⟨h, g⟩ => ⟨h, g.symm⟩)))
              have X9 := Lib.hid (fun q => X2.out.below (below_drewN (Below.refl _ _) q))
              have Q9 := Lib.hid (fun q => below_drewN Q2.out q)
              clear hq1 hq2 hq3 c0 c1 c2 hcell
              go_wp2
              go_roundw
              case rel => exact ⟨k + 1, B2, by omega, by go_num, by rw [HSTEP.out], rfl, hB3.2, by rw [HSTEP.out, ← HBR.out, HN3.out], X9.out _, Q9.out _⟩
              case measure => simp [intOf]; omega
        · obtain rfl : k = word.size := by omega
          have HE : Hid (m.rank 0 word.data.toList = B) := Lib.hid (by
            rw [← HBR.out, List.drop_of_length_le (by rw [len_data]; exact Nat.le_refl _)]
            rw [M.rank, Int.add_zero])
          go_wp2_with fail
          go_ret
          exact ⟨ret_intZ (HZ.out.trans HE.out).symm, by rw [HR.out]; exact Q1.out⟩
end Go.Proofs.Ytaghjddndgpljaa
