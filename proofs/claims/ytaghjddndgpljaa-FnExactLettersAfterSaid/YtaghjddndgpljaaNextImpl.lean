/- The program's LettersAfter and NextWord. No condition. -/
import Derived.Test.YtaghjddndgpljaaNextMath
namespace Go.Proofs.Ytaghjddndgpljaa
open Go.RowKit

theorem IsTab.slice {w : World} {v : Value} {m : M} {N : Nat} (h : IsTab w v m N) : ∃ a n c, v = .slice a n c := by
  obtain ⟨g, off, cap, e, _⟩ := h
  exact ⟨_, _, _, e⟩

set_option maxHeartbeats 3200000 in
theorem implLettersAfter_any (m : M) (word : ByteArray) (n : Int) (nv ev : Value) (w : World) (h1 : IsInts w nv m.next) (h2 : IsBools w ev m.ends) (hst : (Lit.int .i64 m.st).wf = true) (hs : word.size ≤ maxLen) :
    Calls Try.prog 42 #[.agg #[.int .i64 m.st, nv, ev], .string word, .int .i64 n] w fun e w' => e = .returned (.string (lettersAfter m word n)) ∧ Below w.heap.size w w' := by
  obtain ⟨an, nn, cn, rfl⟩ := h1.slice
  obtain ⟨ae, ne, ce, rfl⟩ := h2.slice
  have MB := Lib.hid (MachBox.new (st := m.st) 26 h1 h2)
  have q0 := Lib.hid ((Below.refl w.heap.size w).alloc (Nat.le_refl _) (.cells #[.int .i64 m.st, (.slice an nn cn), (.slice ae ne ce)] 26))
  have HOK := Lib.hid (fun W a b => implMachineOk_any m (.slice an nn cn) (.slice ae ne ce) W a b hst)
  have HWO := Lib.hid (fun W => implWordOk_any word W hs)
  have HCO := Lib.hid (fun W => implCountedOk_any n W)
  have HSA := Lib.hid (fun W a b => implStateAfter_any m word (.slice an nn cn) (.slice ae ne ce) W a b hst hs)
  obtain ⟨L, hL⟩ : ∃ L, IntKind.i64.wrap (n - (word.size : Int)) = L := ⟨_, rfl⟩
  have y0 := MB.out.c0
  have y1 := MB.out.c1
  have y2 := MB.out.c2
  clear h1 h2
  go_enter Try.func42, Try.ntmps42
  go_upto_region 1 with fail
  generalize (w.alloc (.cells #[.int .i64 m.st, (.slice an nn cn), (.slice ae ne ce)] 26)) = W0 at *
  generalize hR : w.heap.size = R at *
  have HR := Lib.hid hR
  clear hR
  go_wp2_with fail
  refine (HOK.out _ MB.out.ints MB.out.bools).mono ?_
  rintro e w1 ⟨rfl, hb1⟩
  have M1 := Lib.hid (MB.out.below hb1)
  have q1 := Lib.hid (q0.out.trans (hb1.mono (by rw [← HR.out]; exact q0.out.size)))
  have z0 := M1.out.c0
  have z1 := M1.out.c1
  have z2 := M1.out.c2
  have HL := Lib.hid hL
  clear y0 y1 y2 hb1 hL
  cases hk : m.ok with
  | false =>
    have HZ := Lib.hid (lettersAfter_no (m := m) (word := word) (n := n) (by rw [laOk, hk]; rfl))
    go_wp2_with fail
    go_ret
    exact ⟨ret_str HZ.out.symm, by rw [HR.out]; exact q1.out⟩
  | true =>
    have HK := Lib.hid hk
    go_wp2_with fail
    refine (HWO.out _).mono ?_
    rintro e w2 ⟨rfl, rfl⟩
    cases hw : wordOk word with
    | false =>
      have HZ := Lib.hid (lettersAfter_no (m := m) (word := word) (n := n) (by rw [laOk, hw]; simp))
      go_wp2_with fail
      go_ret
      exact ⟨ret_str HZ.out.symm, by rw [HR.out]; exact q1.out⟩
    | true =>
      have HW := Lib.hid hw
      have h14 := wordOk_size hw
      go_wp2_with fail
      refine (HCO.out _).mono ?_
      rintro e w2 ⟨rfl, rfl⟩
      cases hc : countedB n with
      | false =>
        have HZ := Lib.hid (lettersAfter_no (m := m) (word := word) (n := n) (by rw [laOk, hc]; simp))
        go_wp2_with fail
        go_ret
        exact ⟨ret_str HZ.out.symm, by rw [HR.out]; exact q1.out⟩
      | true =>
        obtain ⟨r, rfl, hr⟩ := countedB_nat hc
        have HC := Lib.hid hc
        have hLe : L = (r : Int) - (word.size : Int) := by rw [← HL.out]; exact IntWalk.i64_in _ (by omega)
        clear hk hw hc HL
        by_cases hlt : L < 1
        · have HZ := Lib.hid (lettersAfter_no (m := m) (word := word) (n := (r : Int)) (by rw [laOk, decide_eq_false (show ¬ (word.size : Int) < (r : Int) by omega), Bool.and_false]))
          clear hLe
          go_wp2_with fail
          go_ret
          exact ⟨ret_str HZ.out.symm, by rw [HR.out]; exact q1.out⟩
        · have HZ := Lib.hid (lettersAfter_yes (m := m) (word := word) (r := r) (laOk_iff.2 ⟨HK.out, HW.out, HC.out, by omega⟩))
          have hkr : L = ((r - 1 - word.size + 1 : Nat) : Int) := by omega
          have HLK : Hid (L = ((r - 1 - word.size : Nat) : Int) + 1) := Lib.hid (by omega)
          have hk9 : r - 1 - word.size ≤ 9 := by omega
          have hl11 : L ≤ 10 := by omega
          have hl1 : 1 ≤ L := by omega
          have HAF := Lib.hid (M.after_yes (word := word) HK.out HW.out)
          have hsh := M.ok_shape HK.out
          have hbd := M.goes_bd HK.out 0 word.data.toList (by omega) (by omega) (wordOk_all HW.out)
          have HBD := Lib.hid hbd
          clear hLe hsh hbd
          generalize r - 1 - word.size = k at *
          have HCNT : Hid (∀ W, IsInts W (.slice an nn cn) m.next → IsBools W (.slice ae ne ce) m.ends → Calls Try.prog 93 #[.agg #[.int .i64 m.st, (.slice an nn cn), (.slice ae ne ce)], .int .i64 L] W fun e w' => ∃ tv, e = .returned (.agg #[.int .i64 m.st, (.slice an nn cn), (.slice ae ne ce), tv]) ∧ IsTab w' tv m (k + 1) ∧ Below W.heap.size W w') := Lib.hid (fun W a b => by
            rw [hkr]; exact implCounts_any m (k + 1) (.slice an nn cn) (.slice ae ne ce) W a b HK.out (by omega))
          clear hkr
          go_wp2_with fail
          refine (HCNT.out _ M1.out.ints M1.out.bools).mono ?_
          rintro e w3 ⟨tv, rfl, ht, hb3⟩
          obtain ⟨tg, tn, tc, rfl⟩ := ht.slice
          have q3 := Lib.hid (q1.out.trans (hb3.mono (by rw [← HR.out]; exact q1.out.size)))
          have M3 := Lib.hid (M1.out.below hb3)
          have X3 := Lib.hid (CtBox.new (ev := .slice ae ne ce) 94 M3.out.ints ht)
          have hal : Below w3.heap.size w3 (w3.alloc (.cells #[.int .i64 m.st, (.slice an nn cn), (.slice ae ne ce), (.slice tg tn tc)] 94)) := (Below.refl _ _).alloc (Nat.le_refl _) _
          have M4 := Lib.hid (M3.out.below hal)
          have q4 := Lib.hid (q3.out.trans (hal.mono (by rw [← HR.out]; exact q3.out.size)))
          have c0 := M4.out.c0
          have c1 := M4.out.c1
          have c2 := M4.out.c2
          clear ht z0 z1 z2 hb3 hal
          go_upto_region 5 with fail
          generalize (w3.alloc (.cells #[.int .i64 m.st, (.slice an nn cn), (.slice ae ne ce), (.slice tg tn tc)] 94)) = W4 at *
          generalize w3.heap.size = B at *
          go_wp2_with fail
          refine (HSA.out _ M4.out.ints M4.out.bools).mono ?_
          rintro e w5 ⟨rfl, hb5⟩
          rw [HAF.out]
          have X5 := Lib.hid (X3.out.below hb5)
          have q5 := Lib.hid (q4.out.trans (hb5.mono (by rw [← HR.out]; exact q4.out.size)))
          clear c0 c1 c2 hb5
          generalize hp : m.goes 0 word.data.toList = p at *
          have HP := Lib.hid hp
          clear hp
          go_wp2_with fail
          go_loopw [10, 39] (fun sv i wr => ∃ l : Nat, l ≤ 3 ∧ i = .int .i64 (l : Int) ∧ sv = .string (textL (m.lettersTo k p l)) ∧ (m.lettersTo k p l).length ≤ l ∧ CtBox B m (k + 1) (.slice an nn cn) (.slice ae ne ce) (.slice tg tn tc) wr ∧ Below R w wr) (fun _ i _ => 3 - (intOf i).toNat)
          case atStart => exact ⟨0, by omega, rfl, rfl, Nat.le_refl _, X5.out, q5.out⟩
          case round =>
            obtain ⟨l, hl, rfl, rfl, hll, hX, hQ⟩ := hrel
            have X6 := Lib.hid hX
            have q6 := Lib.hid hQ
            clear hX hQ
            by_cases hl3 : l < 3
            · have c0 := X6.out.c0
              have c1 := X6.out.c1
              have c2 := X6.out.c2
              have c3 := X6.out.c3
              have HWB := Lib.hid (implWaysBy_any m (k + 1) k p L (l : Int) (.slice an nn cn) (.slice ae ne ce) (.slice tg tn tc) wr X6.out.ints X6.out.tab HK.out HBD.out.1 HBD.out.2 (by omega) (by omega) HLK.out (by omega) (by omega))
              have HST : Hid (m.lettersTo k p (l + 1) = if 0 < m.ways k (m.nx p (l : Int)) then m.lettersTo k p l ++ [l] else m.lettersTo k p l) := Lib.hid rfl
              have hsz := textL_size (m.lettersTo k p l)
              have hcat : ¬ (9223372036854775807 < (textL (m.lettersTo k p l)).size + 1) := by omega
              have hsl := fun W => rdnW_at l hl3 (l : Int) rfl W
              have hls : (letS l).size = 1 := rfl
              have hwr : IntKind.i64.wrap ((l : Int) + 1) = (l : Int) + 1 := IntWalk.i64_in _ (by omega)
              generalize m.ways k (m.nx p (l : Int)) = x at *
              generalize hq : m.lettersTo k p l = q at *
              have HQ := Lib.hid hq
              clear hq hsz
              go_wp2_with fail
              refine HWB.out.mono ?_
              rintro e w7 ⟨rfl, hb7⟩
              have X7 := Lib.hid (X6.out.below hb7)
              have q7 := Lib.hid (q6.out.trans (hb7.mono (by rw [← HR.out]; exact q6.out.size)))
              clear c0 c1 c2 c3 hb7
              by_cases hx : 0 < x
              · have HS2 : Hid (m.lettersTo k p (l + 1) = q ++ [l]) := Lib.hid (HST.out.trans (if_pos hx))
                go_wp2_with fail
                go_roundw
                case rel => exact ⟨l + 1, by omega, by go_num, by rw [HS2.out, textL_more], by rw [HS2.out, List.length_append, List.length_singleton]; omega, X7.out, q7.out⟩
                case measure => simp [intOf]; omega
              · have HS2 : Hid (m.lettersTo k p (l + 1) = q) := Lib.hid (HST.out.trans (if_neg hx))
                clear hsl
                go_wp2_with fail
                go_roundw
                case rel => exact ⟨l + 1, by omega, by go_num, by rw [HS2.out], by rw [HS2.out]; omega, X7.out, q7.out⟩
                case measure => simp [intOf]; omega
            · obtain rfl : l = 3 := by omega
              have HE : Hid (lettersAfter m word (r : Int) = textL (m.lettersTo k p 3)) := Lib.hid HZ.out
              generalize textL (m.lettersTo k p 3) = q at *
              go_wp2_with fail
              go_ret
              exact ⟨ret_str HE.out.symm, by rw [HR.out]; exact q6.out⟩

set_option maxHeartbeats 3200000 in
theorem implNextWord_any (m : M) (word : ByteArray) (nv ev : Value) (w : World) (h1 : IsInts w nv m.next) (h2 : IsBools w ev m.ends) (hst : (Lit.int .i64 m.st).wf = true) (hs : word.size ≤ maxLen) :
    Calls Try.prog 44 #[.agg #[.int .i64 m.st, nv, ev], .string word] w fun e w' => e = .returned (.tuple #[.string (nextWordZ m word).1, .bool (nextWordZ m word).2]) ∧ Below w.heap.size w w' := by
  obtain ⟨an, nn, cn, rfl⟩ := h1.slice
  obtain ⟨ae, ne, ce, rfl⟩ := h2.slice
  have MB := Lib.hid (MachBox.new (st := m.st) 26 h1 h2)
  have q0 := Lib.hid ((Below.refl w.heap.size w).alloc (Nat.le_refl _) (.cells #[.int .i64 m.st, (.slice an nn cn), (.slice ae ne ce)] 26))
  have HOK := Lib.hid (fun W a b => implMachineOk_any m (.slice an nn cn) (.slice ae ne ce) W a b hst)
  have HWO := Lib.hid (fun W => implWordOk_any word W hs)
  have HCO := Lib.hid (fun W => implCountedOk_any (word.size : Int) W)
  have HTK := Lib.hid (fun W a b => implTakesOk_any m word (.slice an nn cn) (.slice ae ne ce) W a b hst hs)
  have y0 := MB.out.c0
  have y1 := MB.out.c1
  have y2 := MB.out.c2
  clear h1 h2
  go_enter Try.func44, Try.ntmps44
  go_upto_region 1 with fail
  generalize (w.alloc (.cells #[.int .i64 m.st, (.slice an nn cn), (.slice ae ne ce)] 26)) = W0 at *
  generalize hR : w.heap.size = R at *
  have HR := Lib.hid hR
  clear hR
  go_wp2_with fail
  refine (HOK.out _ MB.out.ints MB.out.bools).mono ?_
  rintro e w1 ⟨rfl, hb1⟩
  have M1 := Lib.hid (MB.out.below hb1)
  have q1 := Lib.hid (q0.out.trans (hb1.mono (by rw [← HR.out]; exact q0.out.size)))
  have z0 := M1.out.c0
  have z1 := M1.out.c1
  have z2 := M1.out.c2
  clear y0 y1 y2 hb1
  cases hk : m.ok with
  | false =>
    have HZ := Lib.hid (nextWordZ_no (m := m) (word := word) (by rw [nextOkB, hk]; rfl))
    go_wp2_with fail
    go_ret2
    exact ⟨(ret_sb HZ.out).symm, by rw [HR.out]; exact q1.out⟩
  | true =>
    have HK := Lib.hid hk
    go_wp2_with fail
    refine (HWO.out _).mono ?_
    rintro e w2 ⟨rfl, rfl⟩
    cases hw : wordOk word with
    | false =>
      have HZ := Lib.hid (nextWordZ_no (m := m) (word := word) (by rw [nextOkB, hw]; simp))
      go_wp2_with fail
      go_ret2
      exact ⟨(ret_sb HZ.out).symm, by rw [HR.out]; exact q1.out⟩
    | true =>
      have HW := Lib.hid hw
      go_wp2_with fail
      refine (HCO.out _).mono ?_
      rintro e w2 ⟨rfl, rfl⟩
      cases hc : countedB (word.size : Int) with
      | false =>
        have HZ := Lib.hid (nextWordZ_no (m := m) (word := word) (by rw [nextOkB, hc, Bool.and_false]))
        go_wp2_with fail
        go_ret2
        exact ⟨(ret_sb HZ.out).symm, by rw [HR.out]; exact q1.out⟩
      | true =>
        have h10 : word.size ≤ 10 := by
          obtain ⟨r, h, hr⟩ := countedB_nat hc
          omega
        have HZ := Lib.hid (nextWordZ_yes (m := m) (word := word) (by rw [nextOkB, hk, hw, hc]; rfl))
        have HTE : Hid (m.takes word = m.endAt (m.goes 0 word.data.toList)) := Lib.hid (by rw [M.takes, M.after_yes HK.out HW.out])
        have hrk := m.rank_bd 0 word.data.toList (wordOk_all hw)
        have htk := m.took_bd 0 word.data.toList
        have hwb := m.ways_bd word.data.toList.length 0 (by rw [len_data]; omega)
        have hb : 0 ≤ m.rank 0 word.data.toList ∧ m.rank 0 word.data.toList ≤ 59049 := by omega
        clear hk hw hc hrk htk hwb
        go_wp2_with fail
        refine (implCounts_any m word.size (.slice an nn cn) (.slice ae ne ce) _ M1.out.ints M1.out.bools HK.out h10).mono ?_
        rintro e w3 ⟨tv, rfl, ht, hb3⟩
        obtain ⟨tg, tn, tc, rfl⟩ := ht.slice
        have q3 := Lib.hid (q1.out.trans (hb3.mono (by rw [← HR.out]; exact q1.out.size)))
        have M3 := Lib.hid (M1.out.below hb3)
        have X3 := Lib.hid (CtBox.new (ev := .slice ae ne ce) 94 M3.out.ints ht)
        have hal : Below w3.heap.size w3 (w3.alloc (.cells #[.int .i64 m.st, (.slice an nn cn), (.slice ae ne ce), (.slice tg tn tc)] 94)) := (Below.refl _ _).alloc (Nat.le_refl _) _
        have M4 := Lib.hid (M3.out.below hal)
        have q4 := Lib.hid (q3.out.trans (hal.mono (by rw [← HR.out]; exact q3.out.size)))
        have c0 := X3.out.c0
        have c1 := X3.out.c1
        have c2 := X3.out.c2
        have c3 := X3.out.c3
        clear ht z0 z1 z2 hb3 hal
        go_upto_region 4 with fail
        generalize (w3.alloc (.cells #[.int .i64 m.st, (.slice an nn cn), (.slice ae ne ce), (.slice tg tn tc)] 94)) = W4 at *
        generalize w3.heap.size = B at *
        have HRK := Lib.hid (implRank_any m word.size word (.slice an nn cn) (.slice ae ne ce) (.slice tg tn tc) W4 X3.out.ints X3.out.tab HK.out HW.out (Nat.le_refl _) h10)
        have HTO : Hid (m.took 0 word.data.toList = if m.takes word = true then 1 else 0) := Lib.hid (by rw [M.took, HTE.out])
        generalize m.rank 0 word.data.toList = rk at *
        generalize m.took 0 word.data.toList = tk at *
        go_wp2_with fail
        refine HRK.out.mono ?_
        rintro e w5 ⟨rfl, hb5⟩
        have X5 := Lib.hid (X3.out.below hb5)
        have M5 := Lib.hid (M4.out.below hb5)
        have q5 := Lib.hid (q4.out.trans (hb5.mono (by rw [← HR.out]; exact q4.out.size)))
        clear c0 c1 c2 c3 hb5
        have c0 := M5.out.c0
        have c1 := M5.out.c1
        have c2 := M5.out.c2
        go_wp2_with fail
        refine (HTK.out _ M5.out.ints M5.out.bools).mono ?_
        rintro e w6 ⟨rfl, hb6⟩
        have X6 := Lib.hid (X5.out.below hb6)
        have q6 := Lib.hid (q5.out.trans (hb6.mono (by rw [← HR.out]; exact q5.out.size)))
        clear c0 c1 c2 hb6
        have c0 := X6.out.c0
        have c1 := X6.out.c1
        have c2 := X6.out.c2
        have c3 := X6.out.c3
        have hadd : IntKind.i64.wrap (rk + 1) = rk + 1 := IntWalk.i64_in _ (by omega)
        have HWA := Lib.hid (fun a => implWordAtC_any m word.size word.size a (.slice an nn cn) (.slice ae ne ce) (.slice tg tn tc) w6 X6.out.ints X6.out.tab HK.out (Nat.le_refl _) h10)
        cases ht : m.takes word with
        | false =>
          have HTK0 : Hid (nextWordZ m word = wordZ m word.size rk) := Lib.hid (by rw [HZ.out, HTO.out, ht]; simp)
          have HW0 := Lib.hid (HWA.out rk)
          generalize hz : wordZ m word.size rk = z at *
          obtain ⟨zs, zb⟩ := z
          clear hz
          go_wp2_with fail
          refine HW0.out.mono ?_
          rintro e w7 ⟨rfl, hb7⟩
          have q7 := Lib.hid (q6.out.trans (hb7.mono (by rw [← HR.out]; exact q6.out.size)))
          clear c0 c1 c2 c3 hb7
          go_wp2_with fail
          go_ret2
          exact ⟨(ret_sb HTK0.out).symm, by rw [HR.out]; exact q7.out⟩
        | true =>
          have HTK0 : Hid (nextWordZ m word = wordZ m word.size (rk + 1)) := Lib.hid (by rw [HZ.out, HTO.out, ht]; simp)
          have HW0 := Lib.hid (HWA.out (rk + 1))
          generalize hz : wordZ m word.size (rk + 1) = z at *
          obtain ⟨zs, zb⟩ := z
          clear hz
          go_wp2_with fail
          refine HW0.out.mono ?_
          rintro e w7 ⟨rfl, hb7⟩
          have q7 := Lib.hid (q6.out.trans (hb7.mono (by rw [← HR.out]; exact q6.out.size)))
          clear c0 c1 c2 c3 hb7
          go_wp2_with fail
          go_ret2
          exact ⟨(ret_sb HTK0.out).symm, by rw [HR.out]; exact q7.out⟩
end Go.Proofs.Ytaghjddndgpljaa
