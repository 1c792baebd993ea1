/- The program's CountWords, WordAt, PlaceOf. No condition. -/
import Derived.Test.YtaghjddndgpljaaTabWalk
import Derived.Test.YtaghjddndgpljaaTakes
namespace Go.Proofs.Ytaghjddndgpljaa
open Go.RowKit

/-- numbers of letters that are counted -/
def countedB (n : Int) : Bool := decide (0 ≤ n) && decide (n ≤ 10)
theorem countedB_nat {n : Int} (h : countedB n = true) : ∃ r : Nat, n = (r : Int) ∧ r ≤ 10 := by
  simp only [countedB, Bool.and_eq_true, decide_eq_true_eq] at h
  exact ⟨n.toNat, by omega, by omega⟩
/-- CountWords -/
def countWords (m : M) (n : Int) : Int := if (m.ok && countedB n) = true then m.ways n.toNat 0 else -1
theorem countWords_yes {m : M} {r : Nat} (h : m.ok = true) (g : countedB (r : Int) = true) : countWords m (r : Int) = m.ways r 0 := by
  rw [countWords, if_pos (by rw [h, g]; rfl), Int.toNat_natCast]
theorem countWords_no {m : M} {n : Int} (h : (m.ok && countedB n) = false) : countWords m n = -1 := by rw [countWords, h]; rfl
/-- WordAt -/
def wordAtZ (m : M) (n a : Int) : ByteArray × Bool := if (m.ok && countedB n) = true then wordZ m n.toNat a else (⟨#[]⟩, false)
theorem wordAtZ_yes {m : M} {r : Nat} {a : Int} (h : m.ok = true) (g : countedB (r : Int) = true) : wordAtZ m (r : Int) a = wordZ m r a := by
  rw [wordAtZ, if_pos (by rw [h, g]; rfl), Int.toNat_natCast]
theorem wordAtZ_no {m : M} {n a : Int} (h : (m.ok && countedB n) = false) : wordAtZ m n a = (⟨#[]⟩, false) := by rw [wordAtZ, h]; rfl
/-- PlaceOf -/
def placeOf (m : M) (word : ByteArray) : Int := if (countedB (word.size : Int) && m.takes word) = true then m.rank 0 word.data.toList else -1
theorem placeOf_yes {m : M} {word : ByteArray} (h : (countedB (word.size : Int) && m.takes word) = true) : placeOf m word = m.rank 0 word.data.toList := by rw [placeOf, h]; rfl
theorem placeOf_no {m : M} {word : ByteArray} (h : (countedB (word.size : Int) && m.takes word) = false) : placeOf m word = -1 := by rw [placeOf, h]; rfl
theorem takes_ok {m : M} {word : ByteArray} (h : m.takes word = true) : m.ok = true ∧ wordOk word = true := by
  have h0 : 0 ≤ m.after word := by
    by_cases g : 0 ≤ m.after word
    · exact g
    · rw [M.takes, M.endAt_neg m _ (by omega)] at h; cases h
  have := M.after_bd m word h0
  exact ⟨this.1, this.2.1⟩

theorem implCountedOk_any (n : Int) (w : World) : Calls Try.prog 92 #[.int .i64 n] w fun e w' => e = .returned (.bool (countedB n)) ∧ w = w' := by
  by_cases h1 : 0 ≤ n
  · by_cases h2 : n ≤ 10
    · have H : Hid (countedB n = true) := Lib.hid (by rw [countedB, decide_eq_true h1, decide_eq_true h2]; rfl)
      go_enter Try.func92, Try.ntmps92
      go_wp2_with fail
      go_ret
      exact ⟨ret_bool H.out.symm, rfl⟩
    · have H : Hid (countedB n = false) := Lib.hid (by rw [countedB, decide_eq_false h2, Bool.and_false])
      go_enter Try.func92, Try.ntmps92
      go_wp2_with fail
      go_ret
      exact ⟨ret_bool H.out.symm, rfl⟩
  · have H : Hid (countedB n = false) := Lib.hid (by rw [countedB, decide_eq_false h1, Bool.false_and])
    go_enter Try.func92, Try.ntmps92
    go_wp2_with fail
    go_ret
    exact ⟨ret_bool H.out.symm, rfl⟩

set_option maxHeartbeats 1600000 in
theorem implCountWords_any (m : M) (n : Int) (nv ev : Value) (w : World) (h1 : IsInts w nv m.next) (h2 : IsBools w ev m.ends) (hst : (Lit.int .i64 m.st).wf = true) :
    Calls Try.prog 36 #[.agg #[.int .i64 m.st, nv, ev], .int .i64 n] w fun e w' => e = .returned (.int .i64 (countWords m n)) ∧ Below w.heap.size w w' := by
  have MB := Lib.hid (MachBox.new (st := m.st) 26 h1 h2)
  have q0 := Lib.hid ((Below.refl w.heap.size w).alloc (Nat.le_refl _) (.cells #[.int .i64 m.st, nv, ev] 26))
  have HOK := Lib.hid (fun W a b => implMachineOk_any m nv ev W a b hst)
  have HCO := Lib.hid (fun W => implCountedOk_any n W)
  have y0 := MB.out.c0
  have y1 := MB.out.c1
  have y2 := MB.out.c2
  clear h1 h2
  go_enter Try.func36, Try.ntmps36
  go_wp2_with fail
  refine (HOK.out _ MB.out.ints MB.out.bools).mono ?_
  rintro e w1 ⟨rfl, hb1⟩
  have M1 := Lib.hid (MB.out.below hb1)
  have q1 := Lib.hid (q0.out.trans (hb1.mono q0.out.size))
  have z0 := M1.out.c0
  have z1 := M1.out.c1
  have z2 := M1.out.c2
  clear y0 y1 y2 hb1
  cases hk : m.ok with
  | false =>
    have HR := Lib.hid (countWords_no (m := m) (n := n) (by rw [hk, Bool.false_and]))
    go_wp2_with fail
    go_ret
    exact ⟨ret_int HR.out.symm, q1.out⟩
  | true =>
    have HK := Lib.hid hk
    go_wp2_with fail
    refine (HCO.out _).mono ?_
    rintro e w2 ⟨rfl, rfl⟩
    cases hc : countedB n with
    | false =>
      have HR := Lib.hid (countWords_no (m := m) (n := n) (by rw [hc, Bool.and_false]))
      go_wp2_with fail
      go_ret
      exact ⟨ret_int HR.out.symm, q1.out⟩
    | true =>
      obtain ⟨r, rfl, hr⟩ := countedB_nat hc
      have HR := Lib.hid (countWords_yes HK.out hc)
      have hsh := M.ok_shape HK.out
      clear hc HCO
      go_wp2_with fail
      refine (implCounts_any m r nv ev _ M1.out.ints M1.out.bools HK.out hr).mono ?_
      rintro e w3 ⟨tv, rfl, ht, hb3⟩
      have q3 := Lib.hid (q1.out.trans (hb3.mono q1.out.size))
      have HT := Lib.hid ht
      clear ht z0 z1 z2 hb3
      go_wp2_with fail
      refine (implWays_any m r r 0 nv ev tv _ HT.out (M.ok_good HK.out) (by omega) (by omega) (Nat.le_refl _)).mono ?_
      rintro e w4 ⟨rfl, hb4⟩
      have q4 := Lib.hid (q3.out.trans (hb4.mono q3.out.size))
      clear hb4
      go_wp2_with fail
      go_ret
      exact ⟨ret_int HR.out.symm, q4.out⟩

set_option maxHeartbeats 1600000 in
theorem implWordAt_any (m : M) (n a : Int) (nv ev : Value) (w : World) (h1 : IsInts w nv m.next) (h2 : IsBools w ev m.ends) (hst : (Lit.int .i64 m.st).wf = true) :
    Calls Try.prog 38 #[.agg #[.int .i64 m.st, nv, ev], .int .i64 n, .int .i64 a] w fun e w' => e = .returned (.tuple #[.string (wordAtZ m n a).1, .bool (wordAtZ m n a).2]) ∧ Below w.heap.size w w' := by
  have MB := Lib.hid (MachBox.new (st := m.st) 26 h1 h2)
  have q0 := Lib.hid ((Below.refl w.heap.size w).alloc (Nat.le_refl _) (.cells #[.int .i64 m.st, nv, ev] 26))
  have HOK := Lib.hid (fun W a b => implMachineOk_any m nv ev W a b hst)
  have HCO := Lib.hid (fun W => implCountedOk_any n W)
  have y0 := MB.out.c0
  have y1 := MB.out.c1
  have y2 := MB.out.c2
  clear h1 h2
  go_enter Try.func38, Try.ntmps38
  go_wp2_with fail
  refine (HOK.out _ MB.out.ints MB.out.bools).mono ?_
  rintro e w1 ⟨rfl, hb1⟩
  have M1 := Lib.hid (MB.out.below hb1)
  have q1 := Lib.hid (q0.out.trans (hb1.mono q0.out.size))
  have z0 := M1.out.c0
  have z1 := M1.out.c1
  have z2 := M1.out.c2
  clear y0 y1 y2 hb1
  cases hk : m.ok with
  | false =>
    have HR := Lib.hid (wordAtZ_no (m := m) (n := n) (a := a) (by rw [hk, Bool.false_and]))
    go_wp2_with fail
    go_ret2
    exact ⟨(ret_sb HR.out).symm, q1.out⟩
  | true =>
    have HK := Lib.hid hk
    go_wp2_with fail
    refine (HCO.out _).mono ?_
    rintro e w2 ⟨rfl, rfl⟩
    cases hc : countedB n with
    | false =>
      have HR := Lib.hid (wordAtZ_no (m := m) (n := n) (a := a) (by rw [hc, Bool.and_false]))
      go_wp2_with fail
      go_ret2
      exact ⟨(ret_sb HR.out).symm, q1.out⟩
    | true =>
      obtain ⟨r, rfl, hr⟩ := countedB_nat hc
      have HR := Lib.hid (wordAtZ_yes (a := a) HK.out hc)
      clear hc HCO
      go_wp2_with fail
      refine (implCounts_any m r nv ev _ M1.out.ints M1.out.bools HK.out hr).mono ?_
      rintro e w3 ⟨tv, rfl, ht, hb3⟩
      have q3 := Lib.hid (q1.out.trans (hb3.mono q1.out.size))
      have HT := Lib.hid ht
      have HN3 := Lib.hid (M1.out.ints.below hb3)
      clear ht z0 z1 z2 hb3
      go_wp2_with fail
      refine (implWordAtC_any m r r a nv ev tv _ HN3.out HT.out HK.out (Nat.le_refl _) hr).mono ?_
      rintro e w4 ⟨rfl, hb4⟩
      have q4 := Lib.hid (q3.out.trans (hb4.mono q3.out.size))
      clear hb4
      generalize hz : wordZ m r a = z at *
      obtain ⟨zs, zb⟩ := z
      have HZ := Lib.hid hz
      clear hz
      go_wp2_with fail
      go_ret2
      exact ⟨(ret_sb HR.out).symm, q4.out⟩

set_option maxHeartbeats 1600000 in
theorem implPlaceOf_any (m : M) (word : ByteArray) (nv ev : Value) (w : World) (h1 : IsInts w nv m.next) (h2 : IsBools w ev m.ends) (hst : (Lit.int .i64 m.st).wf = true) (hs : word.size ≤ maxLen) :
    Calls Try.prog 40 #[.agg #[.int .i64 m.st, nv, ev], .string word] w fun e w' => e = .returned (.int .i64 (placeOf m word)) ∧ Below w.heap.size w w' := by
  have MB := Lib.hid (MachBox.new (st := m.st) 26 h1 h2)
  have q0 := Lib.hid ((Below.refl w.heap.size w).alloc (Nat.le_refl _) (.cells #[.int .i64 m.st, nv, ev] 26))
  have HTK := Lib.hid (fun W a b => implTakesOk_any m word nv ev W a b hst hs)
  have HCO := Lib.hid (fun W => implCountedOk_any (word.size : Int) W)
  have y0 := MB.out.c0
  have y1 := MB.out.c1
  have y2 := MB.out.c2
  clear h1 h2
  go_enter Try.func40, Try.ntmps40
  go_wp2_with fail
  refine (HCO.out _).mono ?_
  rintro e w2 ⟨rfl, rfl⟩
  cases hc : countedB (word.size : Int) with
  | false =>
    have HR := Lib.hid (placeOf_no (m := m) (word := word) (by rw [hc, Bool.false_and]))
    go_wp2_with fail
    go_ret
    exact ⟨ret_int HR.out.symm, q0.out⟩
  | true =>
    have HC := Lib.hid hc
    have h10 : word.size ≤ 10 := by
      obtain ⟨r, h, hr⟩ := countedB_nat hc
      omega
    clear hc
    go_wp2_with fail
    refine (HTK.out _ MB.out.ints MB.out.bools).mono ?_
    rintro e w3 ⟨rfl, hb3⟩
    have M1 := Lib.hid (MB.out.below hb3)
    have q1 := Lib.hid (q0.out.trans (hb3.mono q0.out.size))
    have z0 := M1.out.c0
    have z1 := M1.out.c1
    have z2 := M1.out.c2
    clear y0 y1 y2 hb3
    cases ht : m.takes word with
    | false =>
      have HR := Lib.hid (placeOf_no (m := m) (word := word) (by rw [ht, Bool.and_false]))
      go_wp2_with fail
      go_ret
      exact ⟨ret_int HR.out.symm, q1.out⟩
    | true =>
      have HR := Lib.hid (placeOf_yes (m := m) (word := word) (by rw [ht, HC.out]; rfl))
      have HT := Lib.hid (takes_ok ht)
      clear ht
      go_wp2_with fail
      refine (implCounts_any m word.size nv ev _ M1.out.ints M1.out.bools HT.out.1 h10).mono ?_
      rintro e w4 ⟨tv, rfl, ht, hb4⟩
      have q4 := Lib.hid (q1.out.trans (hb4.mono q1.out.size))
      have HTB := Lib.hid ht
      have HN3 := Lib.hid (M1.out.ints.below hb4)
      clear ht z0 z1 z2 hb4
      go_wp2_with fail
      refine (implRank_any m word.size word nv ev tv _ HN3.out HTB.out HT.out.1 HT.out.2 (Nat.le_refl _) h10).mono ?_
      rintro e w5 ⟨rfl, hb5⟩
      have q5 := Lib.hid (q4.out.trans (hb5.mono q4.out.size))
      clear hb5
      go_wp2_with fail
      go_ret
      exact ⟨ret_int HR.out.symm, q5.out⟩
end Go.Proofs.Ytaghjddndgpljaa
