/- KeepsRule on the model's side. No condition. -/
import Derived.Test.YtlbblfbiiceofaaKeeps
import Derived.Test.YtlbblfbiiceofaaSpecRuns
namespace Go.Proofs.Ytlbblfbiiceofaa
open Go.RowKit

set_option maxHeartbeats 1600000 in
theorem specKeeps_0 (letter : ByteArray) (many : Int) (s : ByteArray) (w : World) (hl : letterOk letter = true) (h0 : 0 ≤ many) (h4 : many ≤ 4) (hw : wordOk s = true) :
    Calls Try.prog 103 #[.agg #[.int .i64 0, .string letter, .string ⟨#[]⟩, .int .i64 many], .string s] w
      fun e w' => e = .returned (.bool (decide ((longestIn (runsL s.data.toList) (byteAt letter 0) : Int) ≤ many))) ∧ Below w.heap.size w w' := by
  have hsm : s.size ≤ maxLen := Nat.le_trans (wordOk_size hw) (by decide)
  have hok : (Ru.mk 0 letter ⟨#[]⟩ many).ok = true := Ru.ok_iff.2 ⟨hl, .inl ⟨rfl, rfl, h0, h4⟩⟩
  have HL := Lib.hid (longestOf_yes hw hl)
  go_enter Try.func103, Try.ntmps103
  go_wp2_with fail
  refine (specRuleOk_any 0 letter ⟨#[]⟩ many _).mono ?_
  rintro e w1 ⟨rfl, hb1⟩
  rw [hok]
  simp only [World.size_alloc] at hb1
  obtain ⟨y0, y1, y2, y3, q1, s1⟩ := ru_cells 0 letter ⟨#[]⟩ many hb1
  go_wp2_with (go_at_call 58; refine (specWordOk_any _ _ hsm).mono ?_; rintro e w' ⟨rfl, rfl⟩)
  go_region_with (go_at_call 111; refine (specLongestOf_any _ _ _ hsm).mono ?_; rintro e w2 ⟨rfl, hb2⟩; obtain ⟨z0, z1, z2, z3, q2, s2⟩ := ru_cells 0 letter ⟨#[]⟩ many (hb1.drew.trans (hb2.mono s1)))
  all_goals
    go_wp2
    go_ret
    exact ⟨ret_bool (by rw [HL.out]), q2⟩

set_option maxHeartbeats 1600000 in
theorem specKeeps_3 (letter : ByteArray) (many : Int) (s : ByteArray) (w : World) (hl : letterOk letter = true) (h0 : 0 ≤ many) (h4 : many ≤ 5) (hw : wordOk s = true) :
    Calls Try.prog 103 #[.agg #[.int .i64 3, .string letter, .string ⟨#[]⟩, .int .i64 many], .string s] w
      fun e w' => e = .returned (.bool (decide (cntEq s.data.toList (byteAt letter 0) s.size ≤ many))) ∧ Below w.heap.size w w' := by
  have hsm : s.size ≤ maxLen := Nat.le_trans (wordOk_size hw) (by decide)
  have hok : (Ru.mk 3 letter ⟨#[]⟩ many).ok = true := Ru.ok_iff.2 ⟨hl, .inr (.inr (.inr (.inl ⟨rfl, rfl, h0, h4⟩)))⟩
  have HL := Lib.hid (countOf_yes hw hl)
  go_enter Try.func103, Try.ntmps103
  go_wp2_with fail
  refine (specRuleOk_any 3 letter ⟨#[]⟩ many _).mono ?_
  rintro e w1 ⟨rfl, hb1⟩
  rw [hok]
  simp only [World.size_alloc] at hb1
  obtain ⟨y0, y1, y2, y3, q1, s1⟩ := ru_cells 3 letter ⟨#[]⟩ many hb1
  go_wp2_with (go_at_call 58; refine (specWordOk_any _ _ hsm).mono ?_; rintro e w' ⟨rfl, rfl⟩)
  go_region_with (go_at_call 85; refine (specCountOf_any _ _ _ hsm).mono ?_; rintro e w2 ⟨rfl, hb2⟩; obtain ⟨z0, z1, z2, z3, q2, s2⟩ := ru_cells 3 letter ⟨#[]⟩ many (hb1.drew.trans (hb2.mono s1)))
  all_goals
    go_wp2
    go_ret
    exact ⟨ret_bool (by rw [HL.out]), q2⟩

set_option maxHeartbeats 1600000 in
theorem specKeeps_4 (letter : ByteArray) (many : Int) (s : ByteArray) (w : World) (hl : letterOk letter = true) (h0 : 1 ≤ many) (h4 : many ≤ 5) (hw : wordOk s = true) :
    Calls Try.prog 103 #[.agg #[.int .i64 4, .string letter, .string ⟨#[]⟩, .int .i64 many], .string s] w
      fun e w' => e = .returned (.bool (decide (many ≤ cntEq s.data.toList (byteAt letter 0) s.size))) ∧ Below w.heap.size w w' := by
  have hsm : s.size ≤ maxLen := Nat.le_trans (wordOk_size hw) (by decide)
  have hok : (Ru.mk 4 letter ⟨#[]⟩ many).ok = true := Ru.ok_iff.2 ⟨hl, .inr (.inr (.inr (.inr ⟨rfl, rfl, h0, h4⟩)))⟩
  have HL := Lib.hid (countOf_yes hw hl)
  go_enter Try.func103, Try.ntmps103
  go_wp2_with fail
  refine (specRuleOk_any 4 letter ⟨#[]⟩ many _).mono ?_
  rintro e w1 ⟨rfl, hb1⟩
  rw [hok]
  simp only [World.size_alloc] at hb1
  obtain ⟨y0, y1, y2, y3, q1, s1⟩ := ru_cells 4 letter ⟨#[]⟩ many hb1
  go_wp2_with (go_at_call 58; refine (specWordOk_any _ _ hsm).mono ?_; rintro e w' ⟨rfl, rfl⟩)
  go_region_with (go_at_call 85; refine (specCountOf_any _ _ _ hsm).mono ?_; rintro e w2 ⟨rfl, hb2⟩; obtain ⟨z0, z1, z2, z3, q2, s2⟩ := ru_cells 4 letter ⟨#[]⟩ many (hb1.drew.trans (hb2.mono s1)))
  all_goals
    go_wp2
    go_ret
    exact ⟨ret_bool (by rw [HL.out]), q2⟩

theorem pairTo_up {l : List UInt8} {c d : UInt8} {k n : Nat} (hk : k ≤ n) (h : pairTo l c d k = true) : pairTo l c d n = true := by
  obtain ⟨i, hi, h⟩ := List.any_eq_true.1 h
  exact List.any_eq_true.2 ⟨i, List.mem_range.2 (by have := List.mem_range.1 hi; omega), h⟩

set_option maxHeartbeats 1600000 in
theorem specKeeps_2 (letter thn : ByteArray) (s : ByteArray) (w : World) (hl : letterOk letter = true) (ht : letterOk thn = true) (hw : wordOk s = true) :
    Calls Try.prog 103 #[.agg #[.int .i64 2, .string letter, .string thn, .int .i64 0], .string s] w
      fun e w' => e = .returned (.bool (!pairTo s.data.toList (byteAt letter 0) (byteAt thn 0) (s.size - 1))) ∧ Below w.heap.size w w' := by
  have hsm : s.size ≤ maxLen := Nat.le_trans (wordOk_size hw) (by decide)
  have hok : (Ru.mk 2 letter thn 0).ok = true := Ru.ok_iff.2 ⟨hl, .inr (.inr (.inl ⟨rfl, ht, rfl⟩))⟩
  have h1 := letterOk_size hl
  have h2 := letterOk_size ht
  have hp1 : 0 < letter.size := by omega
  have hp2 : 0 < thn.size := by omega
  have h14 := wordOk_size hw
  go_enter Try.func103, Try.ntmps103
  go_wp2_with fail
  refine (specRuleOk_any 2 letter thn 0 _).mono ?_
  rintro e w1 ⟨rfl, hb1⟩
  rw [hok]
  simp only [World.size_alloc] at hb1
  obtain ⟨y0, y1, y2, y3, q1, s1⟩ := ru_cells 2 letter thn 0 hb1
  go_wp2_with (go_at_call 58; refine (specWordOk_any _ _ hsm).mono ?_; rintro e w' ⟨rfl, rfl⟩)
  have hc1 : letter[0] = byteAt letter 0 := byteAt_eq letter 0 hp1
  have hc2 : thn[0] = byteAt thn 0 := byteAt_eq thn 0 hp2
  have HC := Lib.hid (And.intro hc1 hc2)
  clear hc1 hc2
  have B1 := Lib.hid hb1
  clear hb1 y0 y1 y2 y3 q1 s1
  go_loopw [5] (fun i wr => ∃ k : Nat, 1 ≤ k ∧ i = .int .i64 (k : Int) ∧ k - 1 ≤ s.size - 1 ∧ pairTo s.data.toList (byteAt letter 0) (byteAt thn 0) (k - 1) = false ∧ Below (w.heap.size + 1) (w.alloc (.cells #[.int .i64 2, .string letter, .string thn, .int .i64 0] 79)) wr) (fun i _ => s.size - (intOf i).toNat)
  case atStart => exact ⟨1, by omega, rfl, Nat.zero_le _, rfl, B1.out⟩
  case round =>
    obtain ⟨k, hkp, rfl, hk, hno, hb⟩ := hrel
    have HN := Lib.hid hno
    have HB := Lib.hid hb
    obtain ⟨y0, y1, y2, y3, q1, s1⟩ := ru_cells 2 letter thn 0 hb
    have Q1 := Lib.hid q1
    clear hno hb y0 y3 q1 s1
    by_cases hlt : k < s.size
    · have hjt : k - 1 < s.size := by omega
      have HP : Hid (pairTo s.data.toList (byteAt letter 0) (byteAt thn 0) k = (s[k - 1] == letter[0] && s[k] == thn[0])) := by
        have e : k = (k - 1) + 1 := by omega
        have : pairTo s.data.toList (byteAt letter 0) (byteAt thn 0) k = (s[k - 1] == letter[0] && s[k] == thn[0]) := by
          rw [byteAt_eq s (k - 1) hjt, byteAt_eq s k hlt, HC.out.1, HC.out.2]
          conv => lhs; rw [e]
          rw [pairTo_succ, HN.out, Bool.false_or, ← e]
          rfl
        exact Lib.hid this
      have HHIT : Hid (pairTo s.data.toList (byteAt letter 0) (byteAt thn 0) k = true → pairTo s.data.toList (byteAt letter 0) (byteAt thn 0) (s.size - 1) = true) := Lib.hid (fun h => pairTo_up (by omega) h)
      have hix := fun w => index_pred s k hkp hjt w
      generalize s[k - 1] = x1 at *
      by_cases t1 : (x1 == letter[0]) = true
      · have t1' : ((x1.toNat : Int) == (letter[0].toNat : Int)) = true := by rw [u8_beq]; exact t1
        by_cases t2 : (s[k] == thn[0]) = true
        · have t2' : ((s[k].toNat : Int) == (thn[0].toNat : Int)) = true := by rw [u8_beq]; exact t2
          have HF := Lib.hid (HHIT.out (by rw [HP.out, t1, t2]; rfl))
          clear t1 t2
          go_wp2
          go_quiet (fail)
          go_wp2
          go_ret
          exact ⟨ret_bool (by rw [HF.out]; rfl), below_drewN Q1.out _⟩
        · have t2' : ((s[k].toNat : Int) == (thn[0].toNat : Int)) = false := by rw [u8_beq]; simpa using t2
          have HF : Hid (pairTo s.data.toList (byteAt letter 0) (byteAt thn 0) k = false) := by
            have : pairTo s.data.toList (byteAt letter 0) (byteAt thn 0) k = false := by rw [HP.out, t1]; simpa using t2
            exact Lib.hid this
          clear t1 t2
          go_wp2
          go_quiet (fail)
          go_wp2
          go_roundw
          case rel => exact ⟨k + 1, by omega, by go_num, by omega, HF.out, below_drewN HB.out _⟩
          case measure => simp [intOf]; omega
      · have t1' : ((x1.toNat : Int) == (letter[0].toNat : Int)) = false := by rw [u8_beq]; simpa using t1
        have HF : Hid (pairTo s.data.toList (byteAt letter 0) (byteAt thn 0) k = false) := by
          have t1n : (x1 == letter[0]) = false := by simpa using t1
          have : pairTo s.data.toList (byteAt letter 0) (byteAt thn 0) k = false := by rw [HP.out, t1n]; rfl
          exact Lib.hid this
        clear t1
        go_wp2
        go_quiet (fail)
        go_wp2
        go_roundw
        case rel => exact ⟨k + 1, by omega, by go_num, by omega, HF.out, below_drewN HB.out _⟩
        case measure => simp [intOf]; omega
    · have HF : Hid (pairTo s.data.toList (byteAt letter 0) (byteAt thn 0) (s.size - 1) = false) := by
        have e : k - 1 = s.size - 1 := by omega
        have := HN.out
        rw [e] at this
        exact Lib.hid this
      go_wp2
      go_ret
      exact ⟨ret_bool (by rw [HF.out]; rfl), Q1.out⟩

/-- how many letters the first k runs have -/
def sumRuns (R : List (UInt8 × Nat)) (k : Nat) : Nat := ((R.take k).map (·.2)).sum
theorem sumRuns_succ (R : List (UInt8 × Nat)) (k : Nat) (h : k < R.length) : sumRuns R (k + 1) = sumRuns R k + R[k].2 := by
  unfold sumRuns
  rw [List.take_succ_eq_append_getElem h, List.map_append, List.sum_append]; simp
theorem sumRuns_lt (l : List UInt8) (k : Nat) (h : k < (runsL l).length) : sumRuns (runsL l) k + (runsL l)[k].2 ≤ l.length := by
  rw [← sumRuns_succ _ _ h, ← runsL_sum l]
  unfold sumRuns
  conv => rhs; rw [← List.take_append_drop (k + 1) (runsL l)]
  rw [List.map_append, List.sum_append]
  omega
theorem runs_letter (l : List UInt8) : ∀ k (h : k < (runsL l).length), l.getD (sumRuns (runsL l) k) 0 = (runsL l)[k].1 := by
  refine snoc_indR (P := fun l => ∀ k (h : k < (runsL l).length), l.getD (sumRuns (runsL l) k) 0 = (runsL l)[k].1) ?_ ?_ l
  · intro k h; simp [runsL_nil] at h
  · intro l c ih k h
    have hs := runsL_snoc l c
    rcases snocRun_cases (runsL l) c with ⟨ys, n, h1, h2⟩ | ⟨h2, _⟩
    · rw [h2] at hs
      have hk : k < (ys ++ [(c, n)]).length := by rw [hs] at h; simpa using h
      have hk' : k < (runsL l).length := by rw [h1]; exact hk
      have hky : k ≤ ys.length := by simp at hk; omega
      have a := ih k hk'
      have b := sumRuns_lt l k hk'
      have p := runsL_pos l _ (List.getElem_mem hk')
      have e1 : sumRuns (runsL (l ++ [c])) k = sumRuns (runsL l) k := by
        unfold sumRuns
        rw [hs, h1, List.take_append_of_le_length hky, List.take_append_of_le_length hky]
      have e2 : (runsL (l ++ [c]))[k].1 = (runsL l)[k].1 := by
        simp only [hs, h1]
        rcases Nat.lt_or_eq_of_le hky with hlt | rfl
        · rw [List.getElem_append_left hlt, List.getElem_append_left hlt]
        · simp
      rw [e1, e2, ← a, List.getD_eq_getElem?_getD, List.getD_eq_getElem?_getD, List.getElem?_append_left (by omega)]
    · rw [h2] at hs
      have e1 : ∀ j, j ≤ (runsL l).length → sumRuns (runsL (l ++ [c])) j = sumRuns (runsL l) j := fun j hj => by
        unfold sumRuns
        rw [hs, List.take_append_of_le_length hj]
      have hk : k < (runsL l ++ [(c, 1)]).length := by rw [hs] at h; exact h
      rw [e1 k (by simp at hk; omega)]
      rcases Nat.lt_or_ge k (runsL l).length with hlt | hge
      · have a := ih k hlt
        have b := sumRuns_lt l k hlt
        have p := runsL_pos l _ (List.getElem_mem hlt)
        have e2 : (runsL (l ++ [c]))[k].1 = (runsL l)[k].1 := by simp only [hs]; rw [List.getElem_append_left hlt]
        rw [e2, ← a, List.getD_eq_getElem?_getD, List.getD_eq_getElem?_getD, List.getElem?_append_left (by omega)]
      · have e : k = (runsL l).length := by simp at hk; omega
        subst e
        have e2 : (runsL (l ++ [c]))[(runsL l).length].1 = c := by simp only [hs]; simp
        have e3 : sumRuns (runsL l) (runsL l).length = l.length := by unfold sumRuns; rw [List.take_length, runsL_sum]
        rw [e2, e3]
        simp [List.getD]
end Go.Proofs.Ytlbblfbiiceofaa
