/- KeepsRule on the program's side. Condition: the library's variable MaxLen holds some number. -/
import Derived.Test.YtlbblfbiiceofaaRunsLong
import Derived.Test.YtlbblfbiiceofaaRules2
import Derived.Test.YtlbblfbiiceofaaShelfC
import Derived.Deep.RegionWith
namespace Go.Proofs.Ytlbblfbiiceofaa
open Go.RowKit

theorem isPrefix_two (c d : UInt8) (l : List UInt8) : [c, d].isPrefixOf l = true ↔ l[0]? = some c ∧ l[1]? = some d := by
  match l with
  | [] => simp
  | [a] => simp
  | a :: b :: l =>
    simp only [List.isPrefixOf, Bool.and_true, Bool.and_eq_true, beq_iff_eq, List.getElem?_cons_zero, List.getElem?_cons_succ, Option.some.injEq]
    exact ⟨fun h => ⟨h.1.symm, h.2.symm⟩, fun h => ⟨h.1.symm, h.2.symm⟩⟩
theorem contains_pair (l : List UInt8) (c d : UInt8) : Lib.contains l [c, d] = pairTo l c d (l.length - 1) := by
  rw [Bool.eq_iff_iff]
  have key : pairTo l c d (l.length - 1) = true ↔ ∃ i, Lib.occAt l [c, d] i = true := by
    simp only [pairTo, List.any_eq_true, List.mem_range, Bool.and_eq_true, beq_iff_eq, Lib.occAt, isPrefix_two, List.getElem?_drop]
    constructor
    · rintro ⟨i, hi, h1, h2⟩
      have hi1 : i < l.length := by omega
      have hi2 : i + 1 < l.length := by omega
      refine ⟨i, ?_, ?_⟩
      · rw [Nat.add_zero, List.getElem?_eq_getElem hi1, ← h1]; simp [List.getD, hi1]
      · rw [List.getElem?_eq_getElem hi2, ← h2]; simp [List.getD, hi2]
    · rintro ⟨i, h1, h2⟩
      have hi2 := (List.getElem?_eq_some_iff.1 h2).1
      refine ⟨i, by omega, ?_, ?_⟩
      · rw [Nat.add_zero] at h1; simp [List.getD, h1]
      · simp [List.getD, h2]
  rw [key, Lib.contains, decide_eq_true_eq]
  rcases Lib.index_spec l [c, d] with ⟨h1, h2⟩ | ⟨i, h1, _, h3, _⟩
  · rw [h1]
    refine ⟨fun h => absurd h (by decide), ?_⟩
    rintro ⟨i, hi⟩
    by_cases hl : i ≤ l.length
    · rw [h2 i hl] at hi; cases hi
    · simp only [Lib.occAt, isPrefix_two, List.getElem?_drop] at hi
      have := (List.getElem?_eq_some_iff.1 hi.1).1
      omega
  · rw [h1]
    exact ⟨fun _ => ⟨i, h3⟩, fun _ => Int.natCast_nonneg i⟩

theorem one_byte {t : ByteArray} (h : letterOk t = true) : t.data.toList = [byteAt t 0] := by
  rcases letterOk_cases h with rfl | rfl | rfl <;> rfl
theorem ru_cells {w w' : World} {t : TypeId} (kind : Int) (letter thn : ByteArray) (many : Int) (hb : Below (w.heap.size + 1) (w.alloc (.cells #[.int .i64 kind, .string letter, .string thn, .int .i64 many] t)) w') :
    w'.cell? ⟨w.heap.size, 0, none⟩ = some (.int .i64 kind) ∧ w'.cell? ⟨w.heap.size, 1, none⟩ = some (.string letter) ∧ w'.cell? ⟨w.heap.size, 2, none⟩ = some (.string thn) ∧ w'.cell? ⟨w.heap.size, 3, none⟩ = some (.int .i64 many) ∧ Below w.heap.size w w' ∧ w.heap.size + 1 ≤ w'.heap.size :=
  ⟨(hb.cell (p := ⟨w.heap.size, 0, none⟩) (Nat.lt_succ_self _)).trans (World.cell?_alloc_new w _ _ 0), (hb.cell (p := ⟨w.heap.size, 1, none⟩) (Nat.lt_succ_self _)).trans (World.cell?_alloc_new w _ _ 1),
    (hb.cell (p := ⟨w.heap.size, 2, none⟩) (Nat.lt_succ_self _)).trans (World.cell?_alloc_new w _ _ 2), (hb.cell (p := ⟨w.heap.size, 3, none⟩) (Nat.lt_succ_self _)).trans (World.cell?_alloc_new w _ _ 3),
    ((Below.refl w.heap.size w).alloc (Nat.le_refl _) _).trans (hb.mono (Nat.le_succ _)), by have := hb.size; simp only [World.size_alloc] at this; exact this⟩

set_option maxHeartbeats 1600000 in
theorem implKeeps_0 (letter : ByteArray) (many : Int) (s : ByteArray) (w : World) (hl : letterOk letter = true) (h0 : 0 ≤ many) (h4 : many ≤ 4) (hw : wordOk s = true) :
    Calls Try.prog 73 #[.agg #[.int .i64 0, .string letter, .string ⟨#[]⟩, .int .i64 many], .string s] w
      fun e w' => e = .returned (.bool (decide ((longestIn (runsL s.data.toList) (byteAt letter 0) : Int) ≤ many))) ∧ Below w.heap.size w w' := by
  have hlm : letter.size ≤ maxLen := by rw [letterOk_size hl]; decide
  have hsm : s.size ≤ maxLen := Nat.le_trans (wordOk_size hw) (by decide)
  have hok : (Ru.mk 0 letter ⟨#[]⟩ many).ok = true := Ru.ok_iff.2 ⟨hl, .inl ⟨rfl, rfl, h0, h4⟩⟩
  have HL := Lib.hid (longestOf_yes hw hl)
  go_enter Try.func73, Try.ntmps73
  go_wp2_with fail
  refine (implRuleOk_any 0 letter ⟨#[]⟩ many _ hlm (by decide)).mono ?_
  rintro e w1 ⟨rfl, hb1⟩
  rw [hok]
  simp only [World.size_alloc] at hb1
  obtain ⟨y0, y1, y2, y3, q1, s1⟩ := ru_cells 0 letter ⟨#[]⟩ many hb1
  go_wp2_with (go_at_call 56; refine (implWordOk_any _ _ hsm).mono ?_; rintro e w' ⟨rfl, rfl⟩)
  go_region_with (go_at_call 90; refine (implLongestOf_any _ _ _ hsm hlm).mono ?_; rintro e w2 ⟨rfl, hb2⟩; obtain ⟨z0, z1, z2, z3, q2, s2⟩ := ru_cells 0 letter ⟨#[]⟩ many (hb1.drew.trans (hb2.mono s1)))
  all_goals
    go_wp2
    go_ret
    exact ⟨ret_bool (by rw [HL.out]), q2⟩

set_option maxHeartbeats 1600000 in
theorem implKeeps_1 (letter : ByteArray) (many : Int) (s : ByteArray) (w : World) (hl : letterOk letter = true) (h0 : 2 ≤ many) (h4 : many ≤ 4) (hw : wordOk s = true) :
    Calls Try.prog 73 #[.agg #[.int .i64 1, .string letter, .string ⟨#[]⟩, .int .i64 many], .string s] w
      fun e w' => e = .returned (.bool (longAll (runsL s.data.toList) (byteAt letter 0) many)) ∧ Below w.heap.size w w' := by
  have hlm : letter.size ≤ maxLen := by rw [letterOk_size hl]; decide
  have hsm : s.size ≤ maxLen := Nat.le_trans (wordOk_size hw) (by decide)
  have hok : (Ru.mk 1 letter ⟨#[]⟩ many).ok = true := Ru.ok_iff.2 ⟨hl, .inr (.inl ⟨rfl, rfl, h0, h4⟩)⟩
  have h1 := letterOk_size hl
  have hp : 0 < letter.size := by omega
  have HL := Lib.hid (byteAt_eq letter 0 hp)
  have h14 := wordOk_size hw
  go_enter Try.func73, Try.ntmps73
  go_wp2_with fail
  refine (implRuleOk_any 1 letter ⟨#[]⟩ many _ hlm (by decide)).mono ?_
  rintro e w1 ⟨rfl, hb1⟩
  rw [hok]
  simp only [World.size_alloc] at hb1
  obtain ⟨y0, y1, y2, y3, q1, s1⟩ := ru_cells 1 letter ⟨#[]⟩ many hb1
  go_wp2_with (go_at_call 56; refine (implWordOk_any _ _ hsm).mono ?_; rintro e w' ⟨rfl, rfl⟩)
  go_region_with (go_at_call 91; refine (runsLongOk_any s letter[0] many _ h14).mono ?_; rintro e w2 ⟨rfl, hb2⟩; obtain ⟨z0, z1, z2, z3, q2, s2⟩ := ru_cells 1 letter ⟨#[]⟩ many (hb1.drew.trans (hb2.mono s1)))
  all_goals
    go_wp2
    go_ret
    exact ⟨ret_bool (by rw [HL.out]), q2⟩

set_option maxHeartbeats 1600000 in
theorem implKeeps_2 (letter : ByteArray) (thn : ByteArray) (m : Int) (s : ByteArray) (w : World) (hl : letterOk letter = true) (ht : letterOk thn = true) (hm : w.cell? ⟨0, 0, none⟩ = some (.int .i64 m)) (hw : wordOk s = true) :
    Calls Try.prog 73 #[.agg #[.int .i64 2, .string letter, .string thn, .int .i64 0], .string s] w
      fun e w' => e = .returned (.bool (!pairTo s.data.toList (byteAt letter 0) (byteAt thn 0) (s.size - 1))) ∧ Below w.heap.size w w' := by
  have hlm : letter.size ≤ maxLen := by rw [letterOk_size hl]; decide
  have hsm : s.size ≤ maxLen := Nat.le_trans (wordOk_size hw) (by decide)
  have hok : (Ru.mk 2 letter thn 0).ok = true := Ru.ok_iff.2 ⟨hl, .inr (.inr (.inl ⟨rfl, ht, rfl⟩))⟩
  have htm : thn.size ≤ maxLen := by rw [letterOk_size ht]; decide
  have hsum : letter.size + thn.size ≤ 9223372036854775807 := by rw [letterOk_size hl, letterOk_size ht]; decide
  have HL : Hid (Lib.contains s.data.toList (letter ++ thn).data.toList = pairTo s.data.toList (byteAt letter 0) (byteAt thn 0) (s.size - 1)) := by
    have : Lib.contains s.data.toList (letter ++ thn).data.toList = pairTo s.data.toList (byteAt letter 0) (byteAt thn 0) (s.size - 1) := by
      rw [ByteArray.data_append, Array.toList_append, one_byte hl, one_byte ht, ← len_data s]
      exact contains_pair _ _ _
    exact Lib.hid this
  have h14 := wordOk_size hw
  have hg0 : (⟨0, 0, none⟩ : Addr).block < w.heap.size := World.block_lt_of_cell? w _ hm
  go_enter Try.func73, Try.ntmps73
  go_wp2_with fail
  refine (implRuleOk_any 2 letter thn 0 _ hlm htm).mono ?_
  rintro e w1 ⟨rfl, hb1⟩
  rw [hok]
  simp only [World.size_alloc] at hb1
  obtain ⟨y0, y1, y2, y3, q1, s1⟩ := ru_cells 2 letter thn 0 hb1
  have hm1 := (q1.cell hg0).trans hm
  clear y0 y3
  have y0 : w1.cell? ⟨w.heap.size, 0, none⟩ = some (.int .i64 2) := (ru_cells 2 letter thn 0 hb1).1
  go_wp2_with (first | (go_at_call 56; refine (implWordOk_any _ _ hsm).mono ?_; rintro e w' ⟨rfl, rfl⟩) | (go_at_call 92; refine (strings_Contains _ _ m _ (by omega) (by assumption)).mono ?_; rintro e w' ⟨rfl, rfl⟩))
  go_ret
  exact ⟨ret_bool (by rw [← HL.out, ByteArray.data_append, Array.toList_append]), q1⟩

set_option maxHeartbeats 1600000 in
theorem implKeeps_3 (letter : ByteArray) (many : Int) (s : ByteArray) (w : World) (hl : letterOk letter = true) (h0 : 0 ≤ many) (h4 : many ≤ 5) (hw : wordOk s = true) :
    Calls Try.prog 73 #[.agg #[.int .i64 3, .string letter, .string ⟨#[]⟩, .int .i64 many], .string s] w
      fun e w' => e = .returned (.bool (decide (cntEq s.data.toList (byteAt letter 0) s.size ≤ many))) ∧ Below w.heap.size w w' := by
  have hlm : letter.size ≤ maxLen := by rw [letterOk_size hl]; decide
  have hsm : s.size ≤ maxLen := Nat.le_trans (wordOk_size hw) (by decide)
  have hok : (Ru.mk 3 letter ⟨#[]⟩ many).ok = true := Ru.ok_iff.2 ⟨hl, .inr (.inr (.inr (.inl ⟨rfl, rfl, h0, h4⟩)))⟩
  have HL := Lib.hid (countOf_yes hw hl)
  go_enter Try.func73, Try.ntmps73
  go_wp2_with fail
  refine (implRuleOk_any 3 letter ⟨#[]⟩ many _ hlm (by decide)).mono ?_
  rintro e w1 ⟨rfl, hb1⟩
  rw [hok]
  simp only [World.size_alloc] at hb1
  obtain ⟨y0, y1, y2, y3, q1, s1⟩ := ru_cells 3 letter ⟨#[]⟩ many hb1
  go_wp2_with (go_at_call 56; refine (implWordOk_any _ _ hsm).mono ?_; rintro e w' ⟨rfl, rfl⟩)
  go_region_with (go_at_call 30; refine (implCountOf_any _ _ _ hsm hlm).mono ?_; rintro e w2 ⟨rfl, hb2⟩; obtain ⟨z0, z1, z2, z3, q2, s2⟩ := ru_cells 3 letter ⟨#[]⟩ many (hb1.drew.trans (hb2.mono s1)))
  all_goals
    go_wp2
    go_ret
    exact ⟨ret_bool (by rw [HL.out]), q2⟩

set_option maxHeartbeats 1600000 in
theorem implKeeps_4 (letter : ByteArray) (many : Int) (s : ByteArray) (w : World) (hl : letterOk letter = true) (h0 : 1 ≤ many) (h4 : many ≤ 5) (hw : wordOk s = true) :
    Calls Try.prog 73 #[.agg #[.int .i64 4, .string letter, .string ⟨#[]⟩, .int .i64 many], .string s] w
      fun e w' => e = .returned (.bool (decide (many ≤ cntEq s.data.toList (byteAt letter 0) s.size))) ∧ Below w.heap.size w w' := by
  have hlm : letter.size ≤ maxLen := by rw [letterOk_size hl]; decide
  have hsm : s.size ≤ maxLen := Nat.le_trans (wordOk_size hw) (by decide)
  have hok : (Ru.mk 4 letter ⟨#[]⟩ many).ok = true := Ru.ok_iff.2 ⟨hl, .inr (.inr (.inr (.inr ⟨rfl, rfl, h0, h4⟩)))⟩
  have HL := Lib.hid (countOf_yes hw hl)
  go_enter Try.func73, Try.ntmps73
  go_wp2_with fail
  refine (implRuleOk_any 4 letter ⟨#[]⟩ many _ hlm (by decide)).mono ?_
  rintro e w1 ⟨rfl, hb1⟩
  rw [hok]
  simp only [World.size_alloc] at hb1
  obtain ⟨y0, y1, y2, y3, q1, s1⟩ := ru_cells 4 letter ⟨#[]⟩ many hb1
  go_wp2_with (go_at_call 56; refine (implWordOk_any _ _ hsm).mono ?_; rintro e w' ⟨rfl, rfl⟩)
  go_region_with (go_at_call 30; refine (implCountOf_any _ _ _ hsm hlm).mono ?_; rintro e w2 ⟨rfl, hb2⟩; obtain ⟨z0, z1, z2, z3, q2, s2⟩ := ru_cells 4 letter ⟨#[]⟩ many (hb1.drew.trans (hb2.mono s1)))
  all_goals
    go_wp2
    go_ret
    exact ⟨ret_bool (by rw [HL.out]), q2⟩

end Go.Proofs.Ytlbblfbiiceofaa
