/- The contracts of RuleOk on the model's side, and of what the laws of rules need around. No condition. -/
import Derived.Test.YtlbblfbiiceofaaRules
import Derived.Test.YtlbblfbiiceofaaRolled
namespace Go.Proofs.Ytlbblfbiiceofaa
open Go.RowKit

set_option maxHeartbeats 1600000 in
theorem specRuleOk_any (kind : Int) (letter thn : ByteArray) (many : Int) (w : World) :
    Calls Try.prog 69 #[.agg #[.int .i64 kind, .string letter, .string thn, .int .i64 many]] w
      fun e w' => e = .returned (.bool (Ru.mk kind letter thn many).ok) ∧ Below w.heap.size w w' := by
  by_cases hl : letterOk letter = true
  · by_cases hk : kind = 2
    · subst hk
      by_cases ht : letterOk thn = true
      · have HE : Hid ((Ru.mk 2 letter thn many).ok = (many == 0)) := by
          have : (Ru.mk 2 letter thn many).ok = (many == 0) := by simp [Ru.ok, hl, ht]; rfl
          exact Lib.hid this
        go_enter Try.func69, Try.ntmps69
        go_wp2_with (first | (go_at_call 87; refine (specLetterOk_any _ _).mono ?_; rintro e w' ⟨rfl, rfl⟩) | (go_at_call 57; refine (l1In_any _ _ _ _).mono ?_; rintro e w' ⟨rfl, rfl⟩))
        go_ret
        exact ⟨ret_bool HE.out.symm, (Below.refl _ _).alloc (Nat.le_refl _) _⟩
      · have ht' : letterOk thn = false := by simpa using ht
        have HE : Hid ((Ru.mk 2 letter thn many).ok = false) := by
          have : (Ru.mk 2 letter thn many).ok = false := by simp [Ru.ok, ht']
          exact Lib.hid this
        clear ht
        go_enter Try.func69, Try.ntmps69
        go_wp2_with (first | (go_at_call 87; refine (specLetterOk_any _ _).mono ?_; rintro e w' ⟨rfl, rfl⟩) | (go_at_call 57; refine (l1In_any _ _ _ _).mono ?_; rintro e w' ⟨rfl, rfl⟩))
        go_ret
        exact ⟨ret_bool HE.out.symm, (Below.refl _ _).alloc (Nat.le_refl _) _⟩
    · rcases kind_cases kind with rfl | rfl | rfl | rfl | rfl | ⟨k0, k1, k2, k3, k4⟩
      · by_cases ht : thn = ⟨#[]⟩
        · subst ht
          have HE : Hid ((Ru.mk 0 letter ⟨#[]⟩ many).ok = (decide (0 ≤ many) && decide (many ≤ 4))) := by
            have : (Ru.mk 0 letter ⟨#[]⟩ many).ok = (decide (0 ≤ many) && decide (many ≤ 4)) := by simp [Ru.ok, hl, noThen, inB]
            exact Lib.hid this
          go_enter Try.func69, Try.ntmps69
          go_wp2_with (first | (go_at_call 87; refine (specLetterOk_any _ _).mono ?_; rintro e w' ⟨rfl, rfl⟩) | (go_at_call 57; refine (l1In_any _ _ _ _).mono ?_; rintro e w' ⟨rfl, rfl⟩))
          go_ret
          exact ⟨ret_bool HE.out.symm, (Below.refl _ _).alloc (Nat.le_refl _) _⟩
        · have ht' := toList_ne ht
          have HE : Hid ((Ru.mk 0 letter thn many).ok = false) := by
            have : (Ru.mk 0 letter thn many).ok = false := by simp [Ru.ok, noThen, ht]
            exact Lib.hid this
          go_enter Try.func69, Try.ntmps69
          go_wp2_with (first | (go_at_call 87; refine (specLetterOk_any _ _).mono ?_; rintro e w' ⟨rfl, rfl⟩) | (go_at_call 57; refine (l1In_any _ _ _ _).mono ?_; rintro e w' ⟨rfl, rfl⟩))
          go_ret
          exact ⟨ret_bool HE.out.symm, (Below.refl _ _).alloc (Nat.le_refl _) _⟩
      · by_cases ht : thn = ⟨#[]⟩
        · subst ht
          have HE : Hid ((Ru.mk 1 letter ⟨#[]⟩ many).ok = (decide (2 ≤ many) && decide (many ≤ 4))) := by
            have : (Ru.mk 1 letter ⟨#[]⟩ many).ok = (decide (2 ≤ many) && decide (many ≤ 4)) := by simp [Ru.ok, hl, noThen, inB]
            exact Lib.hid this
          go_enter Try.func69, Try.ntmps69
          go_wp2_with (first | (go_at_call 87; refine (specLetterOk_any _ _).mono ?_; rintro e w' ⟨rfl, rfl⟩) | (go_at_call 57; refine (l1In_any _ _ _ _).mono ?_; rintro e w' ⟨rfl, rfl⟩))
          go_ret
          exact ⟨ret_bool HE.out.symm, (Below.refl _ _).alloc (Nat.le_refl _) _⟩
        · have ht' := toList_ne ht
          have HE : Hid ((Ru.mk 1 letter thn many).ok = false) := by
            have : (Ru.mk 1 letter thn many).ok = false := by simp [Ru.ok, noThen, ht]
            exact Lib.hid this
          go_enter Try.func69, Try.ntmps69
          go_wp2_with (first | (go_at_call 87; refine (specLetterOk_any _ _).mono ?_; rintro e w' ⟨rfl, rfl⟩) | (go_at_call 57; refine (l1In_any _ _ _ _).mono ?_; rintro e w' ⟨rfl, rfl⟩))
          go_ret
          exact ⟨ret_bool HE.out.symm, (Below.refl _ _).alloc (Nat.le_refl _) _⟩
      · exact absurd rfl hk
      · by_cases ht : thn = ⟨#[]⟩
        · subst ht
          have HE : Hid ((Ru.mk 3 letter ⟨#[]⟩ many).ok = (decide (0 ≤ many) && decide (many ≤ 5))) := by
            have : (Ru.mk 3 letter ⟨#[]⟩ many).ok = (decide (0 ≤ many) && decide (many ≤ 5)) := by simp [Ru.ok, hl, noThen, inB]
            exact Lib.hid this
          go_enter Try.func69, Try.ntmps69
          go_wp2_with (first | (go_at_call 87; refine (specLetterOk_any _ _).mono ?_; rintro e w' ⟨rfl, rfl⟩) | (go_at_call 57; refine (l1In_any _ _ _ _).mono ?_; rintro e w' ⟨rfl, rfl⟩))
          go_ret
          exact ⟨ret_bool HE.out.symm, (Below.refl _ _).alloc (Nat.le_refl _) _⟩
        · have ht' := toList_ne ht
          have HE : Hid ((Ru.mk 3 letter thn many).ok = false) := by
            have : (Ru.mk 3 letter thn many).ok = false := by simp [Ru.ok, noThen, ht]
            exact Lib.hid this
          go_enter Try.func69, Try.ntmps69
          go_wp2_with (first | (go_at_call 87; refine (specLetterOk_any _ _).mono ?_; rintro e w' ⟨rfl, rfl⟩) | (go_at_call 57; refine (l1In_any _ _ _ _).mono ?_; rintro e w' ⟨rfl, rfl⟩))
          go_ret
          exact ⟨ret_bool HE.out.symm, (Below.refl _ _).alloc (Nat.le_refl _) _⟩
      · by_cases ht : thn = ⟨#[]⟩
        · subst ht
          have HE : Hid ((Ru.mk 4 letter ⟨#[]⟩ many).ok = (decide (1 ≤ many) && decide (many ≤ 5))) := by
            have : (Ru.mk 4 letter ⟨#[]⟩ many).ok = (decide (1 ≤ many) && decide (many ≤ 5)) := by simp [Ru.ok, hl, noThen, inB]
            exact Lib.hid this
          go_enter Try.func69, Try.ntmps69
          go_wp2_with (first | (go_at_call 87; refine (specLetterOk_any _ _).mono ?_; rintro e w' ⟨rfl, rfl⟩) | (go_at_call 57; refine (l1In_any _ _ _ _).mono ?_; rintro e w' ⟨rfl, rfl⟩))
          go_ret
          exact ⟨ret_bool HE.out.symm, (Below.refl _ _).alloc (Nat.le_refl _) _⟩
        · have ht' := toList_ne ht
          have HE : Hid ((Ru.mk 4 letter thn many).ok = false) := by
            have : (Ru.mk 4 letter thn many).ok = false := by simp [Ru.ok, noThen, ht]
            exact Lib.hid this
          go_enter Try.func69, Try.ntmps69
          go_wp2_with (first | (go_at_call 87; refine (specLetterOk_any _ _).mono ?_; rintro e w' ⟨rfl, rfl⟩) | (go_at_call 57; refine (l1In_any _ _ _ _).mono ?_; rintro e w' ⟨rfl, rfl⟩))
          go_ret
          exact ⟨ret_bool HE.out.symm, (Below.refl _ _).alloc (Nat.le_refl _) _⟩
      · have HE : Hid ((Ru.mk kind letter thn many).ok = false) := by
          have : (Ru.mk kind letter thn many).ok = false := by
            simp only [beq_eq_false_iff_ne] at k0 k1 k2 k3 k4
            simp [Ru.ok, k0, k1, k2, k3, k4]
          exact Lib.hid this
        clear hk
        go_enter Try.func69, Try.ntmps69
        go_wp2_with (first | (go_at_call 87; refine (specLetterOk_any _ _).mono ?_; rintro e w' ⟨rfl, rfl⟩) | (go_at_call 57; refine (l1In_any _ _ _ _).mono ?_; rintro e w' ⟨rfl, rfl⟩))
        go_ret
        exact ⟨ret_bool HE.out.symm, (Below.refl _ _).alloc (Nat.le_refl _) _⟩
  · have hl' : letterOk letter = false := by simpa using hl
    have HE := Lib.hid (letterOk_no hl' kind thn many)
    clear hl
    go_enter Try.func69, Try.ntmps69
    go_wp2_with (first | (go_at_call 87; refine (specLetterOk_any _ _).mono ?_; rintro e w' ⟨rfl, rfl⟩) | (go_at_call 57; refine (l1In_any _ _ _ _).mono ?_; rintro e w' ⟨rfl, rfl⟩))
    go_ret
    exact ⟨ret_bool HE.out.symm, (Below.refl _ _).alloc (Nat.le_refl _) _⟩

/-- how many bytes are left of a number -/
def szR (a b : Nat) (left : Int) : Int := if left - a < 0 then -1 else if left - a - b < 0 then -1 else left - a - b
theorem szR_bd {a b : Nat} {left : Int} (h : ¬ szR a b left < 0) : (a : Int) ≤ left ∧ (b : Int) ≤ left := by
  unfold szR at h
  split at h
  · omega
  · split at h <;> omega
theorem szRule_any (kind : Int) (letter thn : ByteArray) (many left : Int) (w : World) (h1 : letter.size ≤ maxLen) (h2 : thn.size ≤ maxLen) (h0 : 0 ≤ left) (hl : left ≤ 1048576) :
    Calls Try.prog 93 #[.agg #[.int .i64 kind, .string letter, .string thn, .int .i64 many], .int .i64 left] w
      fun e w' => e = .returned (.int .i64 (szR letter.size thn.size left)) ∧ Below w.heap.size w w' := by
  unfold maxLen at h1 h2
  by_cases ha : left - letter.size < 0
  · have HE : Hid (szR letter.size thn.size left = -1) := by
      have : szR letter.size thn.size left = -1 := by simp [szR, ha]
      exact Lib.hid this
    go_enter Try.func93, Try.ntmps93
    go_wp2_with fail
    go_ret
    exact ⟨ret_int HE.out.symm, (Below.refl _ _).alloc (Nat.le_refl _) _⟩
  · by_cases hb : left - letter.size - thn.size < 0
    · have HE : Hid (szR letter.size thn.size left = -1) := by
        have : szR letter.size thn.size left = -1 := by simp [szR, ha, hb]
        exact Lib.hid this
      go_enter Try.func93, Try.ntmps93
      go_wp2_with fail
      go_ret
      exact ⟨ret_int HE.out.symm, (Below.refl _ _).alloc (Nat.le_refl _) _⟩
    · have HE : Hid (szR letter.size thn.size left = left - letter.size - thn.size) := by
        have : szR letter.size thn.size left = left - letter.size - thn.size := by simp [szR, ha, hb]
        exact Lib.hid this
      go_enter Try.func93, Try.ntmps93
      go_wp2_with fail
      go_ret
      exact ⟨ret_int HE.out.symm, (Below.refl _ _).alloc (Nat.le_refl _) _⟩

theorem toRule_any (kind : Int) (letter thn : ByteArray) (many : Int) (w : World) :
    Calls Try.prog 94 #[.agg #[.int .i64 kind, .string letter, .string thn, .int .i64 many]] w
      fun e w' => e = .returned (.agg #[.int .i64 kind, .string letter, .string thn, .int .i64 many]) ∧ Below w.heap.size w w' := by
  go_enter Try.func94, Try.ntmps94
  go_wp2_with fail
  refine bodyPost_ret (v := .agg #[.int .i64 kind, .string letter, .string thn, .int .i64 many]) ?_ rfl ⟨rfl, (((Below.refl _ _).alloc (Nat.le_refl _) _).alloc (by simp) _).alloc (by simp; omega) _⟩
  simp [results, Try.results94, go_sem]
end Go.Proofs.Ytlbblfbiiceofaa
