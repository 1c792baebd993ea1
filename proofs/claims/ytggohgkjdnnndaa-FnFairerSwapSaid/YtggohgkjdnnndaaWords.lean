/- The contracts of chapter 1's functions that only look at words: what each returns, for every input. -/
import Derived.Test.YtggohgkjdnnndaaMath
import Derived.Test.YtggohgkjdnnndaaShelf
import Derived.Outline
namespace Go.Proofs.Ytggohgkjdnnndaa
open Go.RowKit

theorem ret_bool {a b : Bool} (h : a = b) : Ending.returned (.bool a) = .returned (.bool b) := by rw [h]
theorem ret_int {a b : Int} (h : a = b) : Ending.returned (.int .i64 a) = .returned (.int .i64 b) := by rw [h]

theorem l1Letter_any (c : Int) (w : World) :
    Calls Try.prog 78 #[.int .u8 c] w fun e w' => e = .returned (.int .i64 (letterOf c)) ∧ w = w' := by
  by_cases h1 : c = 114
  · subst h1
    go_enter Try.func78, Try.ntmps78
    go_wp2
    go_ret
    exact ⟨rfl, rfl⟩
  · by_cases h2 : c = 100
    · subst h2
      go_enter Try.func78, Try.ntmps78
      go_wp2
      go_ret
      exact ⟨rfl, rfl⟩
    · by_cases h3 : c = 110
      · subst h3
        go_enter Try.func78, Try.ntmps78
        go_wp2
        go_ret
        exact ⟨rfl, rfl⟩
      · have e1 : (c == 114) = false := by simpa using h1
        have e2 : (c == 100) = false := by simpa using h2
        have e3 : (c == 110) = false := by simpa using h3
        have e : letterOf c = -1 := by simp [letterOf, h1, h2, h3]
        rw [e]
        clear e h1 h2 h3
        go_enter Try.func78, Try.ntmps78
        go_wp2
        go_ret
        exact ⟨rfl, rfl⟩

set_option maxHeartbeats 400000 in
theorem specWordOk_any (s : ByteArray) (w : World) (hs : s.size ≤ maxLen) :
    Calls Try.prog 75 #[.string s] w fun e w' => e = .returned (.bool (wordOk s)) ∧ w = w' := by
  unfold maxLen at hs
  go_enter Try.func75, Try.ntmps75
  go_wp2
  go_loop [3] (fun i => ∃ k : Nat, k ≤ s.size ∧ i = .int .i64 k ∧ allL (s.data.toList.take k) = true) (fun i => s.size - (intOf i).toNat)
  case atStart => exact ⟨0, Nat.zero_le _, rfl, rfl⟩
  case round =>
    obtain ⟨k, hk, rfl, ha⟩ := hrel
    have HA := Lib.hid ha
    clear ha
    by_cases hlt : k < s.size
    · have hl := letter_neg s[k]
      by_cases hb : isL s[k] = true
      · have hb' : ¬ letterOf (s[k].toNat : Int) < 0 := by rw [hl, hb]; simp
        have HB := Lib.hid hb
        clear hb hl
        go_wp2_with (go_at_call 78; refine (l1Letter_any _ _).mono ?_; rintro e w' ⟨rfl, rfl⟩)
        go_round
        case rel => exact ⟨k + 1, by omega, by go_num, by rw [allL_snoc s k hlt, HA.out, HB.out]; rfl⟩
        case measure => simp [intOf]; omega
      · have hb0 : isL s[k] = false := by simpa using hb
        have hb' : letterOf (s[k].toNat : Int) < 0 := hl.2 hb0
        have hw : wordOk s = false := by simp [wordOk, allL_false s k hlt hb0]
        have HW := Lib.hid hw
        clear hb hb0 hl hw
        go_wp2_with (go_at_call 78; refine (l1Letter_any _ _).mono ?_; rintro e w' ⟨rfl, rfl⟩)
        go_ret
        exact ⟨ret_bool HW.out.symm, rfl⟩
    · obtain rfl : k = s.size := by omega
      have hw : wordOk s = decide ((s.size : Int) ≤ 14) := by
        have := HA.out
        rw [allL_take_all] at this
        simp [wordOk, this]; omega
      have HW := Lib.hid hw
      clear hw
      go_wp2
      go_ret
      exact ⟨ret_bool HW.out.symm, rfl⟩

/-- what strings.IndexByte finds in "rdn": a number below 0 just if the byte is no letter -/
theorem idx_neg (c : UInt8) : Lib.indexByte [114, 100, 110] c < 0 ↔ isL c = false := by
  have h : ∀ n : Nat, n < 256 → (Lib.indexByte [114, 100, 110] (UInt8.ofNat n) < 0 ↔ isL (UInt8.ofNat n) = false) := by decide +kernel
  have := h c.toNat c.toNat_lt
  rwa [UInt8.ofNat_toNat] at this

set_option maxHeartbeats 400000 in
theorem implWordOk_any (s : ByteArray) (w : World) (hs : s.size ≤ maxLen) :
    Calls Try.prog 52 #[.string s] w fun e w' => e = .returned (.bool (wordOk s)) ∧ w = w' := by
  unfold maxLen at hs
  by_cases h14 : 14 < s.size
  · have hw : wordOk s = false := by simp [wordOk]; omega
    have HW := Lib.hid hw
    clear hw
    go_enter Try.func52, Try.ntmps52
    go_wp2
    go_ret
    exact ⟨ret_bool HW.out.symm, rfl⟩
  · go_enter Try.func52, Try.ntmps52
    go_wp2
    go_loop [3, 9] (fun _ i => ∃ k : Nat, k ≤ s.size ∧ i = .int .i64 k ∧ allL (s.data.toList.take k) = true) (fun _ i => s.size - (intOf i).toNat)
    case atStart => exact ⟨0, Nat.zero_le _, rfl, rfl⟩
    case round =>
      obtain ⟨k, hk, rfl, ha⟩ := hrel
      have HA := Lib.hid ha
      clear ha
      by_cases hlt : k < s.size
      · have hl := idx_neg s[k]
        have hix : (s[k].toNat : Int).toNat.toUInt8 = s[k] := by simp
        by_cases hb : isL s[k] = true
        · have hb' : ¬ Lib.indexByte [114, 100, 110] s[k] < 0 := by rw [hl, hb]; simp
          have HB := Lib.hid hb
          clear hb hl
          go_wp2_with (go_at_call 76; refine (strings_IndexByte _ _ _).mono ?_; rintro e w' ⟨rfl, rfl⟩)
          go_round
          case rel => exact ⟨k + 1, by omega, by go_num, by rw [allL_snoc s k hlt, HA.out, HB.out]; rfl⟩
          case measure => simp [intOf]; omega
        · have hb0 : isL s[k] = false := by simpa using hb
          have hb' : Lib.indexByte [114, 100, 110] s[k] < 0 := hl.2 hb0
          have hw : wordOk s = false := by simp [wordOk, allL_false s k hlt hb0]
          have HW := Lib.hid hw
          clear hb hb0 hl hw
          go_wp2_with (go_at_call 76; refine (strings_IndexByte _ _ _).mono ?_; rintro e w' ⟨rfl, rfl⟩)
          go_ret
          exact ⟨ret_bool HW.out.symm, rfl⟩
      · obtain rfl : k = s.size := by omega
        have hw : wordOk s = true := by
          have := HA.out
          rw [allL_take_all] at this
          simp [wordOk, this]; omega
        have HW := Lib.hid hw
        clear hw
        go_wp2
        go_ret
        exact ⟨ret_bool HW.out.symm, rfl⟩

theorem specLetterOk_any (s : ByteArray) (w : World) :
    Calls Try.prog 68 #[.string s] w fun e w' => e = .returned (.bool (letterOk s)) ∧ w = w' := by
  by_cases h1 : s.size = 1
  · have hlt : 0 < s.size := by omega
    have hl := letter_neg (s[0])
    have HL := Lib.hid (letterOk_one s h1 hlt)
    have h1' : ((s.size : Int) == 1) = true := by simp [h1]
    clear h1
    by_cases hb : isL (s[0]) = true
    · have hb' : ¬ letterOf (s[0].toNat : Int) < 0 := by rw [hl, hb]; simp
      have hb'' : 0 ≤ letterOf (s[0].toNat : Int) := by omega
      have HB := Lib.hid hb
      clear hb hl
      go_enter Try.func68, Try.ntmps68
      go_wp2_with (go_at_call 78; refine (l1Letter_any _ _).mono ?_; rintro e w' ⟨rfl, rfl⟩)
      go_ret
      exact ⟨ret_bool (by rw [HL.out, HB.out]), rfl⟩
    · have hb0 : isL s[0] = false := by simpa using hb
      have hb' : letterOf (s[0].toNat : Int) < 0 := hl.2 hb0
      have hb'' : ¬ 0 ≤ letterOf (s[0].toNat : Int) := by omega
      have HB := Lib.hid hb0
      clear hb hb0 hl
      go_enter Try.func68, Try.ntmps68
      go_wp2_with (go_at_call 78; refine (l1Letter_any _ _).mono ?_; rintro e w' ⟨rfl, rfl⟩)
      go_ret
      exact ⟨ret_bool (by rw [HL.out, HB.out]; simpa using hb'), rfl⟩
  · have h1' : ((s.size : Int) == 1) = false := by simp; omega
    have HL := Lib.hid (letterOk_not s h1')
    go_enter Try.func68, Try.ntmps68
    go_wp2
    go_ret
    exact ⟨ret_bool HL.out.symm, rfl⟩

theorem implLetterOk_any (s : ByteArray) (w : World) (hs : s.size ≤ maxLen) :
    Calls Try.prog 53 #[.string s] w fun e w' => e = .returned (.bool (letterOk s)) ∧ w = w' := by
  have hs' := hs
  unfold maxLen at hs
  by_cases h1 : s.size = 1
  · have h1' : ((s.size : Int) == 1) = true := by simp [h1]
    have HL : Hid (letterOk s = wordOk s) := by have : letterOk s = wordOk s := by simp [letterOk, h1]
                                                exact Lib.hid this
    clear h1
    go_enter Try.func53, Try.ntmps53
    go_wp2_with (go_at_call 52; refine (implWordOk_any _ _ hs').mono ?_; rintro e w' ⟨rfl, rfl⟩)
    go_ret
    exact ⟨ret_bool HL.out.symm, rfl⟩
  · have h1' : ((s.size : Int) == 1) = false := by simp; omega
    have HL := Lib.hid (letterOk_not s h1')
    go_enter Try.func53, Try.ntmps53
    go_wp2
    go_ret
    exact ⟨ret_bool HL.out.symm, rfl⟩
end Go.Proofs.Ytggohgkjdnnndaa
