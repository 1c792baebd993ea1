/- The contracts of chapter 1's functions that only look at words: what each returns, for every input. -/
import Derived.Test.YthdpeholeelhdaaMath
import Derived.Test.YthdpeholeelhdaaShelf
import Derived.Outline
namespace Go.Proofs.Ythdpeholeelhdaa
open Go.RowKit

theorem ret_bool {a b : Bool} (h : a = b) : Ending.returned (.bool a) = .returned (.bool b) := by rw [h]
theorem ret_int {a b : Int} (h : a = b) : Ending.returned (.int .i64 a) = .returned (.int .i64 b) := by rw [h]

/-- what strings.IndexByte finds in "rdn": a number below 0 just if the byte is no letter -/
theorem idx_neg (c : UInt8) : Lib.indexByte [114, 100, 110] c < 0 ↔ isL c = false := by
  have h : ∀ n : Nat, n < 256 → (Lib.indexByte [114, 100, 110] (UInt8.ofNat n) < 0 ↔ isL (UInt8.ofNat n) = false) := by decide +kernel
  have := h c.toNat c.toNat_lt
  rwa [UInt8.ofNat_toNat] at this

set_option maxHeartbeats 400000 in
theorem implWordOk_any (s : ByteArray) (w : World) (hs : s.size ≤ maxLen) :
    Calls Try.prog 54 #[.string s] w fun e w' => e = .returned (.bool (wordOk s)) ∧ w = w' := by
  unfold maxLen at hs
  by_cases h14 : 14 < s.size
  · have hw : wordOk s = false := by simp [wordOk]; omega
    have HW := Lib.hid hw
    clear hw
    go_enter Try.func54, Try.ntmps54
    go_wp2
    go_ret
    exact ⟨ret_bool HW.out.symm, rfl⟩
  · go_enter Try.func54, Try.ntmps54
    go_wp2
    go_loop [3, 9] (fun _ i => ∃ k : Nat, k ≤ s.size ∧ i = .int .i64 k ∧ allL (s.data.toList.take k) = true) (fun _ i => s.size - (intOf i).toNat)
    case atStart => exact ⟨0, Nat.zero_le _, rfl, rfl⟩
    case round =>
      obtain ⟨k, hk, rfl, ha⟩ := hrel
      have HA := Lib.hid ha
      clear ha
      by_cases hlt : k < s.size
      · have hl := idx_neg s[k]
        have hix : (s[k].toNat : Int).toNat.toUInt8 = s[k] := by simp
        by_cases hb : isL s[k] = true
        · have hb' : ¬ Lib.indexByte [114, 100, 110] s[k] < 0 := by rw [hl, hb]; simp
          have HB := Lib.hid hb
          clear hb hl
          go_wp2_with (go_at_call 68; refine (strings_IndexByte _ _ _).mono ?_; rintro e w' ⟨rfl, rfl⟩)
          go_round
          case rel => exact ⟨k + 1, by omega, by go_num, by rw [allL_snoc s k hlt, HA.out, HB.out]; rfl⟩
          case measure => simp [intOf]; omega
        · have hb0 : isL s[k] = false := by simpa using hb
          have hb' : Lib.indexByte [114, 100, 110] s[k] < 0 := hl.2 hb0
          have hw : wordOk s = false := by simp [wordOk, allL_false s k hlt hb0]
          have HW := Lib.hid hw
          clear hb hb0 hl hw
          go_wp2_with (go_at_call 68; refine (strings_IndexByte _ _ _).mono ?_; rintro e w' ⟨rfl, rfl⟩)
          go_ret
          exact ⟨ret_bool HW.out.symm, rfl⟩
      · obtain rfl : k = s.size := by omega
        have hw : wordOk s = true := by
          have := HA.out
          rw [allL_take_all] at this
          simp [wordOk, this]; omega
        have HW := Lib.hid hw
        clear hw
        go_wp2
        go_ret
        exact ⟨ret_bool HW.out.symm, rfl⟩

end Go.Proofs.Ythdpeholeelhdaa
