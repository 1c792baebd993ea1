/- Numbers of letters that are counted as rings. No condition. -/
import Derived.Test.YtpcependeealfaaRingMath
import Derived.Test.YtpcependeealfaaWords
namespace Go.Proofs.Ytpcependeealfaa
open Go.RowKit

theorem ringNum_nat {n : Int} (h : ringNum n = true) : ∃ r : Nat, n = (r : Int) + 1 ∧ r ≤ 5 := by
  simp only [ringNum, Bool.and_eq_true, decide_eq_true_eq] at h
  exact ⟨(n - 1).toNat, by omega, by omega⟩
theorem ringLettersOk_any (n : Int) (w : World) : Calls Try.prog 100 #[.int .i64 n] w fun e w' => e = .returned (.bool (ringNum n)) ∧ w = w' := by
  by_cases h1 : 1 ≤ n
  · by_cases h2 : n ≤ 6
    · have H : Hid (ringNum n = true) := Lib.hid (by rw [ringNum, decide_eq_true h1, decide_eq_true h2]; rfl)
      go_enter Try.func100, Try.ntmps100
      go_wp2_with fail
      go_ret
      exact ⟨ret_bool H.out.symm, rfl⟩
    · have H : Hid (ringNum n = false) := Lib.hid (by rw [ringNum, decide_eq_false h2, Bool.and_false])
      go_enter Try.func100, Try.ntmps100
      go_wp2_with fail
      go_ret
      exact ⟨ret_bool H.out.symm, rfl⟩
  · have H : Hid (ringNum n = false) := Lib.hid (by rw [ringNum, decide_eq_false h1, Bool.false_and])
    go_enter Try.func100, Try.ntmps100
    go_wp2_with fail
    go_ret
    exact ⟨ret_bool H.out.symm, rfl⟩
end Go.Proofs.Ytpcependeealfaa
