/- RolledBy and BackWord. -/
import Derived.Test.YtjdeahdngpccpaaWords
import Derived.Deep.QuietTactic
import Derived.BigQuiet
namespace Go.Proofs.Ytjdeahdngpccpaa
open Go.RowKit

theorem l1In_any (n lo hi : Int) (w : World) :
    Calls Try.prog 66 #[.int .i64 n, .int .i64 lo, .int .i64 hi] w fun e w' => e = .returned (.bool (decide (lo ≤ n) && decide (n ≤ hi))) ∧ w = w' := by
  by_cases h1 : lo ≤ n
  · by_cases h2 : n ≤ hi
    · go_enter Try.func66, Try.ntmps66
      go_wp2
      go_ret
      exact ⟨ret_bool (by simp; omega), rfl⟩
    · go_enter Try.func66, Try.ntmps66
      go_wp2
      go_ret
      exact ⟨ret_bool (by simp [h2]), rfl⟩
  · go_enter Try.func66, Try.ntmps66
    go_wp2
    go_ret
    exact ⟨ret_bool (by simp; omega), rfl⟩

theorem ret_pair {a b : ByteArray} {x y : Bool} (h : a = b) (g : x = y) : Ending.returned (.tuple #[.string a, .bool x]) = .returned (.tuple #[.string b, .bool y]) := by rw [h, g]
theorem ret_str {a b : ByteArray} (h : a = b) : Ending.returned (.string a) = .returned (.string b) := by rw [h]

theorem implRolledBy_any (s : ByteArray) (k : Int) (w : World) (hs : s.size ≤ maxLen) :
    Calls Try.prog 133 #[.string s, .int .i64 k] w fun e w' => e = .returned (.tuple #[.string (rolledStr s k), .bool (rolledOk s k)]) ∧ ∃ n, w' = w.drewN n := by
  by_cases hw : wordOk s = true
  · have h14 := wordOk_size hw
    by_cases h0 : 0 ≤ k
    · by_cases hk : k ≤ s.size
      · have hok : rolledOk s k = true := by simp only [rolledOk, hw]; simp; omega
        obtain ⟨n, rfl⟩ : ∃ n : Nat, k = n := ⟨k.toNat, by omega⟩
        have hk' : n ≤ s.size := by omega
        have HE := Lib.hid (rolledStr_yes s n hok)
        have HO := Lib.hid hok
        clear hok
        go_enter Try.func133, Try.ntmps133
        go_wp2_with (go_at_call 67; refine (implWordOk_any _ _ hs).mono ?_; rintro e w' ⟨rfl, rfl⟩)
        go_quiet (fail)
        go_wp2
        go_ret2
        exact ⟨ret_pair HE.out.symm HO.out.symm, _, rfl⟩
      · have hok : rolledOk s k = false := by simp only [rolledOk, hw]; simp; omega
        have HE := Lib.hid (rolledStr_no s k hok)
        have HO := Lib.hid hok
        clear hok
        go_enter Try.func133, Try.ntmps133
        go_wp2_with (go_at_call 67; refine (implWordOk_any _ _ hs).mono ?_; rintro e w' ⟨rfl, rfl⟩)
        go_ret2
        exact ⟨ret_pair HE.out.symm HO.out.symm, 0, rfl⟩
    · have hok : rolledOk s k = false := by simp only [rolledOk, hw]; simp; omega
      have HE := Lib.hid (rolledStr_no s k hok)
      have HO := Lib.hid hok
      clear hok
      go_enter Try.func133, Try.ntmps133
      go_wp2_with (go_at_call 67; refine (implWordOk_any _ _ hs).mono ?_; rintro e w' ⟨rfl, rfl⟩)
      go_ret2
      exact ⟨ret_pair HE.out.symm HO.out.symm, 0, rfl⟩
  · have hw' : wordOk s = false := by simpa using hw
    have hok : rolledOk s k = false := by simp only [rolledOk, hw', Bool.false_and]
    have HE := Lib.hid (rolledStr_no s k hok)
    have HO := Lib.hid hok
    clear hok hw
    go_enter Try.func133, Try.ntmps133
    go_wp2_with (go_at_call 67; refine (implWordOk_any _ _ hs).mono ?_; rintro e w' ⟨rfl, rfl⟩)
    go_ret2
    exact ⟨ret_pair HE.out.symm HO.out.symm, 0, rfl⟩

/-- 's[k:k+1]' -/
theorem slice_one (s : ByteArray) (k : Nat) (h : k < s.size) (w : World) :
    (Instr.slice 9 (.string s) (some (.int .i64 (k : Int))) (some (.int .i64 ((k : Int) + 1))) none).run Try.prog w = .ok (.string (s.extract k (k + 1))) w := by
  have := run_slice_string (P := Try.prog) (w := w) 9 s .i64 .i64 (k : Int) ((k : Int) + 1) Try.underlying9 (by omega) (by omega) (by omega)
  rw [this, show ((k : Int) + 1).toNat = k + 1 from by omega, Int.toNat_natCast]

end Go.Proofs.Ytjdeahdngpccpaa
