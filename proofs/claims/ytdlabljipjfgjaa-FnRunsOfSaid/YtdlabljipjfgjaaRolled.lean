/- RolledBy and BackWord. -/
import Derived.Test.YtdlabljipjfgjaaWords
import Derived.Deep.QuietTactic
import Derived.BigQuiet
namespace Go.Proofs.Ytdlabljipjfgjaa
open Go.RowKit

theorem l1In_any (n lo hi : Int) (w : World) :
    Calls Try.prog 48 #[.int .i64 n, .int .i64 lo, .int .i64 hi] w fun e w' => e = .returned (.bool (decide (lo ≤ n) && decide (n ≤ hi))) ∧ w = w' := by
  by_cases h1 : lo ≤ n
  · by_cases h2 : n ≤ hi
    · go_enter Try.func48, Try.ntmps48
      go_wp2
      go_ret
      exact ⟨ret_bool (by simp; omega), rfl⟩
    · go_enter Try.func48, Try.ntmps48
      go_wp2
      go_ret
      exact ⟨ret_bool (by simp [h2]), rfl⟩
  · go_enter Try.func48, Try.ntmps48
    go_wp2
    go_ret
    exact ⟨ret_bool (by simp; omega), rfl⟩

theorem ret_pair {a b : ByteArray} {x y : Bool} (h : a = b) (g : x = y) : Ending.returned (.tuple #[.string a, .bool x]) = .returned (.tuple #[.string b, .bool y]) := by rw [h, g]
theorem ret_str {a b : ByteArray} (h : a = b) : Ending.returned (.string a) = .returned (.string b) := by rw [h]

theorem specRolledBy_any (s : ByteArray) (k : Int) (w : World) (hs : s.size ≤ maxLen) :
    Calls Try.prog 33 #[.string s, .int .i64 k] w fun e w' => e = .returned (.tuple #[.string (rolledStr s k), .bool (rolledOk s k)]) ∧ ∃ n, w' = w.drewN n := by
  by_cases hw : wordOk s = true
  · have h14 := wordOk_size hw
    by_cases hd : (decide ((0 : Int) ≤ k) && decide (k ≤ s.size)) = true
    · have hok : rolledOk s k = true := by simp only [rolledOk, hw, hd, Bool.and_self]
      obtain ⟨n, rfl⟩ : ∃ n : Nat, k = n := ⟨k.toNat, by simp at hd; omega⟩
      have hk : n ≤ s.size := by simp at hd; omega
      have HE := Lib.hid (rolledStr_yes s n hok)
      have HO := Lib.hid hok
      clear hok
      go_enter Try.func33, Try.ntmps33
      go_wp2_with (first | (go_at_call 13; refine (specWordOk_any _ _ hs).mono ?_; rintro e w' ⟨rfl, rfl⟩) | (go_at_call 48; refine (l1In_any _ _ _ _).mono ?_; rintro e w' ⟨rfl, rfl⟩))
      go_quiet (fail)
      go_wp2
      go_ret2
      exact ⟨ret_pair HE.out.symm HO.out.symm, _, rfl⟩
    · have hd' : (decide ((0 : Int) ≤ k) && decide (k ≤ s.size)) = false := by simpa using hd
      have hok : rolledOk s k = false := by simp only [rolledOk, hw, hd', Bool.and_false]
      have HE := Lib.hid (rolledStr_no s k hok)
      have HO := Lib.hid hok
      clear hok hd
      go_enter Try.func33, Try.ntmps33
      go_wp2_with (first | (go_at_call 13; refine (specWordOk_any _ _ hs).mono ?_; rintro e w' ⟨rfl, rfl⟩) | (go_at_call 48; refine (l1In_any _ _ _ _).mono ?_; rintro e w' ⟨rfl, rfl⟩))
      go_ret2
      exact ⟨ret_pair HE.out.symm HO.out.symm, 0, rfl⟩
  · have hw' : wordOk s = false := by simpa using hw
    have hok : rolledOk s k = false := by simp only [rolledOk, hw', Bool.false_and]
    have HE := Lib.hid (rolledStr_no s k hok)
    have HO := Lib.hid hok
    clear hok hw
    go_enter Try.func33, Try.ntmps33
    go_wp2_with (first | (go_at_call 13; refine (specWordOk_any _ _ hs).mono ?_; rintro e w' ⟨rfl, rfl⟩) | (go_at_call 48; refine (l1In_any _ _ _ _).mono ?_; rintro e w' ⟨rfl, rfl⟩))
    go_ret2
    exact ⟨ret_pair HE.out.symm HO.out.symm, 0, rfl⟩

theorem implRolledBy_any (s : ByteArray) (k : Int) (w : World) (hs : s.size ≤ maxLen) :
    Calls Try.prog 21 #[.string s, .int .i64 k] w fun e w' => e = .returned (.tuple #[.string (rolledStr s k), .bool (rolledOk s k)]) ∧ ∃ n, w' = w.drewN n := by
  by_cases hw : wordOk s = true
  · have h14 := wordOk_size hw
    by_cases h0 : 0 ≤ k
    · by_cases hk : k ≤ s.size
      · have hok : rolledOk s k = true := by simp only [rolledOk, hw]; simp; omega
        obtain ⟨n, rfl⟩ : ∃ n : Nat, k = n := ⟨k.toNat, by omega⟩
        have hk' : n ≤ s.size := by omega
        have HE := Lib.hid (rolledStr_yes s n hok)
        have HO := Lib.hid hok
        clear hok
        go_enter Try.func21, Try.ntmps21
        go_wp2_with (go_at_call 12; refine (implWordOk_any _ _ hs).mono ?_; rintro e w' ⟨rfl, rfl⟩)
        go_quiet (fail)
        go_wp2
        go_ret2
        exact ⟨ret_pair HE.out.symm HO.out.symm, _, rfl⟩
      · have hok : rolledOk s k = false := by simp only [rolledOk, hw]; simp; omega
        have HE := Lib.hid (rolledStr_no s k hok)
        have HO := Lib.hid hok
        clear hok
        go_enter Try.func21, Try.ntmps21
        go_wp2_with (go_at_call 12; refine (implWordOk_any _ _ hs).mono ?_; rintro e w' ⟨rfl, rfl⟩)
        go_ret2
        exact ⟨ret_pair HE.out.symm HO.out.symm, 0, rfl⟩
    · have hok : rolledOk s k = false := by simp only [rolledOk, hw]; simp; omega
      have HE := Lib.hid (rolledStr_no s k hok)
      have HO := Lib.hid hok
      clear hok
      go_enter Try.func21, Try.ntmps21
      go_wp2_with (go_at_call 12; refine (implWordOk_any _ _ hs).mono ?_; rintro e w' ⟨rfl, rfl⟩)
      go_ret2
      exact ⟨ret_pair HE.out.symm HO.out.symm, 0, rfl⟩
  · have hw' : wordOk s = false := by simpa using hw
    have hok : rolledOk s k = false := by simp only [rolledOk, hw', Bool.false_and]
    have HE := Lib.hid (rolledStr_no s k hok)
    have HO := Lib.hid hok
    clear hok hw
    go_enter Try.func21, Try.ntmps21
    go_wp2_with (go_at_call 12; refine (implWordOk_any _ _ hs).mono ?_; rintro e w' ⟨rfl, rfl⟩)
    go_ret2
    exact ⟨ret_pair HE.out.symm HO.out.symm, 0, rfl⟩

/-- 's[k:k+1]' -/
theorem slice_one (s : ByteArray) (k : Nat) (h : k < s.size) (w : World) :
    (Instr.slice 9 (.string s) (some (.int .i64 (k : Int))) (some (.int .i64 ((k : Int) + 1))) none).run Try.prog w = .ok (.string (s.extract k (k + 1))) w := by
  have := run_slice_string (P := Try.prog) (w := w) 9 s .i64 .i64 (k : Int) ((k : Int) + 1) Try.underlying9 (by omega) (by omega) (by omega)
  rw [this, show ((k : Int) + 1).toNat = k + 1 from by omega, Int.toNat_natCast]

set_option maxHeartbeats 400000 in
theorem specBackWord_any (s : ByteArray) (w : World) (hs : s.size ≤ maxLen) :
    Calls Try.prog 31 #[.string s] w fun e w' => e = .returned (.string (backStr s)) ∧ w = w' := by
  by_cases hw : wordOk s = true
  · have h14 := wordOk_size hw
    have HE : Hid (backStr s = backFrom s 0) := by have : backStr s = backFrom s 0 := by simp [backStr, hw]
                                                   exact Lib.hid this
    go_enter Try.func31, Try.ntmps31
    go_wp2
    go_loop [3, 4] (fun o i => ∃ k : Nat, k ≤ s.size ∧ i = .int .i64 ((k : Int) - 1) ∧ o = .string (backFrom s k)) (fun _ i => (intOf i + 1).toNat)
    case atStart => exact ⟨s.size, Nat.le_refl _, rfl, by rw [backFrom_all]⟩
    case round =>
      obtain ⟨k, hk, rfl, rfl⟩ := hrel
      cases k with
      | zero =>
        go_wp2_with (go_at_call 13; refine (specWordOk_any _ _ hs).mono ?_; rintro e w' ⟨rfl, rfl⟩)
        go_ret
        exact ⟨ret_str HE.out.symm, rfl⟩
      | succ k =>
        have HB := Lib.hid (backFrom_step s k (by omega))
        have hsl := fun w => slice_one s k (by omega) w
        have hsz : (backFrom s (k + 1)).size ≤ 14 := by rw [backFrom_size]; omega
        have e1 : ((k + 1 : Nat) : Int) - 1 = k := by omega
        rw [e1]
        clear e1
        go_wp2_with (go_at_call 13; refine (specWordOk_any _ _ hs).mono ?_; rintro e w' ⟨rfl, rfl⟩)
        go_round
        case rel => exact ⟨k, by omega, rfl, by rw [← HB.out]⟩
        case measure => simp [intOf]
  · have hw' : wordOk s = false := by simpa using hw
    have HE : Hid (backStr s = ⟨#[]⟩) := by have : backStr s = ⟨#[]⟩ := by simp [backStr, hw']
                                            exact Lib.hid this
    have hs' := hs
    unfold maxLen at hs
    clear hw
    go_enter Try.func31, Try.ntmps31
    go_wp2
    go_loop [3, 4] (fun o i => o = .string ⟨#[]⟩ ∧ i = .int .i64 ((s.size : Int) - 1)) (fun _ i => (intOf i + 1).toNat)
    case atStart => exact ⟨rfl, rfl⟩
    case round =>
      obtain ⟨rfl, rfl⟩ := hrel
      by_cases h0 : 0 ≤ (s.size : Int) - 1
      · go_wp2_with (go_at_call 13; refine (specWordOk_any _ _ hs').mono ?_; rintro e w' ⟨rfl, rfl⟩)
        go_ret
        exact ⟨ret_str HE.out.symm, rfl⟩
      · go_wp2_with (go_at_call 13; refine (specWordOk_any _ _ hs').mono ?_; rintro e w' ⟨rfl, rfl⟩)
        go_ret
        exact ⟨ret_str HE.out.symm, rfl⟩
end Go.Proofs.Ytdlabljipjfgjaa
