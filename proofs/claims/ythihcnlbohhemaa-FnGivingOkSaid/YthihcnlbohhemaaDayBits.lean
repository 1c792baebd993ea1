/- Small sets as numbers: what the program and the model do with their bits. No condition. -/
import Derived.Test.YthihcnlbohhemaaLackMath
import Derived.Test.YthihcnlbohhemaaRolled
namespace Go.Proofs.Ythihcnlbohhemaa
open Go.RowKit

theorem pc_step (s : Nat) (h : s < 64) : pc s = s % 2 + pc (s / 2) := by
  have : ∀ n : Nat, n < 64 → pc n = n % 2 + pc (n / 2) := by decide +kernel
  exact this s h
set_option maxHeartbeats 400000 in
theorem l8Bits_any (s : Nat) (w : World) (hs : s < 64) :
    Calls Try.prog 103 #[.int .i64 s] w fun e w' => e = .returned (.int .i64 (pc s)) ∧ w' = w := by
  go_enter Try.func103, Try.ntmps103
  go_wp2
  go_loop [0, 3] (fun i c => ∃ (x : Nat) (n : Nat), i = .int .i64 x ∧ c = .int .i64 n ∧ x ≤ s ∧ n + pc x = pc s ∧ pc x ≤ 6 ∧ n ≤ 6) (fun i _ => (intOf i).toNat)
  case atStart => exact ⟨s, 0, rfl, rfl, Nat.le_refl _, by omega, cnt_le _ _, by omega⟩
  case round =>
    obtain ⟨x, n, rfl, rfl, hx, hp, hq, hn⟩ := hrel
    by_cases h0 : 0 < x
    · have h1 : ((x : Nat) : Int).tmod 2 = ((x % 2 : Nat) : Int) := by rw [Int.tmod_eq_emod_of_nonneg (by omega)]; omega
      have h2 : ((x : Nat) : Int).tdiv 2 = ((x / 2 : Nat) : Int) := by rw [Int.tdiv_eq_ediv_of_nonneg (by omega)]; omega
      have HS := Lib.hid (pc_step x (by omega))
      have HP := Lib.hid hp
      have HQ := Lib.hid hq
      have h0' : (0 : Int) < (x : Int) := by omega
      clear hp hq
      go_wp2
      go_round
      case rel => exact ⟨x / 2, n + x % 2, by go_num, by go_num, by omega, by have := HS.out; have := HP.out; omega, cnt_le _ _, by have := HS.out; have := HP.out; have : pc s ≤ 6 := cnt_le _ _; omega⟩
      case measure => simp [intOf]; omega
    · obtain rfl : x = 0 := by omega
      have h3 : pc 0 = 0 := by decide
      have HE : Hid (n = pc s) := by have : n = pc s := by omega
                                     exact Lib.hid this
      clear hp hq h3
      go_wp2
      go_ret
      exact ⟨ret_int (by rw [HE.out]), rfl⟩

theorem and_one (t : Nat) (h : t < 64) : (bits BinOp.and IntKind.i64 (t : Int) 1 == 1) = decide (t % 2 = 1) := by
  have : ∀ n : Nat, n < 64 → (bits BinOp.and IntKind.i64 (n : Int) 1 == 1) = decide (n % 2 = 1) := by decide +kernel
  exact this t h
theorem div_pow (s p : Nat) : (s : Int) / 2 ^ p = ((s / 2 ^ p : Nat) : Int) := by
  rw [Int.natCast_ediv, Int.natCast_pow]; rfl
theorem shr_bit (s p : Nat) : ((s : Int) / 2 ^ p).tmod 2 = if s.testBit p = true then 1 else 0 := by
  rw [div_pow, Int.tmod_eq_emod_of_nonneg (Int.natCast_nonneg _), Nat.testBit_eq_decide_div_mod_eq]
  generalize s / 2 ^ p = t
  by_cases h : t % 2 = 1
  · simp [h]; omega
  · simp [h]; omega
/-- what is in one set and not in the other -/
def andn (c t : Nat) : Nat := c ^^^ (c &&& t)
theorem andn_bit (c t p : Nat) : (andn c t).testBit p = (c.testBit p && !t.testBit p) := by
  rw [andn, Nat.testBit_xor, Nat.testBit_and]; cases c.testBit p <;> cases t.testBit p <;> rfl
theorem andNot_is (c t : Nat) (hc : c < 64) (ht : t < 64) : bits BinOp.andNot IntKind.i64 (c : Int) (t : Int) = ((andn c t : Nat) : Int) ∧ andn c t < 64 := by
  have : ∀ c : Nat, c < 64 → ∀ t : Nat, t < 64 → bits BinOp.andNot IntKind.i64 (c : Int) (t : Int) = ((andn c t : Nat) : Int) ∧ andn c t < 64 := by decide +kernel
  exact this c hc t ht
theorem or_is (c t : Nat) (hc : c < 64) (ht : t < 64) : bits BinOp.or IntKind.i64 (c : Int) (t : Int) = ((c ||| t : Nat) : Int) := by
  have : ∀ c : Nat, c < 64 → ∀ t : Nat, t < 64 → bits BinOp.or IntKind.i64 (c : Int) (t : Int) = ((c ||| t : Nat) : Int) := by decide +kernel
  exact this c hc t ht
theorem or_pow (c p : Nat) (hc : c < 64) (hp : p < 6) : bits BinOp.or IntKind.i64 (c : Int) (2 ^ p) = ((c ||| 2 ^ p : Nat) : Int) ∧ c ||| 2 ^ p < 64 := by
  have h2 : 2 ^ p < 2 ^ 6 := Nat.pow_lt_pow_right (by omega) hp
  have := or_is c (2 ^ p) hc (by omega)
  rw [Int.natCast_pow] at this
  exact ⟨this, Nat.or_lt_two_pow (n := 6) (by omega) h2⟩

theorem inSet_any (s p : Nat) (w : World) (hs : s < 64) (hp : p < 64) :
    Calls Try.prog 106 #[.int .i64 s, .int .i64 p] w fun e w' => e = .returned (.bool (s.testBit p)) ∧ w' = w := by
  go_enter Try.func106, Try.ntmps106
  go_wp2
  go_ret
  refine ⟨ret_bool ?_, rfl⟩
  have : s / 2 ^ p ≤ s := Nat.div_le_self _ _
  rw [div_pow, and_one _ (by omega), Nat.testBit_eq_decide_div_mod_eq]

set_option maxRecDepth 100000 in
theorem sizeOf_any (s : Nat) (w : World) (hs : s < 64) :
    Calls Try.prog 128 #[.int .i64 s] w fun e w' => e = .returned (.int .i64 (pc s)) ∧ w' = w := by
  go_enter Try.func128, Try.ntmps128
  go_wp2
  go_ret
  refine ⟨ret_int ?_, rfl⟩
  rename_i h
  clear h
  clear w
  revert s
  decide +kernel
end Go.Proofs.Ythihcnlbohhemaa
