/- The contracts of RuleOk on both sides, and of what the laws of rules need around. No condition. -/
import Derived.Test.YtlbblfbiiceofaaRuleMath
import Derived.Test.YtlbblfbiiceofaaWords
import Derived.Test.YtlbblfbiiceofaaFrame
namespace Go.Proofs.Ytlbblfbiiceofaa
open Go.RowKit

theorem letterOk_no {t : ByteArray} (h : letterOk t = false) (kind : Int) (thn : ByteArray) (many : Int) : (Ru.mk kind t thn many).ok = false := by simp [Ru.ok, h]

/-- the six ways of a kind -/
theorem kind_cases (k : Int) : k = 0 ∨ k = 1 ∨ k = 2 ∨ k = 3 ∨ k = 4 ∨ ((k == 0) = false ∧ (k == 1) = false ∧ (k == 2) = false ∧ (k == 3) = false ∧ (k == 4) = false) := by
  simp only [beq_eq_false_iff_ne]
  omega

theorem results_t3 {fn : Func} {t u v : Tmp} (h : fn.results = #[.tmp t, .tmp u, .tmp v]) (tmps : Array Value) (P : Program) (w : World) : (results fn tmps).run P w = .ok (.tuple #[tmps.getD t undef, tmps.getD u undef, tmps.getD v undef]) w := by
  simp [results, h]
def boundsK (kind : Int) : Int × Int × Bool := if kind = 0 then (0, 4, true) else if kind = 1 then (2, 4, true) else if kind = 3 then (0, 5, true) else if kind = 4 then (1, 5, true) else (0, 0, false)
theorem bounds_any (kind : Int) (w : World) :
    Calls Try.prog 105 #[.int .i64 kind] w fun e w' => e = .returned (.tuple #[.int .i64 (boundsK kind).1, .int .i64 (boundsK kind).2.1, .bool (boundsK kind).2.2]) ∧ w = w' := by
  rcases kind_cases kind with rfl | rfl | rfl | rfl | rfl | ⟨h0, h1, h2, h3, h4⟩
  · go_enter Try.func105, Try.ntmps105
    go_wp2
    refine bodyPost_ret (results_t3 rfl _ _ _) rfl ?_
    exact ⟨rfl, rfl⟩
  · go_enter Try.func105, Try.ntmps105
    go_wp2
    refine bodyPost_ret (results_t3 rfl _ _ _) rfl ?_
    exact ⟨rfl, rfl⟩
  · go_enter Try.func105, Try.ntmps105
    go_wp2
    refine bodyPost_ret (results_t3 rfl _ _ _) rfl ?_
    exact ⟨rfl, rfl⟩
  · go_enter Try.func105, Try.ntmps105
    go_wp2
    refine bodyPost_ret (results_t3 rfl _ _ _) rfl ?_
    exact ⟨rfl, rfl⟩
  · go_enter Try.func105, Try.ntmps105
    go_wp2
    refine bodyPost_ret (results_t3 rfl _ _ _) rfl ?_
    exact ⟨rfl, rfl⟩
  · have e : boundsK kind = (0, 0, false) := by
      simp only [beq_eq_false_iff_ne] at h0 h1 h3 h4
      simp [boundsK, h0, h1, h3, h4]
    rw [e]
    clear e
    go_enter Try.func105, Try.ntmps105
    go_wp2
    refine bodyPost_ret (results_t3 rfl _ _ _) rfl ?_
    exact ⟨rfl, rfl⟩

theorem toList_ne {t : ByteArray} (h : ¬ t = ⟨#[]⟩) : ¬ t.toList = [] := fun e => h (bytes_ext (by rw [← ByteArray.toList_eq, e]))
theorem bounds_0 (w : World) : Calls Try.prog 105 #[.int .i64 0] w fun e w' => e = .returned (.tuple #[.int .i64 0, .int .i64 4, .bool true]) ∧ w = w' := bounds_any 0 w
theorem bounds_1 (w : World) : Calls Try.prog 105 #[.int .i64 1] w fun e w' => e = .returned (.tuple #[.int .i64 2, .int .i64 4, .bool true]) ∧ w = w' := bounds_any 1 w
theorem bounds_3 (w : World) : Calls Try.prog 105 #[.int .i64 3] w fun e w' => e = .returned (.tuple #[.int .i64 0, .int .i64 5, .bool true]) ∧ w = w' := bounds_any 3 w
theorem bounds_4 (w : World) : Calls Try.prog 105 #[.int .i64 4] w fun e w' => e = .returned (.tuple #[.int .i64 1, .int .i64 5, .bool true]) ∧ w = w' := bounds_any 4 w

set_option maxHeartbeats 1600000 in
theorem implRuleOk_any (kind : Int) (letter thn : ByteArray) (many : Int) (w : World) (h1 : letter.size ≤ maxLen) (h2 : thn.size ≤ maxLen) :
    Calls Try.prog 89 #[.agg #[.int .i64 kind, .string letter, .string thn, .int .i64 many]] w
      fun e w' => e = .returned (.bool (Ru.mk kind letter thn many).ok) ∧ Below w.heap.size w w' := by
  by_cases hl : letterOk letter = true
  · by_cases hk : kind = 2
    · subst hk
      by_cases ht : letterOk thn = true
      · have HE : Hid ((Ru.mk 2 letter thn many).ok = (many == 0)) := by
          have : (Ru.mk 2 letter thn many).ok = (many == 0) := by simp [Ru.ok, hl, ht]; rfl
          exact Lib.hid this
        go_enter Try.func89, Try.ntmps89
        go_wp2_with (go_at_call 62; refine (implLetterOk_any _ _ (by assumption)).mono ?_; rintro e w' ⟨rfl, rfl⟩)
        go_ret
        exact ⟨ret_bool HE.out.symm, (Below.refl _ _).alloc (Nat.le_refl _) _⟩
      · have ht' : letterOk thn = false := by simpa using ht
        have HE : Hid ((Ru.mk 2 letter thn many).ok = false) := by
          have : (Ru.mk 2 letter thn many).ok = false := by simp [Ru.ok, ht']
          exact Lib.hid this
        clear ht
        go_enter Try.func89, Try.ntmps89
        go_wp2_with (go_at_call 62; refine (implLetterOk_any _ _ (by assumption)).mono ?_; rintro e w' ⟨rfl, rfl⟩)
        go_ret
        exact ⟨ret_bool HE.out.symm, (Below.refl _ _).alloc (Nat.le_refl _) _⟩
    · rcases kind_cases kind with rfl | rfl | rfl | rfl | rfl | ⟨k0, k1, k2, k3, k4⟩
      · by_cases ht : thn = ⟨#[]⟩
        · subst ht
          by_cases ha : (0 : Int) ≤ many
          · by_cases hb : many ≤ (4 : Int)
            · have HE : Hid ((Ru.mk 0 letter ⟨#[]⟩ many).ok = true) := by
                have : (Ru.mk 0 letter ⟨#[]⟩ many).ok = true := by simp [Ru.ok, hl, noThen, inB, ha, hb]
                exact Lib.hid this
              go_enter Try.func89, Try.ntmps89
              go_wp2_with (first | (go_at_call 62; refine (implLetterOk_any _ _ (by assumption)).mono ?_; rintro e w' ⟨rfl, rfl⟩) | (go_at_call 105; refine (bounds_0 _).mono ?_; rintro e w' ⟨rfl, rfl⟩))
              go_ret
              exact ⟨ret_bool HE.out.symm, (Below.refl _ _).alloc (Nat.le_refl _) _⟩
            · have HE : Hid ((Ru.mk 0 letter ⟨#[]⟩ many).ok = false) := by
                have : (Ru.mk 0 letter ⟨#[]⟩ many).ok = false := by simp [Ru.ok, hl, noThen, inB, ha, hb]
                exact Lib.hid this
              go_enter Try.func89, Try.ntmps89
              go_wp2_with (first | (go_at_call 62; refine (implLetterOk_any _ _ (by assumption)).mono ?_; rintro e w' ⟨rfl, rfl⟩) | (go_at_call 105; refine (bounds_0 _).mono ?_; rintro e w' ⟨rfl, rfl⟩))
              go_ret
              exact ⟨ret_bool (by rw [HE.out]; simp; omega), (Below.refl _ _).alloc (Nat.le_refl _) _⟩
          · have HE : Hid ((Ru.mk 0 letter ⟨#[]⟩ many).ok = false) := by
              have : (Ru.mk 0 letter ⟨#[]⟩ many).ok = false := by simp [Ru.ok, noThen, inB, ha]
              exact Lib.hid this
            go_enter Try.func89, Try.ntmps89
            go_wp2_with (first | (go_at_call 62; refine (implLetterOk_any _ _ (by assumption)).mono ?_; rintro e w' ⟨rfl, rfl⟩) | (go_at_call 105; refine (bounds_0 _).mono ?_; rintro e w' ⟨rfl, rfl⟩))
            go_ret
            exact ⟨ret_bool HE.out.symm, (Below.refl _ _).alloc (Nat.le_refl _) _⟩
        · have ht' := toList_ne ht
          have HE : Hid ((Ru.mk 0 letter thn many).ok = false) := by
            have : (Ru.mk 0 letter thn many).ok = false := by simp [Ru.ok, noThen, ht]
            exact Lib.hid this
          go_enter Try.func89, Try.ntmps89
          go_wp2_with (first | (go_at_call 62; refine (implLetterOk_any _ _ (by assumption)).mono ?_; rintro e w' ⟨rfl, rfl⟩) | (go_at_call 105; refine (bounds_0 _).mono ?_; rintro e w' ⟨rfl, rfl⟩))
          go_ret
          exact ⟨ret_bool HE.out.symm, (Below.refl _ _).alloc (Nat.le_refl _) _⟩
      · by_cases ht : thn = ⟨#[]⟩
        · subst ht
          by_cases ha : (2 : Int) ≤ many
          · by_cases hb : many ≤ (4 : Int)
            · have HE : Hid ((Ru.mk 1 letter ⟨#[]⟩ many).ok = true) := by
                have : (Ru.mk 1 letter ⟨#[]⟩ many).ok = true := by simp [Ru.ok, hl, noThen, inB, ha, hb]
                exact Lib.hid this
              go_enter Try.func89, Try.ntmps89
              go_wp2_with (first | (go_at_call 62; refine (implLetterOk_any _ _ (by assumption)).mono ?_; rintro e w' ⟨rfl, rfl⟩) | (go_at_call 105; refine (bounds_1 _).mono ?_; rintro e w' ⟨rfl, rfl⟩))
              go_ret
              exact ⟨ret_bool HE.out.symm, (Below.refl _ _).alloc (Nat.le_refl _) _⟩
            · have HE : Hid ((Ru.mk 1 letter ⟨#[]⟩ many).ok = false) := by
                have : (Ru.mk 1 letter ⟨#[]⟩ many).ok = false := by simp [Ru.ok, hl, noThen, inB, ha, hb]
                exact Lib.hid this
              go_enter Try.func89, Try.ntmps89
              go_wp2_with (first | (go_at_call 62; refine (implLetterOk_any _ _ (by assumption)).mono ?_; rintro e w' ⟨rfl, rfl⟩) | (go_at_call 105; refine (bounds_1 _).mono ?_; rintro e w' ⟨rfl, rfl⟩))
              go_ret
              exact ⟨ret_bool (by rw [HE.out]; simp; omega), (Below.refl _ _).alloc (Nat.le_refl _) _⟩
          · have HE : Hid ((Ru.mk 1 letter ⟨#[]⟩ many).ok = false) := by
              have : (Ru.mk 1 letter ⟨#[]⟩ many).ok = false := by simp [Ru.ok, noThen, inB, ha]
              exact Lib.hid this
            go_enter Try.func89, Try.ntmps89
            go_wp2_with (first | (go_at_call 62; refine (implLetterOk_any _ _ (by assumption)).mono ?_; rintro e w' ⟨rfl, rfl⟩) | (go_at_call 105; refine (bounds_1 _).mono ?_; rintro e w' ⟨rfl, rfl⟩))
            go_ret
            exact ⟨ret_bool HE.out.symm, (Below.refl _ _).alloc (Nat.le_refl _) _⟩
        · have ht' := toList_ne ht
          have HE : Hid ((Ru.mk 1 letter thn many).ok = false) := by
            have : (Ru.mk 1 letter thn many).ok = false := by simp [Ru.ok, noThen, ht]
            exact Lib.hid this
          go_enter Try.func89, Try.ntmps89
          go_wp2_with (first | (go_at_call 62; refine (implLetterOk_any _ _ (by assumption)).mono ?_; rintro e w' ⟨rfl, rfl⟩) | (go_at_call 105; refine (bounds_1 _).mono ?_; rintro e w' ⟨rfl, rfl⟩))
          go_ret
          exact ⟨ret_bool HE.out.symm, (Below.refl _ _).alloc (Nat.le_refl _) _⟩
      · exact absurd rfl hk
      · by_cases ht : thn = ⟨#[]⟩
        · subst ht
          by_cases ha : (0 : Int) ≤ many
          · by_cases hb : many ≤ (5 : Int)
            · have HE : Hid ((Ru.mk 3 letter ⟨#[]⟩ many).ok = true) := by
                have : (Ru.mk 3 letter ⟨#[]⟩ many).ok = true := by simp [Ru.ok, hl, noThen, inB, ha, hb]
                exact Lib.hid this
              go_enter Try.func89, Try.ntmps89
              go_wp2_with (first | (go_at_call 62; refine (implLetterOk_any _ _ (by assumption)).mono ?_; rintro e w' ⟨rfl, rfl⟩) | (go_at_call 105; refine (bounds_3 _).mono ?_; rintro e w' ⟨rfl, rfl⟩))
              go_ret
              exact ⟨ret_bool HE.out.symm, (Below.refl _ _).alloc (Nat.le_refl _) _⟩
            · have HE : Hid ((Ru.mk 3 letter ⟨#[]⟩ many).ok = false) := by
                have : (Ru.mk 3 letter ⟨#[]⟩ many).ok = false := by simp [Ru.ok, hl, noThen, inB, ha, hb]
                exact Lib.hid this
              go_enter Try.func89, Try.ntmps89
              go_wp2_with (first | (go_at_call 62; refine (implLetterOk_any _ _ (by assumption)).mono ?_; rintro e w' ⟨rfl, rfl⟩) | (go_at_call 105; refine (bounds_3 _).mono ?_; rintro e w' ⟨rfl, rfl⟩))
              go_ret
              exact ⟨ret_bool (by rw [HE.out]; simp; omega), (Below.refl _ _).alloc (Nat.le_refl _) _⟩
          · have HE : Hid ((Ru.mk 3 letter ⟨#[]⟩ many).ok = false) := by
              have : (Ru.mk 3 letter ⟨#[]⟩ many).ok = false := by simp [Ru.ok, noThen, inB, ha]
              exact Lib.hid this
            go_enter Try.func89, Try.ntmps89
            go_wp2_with (first | (go_at_call 62; refine (implLetterOk_any _ _ (by assumption)).mono ?_; rintro e w' ⟨rfl, rfl⟩) | (go_at_call 105; refine (bounds_3 _).mono ?_; rintro e w' ⟨rfl, rfl⟩))
            go_ret
            exact ⟨ret_bool HE.out.symm, (Below.refl _ _).alloc (Nat.le_refl _) _⟩
        · have ht' := toList_ne ht
          have HE : Hid ((Ru.mk 3 letter thn many).ok = false) := by
            have : (Ru.mk 3 letter thn many).ok = false := by simp [Ru.ok, noThen, ht]
            exact Lib.hid this
          go_enter Try.func89, Try.ntmps89
          go_wp2_with (first | (go_at_call 62; refine (implLetterOk_any _ _ (by assumption)).mono ?_; rintro e w' ⟨rfl, rfl⟩) | (go_at_call 105; refine (bounds_3 _).mono ?_; rintro e w' ⟨rfl, rfl⟩))
          go_ret
          exact ⟨ret_bool HE.out.symm, (Below.refl _ _).alloc (Nat.le_refl _) _⟩
      · by_cases ht : thn = ⟨#[]⟩
        · subst ht
          by_cases ha : (1 : Int) ≤ many
          · by_cases hb : many ≤ (5 : Int)
            · have HE : Hid ((Ru.mk 4 letter ⟨#[]⟩ many).ok = true) := by
                have : (Ru.mk 4 letter ⟨#[]⟩ many).ok = true := by simp [Ru.ok, hl, noThen, inB, ha, hb]
                exact Lib.hid this
              go_enter Try.func89, Try.ntmps89
              go_wp2_with (first | (go_at_call 62; refine (implLetterOk_any _ _ (by assumption)).mono ?_; rintro e w' ⟨rfl, rfl⟩) | (go_at_call 105; refine (bounds_4 _).mono ?_; rintro e w' ⟨rfl, rfl⟩))
              go_ret
              exact ⟨ret_bool HE.out.symm, (Below.refl _ _).alloc (Nat.le_refl _) _⟩
            · have HE : Hid ((Ru.mk 4 letter ⟨#[]⟩ many).ok = false) := by
                have : (Ru.mk 4 letter ⟨#[]⟩ many).ok = false := by simp [Ru.ok, hl, noThen, inB, ha, hb]
                exact Lib.hid this
              go_enter Try.func89, Try.ntmps89
              go_wp2_with (first | (go_at_call 62; refine (implLetterOk_any _ _ (by assumption)).mono ?_; rintro e w' ⟨rfl, rfl⟩) | (go_at_call 105; refine (bounds_4 _).mono ?_; rintro e w' ⟨rfl, rfl⟩))
              go_ret
              exact ⟨ret_bool (by rw [HE.out]; simp; omega), (Below.refl _ _).alloc (Nat.le_refl _) _⟩
          · have HE : Hid ((Ru.mk 4 letter ⟨#[]⟩ many).ok = false) := by
              have : (Ru.mk 4 letter ⟨#[]⟩ many).ok = false := by simp [Ru.ok, noThen, inB, ha]
              exact Lib.hid this
            go_enter Try.func89, Try.ntmps89
            go_wp2_with (first | (go_at_call 62; refine (implLetterOk_any _ _ (by assumption)).mono ?_; rintro e w' ⟨rfl, rfl⟩) | (go_at_call 105; refine (bounds_4 _).mono ?_; rintro e w' ⟨rfl, rfl⟩))
            go_ret
            exact ⟨ret_bool HE.out.symm, (Below.refl _ _).alloc (Nat.le_refl _) _⟩
        · have ht' := toList_ne ht
          have HE : Hid ((Ru.mk 4 letter thn many).ok = false) := by
            have : (Ru.mk 4 letter thn many).ok = false := by simp [Ru.ok, noThen, ht]
            exact Lib.hid this
          go_enter Try.func89, Try.ntmps89
          go_wp2_with (first | (go_at_call 62; refine (implLetterOk_any _ _ (by assumption)).mono ?_; rintro e w' ⟨rfl, rfl⟩) | (go_at_call 105; refine (bounds_4 _).mono ?_; rintro e w' ⟨rfl, rfl⟩))
          go_ret
          exact ⟨ret_bool HE.out.symm, (Below.refl _ _).alloc (Nat.le_refl _) _⟩
      · have HE : Hid ((Ru.mk kind letter thn many).ok = false) := by
          have : (Ru.mk kind letter thn many).ok = false := by
            simp only [beq_eq_false_iff_ne] at k0 k1 k2 k3 k4
            simp [Ru.ok, k0, k1, k2, k3, k4]
          exact Lib.hid this
        have hB : boundsK kind = (0, 0, false) := by
          simp only [beq_eq_false_iff_ne] at k0 k1 k3 k4
          simp [boundsK, k0, k1, k3, k4]
        clear hk
        go_enter Try.func89, Try.ntmps89
        go_wp2_with (first | (go_at_call 62; refine (implLetterOk_any _ _ (by assumption)).mono ?_; rintro e w' ⟨rfl, rfl⟩) | (go_at_call 105; refine (bounds_any _ _).mono ?_; rw [hB]; rintro e w' ⟨rfl, rfl⟩))
        go_ret
        exact ⟨ret_bool HE.out.symm, (Below.refl _ _).alloc (Nat.le_refl _) _⟩
  · have hl' : letterOk letter = false := by simpa using hl
    have HR := Lib.hid (letterOk_no hl' kind thn many)
    clear hl
    go_enter Try.func89, Try.ntmps89
    go_wp2_with (go_at_call 62; refine (implLetterOk_any _ _ (by assumption)).mono ?_; rintro e w' ⟨rfl, rfl⟩)
    go_ret
    exact ⟨ret_bool HR.out.symm, (Below.refl _ _).alloc (Nat.le_refl _) _⟩
end Go.Proofs.Ytlbblfbiiceofaa
