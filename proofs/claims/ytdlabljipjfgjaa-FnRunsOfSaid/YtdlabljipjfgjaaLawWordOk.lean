/- The walks of FnWordOk and FnLetterOk: true at every code. No condition. -/
import Derived.Test.YtdlabljipjfgjaaDrawn1
namespace Go.Proofs.Ytdlabljipjfgjaa
open Go.RowKit

theorem alive_any (w : World) : Calls Try.prog 14 #[] w fun e w' => e = .returned (.bool true) ∧ w = w' := by
  have h1 : wordOk ⟨#[114, 100, 110]⟩ = true := by decide +kernel
  have h2 : wordOk ⟨#[120]⟩ = false := by decide +kernel
  go_enter Try.func14, Try.ntmps14
  go_wp2_with (go_at_call 12; refine (implWordOk_any _ _ (by decide)).mono ?_; rintro e w' ⟨rfl, rfl⟩)
  go_ret
  exact ⟨rfl, rfl⟩

theorem wordOk_init (s : ByteArray) (h : wordOk s = true) (h0 : 0 < s.size) : wordOk (s.extract 0 (s.size - 1)) = true := by
  simp only [wordOk, Bool.and_eq_true, decide_eq_true_eq, allL, List.all_eq_true] at h ⊢
  refine ⟨fun x hx => h.1 x ?_, ?_⟩
  · rw [ByteArray.data_extract, Array.toList_extract, List.extract_eq_take_drop] at hx
    exact List.mem_of_mem_take hx
  · rw [ByteArray.size_extract]; omega
theorem wordOk_twice (s : ByteArray) (h : wordOk s = true) (h0 : 2 * s.size ≤ 14) : wordOk (s ++ s) = true := by
  simp only [wordOk, Bool.and_eq_true, decide_eq_true_eq, allL, List.all_eq_true] at h ⊢
  refine ⟨fun x hx => h.1 x ?_, ?_⟩
  · rw [ByteArray.data_append, Array.toList_append, List.mem_append] at hx
    exact hx.elim id id
  · rw [ByteArray.size_append]; omega

set_option maxHeartbeats 400000 in
theorem lawWordOk_walk {w : World} (a : Option Addr) (len cap : Nat) (zs : List Int) (h : IsRow .u8 w a len cap zs) :
    Calls Try.prog 3 #[.slice a len cap] w fun e w' => e = .returned (.bool true) ∧ Below w.heap.size w w' := by
  have HD := Lib.hid (drawWordOk_any a len cap zs w h)
  have hl : len ≤ maxLen := by
    rcases h with ⟨_, rfl, _⟩ | ⟨x, _, h1, h2, _⟩
    · exact Nat.zero_le _
    · exact Nat.le_trans h1 h2
  unfold maxLen at hl
  clear h
  by_cases hbig : 1048576 < len
  · go_enter Try.func3, Try.ntmps3
    go_wp2_with fail
    go_ret
    exact ⟨rfl, Below.refl _ _⟩
  · go_enter Try.func3, Try.ntmps3
    go_wp2_with fail
    refine HD.out.mono ?_
    clear HD
    rintro e w1 ⟨s, rfl, hs, hb⟩
    have hsm : s.size ≤ maxLen := by unfold maxLen; omega
    have hw0 : wordOk ⟨#[]⟩ = true := by decide +kernel
    have hw1 : wordOk ⟨#[114, 100, 110]⟩ = true := by decide +kernel
    have hm0 : (⟨#[]⟩ : ByteArray).size ≤ maxLen := Nat.zero_le _
    have hm1 : (⟨#[114, 100, 110]⟩ : ByteArray).size ≤ maxLen := by decide
    by_cases hw : wordOk s = true
    · by_cases h0 : s.size = 0
      · have h0' : ((s.size : Int) == 0) = true := by simp [h0]
        have hw2 := wordOk_twice s hw (by omega)
        have hm2 : (s ++ s).size ≤ maxLen := by rw [ByteArray.size_append]; unfold maxLen; omega
        go_wp2_with (first | (go_at_call 13; refine (specWordOk_any _ _ (by assumption)).mono ?_; rintro e w' ⟨rfl, rfl⟩) | (go_at_call 12; refine (implWordOk_any _ _ (by assumption)).mono ?_; rintro e w' ⟨rfl, rfl⟩) | (go_at_call 14; refine (alive_any _).mono ?_; rintro e w' ⟨rfl, rfl⟩))
        go_ret
        exact ⟨rfl, hb⟩
      · have h0' : ((s.size : Int) == 0) = false := by rw [beq_eq_false_iff_ne]; omega
        have hpos : 0 < s.size := by omega
        have hw3 := wordOk_init s hw hpos
        have hm3 : (s.extract 0 (s.size - 1)).size ≤ maxLen := Nat.le_trans (by rw [ByteArray.size_extract]; exact Nat.le_trans (Nat.sub_le _ _) (Nat.min_le_right _ _)) hsm
        by_cases h7 : 2 * s.size ≤ 14
        · have hw2 := wordOk_twice s hw h7
          have hm2 : (s ++ s).size ≤ maxLen := by rw [ByteArray.size_append]; unfold maxLen; omega
          clear h0
          go_wp2_with (first | (go_at_call 13; refine (specWordOk_any _ _ (by assumption)).mono ?_; rintro e w' ⟨rfl, rfl⟩) | (go_at_call 12; refine (implWordOk_any _ _ (by assumption)).mono ?_; rintro e w' ⟨rfl, rfl⟩) | (go_at_call 14; refine (alive_any _).mono ?_; rintro e w' ⟨rfl, rfl⟩))
          go_ret
          exact ⟨rfl, hb⟩
        · clear h0
          go_wp2_with (first | (go_at_call 13; refine (specWordOk_any _ _ (by assumption)).mono ?_; rintro e w' ⟨rfl, rfl⟩) | (go_at_call 12; refine (implWordOk_any _ _ (by assumption)).mono ?_; rintro e w' ⟨rfl, rfl⟩) | (go_at_call 14; refine (alive_any _).mono ?_; rintro e w' ⟨rfl, rfl⟩))
          go_ret
          exact ⟨rfl, hb⟩
    · have hw' : wordOk s = false := by simpa using hw
      clear hw
      go_wp2_with (first | (go_at_call 13; refine (specWordOk_any _ _ (by assumption)).mono ?_; rintro e w' ⟨rfl, rfl⟩) | (go_at_call 12; refine (implWordOk_any _ _ (by assumption)).mono ?_; rintro e w' ⟨rfl, rfl⟩) | (go_at_call 14; refine (alive_any _).mono ?_; rintro e w' ⟨rfl, rfl⟩))
      go_ret
      exact ⟨rfl, hb⟩

theorem letterOk_def1 (s : ByteArray) (h : s.size = 1) : letterOk s = wordOk s := by simp [letterOk, h]

theorem lawLetterOk_walk {w : World} (a : Option Addr) (len cap : Nat) (zs : List Int) (h : IsRow .u8 w a len cap zs) :
    Calls Try.prog 4 #[.slice a len cap] w fun e w' => e = .returned (.bool true) ∧ Below w.heap.size w w' := by
  have HD := Lib.hid (drawLetterOk_any a len cap zs w h)
  have hl : len ≤ maxLen := by
    rcases h with ⟨_, rfl, _⟩ | ⟨x, _, h1, h2, _⟩
    · exact Nat.zero_le _
    · exact Nat.le_trans h1 h2
  unfold maxLen at hl
  clear h
  by_cases hbig : 1048576 < len
  · go_enter Try.func4, Try.ntmps4
    go_wp2_with fail
    go_ret
    exact ⟨rfl, Below.refl _ _⟩
  · go_enter Try.func4, Try.ntmps4
    go_wp2_with fail
    refine HD.out.mono ?_
    clear HD
    rintro e w1 ⟨s, rfl, hs, hb⟩
    have hsm : s.size ≤ maxLen := by unfold maxLen; omega
    by_cases h1 : s.size = 1
    · have h1' : ((s.size : Int) == 1) = true := by simp [h1]
      have hle := letterOk_def1 s h1
      clear h1
      go_wp2_with (first | (go_at_call 17; refine (specLetterOk_any _ _).mono ?_; rintro e w' ⟨rfl, rfl⟩) | (go_at_call 16; refine (implLetterOk_any _ _ (by assumption)).mono ?_; rintro e w' ⟨rfl, rfl⟩) | (go_at_call 12; refine (implWordOk_any _ _ (by assumption)).mono ?_; rintro e w' ⟨rfl, rfl⟩) | (go_at_call 14; refine (alive_any _).mono ?_; rintro e w' ⟨rfl, rfl⟩))
      go_ret
      exact ⟨rfl, hb⟩
    · have h1' : ((s.size : Int) == 1) = false := by simp; omega
      have hle := letterOk_not s h1'
      clear h1
      go_wp2_with (first | (go_at_call 17; refine (specLetterOk_any _ _).mono ?_; rintro e w' ⟨rfl, rfl⟩) | (go_at_call 16; refine (implLetterOk_any _ _ (by assumption)).mono ?_; rintro e w' ⟨rfl, rfl⟩) | (go_at_call 12; refine (implWordOk_any _ _ (by assumption)).mono ?_; rintro e w' ⟨rfl, rfl⟩) | (go_at_call 14; refine (alive_any _).mono ?_; rintro e w' ⟨rfl, rfl⟩))
      go_ret
      exact ⟨rfl, hb⟩
end Go.Proofs.Ytdlabljipjfgjaa
