/- The walks of FnWordOk and FnLetterOk: true at every code. No condition. -/
import Derived.Test.YtdgpemjbaciiaaaDrawn1
namespace Go.Proofs.Ytdgpemjbaciiaaa
open Go.RowKit

theorem alive_any (w : World) : Calls Try.prog 39 #[] w fun e w' => e = .returned (.bool true) ∧ w = w' := by
  have h1 : wordOk ⟨#[114, 100, 110]⟩ = true := by decide +kernel
  have h2 : wordOk ⟨#[120]⟩ = false := by decide +kernel
  go_enter Try.func39, Try.ntmps39
  go_wp2_with (go_at_call 84; refine (implWordOk_any _ _ (by decide)).mono ?_; rintro e w' ⟨rfl, rfl⟩)
  go_ret
  exact ⟨rfl, rfl⟩

theorem wordOk_init (s : ByteArray) (h : wordOk s = true) (h0 : 0 < s.size) : wordOk (s.extract 0 (s.size - 1)) = true := by
  simp only [wordOk, Bool.and_eq_true, decide_eq_true_eq, allL, List.all_eq_true] at h ⊢
  refine ⟨fun x hx => h.1 x ?_, ?_⟩
  · rw [ByteArray.data_extract, Array.toList_extract, List.extract_eq_take_drop] at hx
    exact List.mem_of_mem_take hx
  · rw [ByteArray.size_extract]; omega
theorem wordOk_twice (s : ByteArray) (h : wordOk s = true) (h0 : 2 * s.size ≤ 14) : wordOk (s ++ s) = true := by
  simp only [wordOk, Bool.and_eq_true, decide_eq_true_eq, allL, List.all_eq_true] at h ⊢
  refine ⟨fun x hx => h.1 x ?_, ?_⟩
  · rw [ByteArray.data_append, Array.toList_append, List.mem_append] at hx
    exact hx.elim id id
  · rw [ByteArray.size_append]; omega

theorem letterOk_def1 (s : ByteArray) (h : s.size = 1) : letterOk s = wordOk s := by simp [letterOk, h]

end Go.Proofs.Ytdgpemjbaciiaaa
