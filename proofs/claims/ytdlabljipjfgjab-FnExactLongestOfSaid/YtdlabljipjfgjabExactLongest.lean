/- The walk of FnExactLongestOf: true at every input. No condition. -/
import Derived.Test.YtdlabljipjfgjabLongest
namespace Go.Proofs.Ytdlabljipjfgjab
open Go.RowKit

theorem exactLongestOf_walk (s : ByteArray) (hs : s.size ≤ maxLen) (t : ByteArray) (ht : t.size ≤ maxLen) (w : World) :
    Calls Try.prog 7 #[.string s, .string t] w fun e w' => e = .returned (.bool true) ∧ Below w.heap.size w w' := by
  have hs' := hs
  have ht' := ht
  unfold maxLen at hs ht
  by_cases hbig : 1048576 < s.size
  · go_enter Try.func7, Try.ntmps7
    go_wp2
    go_ret
    exact ⟨rfl, Below.refl _ _⟩
  · by_cases hbig2 : 1048576 < t.size
    · go_enter Try.func7, Try.ntmps7
      go_wp2
      go_ret
      exact ⟨rfl, Below.refl _ _⟩
    · go_enter Try.func7, Try.ntmps7
      go_wp2_with (first | (go_at_call 22; refine (specLongestOf_any _ _ _ hs').mono ?_; rintro e w1 ⟨rfl, hb1⟩) | (go_at_call 23; refine (implLongestOf_any _ _ _ hs' ht').mono ?_; rintro e w2 ⟨rfl, hb2⟩))
      go_ret
      exact ⟨rfl, hb1.trans (hb2.mono hb1.size)⟩
end Go.Proofs.Ytdlabljipjfgjab
