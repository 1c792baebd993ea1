/- The walks of FnExactRolledBy and FnExactBackWord: true at every input. No condition. -/
import Derived.Test.YtdlabljipjfgjabBack
import Derived.WalkSmall
namespace Go.Proofs.Ytdlabljipjfgjab
open Go.RowKit

theorem exactRolledBy_walk (s : ByteArray) (hs : s.size ≤ maxLen) (k : Int) (_hk : (Lit.int .i64 k).wf = true) (w : World) :
    Calls Try.prog 9 #[.string s, .int .i64 k] w fun e w' => e = .returned (.bool true) ∧ Below w.heap.size w w' := by
  have hs' := hs
  unfold maxLen at hs
  by_cases hbig : 1048576 < s.size
  · go_enter Try.func9, Try.ntmps9
    go_wp2
    go_ret
    exact ⟨rfl, Below.refl _ _⟩
  · go_enter Try.func9, Try.ntmps9
    go_wp2_with (first | (go_at_call 26; refine (specRolledBy_any _ _ _ hs').mono ?_; rintro e w' ⟨rfl, n, rfl⟩) | (go_at_call 27; refine (implRolledBy_any _ _ _ hs').mono ?_; rintro e w' ⟨rfl, m, rfl⟩))
    go_ret
    exact ⟨rfl, below_drewN (Below.refl _ _) _⟩

theorem exactBackWord_walk (s : ByteArray) (hs : s.size ≤ maxLen) (w : World) :
    Calls Try.prog 8 #[.string s] w fun e w' => e = .returned (.bool true) ∧ Below w.heap.size w w' := by
  have hs' := hs
  unfold maxLen at hs
  by_cases hbig : 1048576 < s.size
  · go_enter Try.func8, Try.ntmps8
    go_wp2
    go_ret
    exact ⟨rfl, Below.refl _ _⟩
  · go_enter Try.func8, Try.ntmps8
    go_wp2_with (first | (go_at_call 24; refine (specBackWord_any _ _ hs').mono ?_; rintro e w' ⟨rfl, rfl⟩) | (go_at_call 25; refine (implBackWord_any _ _ hs').mono ?_; rintro e w' ⟨rfl, hb⟩))
    go_ret
    exact ⟨rfl, hb⟩
end Go.Proofs.Ytdlabljipjfgjab
