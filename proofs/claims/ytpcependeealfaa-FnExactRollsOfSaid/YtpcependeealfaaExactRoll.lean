/- The walks of FnExactLeastRoll and FnExactRollsOf: true at every text. No condition. -/
import Derived.Test.YtpcependeealfaaRollCnt
namespace Go.Proofs.Ytpcependeealfaa
open Go.RowKit

set_option maxHeartbeats 800000 in
theorem exactLeastRoll_walk {w : World} (word : ByteArray) (hs0 : word.size ≤ maxLen) :
    Calls Try.prog 15 #[.string word] w fun e w' => e = .returned (.bool true) ∧ Below w.heap.size w w' := by
  have hs1 := hs0
  unfold maxLen at hs1
  have HS := Lib.hid (fun W => specLeastRoll_any word W hs0)
  have HI := Lib.hid (fun W => implLeastRoll_any word W hs0)
  generalize leastRoll word = x at *
  by_cases hbig : 1048576 < word.size
  · go_enter Try.func15, Try.ntmps15
    go_wp2_with fail
    go_ret
    exact ⟨rfl, Below.refl _ _⟩
  · go_enter Try.func15, Try.ntmps15
    go_wp2_with (go_at_call 48; refine (HS.out _).mono ?_; rintro e w1 ⟨rfl, n, rfl⟩)
    refine (HI.out _).mono ?_
    rintro e w2 ⟨rfl, hb2⟩
    go_wp2_with fail
    go_ret
    exact ⟨rfl, (below_drewN (Below.refl w.heap.size w) n).trans hb2⟩

set_option maxHeartbeats 800000 in
theorem exactRollsOf_walk {w : World} (word : ByteArray) (hs0 : word.size ≤ maxLen) :
    Calls Try.prog 16 #[.string word] w fun e w' => e = .returned (.bool true) ∧ Below w.heap.size w w' := by
  have hs1 := hs0
  unfold maxLen at hs1
  have HS := Lib.hid (fun W => specRollsOf_any word W hs0)
  have HI := Lib.hid (fun W => implRollsOf_any word W hs0)
  generalize rollsOf word = x at *
  by_cases hbig : 1048576 < word.size
  · go_enter Try.func16, Try.ntmps16
    go_wp2_with fail
    go_ret
    exact ⟨rfl, Below.refl _ _⟩
  · go_enter Try.func16, Try.ntmps16
    go_wp2_with (go_at_call 52; refine (HS.out _).mono ?_; rintro e w1 ⟨rfl, n, rfl⟩)
    refine (HI.out _).mono ?_
    rintro e w2 ⟨rfl, hb2⟩
    go_wp2_with fail
    go_ret
    exact ⟨rfl, (below_drewN (Below.refl w.heap.size w) n).trans hb2⟩
end Go.Proofs.Ytpcependeealfaa
