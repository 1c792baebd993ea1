/- The walk of FnExactRunsOf: true at every text. No condition. -/
import Derived.Test.YtdlabljipjfgjabSpecRuns
import Derived.Test.YtdlabljipjfgjabHeld
namespace Go.Proofs.Ytdlabljipjfgjab
open Go.RowKit

theorem runsOf_bd (s : ByteArray) : (runsOf s).length ≤ 14 := by
  by_cases hw : wordOk s = true
  · rw [runsOf_yes hw, List.length_map]
    have := runsL_length s.data.toList
    have h14 := wordOk_size hw
    rw [len_data] at this
    omega
  · rw [runsOf_no (by simpa using hw)]; exact Nat.zero_le _

set_option maxHeartbeats 800000 in
theorem exactRunsOf_walk (s : ByteArray) (hs : s.size ≤ maxLen) (w : World) :
    Calls Try.prog 6 #[.string s] w fun e w' => e = .returned (.bool true) ∧ Below w.heap.size w w' := by
  have hs' := hs
  unfold maxLen at hs
  by_cases hbig : 1048576 < s.size
  · go_enter Try.func6, Try.ntmps6
    go_wp2
    go_ret
    exact ⟨rfl, Below.refl _ _⟩
  · have hbd := runsOf_bd s
    go_enter Try.func6, Try.ntmps6
    go_wp2_with fail
    refine (specRunsOf_any s _ hs').mono ?_
    rintro e w1 ⟨v0, rfl, ho0, hb1⟩
    go_wp2_with fail
    refine (implRunsOf_any s _ hs').mono ?_
    rintro e w2 ⟨v1, rfl, ho1, hb2⟩
    have h00 : IsInts w1 v0 (runsOf s) := IsInts.of_owns ho0
    have h01 := h00.below hb2
    have h1 : IsInts w2 v1 (runsOf s) := IsInts.of_owns ho1
    have hxx : (runsOf s == runsOf s) = true := by simp
    have HX := Lib.hid hxx
    clear hxx
    generalize hX : runsOf s = xs at *
    have HXX := Lib.hid hX
    clear hX
    go_wp2_with fail
    refine (eqIntS_any v1 v0 xs xs _ h1 h01).mono ?_
    rintro e w3 ⟨rfl, n3, rfl⟩
    rw [HX.out]
    go_wp2_with fail
    refine (markIntS_any w1.heap.size v1 xs 1 _ (ownsRow_drewN ho1 n3) (by omega) (by omega) (by omega)).mono ?_
    rintro e w4 ⟨rfl, ho4, hg4⟩
    have hb4 : Below w1.heap.size w1 w4 := (below_drewN hb2 n3).grown hg4 hb2.size (fun k e => (ho1.lt k e).1)
    have h04 := h00.below hb4
    have h14 : IsInts w4 v1 (seqL 1 xs.length) := IsInts.of_owns (by rw [seqL_length]; exact ho4)
    go_wp2_with fail
    refine (heldIntS_any v1 1 xs.length _ h14 (by omega) (by omega) (by omega)).mono ?_
    rintro e w5 ⟨rfl, rfl⟩
    have hne : ((1 : Int) + (xs.length : Int) != 1 + (xs.length : Int)) = false := by simp
    go_wp2_with fail
    refine (implRunsOf_any s _ hs').mono ?_
    rintro e w6 ⟨v2, rfl, ho6, hb6⟩
    rw [HXX.out] at ho6
    have h06 := h04.below hb6
    have h26 : IsInts w6 v2 xs := IsInts.of_owns ho6
    have h16 := h14.below hb6
    go_wp2_with fail
    refine (eqIntS_any v2 v0 xs xs _ h26 h06).mono ?_
    rintro e w7 ⟨rfl, n7, rfl⟩
    rw [HX.out]
    have h17 : IsInts (w6.drewN n7) v1 (seqL 1 xs.length) := h16.below (below_drewN (Below.refl _ _) n7)
    go_wp2_with fail
    refine (heldIntS_any v1 1 xs.length _ h17 (by omega) (by omega) (by omega)).mono ?_
    rintro e w8 ⟨rfl, rfl⟩
    go_wp2_with fail
    go_ret
    exact ⟨rfl, below_drewN ((hb1.trans (hb4.mono hb1.size)).trans (hb6.mono (Nat.le_trans hb1.size hb4.size))) _⟩
end Go.Proofs.Ytdlabljipjfgjab
