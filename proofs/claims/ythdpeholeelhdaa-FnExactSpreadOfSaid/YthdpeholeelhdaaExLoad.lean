/- The walks of FnExactLoadsOk, FnExactSpreadOf, FnExactSquaresOf, FnExactStepsToFair: true at every row. Written by mkexload.py. No condition. -/
import Derived.Test.YthdpeholeelhdaaLoadSpec2
import Derived.Test.YthdpeholeelhdaaLoadSpec3
import Derived.Test.YthdpeholeelhdaaHeld
namespace Go.Proofs.Ythdpeholeelhdaa
open Go.RowKit

theorem specLoadsOk_b (v : Value) (xs : List Int) (w : World) (h : IsInts w v xs) : Calls Try.prog 21 #[v] w fun e w' => e = .returned (.bool (loadsOk xs)) ∧ Below w.heap.size w w' :=
  (specLoadsOk_any v xs w h).mono fun _ _ ⟨h1, n, h2⟩ => ⟨h1, by rw [h2]; exact below_drewN (Below.refl _ _) n⟩
theorem implLoadsOk_b (v : Value) (xs : List Int) (w : World) (h : IsInts w v xs) : Calls Try.prog 20 #[v] w fun e w' => e = .returned (.bool (loadsOk xs)) ∧ Below w.heap.size w w' :=
  (implLoadsOk_any v xs w h).mono fun _ _ ⟨h1, n, h2⟩ => ⟨h1, by rw [h2]; exact below_drewN (Below.refl _ _) n⟩

set_option maxHeartbeats 1600000 in
theorem exactLoadsOk_walk {w : World} (v : Value) (xs : List Int) (h : IsInts w v xs) :
    Calls Try.prog 11 #[v] w fun e w' => e = .returned (.bool true) ∧ Below w.heap.size w w' := by
  have H := Lib.hid h
  have HSP : Hid (∀ (W : World) (u : Value), IsInts W u xs → Calls Try.prog 21 #[u] W fun e w' => e = .returned (.bool (loadsOk xs)) ∧ Below W.heap.size W w') := Lib.hid (fun W u h => specLoadsOk_b u xs W h)
  have HIM : Hid (∀ (W : World) (u : Value), IsInts W u xs → Calls Try.prog 20 #[u] W fun e w' => e = .returned (.bool (loadsOk xs)) ∧ Below W.heap.size W w') := Lib.hid (fun W u h => implLoadsOk_b u xs W h)
  generalize loadsOk xs = r at HSP HIM
  have hne : (r != r) = false := by simp
  obtain ⟨a, cap, rfl, hmx⟩ : ∃ a cap, v = .slice a xs.length cap ∧ xs.length ≤ 9223372036854775807 := by obtain ⟨a, cap, rfl, h1, h2, _⟩ := h; unfold maxLen at h2; exact ⟨a, cap, rfl, by omega⟩
  clear h
  have HXX : Hid ((xs == xs) = true) := by
    have : (xs == xs) = true := by simp
    exact Lib.hid this
  by_cases hbig : 1048576 < xs.length
  · go_enter Try.func11, Try.ntmps11
    go_wp2
    go_ret
    exact ⟨rfl, Below.refl _ _⟩
  · have hl1 : xs.length ≤ 1048576 := by omega
    go_enter Try.func11, Try.ntmps11
    go_wp2_with fail
    refine (toIntS_any _ xs _ H.out hl1).mono ?_
    rintro e w1 ⟨v1, rfl, ho1, hb1⟩
    have B1 := Lib.hid hb1
    have I1 := Lib.hid (IsInts.of_owns ho1)
    clear ho1 hb1
    go_wp2_with fail
    refine (HSP.out w1 v1 I1.out).mono ?_
    rintro e w2 ⟨rfl, hb2⟩
    have B2 := Lib.hid (B1.out.trans (hb2.mono B1.out.size))
    clear hb2
    go_wp2_with fail
    refine (toIntS_any _ xs _ (H.out.below B2.out) hl1).mono ?_
    rintro e w3 ⟨v3, rfl, ho3, hb3⟩
    have B3 := Lib.hid (B2.out.trans (hb3.mono B2.out.size))
    have I3 := Lib.hid (IsInts.of_owns ho3)
    clear ho3 hb3
    go_wp2_with fail
    refine (HIM.out w3 v3 I3.out).mono ?_
    rintro e w4 ⟨rfl, hb4⟩
    have B4 := Lib.hid (B3.out.trans (hb4.mono B3.out.size))
    have I4 := Lib.hid (I3.out.below hb4)
    clear hb4
    go_wp2_with fail
    refine (toIntS_any _ xs _ (H.out.below B4.out) hl1).mono ?_
    rintro e w5 ⟨v5, rfl, ho5, hb5⟩
    have B5 := Lib.hid (B4.out.trans (hb5.mono B4.out.size))
    have I5 := Lib.hid (IsInts.of_owns ho5)
    have J5 := Lib.hid (I4.out.below hb5)
    clear ho5 hb5
    go_wp2_with fail
    refine (eqIntS_any v3 v5 xs xs _ J5.out I5.out).mono ?_
    rintro e w6 ⟨rfl, n6, rfl⟩
    rw [HXX.out]
    go_wp2
    go_ret
    exact ⟨rfl, below_drewN B5.out n6⟩

set_option maxHeartbeats 1600000 in
theorem exactSpreadOf_walk {w : World} (v : Value) (xs : List Int) (h : IsInts w v xs) :
    Calls Try.prog 13 #[v] w fun e w' => e = .returned (.bool true) ∧ Below w.heap.size w w' := by
  have H := Lib.hid h
  have HSP : Hid (∀ (W : World) (u : Value), IsInts W u xs → Calls Try.prog 30 #[u] W fun e w' => e = .returned (.int .i64 (spreadOf xs)) ∧ Below W.heap.size W w') := Lib.hid (fun W u h => specSpreadOf_any u xs W h)
  have HIM : Hid (∀ (W : World) (u : Value), IsInts W u xs → Calls Try.prog 29 #[u] W fun e w' => e = .returned (.int .i64 (spreadOf xs)) ∧ Below W.heap.size W w') := Lib.hid (fun W u h => implSpreadOf_any u xs W h)
  generalize spreadOf xs = r at HSP HIM
  have hne : (r != r) = false := by simp
  obtain ⟨a, cap, rfl, hmx⟩ : ∃ a cap, v = .slice a xs.length cap ∧ xs.length ≤ 9223372036854775807 := by obtain ⟨a, cap, rfl, h1, h2, _⟩ := h; unfold maxLen at h2; exact ⟨a, cap, rfl, by omega⟩
  clear h
  have HXX : Hid ((xs == xs) = true) := by
    have : (xs == xs) = true := by simp
    exact Lib.hid this
  by_cases hbig : 1048576 < xs.length
  · go_enter Try.func13, Try.ntmps13
    go_wp2
    go_ret
    exact ⟨rfl, Below.refl _ _⟩
  · have hl1 : xs.length ≤ 1048576 := by omega
    go_enter Try.func13, Try.ntmps13
    go_wp2_with fail
    refine (toIntS_any _ xs _ H.out hl1).mono ?_
    rintro e w1 ⟨v1, rfl, ho1, hb1⟩
    have B1 := Lib.hid hb1
    have I1 := Lib.hid (IsInts.of_owns ho1)
    clear ho1 hb1
    go_wp2_with fail
    refine (HSP.out w1 v1 I1.out).mono ?_
    rintro e w2 ⟨rfl, hb2⟩
    have B2 := Lib.hid (B1.out.trans (hb2.mono B1.out.size))
    clear hb2
    go_wp2_with fail
    refine (toIntS_any _ xs _ (H.out.below B2.out) hl1).mono ?_
    rintro e w3 ⟨v3, rfl, ho3, hb3⟩
    have B3 := Lib.hid (B2.out.trans (hb3.mono B2.out.size))
    have I3 := Lib.hid (IsInts.of_owns ho3)
    clear ho3 hb3
    go_wp2_with fail
    refine (HIM.out w3 v3 I3.out).mono ?_
    rintro e w4 ⟨rfl, hb4⟩
    have B4 := Lib.hid (B3.out.trans (hb4.mono B3.out.size))
    have I4 := Lib.hid (I3.out.below hb4)
    clear hb4
    go_wp2_with fail
    refine (toIntS_any _ xs _ (H.out.below B4.out) hl1).mono ?_
    rintro e w5 ⟨v5, rfl, ho5, hb5⟩
    have B5 := Lib.hid (B4.out.trans (hb5.mono B4.out.size))
    have I5 := Lib.hid (IsInts.of_owns ho5)
    have J5 := Lib.hid (I4.out.below hb5)
    clear ho5 hb5
    go_wp2_with fail
    refine (eqIntS_any v3 v5 xs xs _ J5.out I5.out).mono ?_
    rintro e w6 ⟨rfl, n6, rfl⟩
    rw [HXX.out]
    go_wp2
    go_ret
    exact ⟨rfl, below_drewN B5.out n6⟩

set_option maxHeartbeats 1600000 in
theorem exactSquaresOf_walk {w : World} (v : Value) (xs : List Int) (h : IsInts w v xs) :
    Calls Try.prog 14 #[v] w fun e w' => e = .returned (.bool true) ∧ Below w.heap.size w w' := by
  have H := Lib.hid h
  have HSP : Hid (∀ (W : World) (u : Value), IsInts W u xs → Calls Try.prog 34 #[u] W fun e w' => e = .returned (.int .i64 (sqsOf xs)) ∧ Below W.heap.size W w') := Lib.hid (fun W u h => specSquaresOf_any u xs W h)
  have HIM : Hid (∀ (W : World) (u : Value), IsInts W u xs → Calls Try.prog 33 #[u] W fun e w' => e = .returned (.int .i64 (sqsOf xs)) ∧ Below W.heap.size W w') := Lib.hid (fun W u h => implSquaresOf_any u xs W h)
  generalize sqsOf xs = r at HSP HIM
  have hne : (r != r) = false := by simp
  obtain ⟨a, cap, rfl, hmx⟩ : ∃ a cap, v = .slice a xs.length cap ∧ xs.length ≤ 9223372036854775807 := by obtain ⟨a, cap, rfl, h1, h2, _⟩ := h; unfold maxLen at h2; exact ⟨a, cap, rfl, by omega⟩
  clear h
  have HXX : Hid ((xs == xs) = true) := by
    have : (xs == xs) = true := by simp
    exact Lib.hid this
  by_cases hbig : 1048576 < xs.length
  · go_enter Try.func14, Try.ntmps14
    go_wp2
    go_ret
    exact ⟨rfl, Below.refl _ _⟩
  · have hl1 : xs.length ≤ 1048576 := by omega
    go_enter Try.func14, Try.ntmps14
    go_wp2_with fail
    refine (toIntS_any _ xs _ H.out hl1).mono ?_
    rintro e w1 ⟨v1, rfl, ho1, hb1⟩
    have B1 := Lib.hid hb1
    have I1 := Lib.hid (IsInts.of_owns ho1)
    clear ho1 hb1
    go_wp2_with fail
    refine (HSP.out w1 v1 I1.out).mono ?_
    rintro e w2 ⟨rfl, hb2⟩
    have B2 := Lib.hid (B1.out.trans (hb2.mono B1.out.size))
    clear hb2
    go_wp2_with fail
    refine (toIntS_any _ xs _ (H.out.below B2.out) hl1).mono ?_
    rintro e w3 ⟨v3, rfl, ho3, hb3⟩
    have B3 := Lib.hid (B2.out.trans (hb3.mono B2.out.size))
    have I3 := Lib.hid (IsInts.of_owns ho3)
    clear ho3 hb3
    go_wp2_with fail
    refine (HIM.out w3 v3 I3.out).mono ?_
    rintro e w4 ⟨rfl, hb4⟩
    have B4 := Lib.hid (B3.out.trans (hb4.mono B3.out.size))
    have I4 := Lib.hid (I3.out.below hb4)
    clear hb4
    go_wp2_with fail
    refine (toIntS_any _ xs _ (H.out.below B4.out) hl1).mono ?_
    rintro e w5 ⟨v5, rfl, ho5, hb5⟩
    have B5 := Lib.hid (B4.out.trans (hb5.mono B4.out.size))
    have I5 := Lib.hid (IsInts.of_owns ho5)
    have J5 := Lib.hid (I4.out.below hb5)
    clear ho5 hb5
    go_wp2_with fail
    refine (eqIntS_any v3 v5 xs xs _ J5.out I5.out).mono ?_
    rintro e w6 ⟨rfl, n6, rfl⟩
    rw [HXX.out]
    go_wp2
    go_ret
    exact ⟨rfl, below_drewN B5.out n6⟩

set_option maxHeartbeats 1600000 in
theorem exactStepsToFair_walk {w : World} (v : Value) (xs : List Int) (h : IsInts w v xs) :
    Calls Try.prog 18 #[v] w fun e w' => e = .returned (.bool true) ∧ Below w.heap.size w w' := by
  have H := Lib.hid h
  have HSP : Hid (∀ (W : World) (u : Value), IsInts W u xs → Calls Try.prog 44 #[u] W fun e w' => e = .returned (.int .i64 (stepsOf xs)) ∧ Below W.heap.size W w') := Lib.hid (fun W u h => specSteps_any u xs W h)
  have HIM : Hid (∀ (W : World) (u : Value), IsInts W u xs → Calls Try.prog 31 #[u] W fun e w' => e = .returned (.int .i64 (stepsOf xs)) ∧ Below W.heap.size W w') := Lib.hid (fun W u h => implSteps_any u xs W h)
  generalize stepsOf xs = r at HSP HIM
  have hne : (r != r) = false := by simp
  obtain ⟨a, cap, rfl, hmx⟩ : ∃ a cap, v = .slice a xs.length cap ∧ xs.length ≤ 9223372036854775807 := by obtain ⟨a, cap, rfl, h1, h2, _⟩ := h; unfold maxLen at h2; exact ⟨a, cap, rfl, by omega⟩
  clear h
  have HXX : Hid ((xs == xs) = true) := by
    have : (xs == xs) = true := by simp
    exact Lib.hid this
  by_cases hbig : 1048576 < xs.length
  · go_enter Try.func18, Try.ntmps18
    go_wp2
    go_ret
    exact ⟨rfl, Below.refl _ _⟩
  · have hl1 : xs.length ≤ 1048576 := by omega
    go_enter Try.func18, Try.ntmps18
    go_wp2_with fail
    refine (toIntS_any _ xs _ H.out hl1).mono ?_
    rintro e w1 ⟨v1, rfl, ho1, hb1⟩
    have B1 := Lib.hid hb1
    have I1 := Lib.hid (IsInts.of_owns ho1)
    clear ho1 hb1
    go_wp2_with fail
    refine (HSP.out w1 v1 I1.out).mono ?_
    rintro e w2 ⟨rfl, hb2⟩
    have B2 := Lib.hid (B1.out.trans (hb2.mono B1.out.size))
    clear hb2
    go_wp2_with fail
    refine (toIntS_any _ xs _ (H.out.below B2.out) hl1).mono ?_
    rintro e w3 ⟨v3, rfl, ho3, hb3⟩
    have B3 := Lib.hid (B2.out.trans (hb3.mono B2.out.size))
    have I3 := Lib.hid (IsInts.of_owns ho3)
    clear ho3 hb3
    go_wp2_with fail
    refine (HIM.out w3 v3 I3.out).mono ?_
    rintro e w4 ⟨rfl, hb4⟩
    have B4 := Lib.hid (B3.out.trans (hb4.mono B3.out.size))
    have I4 := Lib.hid (I3.out.below hb4)
    clear hb4
    go_wp2_with fail
    refine (toIntS_any _ xs _ (H.out.below B4.out) hl1).mono ?_
    rintro e w5 ⟨v5, rfl, ho5, hb5⟩
    have B5 := Lib.hid (B4.out.trans (hb5.mono B4.out.size))
    have I5 := Lib.hid (IsInts.of_owns ho5)
    have J5 := Lib.hid (I4.out.below hb5)
    clear ho5 hb5
    go_wp2_with fail
    refine (eqIntS_any v3 v5 xs xs _ J5.out I5.out).mono ?_
    rintro e w6 ⟨rfl, n6, rfl⟩
    rw [HXX.out]
    go_wp2
    go_ret
    exact ⟨rfl, below_drewN B5.out n6⟩
end Go.Proofs.Ythdpeholeelhdaa
