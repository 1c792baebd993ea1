/- The walk of FnExactRulesIn: true at every row of marks. No condition. -/
import Derived.Test.YtlfjecaffmfgcaaRulesIn
import Derived.Test.YtlfjecaffmfgcaaMarksLaw
import Derived.Test.YtlfjecaffmfgcaaMarksCopy
namespace Go.Proofs.Ytlfjecaffmfgcaa
open Go.RowKit

set_option maxHeartbeats 1600000 in
theorem exactRulesIn_walk {w : World} (v : Value) (ms : List Mk) (h : IsMarks w v ms) (hwf : ∀ m ∈ ms, m.wf) :
    Calls Try.prog 5 #[v] w fun e w' => e = .returned (.bool true) ∧ Below w.heap.size w w' := by
  have HM := Lib.hid h
  have hne : (rulesIn ms != rulesIn ms) = false := by simp
  obtain ⟨a, cap, rfl, -, -, -⟩ := h
  go_enter Try.func5, Try.ntmps5
  go_wp2_with fail
  refine (szMarkS_any ms hwf _ w HM.out 1048576 (by omega) (by omega)).mono ?_
  rintro e w1 ⟨⟨r, rfl, hr0, hr1, hrl⟩, hb1⟩
  have B1 := Lib.hid hb1
  clear hb1
  by_cases hr : r < 0
  · go_wp2_with fail
    go_ret
    exact ⟨rfl, B1.out⟩
  · have hlen := hrl (by omega)
    clear hrl
    go_wp2_with fail
    refine (toMarkS_any _ ms w1 (HM.out.below B1.out) hlen).mono ?_
    rintro e w2 ⟨v2, rfl, hown, hb2⟩
    have B2 := Lib.hid (B1.out.trans (hb2.mono B1.out.size))
    have M2 := Lib.hid (IsMarks.of_owns hown)
    obtain ⟨a2, cap2, rfl, -, -, -⟩ := IsMarks.of_owns hown
    clear hown hb2
    go_wp2_with fail
    refine (specRulesIn_any ms _ w2 M2.out hlen).mono ?_
    rintro e w3 ⟨rfl, hb3⟩
    have B3 := Lib.hid (B2.out.trans (hb3.mono B2.out.size))
    clear hb3
    go_wp2_with fail
    refine (toMarkS_any _ ms w3 (HM.out.below B3.out) hlen).mono ?_
    rintro e w4 ⟨v4, rfl, hown, hb4⟩
    have B4 := Lib.hid (B3.out.trans (hb4.mono B3.out.size))
    have M4 := Lib.hid (IsMarks.of_owns hown)
    obtain ⟨a4, cap4, rfl, -, -, -⟩ := IsMarks.of_owns hown
    clear hown hb4
    go_wp2_with fail
    refine (implRulesIn_any ms hwf _ w4 M4.out).mono ?_
    rintro e w5 ⟨rfl, hb5⟩
    have B5 := Lib.hid (B4.out.trans (hb5.mono B4.out.size))
    have M5 := Lib.hid (M4.out.below hb5)
    clear hb5
    go_wp2_with fail
    refine (toMarkS_any _ ms w5 (HM.out.below B5.out) hlen).mono ?_
    rintro e w6 ⟨v6, rfl, hown, hb6⟩
    have B6 := Lib.hid (B5.out.trans (hb6.mono B5.out.size))
    have M6 := Lib.hid (IsMarks.of_owns hown)
    have M56 := Lib.hid (M5.out.below hb6)
    obtain ⟨a6, cap6, rfl, -, -, -⟩ := IsMarks.of_owns hown
    clear hown hb6
    go_wp2_with fail
    refine (eqMarkS_same ms _ _ w6 M56.out M6.out).mono ?_
    rintro e w7 ⟨rfl, hb7⟩
    have B7 := Lib.hid (B6.out.trans (hb7.mono B6.out.size))
    clear hb7
    go_wp2_with fail
    go_ret
    exact ⟨rfl, B7.out⟩
end Go.Proofs.Ytlfjecaffmfgcaa
