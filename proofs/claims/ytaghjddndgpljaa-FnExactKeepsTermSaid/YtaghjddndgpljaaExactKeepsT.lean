/- The walk of FnExactKeepsTerm: true at every row of marks and every text. No condition. -/
import Derived.Test.YtaghjddndgpljaaKeepsTI
import Derived.Test.YtaghjddndgpljaaMarksLaw
import Derived.Test.YtaghjddndgpljaaMarksCopy
namespace Go.Proofs.Ytaghjddndgpljaa
open Go.RowKit

set_option maxHeartbeats 1600000 in
theorem exactKeepsTerm_walk {w : World} (v : Value) (ms : List Mk) (h : IsMarks w v ms) (hwf : ∀ m ∈ ms, m.wf) (s : ByteArray) (hs : s.size ≤ maxLen) (hglob : ∃ m, w.cell? ⟨0, 0, none⟩ = some (.int .i64 m)) :
    Calls Try.prog 11 #[v, .string s] w fun e w' => e = .returned (.bool true) ∧ Below w.heap.size w w' := by
  have HM := Lib.hid h
  obtain ⟨M, hM⟩ := hglob
  have hMl : 0 < w.heap.size := World.block_lt_of_cell? w ⟨0, 0, none⟩ hM
  have HG := Lib.hid (fun W (hb : Below w.heap.size w W) => (hb.cell (p := ⟨0, 0, none⟩) hMl).trans hM)
  have HS := Lib.hid hs
  have hne : ∀ b : Bool, (b != b) = false := fun b => by cases b <;> rfl
  obtain ⟨a, cap, rfl, -, -, -⟩ := h
  unfold maxLen at hs
  clear hM hMl
  by_cases hlong : 1048576 < s.size
  · go_enter Try.func11, Try.ntmps11
    go_wp2_with fail
    go_ret
    exact ⟨rfl, Below.refl _ _⟩
  · go_enter Try.func11, Try.ntmps11
    go_wp2_with fail
    refine (szMarkS_any ms hwf _ w HM.out 1048576 (by omega) (by omega)).mono ?_
    rintro e w1 ⟨⟨r, rfl, hr0, hr1, hrl⟩, hb1⟩
    have B1 := Lib.hid hb1
    clear hb1
    by_cases hr : r < 0
    · go_wp2_with fail
      go_ret
      exact ⟨rfl, B1.out⟩
    · have hlen := hrl (by omega)
      clear hrl
      go_wp2_with fail
      refine (toMarkS_any _ ms w1 (HM.out.below B1.out) hlen).mono ?_
      rintro e w2 ⟨v2, rfl, hown, hb2⟩
      have B2 := Lib.hid (B1.out.trans (hb2.mono B1.out.size))
      have M2 := Lib.hid (IsMarks.of_owns hown)
      obtain ⟨a2, cap2, rfl, -, -, -⟩ := IsMarks.of_owns hown
      clear hown hb2
      go_wp2_with fail
      refine (specKeepsTerm_any ms _ s w2 M2.out hlen HS.out).mono ?_
      rintro e w3 ⟨⟨b, hb, rfl⟩, hb3⟩
      have HB := Lib.hid hb
      have B3 := Lib.hid (B2.out.trans (hb3.mono B2.out.size))
      clear hb3 hb
      go_wp2_with fail
      refine (toMarkS_any _ ms w3 (HM.out.below B3.out) hlen).mono ?_
      rintro e w4 ⟨v4, rfl, hown, hb4⟩
      have B4 := Lib.hid (B3.out.trans (hb4.mono B3.out.size))
      have M4 := Lib.hid (IsMarks.of_owns hown)
      obtain ⟨a4, cap4, rfl, -, -, -⟩ := IsMarks.of_owns hown
      clear hown hb4
      go_wp2_with fail
      refine (implKeepsTerm_any ms hwf _ s M w4 M4.out HS.out (HG.out _ B4.out)).mono ?_
      rintro e w5 ⟨⟨b2, hb2, rfl⟩, hb5⟩
      obtain rfl := hb2.one HB.out
      have B5 := Lib.hid (B4.out.trans (hb5.mono B4.out.size))
      have M5 := Lib.hid (M4.out.below hb5)
      have hnb := hne b2
      clear hb5 hb2 HB hne
      go_wp2_with fail
      refine (toMarkS_any _ ms w5 (HM.out.below B5.out) hlen).mono ?_
      rintro e w6 ⟨v6, rfl, hown, hb6⟩
      have B6 := Lib.hid (B5.out.trans (hb6.mono B5.out.size))
      have M6 := Lib.hid (IsMarks.of_owns hown)
      have M56 := Lib.hid (M5.out.below hb6)
      obtain ⟨a6, cap6, rfl, -, -, -⟩ := IsMarks.of_owns hown
      clear hown hb6
      go_wp2_with fail
      refine (eqMarkS_same ms _ _ w6 M56.out M6.out).mono ?_
      rintro e w7 ⟨rfl, hb7⟩
      have B7 := Lib.hid (B6.out.trans (hb7.mono B6.out.size))
      clear hb7
      go_wp2_with fail
      go_ret
      exact ⟨rfl, B7.out⟩
end Go.Proofs.Ytaghjddndgpljaa
