/- The walk of FnExactCountGivings: true at every day. No condition. -/
import Derived.Test.YthihcnlbohhemaaDayFirstS
import Derived.Deep.RegionWith
namespace Go.Proofs.Ythihcnlbohhemaa
open Go.RowKit

set_option maxHeartbeats 1600000 in
theorem exactCountGivings_walk {w : World} (ppl : Int) (_hp : (Lit.int .i64 ppl).wf = true) (cv : Value) (xs : List Int) (hn0 : IsInts w cv xs) :
    Calls Try.prog 17 #[.agg #[.int .i64 ppl, cv]] w fun e w' => e = .returned (.bool true) ∧ Below w.heap.size w w' := by
  have hM : DayBox w.heap.size ppl cv xs (w.alloc (.cells #[.int .i64 ppl, cv] 56)) := DayBox.new _ hn0
  have M0 := Lib.hid hM
  have q0 : Hid (Below w.heap.size w (w.alloc (.cells #[.int .i64 ppl, cv] 56))) := Lib.hid ((Below.refl _ _).alloc (Nat.le_refl _) _)
  clear hM hn0
  go_enter Try.func17, Try.ntmps17
  go_wp2_with fail
  refine (szDay_any ppl xs cv 1048576 _ M0.out.ints (by omega) (by omega)).mono ?_
  rintro e w1 ⟨rfl, hb1⟩
  have M1 := Lib.hid (M0.out.below hb1)
  have q1 := Lib.hid (q0.out.trans (hb1.mono q0.out.size))
  clear hb1
  by_cases hs : szOf xs.length 1048576 < 0
  · go_wp2_with fail
    go_ret
    exact ⟨rfl, q1.out⟩
  · have hbd := szOf_bd (n := xs.length) (left := 1048576) (by omega)
    generalize szOf xs.length 1048576 = left at *
    have y10 := M1.out.c0
    have y11 := M1.out.c1
    go_wp2_with fail
    clear y10 y11
    refine (toDay_any ppl xs cv _ M1.out.ints (by omega)).mono ?_
    rintro e w2 ⟨cv2, rfl, ho2, hb2⟩
    have M2 := Lib.hid (M1.out.below hb2)
    have q2 := Lib.hid (q1.out.trans (hb2.mono q1.out.size))
    have y20 := M2.out.c0
    have y21 := M2.out.c1
    have H2 := Lib.hid (IsInts.of_owns ho2)
    clear ho2 hb2
    go_wp2_with fail
    clear y20 y21
    refine (specCountGivings_any ppl xs cv2 _ H2.out).mono ?_
    rintro e w3 ⟨rfl, hb3⟩
    have M3 := Lib.hid (M2.out.below hb3)
    have q3 := Lib.hid (q2.out.trans (hb3.mono q2.out.size))
    have y30 := M3.out.c0
    have y31 := M3.out.c1
    clear hb3
    go_wp2_with fail
    clear y30 y31
    refine (toDay_any ppl xs cv _ M3.out.ints (by omega)).mono ?_
    rintro e w4 ⟨cv4, rfl, ho4, hb4⟩
    have M4 := Lib.hid (M3.out.below hb4)
    have q4 := Lib.hid (q3.out.trans (hb4.mono q3.out.size))
    have y40 := M4.out.c0
    have y41 := M4.out.c1
    have hn4 := IsInts.of_owns ho4
    obtain ⟨a4, n4, c4, rfl⟩ := hn4.slice
    have X5 := Lib.hid (DayBox.new (ppl := ppl) 44 hn4)
    have hal : Below w4.heap.size w4 (w4.alloc (.cells #[.int .i64 ppl, .slice a4 n4 c4] 44)) := (Below.refl _ _).alloc (Nat.le_refl _) _
    have M5 := Lib.hid (M4.out.below hal)
    have q5 := Lib.hid (q4.out.trans (hal.mono q4.out.size))
    clear hn4 ho4 hb4 hal
    go_wp2_with fail
    clear y40 y41
    refine (implCountGivings_any ppl xs _ _ X5.out.ints).mono ?_
    rintro e w6 ⟨rfl, hb6⟩
    have M6 := Lib.hid (M5.out.below hb6)
    have X6 := Lib.hid (X5.out.below hb6)
    have q6 := Lib.hid (q5.out.trans (hb6.mono q5.out.size))
    clear hb6 M5 X5 q5
    have y60 := M6.out.c0
    have y61 := M6.out.c1
    have z60 := X6.out.c0
    have z61 := X6.out.c1
    go_wp2_with fail
    have M6d := Lib.hid (M6.out.below (Below.refl _ w6).drew)
    have X6d := Lib.hid (X6.out.below (Below.refl _ w6).drew)
    have hl1 : xs.length ≤ 1048576 := by omega
    go_region_with (first | (go_at_call 58; refine (toDay_any ppl xs cv w6.drew M6d.out.ints hl1).mono ?_; rintro e w7 ⟨cv7, rfl, ho7, hb7⟩; have hn7 := IsInts.of_owns ho7; have X7 := X6d.out.below hb7; have z70 := X7.c0; have z71 := X7.c1) | (go_at_call 59; refine (eqDay_same ppl xs _ cv7 w7 X7.ints hn7).mono ?_; rintro e w8 ⟨rfl, hb8⟩))
    all_goals
      go_wp2
      go_ret
      have q7 := q6.out.drew.trans (hb7.mono q6.out.size)
      exact ⟨rfl, q7.trans (hb8.mono q7.size)⟩
end Go.Proofs.Ythihcnlbohhemaa
