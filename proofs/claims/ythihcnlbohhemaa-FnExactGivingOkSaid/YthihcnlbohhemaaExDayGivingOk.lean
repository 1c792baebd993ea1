/- The walk of FnExactGivingOk: true at every day. No condition. -/
import Derived.Test.YthihcnlbohhemaaDayGivS
import Derived.Deep.RegionWith
namespace Go.Proofs.Ythihcnlbohhemaa
open Go.RowKit

set_option maxHeartbeats 1600000 in
theorem exactGivingOk_walk {w : World} (ppl : Int) (_hp : (Lit.int .i64 ppl).wf = true) (cv : Value) (xs : List Int) (hn0 : IsInts w cv xs) (wv : Value) (ws : List Int) (hw0 : IsInts w wv ws) :
    Calls Try.prog 15 #[.agg #[.int .i64 ppl, cv], wv] w fun e w' => e = .returned (.bool true) ∧ Below w.heap.size w w' := by
  have hM : DayBox w.heap.size ppl cv xs (w.alloc (.cells #[.int .i64 ppl, cv] 56)) := DayBox.new _ hn0
  have M0 := Lib.hid hM
  have q0 : Hid (Below w.heap.size w (w.alloc (.cells #[.int .i64 ppl, cv] 56))) := Lib.hid ((Below.refl _ _).alloc (Nat.le_refl _) _)
  have WB := Lib.hid hw0
  obtain ⟨wa, wc, rfl, hwc1, hwc2, _⟩ := hw0
  unfold maxLen at hwc2
  clear hM hn0
  by_cases hwl : ws.length ≤ 1048576
  · have hwl' : ¬ (1048576 : Int) < ws.length := by omega
    go_enter Try.func15, Try.ntmps15
    go_wp2_with fail
    refine (szDay_any ppl xs cv 1048576 _ M0.out.ints (by omega) (by omega)).mono ?_
    rintro e w1 ⟨rfl, hb1⟩
    have M1 := Lib.hid (M0.out.below hb1)
    have q1 := Lib.hid (q0.out.trans (hb1.mono q0.out.size))
    clear hb1
    by_cases hs : szOf xs.length 1048576 < 0
    · go_wp2_with fail
      go_ret
      exact ⟨rfl, q1.out⟩
    · have hbd := szOf_bd (n := xs.length) (left := 1048576) (by omega)
      generalize szOf xs.length 1048576 = left at *
      have y10 := M1.out.c0
      have y11 := M1.out.c1
      go_wp2_with fail
      clear y10 y11
      refine (toDay_any ppl xs cv _ M1.out.ints (by omega)).mono ?_
      rintro e w2 ⟨cv2, rfl, ho2, hb2⟩
      have M2 := Lib.hid (M1.out.below hb2)
      have q2 := Lib.hid (q1.out.trans (hb2.mono q1.out.size))
      have y20 := M2.out.c0
      have y21 := M2.out.c1
      have H2 := Lib.hid (IsInts.of_owns ho2)
      clear ho2 hb2
      go_wp2_with fail
      clear y20 y21
      refine (toIntS_any _ ws _ (WB.out.below q2.out) hwl).mono ?_
      rintro e w2b ⟨wv2, rfl, ho2b, hb2b⟩
      have M2 := Lib.hid (M2.out.below hb2b)
      have q2 := Lib.hid (q2.out.trans (hb2b.mono q2.out.size))
      have H2 := Lib.hid (H2.out.below hb2b)
      have K2 := Lib.hid (IsInts.of_owns ho2b)
      clear ho2b hb2b
      go_wp2_with fail
      refine (specGivingOk_any ppl xs cv2 ws wv2 _ H2.out K2.out).mono ?_
      rintro e w3 ⟨rfl, hb3⟩
      have M3 := Lib.hid (M2.out.below hb3)
      have q3 := Lib.hid (q2.out.trans (hb3.mono q2.out.size))
      have y30 := M3.out.c0
      have y31 := M3.out.c1
      clear hb3
      go_wp2_with fail
      clear y30 y31
      refine (toDay_any ppl xs cv _ M3.out.ints (by omega)).mono ?_
      rintro e w4 ⟨cv4, rfl, ho4, hb4⟩
      have M4 := Lib.hid (M3.out.below hb4)
      have q4 := Lib.hid (q3.out.trans (hb4.mono q3.out.size))
      have y40 := M4.out.c0
      have y41 := M4.out.c1
      have hn4 := IsInts.of_owns ho4
      obtain ⟨a4, n4, c4, rfl⟩ := hn4.slice
      have X5 := Lib.hid (DayBox.new (ppl := ppl) 44 hn4)
      have hal : Below w4.heap.size w4 (w4.alloc (.cells #[.int .i64 ppl, .slice a4 n4 c4] 44)) := (Below.refl _ _).alloc (Nat.le_refl _) _
      have M5 := Lib.hid (M4.out.below hal)
      have q5 := Lib.hid (q4.out.trans (hal.mono q4.out.size))
      clear hn4 ho4 hb4 hal
      go_wp2_with fail
      clear y40 y41
      refine (toIntS_any _ ws _ (WB.out.below q5.out) hwl).mono ?_
      rintro e w5 ⟨wv5, rfl, ho5, hb5⟩
      have M5 := Lib.hid (M5.out.below hb5)
      have X5 := Lib.hid (X5.out.below hb5)
      have q5 := Lib.hid (q5.out.trans (hb5.mono q5.out.size))
      have K5 := Lib.hid (IsInts.of_owns ho5)
      obtain ⟨wa5, wn5, wc5, rfl⟩ := K5.out.slice
      have x50 := X5.out.c0
      have x51 := X5.out.c1
      clear ho5 hb5
      go_wp2_with fail
      clear x50 x51
      refine (implGivingOk_any ppl xs _ ws _ _ X5.out.ints K5.out).mono ?_
      rintro e w6 ⟨rfl, hb6⟩
      have M6 := Lib.hid (M5.out.below hb6)
      have X6 := Lib.hid (X5.out.below hb6)
      have q6 := Lib.hid (q5.out.trans (hb6.mono q5.out.size))
      have K6 := Lib.hid (K5.out.below hb6)
      clear hb6 M5 X5 q5
      have y60 := M6.out.c0
      have y61 := M6.out.c1
      have z60 := X6.out.c0
      have z61 := X6.out.c1
      go_wp2_with fail
      have M6d := Lib.hid (M6.out.below (Below.refl _ w6).drew)
      have X6d := Lib.hid (X6.out.below (Below.refl _ w6).drew)
      have hl1 : xs.length ≤ 1048576 := by omega
      go_region_with (first | (go_at_call 58; refine (toDay_any ppl xs cv w6.drew M6d.out.ints hl1).mono ?_; rintro e w7 ⟨cv7, rfl, ho7, hb7⟩; have hn7 := IsInts.of_owns ho7; have X7 := X6d.out.below hb7; have z70 := X7.c0; have z71 := X7.c1) | (go_at_call 59; refine (eqDay_same ppl xs _ cv7 w7 X7.ints hn7).mono ?_; rintro e w8 ⟨rfl, hb8⟩))
      all_goals
        have q7 := Lib.hid (q6.out.drew.trans (hb7.mono q6.out.size))
        have K7 := Lib.hid (((K6.out.below (Below.refl _ _).drew).below hb7).below hb8)
        have q8 := Lib.hid (q7.out.trans (hb8.mono q7.out.size))
        clear hb7 hb8 hn7 ho7 z60 z61 z70 z71 y60 y61 X7
        go_wp2_with fail
        refine (toIntS_any _ ws _ (WB.out.below q8.out) hwl).mono ?_
        rintro e w9 ⟨wv9, rfl, ho9, hb9⟩
        have K9 := Lib.hid (K7.out.below hb9)
        have q9 := Lib.hid (q8.out.trans (hb9.mono q8.out.size))
        have L9 := Lib.hid (IsInts.of_owns ho9)
        obtain ⟨wa9, wn9, wc9, rfl⟩ := L9.out.slice
        clear ho9 hb9
        go_wp2_with fail
        refine (eqIntS_any _ _ ws ws _ K9.out L9.out).mono ?_
        rintro e w10 ⟨rfl, n10, rfl⟩
        have hself : (ws == ws) = true := by simp
        rw [hself]
        clear hself
        go_wp2_with fail
        go_ret
        exact ⟨rfl, below_drewN q9.out _⟩
  · have hwl' : (1048576 : Int) < ws.length := by omega
    go_enter Try.func15, Try.ntmps15
    go_wp2_with fail
    go_ret
    exact ⟨rfl, q0.out⟩
end Go.Proofs.Ythihcnlbohhemaa
