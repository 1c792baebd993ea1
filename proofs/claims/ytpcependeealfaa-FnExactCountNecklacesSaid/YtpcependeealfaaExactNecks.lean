/- The walk of FnExactCountNecklaces: true at every argument. No condition. -/
import Derived.Test.YtpcependeealfaaNeckCnt
import Derived.Test.YtpcependeealfaaMachLaw
import Derived.Deep.RegionWith
namespace Go.Proofs.Ytpcependeealfaa
open Go.RowKit

set_option maxHeartbeats 1600000 in
theorem exactCountNecklaces_walk {w : World} (st : Int) (hst : (Lit.int .i64 st).wf = true) (nv : Value) (xs : List Int) (hn0 : IsInts w nv xs) (ev : Value) (bs : List Bool) (he0 : IsBools w ev bs) (n : Int) (_hn : (Lit.int .i64 n).wf = true) :
    Calls Try.prog 17 #[.agg #[.int .i64 st, nv, ev], .int .i64 n] w fun e w' => e = .returned (.bool true) ∧ Below w.heap.size w w' := by
  have hM : MachBox w.heap.size st nv xs ev bs (w.alloc (.cells #[.int .i64 st, nv, ev] 55)) := MachBox.new _ hn0 he0
  have M0 := Lib.hid hM
  have q0 : Hid (Below w.heap.size w (w.alloc (.cells #[.int .i64 st, nv, ev] 55))) := Lib.hid ((Below.refl _ _).alloc (Nat.le_refl _) _)
  have HS : Hid (∀ W a b, IsInts W a xs → IsBools W b bs → Calls Try.prog 58 #[.agg #[.int .i64 st, a, b], .int .i64 n] W fun e w' => e = .returned (.int .i64 (countNecks ⟨st, xs, bs⟩ n)) ∧ Below W.heap.size W w') := Lib.hid (fun W a b h1 h2 => specCountNecklaces_any ⟨st, xs, bs⟩ n a b W h1 h2 hst)
  have HI : Hid (∀ W a b, IsInts W a xs → IsBools W b bs → Calls Try.prog 59 #[.agg #[.int .i64 st, a, b], .int .i64 n] W fun e w' => e = .returned (.int .i64 (countNecks ⟨st, xs, bs⟩ n)) ∧ Below W.heap.size W w') := Lib.hid (fun W a b h1 h2 => implCountNecklaces_any ⟨st, xs, bs⟩ n a b W h1 h2 hst)
  generalize countNecks ⟨st, xs, bs⟩ n = r at *
  clear hM hn0 he0
  go_enter Try.func17, Try.ntmps17
  go_wp2_with fail
  refine (szMachine_any ⟨st, xs, bs⟩ nv ev 1048576 _ M0.out.ints M0.out.bools (by omega) (by omega)).mono ?_
  rintro e w1 ⟨rfl, hb1⟩
  have M1 := Lib.hid (M0.out.below hb1)
  have q1 := Lib.hid (q0.out.trans (hb1.mono q0.out.size))
  clear hb1
  by_cases hs : szM ⟨st, xs, bs⟩ 1048576 < 0
  · go_wp2_with fail
    go_ret
    exact ⟨rfl, q1.out⟩
  · have hbd := szM_bd (m := ⟨st, xs, bs⟩) (left := 1048576) (by omega)
    simp only at hbd
    generalize szM ⟨st, xs, bs⟩ 1048576 = left at *
    have y10 := M1.out.c0
    have y11 := M1.out.c1
    have y12 := M1.out.c2
    go_wp2_with fail
    clear y10 y11 y12
    refine (toMachine_any ⟨st, xs, bs⟩ nv ev _ M1.out.ints M1.out.bools (by show xs.length ≤ _; omega) (by show bs.length ≤ _; omega)).mono ?_
    rintro e w2 ⟨nv2, ev2, rfl, hn2, he2, hb2⟩
    have M2 := Lib.hid (M1.out.below hb2)
    have q2 := Lib.hid (q1.out.trans (hb2.mono q1.out.size))
    have y20 := M2.out.c0
    have y21 := M2.out.c1
    have y22 := M2.out.c2
    have H2 := Lib.hid (And.intro hn2 he2)
    clear hn2 he2 hb2
    go_wp2_with fail
    clear y20 y21 y22
    refine (HS.out _ nv2 ev2 H2.out.1 H2.out.2).mono ?_
    rintro e w3 ⟨rfl, hb3⟩
    have M3 := Lib.hid (M2.out.below hb3)
    have q3 := Lib.hid (q2.out.trans (hb3.mono q2.out.size))
    have y30 := M3.out.c0
    have y31 := M3.out.c1
    have y32 := M3.out.c2
    clear hb3
    go_wp2_with fail
    clear y30 y31 y32
    refine (toMachine_any ⟨st, xs, bs⟩ nv ev _ M3.out.ints M3.out.bools (by show xs.length ≤ _; omega) (by show bs.length ≤ _; omega)).mono ?_
    rintro e w4 ⟨nv4, ev4, rfl, hn4, he4, hb4⟩
    have M4 := Lib.hid (M3.out.below hb4)
    have q4 := Lib.hid (q3.out.trans (hb4.mono q3.out.size))
    have y40 := M4.out.c0
    have y41 := M4.out.c1
    have y42 := M4.out.c2
    obtain ⟨a4, n4, c4, rfl⟩ := hn4.slice
    obtain ⟨d4, m4, p4, rfl⟩ := he4.slice
    have X5 := Lib.hid (MachBox.new (st := st) 26 hn4 he4)
    have hal : Below w4.heap.size w4 (w4.alloc (.cells #[.int .i64 st, .slice a4 n4 c4, .slice d4 m4 p4] 26)) := (Below.refl _ _).alloc (Nat.le_refl _) _
    have M5 := Lib.hid (M4.out.below hal)
    have q5 := Lib.hid (q4.out.trans (hal.mono q4.out.size))
    clear hn4 he4 hb4 hal
    go_wp2_with fail
    clear y40 y41 y42
    refine (HI.out _ _ _ X5.out.ints X5.out.bools).mono ?_
    rintro e w6 ⟨rfl, hb6⟩
    have M6 := Lib.hid (M5.out.below hb6)
    have X6 := Lib.hid (X5.out.below hb6)
    have q6 := Lib.hid (q5.out.trans (hb6.mono q5.out.size))
    clear hb6 M5 X5 q5
    have y60 := M6.out.c0
    have y61 := M6.out.c1
    have y62 := M6.out.c2
    have z60 := X6.out.c0
    have z61 := X6.out.c1
    have z62 := X6.out.c2
    go_wp2_with fail
    have M6d := Lib.hid (M6.out.below (Below.refl _ w6).drew)
    have X6d := Lib.hid (X6.out.below (Below.refl _ w6).drew)
    have hl1 : xs.length ≤ 1048576 := by omega
    have hl2 : bs.length ≤ 1048576 := by omega
    go_region_with (first | (go_at_call 54; refine (toMachine_any ⟨st, xs, bs⟩ nv ev w6.drew M6d.out.ints M6d.out.bools hl1 hl2).mono ?_; rintro e w7 ⟨nv7, ev7, rfl, hn7, he7, hb7⟩; have X7 := X6d.out.below hb7; have z70 := X7.c0; have z71 := X7.c1; have z72 := X7.c2) | (go_at_call 55; refine (eqMachine_same ⟨st, xs, bs⟩ _ _ nv7 ev7 w7 X7.ints X7.bools hn7 he7).mono ?_; rintro e w8 ⟨rfl, hb8⟩))
    all_goals
      go_wp2
      go_ret
      have q7 := q6.out.drew.trans (hb7.mono q6.out.size)
      exact ⟨rfl, q7.trans (hb8.mono q7.size)⟩
end Go.Proofs.Ytpcependeealfaa
