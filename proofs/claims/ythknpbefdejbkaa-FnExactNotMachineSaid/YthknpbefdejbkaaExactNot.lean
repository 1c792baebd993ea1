/- The walk of FnExactNotMachine: true at every machine. No condition. -/
import Derived.Test.YthknpbefdejbkaaBoxed
import Derived.Test.YthknpbefdejbkaaSpecJ
import Derived.Test.YthknpbefdejbkaaNotMach
import Derived.Deep.RegionWith
namespace Go.Proofs.Ythknpbefdejbkaa
open Go.RowKit

set_option maxHeartbeats 4000000 in
theorem exactNotMachine_walk {w : World} (st : Int) (hst : (Lit.int .i64 st).wf = true) (nv : Value) (xs : List Int) (hn0 : IsInts w nv xs) (ev : Value) (bs : List Bool) (he0 : IsBools w ev bs) :
    Calls Try.prog 3 #[.agg #[.int .i64 st, nv, ev]] w fun e w' => e = .returned (.bool true) ∧ Below w.heap.size w w' := by
  have hM : MachBox w.heap.size st nv xs ev bs (w.alloc (.cells #[.int .i64 st, nv, ev] 25)) := MachBox.new _ hn0 he0
  have M0 := Lib.hid hM
  have q0 : Hid (Below w.heap.size w (w.alloc (.cells #[.int .i64 st, nv, ev] 25))) := Lib.hid ((Below.refl _ _).alloc (Nat.le_refl _) _)
  clear hM hn0 he0
  go_enter Try.func3, Try.ntmps3
  go_wp2_with fail
  refine (szMachine_any ⟨st, xs, bs⟩ nv ev 1048576 _ M0.out.ints M0.out.bools (by omega) (by omega)).mono ?_
  rintro e w1 ⟨rfl, hb1⟩
  have M1 := Lib.hid (M0.out.below hb1)
  have q1 := Lib.hid (q0.out.trans (hb1.mono q0.out.size))
  clear hb1
  by_cases hs : szM ⟨st, xs, bs⟩ 1048576 < 0
  · go_wp2_with fail
    go_ret
    exact ⟨rfl, q1.out⟩
  have hbd := szM_bd (m := ⟨st, xs, bs⟩) (left := 1048576) (by omega)
  simp only at hbd
  have hl1 : xs.length ≤ 1048576 := by omega
  have hl2 : bs.length ≤ 1048576 := by omega
  generalize szM ⟨st, xs, bs⟩ 1048576 = left at *
  have y0 := M1.out.c0
  have y1 := M1.out.c1
  have y2 := M1.out.c2
  go_wp2_with fail
  clear y0 y1 y2
  refine (toMachine_any ⟨st, xs, bs⟩ nv ev _ M1.out.ints M1.out.bools hl1 hl2).mono ?_
  rintro e w2 ⟨nv2, ev2, rfl, hn2, he2, hb2⟩
  have M2 := Lib.hid (M1.out.below hb2)
  have q2 := Lib.hid (q1.out.trans (hb2.mono q1.out.size))
  have H2 := Lib.hid (And.intro hn2 he2)
  clear hn2 he2 hb2
  go_wp2_with fail
  refine (specNot_any ⟨st, xs, bs⟩ nv2 ev2 _ H2.out.1 H2.out.2 hst).mono ?_
  rintro e w3 h3
  obtain ⟨T, rr, sv, se, hTT, rfl, hn3, he3, hb3⟩ := h3.reads
  have hbb : (rr != rr) = false := by simp
  have M3 := Lib.hid (M2.out.below hb3)
  have q3 := Lib.hid (q2.out.trans (hb3.mono q2.out.size))
  have hT := Lib.hid hTT.len
  obtain ⟨ts, tx, tb⟩ := T
  have HTT := Lib.hid hTT
  simp only at hn3 he3 hT
  obtain ⟨s1, s2, s3, rfl⟩ := hn3.slice
  obtain ⟨s4, s5, s6, rfl⟩ := he3.slice
  have hal : Below w3.heap.size w3 (w3.alloc (.cells #[.int .i64 ts, .slice s1 s2 s3, .slice s4 s5 s6] 27)) := (Below.refl _ _).alloc (Nat.le_refl _) _
  have S4 := Lib.hid (MachBox.new (st := ts) 27 hn3 he3)
  have M4 := Lib.hid (M3.out.below hal)
  have q4 := Lib.hid (q3.out.trans (hal.mono q3.out.size))
  clear hn3 he3 hb3 hal h3 H2 hTT
  have y0 := M4.out.c0
  have y1 := M4.out.c1
  have y2 := M4.out.c2
  simp only
  go_wp2_with fail
  clear y0 y1 y2
  generalize hW4 : w3.alloc (.cells #[.int .i64 ts, .slice s1 s2 s3, .slice s4 s5 s6] 27) = w4 at *
  refine (toMachine_new ⟨st, xs, bs⟩ nv ev _ M4.out.ints M4.out.bools hl1 hl2).mono ?_
  rintro e w5 ⟨x1, x2, k1, k2, rfl, hA5, hb5⟩
  simp only at hA5
  have A5 : Apart w4.heap.size [rI (.slice x1 xs.length k1) xs, rB (.slice x2 bs.length k2) bs] w5 := hA5
  have A6 := Lib.hid (boxed st (.slice x1 xs.length k1) (.slice x2 bs.length k2) A5 hb5.size)
  have Q6 := Lib.hid (hb5.alloc hb5.size (.cells #[.int .i64 st, .slice x1 xs.length k1, .slice x2 bs.length k2] 27))
  have X6 := Lib.hid (And.intro (IsInts.of_owns A5.head) (IsBools.of_owns A5.tail.head))
  have HB4 := Lib.hid (Nat.le_refl w4.heap.size)
  clear hA5 hb5 A5
  have hal : Below w5.heap.size w5 (w5.alloc (.cells #[.int .i64 st, .slice x1 xs.length k1, .slice x2 bs.length k2] 27)) := (Below.refl _ _).alloc (Nat.le_refl _) _
  have X6i := Lib.hid (X6.out.1.below hal)
  have X6b := Lib.hid (X6.out.2.below hal)
  clear hal X6
  go_wp2_with fail
  refine (implNot_any ⟨st, xs, bs⟩ _ _ _ X6i.out X6b.out hst).mono ?_
  rintro e w7 h7
  obtain ⟨T7, r7, g1, g2, k3, k4, hT7, rfl, hA7, hb7⟩ := h7.form
  obtain ⟨rfl, rfl⟩ := hT7.one HTT.out
  clear hT7 h7
  simp only at hA7
  have hB6 : w4.heap.size ≤ (w5.alloc (.cells #[.int .i64 st, .slice x1 xs.length k1, .slice x2 bs.length k2] 27)).heap.size := Q6.out.size
  have A7 : Apart w4.heap.size [rI (.slice g1 tx.length k3) tx, rB (.slice g2 tb.length k4) tb, cM w5.heap.size st (.slice x1 xs.length k1) (.slice x2 bs.length k2), rI (.slice x1 xs.length k1) xs, rB (.slice x2 bs.length k2) bs] w7 := apart_join A6.out hb7 hA7 hB6
  have Q7 := Q6.out.trans (hb7.mono hB6)
  have A8 := Lib.hid (boxed ts (.slice g1 tx.length k3) (.slice g2 tb.length k4) A7 Q7.size)
  have Q8 := Lib.hid (Q7.alloc Q7.size (.cells #[.int .i64 ts, .slice g1 tx.length k3, .slice g2 tb.length k4] 27))
  clear hA7 hb7 A7 Q7 hB6 A6 Q6 X6i X6b
  generalize hW8 : w7.alloc (.cells #[.int .i64 ts, .slice g1 tx.length k3, .slice g2 tb.length k4] 27) = w8 at *
  generalize hBX : w5.heap.size = bx at *
  generalize hBG : w7.heap.size = bg at *
  have Z8 := Lib.hid (S4.out.below Q8.out)
  obtain ⟨y0, y1, y2⟩ := cM_at A8.out.head
  have y3 := Z8.out.c0
  have y4 := Z8.out.c1
  have y5 := Z8.out.c2
  simp only
  go_wp2_with fail
  clear y0 y1 y2 y3 y4 y5
  refine (eqMachine_same ⟨ts, tx, tb⟩ _ _ _ _ _ (IsInts.of_owns A8.out.tail.head) (IsBools.of_owns A8.out.tail.tail.head) Z8.out.ints Z8.out.bools).mono ?_
  rintro e w9 ⟨rfl, hb9⟩
  have A9 := Lib.hid (A8.out.below hb9)
  have Q9 := Lib.hid (Q8.out.trans (hb9.mono Q8.out.size))
  clear hb9 A8 Q8 Z8
  obtain ⟨y0, y1, y2⟩ := cM_at (A9.out.of (cM bx st (.slice x1 xs.length k1) (.slice x2 bs.length k2)) (by simp))
  have M9 := Lib.hid (M4.out.below Q9.out)
  have y3 := M9.out.c0
  have y4 := M9.out.c1
  have y5 := M9.out.c2
  go_wp2_with fail
  have M9d := Lib.hid (M9.out.below (Below.refl _ w9).drew)
  have A9d := Lib.hid (A9.out.below (Below.refl _ w9).drew)
  go_region_with (first | (go_at_call 14; refine (toMachine_any ⟨st, xs, bs⟩ nv ev w9.drew M9d.out.ints M9d.out.bools hl1 hl2).mono ?_; rintro e w10 ⟨nv7, ev7, rfl, hn7, he7, hb10⟩; have A10 := A9d.out.below hb10; obtain ⟨z0, z1, z2⟩ := cM_at (A10.of (cM bx st (.slice x1 xs.length k1) (.slice x2 bs.length k2)) (by simp))) | (go_at_call 16; refine (eqMachine_same ⟨st, xs, bs⟩ _ _ nv7 ev7 w10 (IsInts.of_owns (A10.of (rI (.slice x1 xs.length k1) xs) (by simp))) (IsBools.of_owns (A10.of (rB (.slice x2 bs.length k2) bs) (by simp))) hn7 he7).mono ?_; rintro e w11 ⟨rfl, hb11⟩))
  all_goals
    have A11 := Lib.hid (A10.below hb11)
    have Q11 := Lib.hid ((Q9.out.drew.trans (hb10.mono Q9.out.size)).trans (hb11.mono (Nat.le_trans Q9.out.size hb10.size)))
    clear hb10 hb11 A10 z0 z1 z2 hn7 he7 M9d A9d A9 M9 Q9 y0 y1 y2 y3 y4 y5
    obtain ⟨y0, y1, y2⟩ := cM_at (A11.out.of (cM bx st (.slice x1 xs.length k1) (.slice x2 bs.length k2)) (by simp))
    have B11 := Lib.hid (A11.out.perm (List.perm_append_comm (l₁ := [cM bg ts (.slice g1 tx.length k3) (.slice g2 tb.length k4), rI (.slice g1 tx.length k3) tx, rB (.slice g2 tb.length k4) tb, cM bx st (.slice x1 xs.length k1) (.slice x2 bs.length k2)]) (l₂ := [rI (.slice x1 xs.length k1) xs, rB (.slice x2 bs.length k2) bs])))
    clear A11
    go_wp2_with fail
    clear y0 y1 y2
    refine (markMachine_any w4.heap.size [cM bg ts (.slice g1 tx.length k3) (.slice g2 tb.length k4), rI (.slice g1 tx.length k3) tx, rB (.slice g2 tb.length k4) tb, cM bx st (.slice x1 xs.length k1) (.slice x2 bs.length k2)] st _ _ xs bs 1 _ B11.out Q11.out.size (by omega) (by omega) (by omega) (by omega)).mono ?_
    rintro e w12 ⟨rfl, hA12, hb12⟩
    have Q12 := Lib.hid (Q11.out.trans hb12)
    have A12 := Lib.hid hA12
    clear B11 hA12 hb12 Q11
    have Z12 := Lib.hid (S4.out.below Q12.out)
    obtain ⟨y0, y1, y2⟩ := cM_at (A12.out.of (cM bg ts (.slice g1 tx.length k3) (.slice g2 tb.length k4)) (by simp))
    have y3 := Z12.out.c0
    have y4 := Z12.out.c1
    have y5 := Z12.out.c2
    have hge : ¬ ((1 : Int) + (xs.length : Int) + (bs.length : Int) < 0) := by omega
    go_wp2_with fail
    clear y0 y1 y2 y3 y4 y5
    refine (eqMachine_same ⟨ts, tx, tb⟩ _ _ _ _ _ (IsInts.of_owns (A12.out.of (rI (.slice g1 tx.length k3) tx) (by simp))) (IsBools.of_owns (A12.out.of (rB (.slice g2 tb.length k4) tb) (by simp))) Z12.out.ints Z12.out.bools).mono ?_
    rintro e w13 ⟨rfl, hb13⟩
    have B13 := Lib.hid ((A12.out.below hb13).perm (List.perm_append_comm (l₁ := [rowT 3 1 (.slice x1 xs.length k1) xs.length ((seqL 1 xs.length).map (Value.int .i64)), rowT 4 1 (.slice x2 bs.length k2) bs.length ((seqB (1 + xs.length) bs.length).map Value.bool), cM bg ts (.slice g1 tx.length k3) (.slice g2 tb.length k4)]) (l₂ := [rI (.slice g1 tx.length k3) tx, rB (.slice g2 tb.length k4) tb, cM bx st (.slice x1 xs.length k1) (.slice x2 bs.length k2)])))
    have Q13 := Lib.hid (Q12.out.trans (hb13.mono Q12.out.size))
    clear hb13 A12 Q12 Z12
    obtain ⟨y0, y1, y2⟩ := cM_at (B13.out.of (cM bg ts (.slice g1 tx.length k3) (.slice g2 tb.length k4)) (by simp))
    go_wp2_with fail
    clear y0 y1 y2
    refine (markMachine_any w4.heap.size [cM bx st (.slice x1 xs.length k1) (.slice x2 bs.length k2), rowT 3 1 (.slice x1 xs.length k1) xs.length ((seqL 1 xs.length).map (Value.int .i64)), rowT 4 1 (.slice x2 bs.length k2) bs.length ((seqB (1 + xs.length) bs.length).map Value.bool), cM bg ts (.slice g1 tx.length k3) (.slice g2 tb.length k4)] ts _ _ tx tb 1 _ B13.out Q13.out.size hT.out.1 hT.out.2 (by omega) (by omega)).mono ?_
    rintro e w14 ⟨rfl, hA14, hb14⟩
    have Q14 := Lib.hid (Q13.out.trans hb14)
    have A14 := Lib.hid hA14
    have hL := hT.out
    clear B13 hA14 hb14 Q13
    obtain ⟨y0, y1, y2⟩ := cM_at (A14.out.of (cM bg ts (.slice g1 tx.length k3) (.slice g2 tb.length k4)) (by simp))
    have I14 := IsInts.of_owns (xs := seqL 1 tx.length) (base := 0) (e := 3) (v := .slice g1 tx.length k3) (w := w14) (by rw [seqL_length]; exact A14.out.of (rowT 3 1 (.slice g1 tx.length k3) tx.length ((seqL 1 tx.length).map (Value.int .i64))) (by simp))
    have J14 := IsBools.of_owns (xs := seqB (1 + tx.length) tb.length) (base := 0) (e := 4) (v := .slice g2 tb.length k4) (w := w14) (by rw [seqB_length]; exact A14.out.of (rowT 4 1 (.slice g2 tb.length k4) tb.length ((seqB (1 + tx.length) tb.length).map Value.bool)) (by simp))
    have H14 := Lib.hid (And.intro I14 J14)
    clear I14 J14
    go_wp2_with fail
    clear y0 y1 y2
    refine (heldMachine_any ts _ _ tx.length tb.length 1 _ H14.out.1 H14.out.2 hL.1 hL.2 (by omega) (by omega)).mono ?_
    rintro e w15 ⟨rfl, hb15⟩
    have A15 := Lib.hid (A14.out.below hb15)
    have Q15 := Lib.hid (Q14.out.trans (hb15.mono Q14.out.size))
    have HH := Lib.hid (And.intro (H14.out.1.below hb15) (H14.out.2.below hb15))
    clear hb15 A14 Q14 H14
    have hge2 : ¬ ((1 : Int) + (tx.length : Int) + (tb.length : Int) < 0) := by omega
    have hne2 : (((1 : Int) + (tx.length : Int) + (tb.length : Int)) != ((1 : Int) + (tx.length : Int) + (tb.length : Int))) = false := by simp
    have M15 := Lib.hid (M4.out.below Q15.out)
    have y3 := M15.out.c0
    have y4 := M15.out.c1
    have y5 := M15.out.c2
    go_wp2_with fail
    clear y3 y4 y5
    refine (toMachine_any ⟨st, xs, bs⟩ nv ev _ M15.out.ints M15.out.bools hl1 hl2).mono ?_
    rintro e w16 ⟨n6, e6, rfl, hn6, he6, hb16⟩
    have A16 := Lib.hid (A15.out.below hb16)
    have Q16 := Lib.hid (Q15.out.trans (hb16.mono Q15.out.size))
    have HH2 := Lib.hid (And.intro (HH.out.1.below hb16) (HH.out.2.below hb16))
    have N6 := Lib.hid (And.intro hn6 he6)
    clear hb16 A15 Q15 HH hn6 he6 M15
    go_wp2_with fail
    refine (implNot_any ⟨st, xs, bs⟩ _ _ _ N6.out.1 N6.out.2 hst).mono ?_
    clear N6
    rintro e w17 h17
    obtain ⟨T17, r17, v1, v2, hT17, rfl, i17, j17, hb17⟩ := h17.reads
    obtain ⟨rfl, rfl⟩ := hT17.one HTT.out
    clear hT17 h17
    simp only at i17 j17
    obtain ⟨s7, s8, s9, rfl⟩ := i17.slice
    obtain ⟨t7, t8, t9, rfl⟩ := j17.slice
    have hal : Below w17.heap.size w17 (w17.alloc (.cells #[.int .i64 ts, .slice s7 s8 s9, .slice t7 t8 t9] 27)) := (Below.refl _ _).alloc (Nat.le_refl _) _
    have E18 := Lib.hid (MachBox.new (st := ts) 27 i17 j17)
    have hb18 := hb17.trans (hal.mono hb17.size)
    have A18 := Lib.hid (A16.out.below hb18)
    have Q18 := Lib.hid (Q16.out.trans (hb18.mono Q16.out.size))
    have HH3 := Lib.hid (And.intro (HH2.out.1.below hb18) (HH2.out.2.below hb18))
    clear hb17 hal hb18 i17 j17 A16 Q16 HH2
    generalize hW18 : w17.alloc (.cells #[.int .i64 ts, .slice s7 s8 s9, .slice t7 t8 t9] 27) = w18 at *
    have Z18 := Lib.hid (S4.out.below Q18.out)
    have y0 := E18.out.c0
    have y1 := E18.out.c1
    have y2 := E18.out.c2
    have y3 := Z18.out.c0
    have y4 := Z18.out.c1
    have y5 := Z18.out.c2
    simp only
    go_wp2_with fail
    clear y0 y1 y2 y3 y4 y5
    refine (eqMachine_same ⟨ts, tx, tb⟩ _ _ _ _ _ E18.out.ints E18.out.bools Z18.out.ints Z18.out.bools).mono ?_
    rintro e w19 ⟨rfl, hb19⟩
    have A19 := Lib.hid (A18.out.below hb19)
    have Q19 := Lib.hid (Q18.out.trans (hb19.mono Q18.out.size))
    have HH4 := Lib.hid (And.intro (HH3.out.1.below hb19) (HH3.out.2.below hb19))
    clear hb19 A18 Q18 HH3 E18 Z18
    obtain ⟨y0, y1, y2⟩ := cM_at (A19.out.of (cM bg ts (.slice g1 tx.length k3) (.slice g2 tb.length k4)) (by simp))
    go_wp2_with fail
    clear y0 y1 y2
    refine (heldMachine_any ts _ _ tx.length tb.length 1 _ HH4.out.1 HH4.out.2 hL.1 hL.2 (by omega) (by omega)).mono ?_
    rintro e w20 ⟨rfl, hb20⟩
    have Q20 := Lib.hid (Q19.out.trans (hb20.mono Q19.out.size))
    clear hb20 A19 Q19 HH4
    go_wp2_with fail
    go_ret
    exact ⟨rfl, q4.out.trans (Q20.out.mono q4.out.size)⟩
end Go.Proofs.Ythknpbefdejbkaa
