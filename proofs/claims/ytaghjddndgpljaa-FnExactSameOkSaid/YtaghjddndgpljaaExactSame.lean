/- The walk of FnExactSameOk: true at every two machines. No condition. -/
import Derived.Test.YtaghjddndgpljaaBoxed
import Derived.Test.YtaghjddndgpljaaImplSame
import Derived.Test.YtaghjddndgpljaaSpecSame
import Derived.Deep.RegionHeld3
namespace Go.Proofs.Ytaghjddndgpljaa
open Go.RowKit

theorem MachPost.out {m : M} {w w' : World} {e : Ending} (h : MachPost m w e w') : ∃ nv ev, e = .returned (.agg #[.int .i64 m.st, nv, ev]) ∧ IsInts w' nv m.next ∧ IsBools w' ev m.ends ∧ Below w.heap.size w w' := h
theorem szM_le {m : M} {left : Int} (h : 0 ≤ left) : szM m left ≤ left := by
  simp only [szM, szOf]
  repeat' split
  all_goals omega
set_option maxHeartbeats 4000000 in
theorem exactSame_walk {w : World} (m k : M) (nv ev mv fv : Value) (h1 : IsInts w nv m.next) (h2 : IsBools w ev m.ends) (h3 : IsInts w mv k.next) (h4 : IsBools w fv k.ends) (hs1 : (Lit.int .i64 m.st).wf = true) (hs2 : (Lit.int .i64 k.st).wf = true) :
    Calls Try.prog 5 #[.agg #[.int .i64 m.st, nv, ev], .agg #[.int .i64 k.st, mv, fv]] w fun e w' => e = .returned (.bool true) ∧ Below w.heap.size w w' := by
  obtain ⟨T0, q0⟩ := Two.new 43 h1 h2 h3 h4
  have HT := Lib.hid T0
  have HQ := Lib.hid q0
  have y0 := T0.a.c0
  have y1 := T0.a.c1
  have y2 := T0.a.c2
  clear T0 q0 h1 h2 h3 h4
  go_enter Try.func5, Try.ntmps5
  go_wp2_with fail
  generalize hW0 : (w.alloc (.cells #[.int .i64 m.st, nv, ev] 43)).alloc (.cells #[.int .i64 k.st, mv, fv] 43) = w0 at *
  clear hW0 y0 y1 y2
  refine (szMachine_any m nv ev 1048576 w0 HT.out.a.ints HT.out.a.bools (by omega) (by omega)).mono ?_
  rintro e w1 ⟨rfl, hb1⟩
  have T1 := Lib.hid (HT.out.below hb1)
  have Q1 := Lib.hid (HQ.out.trans (hb1.mono HQ.out.size))
  clear hb1
  by_cases hs : szM m 1048576 < 0
  · go_wp2_with fail
    go_ret
    exact ⟨rfl, Q1.out⟩
  have hbd := szM_bd (m := m) (left := 1048576) (by omega)
  have hle := szM_le (m := m) (left := 1048576) (by omega)
  have hl1 : m.next.length ≤ 1048576 := by omega
  have hl2 : m.ends.length ≤ 1048576 := by omega
  generalize szM m 1048576 = left at *
  have y0 := T1.out.b.c0
  have y1 := T1.out.b.c1
  have y2 := T1.out.b.c2
  go_wp2_with fail
  clear y0 y1 y2
  refine (szMachine_any k mv fv left w1 T1.out.b.ints T1.out.b.bools (by omega) (by omega)).mono ?_
  rintro e w2 ⟨rfl, hb2⟩
  have T2 := Lib.hid (T1.out.below hb2)
  have Q2 := Lib.hid (Q1.out.trans (hb2.mono Q1.out.size))
  clear hb2
  by_cases hs' : szM k left < 0
  · go_wp2_with fail
    go_ret
    exact ⟨rfl, Q2.out⟩
  have hbd' := szM_bd (m := k) (left := left) (by omega)
  have hl3 : k.next.length ≤ 1048576 := by omega
  have hl4 : k.ends.length ≤ 1048576 := by omega
  clear hbd hle hbd'
  generalize szM k left = left2 at *
  go_upto_region 8 with fail
  have X2 : Six w.heap.size (w.heap.size + 1) m.st k.st nv ev mv fv w2 := ⟨T2.out.a.hB, T2.out.b.hB, T2.out.a.c0, T2.out.a.c1, T2.out.a.c2, T2.out.b.c0, T2.out.b.c1, T2.out.b.c2⟩
  have HSX : Hid (∀ W, Below w2.heap.size w2 W → Six w.heap.size (w.heap.size + 1) m.st k.st nv ev mv fv W) := Lib.hid (fun W h => X2.below h)
  have HT1 : Hid (∀ W, Below w2.heap.size w2 W → Calls Try.prog 33 #[.agg #[.int .i64 m.st, nv, ev]] W (MachPost m W)) := Lib.hid (fun W h => toMachine_any m nv ev W (T2.out.below h).a.ints (T2.out.below h).a.bools hl1 hl2)
  have HT2 : Hid (∀ W, Below w2.heap.size w2 W → Calls Try.prog 33 #[.agg #[.int .i64 k.st, mv, fv]] W (MachPost k W)) := Lib.hid (fun W h => toMachine_any k mv fv W (T2.out.below h).b.ints (T2.out.below h).b.bools hl3 hl4)
  have BD := Lib.hid ((Below.refl w2.heap.size w2).drew)
  have y0 := T2.out.a.c0
  have y1 := T2.out.a.c1
  have y2 := T2.out.a.c2
  have y3 := T2.out.b.c0
  have y4 := T2.out.b.c1
  have y5 := T2.out.b.c2
  go_region_held3 (fun w' => w'.cell? ⟨w.heap.size, 0, none⟩ = some (.int .i64 m.st) ∧ w'.cell? ⟨w.heap.size, 1, none⟩ = some nv ∧ w'.cell? ⟨w.heap.size, 2, none⟩ = some ev ∧ w'.cell? ⟨w.heap.size + 1, 0, none⟩ = some (.int .i64 k.st) ∧ w'.cell? ⟨w.heap.size + 1, 1, none⟩ = some mv ∧ w'.cell? ⟨w.heap.size + 1, 2, none⟩ = some fv)
    (first | (refine Six.cells ?_; ((repeat' (first | with_reducible assumption | with_reducible refine Six.alloc ?_ _ | with_reducible refine Six.drew ?_ | with_reducible refine Six.set ?_ ?_ ?_ | omega)); done)))
    (first | (go_at_call 33; with_reducible refine Calls.mono (HT1.out _ ?_) ?_; (· (with_reducible exact BD.out)); rintro e w3 h3; obtain ⟨nv3, ev3, rfl, hn3, he3, hb3⟩ := MachPost.out h3; with_reducible have B3 := Lib.hid (Below.then' BD.out hb3); have X3 := HSX.out _ B3.out; clear hb3) | (go_at_call 33; with_reducible refine Calls.mono (HT2.out _ ?_) ?_; (· (with_reducible exact B3.out)); rintro e w4 h4; obtain ⟨nv4, ev4, rfl, hn4, he4, hb4⟩ := MachPost.out h4; have B4 := Lib.hid (Below.then' B3.out hb4); have hn3' := hn3.below hb4; have he3' := he3.below hb4; clear X3 hn3 he3 hb4; have X4 := HSX.out _ B4.out) | (go_at_call 18; refine Calls.mono (specSameOk_any m k nv3 ev3 nv4 ev4 w4 hn3' he3' hn4 he4 hs1 hs2) ?_; rintro e w5 ⟨⟨b, hIs, rfl⟩, hb5⟩; have B5 := Lib.hid (Below.then' B4.out hb5); have HI := Lib.hid hIs; clear X4 hb5 hIs; have X5 := HSX.out _ B5.out))
  all_goals
    have T5 := Lib.hid (T2.out.below B5.out)
    have Q5 := Lib.hid (Q2.out.trans (B5.out.mono Q2.out.size))
    clear X5 hn3' he3' hn4 he4 B3 B4 B5 HSX HT1 HT2 BD X2 y0 y1 y2 y3 y4 y5 T2 Q2
    have y0 := T5.out.a.c0
    have y1 := T5.out.a.c1
    have y2 := T5.out.a.c2
    go_wp2_with fail
    clear y0 y1 y2
    refine (toMachine_any m nv ev w5 T5.out.a.ints T5.out.a.bools hl1 hl2).mono ?_
    rintro e w6 h6
    obtain ⟨nv6, ev6, rfl, hn6, he6, hb6⟩ := MachPost.out h6
    clear h6
    obtain ⟨a6, n6, c6, rfl⟩ := hn6.slice
    obtain ⟨d6, m6, e6, rfl⟩ := he6.slice
    have hal : Below w6.heap.size w6 (w6.alloc (.cells #[.int .i64 m.st, .slice a6 n6 c6, .slice d6 m6 e6] 26)) := (Below.refl _ _).alloc (Nat.le_refl _) _
    have A7 := Lib.hid (MachBox.new (st := m.st) 26 hn6 he6)
    have hb7 := hb6.trans (hal.mono hb6.size)
    have T7 := Lib.hid (T5.out.below hb7)
    have Q7 := Lib.hid (Q5.out.trans (hb7.mono Q5.out.size))
    clear hb6 hal hb7 hn6 he6 T5 Q5
    have y0 := T7.out.b.c0
    have y1 := T7.out.b.c1
    have y2 := T7.out.b.c2
    go_wp2_with fail
    clear y0 y1 y2
    generalize hW7 : w6.alloc (.cells #[.int .i64 m.st, .slice a6 n6 c6, .slice d6 m6 e6] 26) = w7 at *
    generalize hBA : w6.heap.size = ba at *
    clear hW7
    refine (toMachine_any k mv fv w7 T7.out.b.ints T7.out.b.bools hl3 hl4).mono ?_
    rintro e w8 h8
    obtain ⟨nv8, ev8, rfl, hn8, he8, hb8⟩ := MachPost.out h8
    clear h8
    obtain ⟨a8, n8, c8, rfl⟩ := hn8.slice
    obtain ⟨d8, m8, e8, rfl⟩ := he8.slice
    have hal : Below w8.heap.size w8 (w8.alloc (.cells #[.int .i64 k.st, .slice a8 n8 c8, .slice d8 m8 e8] 26)) := (Below.refl _ _).alloc (Nat.le_refl _) _
    have C9 := Lib.hid (MachBox.new (st := k.st) 26 hn8 he8)
    have hb9 := hb8.trans (hal.mono hb8.size)
    have A9 := Lib.hid (A7.out.below hb9)
    have T9 := Lib.hid (T7.out.below hb9)
    have Q9 := Lib.hid (Q7.out.trans (hb9.mono Q7.out.size))
    clear hb8 hal hb9 hn8 he8 T7 Q7 A7
    have y0 := A9.out.c0
    have y1 := A9.out.c1
    have y2 := A9.out.c2
    have y3 := C9.out.c0
    have y4 := C9.out.c1
    have y5 := C9.out.c2
    go_wp2_with fail
    clear y0 y1 y2 y3 y4 y5
    generalize hW9 : w8.alloc (.cells #[.int .i64 k.st, .slice a8 n8 c8, .slice d8 m8 e8] 26) = w9 at *
    generalize hBC : w8.heap.size = bc at *
    clear hW9
    refine (implSame_any m k _ _ _ _ w9 A9.out.ints A9.out.bools C9.out.ints C9.out.bools hs1 hs2).mono ?_
    rintro e w10 ⟨⟨b', hIs', rfl⟩, hb10⟩
    obtain rfl := hIs'.one HI.out
    have A10 := Lib.hid (A9.out.below hb10)
    have C10 := Lib.hid (C9.out.below hb10)
    have T10 := Lib.hid (T9.out.below hb10)
    have Q10 := Lib.hid (Q9.out.trans (hb10.mono Q9.out.size))
    clear hb10 hIs' A9 C9 T9 Q9
    have hbb : (b' != b') = false := by simp
    have y0 := A10.out.c0
    have y1 := A10.out.c1
    have y2 := A10.out.c2
    have y3 := T10.out.a.c0
    have y4 := T10.out.a.c1
    have y5 := T10.out.a.c2
    go_wp2_with fail
    have A10d := Lib.hid (A10.out.below (Below.refl _ w10).drew)
    have T10d := Lib.hid (T10.out.below (Below.refl _ w10).drew)
    go_region_with (first | (go_at_call 33; refine (toMachine_any m nv ev w10.drew T10d.out.a.ints T10d.out.a.bools hl1 hl2).mono ?_; rintro e w11 h11; obtain ⟨nv11, ev11, rfl, hn11, he11, hb11⟩ := MachPost.out h11; have Z11 := A10d.out.below hb11; have z0 := Z11.c0; have z1 := Z11.c1; have z2 := Z11.c2) | (go_at_call 34; refine (eqMachine_same m _ _ nv11 ev11 w11 Z11.ints Z11.bools hn11 he11).mono ?_; rintro e w12 ⟨rfl, hb12⟩))
    all_goals
      have hb13 := ((Below.refl w10.heap.size w10).drew.trans hb11).trans (hb12.mono hb11.size)
      have C13 := Lib.hid (C10.out.below hb13)
      have T13 := Lib.hid (T10.out.below hb13)
      have Q13 := Lib.hid (Q10.out.trans (hb13.mono Q10.out.size))
      clear hb11 hb12 hb13 Z11 z0 z1 z2 hn11 he11 A10 C10 T10 Q10 A10d T10d y0 y1 y2 y3 y4 y5
      have y0 := C13.out.c0
      have y1 := C13.out.c1
      have y2 := C13.out.c2
      have y3 := T13.out.b.c0
      have y4 := T13.out.b.c1
      have y5 := T13.out.b.c2
      go_wp2_with fail
      have C12d := Lib.hid (C13.out.below (Below.refl _ w12).drew)
      have T12d := Lib.hid (T13.out.below (Below.refl _ w12).drew)
      go_region_with (first | (go_at_call 33; refine (toMachine_any k mv fv w12.drew T12d.out.b.ints T12d.out.b.bools hl3 hl4).mono ?_; rintro e w13 h13; obtain ⟨nv13, ev13, rfl, hn13, he13, hb13⟩ := MachPost.out h13; have Z13 := C12d.out.below hb13; have z0 := Z13.c0; have z1 := Z13.c1; have z2 := Z13.c2) | (go_at_call 34; refine (eqMachine_same k _ _ nv13 ev13 w13 Z13.ints Z13.bools hn13 he13).mono ?_; rintro e w14 ⟨rfl, hb14⟩))
      all_goals
        have hb15 := ((Below.refl w12.heap.size w12).drew.trans hb13).trans (hb14.mono hb13.size)
        clear Z13 z0 z1 z2 y0 y1 y2 y3 y4 y5
        go_wp2_with fail
        go_ret
        exact ⟨rfl, Q13.out.trans (hb15.mono Q13.out.size)⟩
end Go.Proofs.Ytaghjddndgpljaa
