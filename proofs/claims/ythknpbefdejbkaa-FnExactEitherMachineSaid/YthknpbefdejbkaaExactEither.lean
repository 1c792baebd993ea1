/- The walk of FnExactEitherMachine: true at every two machines. No condition. -/
import Derived.Test.YthknpbefdejbkaaBoxed
import Derived.Test.YthknpbefdejbkaaSpecJ
import Derived.Test.YthknpbefdejbkaaPairMach
import Derived.Deep.RegionHeld3
import Derived.Deep.RegionWith
import Derived.Deep.CutRange
import Derived.Deep.CutBlock
namespace Go.Proofs.Ythknpbefdejbkaa
open Go.RowKit

theorem MachPost.form {m : M} {w w' : World} {e : Ending} (h : MachPost m w e w') : ∃ nv ev, e = .returned (.agg #[.int .i64 m.st, nv, ev]) ∧ IsInts w' nv m.next ∧ IsBools w' ev m.ends ∧ Below w.heap.size w w' := h
theorem szM_le2 {m : M} {left : Int} (h : 0 ≤ left) : szM m left ≤ left := by
  simp only [szM, szOf]
  repeat' split
  all_goals omega
theorem JoinNew.rows {ok : Bool} {f : List (Fin 3) → Bool} {w w' : World} {e : Ending} (h : JoinNew ok f w e w') : ∃ X r a1 n1 c1 a2 n2 c2, e = .returned (.tuple #[.agg #[.int .i64 X.st, .slice a1 n1 c1, .slice a2 n2 c2], .bool r]) ∧ Rws w.heap.size w'.heap.size X (.slice a1 n1 c1) (.slice a2 n2 c2) w' ∧ IsJoin ok f X r ∧ Below w.heap.size w w' := by
  obtain ⟨X, r, a1, a2, c1, c2, h1, rfl, hA, hb⟩ := h
  exact ⟨X, r, a1, _, c1, a2, _, c2, rfl, ⟨Nat.le_refl _, hA.head, hA.tail.head, hA.lt, hA.tail.lt⟩, h1, hb⟩

set_option maxHeartbeats 8000000 in
set_option maxRecDepth 100000 in
theorem exactEither_walk {w : World} (m k : M) (nv ev mv fv : Value) (h1 : IsInts w nv m.next) (h2 : IsBools w ev m.ends) (h3 : IsInts w mv k.next) (h4 : IsBools w fv k.ends) (hs1 : (Lit.int .i64 m.st).wf = true) (hs2 : (Lit.int .i64 k.st).wf = true) :
    Calls Try.prog 5 #[.agg #[.int .i64 m.st, nv, ev], .agg #[.int .i64 k.st, mv, fv]] w fun e w' => e = .returned (.bool true) ∧ Below w.heap.size w w' := by
  obtain ⟨T0, q0⟩ := Two.new 25 h1 h2 h3 h4
  have HT := Lib.hid T0
  have HQ := Lib.hid q0
  have y0 := T0.a.c0
  have y1 := T0.a.c1
  have y2 := T0.a.c2
  clear T0 q0 h1 h2 h3 h4
  go_enter Try.func5, Try.ntmps5
  go_wp2_with fail
  generalize hW0 : (w.alloc (.cells #[.int .i64 m.st, nv, ev] 25)).alloc (.cells #[.int .i64 k.st, mv, fv] 25) = w0 at *
  clear hW0 y0 y1 y2
  refine (szMachine_any m nv ev 1048576 w0 HT.out.a.ints HT.out.a.bools (by omega) (by omega)).mono ?_
  rintro e w1 ⟨rfl, hb1⟩
  have T1 := Lib.hid (HT.out.below hb1)
  have Q1 := Lib.hid (HQ.out.trans (hb1.mono HQ.out.size))
  clear hb1
  by_cases hs : szM m 1048576 < 0
  · go_wp2_with fail
    go_ret
    exact ⟨rfl, Q1.out⟩
  have hbd := szM_bd (m := m) (left := 1048576) (by omega)
  have hle := szM_le2 (m := m) (left := 1048576) (by omega)
  have hl1 : m.next.length ≤ 1048576 := by omega
  have hl2 : m.ends.length ≤ 1048576 := by omega
  generalize szM m 1048576 = left at *
  have y0 := T1.out.b.c0
  have y1 := T1.out.b.c1
  have y2 := T1.out.b.c2
  go_wp2_with fail
  clear y0 y1 y2
  refine (szMachine_any k mv fv left w1 T1.out.b.ints T1.out.b.bools (by omega) (by omega)).mono ?_
  rintro e w2 ⟨rfl, hb2⟩
  have T2 := Lib.hid (T1.out.below hb2)
  have Q2 := Lib.hid (Q1.out.trans (hb2.mono Q1.out.size))
  clear hb2
  by_cases hs' : szM k left < 0
  · go_wp2_with fail
    go_ret
    exact ⟨rfl, Q2.out⟩
  have hbd' := szM_bd (m := k) (left := left) (by omega)
  have hl3 : k.next.length ≤ 1048576 := by omega
  have hl4 : k.ends.length ≤ 1048576 := by omega
  clear hbd hle hbd' HT HQ T1 Q1
  generalize szM k left = left2 at *
  go_upto_region 8 with fail
  have X0 : Six w.heap.size (w.heap.size + 1) m.st k.st nv ev mv fv w2 := ⟨T2.out.a.hB, T2.out.b.hB, T2.out.a.c0, T2.out.a.c1, T2.out.a.c2, T2.out.b.c0, T2.out.b.c1, T2.out.b.c2⟩
  have hl0 := X0.la
  have hm0 := X0.lb
  have HSX : Hid (∀ V, Below w2.heap.size w2 V → Six w.heap.size (w.heap.size + 1) m.st k.st nv ev mv fv V) := Lib.hid (fun V h => X0.below h)
  have HT1 : Hid (∀ V, Below w2.heap.size w2 V → Calls Try.prog 14 #[.agg #[.int .i64 m.st, nv, ev]] V (MachPost m V)) := Lib.hid (fun V h => toMachine_any m nv ev V (T2.out.below h).a.ints (T2.out.below h).a.bools hl1 hl2)
  have HT2 : Hid (∀ V, Below w2.heap.size w2 V → Calls Try.prog 14 #[.agg #[.int .i64 k.st, mv, fv]] V (MachPost k V)) := Lib.hid (fun V h => toMachine_any k mv fv V (T2.out.below h).b.ints (T2.out.below h).b.bools hl3 hl4)
  have HT3 : Hid (∀ V na ea nb eb, Below w2.heap.size w2 V → IsInts V na m.next → IsBools V ea m.ends → IsInts V nb k.next → IsBools V eb k.ends → Calls Try.prog 21 #[.agg #[.int .i64 m.st, na, ea], .agg #[.int .i64 k.st, nb, eb]] V (JoinNew (m.ok && k.ok) (fun u => m.lang 0 u || k.lang 0 u) V)) := Lib.hid (fun V na ea nb eb _ h1 h2 h3 h4 => specEither_any m k na ea nb eb V h1 h2 h3 h4 hs1 hs2)
  have BD := Lib.hid ((Below.refl w2.heap.size w2).drew)
  have v0 := T2.out.a.c0
  have v1 := T2.out.a.c1
  have v2 := T2.out.a.c2
  have v3 := T2.out.b.c0
  have v4 := T2.out.b.c1
  have v5 := T2.out.b.c2
  go_cut [6, 7] from 17 to 118 (fun t r wx => ∃ (K : M) (rr : Bool) (p : Nat) (v u : Value), t = .pointer (some ⟨p, 0, none⟩) ∧ r = .bool rr ∧ IsJoin (m.ok && k.ok) (fun u => m.lang 0 u || k.lang 0 u) K rr ∧ MachBox p K.st v K.next u K.ends wx ∧ Below w2.heap.size w2 wx)
  case first =>
    as_aux_lemma =>
      go_region_held3 (fun w' => w'.cell? ⟨w.heap.size, 0, none⟩ = some (.int .i64 m.st) ∧ w'.cell? ⟨w.heap.size, 1, none⟩ = some nv ∧ w'.cell? ⟨w.heap.size, 2, none⟩ = some ev ∧ w'.cell? ⟨w.heap.size + 1, 0, none⟩ = some (.int .i64 k.st) ∧ w'.cell? ⟨w.heap.size + 1, 1, none⟩ = some mv ∧ w'.cell? ⟨w.heap.size + 1, 2, none⟩ = some fv)
        (first | (refine Six.cells ?_; ((repeat' (first | with_reducible assumption | with_reducible refine Six.alloc ?_ _ | with_reducible refine Six.drew ?_ | with_reducible refine Six.set ?_ ?_ ?_ | omega)); done)))
        (first | (go_at_call 14; with_reducible refine Calls.mono (HT1.out _ ?_) ?_; (· (first | with_reducible exact BD.out | with_reducible exact bel1 _ _)); rintro e v1 h1; obtain ⟨a1v, b1v, rfl, hi1, hj1, hb1⟩ := h1.form; (first | (with_reducible have B1 := Lib.hid (Below.then' BD.out hb1)) | (with_reducible have B1 := Lib.hid (Below.then' (bel1 w2 _) hb1))); (first | (with_reducible have ZA := Lib.hid (Z0.one1 hb1)) | skip); (try have zl1 := ZA.out.lt); have X1 := HSX.out _ B1.out; have hl1 := X1.la; have hm1 := X1.lb; clear h1) | (go_at_call 14; with_reducible refine Calls.mono (HT2.out _  ?_) ?_; (· (first | with_reducible exact B1.out | (with_reducible refine Below.alloc' ?_ _; with_reducible exact B1.out))); rintro e v2 h2; obtain ⟨a2v, b2v, rfl, hi2, hj2, hb2⟩ := h2.form; (first | (with_reducible have k2 := Below.then' (Below.refl v1.heap.size v1) hb2) | (with_reducible have k2 := Below.then' (Below.alloc' (Below.refl v1.heap.size v1) _) hb2)); have B2 := Lib.hid (Below.then' B1.out k2); have hi1b := hi1.below k2; clear hi1; have hj1b := hj1.below k2; clear hj1; (try (have ZB := Lib.hid (ZA.out.below k2); clear ZA; have ZA := ZB; clear ZB)); (try (with_reducible have ZA := Lib.hid (Z0.one1' hb2))); (try have zl2 := ZA.out.lt); clear X1; have X2 := HSX.out _ B2.out; have hl2 := X2.la; have hs2 := Lib.hid k2.size; have hm2 := X2.lb) | (go_at_call 21; with_reducible refine Calls.mono (HT3.out _ _ _ _ _ ?_ ?_ ?_ ?_ ?_) ?_; (· (first | with_reducible exact B2.out | (with_reducible refine Below.alloc' ?_ _; with_reducible exact B2.out))); (· (first | with_reducible exact hi1b | with_reducible exact hi1b.alloc _)); (· (first | with_reducible exact hj1b | with_reducible exact hj1b.alloc _)); (· (first | with_reducible exact hi2 | with_reducible exact hi2.alloc _)); (· (first | with_reducible exact hj2 | with_reducible exact hj2.alloc _)); rintro e v3 h3; obtain ⟨X3m, rr3, a1, n1, c1, a2, n2, c2, rfl, hr3, hf3, hb3⟩ := h3.rows; (first | (with_reducible have R3 := Rws.one' hr3) | (have R3 := hr3)); (first | (with_reducible have E3 := Rws.ex1 hr3) | (have E3 := Rws.ex0 hr3)); (first | (with_reducible have k3 := Below.then' (Below.refl v2.heap.size v2) hb3) | (with_reducible have k3 := Below.then' (Below.alloc' (Below.refl v2.heap.size v2) _) hb3)); have B3 := Lib.hid (Below.then' B2.out k3); (try (have ZB := Lib.hid (ZA.out.below k3); clear ZA; have ZA := ZB; clear ZB)); (try (with_reducible have ZA := Lib.hid (Z0.one1' hb3))); (try have zl3 := ZA.out.lt); clear X2; have X3 := HSX.out _ B3.out; have hl3 := X3.la; have hs3 := Lib.hid k3.size; have hm3 := X3.lb; (try (obtain ⟨qal, qa0, qa1, qa2, qa3, qa4, qa5⟩ := ZA.out))))
      all_goals
        (try have z7 := ZA.out.lt)
        have z23 := hs3.out
        have z12 := hs2.out
        have z01 := B1.out.size
        have HX := Lib.hid X3
        have BB : Below w2.heap.size w2 v3 := B3.out
        have HD := Lib.hid hf3
        clear X3 hf3
        go_wp2
        go_meet
        case rel => exact ⟨X3m, rr3, _, _, _, rfl, rfl, HD.out, ⟨(by first | (simp; done) | (simp; omega)), (by go_simp), (by go_simp), (by go_simp), (Rws.via R3 (fun _ => by ((repeat' (first | with_reducible assumption | with_reducible refine Rws.alloc ?_ _ | with_reducible refine Rws.set ?_ ?_ | omega)); done))).1, (Rws.via R3 (fun _ => by ((repeat' (first | with_reducible assumption | with_reducible refine Rws.alloc ?_ _ | with_reducible refine Rws.set ?_ ?_ | omega)); done))).2⟩, (by ((repeat' (first | with_reducible assumption | with_reducible refine Below.alloc' ?_ _ | with_reducible refine Below.set' ?_ ?_ | omega)); done))⟩
  case rest =>
    obtain ⟨K, rr, p, sv, su, rfl, rfl, hJK, hMK, hBK⟩ := hcut
    generalize wc = w4 at *
    have hbb : (rr != rr) = false := by simp
    have HJK := Lib.hid hJK
    have hKl := Lib.hid hJK.len
    have T4 := Lib.hid (T2.out.below hBK)
    have q4 := Lib.hid (Q2.out.trans (hBK.mono Q2.out.size))
    obtain ⟨ts, tx, tb⟩ := K
    have S4 := Lib.hid hMK
    simp only at hKl
    clear hJK hMK hBK X0 hl0 hm0 HSX HT1 HT2 HT3 BD v0 v1 v2 v3 v4 v5 T2 Q2
    have y0 := T4.out.a.c0
    have y1 := T4.out.a.c1
    have y2 := T4.out.a.c2
    go_wp2_with fail
    clear y0 y1 y2
    refine (toMachine_new m nv ev w4 T4.out.a.ints T4.out.a.bools hl1 hl2).mono ?_
    rintro e w5 ⟨x1, x2, k1, k2, rfl, hA5, hb5⟩
    have A5 : Apart w4.heap.size [rI (.slice x1 m.next.length k1) m.next, rB (.slice x2 m.ends.length k2) m.ends] w5 := hA5
    have A6 := Lib.hid (boxed m.st (.slice x1 m.next.length k1) (.slice x2 m.ends.length k2) A5 hb5.size)
    have Q6 := Lib.hid (hb5.alloc hb5.size (.cells #[.int .i64 m.st, .slice x1 m.next.length k1, .slice x2 m.ends.length k2] 27))
    clear hA5 hb5 A5
    have T6 := Lib.hid (T4.out.below Q6.out)
    have y0 := T6.out.b.c0
    have y1 := T6.out.b.c1
    have y2 := T6.out.b.c2
    go_wp2_with fail
    clear y0 y1 y2
    generalize hW6 : w5.alloc (.cells #[.int .i64 m.st, .slice x1 m.next.length k1, .slice x2 m.ends.length k2] 27) = w6 at *
    generalize hBX : w5.heap.size = bx at *
    clear hW6 hBX
    refine (toMachine_new k mv fv w6 T6.out.b.ints T6.out.b.bools hl3 hl4).mono ?_
    rintro e w7 ⟨x3, x4, k3, k4, rfl, hA7, hb7⟩
    have A7 : Apart w4.heap.size [rI (.slice x3 k.next.length k3) k.next, rB (.slice x4 k.ends.length k4) k.ends, cM bx m.st (.slice x1 m.next.length k1) (.slice x2 m.ends.length k2), rI (.slice x1 m.next.length k1) m.next, rB (.slice x2 m.ends.length k2) m.ends] w7 := apart_join A6.out hb7 hA7 Q6.out.size
    have Q7 := Q6.out.trans (hb7.mono Q6.out.size)
    have A8 := Lib.hid (boxed k.st (.slice x3 k.next.length k3) (.slice x4 k.ends.length k4) A7 Q7.size)
    have Q8 := Lib.hid (Q7.alloc Q7.size (.cells #[.int .i64 k.st, .slice x3 k.next.length k3, .slice x4 k.ends.length k4] 27))
    clear hA7 hb7 A7 Q7 A6 Q6 T6
    obtain ⟨y0, y1, y2⟩ := cM_at (A8.out.of (cM bx m.st (.slice x1 m.next.length k1) (.slice x2 m.ends.length k2)) (by simp))
    obtain ⟨y3, y4, y5⟩ := cM_at A8.out.head
    go_wp2_with fail
    clear y0 y1 y2 y3 y4 y5
    generalize hW8 : w7.alloc (.cells #[.int .i64 k.st, .slice x3 k.next.length k3, .slice x4 k.ends.length k4] 27) = w8 at *
    generalize hBY : w7.heap.size = bY at *
    clear hW8 hBY
    refine (implEither_any m k _ _ _ _ w8 (IsInts.of_owns (A8.out.of (rI (.slice x1 m.next.length k1) m.next) (by simp))) (IsBools.of_owns (A8.out.of (rB (.slice x2 m.ends.length k2) m.ends) (by simp))) (IsInts.of_owns (A8.out.of (rI (.slice x3 k.next.length k3) k.next) (by simp))) (IsBools.of_owns (A8.out.of (rB (.slice x4 k.ends.length k4) k.ends) (by simp))) hs1 hs2).mono ?_
    rintro e w9 h9
    obtain ⟨K9, r9, g1, g2, k5, k6, hJ9, rfl, hA9, hb9⟩ := h9.form
    obtain ⟨rfl, rfl⟩ := hJ9.one HJK.out
    clear hJ9 h9
    simp only at hA9
    have A9 : Apart w4.heap.size [rI (.slice g1 tx.length k5) tx, rB (.slice g2 tb.length k6) tb, cM bY k.st (.slice x3 k.next.length k3) (.slice x4 k.ends.length k4), rI (.slice x3 k.next.length k3) k.next, rB (.slice x4 k.ends.length k4) k.ends, cM bx m.st (.slice x1 m.next.length k1) (.slice x2 m.ends.length k2), rI (.slice x1 m.next.length k1) m.next, rB (.slice x2 m.ends.length k2) m.ends] w9 := apart_join A8.out hb9 hA9 Q8.out.size
    have Q9 := Q8.out.trans (hb9.mono Q8.out.size)
    have A10 := Lib.hid (boxed ts (.slice g1 tx.length k5) (.slice g2 tb.length k6) A9 Q9.size)
    have Q10 := Lib.hid (Q9.alloc Q9.size (.cells #[.int .i64 ts, .slice g1 tx.length k5, .slice g2 tb.length k6] 27))
    clear hA9 hb9 A9 Q9 A8 Q8
    generalize hW10 : w9.alloc (.cells #[.int .i64 ts, .slice g1 tx.length k5, .slice g2 tb.length k6] 27) = w10 at *
    generalize hBG : w9.heap.size = bg at *
    have Z10 := Lib.hid (S4.out.below Q10.out)
    obtain ⟨y0, y1, y2⟩ := cM_at A10.out.head
    have y3 := Z10.out.c0
    have y4 := Z10.out.c1
    have y5 := Z10.out.c2
    simp only
    go_wp2_with fail
    clear y0 y1 y2 y3 y4 y5 hW10 hBG
    refine (eqMachine_same ⟨ts, tx, tb⟩ _ _ _ _ _ (IsInts.of_owns (A10.out.of (rI (.slice g1 tx.length k5) tx) (by simp))) (IsBools.of_owns (A10.out.of (rB (.slice g2 tb.length k6) tb) (by simp))) Z10.out.ints Z10.out.bools).mono ?_
    rintro e w11 ⟨rfl, hb11⟩
    have A11 := Lib.hid (A10.out.below hb11)
    have Q11 := Lib.hid (Q10.out.trans (hb11.mono Q10.out.size))
    clear hb11 A10 Q10 Z10
    have T11 := Lib.hid (T4.out.below Q11.out)
    obtain ⟨y0, y1, y2⟩ := cM_at (A11.out.of (cM bx m.st (.slice x1 m.next.length k1) (.slice x2 m.ends.length k2)) (by simp))
    have y3 := T11.out.a.c0
    have y4 := T11.out.a.c1
    have y5 := T11.out.a.c2
    go_upto_region 14 with fail
    have TD := Lib.hid (T11.out.below (Below.refl _ w11).drew)
    have AD := Lib.hid (A11.out.below (Below.refl _ w11).drew)
    go_cut [58] from 17 to 118 (fun t wx => t = .bool false ∧ Below w11.heap.size w11 wx)
    case first =>
      as_aux_lemma =>
        go_region_with (first | (go_at_call 14; refine (toMachine_any m nv ev w11.drew TD.out.a.ints TD.out.a.bools hl1 hl2).mono ?_; rintro e u1 h12; obtain ⟨nv12, ev12, rfl, hn12, he12, hb12⟩ := MachPost.form h12; have Z12 := AD.out.below hb12; obtain ⟨z0, z1, z2⟩ := cM_at (Z12.of (cM bx m.st (.slice x1 m.next.length k1) (.slice x2 m.ends.length k2)) (by simp))) | (go_at_call 16; refine (eqMachine_same m _ _ nv12 ev12 u1 (IsInts.of_owns (Z12.of (rI (.slice x1 m.next.length k1) m.next) (by simp))) (IsBools.of_owns (Z12.of (rB (.slice x2 m.ends.length k2) m.ends) (by simp))) hn12 he12).mono ?_; rintro e u2 ⟨rfl, hb13⟩))
        all_goals
          have hb14 := ((Below.refl w11.heap.size w11).drew.trans hb12).trans (hb13.mono hb12.size)
          have HB := Lib.hid hb14
          clear hb12 hb13 hb14 Z12 z0 z1 z2 hn12 he12 y0 y1 y2 y3 y4 y5
          go_wp2
          go_meet
          case rel => exact ⟨rfl, HB.out⟩
    case rest =>
      obtain ⟨rfl, hb14⟩ := hcut
      generalize wc = w14 at *
      have A14 := Lib.hid (A11.out.below hb14)
      have Q14 := Lib.hid (Q11.out.trans (hb14.mono Q11.out.size))
      have T14 := Lib.hid (T11.out.below hb14)
      clear hb14 y0 y1 y2 y3 y4 y5 TD AD A11 Q11 T11
      obtain ⟨y0, y1, y2⟩ := cM_at (A14.out.of (cM bY k.st (.slice x3 k.next.length k3) (.slice x4 k.ends.length k4)) (by simp))
      have y3 := T14.out.b.c0
      have y4 := T14.out.b.c1
      have y5 := T14.out.b.c2
      go_upto_region 16 with fail
      have TD := Lib.hid (T14.out.below (Below.refl _ w14).drew)
      have AD := Lib.hid (A14.out.below (Below.refl _ w14).drew)
      go_cut [63] from 17 to 118 (fun t wx => t = .bool false ∧ Below w14.heap.size w14 wx)
      case first =>
        as_aux_lemma =>
          go_region_with (first | (go_at_call 14; refine (toMachine_any k mv fv w14.drew TD.out.b.ints TD.out.b.bools hl3 hl4).mono ?_; rintro e u1 h12; obtain ⟨nv12, ev12, rfl, hn12, he12, hb12⟩ := MachPost.form h12; have Z12 := AD.out.below hb12; obtain ⟨z0, z1, z2⟩ := cM_at (Z12.of (cM bY k.st (.slice x3 k.next.length k3) (.slice x4 k.ends.length k4)) (by simp))) | (go_at_call 16; refine (eqMachine_same k _ _ nv12 ev12 u1 (IsInts.of_owns (Z12.of (rI (.slice x3 k.next.length k3) k.next) (by simp))) (IsBools.of_owns (Z12.of (rB (.slice x4 k.ends.length k4) k.ends) (by simp))) hn12 he12).mono ?_; rintro e u2 ⟨rfl, hb13⟩))
          all_goals
            have hb14 := ((Below.refl w14.heap.size w14).drew.trans hb12).trans (hb13.mono hb12.size)
            have HB := Lib.hid hb14
            clear hb12 hb13 hb14 Z12 z0 z1 z2 hn12 he12 y0 y1 y2 y3 y4 y5
            go_wp2
            go_meet
            case rel => exact ⟨rfl, HB.out⟩
      case rest =>
        obtain ⟨rfl, hb16⟩ := hcut
        generalize wc = w16 at *
        have A16 := Lib.hid ((A14.out.below hb16).perm (List.perm_append_comm (l₁ := [cM bg ts (.slice g1 tx.length k5) (.slice g2 tb.length k6), rI (.slice g1 tx.length k5) tx, rB (.slice g2 tb.length k6) tb, cM bY k.st (.slice x3 k.next.length k3) (.slice x4 k.ends.length k4), rI (.slice x3 k.next.length k3) k.next, rB (.slice x4 k.ends.length k4) k.ends, cM bx m.st (.slice x1 m.next.length k1) (.slice x2 m.ends.length k2)]) (l₂ := [rI (.slice x1 m.next.length k1) m.next, rB (.slice x2 m.ends.length k2) m.ends])))
        have Q16 := Lib.hid (Q14.out.trans (hb16.mono Q14.out.size))
        clear hb16 y0 y1 y2 y3 y4 y5 TD AD A14 Q14 T14
        obtain ⟨y0, y1, y2⟩ := cM_at (A16.out.of (cM bx m.st (.slice x1 m.next.length k1) (.slice x2 m.ends.length k2)) (by simp))
        go_wp2_with fail
        clear y0 y1 y2
        refine (markMachine_any w4.heap.size [cM bg ts (.slice g1 tx.length k5) (.slice g2 tb.length k6), rI (.slice g1 tx.length k5) tx, rB (.slice g2 tb.length k6) tb, cM bY k.st (.slice x3 k.next.length k3) (.slice x4 k.ends.length k4), rI (.slice x3 k.next.length k3) k.next, rB (.slice x4 k.ends.length k4) k.ends, cM bx m.st (.slice x1 m.next.length k1) (.slice x2 m.ends.length k2)] m.st _ _ m.next m.ends 1 _ A16.out Q16.out.size (by omega) (by omega) (by omega) (by omega)).mono ?_
        rintro e w17 ⟨rfl, hA17, hb17⟩
        have Q17 := Lib.hid (Q16.out.trans hb17)
        have A17 := Lib.hid (hA17.perm (List.perm_append_comm (l₁ := [rowT 3 1 (.slice x1 m.next.length k1) m.next.length ((seqL 1 m.next.length).map (Value.int .i64)), rowT 4 1 (.slice x2 m.ends.length k2) m.ends.length ((seqB (1 + m.next.length) m.ends.length).map Value.bool), cM bg ts (.slice g1 tx.length k5) (.slice g2 tb.length k6), rI (.slice g1 tx.length k5) tx, rB (.slice g2 tb.length k6) tb, cM bY k.st (.slice x3 k.next.length k3) (.slice x4 k.ends.length k4)]) (l₂ := [rI (.slice x3 k.next.length k3) k.next, rB (.slice x4 k.ends.length k4) k.ends, cM bx m.st (.slice x1 m.next.length k1) (.slice x2 m.ends.length k2)])))
        clear hA17 hb17 A16 Q16
        obtain ⟨y0, y1, y2⟩ := cM_at (A17.out.of (cM bY k.st (.slice x3 k.next.length k3) (.slice x4 k.ends.length k4)) (by simp))
        go_wp2_with fail
        clear y0 y1 y2
        refine (markMachine_any w4.heap.size [cM bx m.st (.slice x1 m.next.length k1) (.slice x2 m.ends.length k2), rowT 3 1 (.slice x1 m.next.length k1) m.next.length ((seqL 1 m.next.length).map (Value.int .i64)), rowT 4 1 (.slice x2 m.ends.length k2) m.ends.length ((seqB (1 + m.next.length) m.ends.length).map Value.bool), cM bg ts (.slice g1 tx.length k5) (.slice g2 tb.length k6), rI (.slice g1 tx.length k5) tx, rB (.slice g2 tb.length k6) tb, cM bY k.st (.slice x3 k.next.length k3) (.slice x4 k.ends.length k4)] k.st _ _ k.next k.ends (1 + m.next.length + m.ends.length) _ A17.out Q17.out.size (by omega) (by omega) (by omega) (by omega)).mono ?_
        rintro e w18 ⟨rfl, hA18, hb18⟩
        have Q18 := Lib.hid (Q17.out.trans hb18)
        have A18 := Lib.hid hA18
        clear hA18 hb18 A17 Q17
        have Z18 := Lib.hid (S4.out.below Q18.out)
        obtain ⟨y0, y1, y2⟩ := cM_at (A18.out.of (cM bg ts (.slice g1 tx.length k5) (.slice g2 tb.length k6)) (by simp))
        have y3 := Z18.out.c0
        have y4 := Z18.out.c1
        have y5 := Z18.out.c2
        have hge : ¬ ((1 : Int) + (m.next.length : Int) + (m.ends.length : Int) + (k.next.length : Int) + (k.ends.length : Int) < 0) := by omega
        go_wp2_with fail
        clear y0 y1 y2 y3 y4 y5
        refine (eqMachine_same ⟨ts, tx, tb⟩ _ _ _ _ _ (IsInts.of_owns (A18.out.of (rI (.slice g1 tx.length k5) tx) (by simp))) (IsBools.of_owns (A18.out.of (rB (.slice g2 tb.length k6) tb) (by simp))) Z18.out.ints Z18.out.bools).mono ?_
        rintro e w19 ⟨rfl, hb19⟩
        have A19 := Lib.hid ((A18.out.below hb19).perm (List.perm_append_comm (l₁ := [rowT 3 1 (.slice x3 k.next.length k3) k.next.length ((seqL (1 + m.next.length + m.ends.length) k.next.length).map (Value.int .i64)), rowT 4 1 (.slice x4 k.ends.length k4) k.ends.length ((seqB ((1 + m.next.length + m.ends.length) + k.next.length) k.ends.length).map Value.bool), cM bx m.st (.slice x1 m.next.length k1) (.slice x2 m.ends.length k2), rowT 3 1 (.slice x1 m.next.length k1) m.next.length ((seqL 1 m.next.length).map (Value.int .i64)), rowT 4 1 (.slice x2 m.ends.length k2) m.ends.length ((seqB (1 + m.next.length) m.ends.length).map Value.bool), cM bg ts (.slice g1 tx.length k5) (.slice g2 tb.length k6)]) (l₂ := [rI (.slice g1 tx.length k5) tx, rB (.slice g2 tb.length k6) tb, cM bY k.st (.slice x3 k.next.length k3) (.slice x4 k.ends.length k4)])))
        have Q19 := Lib.hid (Q18.out.trans (hb19.mono Q18.out.size))
        clear hb19 A18 Q18 Z18
        obtain ⟨y0, y1, y2⟩ := cM_at (A19.out.of (cM bg ts (.slice g1 tx.length k5) (.slice g2 tb.length k6)) (by simp))
        go_wp2_with fail
        clear y0 y1 y2
        refine (markMachine_any w4.heap.size [cM bY k.st (.slice x3 k.next.length k3) (.slice x4 k.ends.length k4), rowT 3 1 (.slice x3 k.next.length k3) k.next.length ((seqL (1 + m.next.length + m.ends.length) k.next.length).map (Value.int .i64)), rowT 4 1 (.slice x4 k.ends.length k4) k.ends.length ((seqB ((1 + m.next.length + m.ends.length) + k.next.length) k.ends.length).map Value.bool), cM bx m.st (.slice x1 m.next.length k1) (.slice x2 m.ends.length k2), rowT 3 1 (.slice x1 m.next.length k1) m.next.length ((seqL 1 m.next.length).map (Value.int .i64)), rowT 4 1 (.slice x2 m.ends.length k2) m.ends.length ((seqB (1 + m.next.length) m.ends.length).map Value.bool), cM bg ts (.slice g1 tx.length k5) (.slice g2 tb.length k6)] ts _ _ tx tb 1 _ A19.out Q19.out.size hKl.out.1 hKl.out.2 (by omega) (by omega)).mono ?_
        rintro e w20 ⟨rfl, hA20, hb20⟩
        have Q20 := Lib.hid (Q19.out.trans hb20)
        have A20 := Lib.hid hA20
        have hL := hKl.out
        clear A19 hA20 hb20 Q19
        obtain ⟨y0, y1, y2⟩ := cM_at (A20.out.of (cM bg ts (.slice g1 tx.length k5) (.slice g2 tb.length k6)) (by simp))
        have I14 := IsInts.of_owns (xs := seqL 1 tx.length) (base := 0) (e := 3) (v := .slice g1 tx.length k5) (w := w20) (by rw [seqL_length]; exact A20.out.of (rowT 3 1 (.slice g1 tx.length k5) tx.length ((seqL 1 tx.length).map (Value.int .i64))) (by simp))
        have J14 := IsBools.of_owns (xs := seqB (1 + tx.length) tb.length) (base := 0) (e := 4) (v := .slice g2 tb.length k6) (w := w20) (by rw [seqB_length]; exact A20.out.of (rowT 4 1 (.slice g2 tb.length k6) tb.length ((seqB (1 + tx.length) tb.length).map Value.bool)) (by simp))
        have H20 := Lib.hid (And.intro I14 J14)
        clear I14 J14
        go_wp2_with fail
        clear y0 y1 y2
        refine (heldMachine_any ts _ _ tx.length tb.length 1 _ H20.out.1 H20.out.2 hL.1 hL.2 (by omega) (by omega)).mono ?_
        rintro e w21 ⟨rfl, hb21⟩
        have A21 := Lib.hid ((A20.out.of (cM bg ts (.slice g1 tx.length k5) (.slice g2 tb.length k6)) (by simp)))
        have A22 : Hid ((cM bg ts (.slice g1 tx.length k5) (.slice g2 tb.length k6)).says w21) := Lib.hid ((cM bg ts (.slice g1 tx.length k5) (.slice g2 tb.length k6)).st w20 w21 (fun b _ => hb21.block b (by have := (A20.out.all (cM bg ts (.slice g1 tx.length k5) (.slice g2 tb.length k6)) (by simp)).2 b (by assumption); omega)) hb21.size A21.out)
        have hbgl : Hid (bg < w21.heap.size) := Lib.hid (Nat.lt_of_lt_of_le ((A20.out.all (cM bg ts (.slice g1 tx.length k5) (.slice g2 tb.length k6)) (by simp)).2 bg rfl).2 hb21.size)
        have Q21 := Lib.hid (Q20.out.trans (hb21.mono Q20.out.size))
        have HH := Lib.hid (And.intro (H20.out.1.below hb21) (H20.out.2.below hb21))
        clear hb21 A20 A21 Q20 H20
        have hge2 : ¬ ((1 : Int) + (tx.length : Int) + (tb.length : Int) < 0) := by omega
        have hne2 : (((1 : Int) + (tx.length : Int) + (tb.length : Int)) != ((1 : Int) + (tx.length : Int) + (tb.length : Int))) = false := by simp
        have T21 := Lib.hid (T4.out.below Q21.out)
        go_upto_region 31 with fail
        have X0 : Six w.heap.size (w.heap.size + 1) m.st k.st nv ev mv fv w21 := ⟨T21.out.a.hB, T21.out.b.hB, T21.out.a.c0, T21.out.a.c1, T21.out.a.c2, T21.out.b.c0, T21.out.b.c1, T21.out.b.c2⟩
        have hl0 := X0.la
        have hm0 := X0.lb
        have HSX : Hid (∀ V, Below w21.heap.size w21 V → Six w.heap.size (w.heap.size + 1) m.st k.st nv ev mv fv V) := Lib.hid (fun V h => X0.below h)
        have HT1 : Hid (∀ V, Below w21.heap.size w21 V → Calls Try.prog 14 #[.agg #[.int .i64 m.st, nv, ev]] V (MachPost m V)) := Lib.hid (fun V h => toMachine_any m nv ev V (T21.out.below h).a.ints (T21.out.below h).a.bools hl1 hl2)
        have HT2 : Hid (∀ V, Below w21.heap.size w21 V → Calls Try.prog 14 #[.agg #[.int .i64 k.st, mv, fv]] V (MachPost k V)) := Lib.hid (fun V h => toMachine_any k mv fv V (T21.out.below h).b.ints (T21.out.below h).b.bools hl3 hl4)
        have HT3 : Hid (∀ V na ea nb eb, Below w21.heap.size w21 V → IsInts V na m.next → IsBools V ea m.ends → IsInts V nb k.next → IsBools V eb k.ends → Calls Try.prog 22 #[.agg #[.int .i64 m.st, na, ea], .agg #[.int .i64 k.st, nb, eb]] V (JoinNew (m.ok && k.ok) (fun u => m.lang 0 u || k.lang 0 u) V)) := Lib.hid (fun V na ea nb eb _ h1 h2 h3 h4 => implEither_any m k na ea nb eb V h1 h2 h3 h4 hs1 hs2)
        have BD := Lib.hid ((Below.refl w21.heap.size w21).drew)
        have v0 := T21.out.a.c0
        have v1 := T21.out.a.c1
        have v2 := T21.out.a.c2
        have v3 := T21.out.b.c0
        have v4 := T21.out.b.c1
        have v5 := T21.out.b.c2
        go_cut [15, 16] from 17 to 118 (fun t r wx => ∃ (K : M) (rr : Bool) (p : Nat) (v u : Value), t = .pointer (some ⟨p, 0, none⟩) ∧ r = .bool rr ∧ IsJoin (m.ok && k.ok) (fun u => m.lang 0 u || k.lang 0 u) K rr ∧ MachBox p K.st v K.next u K.ends wx ∧ Below w21.heap.size w21 wx)
        case first =>
          as_aux_lemma =>
            go_region_held3 (fun w' => w'.cell? ⟨w.heap.size, 0, none⟩ = some (.int .i64 m.st) ∧ w'.cell? ⟨w.heap.size, 1, none⟩ = some nv ∧ w'.cell? ⟨w.heap.size, 2, none⟩ = some ev ∧ w'.cell? ⟨w.heap.size + 1, 0, none⟩ = some (.int .i64 k.st) ∧ w'.cell? ⟨w.heap.size + 1, 1, none⟩ = some mv ∧ w'.cell? ⟨w.heap.size + 1, 2, none⟩ = some fv)
              (first | (refine Six.cells ?_; ((repeat' (first | with_reducible assumption | with_reducible refine Six.alloc ?_ _ | with_reducible refine Six.drew ?_ | with_reducible refine Six.set ?_ ?_ ?_ | omega)); done)))
              (first | (go_at_call 14; with_reducible refine Calls.mono (HT1.out _ ?_) ?_; (· (first | with_reducible exact BD.out | with_reducible exact bel1 _ _)); rintro e v1 h1; obtain ⟨a1v, b1v, rfl, hi1, hj1, hb1⟩ := h1.form; (first | (with_reducible have B1 := Lib.hid (Below.then' BD.out hb1)) | (with_reducible have B1 := Lib.hid (Below.then' (bel1 w21 _) hb1))); (first | (with_reducible have ZA := Lib.hid (Z0.one1 hb1)) | skip); (try have zl1 := ZA.out.lt); have X1 := HSX.out _ B1.out; have hl1 := X1.la; have hm1 := X1.lb; clear h1) | (go_at_call 14; with_reducible refine Calls.mono (HT2.out _  ?_) ?_; (· (first | with_reducible exact B1.out | (with_reducible refine Below.alloc' ?_ _; with_reducible exact B1.out))); rintro e v2 h2; obtain ⟨a2v, b2v, rfl, hi2, hj2, hb2⟩ := h2.form; (first | (with_reducible have k2 := Below.then' (Below.refl v1.heap.size v1) hb2) | (with_reducible have k2 := Below.then' (Below.alloc' (Below.refl v1.heap.size v1) _) hb2)); have B2 := Lib.hid (Below.then' B1.out k2); have hi1b := hi1.below k2; clear hi1; have hj1b := hj1.below k2; clear hj1; (try (have ZB := Lib.hid (ZA.out.below k2); clear ZA; have ZA := ZB; clear ZB)); (try (with_reducible have ZA := Lib.hid (Z0.one1' hb2))); (try have zl2 := ZA.out.lt); clear X1; have X2 := HSX.out _ B2.out; have hl2 := X2.la; have hs2 := Lib.hid k2.size; have hm2 := X2.lb) | (go_at_call 22; with_reducible refine Calls.mono (HT3.out _ _ _ _ _ ?_ ?_ ?_ ?_ ?_) ?_; (· (first | with_reducible exact B2.out | (with_reducible refine Below.alloc' ?_ _; with_reducible exact B2.out))); (· (first | with_reducible exact hi1b | with_reducible exact hi1b.alloc _)); (· (first | with_reducible exact hj1b | with_reducible exact hj1b.alloc _)); (· (first | with_reducible exact hi2 | with_reducible exact hi2.alloc _)); (· (first | with_reducible exact hj2 | with_reducible exact hj2.alloc _)); rintro e v3 h3; obtain ⟨X3m, rr3, a1, n1, c1, a2, n2, c2, rfl, hr3, hf3, hb3⟩ := h3.rows; (first | (with_reducible have R3 := Rws.one' hr3) | (have R3 := hr3)); (first | (with_reducible have E3 := Rws.ex1 hr3) | (have E3 := Rws.ex0 hr3)); (first | (with_reducible have k3 := Below.then' (Below.refl v2.heap.size v2) hb3) | (with_reducible have k3 := Below.then' (Below.alloc' (Below.refl v2.heap.size v2) _) hb3)); have B3 := Lib.hid (Below.then' B2.out k3); (try (have ZB := Lib.hid (ZA.out.below k3); clear ZA; have ZA := ZB; clear ZB)); (try (with_reducible have ZA := Lib.hid (Z0.one1' hb3))); (try have zl3 := ZA.out.lt); clear X2; have X3 := HSX.out _ B3.out; have hl3 := X3.la; have hs3 := Lib.hid k3.size; have hm3 := X3.lb; (try (obtain ⟨qal, qa0, qa1, qa2, qa3, qa4, qa5⟩ := ZA.out))))
            all_goals
              (try have z7 := ZA.out.lt)
              have z23 := hs3.out
              have z12 := hs2.out
              have z01 := B1.out.size
              have HX := Lib.hid X3
              have BB : Below w21.heap.size w21 v3 := B3.out
              have HD := Lib.hid hf3
              clear X3 hf3
              go_wp2
              go_meet
              case rel => exact ⟨X3m, rr3, _, _, _, rfl, rfl, HD.out, ⟨(by first | (simp; done) | (simp; omega)), (by go_simp), (by go_simp), (by go_simp), (Rws.via R3 (fun _ => by ((repeat' (first | with_reducible assumption | with_reducible refine Rws.alloc ?_ _ | with_reducible refine Rws.set ?_ ?_ | omega)); done))).1, (Rws.via R3 (fun _ => by ((repeat' (first | with_reducible assumption | with_reducible refine Rws.alloc ?_ _ | with_reducible refine Rws.set ?_ ?_ | omega)); done))).2⟩, (by ((repeat' (first | with_reducible assumption | with_reducible refine Below.alloc' ?_ _ | with_reducible refine Below.set' ?_ ?_ | omega)); done))⟩
        case rest =>
          obtain ⟨K2, r2, p2, sv2, su2, rfl, rfl, hJ2, hM2, hB2⟩ := hcut
          generalize wc = w22 at *
          obtain ⟨rfl, rfl⟩ := hJ2.one HJK.out
          have E22 := Lib.hid hM2
          have Q22 := Lib.hid (Q21.out.trans (hB2.mono Q21.out.size))
          have C22 : Hid ((cM bg ts (.slice g1 tx.length k5) (.slice g2 tb.length k6)).says w22) := Lib.hid ((cM bg ts (.slice g1 tx.length k5) (.slice g2 tb.length k6)).st w21 w22 (fun b hb => hB2.block b (by have e := Option.some.inj hb; have := hbgl.out; omega)) hB2.size A22.out)
          have HH2 := Lib.hid (And.intro (HH.out.1.below hB2) (HH.out.2.below hB2))
          have hbgl2 : Hid (bg < w22.heap.size) := Lib.hid (Nat.lt_of_lt_of_le hbgl.out hB2.size)
          clear hJ2 hM2 hB2 X0 hl0 hm0 HSX HT1 HT2 HT3 BD v0 v1 v2 v3 v4 v5 A22 Q21 HH T21 hbgl
          have Z22 := Lib.hid (S4.out.below Q22.out)
          have y0 := E22.out.c0
          have y1 := E22.out.c1
          have y2 := E22.out.c2
          have y3 := Z22.out.c0
          have y4 := Z22.out.c1
          have y5 := Z22.out.c2
          simp only at y0 y1 y2
          go_wp2_with fail
          clear y0 y1 y2 y3 y4 y5
          refine (eqMachine_same ⟨ts, tx, tb⟩ _ _ _ _ _ E22.out.ints E22.out.bools Z22.out.ints Z22.out.bools).mono ?_
          rintro e w23 ⟨rfl, hb23⟩
          have C23 : Hid ((cM bg ts (.slice g1 tx.length k5) (.slice g2 tb.length k6)).says w23) := Lib.hid ((cM bg ts (.slice g1 tx.length k5) (.slice g2 tb.length k6)).st w22 w23 (fun b hb => hb23.block b (by have e := Option.some.inj hb; have := hbgl2.out; omega)) hb23.size C22.out)
          have Q23 := Lib.hid (Q22.out.trans (hb23.mono Q22.out.size))
          have HH3 := Lib.hid (And.intro (HH2.out.1.below hb23) (HH2.out.2.below hb23))
          clear hb23 C22 Q22 HH2 E22 Z22
          obtain ⟨y0, y1, y2⟩ := cM_at C23.out
          go_wp2_with fail
          clear y0 y1 y2
          refine (heldMachine_any ts _ _ tx.length tb.length 1 _ HH3.out.1 HH3.out.2 hL.1 hL.2 (by omega) (by omega)).mono ?_
          rintro e w24 ⟨rfl, hb24⟩
          have Q24 := Lib.hid (Q23.out.trans (hb24.mono Q23.out.size))
          clear hb24 Q23 HH3
          go_wp2_with fail
          go_ret
          exact ⟨rfl, q4.out.trans (Q24.out.mono q4.out.size)⟩
theorem exactEitherMachine_walk {w : World} (st : Int) (hst : (Lit.int .i64 st).wf = true) (nv : Value) (xs : List Int) (hn : IsInts w nv xs) (ev : Value) (bs : List Bool) (he : IsBools w ev bs)
    (st' : Int) (hst' : (Lit.int .i64 st').wf = true) (nv' : Value) (xs' : List Int) (hn' : IsInts w nv' xs') (ev' : Value) (bs' : List Bool) (he' : IsBools w ev' bs') :
    Calls Try.prog 5 #[.agg #[.int .i64 st, nv, ev], .agg #[.int .i64 st', nv', ev']] w fun e w' => e = .returned (.bool true) ∧ Below w.heap.size w w' :=
  exactEither_walk ⟨st, xs, bs⟩ ⟨st', xs', bs'⟩ nv ev nv' ev' hn he hn' he' hst hst'
end Go.Proofs.Ythknpbefdejbkaa
