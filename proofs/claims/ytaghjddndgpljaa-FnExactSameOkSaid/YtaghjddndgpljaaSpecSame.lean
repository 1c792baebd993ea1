/- The specification's SameOk: one language. No condition. -/
import Derived.Test.YtaghjddndgpljaaImplSame
import Derived.Test.YtaghjddndgpljaaL2Equal
import Derived.Deep.RegionHeld3
namespace Go.Proofs.Ytaghjddndgpljaa
open Go.RowKit

theorem IsLmZ.goodOk {m p : M} (hp : IsLmZ m p) (hm : m.ok = true) : p.good := (hp.1 hm).1.good (by have := (hp.1 hm).2; omega)
theorem IsSame.end3 {m k p q : M} (hm : m.ok = true) (hk : k.ok = true) (hp : IsLmZ m p) (hq : IsLmZ k q) : IsSame m k (decide (p = q)) :=
  IsSame.of hm hk (hp.1 hm).1 (hq.1 hk).1 ⟨fun e => of_decide_eq_true e, fun e => decide_eq_true e⟩
set_option maxHeartbeats 8000000 in
set_option maxRecDepth 100000 in
theorem specSameOk_any (m k : M) (nv ev mv fv : Value) (w : World) (h1 : IsInts w nv m.next) (h2 : IsBools w ev m.ends) (h3 : IsInts w mv k.next) (h4 : IsBools w fv k.ends) (hs1 : (Lit.int .i64 m.st).wf = true) (hs2 : (Lit.int .i64 k.st).wf = true) :
    Calls Try.prog 18 #[.agg #[.int .i64 m.st, nv, ev], .agg #[.int .i64 k.st, mv, fv]] w fun e w' => (∃ b, IsSame m k b ∧ e = .returned (.bool b)) ∧ Below w.heap.size w w' := by
  obtain ⟨T2, q2⟩ := Two.new 26 h1 h2 h3 h4
  have HT := Lib.hid T2
  have HQ := Lib.hid q2
  have y0 := T2.a.c0
  have y1 := T2.a.c1
  have y2 := T2.a.c2
  clear T2 q2 h1 h2 h3 h4
  go_enter Try.func18, Try.ntmps18
  go_wp2_with fail
  generalize hW2 : (w.alloc (.cells #[.int .i64 m.st, nv, ev] 26)).alloc (.cells #[.int .i64 k.st, mv, fv] 26) = w2 at *
  clear hW2 y0 y1 y2
  refine (specMachineOk_any m nv ev w2 HT.out.a.ints HT.out.a.bools hs1).mono ?_
  rintro e w3 ⟨rfl, hb3⟩
  have T3 := Lib.hid (HT.out.below hb3)
  have Q3 := Lib.hid (HQ.out.trans (hb3.mono HQ.out.size))
  clear hb3
  cases hk1 : m.ok with
  | false =>
    go_wp2_with fail
    go_ret
    exact ⟨⟨false, ⟨fun h => (by rw [hk1] at h; cases h), fun _ => rfl⟩, rfl⟩, Q3.out⟩
  | true =>
    have y0 := T3.out.b.c0
    have y1 := T3.out.b.c1
    have y2 := T3.out.b.c2
    go_wp2_with fail
    clear y0 y1 y2
    refine (specMachineOk_any k mv fv w3 T3.out.b.ints T3.out.b.bools hs2).mono ?_
    rintro e w4 ⟨rfl, hb4⟩
    have T4 := Lib.hid (T3.out.below hb4)
    have Q4 := Lib.hid (Q3.out.trans (hb4.mono Q3.out.size))
    clear hb4
    cases hk2 : k.ok with
    | false =>
      go_wp2_with fail
      go_ret
      exact ⟨⟨false, ⟨fun _ h => (by rw [hk2] at h; cases h), fun _ => rfl⟩, rfl⟩, Q4.out⟩
    | true =>
      have HK1 := Lib.hid hk1
      have HK2 := Lib.hid hk2
      clear hk1 hk2
      go_upto_region 3 with fail
      have X4 : Six w.heap.size (w.heap.size + 1) m.st k.st nv ev mv fv w4 := ⟨T4.out.a.hB, T4.out.b.hB, T4.out.a.c0, T4.out.a.c1, T4.out.a.c2, T4.out.b.c0, T4.out.b.c1, T4.out.b.c2⟩
      have HSX : Hid (∀ W, Below w4.heap.size w4 W → Six w.heap.size (w.heap.size + 1) m.st k.st nv ev mv fv W) := Lib.hid (fun W h => X4.below h)
      have HL1 : Hid (∀ W, Below w4.heap.size w4 W → Calls Try.prog 29 #[.agg #[.int .i64 m.st, nv, ev]] W (LeastNew m W)) := Lib.hid (fun W h => specLeastZ m nv ev W (T4.out.below h).a.ints (T4.out.below h).a.bools hs1)
      have HL2 : Hid (∀ W, Below w4.heap.size w4 W → Calls Try.prog 29 #[.agg #[.int .i64 k.st, mv, fv]] W (LeastNew k W)) := Lib.hid (fun W h => specLeastZ k mv fv W (T4.out.below h).b.ints (T4.out.below h).b.bools hs2)
      have BD := Lib.hid ((Below.refl w4.heap.size w4).drew)
      have y0 := T4.out.a.c0
      have y1 := T4.out.a.c1
      have y2 := T4.out.a.c2
      have y3 := T4.out.b.c0
      have y4 := T4.out.b.c1
      have y5 := T4.out.b.c2
      go_region_held3 (fun w' => w'.cell? ⟨w.heap.size, 0, none⟩ = some (.int .i64 m.st) ∧ w'.cell? ⟨w.heap.size, 1, none⟩ = some nv ∧ w'.cell? ⟨w.heap.size, 2, none⟩ = some ev ∧ w'.cell? ⟨w.heap.size + 1, 0, none⟩ = some (.int .i64 k.st) ∧ w'.cell? ⟨w.heap.size + 1, 1, none⟩ = some mv ∧ w'.cell? ⟨w.heap.size + 1, 2, none⟩ = some fv)
        (first | (refine Six.cells ?_; ((repeat' (first | with_reducible assumption | with_reducible refine Six.alloc ?_ _ | with_reducible refine Six.drew ?_ | with_reducible refine Six.set ?_ ?_ ?_ | omega)); done)))
        (first | (go_at_call 29; with_reducible refine Calls.mono (HL1.out _ ?_) ?_; (· (with_reducible exact BD.out)); rintro e w5 h5; obtain ⟨K1, a5, n5, c5, d5, m5, e5, hK1, rfl, hr5, hb5⟩ := h5.rows; have I5 := Lib.hid hK1; have R5 := Rws.zero hr5; with_reducible have B5 := Lib.hid (Below.then' BD.out hb5); have X5 := HSX.out _ B5.out; clear hK1 hr5 h5 hb5) | (go_at_call 29; with_reducible refine Calls.mono (HL2.out _ ?_) ?_; (· (with_reducible exact B5.out)); rintro e w6 h6; obtain ⟨K2, a6, n6, c6, d6, m6, e6, hK2, rfl, hr6, hb6⟩ := h6.rows; have I6 := Lib.hid hK2; have R56 := R5.below hb6; have B6 := Lib.hid (Below.then' B5.out hb6); clear X5 R5; have X6 := HSX.out _ B6.out; clear hK2 h6 hb6) | (go_at_call 65; refine Calls.mono (specL2Equal_any K1 K2 (.slice a5 n5 c5) (.slice d5 m5 e5) (.slice a6 n6 c6) (.slice d6 m6 e6) w6 R56.ints R56.bools hr6.ints hr6.bools (IsLmZ.goodOk I5.out HK1.out) (IsLmZ.goodOk I6.out HK2.out)) ?_; rintro e w7 ⟨rfl, hb7⟩; have B7 := Lib.hid (Below.then' B6.out hb7); clear X6; have X7 := HSX.out _ B7.out; clear hb7))
      all_goals
        go_wp2_with fail
        go_ret
        exact ⟨⟨_, IsSame.end3 HK1.out HK2.out I5.out I6.out, rfl⟩, Q4.out.trans (B7.out.mono Q4.out.size)⟩
end Go.Proofs.Ytaghjddndgpljaa
