/- The program's machines of pairs: BothMachines and EitherMachine. No condition. -/
import Derived.Test.YthknpbefdejbkaaFwPair
import Derived.Test.YthknpbefdejbkaaPairClos
import Derived.Test.YthknpbefdejbkaaPairBase
namespace Go.Proofs.Ythknpbefdejbkaa
open Go.RowKit

theorem bothFn_any (a b : Bool) (W : World) : Calls Try.prog 62 #[.bool a, .bool b] W fun e W' => e = .returned (.bool (a && b)) ∧ Below W.heap.size W W' := by
  cases a <;> cases b <;> (go_enter Try.func62, Try.ntmps62; go_wp2; go_ret; exact ⟨rfl, Below.refl _ _⟩)
theorem eitherFn_any (a b : Bool) (W : World) : Calls Try.prog 63 #[.bool a, .bool b] W fun e W' => e = .returned (.bool (a || b)) ∧ Below W.heap.size W W' := by
  cases a <;> cases b <;> (go_enter Try.func63, Try.ntmps63; go_wp2; go_ret; exact ⟨rfl, Below.refl _ _⟩)
/-- two machines in boxes, a pair, and a function in a box -/
structure Pfx (a b c f : Nat) (ms ks : Int) (nv ev mv uv : Value) (x y : Int) (fv : Value) (W : World) : Prop where
  pb : Pbx a b c ms ks nv ev mv uv x y W
  lf : f < W.heap.size
  cf : W.cell? ⟨f, 0, none⟩ = some fv
theorem Pfx.below {a b c f : Nat} {ms ks : Int} {nv ev mv uv : Value} {x y : Int} {fv : Value} {W W' : World} (h : Pfx a b c f ms ks nv ev mv uv x y fv W) (hb : Below W.heap.size W W') : Pfx a b c f ms ks nv ev mv uv x y fv W' :=
  ⟨h.pb.below hb, Nat.lt_of_lt_of_le h.lf hb.size, (hb.cell (p := ⟨f, 0, none⟩) h.lf).trans h.cf⟩
theorem Pfx.cells {a b c f : Nat} {ms ks : Int} {nv ev mv uv : Value} {x y : Int} {fv : Value} {W : World} (h : Pfx a b c f ms ks nv ev mv uv x y fv W) :
    W.cell? ⟨f, 0, none⟩ = some fv ∧ W.cell? ⟨a, 0, none⟩ = some (.int .i64 ms) ∧ W.cell? ⟨a, 1, none⟩ = some nv ∧ W.cell? ⟨a, 2, none⟩ = some ev ∧ W.cell? ⟨b, 0, none⟩ = some (.int .i64 ks) ∧ W.cell? ⟨b, 1, none⟩ = some mv ∧ W.cell? ⟨b, 2, none⟩ = some uv ∧ W.cell? ⟨c, 0, none⟩ = some (.int .i64 x) ∧ W.cell? ⟨c, 1, none⟩ = some (.int .i64 y) := ⟨h.cf, h.pb.cells⟩

set_option maxHeartbeats 1600000 in
theorem pairEndsBoth_any (A B : M) (an ae bn be : Value) (bA bB fB : Nat) (W : World) (hT : Two bA bB A B an ae bn be W) (hA : A.good) (hB : B.good) (hf : W.cell? ⟨fB, 0, none⟩ = some (.func (.func 62) #[] #[])) (hfl : fB < W.heap.size) (x : Int) (hx : inP A B x) :
    Calls Try.prog 87 #[.agg #[.int .i64 (p1 x), .int .i64 (p2 x)], .pointer (some ⟨fB, 0, none⟩), .pointer (some ⟨bA, 0, none⟩), .pointer (some ⟨bB, 0, none⟩)] W
      fun e W' => e = .returned (.bool (pEnds A B (fun a b => a && b) x)) ∧ Below W.heap.size W W' := by
  have hb0 : Below W.heap.size W (W.alloc (.cells #[.int .i64 (p1 x), .int .i64 (p2 x)] 84)) := (Below.refl _ _).alloc (Nat.le_refl _) _
  have T0 := hT.below hb0
  have X0 : Pfx bA bB W.heap.size fB A.st B.st an ae bn be (p1 x) (p2 x) (.func (.func 62) #[] #[]) (W.alloc (.cells #[.int .i64 (p1 x), .int .i64 (p2 x)] 84)) := by
    refine ⟨⟨⟨T0.a.hB, T0.b.hB, T0.a.c0, T0.a.c1, T0.a.c2, T0.b.c0, T0.b.c1, T0.b.c2⟩, by simp, World.cell?_alloc_new _ _ _ 0, World.cell?_alloc_new _ _ _ 1⟩, by simp; omega, (hb0.cell (p := ⟨fB, 0, none⟩) hfl).trans hf⟩
  have HX := Lib.hid X0
  have HQ := Lib.hid hb0
  have H1 : Hid (∀ V, Below W.heap.size W V → Calls Try.prog 54 #[.agg #[.int .i64 A.st, an, ae], .int .i64 (p1 x)] V fun e w' => e = .returned (.bool (A.endAt (p1 x))) ∧ Below V.heap.size V w') :=
    Lib.hid (fun V hV => implEndOk_any A (p1 x) an ae V (hT.below hV).a.bools hA hx.1 hx.2.1)
  have H2 : Hid (∀ V, Below W.heap.size W V → Calls Try.prog 54 #[.agg #[.int .i64 B.st, bn, be], .int .i64 (p2 x)] V fun e w' => e = .returned (.bool (B.endAt (p2 x))) ∧ Below V.heap.size V w') :=
    Lib.hid (fun V hV => implEndOk_any B (p2 x) bn be V (hT.below hV).b.bools hB hx.2.2.1 hx.2.2.2)
  have HPE : Hid (pEnds A B (fun a b => a && b) x = (A.endAt (p1 x) && B.endAt (p2 x))) := Lib.hid rfl
  clear hb0 T0 X0 hT hx hA hB hf hfl
  obtain ⟨y8, y0, y1, y2, y3, y4, y5, y6, y7⟩ := HX.out.cells
  go_enter Try.func87, Try.ntmps87
  go_upto_region 1 with fail
  generalize hW2 : W.alloc (.cells #[.int .i64 (p1 x), .int .i64 (p2 x)] 84) = w2 at *
  clear hW2
  have BD := Lib.hid ((Below.refl w2.heap.size w2).drew)
  have HSX : Hid (∀ V, Below w2.heap.size w2 V → Pfx bA bB W.heap.size fB A.st B.st an ae bn be (p1 x) (p2 x) (.func (.func 62) #[] #[]) V) := Lib.hid (fun V h => HX.out.below h)
  have HH1 : Hid (∀ V, Below w2.heap.size w2 V → Calls Try.prog 54 #[.agg #[.int .i64 A.st, an, ae], .int .i64 (p1 x)] V fun e w' => e = .returned (.bool (A.endAt (p1 x))) ∧ Below V.heap.size V w') := Lib.hid (fun V h => H1.out V (HQ.out.trans (h.mono HQ.out.size)))
  have HH2 : Hid (∀ V, Below w2.heap.size w2 V → Calls Try.prog 54 #[.agg #[.int .i64 B.st, bn, be], .int .i64 (p2 x)] V fun e w' => e = .returned (.bool (B.endAt (p2 x))) ∧ Below V.heap.size V w') := Lib.hid (fun V h => H2.out V (HQ.out.trans (h.mono HQ.out.size)))
  have XD := HSX.out _ BD.out
  clear H1 H2 HX
  generalize A.endAt (p1 x) = ea at *
  generalize B.endAt (p2 x) = eb at *
  go_region_held3 (fun w' => w'.cell? ⟨fB, 0, none⟩ = some (.func (.func 62) #[] #[]) ∧ w'.cell? ⟨bA, 0, none⟩ = some (.int .i64 A.st) ∧ w'.cell? ⟨bA, 1, none⟩ = some an ∧ w'.cell? ⟨bA, 2, none⟩ = some ae ∧ w'.cell? ⟨bB, 0, none⟩ = some (.int .i64 B.st) ∧ w'.cell? ⟨bB, 1, none⟩ = some bn ∧ w'.cell? ⟨bB, 2, none⟩ = some be ∧ w'.cell? ⟨W.heap.size, 0, none⟩ = some (.int .i64 (p1 x)) ∧ w'.cell? ⟨W.heap.size, 1, none⟩ = some (.int .i64 (p2 x)))
    (first | (with_reducible exact XD.cells) | (with_reducible exact X3.cells) | (with_reducible exact X4.cells) | (with_reducible exact X5.cells))
    (first | (go_at_call 54; with_reducible refine Calls.mono (HH1.out _ ?_) ?_; (· (with_reducible exact BD.out)); rintro e w3 ⟨rfl, hb3⟩; with_reducible have B3 := Lib.hid (Below.then' BD.out hb3); have X3 := HSX.out _ B3.out; clear hb3) | (go_at_call 54; with_reducible refine Calls.mono (HH2.out _ ?_) ?_; (· (with_reducible exact B3.out)); rintro e w4 ⟨rfl, hb4⟩; have B4 := Lib.hid (Below.then' B3.out hb4); clear hb4; have X4 := HSX.out _ B4.out) | (go_at_call 62; refine Calls.mono (bothFn_any ea eb _) ?_; rintro e w5 ⟨rfl, hb5⟩; have B5 := Lib.hid (Below.then' B4.out hb5); clear hb5; have X5 := HSX.out _ B5.out))
  all_goals
    clear XD X3 X4 X5 HSX HH1 HH2 y0 y1 y2 y3 y4 y5 y6 y7 y8
    go_wp2
    go_ret
    exact ⟨ret_bool HPE.out.symm, HQ.out.trans (B5.out.mono HQ.out.size)⟩
set_option maxHeartbeats 1600000 in
theorem pairEndsEither_any (A B : M) (an ae bn be : Value) (bA bB fB : Nat) (W : World) (hT : Two bA bB A B an ae bn be W) (hA : A.good) (hB : B.good) (hf : W.cell? ⟨fB, 0, none⟩ = some (.func (.func 63) #[] #[])) (hfl : fB < W.heap.size) (x : Int) (hx : inP A B x) :
    Calls Try.prog 87 #[.agg #[.int .i64 (p1 x), .int .i64 (p2 x)], .pointer (some ⟨fB, 0, none⟩), .pointer (some ⟨bA, 0, none⟩), .pointer (some ⟨bB, 0, none⟩)] W
      fun e W' => e = .returned (.bool (pEnds A B (fun a b => a || b) x)) ∧ Below W.heap.size W W' := by
  have hb0 : Below W.heap.size W (W.alloc (.cells #[.int .i64 (p1 x), .int .i64 (p2 x)] 84)) := (Below.refl _ _).alloc (Nat.le_refl _) _
  have T0 := hT.below hb0
  have X0 : Pfx bA bB W.heap.size fB A.st B.st an ae bn be (p1 x) (p2 x) (.func (.func 63) #[] #[]) (W.alloc (.cells #[.int .i64 (p1 x), .int .i64 (p2 x)] 84)) := by
    refine ⟨⟨⟨T0.a.hB, T0.b.hB, T0.a.c0, T0.a.c1, T0.a.c2, T0.b.c0, T0.b.c1, T0.b.c2⟩, by simp, World.cell?_alloc_new _ _ _ 0, World.cell?_alloc_new _ _ _ 1⟩, by simp; omega, (hb0.cell (p := ⟨fB, 0, none⟩) hfl).trans hf⟩
  have HX := Lib.hid X0
  have HQ := Lib.hid hb0
  have H1 : Hid (∀ V, Below W.heap.size W V → Calls Try.prog 54 #[.agg #[.int .i64 A.st, an, ae], .int .i64 (p1 x)] V fun e w' => e = .returned (.bool (A.endAt (p1 x))) ∧ Below V.heap.size V w') :=
    Lib.hid (fun V hV => implEndOk_any A (p1 x) an ae V (hT.below hV).a.bools hA hx.1 hx.2.1)
  have H2 : Hid (∀ V, Below W.heap.size W V → Calls Try.prog 54 #[.agg #[.int .i64 B.st, bn, be], .int .i64 (p2 x)] V fun e w' => e = .returned (.bool (B.endAt (p2 x))) ∧ Below V.heap.size V w') :=
    Lib.hid (fun V hV => implEndOk_any B (p2 x) bn be V (hT.below hV).b.bools hB hx.2.2.1 hx.2.2.2)
  have HPE : Hid (pEnds A B (fun a b => a || b) x = (A.endAt (p1 x) || B.endAt (p2 x))) := Lib.hid rfl
  clear hb0 T0 X0 hT hx hA hB hf hfl
  obtain ⟨y8, y0, y1, y2, y3, y4, y5, y6, y7⟩ := HX.out.cells
  go_enter Try.func87, Try.ntmps87
  go_upto_region 1 with fail
  generalize hW2 : W.alloc (.cells #[.int .i64 (p1 x), .int .i64 (p2 x)] 84) = w2 at *
  clear hW2
  have BD := Lib.hid ((Below.refl w2.heap.size w2).drew)
  have HSX : Hid (∀ V, Below w2.heap.size w2 V → Pfx bA bB W.heap.size fB A.st B.st an ae bn be (p1 x) (p2 x) (.func (.func 63) #[] #[]) V) := Lib.hid (fun V h => HX.out.below h)
  have HH1 : Hid (∀ V, Below w2.heap.size w2 V → Calls Try.prog 54 #[.agg #[.int .i64 A.st, an, ae], .int .i64 (p1 x)] V fun e w' => e = .returned (.bool (A.endAt (p1 x))) ∧ Below V.heap.size V w') := Lib.hid (fun V h => H1.out V (HQ.out.trans (h.mono HQ.out.size)))
  have HH2 : Hid (∀ V, Below w2.heap.size w2 V → Calls Try.prog 54 #[.agg #[.int .i64 B.st, bn, be], .int .i64 (p2 x)] V fun e w' => e = .returned (.bool (B.endAt (p2 x))) ∧ Below V.heap.size V w') := Lib.hid (fun V h => H2.out V (HQ.out.trans (h.mono HQ.out.size)))
  have XD := HSX.out _ BD.out
  clear H1 H2 HX
  generalize A.endAt (p1 x) = ea at *
  generalize B.endAt (p2 x) = eb at *
  go_region_held3 (fun w' => w'.cell? ⟨fB, 0, none⟩ = some (.func (.func 63) #[] #[]) ∧ w'.cell? ⟨bA, 0, none⟩ = some (.int .i64 A.st) ∧ w'.cell? ⟨bA, 1, none⟩ = some an ∧ w'.cell? ⟨bA, 2, none⟩ = some ae ∧ w'.cell? ⟨bB, 0, none⟩ = some (.int .i64 B.st) ∧ w'.cell? ⟨bB, 1, none⟩ = some bn ∧ w'.cell? ⟨bB, 2, none⟩ = some be ∧ w'.cell? ⟨W.heap.size, 0, none⟩ = some (.int .i64 (p1 x)) ∧ w'.cell? ⟨W.heap.size, 1, none⟩ = some (.int .i64 (p2 x)))
    (first | (with_reducible exact XD.cells) | (with_reducible exact X3.cells) | (with_reducible exact X4.cells) | (with_reducible exact X5.cells))
    (first | (go_at_call 54; with_reducible refine Calls.mono (HH1.out _ ?_) ?_; (· (with_reducible exact BD.out)); rintro e w3 ⟨rfl, hb3⟩; with_reducible have B3 := Lib.hid (Below.then' BD.out hb3); have X3 := HSX.out _ B3.out; clear hb3) | (go_at_call 54; with_reducible refine Calls.mono (HH2.out _ ?_) ?_; (· (with_reducible exact B3.out)); rintro e w4 ⟨rfl, hb4⟩; have B4 := Lib.hid (Below.then' B3.out hb4); clear hb4; have X4 := HSX.out _ B4.out) | (go_at_call 63; refine Calls.mono (eitherFn_any ea eb _) ?_; rintro e w5 ⟨rfl, hb5⟩; have B5 := Lib.hid (Below.then' B4.out hb5); clear hb5; have X5 := HSX.out _ B5.out))
  all_goals
    clear XD X3 X4 X5 HSX HH1 HH2 y0 y1 y2 y3 y4 y5 y6 y7 y8
    go_wp2
    go_ret
    exact ⟨ret_bool HPE.out.symm, HQ.out.trans (B5.out.mono HQ.out.size)⟩
/-- what pairMachine holds -/
structure Pm (a : Nat) (A B : M) (an ae bn be fv : Value) (W : World) : Prop where
  t : Two a (a + 1) A B an ae bn be W
  lf : a + 1 + 1 < W.heap.size
  cf : W.cell? ⟨a + 1 + 1, 0, none⟩ = some fv
  z : Z0 (a + 1 + 1 + 1) W
theorem Pm.below {a : Nat} {A B : M} {an ae bn be fv : Value} {W W' : World} (h : Pm a A B an ae bn be fv W) (hb : Below W.heap.size W W') : Pm a A B an ae bn be fv W' :=
  ⟨h.t.below hb, Nat.lt_of_lt_of_le h.lf hb.size, (hb.cell (p := ⟨a + 1 + 1, 0, none⟩) h.lf).trans h.cf, h.z.below hb⟩
theorem Pm.new {A B : M} {an ae bn be fv : Value} {w : World} (h1 : IsInts w an A.next) (h2 : IsBools w ae A.ends) (h3 : IsInts w bn B.next) (h4 : IsBools w be B.ends) :
    Pm w.heap.size A B an ae bn be fv ((((w.alloc (.cells #[.int .i64 A.st, an, ae] 27)).alloc (.cells #[.int .i64 B.st, bn, be] 27)).alloc (.cells #[fv] 65)).alloc (.cells #[.int .i64 0, .slice none 0 0, .slice none 0 0] 27)) ∧
      Below w.heap.size w ((((w.alloc (.cells #[.int .i64 A.st, an, ae] 27)).alloc (.cells #[.int .i64 B.st, bn, be] 27)).alloc (.cells #[fv] 65)).alloc (.cells #[.int .i64 0, .slice none 0 0, .slice none 0 0] 27)) := by
  obtain ⟨T2, q2⟩ := Two.new 27 h1 h2 h3 h4
  have hs2 : ((w.alloc (.cells #[.int .i64 A.st, an, ae] 27)).alloc (.cells #[.int .i64 B.st, bn, be] 27)).heap.size = w.heap.size + 1 + 1 := by simp
  generalize (w.alloc (.cells #[.int .i64 A.st, an, ae] 27)).alloc (.cells #[.int .i64 B.st, bn, be] 27) = w2 at *
  have hb := ((Below.refl w2.heap.size w2).alloc (Nat.le_refl _) (.cells #[fv] 65)).alloc (by simp) (.cells #[.int .i64 0, .slice none 0 0, .slice none 0 0] 27)
  have hz := Z0.new (w2.alloc (.cells #[fv] 65))
  rw [World.size_alloc, hs2] at hz
  refine ⟨⟨T2.below hb, by simp [hs2], ?_, hz⟩, q2.trans (hb.mono q2.size)⟩
  have h5 := World.cell?_alloc_lt (w2.alloc (.cells #[fv] 65)) (.cells #[.int .i64 0, .slice none 0 0, .slice none 0 0] 27) ⟨w2.heap.size, 0, none⟩ (by simp)
  rw [World.cell?_alloc_new w2 #[fv] _ 0, hs2] at h5
  exact h5

set_option maxHeartbeats 1600000 in
set_option maxRecDepth 100000 in
theorem pairMachine_any (g : Bool → Bool → Bool) (fi : Nat)
    (HE : ∀ (A B : M) (an ae bn be : Value) (bA bB fB : Nat) (W : World), Two bA bB A B an ae bn be W → A.good → B.good → W.cell? ⟨fB, 0, none⟩ = some (.func (.func fi) #[] #[]) → fB < W.heap.size → ∀ x, inP A B x → Calls Try.prog 87 #[.agg #[.int .i64 (p1 x), .int .i64 (p2 x)], .pointer (some ⟨fB, 0, none⟩), .pointer (some ⟨bA, 0, none⟩), .pointer (some ⟨bB, 0, none⟩)] W fun e W' => e = .returned (.bool (pEnds A B g x)) ∧ Below W.heap.size W W')
    (A B : M) (an ae bn be : Value) (w : World) (h1 : IsInts w an A.next) (h2 : IsBools w ae A.ends) (h3 : IsInts w bn B.next) (h4 : IsBools w be B.ends) (hs1 : (Lit.int .i64 A.st).wf = true) (hs2 : (Lit.int .i64 B.st).wf = true) :
    Calls Try.prog 61 #[.agg #[.int .i64 A.st, an, ae], .agg #[.int .i64 B.st, bn, be], .func (.func fi) #[] #[]] w (JoinNew (A.ok && B.ok) (fun u => g (A.lang 0 u) (B.lang 0 u)) w) := by
  obtain ⟨P4, q4⟩ := Pm.new (fv := .func (.func fi) #[] #[]) h1 h2 h3 h4
  have HP := Lib.hid P4
  have HQ := Lib.hid q4
  have y0 := P4.t.a.c0
  have y1 := P4.t.a.c1
  have y2 := P4.t.a.c2
  have HEE := Lib.hid HE
  clear P4 q4 h1 h2 h3 h4 HE
  go_enter Try.func61, Try.ntmps61
  go_wp2_with fail
  generalize hW2 : (((w.alloc (.cells #[.int .i64 A.st, an, ae] 27)).alloc (.cells #[.int .i64 B.st, bn, be] 27)).alloc (.cells #[.func (.func fi) #[] #[]] 65)).alloc (.cells #[.int .i64 0, .slice none 0 0, .slice none 0 0] 27) = w2 at *
  clear hW2 y0 y1 y2
  refine (implMachineOk_any A an ae w2 HP.out.t.a.ints HP.out.t.a.bools hs1).mono ?_
  rintro e w3 ⟨rfl, hb3⟩
  have P3 := Lib.hid (HP.out.below hb3)
  have Q3 := Lib.hid (HQ.out.trans (hb3.mono HQ.out.size))
  clear hb3
  cases hk1 : A.ok with
  | false =>
    have HJ : Hid (IsJoin (A.ok && B.ok) (fun u => g (A.lang 0 u) (B.lang 0 u)) ⟨0, [], []⟩ false) := Lib.hid (.inr ⟨rfl, rfl, fun h => by rw [hk1] at h; cases h⟩)
    have z0 := P3.out.z.c0
    have z1 := P3.out.z.c1
    have z2 := P3.out.z.c2
    have f0 := P3.out.z.f0
    have f1 := P3.out.z.f1
    have f2 := P3.out.z.f2
    have FI := Lib.hid (fin_cells (x := .int .i64 0) (y := .slice none 0 0) (z := .slice none 0 0) (apart_nils w3.heap.size w3) Q3.out (by omega) P3.out.z.lt (some3 z0 z1 z2) Q3.out.size)
    rw [← hk1]
    go_wp2
    obtain ⟨r1, r2, r3, r4, r5⟩ := FI.out _ rfl
    refine bodyPost_ret (v := .tuple #[.agg #[.int .i64 0, .slice none 0 0, .slice none 0 0], .bool false]) ?_ rfl ⟨⟨0, [], []⟩, false, none, none, 0, 0, HJ.out, rfl, r1, r2⟩
    simp [results, Try.results61, go_sem, r3, r4, r5]
  | true =>
    have y0 := P3.out.t.b.c0
    have y1 := P3.out.t.b.c1
    have y2 := P3.out.t.b.c2
    go_wp2_with fail
    clear y0 y1 y2
    refine (implMachineOk_any B bn be w3 P3.out.t.b.ints P3.out.t.b.bools hs2).mono ?_
    rintro e w4 ⟨rfl, hb4⟩
    have P4 := Lib.hid (P3.out.below hb4)
    have Q4 := Lib.hid (Q3.out.trans (hb4.mono Q3.out.size))
    clear hb4
    cases hk2 : B.ok with
    | false =>
      have HJ : Hid (IsJoin (A.ok && B.ok) (fun u => g (A.lang 0 u) (B.lang 0 u)) ⟨0, [], []⟩ false) := Lib.hid (.inr ⟨rfl, rfl, fun h => by rw [hk1, hk2] at h; cases h⟩)
      have z0 := P4.out.z.c0
      have z1 := P4.out.z.c1
      have z2 := P4.out.z.c2
      have f0 := P4.out.z.f0
      have f1 := P4.out.z.f1
      have f2 := P4.out.z.f2
      have FI := Lib.hid (fin_cells (x := .int .i64 0) (y := .slice none 0 0) (z := .slice none 0 0) (apart_nils w4.heap.size w4) Q4.out (by omega) P4.out.z.lt (some3 z0 z1 z2) Q4.out.size)
      go_wp2
      obtain ⟨r1, r2, r3, r4, r5⟩ := FI.out _ rfl
      refine bodyPost_ret (v := .tuple #[.agg #[.int .i64 0, .slice none 0 0, .slice none 0 0], .bool false]) ?_ rfl ⟨⟨0, [], []⟩, false, none, none, 0, 0, HJ.out, rfl, r1, r2⟩
      simp [results, Try.results61, go_sem, r3, r4, r5]
    | true =>
      have HA := M.ok_good hk1
      have HB := M.ok_good hk2
      have s1 := M.ok_shape hk1
      have s2 := M.ok_shape hk2
      obtain ⟨N, hN24, hN⟩ := pair_n (A := A) (B := B) s1.1 s1.2.1 s2.2.1 s2.1 (on := pOn A B) (fun x hx l b hl h => pOn_in HA HB s2.2.1 x hx l b hl h)
      obtain ⟨Mx, hMx⟩ : ∃ Mx, Mx = bM (pOn A B) (pc 0 0) N (pEnds A B g) := ⟨_, rfl⟩
      have HF : Calls Try.prog 85 #[.agg #[.int .i64 0, .int .i64 0], .func (.func 86) #[] #[.pointer (some ⟨w.heap.size, 0, none⟩), .pointer (some ⟨w.heap.size + 1, 0, none⟩)], .func (.func 87) #[] #[.pointer (some ⟨w.heap.size + 1 + 1, 0, none⟩), .pointer (some ⟨w.heap.size, 0, none⟩), .pointer (some ⟨w.heap.size + 1, 0, none⟩)]] w4 (MachNew Mx w4) := by
        have h := machineFromPair_any (pOn A B) (pEnds A B g) (pc 0 0) N (inP A B) (.pointer (some ⟨w.heap.size, 0, none⟩)) (.pointer (some ⟨w.heap.size + 1, 0, none⟩)) (.pointer (some ⟨w.heap.size + 1 + 1, 0, none⟩)) w4 hN (by omega) (inP_zero s1.1 s2.2.1 s2.1)
          (fun x hx l b hl h => pOn_in HA HB s2.2.1 x hx l b hl h)
          (fun x hx => ⟨WalkArith.wf_i64 (by have := hx.1; have := hx.2.1; omega), WalkArith.wf_i64 (by have := hx.2.2.1; have := hx.2.2.2; omega)⟩)
          (fun W hW x hx l hl => pairOn_any A B an ae bn be _ _ W (P4.out.below hW).t HA HB s2.2.1 x hx l hl)
          (fun W hW x hx => HEE.out A B an ae bn be _ _ _ W (P4.out.below hW).t HA HB (P4.out.below hW).cf (P4.out.below hW).lf x hx)
        rw [show p1 (pc 0 0) = 0 from rfl, show p2 (pc 0 0) = 0 from rfl] at h
        rw [hMx]
        exact h
      have hMg : Mx.good := by rw [hMx]; exact bM_good hN (by omega)
      have hML : Mx.lang 0 = fun u => g (A.lang 0 u) (B.lang 0 u) := by rw [hMx]; exact pOn_lang HA HB s2.2.1 g hN
      have HMG := Lib.hid hMg
      have HML := Lib.hid hML
      have HFH := Lib.hid HF
      have HKK := Lib.hid (And.intro hk1 hk2)
      clear HA HB s1 s2 hN24 hN hMx HF hMg hML hk1 hk2
      go_wp2_with fail
      refine HFH.out.mono ?_
      rintro e w5 ⟨a1, a2, c1, c2, rfl, hA5, hb5⟩
      have P5 := Lib.hid (P4.out.below hb5)
      have Q5 := Lib.hid (Q4.out.trans (hb5.mono Q4.out.size))
      have HI := Lib.hid (And.intro (IsInts.of_owns hA5.head) (IsBools.of_owns hA5.tail.head))
      clear hA5 hb5
      go_wp2_with fail
      refine (implLeastOf_any Mx _ _ w5 HI.out.1 HI.out.2 HMG.out).mono ?_
      intro e w6 hL
      obtain ⟨K, r, d1, d2, e1, e2, hJ, rfl, hA6, hb6⟩ := hL.join HMG.out
      rw [HML.out] at hJ
      have HJ : Hid (IsJoin (A.ok && B.ok) (fun u => g (A.lang 0 u) (B.lang 0 u)) K r) := Lib.hid (by rw [HKK.out.1, HKK.out.2]; exact hJ)
      have P6 := Lib.hid (P5.out.below hb6)
      have Q6 := Lib.hid (Q5.out.trans (hb6.mono Q5.out.size))
      have z0 := P6.out.z.c0
      have z1 := P6.out.z.c1
      have z2 := P6.out.z.c2
      have f0 := P6.out.z.f0
      have f1 := P6.out.z.f1
      have f2 := P6.out.z.f2
      have FI := Lib.hid (fin_cells (x := .int .i64 K.st) (y := .slice d1 K.next.length e1) (z := .slice d2 K.ends.length e2) hA6 Q6.out (by omega) P5.out.z.lt (some3 z0 z1 z2) Q5.out.size)
      clear hL hJ hA6 hb6
      go_wp2
      obtain ⟨r1, r2, r3, r4, r5⟩ := FI.out _ rfl
      refine bodyPost_ret (v := .tuple #[.agg #[.int .i64 K.st, .slice d1 K.next.length e1, .slice d2 K.ends.length e2], .bool r]) ?_ rfl ⟨K, r, d1, d2, e1, e2, HJ.out, rfl, r1, r2⟩
      simp [results, Try.results61, go_sem, r3, r4, r5]
set_option maxHeartbeats 1600000 in
theorem implBoth_any (A B : M) (an ae bn be : Value) (w : World) (h1 : IsInts w an A.next) (h2 : IsBools w ae A.ends) (h3 : IsInts w bn B.next) (h4 : IsBools w be B.ends) (hs1 : (Lit.int .i64 A.st).wf = true) (hs2 : (Lit.int .i64 B.st).wf = true) :
    Calls Try.prog 20 #[.agg #[.int .i64 A.st, an, ae], .agg #[.int .i64 B.st, bn, be]] w (JoinNew (A.ok && B.ok) (fun u => A.lang 0 u && B.lang 0 u) w) := by
  obtain ⟨T2, q2⟩ := Two.new 27 h1 h2 h3 h4
  have hbz := (Below.refl _ ((w.alloc (.cells #[.int .i64 A.st, an, ae] 27)).alloc (.cells #[.int .i64 B.st, bn, be] 27))).alloc (Nat.le_refl _) (.cells #[.int .i64 0, .slice none 0 0, .slice none 0 0] 27)
  have HT := Lib.hid (T2.below hbz)
  have HQ := Lib.hid (q2.trans (hbz.mono q2.size))
  have hz := Z0.new ((w.alloc (.cells #[.int .i64 A.st, an, ae] 27)).alloc (.cells #[.int .i64 B.st, bn, be] 27))
  rw [World.size_alloc, World.size_alloc] at hz
  have HZ := Lib.hid hz
  have y0 := HT.out.a.c0
  have y1 := HT.out.a.c1
  have y2 := HT.out.a.c2
  have y3 := HT.out.b.c0
  have y4 := HT.out.b.c1
  have y5 := HT.out.b.c2
  clear T2 q2 h1 h2 h3 h4 hz hbz
  go_enter Try.func20, Try.ntmps20
  go_wp2_with fail
  generalize hW2 : ((w.alloc (.cells #[.int .i64 A.st, an, ae] 27)).alloc (.cells #[.int .i64 B.st, bn, be] 27)).alloc (.cells #[.int .i64 0, .slice none 0 0, .slice none 0 0] 27) = w2 at *
  clear hW2 y0 y1 y2 y3 y4 y5
  refine (pairMachine_any (fun a b => a && b) 62 (fun A B an ae bn be bA bB fB W hT hA hB hf hfl x hx => pairEndsBoth_any A B an ae bn be bA bB fB W hT hA hB hf hfl x hx) A B an ae bn be w2 HT.out.a.ints HT.out.a.bools HT.out.b.ints HT.out.b.bools hs1 hs2).mono ?_
  rintro e w6 ⟨K, r, d1, d2, e1, e2, hJ, rfl, hA6, hb6⟩
  have HJ := Lib.hid hJ
  have Z6 := Lib.hid (HZ.out.below hb6)
  have Q6 := Lib.hid (HQ.out.trans (hb6.mono HQ.out.size))
  have z0 := Z6.out.c0
  have z1 := Z6.out.c1
  have z2 := Z6.out.c2
  have f0 := Z6.out.f0
  have f1 := Z6.out.f1
  have f2 := Z6.out.f2
  have FI := Lib.hid (fin_cells (x := .int .i64 K.st) (y := .slice d1 K.next.length e1) (z := .slice d2 K.ends.length e2) hA6 Q6.out (by omega) HZ.out.lt (some3 z0 z1 z2) HQ.out.size)
  clear hJ hA6 hb6
  go_wp2
  obtain ⟨r1, r2, r3, r4, r5⟩ := FI.out _ rfl
  refine bodyPost_ret (v := .tuple #[.agg #[.int .i64 K.st, .slice d1 K.next.length e1, .slice d2 K.ends.length e2], .bool r]) ?_ rfl ⟨K, r, d1, d2, e1, e2, HJ.out, rfl, r1, r2⟩
  simp [results, Try.results20, go_sem, r3, r4, r5]

set_option maxHeartbeats 1600000 in
theorem implEither_any (A B : M) (an ae bn be : Value) (w : World) (h1 : IsInts w an A.next) (h2 : IsBools w ae A.ends) (h3 : IsInts w bn B.next) (h4 : IsBools w be B.ends) (hs1 : (Lit.int .i64 A.st).wf = true) (hs2 : (Lit.int .i64 B.st).wf = true) :
    Calls Try.prog 22 #[.agg #[.int .i64 A.st, an, ae], .agg #[.int .i64 B.st, bn, be]] w (JoinNew (A.ok && B.ok) (fun u => A.lang 0 u || B.lang 0 u) w) := by
  obtain ⟨T2, q2⟩ := Two.new 27 h1 h2 h3 h4
  have hbz := (Below.refl _ ((w.alloc (.cells #[.int .i64 A.st, an, ae] 27)).alloc (.cells #[.int .i64 B.st, bn, be] 27))).alloc (Nat.le_refl _) (.cells #[.int .i64 0, .slice none 0 0, .slice none 0 0] 27)
  have HT := Lib.hid (T2.below hbz)
  have HQ := Lib.hid (q2.trans (hbz.mono q2.size))
  have hz := Z0.new ((w.alloc (.cells #[.int .i64 A.st, an, ae] 27)).alloc (.cells #[.int .i64 B.st, bn, be] 27))
  rw [World.size_alloc, World.size_alloc] at hz
  have HZ := Lib.hid hz
  have y0 := HT.out.a.c0
  have y1 := HT.out.a.c1
  have y2 := HT.out.a.c2
  have y3 := HT.out.b.c0
  have y4 := HT.out.b.c1
  have y5 := HT.out.b.c2
  clear T2 q2 h1 h2 h3 h4 hz hbz
  go_enter Try.func22, Try.ntmps22
  go_wp2_with fail
  generalize hW2 : ((w.alloc (.cells #[.int .i64 A.st, an, ae] 27)).alloc (.cells #[.int .i64 B.st, bn, be] 27)).alloc (.cells #[.int .i64 0, .slice none 0 0, .slice none 0 0] 27) = w2 at *
  clear hW2 y0 y1 y2 y3 y4 y5
  refine (pairMachine_any (fun a b => a || b) 63 (fun A B an ae bn be bA bB fB W hT hA hB hf hfl x hx => pairEndsEither_any A B an ae bn be bA bB fB W hT hA hB hf hfl x hx) A B an ae bn be w2 HT.out.a.ints HT.out.a.bools HT.out.b.ints HT.out.b.bools hs1 hs2).mono ?_
  rintro e w6 ⟨K, r, d1, d2, e1, e2, hJ, rfl, hA6, hb6⟩
  have HJ := Lib.hid hJ
  have Z6 := Lib.hid (HZ.out.below hb6)
  have Q6 := Lib.hid (HQ.out.trans (hb6.mono HQ.out.size))
  have z0 := Z6.out.c0
  have z1 := Z6.out.c1
  have z2 := Z6.out.c2
  have f0 := Z6.out.f0
  have f1 := Z6.out.f1
  have f2 := Z6.out.f2
  have FI := Lib.hid (fin_cells (x := .int .i64 K.st) (y := .slice d1 K.next.length e1) (z := .slice d2 K.ends.length e2) hA6 Q6.out (by omega) HZ.out.lt (some3 z0 z1 z2) HQ.out.size)
  clear hJ hA6 hb6
  go_wp2
  obtain ⟨r1, r2, r3, r4, r5⟩ := FI.out _ rfl
  refine bodyPost_ret (v := .tuple #[.agg #[.int .i64 K.st, .slice d1 K.next.length e1, .slice d2 K.ends.length e2], .bool r]) ?_ rfl ⟨K, r, d1, d2, e1, e2, HJ.out, rfl, r1, r2⟩
  simp [results, Try.results22, go_sem, r3, r4, r5]
end Go.Proofs.Ythknpbefdejbkaa
