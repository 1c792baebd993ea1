/- The program's functions over pairs: where letters lead, and what is an end. No condition. -/
import Derived.Test.YtaghjddndgpljaaPairBase
import Derived.Test.YtaghjddndgpljaaImplSame
import Derived.Test.YtaghjddndgpljaaTrim
namespace Go.Proofs.Ytaghjddndgpljaa
open Go.RowKit

theorem implEndOk_any (m : M) (s : Int) (nv ev : Value) (w : World) (h2 : IsBools w ev m.ends) (hg : m.good) (s0 : -1 ≤ s) (s1 : s < m.st) :
    Calls Try.prog 73 #[.agg #[.int .i64 m.st, nv, ev], .int .i64 s] w fun e w' => e = .returned (.bool (m.endAt s)) ∧ Below w.heap.size w w' := by
  by_cases hs : s = -1
  · subst hs
    have HE : Hid (m.endAt (-1) = false) := Lib.hid (by simp [M.endAt])
    clear hg
    go_enter Try.func73, Try.ntmps73
    go_wp2
    go_ret
    exact ⟨ret_bool HE.out.symm, (Below.refl _ _).alloc (Nat.le_refl _) _⟩
  · obtain ⟨k, hk1, hk2, he⟩ := M.gendAt_at hg s (by omega) s1
    obtain ⟨ae, ne, ce, rfl⟩ := h2.slice
    obtain ⟨ge, oe, rfl, rfl, hge, hce⟩ := bools_cells3 h2 (by omega)
    have hcell := hce k hk2
    have HE := Lib.hid he
    subst hk1
    have hkl : (k : Int) < m.ends.length := by omega
    have hne : ((k : Int) != -1) = true := by simp
    clear he hce h2 hg
    generalize m.ends[k] = eb at *
    go_enter Try.func73, Try.ntmps73
    go_wp2
    go_ret
    exact ⟨ret_bool HE.out.symm, (Below.refl _ _).alloc (Nat.le_refl _) _⟩

/-- two machines in boxes, and a pair -/
structure Pbx (a b c : Nat) (ms ks : Int) (nv ev mv fv : Value) (x y : Int) (W : World) : Prop where
  six : Six a b ms ks nv ev mv fv W
  lc : c < W.heap.size
  cx : W.cell? ⟨c, 0, none⟩ = some (.int .i64 x) ∧ W.cell? ⟨c, 1, none⟩ = some (.int .i64 y)
theorem Pbx.cells {a b c : Nat} {ms ks : Int} {nv ev mv fv : Value} {x y : Int} {W : World} (h : Pbx a b c ms ks nv ev mv fv x y W) :
    W.cell? ⟨a, 0, none⟩ = some (.int .i64 ms) ∧ W.cell? ⟨a, 1, none⟩ = some nv ∧ W.cell? ⟨a, 2, none⟩ = some ev ∧ W.cell? ⟨b, 0, none⟩ = some (.int .i64 ks) ∧ W.cell? ⟨b, 1, none⟩ = some mv ∧ W.cell? ⟨b, 2, none⟩ = some fv ∧ W.cell? ⟨c, 0, none⟩ = some (.int .i64 x) ∧ W.cell? ⟨c, 1, none⟩ = some (.int .i64 y) := by
  obtain ⟨⟨la, lb, k0, k1, k2, k3, k4, k5⟩, lc, z0, z1⟩ := h
  exact ⟨k0, k1, k2, k3, k4, k5, z0, z1⟩
theorem Pbx.below {a b c : Nat} {ms ks : Int} {nv ev mv fv : Value} {x y : Int} {W W' : World} (h : Pbx a b c ms ks nv ev mv fv x y W) (hb : Below W.heap.size W W') : Pbx a b c ms ks nv ev mv fv x y W' :=
  ⟨h.six.below hb, Nat.lt_of_lt_of_le h.lc hb.size, (hb.cell (p := ⟨c, 0, none⟩) h.lc).trans h.cx.1, (hb.cell (p := ⟨c, 1, none⟩) h.lc).trans h.cx.2⟩
theorem Pbx.alloc {a b c : Nat} {ms ks : Int} {nv ev mv fv : Value} {x y : Int} {W : World} (h : Pbx a b c ms ks nv ev mv fv x y W) (o : Obj) : Pbx a b c ms ks nv ev mv fv x y (W.alloc o) := h.below ((Below.refl _ _).alloc (Nat.le_refl _) o)
theorem Pbx.drew {a b c : Nat} {ms ks : Int} {nv ev mv fv : Value} {x y : Int} {W : World} (h : Pbx a b c ms ks nv ev mv fv x y W) : Pbx a b c ms ks nv ev mv fv x y W.drew := h.below (Below.refl _ _).drew
theorem Pbx.set {a b c : Nat} {ms ks : Int} {nv ev mv fv : Value} {x y : Int} {W : World} (h : Pbx a b c ms ks nv ev mv fv x y W) {d o : Nat} {v : Value} (h0 : ¬ (a = d)) (h1 : ¬ (b = d)) (h2 : ¬ (c = d)) : Pbx a b c ms ks nv ev mv fv x y (W.setCell ⟨d, o, none⟩ v) := by
  obtain ⟨s, lc, z0, z1⟩ := h
  refine ⟨s.set h0 h1, ?_, ?_, ?_⟩ <;> go_simp

/-- the answer's two numbers -/
theorem pOn_eq (A B : M) (x : Int) (l : Nat) (h1 : -1 ≤ B.nx (p2 x) (l : Int)) (h2 : B.nx (p2 x) (l : Int) < 48) :
    Ending.returned (.tuple #[.agg #[.int .i64 (A.nx (p1 x) (l : Int)), .int .i64 (B.nx (p2 x) (l : Int))], .bool true]) = .returned (.tuple #[.agg #[.int .i64 (p1 (pc (A.nx (p1 x) (l : Int)) (B.nx (p2 x) (l : Int)))), .int .i64 (p2 (pc (A.nx (p1 x) (l : Int)) (B.nx (p2 x) (l : Int))))], .bool true]) ∧ pOn A B x l = some (pc (A.nx (p1 x) (l : Int)) (B.nx (p2 x) (l : Int))) := by
  rw [p1_pc h1 h2, p2_pc h1 h2]
  exact ⟨rfl, rfl⟩
set_option maxHeartbeats 1600000 in
theorem pairOn_any (A B : M) (an ae bn be : Value) (bA bB : Nat) (W : World) (hT : Two bA bB A B an ae bn be W) (hA : A.good) (hB : B.good) (hB4 : B.st ≤ 48) (x : Int) (hx : inP A B x) (l : Nat) (hl : l < 3) :
    Calls Try.prog 128 #[.agg #[.int .i64 (p1 x), .int .i64 (p2 x)], .int .i64 (l : Int), .pointer (some ⟨bA, 0, none⟩), .pointer (some ⟨bB, 0, none⟩)] W
      fun e W' => ∃ v, e = .returned (.tuple #[.agg #[.int .i64 (p1 v), .int .i64 (p2 v)], .bool true]) ∧ pOn A B x l = some v ∧ Below W.heap.size W W' := by
  have hb0 : Below W.heap.size W ((W.alloc (.cells #[.int .i64 (p1 x), .int .i64 (p2 x)] 131)).alloc (.cells #[.int .i64 0, .int .i64 0] 131)) := ((Below.refl _ _).alloc (Nat.le_refl _) _).alloc (by simp) _
  have T0 := hT.below hb0
  have X0 : Pbx bA bB W.heap.size A.st B.st an ae bn be (p1 x) (p2 x) ((W.alloc (.cells #[.int .i64 (p1 x), .int .i64 (p2 x)] 131)).alloc (.cells #[.int .i64 0, .int .i64 0] 131)) := by
    refine ⟨⟨T0.a.hB, T0.b.hB, T0.a.c0, T0.a.c1, T0.a.c2, T0.b.c0, T0.b.c1, T0.b.c2⟩, by simp; omega, ?_, ?_⟩ <;> go_simp
  have hs0 : ((W.alloc (.cells #[.int .i64 (p1 x), .int .i64 (p2 x)] 131)).alloc (.cells #[.int .i64 0, .int .i64 0] 131)).heap.size = W.heap.size + 1 + 1 := by simp
  have ha : bA < W.heap.size := hT.a.hB
  have hb : bB < W.heap.size := hT.b.hB
  have HX := Lib.hid X0
  have HQ := Lib.hid hb0
  have HS := Lib.hid hs0
  have hinx := Lib.hid hx
  have H1 : Hid (∀ V, Below W.heap.size W V → Calls Try.prog 71 #[.agg #[.int .i64 A.st, an, ae], .int .i64 (p1 x), .int .i64 (l : Int)] V fun e w' => e = .returned (.int .i64 (A.nx (p1 x) (l : Int))) ∧ Below V.heap.size V w') :=
    Lib.hid (fun V hV => implNextOfG_any A (p1 x) (l : Int) an ae V (hT.below hV).a.ints hA hx.1 hx.2.1 (by omega) (by omega))
  have H2 : Hid (∀ V, Below W.heap.size W V → Calls Try.prog 71 #[.agg #[.int .i64 B.st, bn, be], .int .i64 (p2 x), .int .i64 (l : Int)] V fun e w' => e = .returned (.int .i64 (B.nx (p2 x) (l : Int))) ∧ Below V.heap.size V w') :=
    Lib.hid (fun V hV => implNextOfG_any B (p2 x) (l : Int) bn be V (hT.below hV).b.ints hB hx.2.2.1 hx.2.2.2 (by omega) (by omega))
  have hbd := Lib.hid (M.gnx_bd hB (p2 x) (l : Int) hx.2.2.2 (by omega) (by omega))
  have HB4 := Lib.hid hB4
  clear hb0 T0 X0 hs0 hT hx hA hB
  have hz : ∀ i, i < 2 → ((W.alloc (.cells #[.int .i64 (p1 x), .int .i64 (p2 x)] 131)).alloc (.cells #[.int .i64 0, .int .i64 0] 131)).cell? ⟨W.heap.size + 1, i, none⟩ = some (.int .i64 0) ∧ ((W.alloc (.cells #[.int .i64 (p1 x), .int .i64 (p2 x)] 131)).alloc (.cells #[.int .i64 0, .int .i64 0] 131)).frozen? ⟨W.heap.size + 1, i, none⟩ = false := by
    intro i hi
    have c := World.cell?_alloc_new (W.alloc (.cells #[.int .i64 (p1 x), .int .i64 (p2 x)] 131)) #[.int .i64 0, .int .i64 0] 131 i
    have f := World.frozen?_alloc_new (W.alloc (.cells #[.int .i64 (p1 x), .int .i64 (p2 x)] 131)) #[.int .i64 0, .int .i64 0] 131 i
    rw [World.size_alloc] at c f
    refine ⟨c.trans ?_, f⟩
    match i, hi with
    | 0, _ => rfl
    | 1, _ => rfl
  have HZ := Lib.hid hz
  clear hz
  obtain ⟨y0, y1, y2, y3, y4, y5, y6, y7⟩ := HX.out.cells
  go_enter Try.func128, Try.ntmps128
  go_upto_region 1 with fail
  generalize hW2 : (W.alloc (.cells #[.int .i64 (p1 x), .int .i64 (p2 x)] 131)).alloc (.cells #[.int .i64 0, .int .i64 0] 131) = w2 at *
  clear hW2
  have X2 := HX.out
  have BD := Lib.hid ((Below.refl w2.heap.size w2).drew)
  have HSX : Hid (∀ V, Below w2.heap.size w2 V → Pbx bA bB W.heap.size A.st B.st an ae bn be (p1 x) (p2 x) V) := Lib.hid (fun V h => HX.out.below h)
  have HH1 : Hid (∀ V, Below w2.heap.size w2 V → Calls Try.prog 71 #[.agg #[.int .i64 A.st, an, ae], .int .i64 (p1 x), .int .i64 (l : Int)] V fun e w' => e = .returned (.int .i64 (A.nx (p1 x) (l : Int))) ∧ Below V.heap.size V w') := Lib.hid (fun V h => H1.out V (HQ.out.trans (h.mono HQ.out.size)))
  have HH2 : Hid (∀ V, Below w2.heap.size w2 V → Calls Try.prog 71 #[.agg #[.int .i64 B.st, bn, be], .int .i64 (p2 x), .int .i64 (l : Int)] V fun e w' => e = .returned (.int .i64 (B.nx (p2 x) (l : Int))) ∧ Below V.heap.size V w') := Lib.hid (fun V h => H2.out V (HQ.out.trans (h.mono HQ.out.size)))
  have HZ4 : Hid (∀ V, Below w2.heap.size w2 V → (V.cell? ⟨W.heap.size + 1, 0, none⟩ = some (.int .i64 0) ∧ V.cell? ⟨W.heap.size + 1, 1, none⟩ = some (.int .i64 0)) ∧ V.frozen? ⟨W.heap.size + 1, 0, none⟩ = false ∧ V.frozen? ⟨W.heap.size + 1, 1, none⟩ = false) :=
    Lib.hid (fun V h => by
      have hl : W.heap.size + 1 < w2.heap.size := by have := HS.out; omega
      exact ⟨⟨(h.cell (p := ⟨W.heap.size + 1, 0, none⟩) hl).trans (HZ.out 0 (by omega)).1, (h.cell (p := ⟨W.heap.size + 1, 1, none⟩) hl).trans (HZ.out 1 (by omega)).1⟩, (h.frozen (p := ⟨W.heap.size + 1, 0, none⟩) hl).trans (HZ.out 0 (by omega)).2, (h.frozen (p := ⟨W.heap.size + 1, 1, none⟩) hl).trans (HZ.out 1 (by omega)).2⟩)
  clear H1 H2 HX HZ
  go_region_held3 (fun w' => w'.cell? ⟨bA, 0, none⟩ = some (.int .i64 A.st) ∧ w'.cell? ⟨bA, 1, none⟩ = some an ∧ w'.cell? ⟨bA, 2, none⟩ = some ae ∧ w'.cell? ⟨bB, 0, none⟩ = some (.int .i64 B.st) ∧ w'.cell? ⟨bB, 1, none⟩ = some bn ∧ w'.cell? ⟨bB, 2, none⟩ = some be ∧ w'.cell? ⟨W.heap.size, 0, none⟩ = some (.int .i64 (p1 x)) ∧ w'.cell? ⟨W.heap.size, 1, none⟩ = some (.int .i64 (p2 x)))
    (first | (refine Pbx.cells ?_; ((repeat' (first | with_reducible assumption | with_reducible refine Pbx.drew ?_ | with_reducible refine Pbx.set ?_ ?_ ?_ ?_ | omega)); done)))
    (first | (go_at_call 71; with_reducible refine Calls.mono (HH1.out _ ?_) ?_; (· (with_reducible exact BD.out)); rintro e w3 ⟨rfl, hb3⟩; with_reducible have B3 := Lib.hid (Below.then' BD.out hb3); have X3 := HSX.out _ B3.out; clear hb3) | (go_at_call 71; with_reducible refine Calls.mono (HH2.out _ ?_) ?_; (· (with_reducible exact B3.out)); rintro e w4 ⟨rfl, hb4⟩; have B4 := Lib.hid (Below.then' B3.out hb4); clear X3 hb4; have X4 := HSX.out _ B4.out; obtain ⟨⟨z0, z1⟩, f0, f1⟩ := HZ4.out _ B4.out))
  all_goals
    clear X2 X4 y0 y1 y2 y3 y4 y5 y6 y7 B3 BD HH1 HH2 HSX HZ4
    have E := pOn_eq A B x l hbd.out.1 (Int.lt_of_lt_of_le hbd.out.2 HB4.out)
    have HE := Lib.hid E
    clear E
    have hq : Below W.heap.size W ((w4.setCell ⟨W.heap.size + 1, 0, none⟩ (.int .i64 (A.nx (p1 x) (l : Int)))).setCell ⟨W.heap.size + 1, 1, none⟩ (.int .i64 (B.nx (p2 x) (l : Int)))) := ((HQ.out.trans (B4.out.mono HQ.out.size)).setCell (p := ⟨W.heap.size + 1, 0, none⟩) (Nat.le_succ _) _).setCell (p := ⟨W.heap.size + 1, 1, none⟩) (Nat.le_succ _) _
    have HF := Lib.hid hq
    clear hq
    go_wp2
    refine bodyPost_ret (v := .tuple #[.agg #[.int .i64 (A.nx (p1 x) (l : Int)), .int .i64 (B.nx (p2 x) (l : Int))], .bool true]) ?_ rfl ⟨_, HE.out.1, HE.out.2, HF.out⟩
    simp [results, Try.results128, go_sem, z0, z1]
end Go.Proofs.Ytaghjddndgpljaa
