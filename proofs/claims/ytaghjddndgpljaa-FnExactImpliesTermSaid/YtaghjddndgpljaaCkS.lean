/- The program's machinesOf: two terms' machines. No condition. The model's comparison of two machines. No condition. The specification's SameOk: one language. No condition. SameTerms and ImpliesTerm of the program and of the model. No condition. The walk of FnExactSameTerms: true at every two rows of marks. No condition. The walk of FnExactImpliesTerm: true at every two rows of marks. No condition. -/
import Derived.Test.YtaghjddndgpljaaCkD
import Derived.Test.YtaghjddndgpljaaTrim
import Derived.Test.YtaghjddndgpljaaSpecLive
import Derived.Test.YtaghjddndgpljaaImplSame
import Derived.Deep.RegionHeld3
import Derived.Test.YtaghjddndgpljaaCkC
import Derived.Test.YtaghjddndgpljaaJoinM
import Derived.Test.YtaghjddndgpljaaCkA

namespace Go.Proofs.Ytaghjddndgpljaa
open Go.RowKit

/-- machinesOf's answer -/
def TwoOf (ms ns : List Mk) (w : World) (e : Ending) (w' : World) : Prop :=
  ∃ (m k : M) (b c : Bool) (a1 a2 a3 a4 : Option Addr) (c1 c2 c3 c4 : Nat), IsOf ms m b ∧ IsOf ns k c ∧
    e = .returned (.tuple #[.agg #[.int .i64 m.st, .slice a1 m.next.length c1, .slice a2 m.ends.length c2], .agg #[.int .i64 k.st, .slice a3 k.next.length c3, .slice a4 k.ends.length c4], .bool (b && c)]) ∧
    (IsInts w' (.slice a1 m.next.length c1) m.next ∧ IsBools w' (.slice a2 m.ends.length c2) m.ends) ∧ (IsInts w' (.slice a3 k.next.length c3) k.next ∧ IsBools w' (.slice a4 k.ends.length c4) k.ends) ∧ Below w.heap.size w w'

theorem Own.ne {wB w : World} {ts : List Thing} (h : Own wB ts w) (i j : Nat) (hi : i < ts.length) (hj : j < ts.length) (hij : i < j) {p q : Nat} (h1 : ts[i].blk = some p) (h2 : ts[j].blk = some q) : ¬ (p = q) := fun e => by
  subst e
  exact (List.pairwise_iff_getElem.1 h.ap.two i j hi hj hij) p h1 h2

set_option maxHeartbeats 3200000 in
set_option maxRecDepth 100000 in
theorem implMachinesOf_any (ms ns : List Mk) (hwf : ∀ m ∈ ms, m.wf) (hwf2 : ∀ m ∈ ns, m.wf) (v v2 : Value) (w : World) (h : IsMarks w v ms) (h2 : IsMarks w v2 ns) :
    Calls Try.prog 119 #[v, v2] w (TwoOf ms ns w) := by
  have O0 := Lib.hid (((Own.nil w).box #[.int .i64 0, .slice none 0 0, .slice none 0 0] 26).box #[.int .i64 0, .slice none 0 0, .slice none 0 0] 26)
  have H1 := Lib.hid (fun W (hb : Below w.heap.size w W) => implMachineOf_any ms hwf v W (h.below hb))
  have H2 := Lib.hid (fun W (hb : Below w.heap.size w W) => implMachineOf_any ns hwf2 v2 W (h2.below hb))
  obtain ⟨a, n, c, rfl⟩ := h.slice
  obtain ⟨a', n', c', rfl⟩ := h2.slice
  clear h h2 hwf hwf2
  go_enter Try.func119, Try.ntmps119
  go_upto_region 1 with fail
  generalize hW0 : ((w.alloc (.cells #[.int .i64 0, .slice none 0 0, .slice none 0 0] 26)).alloc (.cells #[.int .i64 0, .slice none 0 0, .slice none 0 0] 26)) = W0 at *
  clear hW0
  rw [World.size_alloc] at O0
  have H1W := Lib.hid (H1.out _ O0.out.keep)
  go_wp2_with fail
  refine H1W.out.mono ?_
  rintro e w1 ⟨m, b, a1, a2, c1, c2, hI1, rfl, hA1, hb1⟩
  have I1 := Lib.hid hI1
  have O1 := Lib.hid ((O0.out.join hA1 hb1).box #[.int .i64 m.st, .slice a1 m.next.length c1, .slice a2 m.ends.length c2] 26)
  clear hI1 hA1 hb1
  go_upto_region 2 with fail
  generalize hW1 : (w1.alloc (.cells #[.int .i64 m.st, .slice a1 m.next.length c1, .slice a2 m.ends.length c2] 26)) = W1 at *
  clear hW1
  have H2W := Lib.hid (H2.out _ O1.out.keep)
  generalize w1.heap.size = B7 at *
  go_wp2_with fail
  refine H2W.out.mono ?_
  rintro e w2 ⟨k, c, a3, a4, c3, c4, hI2, rfl, hA2, hb2⟩
  have I2 := Lib.hid hI2
  have O2 := Lib.hid ((O1.out.join hA2 hb2).box #[.int .i64 k.st, .slice a3 k.next.length c3, .slice a4 k.ends.length c4] 26)
  clear hI2 hA2 hb2
  go_upto_region 3 with fail
  generalize hW2 : (w2.alloc (.cells #[.int .i64 k.st, .slice a3 k.next.length c3, .slice a4 k.ends.length c4] 26)) = W2 at *
  clear hW2
  generalize w2.heap.size = B9 at *
  generalize hR : w.heap.size = R at *
  have HR := Lib.hid hR
  clear hR
  have hn1 : ¬ (B9 = R) := O2.out.ne 0 7 (by simp) (by simp) (by simp) rfl rfl
  have hn2 : ¬ (B9 = R + 1) := O2.out.ne 0 6 (by simp) (by simp) (by simp) rfl rfl
  have hn3 : ¬ (B7 = R) := O2.out.ne 3 7 (by simp) (by simp) (by simp) rfl rfl
  have hn4 : ¬ (B7 = R + 1) := O2.out.ne 3 6 (by simp) (by simp) (by simp) rfl rfl
  have hn5 : ¬ (R = B9) := fun e => hn1 e.symm
  have hn6 : ¬ (R + 1 = B9) := fun e => hn2 e.symm
  have hn7 : ¬ (R = B7) := fun e => hn3 e.symm
  have hn8 : ¬ (R + 1 = B7) := fun e => hn4 e.symm
  have x0 := cellsT_cell (O2.out.cells 0 (by simp) rfl) 0
  have x1 := cellsT_cell (O2.out.cells 0 (by simp) rfl) 1
  have x2 := cellsT_cell (O2.out.cells 0 (by simp) rfl) 2
  have y0 := cellsT_cell (O2.out.cells 3 (by simp) rfl) 0
  have y1 := cellsT_cell (O2.out.cells 3 (by simp) rfl) 1
  have y2 := cellsT_cell (O2.out.cells 3 (by simp) rfl) 2
  have z0 := cellsT_cell (O2.out.cells 7 (by simp) rfl) 0
  have z1 := cellsT_cell (O2.out.cells 7 (by simp) rfl) 1
  have z2 := cellsT_cell (O2.out.cells 7 (by simp) rfl) 2
  have t0 := cellsT_cell (O2.out.cells 6 (by simp) rfl) 0
  have t1 := cellsT_cell (O2.out.cells 6 (by simp) rfl) 1
  have t2 := cellsT_cell (O2.out.cells 6 (by simp) rfl) 2
  have f0 := cellsT_frozen (O2.out.cells 7 (by simp) rfl)
  have f1 := cellsT_frozen (O2.out.cells 6 (by simp) rfl)
  simp only [List.getElem?_toArray, List.getElem?_cons_succ, List.getElem?_cons_zero] at x0 x1 x2 y0 y1 y2 z0 z1 z2 t0 t1 t2
  have A1 := ((O2.out.put (i := 7) (by simp) rfl 0 (.int .i64 m.st)).put (i := 7) (by simp) rfl 1 (.slice a1 m.next.length c1)).put (i := 7) (by simp) rfl 2 (.slice a2 m.ends.length c2)
  have A2 := ((A1.put (i := 6) (by simp) rfl 0 (.int .i64 k.st)).put (i := 6) (by simp) rfl 1 (.slice a3 k.next.length c3)).put (i := 6) (by simp) rfl 2 (.slice a4 k.ends.length c4)
  have A3 := A2.same (grown_drew _ none)
  have FI := Lib.hid (And.intro (And.intro (And.intro (A3.ints 4 (by simp) rfl) (A3.bools 5 (by simp) rfl)) (And.intro (A3.ints 1 (by simp) rfl) (A3.bools 2 (by simp) rfl))) (And.intro A3.keep (And.intro (And.intro (cellsT_cell (A3.cells 7 (by simp) rfl) 0) (And.intro (cellsT_cell (A3.cells 7 (by simp) rfl) 1) (cellsT_cell (A3.cells 7 (by simp) rfl) 2))) (And.intro (cellsT_cell (A3.cells 6 (by simp) rfl) 0) (And.intro (cellsT_cell (A3.cells 6 (by simp) rfl) 1) (cellsT_cell (A3.cells 6 (by simp) rfl) 2))))))
  clear A1 A2 A3
  cases b with
  | true =>
    go_region
    all_goals
      clear hn1 hn2 hn3 hn4 hn5 hn6 hn7 hn8 x0 x1 x2 y0 y1 y2 z0 z1 z2 t0 t1 t2 f0 f1
      obtain ⟨⟨r1, r2⟩, r3, ⟨q0, q1, q2⟩, p0, p1, p2⟩ := FI.out
      have HF := Lib.hid (And.intro r1 (And.intro r2 r3))
      clear r1 r2 r3 FI
      generalize (((((((W2.setCell ⟨R, 0, none⟩ (.int .i64 m.st)).setCell ⟨R, 1, none⟩ (.slice a1 m.next.length c1)).setCell ⟨R, 2, none⟩ (.slice a2 m.ends.length c2)).setCell ⟨R + 1, 0, none⟩ (.int .i64 k.st)).setCell ⟨R + 1, 1, none⟩ (.slice a3 k.next.length c3)).setCell ⟨R + 1, 2, none⟩ (.slice a4 k.ends.length c4)).drew) = WE at *
      go_wp2
      refine bodyPost_ret (v := .tuple #[.agg #[.int .i64 m.st, .slice a1 m.next.length c1, .slice a2 m.ends.length c2], .agg #[.int .i64 k.st, .slice a3 k.next.length c3, .slice a4 k.ends.length c4], .bool c]) ?_ rfl ⟨m, k, true, c, a1, a2, a3, a4, c1, c2, c3, c4, I1.out, I2.out, rfl, HF.out.1, HF.out.2.1, HF.out.2.2⟩
      simp [results, Try.results119, go_sem, q0, q1, q2, p0, p1, p2]
  | false =>
    go_region
    all_goals
      clear hn1 hn2 hn3 hn4 hn5 hn6 hn7 hn8 x0 x1 x2 y0 y1 y2 z0 z1 z2 t0 t1 t2 f0 f1
      obtain ⟨⟨r1, r2⟩, r3, ⟨q0, q1, q2⟩, p0, p1, p2⟩ := FI.out
      have HF := Lib.hid (And.intro r1 (And.intro r2 r3))
      clear r1 r2 r3 FI
      generalize (((((((W2.setCell ⟨R, 0, none⟩ (.int .i64 m.st)).setCell ⟨R, 1, none⟩ (.slice a1 m.next.length c1)).setCell ⟨R, 2, none⟩ (.slice a2 m.ends.length c2)).setCell ⟨R + 1, 0, none⟩ (.int .i64 k.st)).setCell ⟨R + 1, 1, none⟩ (.slice a3 k.next.length c3)).setCell ⟨R + 1, 2, none⟩ (.slice a4 k.ends.length c4)).drew) = WE at *
      go_wp2
      refine bodyPost_ret (v := .tuple #[.agg #[.int .i64 m.st, .slice a1 m.next.length c1, .slice a2 m.ends.length c2], .agg #[.int .i64 k.st, .slice a3 k.next.length c3, .slice a4 k.ends.length c4], .bool false]) ?_ rfl ⟨m, k, false, c, a1, a2, a3, a4, c1, c2, c3, c4, I1.out, I2.out, rfl, HF.out.1, HF.out.2.1, HF.out.2.2⟩
      simp [results, Try.results119, go_sem, q0, q1, q2, p0, p1, p2]
end Go.Proofs.Ytaghjddndgpljaa

namespace Go.Proofs.Ytaghjddndgpljaa
open Go.RowKit

def EqM (a b : M) (k : Nat) : Prop := ∀ i, i < k → a.next.getD i 0 = b.next.getD i 0 ∧ a.ends.getD (i / 3) false = b.ends.getD (i / 3) false
theorem EqM.more {a b : M} {k : Nat} (h : EqM a b k) (h1 : a.next.getD k 0 = b.next.getD k 0) (h2 : a.ends.getD (k / 3) false = b.ends.getD (k / 3) false) : EqM a b (k + 1) := by
  intro i hi
  rcases Nat.lt_succ_iff_lt_or_eq.1 hi with h' | rfl
  · exact h i h'
  · exact ⟨h1, h2⟩
theorem EqM.all {a b : M} (ha : a.good) (hb : b.good) (hst : a.st = b.st) (h : EqM a b a.next.length) : a = b := by
  have sa := M.good_shape ha
  have sb := M.good_shape hb
  obtain ⟨s, xs, es⟩ := a
  obtain ⟨s', ys, fs⟩ := b
  simp only at hst sa sb h
  subst hst
  have e1 : xs = ys := by
    refine List.ext_getElem (by omega) fun i h1 h2 => ?_
    have := (h i h1).1
    simpa [List.getD, h1, h2] using this
  have e2 : es = fs := by
    refine List.ext_getElem (by omega) fun i h1 h2 => ?_
    have h3 := (h (3 * i) (by omega)).2
    rw [show 3 * i / 3 = i by omega] at h3
    simpa [List.getD, h1, h2] using h3
  rw [e1, e2]

set_option maxHeartbeats 1600000 in
set_option maxRecDepth 100000 in
theorem specL2Equal_any (a b : M) (na ea nb eb : Value) (w : World) (h1 : IsInts w na a.next) (h2 : IsBools w ea a.ends) (h3 : IsInts w nb b.next) (h4 : IsBools w eb b.ends) (ha : a.good) (hb : b.good) :
    Calls Try.prog 65 #[.agg #[.int .i64 a.st, na, ea], .agg #[.int .i64 b.st, nb, eb]] w fun e w' => e = .returned (.bool (decide (a = b))) ∧ Below w.heap.size w w' := by
  have hsa := M.good_shape ha
  have hsb := M.good_shape hb
  have MA := MachBox.new (st := a.st) 26 h1 h2
  have ha1 := (Below.refl w.heap.size w).alloc (Nat.le_refl _) (.cells #[.int .i64 a.st, na, ea] 26)
  have hb1 := (Below.refl _ (w.alloc (.cells #[.int .i64 a.st, na, ea] 26))).alloc (Nat.le_refl _) (.cells #[.int .i64 b.st, nb, eb] 26)
  have MB := MachBox.new (st := b.st) 26 (h3.below ha1) (h4.below ha1)
  rw [World.size_alloc] at MB
  have MA2 := MA.below hb1
  have q2 := Lib.hid (ha1.trans (hb1.mono (by simp)))
  have HA := Lib.hid ha
  have HB := Lib.hid hb
  obtain ⟨a1, n1, c1, rfl⟩ := MA2.ints.slice
  obtain ⟨g1, o1, rfl, rfl, d1, e1, l1, r1⟩ := ints_cells MA2.ints (by omega)
  obtain ⟨a2, n2, c2, rfl⟩ := MA2.bools.slice
  obtain ⟨g2, o2, rfl, rfl, l2, r2⟩ := bools_cells3 MA2.bools (by omega)
  obtain ⟨a3, n3, c3, rfl⟩ := MB.ints.slice
  obtain ⟨g3, o3, rfl, rfl, d3, e3, l3, r3⟩ := ints_cells MB.ints (by omega)
  obtain ⟨a4, n4, c4, rfl⟩ := MB.bools.slice
  obtain ⟨g4, o4, rfl, rfl, l4, r4⟩ := bools_cells3 MB.bools (by omega)
  have R1 := Lib.hid r1
  have R2 := Lib.hid r2
  have R3 := Lib.hid r3
  have R4 := Lib.hid r4
  have MAH := Lib.hid MA2
  have MBH := Lib.hid MB
  have HSA := Lib.hid hsa
  have HSB := Lib.hid hsb
  have x0 := MA2.c0
  have x1 := MA2.c1
  have x2 := MA2.c2
  have z0 := MB.c0
  have z1 := MB.c1
  have z2 := MB.c2
  clear r1 r2 r3 r4 MA MA2 MB h1 h2 h3 h4 ha1 hb1 ha hb
  by_cases hst : a.st = b.st
  · have hq : (a.st != b.st) = false := by simp [hst]
    have HST := Lib.hid hst
    have hnl : a.next.length ≤ 12000 := by omega
    clear hst hsa hsb
    go_enter Try.func65, Try.ntmps65
    go_wp2_with fail
    generalize hW0 : (w.alloc (.cells #[.int .i64 a.st, .slice (some ⟨g1, o1, none⟩) a.next.length c1, .slice (some ⟨g2, o2, none⟩) a.ends.length c2] 26)).alloc (.cells #[.int .i64 b.st, .slice (some ⟨g3, o3, none⟩) b.next.length c3, .slice (some ⟨g4, o4, none⟩) b.ends.length c4] 26) = W0 at *
    clear hW0 x0 x1 x2 z0 z1 z2
    go_loopw [5] (fun i wr => ∃ k d : Nat, k ≤ a.next.length ∧ i = .int .i64 (k : Int) ∧ EqM a b k ∧ wr = W0.drewN d) (fun i _ => a.next.length - (intOf i).toNat)
    case atStart => exact ⟨0, 0, Nat.zero_le _, rfl, fun i h => absurd h (Nat.not_lt_zero i), rfl⟩
    case round =>
      obtain ⟨k, d, hk, rfl, hE, rfl⟩ := hrel
      have HE := Lib.hid hE
      clear hE
      have hbd := below_drewN (Below.refl W0.heap.size W0) d
      have MAd := MAH.out.below hbd
      have MBd := MBH.out.below hbd
      have x1 := MAd.c1
      have x2 := MAd.c2
      have z1 := MBd.c1
      have z2 := MBd.c2
      have HQ := Lib.hid (q2.out.trans (hbd.mono q2.out.size))
      clear MAd MBd
      by_cases hlt : k < a.next.length
      · have sa := HSA.out
        have sb := HSB.out
        have hs := HST.out
        have hlb : k < b.next.length := by omega
        have hea : k / 3 < a.ends.length := by omega
        have heb : k / 3 < b.ends.length := by omega
        have y1 : (W0.drewN d).cell? ⟨g1, o1 + k, none⟩ = some (.int .i64 a.next[k]) := R1.out k hlt
        have y2 : (W0.drewN d).cell? ⟨g2, o2 + k / 3, none⟩ = some (.bool a.ends[k / 3]) := R2.out (k / 3) hea
        have y3 : (W0.drewN d).cell? ⟨g3, o3 + k, none⟩ = some (.int .i64 b.next[k]) := R3.out k hlb
        have y4 : (W0.drewN d).cell? ⟨g4, o4 + k / 3, none⟩ = some (.bool b.ends[k / 3]) := R4.out (k / 3) heb
        have htd := tdiv3 k
        have hwd : IntKind.i64.wrap ((k / 3 : Nat) : Int) = ((k / 3 : Nat) : Int) := IntWalk.i64_in _ (by omega)
        have hwe : IntKind.i64.wrap ((k : Int).tdiv 3) = ((k / 3 : Nat) : Int) := by rw [htd]; exact hwd
        have hki : (k : Int) < (a.next.length : Int) := by omega
        have hkj : (k : Int) < (b.next.length : Int) := by omega
        have hka : ((k / 3 : Nat) : Int) < (a.ends.length : Int) := by omega
        have hkb : ((k / 3 : Nat) : Int) < (b.ends.length : Int) := by omega
        have gn : a.next.getD k 0 = a.next[k] := by rw [List.getD_eq_getElem?_getD, List.getElem?_eq_getElem hlt]; rfl
        have gm : b.next.getD k 0 = b.next[k] := by rw [List.getD_eq_getElem?_getD, List.getElem?_eq_getElem hlb]; rfl
        have ge : a.ends.getD (k / 3) false = a.ends[k / 3] := by rw [List.getD_eq_getElem?_getD, List.getElem?_eq_getElem hea]; rfl
        have gf : b.ends.getD (k / 3) false = b.ends[k / 3] := by rw [List.getD_eq_getElem?_getD, List.getElem?_eq_getElem heb]; rfl
        have HSU : Hid (a.next[k] = b.next[k] → a.ends[k / 3] = b.ends[k / 3] → EqM a b (k + 1)) := Lib.hid (fun h1 h2 => HE.out.more (by rw [gn, gm, h1]) (by rw [ge, gf, h2]))
        have HN1 : Hid (a.next[k] ≠ b.next[k] → a ≠ b) := Lib.hid (fun h e => h (by subst e; rfl))
        have HN2 : Hid (a.ends[k / 3] ≠ b.ends[k / 3] → a ≠ b) := Lib.hid (fun h e => h (by subst e; rfl))
        have HW : Hid (∀ q, ∃ d', (W0.drewN d).drewN q = W0.drewN d') := Lib.hid (fun q => ⟨d + q, by rw [World.drewN_drewN]⟩)
        clear gn gm ge gf sa sb hs hbd
        generalize a.next[k] = x at *
        generalize b.next[k] = y at *
        generalize a.ends[k / 3] = p at *
        generalize b.ends[k / 3] = q at *
        generalize hK3 : k / 3 = k3 at *
        clear hK3
        generalize W0.drewN d = W at *
        by_cases hxy : x = y
        · have hq1 : (x != y) = false := by simp [hxy]
          have HSU2 := Lib.hid (HSU.out hxy)
          clear hxy HSU HN1
          match p, q with
          | false, false =>
            have HS := Lib.hid (HSU2.out rfl)
            clear HSU2 HN2
            go_wp2_with fail
            go_quiet (fail)
            go_wp2_with fail
            go_roundw
            case rel => exact ⟨k + 1, _, by omega, by go_num, HS.out, (HW.out _).choose_spec⟩
            case measure => simp [intOf]; omega
          | true, true =>
            have HS := Lib.hid (HSU2.out rfl)
            clear HSU2 HN2
            go_wp2_with fail
            go_quiet (fail)
            go_wp2_with fail
            go_roundw
            case rel => exact ⟨k + 1, _, by omega, by go_num, HS.out, (HW.out _).choose_spec⟩
            case measure => simp [intOf]; omega
          | false, true =>
            have HS := Lib.hid (HN2.out (by decide))
            clear HSU2 HN2
            go_wp2_with fail
            go_quiet (fail)
            go_wp2_with fail
            go_ret
            exact ⟨ret_bool (decide_eq_false HS.out).symm, below_drewN HQ.out _⟩
          | true, false =>
            have HS := Lib.hid (HN2.out (by decide))
            clear HSU2 HN2
            go_wp2_with fail
            go_quiet (fail)
            go_wp2_with fail
            go_ret
            exact ⟨ret_bool (decide_eq_false HS.out).symm, below_drewN HQ.out _⟩
        · have hq1 : (x != y) = true := by simpa using hxy
          have HS := Lib.hid (HN1.out hxy)
          clear hxy HSU HN1 HN2
          go_wp2_with fail
          go_quiet (fail)
          go_wp2_with fail
          go_ret
          exact ⟨ret_bool (decide_eq_false HS.out).symm, below_drewN HQ.out _⟩
      · obtain rfl : k = a.next.length := by omega
        have HEQ := Lib.hid (EqM.all HA.out HB.out HST.out HE.out)
        go_wp2_with fail
        go_ret
        exact ⟨ret_bool (decide_eq_true HEQ.out).symm, HQ.out⟩
  · have hq : (a.st != b.st) = true := by simpa using hst
    have HNE : Hid (a ≠ b) := Lib.hid (fun e => hst (by rw [e]))
    clear hst hsa hsb
    go_enter Try.func65, Try.ntmps65
    go_wp2_with fail
    go_ret
    exact ⟨ret_bool (decide_eq_false HNE.out).symm, q2.out⟩
end Go.Proofs.Ytaghjddndgpljaa

namespace Go.Proofs.Ytaghjddndgpljaa
open Go.RowKit

theorem IsLmZ.goodOk {m p : M} (hp : IsLmZ m p) (hm : m.ok = true) : p.good := (hp.1 hm).1.good (by have := (hp.1 hm).2; omega)
theorem IsSame.end3 {m k p q : M} (hm : m.ok = true) (hk : k.ok = true) (hp : IsLmZ m p) (hq : IsLmZ k q) : IsSame m k (decide (p = q)) :=
  IsSame.of hm hk (hp.1 hm).1 (hq.1 hk).1 ⟨fun e => of_decide_eq_true e, fun e => decide_eq_true e⟩
set_option maxHeartbeats 8000000 in
set_option maxRecDepth 100000 in
theorem specSameOk_any (m k : M) (nv ev mv fv : Value) (w : World) (h1 : IsInts w nv m.next) (h2 : IsBools w ev m.ends) (h3 : IsInts w mv k.next) (h4 : IsBools w fv k.ends) (hs1 : (Lit.int .i64 m.st).wf = true) (hs2 : (Lit.int .i64 k.st).wf = true) :
    Calls Try.prog 18 #[.agg #[.int .i64 m.st, nv, ev], .agg #[.int .i64 k.st, mv, fv]] w fun e w' => (∃ b, IsSame m k b ∧ e = .returned (.bool b)) ∧ Below w.heap.size w w' := by
  obtain ⟨T2, q2⟩ := Two.new 26 h1 h2 h3 h4
  have HT := Lib.hid T2
  have HQ := Lib.hid q2
  have y0 := T2.a.c0
  have y1 := T2.a.c1
  have y2 := T2.a.c2
  clear T2 q2 h1 h2 h3 h4
  go_enter Try.func18, Try.ntmps18
  go_wp2_with fail
  generalize hW2 : (w.alloc (.cells #[.int .i64 m.st, nv, ev] 26)).alloc (.cells #[.int .i64 k.st, mv, fv] 26) = w2 at *
  clear hW2 y0 y1 y2
  refine (specMachineOk_any m nv ev w2 HT.out.a.ints HT.out.a.bools hs1).mono ?_
  rintro e w3 ⟨rfl, hb3⟩
  have T3 := Lib.hid (HT.out.below hb3)
  have Q3 := Lib.hid (HQ.out.trans (hb3.mono HQ.out.size))
  clear hb3
  cases hk1 : m.ok with
  | false =>
    go_wp2_with fail
    go_ret
    exact ⟨⟨false, ⟨fun h => (by rw [hk1] at h; cases h), fun _ => rfl⟩, rfl⟩, Q3.out⟩
  | true =>
    have y0 := T3.out.b.c0
    have y1 := T3.out.b.c1
    have y2 := T3.out.b.c2
    go_wp2_with fail
    clear y0 y1 y2
    refine (specMachineOk_any k mv fv w3 T3.out.b.ints T3.out.b.bools hs2).mono ?_
    rintro e w4 ⟨rfl, hb4⟩
    have T4 := Lib.hid (T3.out.below hb4)
    have Q4 := Lib.hid (Q3.out.trans (hb4.mono Q3.out.size))
    clear hb4
    cases hk2 : k.ok with
    | false =>
      go_wp2_with fail
      go_ret
      exact ⟨⟨false, ⟨fun _ h => (by rw [hk2] at h; cases h), fun _ => rfl⟩, rfl⟩, Q4.out⟩
    | true =>
      have HK1 := Lib.hid hk1
      have HK2 := Lib.hid hk2
      clear hk1 hk2
      go_upto_region 3 with fail
      have X4 : Six w.heap.size (w.heap.size + 1) m.st k.st nv ev mv fv w4 := ⟨T4.out.a.hB, T4.out.b.hB, T4.out.a.c0, T4.out.a.c1, T4.out.a.c2, T4.out.b.c0, T4.out.b.c1, T4.out.b.c2⟩
      have HSX : Hid (∀ W, Below w4.heap.size w4 W → Six w.heap.size (w.heap.size + 1) m.st k.st nv ev mv fv W) := Lib.hid (fun W h => X4.below h)
      have HL1 : Hid (∀ W, Below w4.heap.size w4 W → Calls Try.prog 29 #[.agg #[.int .i64 m.st, nv, ev]] W (LeastNew m W)) := Lib.hid (fun W h => specLeastZ m nv ev W (T4.out.below h).a.ints (T4.out.below h).a.bools hs1)
      have HL2 : Hid (∀ W, Below w4.heap.size w4 W → Calls Try.prog 29 #[.agg #[.int .i64 k.st, mv, fv]] W (LeastNew k W)) := Lib.hid (fun W h => specLeastZ k mv fv W (T4.out.below h).b.ints (T4.out.below h).b.bools hs2)
      have BD := Lib.hid ((Below.refl w4.heap.size w4).drew)
      have y0 := T4.out.a.c0
      have y1 := T4.out.a.c1
      have y2 := T4.out.a.c2
      have y3 := T4.out.b.c0
      have y4 := T4.out.b.c1
      have y5 := T4.out.b.c2
      go_region_held3 (fun w' => w'.cell? ⟨w.heap.size, 0, none⟩ = some (.int .i64 m.st) ∧ w'.cell? ⟨w.heap.size, 1, none⟩ = some nv ∧ w'.cell? ⟨w.heap.size, 2, none⟩ = some ev ∧ w'.cell? ⟨w.heap.size + 1, 0, none⟩ = some (.int .i64 k.st) ∧ w'.cell? ⟨w.heap.size + 1, 1, none⟩ = some mv ∧ w'.cell? ⟨w.heap.size + 1, 2, none⟩ = some fv)
        (first | (refine Six.cells ?_; ((repeat' (first | with_reducible assumption | with_reducible refine Six.alloc ?_ _ | with_reducible refine Six.drew ?_ | with_reducible refine Six.set ?_ ?_ ?_ | omega)); done)))
        (first | (go_at_call 29; with_reducible refine Calls.mono (HL1.out _ ?_) ?_; (· (with_reducible exact BD.out)); rintro e w5 h5; obtain ⟨K1, a5, n5, c5, d5, m5, e5, hK1, rfl, hr5, hb5⟩ := h5.rows; have I5 := Lib.hid hK1; have R5 := Rws.zero hr5; with_reducible have B5 := Lib.hid (Below.then' BD.out hb5); have X5 := HSX.out _ B5.out; clear hK1 hr5 h5 hb5) | (go_at_call 29; with_reducible refine Calls.mono (HL2.out _ ?_) ?_; (· (with_reducible exact B5.out)); rintro e w6 h6; obtain ⟨K2, a6, n6, c6, d6, m6, e6, hK2, rfl, hr6, hb6⟩ := h6.rows; have I6 := Lib.hid hK2; have R56 := R5.below hb6; have B6 := Lib.hid (Below.then' B5.out hb6); clear X5 R5; have X6 := HSX.out _ B6.out; clear hK2 h6 hb6) | (go_at_call 65; refine Calls.mono (specL2Equal_any K1 K2 (.slice a5 n5 c5) (.slice d5 m5 e5) (.slice a6 n6 c6) (.slice d6 m6 e6) w6 R56.ints R56.bools hr6.ints hr6.bools (IsLmZ.goodOk I5.out HK1.out) (IsLmZ.goodOk I6.out HK2.out)) ?_; rintro e w7 ⟨rfl, hb7⟩; have B7 := Lib.hid (Below.then' B6.out hb7); clear X6; have X7 := HSX.out _ B7.out; clear hb7))
      all_goals
        go_wp2_with fail
        go_ret
        exact ⟨⟨_, IsSame.end3 HK1.out HK2.out I5.out I6.out, rfl⟩, Q4.out.trans (B7.out.mono Q4.out.size)⟩
end Go.Proofs.Ytaghjddndgpljaa

namespace Go.Proofs.Ytaghjddndgpljaa
open Go.RowKit

theorem IsJoin.wfJ {ok : Bool} {f : List (Fin 3) → Bool} {k : M} {r : Bool} (h : IsJoin ok f k r) : (Lit.int .i64 k.st).wf = true := by
  have ho := h.ok_eq
  rcases h with ⟨rfl, _⟩ | ⟨_, rfl, _⟩
  · exact M.ok_wf ho
  · rfl
/-- SameTerms' answer -/
def IsSameT (ms ns : List Mk) (r : Bool) : Prop := ∃ m b k c, IsOf ms m b ∧ IsOf ns k c ∧ ((b && c) = true → IsSame m k r) ∧ ((b && c) = false → r = false)
theorem IsSameT.one {ms ns : List Mk} {r s : Bool} (h : IsSameT ms ns r) (g : IsSameT ms ns s) : r = s := by
  obtain ⟨m, b, k, c, h1, h2, h3, h4⟩ := h
  obtain ⟨m', b', k', c', g1, g2, g3, g4⟩ := g
  obtain ⟨rfl, rfl⟩ := h1.one g1
  obtain ⟨rfl, rfl⟩ := h2.one g2
  cases hb : (b && c) with
  | true => exact (h3 hb).one (g3 hb)
  | false => rw [h4 hb, g4 hb]
/-- ImpliesTerm's answer -/
def IsImpT (ms ns : List Mk) (r : Bool) : Prop := ∃ m b k c, IsOf ms m b ∧ IsOf ns k c ∧ ((b && c) = false → r = false) ∧ ((b && c) = true → ∃ j d, IsJoin (m.ok && k.ok) (fun u => m.lang 0 u && k.lang 0 u) j d ∧ (d = true → IsSame j m r) ∧ (d = false → r = false))
theorem IsImpT.one {ms ns : List Mk} {r s : Bool} (h : IsImpT ms ns r) (g : IsImpT ms ns s) : r = s := by
  obtain ⟨m, b, k, c, h1, h2, h3, h4⟩ := h
  obtain ⟨m', b', k', c', g1, g2, g3, g4⟩ := g
  obtain ⟨rfl, rfl⟩ := h1.one g1
  obtain ⟨rfl, rfl⟩ := h2.one g2
  cases hb : (b && c) with
  | false => rw [h3 hb, g3 hb]
  | true =>
    obtain ⟨j, d, h5, h6, h7⟩ := h4 hb
    obtain ⟨j', d', g5, g6, g7⟩ := g4 hb
    obtain ⟨rfl, rfl⟩ := h5.one g5
    cases d with
    | true => exact (h6 rfl).one (g6 rfl)
    | false => rw [h7 rfl, g7 rfl]

set_option maxHeartbeats 3200000 in
set_option maxRecDepth 100000 in
theorem specSameTerms_any (ms ns : List Mk) (v v2 : Value) (w : World) (h : IsMarks w v ms) (h2 : IsMarks w v2 ns) (hl : ms.length ≤ 1048576) (hl2 : ns.length ≤ 1048576) :
    Calls Try.prog 55 #[v, v2] w fun e w' => (∃ r, IsSameT ms ns r ∧ e = .returned (.bool r)) ∧ Below w.heap.size w w' := by
  have H1 := Lib.hid (fun W (hb : Below w.heap.size w W) => specMachineOf_any ms v W (h.below hb) hl)
  have H2 := Lib.hid (fun W (hb : Below w.heap.size w W) => specMachineOf_any ns v2 W (h2.below hb) hl2)
  obtain ⟨a, n, c, rfl⟩ := h.slice
  obtain ⟨a', n', c', rfl⟩ := h2.slice
  clear h h2
  go_enter Try.func55, Try.ntmps55
  go_wp2_with fail
  refine (H1.out _ (Below.refl _ _)).mono ?_
  rintro e w1 h1
  obtain ⟨m, b, a1, a2, c1, c2, hI1, rfl, hi1, hj1, hb1⟩ := h1.reads
  have I1 := Lib.hid hI1
  have S1 := Lib.hid hI1.len.2.2.1
  have M1 := Lib.hid (MachBox.new (st := m.st) 26 hi1 hj1)
  have B1 := Lib.hid (hb1.alloc hb1.size (.cells #[.int .i64 m.st, .slice a1 m.next.length c1, .slice a2 m.ends.length c2] 26))
  clear hI1 hi1 hj1 hb1 h1
  go_upto_region 2 with fail
  generalize hW1 : (w1.alloc (.cells #[.int .i64 m.st, .slice a1 m.next.length c1, .slice a2 m.ends.length c2] 26)) = W1 at *
  clear hW1
  generalize w1.heap.size = P1 at *
  go_wp2_with fail
  refine (H2.out _ B1.out).mono ?_
  rintro e w2 h2
  obtain ⟨k, c, a3, a4, c3, c4, hI2, rfl, hi2, hj2, hb2⟩ := h2.reads
  have I2 := Lib.hid hI2
  have S2 := Lib.hid hI2.len.2.2.1
  have hal : Below w2.heap.size w2 (w2.alloc (.cells #[.int .i64 k.st, .slice a3 k.next.length c3, .slice a4 k.ends.length c4] 26)) := (Below.refl _ _).alloc (Nat.le_refl _) _
  have M2 := Lib.hid (MachBox.new (st := k.st) 26 hi2 hj2)
  have M3 := Lib.hid ((M1.out.below hb2).below hal)
  have B2 := Lib.hid ((B1.out.trans (hb2.mono B1.out.size)).trans (hal.mono (Nat.le_trans B1.out.size hb2.size)))
  clear hI2 hi2 hj2 hb2 h2 hal M1 B1
  go_upto_region 3 with fail
  generalize hW2 : (w2.alloc (.cells #[.int .i64 k.st, .slice a3 k.next.length c3, .slice a4 k.ends.length c4] 26)) = W2 at *
  clear hW2
  generalize w2.heap.size = P2 at *
  cases b with
  | false =>
    go_wp2_with fail
    go_ret
    exact ⟨⟨false, ⟨m, false, k, c, I1.out, I2.out, fun h => (by cases h), fun _ => rfl⟩, rfl⟩, B2.out⟩
  | true =>
    cases c with
    | false =>
      go_wp2_with fail
      go_ret
      exact ⟨⟨false, ⟨m, true, k, false, I1.out, I2.out, fun h => (by cases h), fun _ => rfl⟩, rfl⟩, B2.out⟩
    | true =>
      have y0 := M2.out.c0
      have y1 := M2.out.c1
      have y2 := M2.out.c2
      have z0 := M3.out.c0
      have z1 := M3.out.c1
      have z2 := M3.out.c2
      go_wp2_with fail
      clear y0 y1 y2 z0 z1 z2
      refine (specSameOk_any m k _ _ _ _ W2 M3.out.ints M3.out.bools M2.out.ints M2.out.bools S1.out S2.out).mono ?_
      rintro e w3 ⟨⟨r, hr, rfl⟩, hb3⟩
      have HR := Lib.hid hr
      have B3 := Lib.hid (B2.out.trans (hb3.mono B2.out.size))
      clear hr hb3
      go_wp2_with fail
      go_ret
      exact ⟨⟨r, ⟨m, true, k, true, I1.out, I2.out, fun _ => HR.out, fun h => (by cases h)⟩, rfl⟩, B3.out⟩

set_option maxHeartbeats 3200000 in
set_option maxRecDepth 100000 in
theorem specImpliesTerm_any (ms ns : List Mk) (v v2 : Value) (w : World) (h : IsMarks w v ms) (h2 : IsMarks w v2 ns) (hl : ms.length ≤ 1048576) (hl2 : ns.length ≤ 1048576) :
    Calls Try.prog 57 #[v, v2] w fun e w' => (∃ r, IsImpT ms ns r ∧ e = .returned (.bool r)) ∧ Below w.heap.size w w' := by
  have H1 := Lib.hid (fun W (hb : Below w.heap.size w W) => specMachineOf_any ms v W (h.below hb) hl)
  have H2 := Lib.hid (fun W (hb : Below w.heap.size w W) => specMachineOf_any ns v2 W (h2.below hb) hl2)
  obtain ⟨a, n, c, rfl⟩ := h.slice
  obtain ⟨a', n', c', rfl⟩ := h2.slice
  clear h h2
  go_enter Try.func57, Try.ntmps57
  go_wp2_with fail
  refine (H1.out _ (Below.refl _ _)).mono ?_
  rintro e w1 h1
  obtain ⟨m, b, a1, a2, c1, c2, hI1, rfl, hi1, hj1, hb1⟩ := h1.reads
  have I1 := Lib.hid hI1
  have S1 := Lib.hid hI1.len.2.2.1
  have M1 := Lib.hid (MachBox.new (st := m.st) 26 hi1 hj1)
  have B1 := Lib.hid (hb1.alloc hb1.size (.cells #[.int .i64 m.st, .slice a1 m.next.length c1, .slice a2 m.ends.length c2] 26))
  clear hI1 hi1 hj1 hb1 h1
  go_upto_region 2 with fail
  generalize hW1 : (w1.alloc (.cells #[.int .i64 m.st, .slice a1 m.next.length c1, .slice a2 m.ends.length c2] 26)) = W1 at *
  clear hW1
  generalize w1.heap.size = P1 at *
  go_wp2_with fail
  refine (H2.out _ B1.out).mono ?_
  rintro e w2 h2
  obtain ⟨k, c, a3, a4, c3, c4, hI2, rfl, hi2, hj2, hb2⟩ := h2.reads
  have I2 := Lib.hid hI2
  have S2 := Lib.hid hI2.len.2.2.1
  have hal : Below w2.heap.size w2 (w2.alloc (.cells #[.int .i64 k.st, .slice a3 k.next.length c3, .slice a4 k.ends.length c4] 26)) := (Below.refl _ _).alloc (Nat.le_refl _) _
  have M2 := Lib.hid (MachBox.new (st := k.st) 26 hi2 hj2)
  have M3 := Lib.hid ((M1.out.below hb2).below hal)
  have B2 := Lib.hid ((B1.out.trans (hb2.mono B1.out.size)).trans (hal.mono (Nat.le_trans B1.out.size hb2.size)))
  clear hI2 hi2 hj2 hb2 h2 hal M1 B1
  go_upto_region 3 with fail
  generalize hW2 : (w2.alloc (.cells #[.int .i64 k.st, .slice a3 k.next.length c3, .slice a4 k.ends.length c4] 26)) = W2 at *
  clear hW2
  generalize w2.heap.size = P2 at *
  have y0 := M2.out.c0
  have y1 := M2.out.c1
  have y2 := M2.out.c2
  have z0 := M3.out.c0
  have z1 := M3.out.c1
  have z2 := M3.out.c2
  go_wp2_with fail
  clear y0 y1 y2 z0 z1 z2
  refine (specBoth_any m k _ _ _ _ W2 M3.out.ints M3.out.bools M2.out.ints M2.out.bools S1.out S2.out).mono ?_
  rintro e w3 h3
  obtain ⟨j, d, a5, a6, c5, c6, hJ, rfl, hA3, hb3⟩ := h3
  have hi3 := IsInts.of_owns hA3.head
  have hj3 := IsBools.of_owns hA3.tail.head
  have J3 := Lib.hid hJ
  have S3 := Lib.hid hJ.wfJ
  have hal : Below w3.heap.size w3 (w3.alloc (.cells #[.int .i64 j.st, .slice a5 j.next.length c5, .slice a6 j.ends.length c6] 26)) := (Below.refl _ _).alloc (Nat.le_refl _) _
  have M5 := Lib.hid (MachBox.new (st := j.st) 26 hi3 hj3)
  have M4 := Lib.hid ((M3.out.below hb3).below hal)
  have B3 := Lib.hid ((B2.out.trans (hb3.mono B2.out.size)).trans (hal.mono (Nat.le_trans B2.out.size hb3.size)))
  clear hJ hA3 hi3 hj3 hb3 hal M2 M3 B2
  go_upto_region 4 with fail
  generalize hW3 : (w3.alloc (.cells #[.int .i64 j.st, .slice a5 j.next.length c5, .slice a6 j.ends.length c6] 26)) = W3 at *
  clear hW3
  generalize w3.heap.size = P3 at *
  cases b with
  | false =>
    go_wp2_with fail
    go_ret
    exact ⟨⟨false, ⟨m, false, k, c, I1.out, I2.out, fun _ => rfl, fun h => (by cases h)⟩, rfl⟩, B3.out⟩
  | true =>
    cases c with
    | false =>
      go_wp2_with fail
      go_ret
      exact ⟨⟨false, ⟨m, true, k, false, I1.out, I2.out, fun _ => rfl, fun h => (by cases h)⟩, rfl⟩, B3.out⟩
    | true =>
      cases d with
      | false =>
        go_wp2_with fail
        go_ret
        exact ⟨⟨false, ⟨m, true, k, true, I1.out, I2.out, fun _ => rfl, fun _ => ⟨j, false, J3.out, fun h => (by cases h), fun _ => rfl⟩⟩, rfl⟩, B3.out⟩
      | true =>
        have y0 := M5.out.c0
        have y1 := M5.out.c1
        have y2 := M5.out.c2
        have z0 := M4.out.c0
        have z1 := M4.out.c1
        have z2 := M4.out.c2
        go_wp2_with fail
        clear y0 y1 y2 z0 z1 z2
        refine (specSameOk_any j m _ _ _ _ W3 M5.out.ints M5.out.bools M4.out.ints M4.out.bools S3.out S1.out).mono ?_
        rintro e w4 ⟨⟨r, hr, rfl⟩, hb4⟩
        have HR := Lib.hid hr
        have B4 := Lib.hid (B3.out.trans (hb4.mono B3.out.size))
        clear hr hb4
        go_wp2_with fail
        go_ret
        exact ⟨⟨r, ⟨m, true, k, true, I1.out, I2.out, fun h => (by cases h), fun _ => ⟨j, true, J3.out, fun _ => HR.out, fun h => (by cases h)⟩⟩, rfl⟩, B4.out⟩

set_option maxHeartbeats 3200000 in
set_option maxRecDepth 100000 in
theorem implSameTerms_any (ms ns : List Mk) (hwf : ∀ m ∈ ms, m.wf) (hwf2 : ∀ m ∈ ns, m.wf) (v v2 : Value) (w : World) (h : IsMarks w v ms) (h2 : IsMarks w v2 ns) :
    Calls Try.prog 56 #[v, v2] w fun e w' => (∃ r, IsSameT ms ns r ∧ e = .returned (.bool r)) ∧ Below w.heap.size w w' := by
  have H1 := Lib.hid (fun W (hb : Below w.heap.size w W) => implMachinesOf_any ms ns hwf hwf2 v v2 W (h.below hb) (h2.below hb))
  obtain ⟨a, n, c, rfl⟩ := h.slice
  obtain ⟨a', n', c', rfl⟩ := h2.slice
  clear h h2
  go_enter Try.func56, Try.ntmps56
  go_wp2_with fail
  refine (H1.out _ (Below.refl _ _)).mono ?_
  rintro e w1 ⟨m, k, b, c, a1, a2, a3, a4, c1, c2, c3, c4, hI1, hI2, rfl, ⟨hi1, hj1⟩, ⟨hi2, hj2⟩, hb1⟩
  have I1 := Lib.hid hI1
  have I2 := Lib.hid hI2
  have S1 := Lib.hid hI1.len.2.2.1
  have S2 := Lib.hid hI2.len.2.2.1
  obtain ⟨T0, q0⟩ := Two.new 26 hi1 hj1 hi2 hj2
  have T1 := Lib.hid T0
  have B1 := Lib.hid (hb1.trans (q0.mono hb1.size))
  clear hI1 hI2 hi1 hj1 hi2 hj2 hb1 T0 q0
  go_upto_region 2 with fail
  generalize hW1 : ((w1.alloc (.cells #[.int .i64 m.st, .slice a1 m.next.length c1, .slice a2 m.ends.length c2] 26)).alloc (.cells #[.int .i64 k.st, .slice a3 k.next.length c3, .slice a4 k.ends.length c4] 26)) = W1 at *
  clear hW1
  generalize w1.heap.size + 1 = P2 at *
  generalize w1.heap.size = P1 at *
  generalize hbc : (b && c) = bc at *
  cases bc with
  | false =>
    go_wp2_with fail
    go_ret
    exact ⟨⟨false, ⟨m, b, k, c, I1.out, I2.out, fun h => (by rw [hbc] at h; cases h), fun _ => rfl⟩, rfl⟩, B1.out⟩
  | true =>
    have y0 := T1.out.a.c0
    have y1 := T1.out.a.c1
    have y2 := T1.out.a.c2
    have z0 := T1.out.b.c0
    have z1 := T1.out.b.c1
    have z2 := T1.out.b.c2
    go_wp2_with fail
    clear y0 y1 y2 z0 z1 z2
    refine (implSame_any m k _ _ _ _ W1 T1.out.a.ints T1.out.a.bools T1.out.b.ints T1.out.b.bools S1.out S2.out).mono ?_
    rintro e w3 ⟨⟨r, hr, rfl⟩, hb3⟩
    have HR := Lib.hid hr
    have B3 := Lib.hid (B1.out.trans (hb3.mono B1.out.size))
    clear hr hb3
    go_wp2_with fail
    go_ret
    exact ⟨⟨r, ⟨m, b, k, c, I1.out, I2.out, fun _ => HR.out, fun h => (by rw [hbc] at h; cases h)⟩, rfl⟩, B3.out⟩

set_option maxHeartbeats 3200000 in
set_option maxRecDepth 100000 in
theorem implImpliesTerm_any (ms ns : List Mk) (hwf : ∀ m ∈ ms, m.wf) (hwf2 : ∀ m ∈ ns, m.wf) (v v2 : Value) (w : World) (h : IsMarks w v ms) (h2 : IsMarks w v2 ns) :
    Calls Try.prog 58 #[v, v2] w fun e w' => (∃ r, IsImpT ms ns r ∧ e = .returned (.bool r)) ∧ Below w.heap.size w w' := by
  have H1 := Lib.hid (fun W (hb : Below w.heap.size w W) => implMachinesOf_any ms ns hwf hwf2 v v2 W (h.below hb) (h2.below hb))
  obtain ⟨a, n, c, rfl⟩ := h.slice
  obtain ⟨a', n', c', rfl⟩ := h2.slice
  clear h h2
  go_enter Try.func58, Try.ntmps58
  go_wp2_with fail
  refine (H1.out _ (Below.refl _ _)).mono ?_
  rintro e w1 ⟨m, k, b, c, a1, a2, a3, a4, c1, c2, c3, c4, hI1, hI2, rfl, ⟨hi1, hj1⟩, ⟨hi2, hj2⟩, hb1⟩
  have I1 := Lib.hid hI1
  have I2 := Lib.hid hI2
  have S1 := Lib.hid hI1.len.2.2.1
  have S2 := Lib.hid hI2.len.2.2.1
  obtain ⟨T0, q0⟩ := Two.new 26 hi1 hj1 hi2 hj2
  have T1 := Lib.hid T0
  have B1 := Lib.hid (hb1.trans (q0.mono hb1.size))
  clear hI1 hI2 hi1 hj1 hi2 hj2 hb1 T0 q0
  go_upto_region 2 with fail
  generalize hW1 : ((w1.alloc (.cells #[.int .i64 m.st, .slice a1 m.next.length c1, .slice a2 m.ends.length c2] 26)).alloc (.cells #[.int .i64 k.st, .slice a3 k.next.length c3, .slice a4 k.ends.length c4] 26)) = W1 at *
  clear hW1
  generalize w1.heap.size + 1 = P2 at *
  generalize w1.heap.size = P1 at *
  generalize hbc : (b && c) = bc at *
  cases bc with
  | false =>
    go_wp2_with fail
    go_ret
    exact ⟨⟨false, ⟨m, b, k, c, I1.out, I2.out, fun _ => rfl, fun h => (by rw [hbc] at h; cases h)⟩, rfl⟩, B1.out⟩
  | true =>
    have y0 := T1.out.a.c0
    have y1 := T1.out.a.c1
    have y2 := T1.out.a.c2
    have z0 := T1.out.b.c0
    have z1 := T1.out.b.c1
    have z2 := T1.out.b.c2
    go_wp2_with fail
    clear y0 y1 y2 z0 z1 z2
    refine (implBoth_any m k _ _ _ _ W1 T1.out.a.ints T1.out.a.bools T1.out.b.ints T1.out.b.bools S1.out S2.out).mono ?_
    rintro e w3 ⟨j', d', a5, a6, c5, c6, hJ, rfl, hA3, hb3⟩
    have HJ := Lib.hid hJ
    have hi3 := IsInts.of_owns hA3.head
    have hj3 := IsBools.of_owns hA3.tail.head
    have S3 := Lib.hid hJ.wfJ
    have hal : Below w3.heap.size w3 (w3.alloc (.cells #[.int .i64 j'.st, .slice a5 j'.next.length c5, .slice a6 j'.ends.length c6] 26)) := (Below.refl _ _).alloc (Nat.le_refl _) _
    have M5 := Lib.hid (MachBox.new (st := j'.st) 26 hi3 hj3)
    have T4 := Lib.hid ((T1.out.below hb3).below hal)
    have B3 := Lib.hid ((B1.out.trans (hb3.mono B1.out.size)).trans (hal.mono (Nat.le_trans B1.out.size hb3.size)))
    clear hJ hA3 hi3 hj3 hb3 hal T1 B1
    go_upto_region 5 with fail
    generalize hW3 : (w3.alloc (.cells #[.int .i64 j'.st, .slice a5 j'.next.length c5, .slice a6 j'.ends.length c6] 26)) = W3 at *
    clear hW3
    generalize w3.heap.size = P3 at *
    cases d' with
    | false =>
      go_wp2_with fail
      go_ret
      exact ⟨⟨false, ⟨m, b, k, c, I1.out, I2.out, fun _ => rfl, fun _ => ⟨j', false, HJ.out, fun h => (by cases h), fun _ => rfl⟩⟩, rfl⟩, B3.out⟩
    | true =>
      have y0 := M5.out.c0
      have y1 := M5.out.c1
      have y2 := M5.out.c2
      have z0 := T4.out.a.c0
      have z1 := T4.out.a.c1
      have z2 := T4.out.a.c2
      go_wp2_with fail
      clear y0 y1 y2 z0 z1 z2
      refine (implSame_any j' m _ _ _ _ W3 M5.out.ints M5.out.bools T4.out.a.ints T4.out.a.bools S3.out S1.out).mono ?_
      rintro e w4 ⟨⟨r, hr, rfl⟩, hb4⟩
      have HR := Lib.hid hr
      have B4 := Lib.hid (B3.out.trans (hb4.mono B3.out.size))
      clear hr hb4
      go_wp2_with fail
      go_ret
      exact ⟨⟨r, ⟨m, b, k, c, I1.out, I2.out, fun h => (by rw [hbc] at h; cases h), fun _ => ⟨j', true, HJ.out, fun _ => HR.out, fun h => (by cases h)⟩⟩, rfl⟩, B4.out⟩
end Go.Proofs.Ytaghjddndgpljaa

namespace Go.Proofs.Ytaghjddndgpljaa
open Go.RowKit

set_option maxHeartbeats 3200000 in
theorem exactSameTerms_walk {w : World} (v : Value) (ms : List Mk) (h : IsMarks w v ms) (hwf : ∀ m ∈ ms, m.wf) (v' : Value) (ns : List Mk) (h' : IsMarks w v' ns) (hwf' : ∀ m ∈ ns, m.wf) :
    Calls Try.prog 13 #[v, v'] w fun e w' => e = .returned (.bool true) ∧ Below w.heap.size w w' := by
  have HM := Lib.hid h
  have HN := Lib.hid h'
  have hne : ∀ b : Bool, (b != b) = false := fun b => by cases b <;> rfl
  obtain ⟨a, n, cap, rfl⟩ := h.slice
  obtain ⟨a', n', cap', rfl⟩ := h'.slice
  clear h h'
  go_enter Try.func13, Try.ntmps13
  go_wp2_with fail
  refine (szMarkS_any ms hwf _ w HM.out 1048576 (by omega) (by omega)).mono ?_
  rintro e w1 ⟨⟨r, rfl, hr0, hr1, hrl⟩, hb1⟩
  have B1 := Lib.hid hb1
  clear hb1
  by_cases hr : r < 0
  · go_wp2_with fail
    go_ret
    exact ⟨rfl, B1.out⟩
  have hlen := hrl (by omega)
  clear hrl
  go_wp2_with fail
  refine (szMarkS_any ns hwf' _ w1 (HN.out.below B1.out) r (by omega) (by omega)).mono ?_
  rintro e w2 ⟨⟨r2, rfl, hq0, hq1, hql⟩, hb2⟩
  have B2 := Lib.hid (B1.out.trans (hb2.mono B1.out.size))
  clear hb2
  by_cases hr2 : r2 < 0
  · go_wp2_with fail
    go_ret
    exact ⟨rfl, B2.out⟩
  have hlen2 := hql (by omega)
  clear hql
  go_wp2_with fail
  refine (toMarkS_any _ ms w2 (HM.out.below B2.out) hlen).mono ?_
  rintro e w3 ⟨v3, rfl, hown, hb3⟩
  have B3 := Lib.hid (B2.out.trans (hb3.mono B2.out.size))
  have M3 := Lib.hid (IsMarks.of_owns hown)
  obtain ⟨a3, n3, cap3, rfl⟩ := (IsMarks.of_owns hown).slice
  clear hown hb3
  go_wp2_with fail
  refine (toMarkS_any _ ns w3 (HN.out.below B3.out) hlen2).mono ?_
  rintro e w4 ⟨v4, rfl, hown, hb4⟩
  have B4 := Lib.hid (B3.out.trans (hb4.mono B3.out.size))
  have M4 := Lib.hid (IsMarks.of_owns hown)
  have M34 := Lib.hid (M3.out.below hb4)
  obtain ⟨a4, n4, cap4, rfl⟩ := (IsMarks.of_owns hown).slice
  clear hown hb4
  go_wp2_with fail
  refine (specSameTerms_any ms ns _ _ w4 M34.out M4.out hlen hlen2).mono ?_
  rintro e w5 ⟨⟨b, hb, rfl⟩, hb5⟩
  have HB := Lib.hid hb
  have B5 := Lib.hid (B4.out.trans (hb5.mono B4.out.size))
  clear hb5 hb
  go_wp2_with fail
  refine (toMarkS_any _ ms w5 (HM.out.below B5.out) hlen).mono ?_
  rintro e w6 ⟨v6, rfl, hown, hb6⟩
  have B6 := Lib.hid (B5.out.trans (hb6.mono B5.out.size))
  have M6 := Lib.hid (IsMarks.of_owns hown)
  obtain ⟨a6, n6, cap6, rfl⟩ := (IsMarks.of_owns hown).slice
  clear hown hb6
  go_wp2_with fail
  refine (toMarkS_any _ ns w6 (HN.out.below B6.out) hlen2).mono ?_
  rintro e w7 ⟨v7, rfl, hown, hb7⟩
  have B7 := Lib.hid (B6.out.trans (hb7.mono B6.out.size))
  have M7 := Lib.hid (IsMarks.of_owns hown)
  have M67 := Lib.hid (M6.out.below hb7)
  obtain ⟨a7, n7, cap7, rfl⟩ := (IsMarks.of_owns hown).slice
  clear hown hb7
  go_wp2_with fail
  refine (implSameTerms_any ms ns hwf hwf' _ _ w7 M67.out M7.out).mono ?_
  rintro e w8 ⟨⟨b2, hb2, rfl⟩, hb8⟩
  obtain rfl := hb2.one HB.out
  have B8 := Lib.hid (B7.out.trans (hb8.mono B7.out.size))
  have M68 := Lib.hid (M67.out.below hb8)
  have M78 := Lib.hid (M7.out.below hb8)
  have hnb := hne b2
  clear hb8 hb2 HB hne
  go_wp2_with fail
  refine (toMarkS_any _ ms w8 (HM.out.below B8.out) hlen).mono ?_
  rintro e w9 ⟨v9, rfl, hown, hb9⟩
  have B9 := Lib.hid (B8.out.trans (hb9.mono B8.out.size))
  have M9 := Lib.hid (IsMarks.of_owns hown)
  have M69 := Lib.hid (M68.out.below hb9)
  have M79 := Lib.hid (M78.out.below hb9)
  obtain ⟨a9, n9, cap9, rfl⟩ := (IsMarks.of_owns hown).slice
  clear hown hb9
  go_wp2_with fail
  refine (eqMarkS_same ms _ _ w9 M69.out M9.out).mono ?_
  rintro e w10 ⟨rfl, hb10⟩
  have B10 := Lib.hid (B9.out.trans (hb10.mono B9.out.size))
  have M710 := Lib.hid (M79.out.below hb10)
  clear hb10
  go_wp2_with fail
  refine (toMarkS_any _ ns w10 (HN.out.below B10.out) hlen2).mono ?_
  rintro e w11 ⟨v11, rfl, hown, hb11⟩
  have B11 := Lib.hid (B10.out.trans (hb11.mono B10.out.size))
  have M11 := Lib.hid (IsMarks.of_owns hown)
  have M711 := Lib.hid (M710.out.below hb11)
  obtain ⟨a11, n11, cap11, rfl⟩ := (IsMarks.of_owns hown).slice
  clear hown hb11
  go_wp2_with fail
  refine (eqMarkS_same ns _ _ w11 M711.out M11.out).mono ?_
  rintro e w12 ⟨rfl, hb12⟩
  have B12 := Lib.hid (B11.out.trans (hb12.mono B11.out.size))
  clear hb12
  go_wp2_with fail
  go_ret
  exact ⟨rfl, B12.out⟩
end Go.Proofs.Ytaghjddndgpljaa

namespace Go.Proofs.Ytaghjddndgpljaa
open Go.RowKit

set_option maxHeartbeats 3200000 in
theorem exactImpliesTerm_walk {w : World} (v : Value) (ms : List Mk) (h : IsMarks w v ms) (hwf : ∀ m ∈ ms, m.wf) (v' : Value) (ns : List Mk) (h' : IsMarks w v' ns) (hwf' : ∀ m ∈ ns, m.wf) :
    Calls Try.prog 14 #[v, v'] w fun e w' => e = .returned (.bool true) ∧ Below w.heap.size w w' := by
  have HM := Lib.hid h
  have HN := Lib.hid h'
  have hne : ∀ b : Bool, (b != b) = false := fun b => by cases b <;> rfl
  obtain ⟨a, n, cap, rfl⟩ := h.slice
  obtain ⟨a', n', cap', rfl⟩ := h'.slice
  clear h h'
  go_enter Try.func14, Try.ntmps14
  go_wp2_with fail
  refine (szMarkS_any ms hwf _ w HM.out 1048576 (by omega) (by omega)).mono ?_
  rintro e w1 ⟨⟨r, rfl, hr0, hr1, hrl⟩, hb1⟩
  have B1 := Lib.hid hb1
  clear hb1
  by_cases hr : r < 0
  · go_wp2_with fail
    go_ret
    exact ⟨rfl, B1.out⟩
  have hlen := hrl (by omega)
  clear hrl
  go_wp2_with fail
  refine (szMarkS_any ns hwf' _ w1 (HN.out.below B1.out) r (by omega) (by omega)).mono ?_
  rintro e w2 ⟨⟨r2, rfl, hq0, hq1, hql⟩, hb2⟩
  have B2 := Lib.hid (B1.out.trans (hb2.mono B1.out.size))
  clear hb2
  by_cases hr2 : r2 < 0
  · go_wp2_with fail
    go_ret
    exact ⟨rfl, B2.out⟩
  have hlen2 := hql (by omega)
  clear hql
  go_wp2_with fail
  refine (toMarkS_any _ ms w2 (HM.out.below B2.out) hlen).mono ?_
  rintro e w3 ⟨v3, rfl, hown, hb3⟩
  have B3 := Lib.hid (B2.out.trans (hb3.mono B2.out.size))
  have M3 := Lib.hid (IsMarks.of_owns hown)
  obtain ⟨a3, n3, cap3, rfl⟩ := (IsMarks.of_owns hown).slice
  clear hown hb3
  go_wp2_with fail
  refine (toMarkS_any _ ns w3 (HN.out.below B3.out) hlen2).mono ?_
  rintro e w4 ⟨v4, rfl, hown, hb4⟩
  have B4 := Lib.hid (B3.out.trans (hb4.mono B3.out.size))
  have M4 := Lib.hid (IsMarks.of_owns hown)
  have M34 := Lib.hid (M3.out.below hb4)
  obtain ⟨a4, n4, cap4, rfl⟩ := (IsMarks.of_owns hown).slice
  clear hown hb4
  go_wp2_with fail
  refine (specImpliesTerm_any ms ns _ _ w4 M34.out M4.out hlen hlen2).mono ?_
  rintro e w5 ⟨⟨b, hb, rfl⟩, hb5⟩
  have HB := Lib.hid hb
  have B5 := Lib.hid (B4.out.trans (hb5.mono B4.out.size))
  clear hb5 hb
  go_wp2_with fail
  refine (toMarkS_any _ ms w5 (HM.out.below B5.out) hlen).mono ?_
  rintro e w6 ⟨v6, rfl, hown, hb6⟩
  have B6 := Lib.hid (B5.out.trans (hb6.mono B5.out.size))
  have M6 := Lib.hid (IsMarks.of_owns hown)
  obtain ⟨a6, n6, cap6, rfl⟩ := (IsMarks.of_owns hown).slice
  clear hown hb6
  go_wp2_with fail
  refine (toMarkS_any _ ns w6 (HN.out.below B6.out) hlen2).mono ?_
  rintro e w7 ⟨v7, rfl, hown, hb7⟩
  have B7 := Lib.hid (B6.out.trans (hb7.mono B6.out.size))
  have M7 := Lib.hid (IsMarks.of_owns hown)
  have M67 := Lib.hid (M6.out.below hb7)
  obtain ⟨a7, n7, cap7, rfl⟩ := (IsMarks.of_owns hown).slice
  clear hown hb7
  go_wp2_with fail
  refine (implImpliesTerm_any ms ns hwf hwf' _ _ w7 M67.out M7.out).mono ?_
  rintro e w8 ⟨⟨b2, hb2, rfl⟩, hb8⟩
  obtain rfl := hb2.one HB.out
  have B8 := Lib.hid (B7.out.trans (hb8.mono B7.out.size))
  have M68 := Lib.hid (M67.out.below hb8)
  have M78 := Lib.hid (M7.out.below hb8)
  have hnb := hne b2
  clear hb8 hb2 HB hne
  go_wp2_with fail
  refine (toMarkS_any _ ms w8 (HM.out.below B8.out) hlen).mono ?_
  rintro e w9 ⟨v9, rfl, hown, hb9⟩
  have B9 := Lib.hid (B8.out.trans (hb9.mono B8.out.size))
  have M9 := Lib.hid (IsMarks.of_owns hown)
  have M69 := Lib.hid (M68.out.below hb9)
  have M79 := Lib.hid (M78.out.below hb9)
  obtain ⟨a9, n9, cap9, rfl⟩ := (IsMarks.of_owns hown).slice
  clear hown hb9
  go_wp2_with fail
  refine (eqMarkS_same ms _ _ w9 M69.out M9.out).mono ?_
  rintro e w10 ⟨rfl, hb10⟩
  have B10 := Lib.hid (B9.out.trans (hb10.mono B9.out.size))
  have M710 := Lib.hid (M79.out.below hb10)
  clear hb10
  go_wp2_with fail
  refine (toMarkS_any _ ns w10 (HN.out.below B10.out) hlen2).mono ?_
  rintro e w11 ⟨v11, rfl, hown, hb11⟩
  have B11 := Lib.hid (B10.out.trans (hb11.mono B10.out.size))
  have M11 := Lib.hid (IsMarks.of_owns hown)
  have M711 := Lib.hid (M710.out.below hb11)
  obtain ⟨a11, n11, cap11, rfl⟩ := (IsMarks.of_owns hown).slice
  clear hown hb11
  go_wp2_with fail
  refine (eqMarkS_same ns _ _ w11 M711.out M11.out).mono ?_
  rintro e w12 ⟨rfl, hb12⟩
  have B12 := Lib.hid (B11.out.trans (hb12.mono B11.out.size))
  clear hb12
  go_wp2_with fail
  go_ret
  exact ⟨rfl, B12.out⟩
end Go.Proofs.Ytaghjddndgpljaa
