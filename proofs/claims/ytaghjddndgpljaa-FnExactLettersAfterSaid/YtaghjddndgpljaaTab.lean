/- impl's ways of a table: (wordCounts).ways and (wordCounts).waysBy. No condition. -/
import Derived.Test.YtaghjddndgpljaaOwn
import Derived.Test.YtaghjddndgpljaaAfter
import Derived.Deep.RegionLaw
import Derived.Deep.RegionWith
import Derived.Deep.CutBlock
namespace Go.Proofs.Ytaghjddndgpljaa
open Go.RowKit

/-- a block that holds a machine with a table -/
structure CtBox (B : Nat) (m : M) (N : Nat) (nv ev tv : Value) (w : World) : Prop where
  hB : B < w.heap.size
  c0 : w.cell? ⟨B, 0, none⟩ = some (.int .i64 m.st)
  c1 : w.cell? ⟨B, 1, none⟩ = some nv
  c2 : w.cell? ⟨B, 2, none⟩ = some ev
  c3 : w.cell? ⟨B, 3, none⟩ = some tv
  ints : IsInts w nv m.next
  tab : IsTab w tv m N
theorem CtBox.below {B : Nat} {m : M} {N : Nat} {nv ev tv : Value} {w w' : World} (h : CtBox B m N nv ev tv w) (hb : Below w.heap.size w w') : CtBox B m N nv ev tv w' :=
  ⟨Nat.lt_of_lt_of_le h.hB hb.size, (hb.cell (p := ⟨B, 0, none⟩) h.hB).trans h.c0, (hb.cell (p := ⟨B, 1, none⟩) h.hB).trans h.c1, (hb.cell (p := ⟨B, 2, none⟩) h.hB).trans h.c2, (hb.cell (p := ⟨B, 3, none⟩) h.hB).trans h.c3, h.ints.below hb, h.tab.below hb⟩
theorem CtBox.new {m : M} {N : Nat} {nv ev tv : Value} {w : World} (t : TypeId) (h1 : IsInts w nv m.next) (h2 : IsTab w tv m N) : CtBox w.heap.size m N nv ev tv (w.alloc (.cells #[.int .i64 m.st, nv, ev, tv] t)) :=
  ⟨by simp, World.cell?_alloc_new w _ _ 0, World.cell?_alloc_new w _ _ 1, World.cell?_alloc_new w _ _ 2, World.cell?_alloc_new w _ _ 3, h1.below ((Below.refl _ _).alloc (Nat.le_refl _) _), h2.alloc _⟩

set_option maxHeartbeats 800000 in
theorem implWays_any (m : M) (N k : Nat) (s : Int) (nv ev tv : Value) (w : World) (ht : IsTab w tv m N) (hm : m.good) (s0 : -1 ≤ s) (s1 : s < m.st) (hk : k ≤ N) :
    Calls Try.prog 94 #[.agg #[.int .i64 m.st, nv, ev, tv], .int .i64 s, .int .i64 (k : Int)] w fun e w' => e = .returned (.int .i64 (m.ways k s)) ∧ Below w.heap.size w w' := by
  by_cases hs : s = -1
  · subst hs
    have HN := Lib.hid (m.ways_lt k (-1) (by omega))
    clear ht hm
    go_enter Try.func94, Try.ntmps94
    go_wp2_with fail
    go_ret
    exact ⟨ret_int HN.out.symm, (Below.refl _ _).alloc (Nat.le_refl _) _⟩
  · obtain ⟨j, rfl⟩ := Int.eq_ofNat_of_zero_le (show 0 ≤ s by omega)
    have hsh := M.good_shape hm
    have hj : j < m.ends.length := by omega
    obtain ⟨g, off, cap, rfl, h1, h2, h3, h4⟩ := ht
    obtain ⟨rv, hr1, hr2⟩ := h4 k hk
    obtain ⟨ra, rn, rc, rfl⟩ := hr2.slice
    obtain ⟨gr, ofr, rfl, rfl, hc1, hc2, hgr, hcell⟩ := ints_cells hr2 (by rw [m.waysRow_length]; omega)
    replace hcell := hcell j (by rw [m.waysRow_length]; exact hj)
    rw [m.waysRow_at] at hcell
    have hrl := m.waysRow_length k
    unfold maxLen at h2 hc2
    have hjl : j < (m.waysRow k).length := by omega
    have hb1 : ((j : Int) == -1) = false := by simp
    clear hsh hm h4 hr2 hrl
    generalize (m.waysRow k).length = n at *
    generalize m.ways k (j : Int) = x at *
    go_enter Try.func94, Try.ntmps94
    go_wp2_with fail
    go_ret
    exact ⟨rfl, (Below.refl _ _).alloc (Nat.le_refl _) _⟩

set_option maxHeartbeats 1600000 in
theorem implWaysBy_any (m : M) (N k : Nat) (s left l : Int) (nv ev tv : Value) (w : World) (hi : IsInts w nv m.next) (ht : IsTab w tv m N) (hm : m.ok = true) (s0 : -1 ≤ s) (s1 : s < m.st) (l0 : 0 ≤ l) (l1 : l ≤ 2) (hl : left = (k : Int) + 1) (hk : k ≤ N) (hN : N ≤ 10) :
    Calls Try.prog 100 #[.agg #[.int .i64 m.st, nv, ev, tv], .int .i64 s, .int .i64 left, .int .i64 l] w fun e w' => e = .returned (.int .i64 (m.ways k (m.nx s l))) ∧ Below w.heap.size w w' := by
  have X0 := Lib.hid (CtBox.new (ev := ev) 94 hi ht)
  have q0 : Hid (Below w.heap.size w (w.alloc (.cells #[.int .i64 m.st, nv, ev, tv] 94))) := Lib.hid ((Below.refl _ _).alloc (Nat.le_refl _) _)
  have hw : IntKind.i64.wrap (left - 1) = (k : Int) := by rw [IntWalk.i64_in _ (by omega)]; omega
  have HC1 := Lib.hid (fun W a => implNextOf_any m s l nv ev W a hm s0 s1 l0 l1)
  have hnb := M.nx_bd hm s l s1 l0 l1
  have HC2 := Lib.hid (fun W a => implWays_any m N k (m.nx s l) nv ev tv W a (M.ok_good hm) hnb.1 hnb.2 hk)
  have c0 := X0.out.c0
  have c1 := X0.out.c1
  have c2 := X0.out.c2
  have c3 := X0.out.c3
  generalize m.ways k (m.nx s l) = x at *
  generalize m.nx s l = t at *
  clear hi ht hm hl hnb
  go_enter Try.func100, Try.ntmps100
  go_upto_region 1 with fail
  generalize (w.alloc (.cells #[.int .i64 m.st, nv, ev, tv] 94)) = W0 at *
  generalize hR : w.heap.size = R at *
  have HR := Lib.hid hR
  clear hR
  have X0d := Lib.hid (X0.out.below (Below.refl _ _).drew)
  go_region_with (first | (go_at_call 71; refine (HC1.out _ X0d.out.ints).mono ?_; rintro e w1 ⟨rfl, hb1⟩; have X1 := X0d.out.below hb1; have d0 := X1.c0; have d1 := X1.c1; have d2 := X1.c2; have d3 := X1.c3) | (go_at_call 94; refine (HC2.out _ X1.tab).mono ?_; rintro e w2 ⟨rfl, hb2⟩))
  all_goals
    go_wp2
    go_ret
    have hs0 : R ≤ W0.heap.size := by rw [← HR.out]; exact q0.out.size
    have q1 := q0.out.drew.trans (hb1.mono hs0)
    rw [HR.out]
    exact ⟨rfl, q1.trans (hb2.mono (by rw [← HR.out]; exact q1.size))⟩
end Go.Proofs.Ytaghjddndgpljaa
