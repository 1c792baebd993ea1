/- The drawing functions of machines. No condition. -/
import Derived.Test.YtdgpemjbaciiaaaDrawM
namespace Go.Proofs.Ytdgpemjbaciiaaa
open Go.RowKit

theorem IsRow.below {k : IntKind} {w w' : World} {a : Option Addr} {len cap : Nat} {zs : List Int} (h : IsRow k w a len cap zs) (hb : Below w.heap.size w w') : IsRow k w' a len cap zs := by
  rcases h with h | ⟨x, h1, h2, h3, h4, h5, h6⟩
  · exact .inl h
  · exact .inr ⟨x, h1, h2, h3, h4, fun i hi => (hb.cell (World.block_lt_of_cell? w _ (h5 i hi))).trans (h5 i hi), h6⟩
/-- a machine that was drawn: within bounds, in memory that reads so -/
structure Drawn2 (m : M) (nv ev : Value) (w : World) : Prop where
  s0 : 0 ≤ m.st
  s1 : m.st ≤ 5
  l1 : m.next.length ≤ 15
  l2 : m.ends.length ≤ 6
  ints : IsInts w nv m.next
  bools : IsBools w ev m.ends
theorem Drawn2.below {m : M} {nv ev : Value} {w w' : World} (h : Drawn2 m nv ev w) (hb : Below w.heap.size w w') : Drawn2 m nv ev w' := ⟨h.s0, h.s1, h.l1, h.l2, h.ints.below hb, h.bools.below hb⟩
theorem Drawn2.wf {m : M} {nv ev : Value} {w : World} (h : Drawn2 m nv ev w) : (Lit.int .i64 m.st).wf = true := WalkArith.wf_i64 (by have := h.s0; have := h.s1; omega)
def MachRes (w : World) (e : Ending) (w' : World) : Prop :=
  ∃ (m : M) (nv ev : Value), e = .returned (.agg #[.int .i64 m.st, nv, ev]) ∧ Drawn2 m nv ev w' ∧ Below w.heap.size w w'
def MachWordRes (w : World) (e : Ending) (w' : World) : Prop :=
  ∃ (m : M) (nv ev : Value) (s : ByteArray), e = .returned (.tuple #[.agg #[.int .i64 m.st, nv, ev], .string s]) ∧ s.size ≤ 23 ∧ Drawn2 m nv ev w' ∧ Below w.heap.size w w'

theorem apart_drawn {B : Nat} {st : Int} {nv ev : Value} {xs : List Int} {bs : List Bool} {w : World} (h : Apart B [rowT 3 1 nv xs.length (xs.map (Value.int .i64)), rowT 4 1 ev bs.length (bs.map Value.bool)] w)
    (h0 : 0 ≤ st) (h1 : st ≤ 5) (h2 : xs.length ≤ 15) (h3 : bs.length ≤ 6) : Drawn2 ⟨st, xs, bs⟩ nv ev w :=
  ⟨h0, h1, h2, h3, IsInts.of_owns h.head, IsBools.of_owns h.tail.head⟩

set_option maxHeartbeats 800000 in
theorem drawTrimmedMachine_any (a : Option Addr) (len cap : Nat) (zs : List Int) (w : World) (h : IsRow .u8 w a len cap zs) :
    Calls Try.prog 41 #[.slice a len cap] w (MachRes w) := by
  have H0 := h.below ((Below.refl w.heap.size w).alloc (Nat.le_refl _) (.cells #[.int .i64 0, .slice none 0 0, .slice none 0 0] 27))
  have HO := Lib.hid (l20Open_any a len cap zs _ H0)
  clear H0 h
  go_enter Try.func41, Try.ntmps41
  go_wp2_with fail
  refine HO.out.mono ?_
  clear HO
  rintro e w1 ⟨a1, len1, cap1, rfl, hR, hb1⟩
  simp only [World.size_alloc] at hR hb1
  have hRR := hR.hR
  have c0 : w1.cell? ⟨w.heap.size, 0, none⟩ = some (.int .i64 0) := (hb1.cell (p := ⟨w.heap.size, 0, none⟩) (Nat.lt_succ_self _)).trans (World.cell?_alloc_new w _ _ 0)
  have c1 : w1.cell? ⟨w.heap.size, 1, none⟩ = some (.slice none 0 0) := (hb1.cell (p := ⟨w.heap.size, 1, none⟩) (Nat.lt_succ_self _)).trans (World.cell?_alloc_new w _ _ 1)
  have c2 : w1.cell? ⟨w.heap.size, 2, none⟩ = some (.slice none 0 0) := (hb1.cell (p := ⟨w.heap.size, 2, none⟩) (Nat.lt_succ_self _)).trans (World.cell?_alloc_new w _ _ 2)
  have f0 : ∀ i, w1.frozen? ⟨w.heap.size, i, none⟩ = false := fun i => (hb1.frozen (p := ⟨w.heap.size, i, none⟩) (Nat.lt_succ_self _)).trans (World.frozen?_alloc_new w _ _ i)
  have hbw : Below w.heap.size w w1 := ((Below.refl w.heap.size w).alloc (Nat.le_refl _) _).trans (hb1.mono (Nat.le_succ _))
  clear hb1
  go_wp2_with fail
  refine (l20Machine_any _ _ a1 len1 cap1 0 _ w1 hR (by omega) (by omega) (by omega)).mono ?_
  rintro e w2 ⟨st, xs, bs, nv, ev, rfl, h0, h1, h2, h3, -, hK, hA⟩
  obtain ⟨a3, c3, rfl⟩ := ownsRow_sliceD hA.head
  obtain ⟨a4, c4, rfl⟩ := ownsRow_sliceD hA.tail.head
  have hne : (w.heap.size : Nat) ≠ w.heap.size + 1 := by omega
  have d0 := (hK.cell (p := ⟨w.heap.size, 0, none⟩) (by show w.heap.size < _; omega) (by show w.heap.size ≠ _; omega)).trans c0
  have d1 := (hK.cell (p := ⟨w.heap.size, 1, none⟩) (by show w.heap.size < _; omega) (by show w.heap.size ≠ _; omega)).trans c1
  have d2 := (hK.cell (p := ⟨w.heap.size, 2, none⟩) (by show w.heap.size < _; omega) (by show w.heap.size ≠ _; omega)).trans c2
  have g0 := (hK.frozen (p := ⟨w.heap.size, 0, none⟩) (by show w.heap.size < _; omega) (by show w.heap.size ≠ _; omega)).trans (f0 0)
  have g1 := (hK.frozen (p := ⟨w.heap.size, 1, none⟩) (by show w.heap.size < _; omega) (by show w.heap.size ≠ _; omega)).trans (f0 1)
  have g2 := (hK.frozen (p := ⟨w.heap.size, 2, none⟩) (by show w.heap.size < _; omega) (by show w.heap.size ≠ _; omega)).trans (f0 2)
  have hbw2 : Below w.heap.size w w2 := hbw.trans (hK.below (by omega) (by omega))
  clear c0 c1 c2 f0 hbw hK hR
  have FIN : ∀ W, W = ((w2.setCell ⟨w.heap.size, 0, none⟩ (.int .i64 st)).setCell ⟨w.heap.size, 1, none⟩ (.slice a3 xs.length c3)).setCell ⟨w.heap.size, 2, none⟩ (.slice a4 bs.length c4) →
      Drawn2 ⟨st, xs, bs⟩ (.slice a3 xs.length c3) (.slice a4 bs.length c4) W ∧ Below w.heap.size w W ∧ W.cell? ⟨w.heap.size, 0, none⟩ = some (.int .i64 st) ∧ W.cell? ⟨w.heap.size, 1, none⟩ = some (.slice a3 xs.length c3) ∧ W.cell? ⟨w.heap.size, 2, none⟩ = some (.slice a4 bs.length c4) := by
    rintro W rfl
    have hr : ∀ k, some w.heap.size = some k → k < w1.heap.size := fun k e => by cases e; omega
    refine ⟨apart_drawn (((hA.other (grown_setCell _ _ _ _) hr).other (grown_setCell _ _ _ _) hr).other (grown_setCell _ _ _ _) hr) h0 h1 h2 h3, ((hbw2.setCell (p := ⟨w.heap.size, 0, none⟩) (Nat.le_refl _) _).setCell (p := ⟨w.heap.size, 1, none⟩) (Nat.le_refl _) _).setCell (p := ⟨w.heap.size, 2, none⟩) (Nat.le_refl _) _, by go_simp, by go_simp, by go_simp⟩
  have FI := Lib.hid FIN
  clear FIN hA hbw2
  go_wp2
  obtain ⟨r1, r2, r3, r4, r5⟩ := FI.out _ rfl
  refine bodyPost_ret (v := .agg #[.int .i64 st, .slice a3 xs.length c3, .slice a4 bs.length c4]) ?_ rfl ⟨⟨st, xs, bs⟩, _, _, rfl, r1, r2⟩
  simp [results, Try.results41, go_sem, r3, r4, r5]

set_option maxHeartbeats 800000 in
theorem drawLeastMachine_any (a : Option Addr) (len cap : Nat) (zs : List Int) (w : World) (h : IsRow .u8 w a len cap zs) :
    Calls Try.prog 45 #[.slice a len cap] w (MachRes w) := by
  have H0 := h.below ((Below.refl w.heap.size w).alloc (Nat.le_refl _) (.cells #[.int .i64 0, .slice none 0 0, .slice none 0 0] 27))
  have HO := Lib.hid (l20Open_any a len cap zs _ H0)
  clear H0 h
  go_enter Try.func45, Try.ntmps45
  go_wp2_with fail
  refine HO.out.mono ?_
  clear HO
  rintro e w1 ⟨a1, len1, cap1, rfl, hR, hb1⟩
  simp only [World.size_alloc] at hR hb1
  have hRR := hR.hR
  have c0 : w1.cell? ⟨w.heap.size, 0, none⟩ = some (.int .i64 0) := (hb1.cell (p := ⟨w.heap.size, 0, none⟩) (Nat.lt_succ_self _)).trans (World.cell?_alloc_new w _ _ 0)
  have c1 : w1.cell? ⟨w.heap.size, 1, none⟩ = some (.slice none 0 0) := (hb1.cell (p := ⟨w.heap.size, 1, none⟩) (Nat.lt_succ_self _)).trans (World.cell?_alloc_new w _ _ 1)
  have c2 : w1.cell? ⟨w.heap.size, 2, none⟩ = some (.slice none 0 0) := (hb1.cell (p := ⟨w.heap.size, 2, none⟩) (Nat.lt_succ_self _)).trans (World.cell?_alloc_new w _ _ 2)
  have f0 : ∀ i, w1.frozen? ⟨w.heap.size, i, none⟩ = false := fun i => (hb1.frozen (p := ⟨w.heap.size, i, none⟩) (Nat.lt_succ_self _)).trans (World.frozen?_alloc_new w _ _ i)
  have hbw : Below w.heap.size w w1 := ((Below.refl w.heap.size w).alloc (Nat.le_refl _) _).trans (hb1.mono (Nat.le_succ _))
  clear hb1
  go_wp2_with fail
  refine (l20Machine_any _ _ a1 len1 cap1 0 _ w1 hR (by omega) (by omega) (by omega)).mono ?_
  rintro e w2 ⟨st, xs, bs, nv, ev, rfl, h0, h1, h2, h3, -, hK, hA⟩
  obtain ⟨a3, c3, rfl⟩ := ownsRow_sliceD hA.head
  obtain ⟨a4, c4, rfl⟩ := ownsRow_sliceD hA.tail.head
  have hne : (w.heap.size : Nat) ≠ w.heap.size + 1 := by omega
  have d0 := (hK.cell (p := ⟨w.heap.size, 0, none⟩) (by show w.heap.size < _; omega) (by show w.heap.size ≠ _; omega)).trans c0
  have d1 := (hK.cell (p := ⟨w.heap.size, 1, none⟩) (by show w.heap.size < _; omega) (by show w.heap.size ≠ _; omega)).trans c1
  have d2 := (hK.cell (p := ⟨w.heap.size, 2, none⟩) (by show w.heap.size < _; omega) (by show w.heap.size ≠ _; omega)).trans c2
  have g0 := (hK.frozen (p := ⟨w.heap.size, 0, none⟩) (by show w.heap.size < _; omega) (by show w.heap.size ≠ _; omega)).trans (f0 0)
  have g1 := (hK.frozen (p := ⟨w.heap.size, 1, none⟩) (by show w.heap.size < _; omega) (by show w.heap.size ≠ _; omega)).trans (f0 1)
  have g2 := (hK.frozen (p := ⟨w.heap.size, 2, none⟩) (by show w.heap.size < _; omega) (by show w.heap.size ≠ _; omega)).trans (f0 2)
  have hbw2 : Below w.heap.size w w2 := hbw.trans (hK.below (by omega) (by omega))
  clear c0 c1 c2 f0 hbw hK hR
  have FIN : ∀ W, W = ((w2.setCell ⟨w.heap.size, 0, none⟩ (.int .i64 st)).setCell ⟨w.heap.size, 1, none⟩ (.slice a3 xs.length c3)).setCell ⟨w.heap.size, 2, none⟩ (.slice a4 bs.length c4) →
      Drawn2 ⟨st, xs, bs⟩ (.slice a3 xs.length c3) (.slice a4 bs.length c4) W ∧ Below w.heap.size w W ∧ W.cell? ⟨w.heap.size, 0, none⟩ = some (.int .i64 st) ∧ W.cell? ⟨w.heap.size, 1, none⟩ = some (.slice a3 xs.length c3) ∧ W.cell? ⟨w.heap.size, 2, none⟩ = some (.slice a4 bs.length c4) := by
    rintro W rfl
    have hr : ∀ k, some w.heap.size = some k → k < w1.heap.size := fun k e => by cases e; omega
    refine ⟨apart_drawn (((hA.other (grown_setCell _ _ _ _) hr).other (grown_setCell _ _ _ _) hr).other (grown_setCell _ _ _ _) hr) h0 h1 h2 h3, ((hbw2.setCell (p := ⟨w.heap.size, 0, none⟩) (Nat.le_refl _) _).setCell (p := ⟨w.heap.size, 1, none⟩) (Nat.le_refl _) _).setCell (p := ⟨w.heap.size, 2, none⟩) (Nat.le_refl _) _, by go_simp, by go_simp, by go_simp⟩
  have FI := Lib.hid FIN
  clear FIN hA hbw2
  go_wp2
  obtain ⟨r1, r2, r3, r4, r5⟩ := FI.out _ rfl
  refine bodyPost_ret (v := .agg #[.int .i64 st, .slice a3 xs.length c3, .slice a4 bs.length c4]) ?_ rfl ⟨⟨st, xs, bs⟩, _, _, rfl, r1, r2⟩
  simp [results, Try.results45, go_sem, r3, r4, r5]

set_option maxHeartbeats 800000 in
theorem drawNotMachine_any (a : Option Addr) (len cap : Nat) (zs : List Int) (w : World) (h : IsRow .u8 w a len cap zs) :
    Calls Try.prog 49 #[.slice a len cap] w (MachRes w) := by
  have H0 := h.below ((Below.refl w.heap.size w).alloc (Nat.le_refl _) (.cells #[.int .i64 0, .slice none 0 0, .slice none 0 0] 27))
  have HO := Lib.hid (l20Open_any a len cap zs _ H0)
  clear H0 h
  go_enter Try.func49, Try.ntmps49
  go_wp2_with fail
  refine HO.out.mono ?_
  clear HO
  rintro e w1 ⟨a1, len1, cap1, rfl, hR, hb1⟩
  simp only [World.size_alloc] at hR hb1
  have hRR := hR.hR
  have c0 : w1.cell? ⟨w.heap.size, 0, none⟩ = some (.int .i64 0) := (hb1.cell (p := ⟨w.heap.size, 0, none⟩) (Nat.lt_succ_self _)).trans (World.cell?_alloc_new w _ _ 0)
  have c1 : w1.cell? ⟨w.heap.size, 1, none⟩ = some (.slice none 0 0) := (hb1.cell (p := ⟨w.heap.size, 1, none⟩) (Nat.lt_succ_self _)).trans (World.cell?_alloc_new w _ _ 1)
  have c2 : w1.cell? ⟨w.heap.size, 2, none⟩ = some (.slice none 0 0) := (hb1.cell (p := ⟨w.heap.size, 2, none⟩) (Nat.lt_succ_self _)).trans (World.cell?_alloc_new w _ _ 2)
  have f0 : ∀ i, w1.frozen? ⟨w.heap.size, i, none⟩ = false := fun i => (hb1.frozen (p := ⟨w.heap.size, i, none⟩) (Nat.lt_succ_self _)).trans (World.frozen?_alloc_new w _ _ i)
  have hbw : Below w.heap.size w w1 := ((Below.refl w.heap.size w).alloc (Nat.le_refl _) _).trans (hb1.mono (Nat.le_succ _))
  clear hb1
  go_wp2_with fail
  refine (l20Machine_any _ _ a1 len1 cap1 0 _ w1 hR (by omega) (by omega) (by omega)).mono ?_
  rintro e w2 ⟨st, xs, bs, nv, ev, rfl, h0, h1, h2, h3, -, hK, hA⟩
  obtain ⟨a3, c3, rfl⟩ := ownsRow_sliceD hA.head
  obtain ⟨a4, c4, rfl⟩ := ownsRow_sliceD hA.tail.head
  have hne : (w.heap.size : Nat) ≠ w.heap.size + 1 := by omega
  have d0 := (hK.cell (p := ⟨w.heap.size, 0, none⟩) (by show w.heap.size < _; omega) (by show w.heap.size ≠ _; omega)).trans c0
  have d1 := (hK.cell (p := ⟨w.heap.size, 1, none⟩) (by show w.heap.size < _; omega) (by show w.heap.size ≠ _; omega)).trans c1
  have d2 := (hK.cell (p := ⟨w.heap.size, 2, none⟩) (by show w.heap.size < _; omega) (by show w.heap.size ≠ _; omega)).trans c2
  have g0 := (hK.frozen (p := ⟨w.heap.size, 0, none⟩) (by show w.heap.size < _; omega) (by show w.heap.size ≠ _; omega)).trans (f0 0)
  have g1 := (hK.frozen (p := ⟨w.heap.size, 1, none⟩) (by show w.heap.size < _; omega) (by show w.heap.size ≠ _; omega)).trans (f0 1)
  have g2 := (hK.frozen (p := ⟨w.heap.size, 2, none⟩) (by show w.heap.size < _; omega) (by show w.heap.size ≠ _; omega)).trans (f0 2)
  have hbw2 : Below w.heap.size w w2 := hbw.trans (hK.below (by omega) (by omega))
  clear c0 c1 c2 f0 hbw hK hR
  have FIN : ∀ W, W = ((w2.setCell ⟨w.heap.size, 0, none⟩ (.int .i64 st)).setCell ⟨w.heap.size, 1, none⟩ (.slice a3 xs.length c3)).setCell ⟨w.heap.size, 2, none⟩ (.slice a4 bs.length c4) →
      Drawn2 ⟨st, xs, bs⟩ (.slice a3 xs.length c3) (.slice a4 bs.length c4) W ∧ Below w.heap.size w W ∧ W.cell? ⟨w.heap.size, 0, none⟩ = some (.int .i64 st) ∧ W.cell? ⟨w.heap.size, 1, none⟩ = some (.slice a3 xs.length c3) ∧ W.cell? ⟨w.heap.size, 2, none⟩ = some (.slice a4 bs.length c4) := by
    rintro W rfl
    have hr : ∀ k, some w.heap.size = some k → k < w1.heap.size := fun k e => by cases e; omega
    refine ⟨apart_drawn (((hA.other (grown_setCell _ _ _ _) hr).other (grown_setCell _ _ _ _) hr).other (grown_setCell _ _ _ _) hr) h0 h1 h2 h3, ((hbw2.setCell (p := ⟨w.heap.size, 0, none⟩) (Nat.le_refl _) _).setCell (p := ⟨w.heap.size, 1, none⟩) (Nat.le_refl _) _).setCell (p := ⟨w.heap.size, 2, none⟩) (Nat.le_refl _) _, by go_simp, by go_simp, by go_simp⟩
  have FI := Lib.hid FIN
  clear FIN hA hbw2
  go_wp2
  obtain ⟨r1, r2, r3, r4, r5⟩ := FI.out _ rfl
  refine bodyPost_ret (v := .agg #[.int .i64 st, .slice a3 xs.length c3, .slice a4 bs.length c4]) ?_ rfl ⟨⟨st, xs, bs⟩, _, _, rfl, r1, r2⟩
  simp [results, Try.results49, go_sem, r3, r4, r5]

set_option maxHeartbeats 800000 in
theorem drawShortestTaken_any (a : Option Addr) (len cap : Nat) (zs : List Int) (w : World) (h : IsRow .u8 w a len cap zs) :
    Calls Try.prog 50 #[.slice a len cap] w (MachRes w) := by
  have H0 := h.below ((Below.refl w.heap.size w).alloc (Nat.le_refl _) (.cells #[.int .i64 0, .slice none 0 0, .slice none 0 0] 27))
  have HO := Lib.hid (l20Open_any a len cap zs _ H0)
  clear H0 h
  go_enter Try.func50, Try.ntmps50
  go_wp2_with fail
  refine HO.out.mono ?_
  clear HO
  rintro e w1 ⟨a1, len1, cap1, rfl, hR, hb1⟩
  simp only [World.size_alloc] at hR hb1
  have hRR := hR.hR
  have c0 : w1.cell? ⟨w.heap.size, 0, none⟩ = some (.int .i64 0) := (hb1.cell (p := ⟨w.heap.size, 0, none⟩) (Nat.lt_succ_self _)).trans (World.cell?_alloc_new w _ _ 0)
  have c1 : w1.cell? ⟨w.heap.size, 1, none⟩ = some (.slice none 0 0) := (hb1.cell (p := ⟨w.heap.size, 1, none⟩) (Nat.lt_succ_self _)).trans (World.cell?_alloc_new w _ _ 1)
  have c2 : w1.cell? ⟨w.heap.size, 2, none⟩ = some (.slice none 0 0) := (hb1.cell (p := ⟨w.heap.size, 2, none⟩) (Nat.lt_succ_self _)).trans (World.cell?_alloc_new w _ _ 2)
  have f0 : ∀ i, w1.frozen? ⟨w.heap.size, i, none⟩ = false := fun i => (hb1.frozen (p := ⟨w.heap.size, i, none⟩) (Nat.lt_succ_self _)).trans (World.frozen?_alloc_new w _ _ i)
  have hbw : Below w.heap.size w w1 := ((Below.refl w.heap.size w).alloc (Nat.le_refl _) _).trans (hb1.mono (Nat.le_succ _))
  clear hb1
  go_wp2_with fail
  refine (l20Machine_any _ _ a1 len1 cap1 0 _ w1 hR (by omega) (by omega) (by omega)).mono ?_
  rintro e w2 ⟨st, xs, bs, nv, ev, rfl, h0, h1, h2, h3, -, hK, hA⟩
  obtain ⟨a3, c3, rfl⟩ := ownsRow_sliceD hA.head
  obtain ⟨a4, c4, rfl⟩ := ownsRow_sliceD hA.tail.head
  have hne : (w.heap.size : Nat) ≠ w.heap.size + 1 := by omega
  have d0 := (hK.cell (p := ⟨w.heap.size, 0, none⟩) (by show w.heap.size < _; omega) (by show w.heap.size ≠ _; omega)).trans c0
  have d1 := (hK.cell (p := ⟨w.heap.size, 1, none⟩) (by show w.heap.size < _; omega) (by show w.heap.size ≠ _; omega)).trans c1
  have d2 := (hK.cell (p := ⟨w.heap.size, 2, none⟩) (by show w.heap.size < _; omega) (by show w.heap.size ≠ _; omega)).trans c2
  have g0 := (hK.frozen (p := ⟨w.heap.size, 0, none⟩) (by show w.heap.size < _; omega) (by show w.heap.size ≠ _; omega)).trans (f0 0)
  have g1 := (hK.frozen (p := ⟨w.heap.size, 1, none⟩) (by show w.heap.size < _; omega) (by show w.heap.size ≠ _; omega)).trans (f0 1)
  have g2 := (hK.frozen (p := ⟨w.heap.size, 2, none⟩) (by show w.heap.size < _; omega) (by show w.heap.size ≠ _; omega)).trans (f0 2)
  have hbw2 : Below w.heap.size w w2 := hbw.trans (hK.below (by omega) (by omega))
  clear c0 c1 c2 f0 hbw hK hR
  have FIN : ∀ W, W = ((w2.setCell ⟨w.heap.size, 0, none⟩ (.int .i64 st)).setCell ⟨w.heap.size, 1, none⟩ (.slice a3 xs.length c3)).setCell ⟨w.heap.size, 2, none⟩ (.slice a4 bs.length c4) →
      Drawn2 ⟨st, xs, bs⟩ (.slice a3 xs.length c3) (.slice a4 bs.length c4) W ∧ Below w.heap.size w W ∧ W.cell? ⟨w.heap.size, 0, none⟩ = some (.int .i64 st) ∧ W.cell? ⟨w.heap.size, 1, none⟩ = some (.slice a3 xs.length c3) ∧ W.cell? ⟨w.heap.size, 2, none⟩ = some (.slice a4 bs.length c4) := by
    rintro W rfl
    have hr : ∀ k, some w.heap.size = some k → k < w1.heap.size := fun k e => by cases e; omega
    refine ⟨apart_drawn (((hA.other (grown_setCell _ _ _ _) hr).other (grown_setCell _ _ _ _) hr).other (grown_setCell _ _ _ _) hr) h0 h1 h2 h3, ((hbw2.setCell (p := ⟨w.heap.size, 0, none⟩) (Nat.le_refl _) _).setCell (p := ⟨w.heap.size, 1, none⟩) (Nat.le_refl _) _).setCell (p := ⟨w.heap.size, 2, none⟩) (Nat.le_refl _) _, by go_simp, by go_simp, by go_simp⟩
  have FI := Lib.hid FIN
  clear FIN hA hbw2
  go_wp2
  obtain ⟨r1, r2, r3, r4, r5⟩ := FI.out _ rfl
  refine bodyPost_ret (v := .agg #[.int .i64 st, .slice a3 xs.length c3, .slice a4 bs.length c4]) ?_ rfl ⟨⟨st, xs, bs⟩, _, _, rfl, r1, r2⟩
  simp [results, Try.results50, go_sem, r3, r4, r5]
end Go.Proofs.Ytdgpemjbaciiaaa
