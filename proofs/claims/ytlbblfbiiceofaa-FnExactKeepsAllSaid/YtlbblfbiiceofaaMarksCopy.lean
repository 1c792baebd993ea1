/- The laws' copies of slices of marks: fresh, and equal. No condition. -/
import Derived.Test.YtlbblfbiiceofaaReadsM
import Derived.Outline
import Derived.WalkSmall
namespace Go.Proofs.Ytlbblfbiiceofaa
open Go.RowKit

theorem infoMarkC : (Try.prog.info? 81).map (fun i => (i.zero, i.size, i.bytes)) = some (some (.agg #[.int .i64 0, .int .i64 0, .string ⟨#[]⟩, .string ⟨#[]⟩, .int .i64 0]), 5, 56) := by kernel_rfl
def Mk.zero : Mk := ⟨0, Ru.void⟩

theorem set5_append (a l : List Value) (j : Nat) (x : Value) : (a ++ l).set (a.length + j) x = a ++ l.set j x := by
  rw [List.set_append_right _ _ (by omega)]; congr 1; congr 1; omega
theorem cellsM_set (ms : List Mk) : ∀ (k : Nat) (_ : k < ms.length) (m : Mk), (((((cellsM ms).set (k * 5) (.int .i64 m.kind)).set (k * 5 + 1) (.int .i64 m.its.kind)).set (k * 5 + 2) (.string m.its.letter)).set (k * 5 + 3) (.string m.its.thn)).set (k * 5 + 4) (.int .i64 m.its.many) = cellsM (ms.set k m) := by
  induction ms with
  | nil => intro k h; exact absurd h (Nat.not_lt_zero k)
  | cons x ms ih =>
    intro k h m
    match k, h with
    | 0, _ => simp [cellsM, Mk.cells]
    | k + 1, h =>
      have hl : x.cells.length = 5 := rfl
      have e : ∀ j, (k + 1) * 5 + j = x.cells.length + (k * 5 + j) := fun j => by rw [hl]; omega
      have e0 : (k + 1) * 5 = x.cells.length + k * 5 := by rw [hl]; omega
      simp only [cellsM, List.set_cons_succ]
      rw [e, e, e, e, e0, set5_append, set5_append, set5_append, set5_append, set5_append, ih k (by simpa using h) m]
/-- marks of which the first k are copied -/
def cpM (ms : List Mk) (k : Nat) : List Mk := ms.take k ++ List.replicate (ms.length - k) Mk.zero
theorem cpM_length (ms : List Mk) (k : Nat) (h : k ≤ ms.length) : (cpM ms k).length = ms.length := by
  rw [cpM, List.length_append, List.length_take, List.length_replicate]; omega
theorem cpM_zero (ms : List Mk) : cpM ms 0 = List.replicate ms.length Mk.zero := by simp [cpM]
theorem cpM_all (ms : List Mk) : cpM ms ms.length = ms := by simp [cpM]
theorem cpM_step (ms : List Mk) (k : Nat) (h : k < ms.length) : (cpM ms k).set k ms[k] = cpM ms (k + 1) := by
  have e : ms.length - k = (ms.length - (k + 1)) + 1 := by omega
  have hl : (ms.take k).length = k := by rw [List.length_take]; omega
  rw [cpM, cpM, List.set_append_right _ _ (by rw [hl]; exact Nat.le_refl _), hl, Nat.sub_self, e, List.replicate_succ, List.set_cons_zero, List.take_succ_eq_append_getElem h, List.append_assoc]
  rfl
theorem cellsM_zero (n : Nat) : (madeCells #[.int .i64 0, .int .i64 0, .string ⟨#[]⟩, .string ⟨#[]⟩, .int .i64 0] (n * 5)).toList = cellsM (List.replicate n Mk.zero) := by
  apply List.ext_getElem?
  intro i
  by_cases hi : i < n * 5
  · obtain ⟨k, j, hk, hj, rfl⟩ : ∃ k j, k < n ∧ j < 5 ∧ i = k * 5 + j := ⟨i / 5, i % 5, by omega, by omega, by omega⟩
    rw [cellsM_at _ k (by simpa using hk) j hj]
    simp only [List.getElem_replicate]
    have hm : (k * 5 + j) % 5 = j := by omega
    have : j = 0 ∨ j = 1 ∨ j = 2 ∨ j = 3 ∨ j = 4 := by omega
    rcases this with rfl | rfl | rfl | rfl | rfl <;> simp [madeCells, hi, hk, hm, Mk.cells, Mk.zero, Ru.void] <;> omega
  · rw [List.getElem?_eq_none (by simp [madeCells]; omega), List.getElem?_eq_none (by rw [cellsM_length, List.length_replicate]; omega)]

theorem toRuleM_any (kind : Int) (letter thn : ByteArray) (many : Int) (w : World) :
    Calls Try.prog 94 #[.agg #[.int .i64 kind, .string letter, .string thn, .int .i64 many]] w
      fun e w' => e = .returned (.agg #[.int .i64 kind, .string letter, .string thn, .int .i64 many]) ∧ Below w.heap.size w w' := by
  go_enter Try.func94, Try.ntmps94
  go_wp2_with fail
  refine bodyPost_ret (v := .agg #[.int .i64 kind, .string letter, .string thn, .int .i64 many]) ?_ rfl ⟨rfl, (((Below.refl _ _).alloc (Nat.le_refl _) _).alloc (by simp) _).alloc (by simp; omega) _⟩
  simp [results, Try.results94, go_sem]
/-- three boxes behind a call -/
theorem three_boxes {w w1 : World} {cs0 cs1 cs2 : Array Value} {t0 t1 t2 : TypeId} (hb : Below (((w.alloc (.cells cs0 t0)).alloc (.cells cs1 t1)).alloc (.cells cs2 t2)).heap.size (((w.alloc (.cells cs0 t0)).alloc (.cells cs1 t1)).alloc (.cells cs2 t2)) w1) :
    (∀ i, w1.cell? ⟨w.heap.size + 1, i, none⟩ = cs1[i]?) ∧ (∀ i, w1.frozen? ⟨w.heap.size + 1, i, none⟩ = false) ∧ (∀ i, w1.cell? ⟨w.heap.size + 1 + 1, i, none⟩ = cs2[i]?) ∧ (∀ i, w1.frozen? ⟨w.heap.size + 1 + 1, i, none⟩ = false) ∧ Below w.heap.size w w1 ∧ w.heap.size + 3 ≤ w1.heap.size := by
  have e1 : (w.alloc (.cells cs0 t0)).heap.size = w.heap.size + 1 := by simp
  have e2 : ((w.alloc (.cells cs0 t0)).alloc (.cells cs1 t1)).heap.size = w.heap.size + 1 + 1 := by simp
  have hs : (((w.alloc (.cells cs0 t0)).alloc (.cells cs1 t1)).alloc (.cells cs2 t2)).heap.size = w.heap.size + 1 + 1 + 1 := by simp
  rw [hs] at hb
  have hal : Below (w.heap.size + 1 + 1) ((w.alloc (.cells cs0 t0)).alloc (.cells cs1 t1)) (((w.alloc (.cells cs0 t0)).alloc (.cells cs1 t1)).alloc (.cells cs2 t2)) := (Below.refl _ _).alloc (by rw [e2]; exact Nat.le_refl _) _
  refine ⟨fun i => ?_, fun i => ?_, fun i => ?_, fun i => ?_, ?_, by have := hb.size; omega⟩
  · rw [hb.cell (p := ⟨w.heap.size + 1, i, none⟩) (by show w.heap.size + 1 < _; omega), hal.cell (p := ⟨w.heap.size + 1, i, none⟩) (by show w.heap.size + 1 < _; omega)]
    have := World.cell?_alloc_new (w.alloc (.cells cs0 t0)) cs1 t1 i
    rwa [e1] at this
  · rw [hb.frozen (p := ⟨w.heap.size + 1, i, none⟩) (by show w.heap.size + 1 < _; omega), hal.frozen (p := ⟨w.heap.size + 1, i, none⟩) (by show w.heap.size + 1 < _; omega)]
    have := World.frozen?_alloc_new (w.alloc (.cells cs0 t0)) cs1 t1 i
    rwa [e1] at this
  · rw [hb.cell (p := ⟨w.heap.size + 1 + 1, i, none⟩) (by show w.heap.size + 1 + 1 < _; omega)]
    have := World.cell?_alloc_new ((w.alloc (.cells cs0 t0)).alloc (.cells cs1 t1)) cs2 t2 i
    rwa [e2] at this
  · rw [hb.frozen (p := ⟨w.heap.size + 1 + 1, i, none⟩) (by show w.heap.size + 1 + 1 < _; omega)]
    have := World.frozen?_alloc_new ((w.alloc (.cells cs0 t0)).alloc (.cells cs1 t1)) cs2 t2 i
    rwa [e2] at this
  · exact ((((Below.refl w.heap.size w).alloc (Nat.le_refl _) _).alloc (by rw [e1]; omega) _).alloc (by rw [e2]; omega) _).trans (hb.mono (by omega))
theorem toMark_any (m : Mk) (w : World) : Calls Try.prog 75 #[m.val] w fun e w' => e = .returned m.val ∧ Below w.heap.size w w' := by
  obtain ⟨k, a, b, c, d⟩ := m
  show Calls Try.prog _ #[.agg #[.int .i64 k, .int .i64 a, .string b, .string c, .int .i64 d]] w fun e w' => e = .returned (.agg #[.int .i64 k, .int .i64 a, .string b, .string c, .int .i64 d]) ∧ Below w.heap.size w w'
  go_enter Try.func75, Try.ntmps75
  go_wp2_with fail
  refine (toRuleM_any a b c d _).mono ?_
  rintro e w2 ⟨rfl, hb2⟩
  obtain ⟨x1, g1, x2, g2, hbel, -⟩ := three_boxes hb2
  have HB := Lib.hid hbel
  clear hbel hb2
  have y0 := x1 0
  have y1 := x1 1
  have y2 := x1 2
  have y3 := x1 3
  have y4 := x1 4
  have z0 := x2 0
  have z1 := x2 1
  have z2 := x2 2
  have z3 := x2 3
  have z4 := x2 4
  have fy0 := g1 0
  have fy1 := g1 1
  have fy2 := g1 2
  have fy3 := g1 3
  have fy4 := g1 4
  have fz0 := g2 0
  have fz1 := g2 1
  have fz2 := g2 2
  have fz3 := g2 3
  have fz4 := g2 4
  clear x1 g1 x2 g2
  simp only [List.getElem?_toArray, List.getElem?_cons_zero, List.getElem?_cons_succ] at y0 y1 y2 y3 y4 z0 z1 z2 z3 z4
  go_wp2_with fail
  refine bodyPost_ret (v := .agg #[.int .i64 k, .int .i64 a, .string b, .string c, .int .i64 d]) ?_ rfl ⟨rfl, ?_⟩
  · simp [results, Try.results75, go_sem, y0, y1, y2, y3, y4]
  · exact ((((((((HB.out.setCell (Nat.le_succ_of_le (Nat.le_succ _)) _).setCell (Nat.le_succ_of_le (Nat.le_succ _)) _).setCell (Nat.le_succ_of_le (Nat.le_succ _)) _).setCell (Nat.le_succ_of_le (Nat.le_succ _)) _).setCell (Nat.le_succ _) _).setCell (Nat.le_succ _) _).setCell (Nat.le_succ _) _).setCell (Nat.le_succ _) _).setCell (Nat.le_succ _) _
/-- a fresh slice that holds marks -/
def MarksPost (ms : List Mk) (w : World) (e : Ending) (w' : World) : Prop :=
  ∃ v, e = .returned v ∧ w'.ownsRow w.heap.size 81 5 v ms.length (cellsM ms) ∧ Below w.heap.size w w'

set_option maxHeartbeats 1600000 in
theorem toMarkS_any (v : Value) (ms : List Mk) (w : World) (h : IsMarks w v ms) (hx : ms.length ≤ 1048576) :
    Calls Try.prog 48 #[v] w (MarksPost ms w) := by
  obtain ⟨i0, hi, hz0, hz1, hz2⟩ := info_parts infoMarkC
  have hsz : i0.bytes * ms.length ≤ 281474976710656 := by rw [hz2]; omega
  have HI := Lib.hid hi
  have HZ0 := Lib.hid hz0
  have HZ1 := Lib.hid hz1
  have HSZ := Lib.hid hsz
  clear hi hz0 hz1 hz2 hsz
  obtain ⟨a, cap, rfl, ha1, ha2, ha⟩ := h
  have HA := Lib.hid ha
  unfold maxLen at ha2
  clear ha
  go_enter Try.func48, Try.ntmps48
  go_wp2_with (at_make; refine wpList_make_full _ rfl _ _ 41 rfl w.heap.size 81 i0 (.agg #[.int .i64 0, .int .i64 0, .string ⟨#[]⟩, .string ⟨#[]⟩, .int .i64 0]) 5 Try.underlying41 HI.out HZ0.out HZ1.out .i64 .i64 _ _ ms.length rfl rfl rfl rfl HSZ.out (by unfold maxLen; omega) (Nat.le_refl _) ?_; intro w1 hown1 hgrow1)
  have hown0 : w1.ownsRow w.heap.size 81 5 (.slice (some ⟨w.heap.size, 0, none⟩) ms.length ms.length) ms.length (cellsM (cpM ms 0)) := by
    have e : (madeCells (Value.agg #[.int .i64 0, .int .i64 0, .string ⟨#[]⟩, .string ⟨#[]⟩, .int .i64 0]).cells (ms.length * 5)).toList = cellsM (cpM ms 0) := by
      rw [cpM_zero]
      exact cellsM_zero _
    rw [← e]; exact hown1
  have HOWN := Lib.hid hown0
  have hbel1 : Below w.heap.size w w1 := (Below.refl _ _).grown hgrow1 (Nat.le_refl _) (fun k e => by cases e)
  clear hown0 hown1 hgrow1
  go_loopw [4] (fun i wr => ∃ k : Nat, k ≤ ms.length ∧ i = .int .i64 k ∧ wr.ownsRow w.heap.size 81 5 (.slice (some ⟨w.heap.size, 0, none⟩) ms.length ms.length) ms.length (cellsM (cpM ms k)) ∧ Below w.heap.size w wr) (fun i _ => ms.length - (intOf i).toNat)
  case atStart => exact ⟨0, Nat.zero_le _, rfl, HOWN.out, hbel1⟩
  case round =>
    obtain ⟨k, hk, rfl, hown, hbel⟩ := hrel
    by_cases hlt : k < ms.length
    · obtain ⟨g, off, rfl, hg, hc⟩ := HA.out.resolve_left (fun h => by rw [h] at hlt; exact absurd hlt (Nat.not_lt_zero k))
      obtain ⟨c0, c1, c2, c3, c4⟩ := (hc k hlt).below hbel hg
      have HO := Lib.hid hown
      have HB := Lib.hid hbel
      have hsz := hbel.size
      have hml := cpM_length ms k hk
      obtain ⟨mz, hcc⟩ : ∃ mz : Mk, ∀ j, j < 5 → wr.cell? ⟨w.heap.size, k * 5 + j, none⟩ = mz.cells[j]? := ⟨(cpM ms k)[k]'(by omega), fun j hj => (hown.cellAt (k * 5 + j) (by omega)).trans (cellsM_at (cpM ms k) k (by omega) j hj)⟩
      have HCC := Lib.hid hcc
      have hstep : ∀ W : World, W.ownsRow w.heap.size 81 5 (.slice (some ⟨w.heap.size, 0, none⟩) ms.length ms.length) ms.length (cellsM (cpM ms k)) →
          (((((W.setCell ⟨w.heap.size, k * 5, none⟩ (.int .i64 ms[k].kind)).setCell ⟨w.heap.size, k * 5 + 1, none⟩ (.int .i64 ms[k].its.kind)).setCell ⟨w.heap.size, k * 5 + 2, none⟩ (.string ms[k].its.letter)).setCell ⟨w.heap.size, k * 5 + 3, none⟩ (.string ms[k].its.thn)).setCell ⟨w.heap.size, k * 5 + 4, none⟩ (.int .i64 ms[k].its.many)).ownsRow w.heap.size 81 5 (.slice (some ⟨w.heap.size, 0, none⟩) ms.length ms.length) ms.length (cellsM (cpM ms (k + 1))) := fun W h => by
        have s0 := (h.stored (k * 5) (.int .i64 ms[k].kind)).1
        have s1 := (s0.stored (k * 5 + 1) (.int .i64 ms[k].its.kind)).1
        have s2 := (s1.stored (k * 5 + 2) (.string ms[k].its.letter)).1
        have s3 := (s2.stored (k * 5 + 3) (.string ms[k].its.thn)).1
        have s4 := (s3.stored (k * 5 + 4) (.int .i64 ms[k].its.many)).1
        rwa [cellsM_set _ k (by omega) ms[k], cpM_step ms k hlt] at s4
      have HSTEP := Lib.hid hstep
      clear hown hbel hc hstep hml hcc
      generalize ms[k] = m at *
      have htm := fun W => toMark_any m W
      obtain ⟨k1, r1, l1, t1, n1⟩ := m
      obtain ⟨kz, rz, lz, tz, nz⟩ := mz
      have HTM : Hid (∀ W, Calls Try.prog 75 #[.agg #[.int .i64 k1, .int .i64 r1, .string l1, .string t1, .int .i64 n1]] W fun e w' => e = .returned (.agg #[.int .i64 k1, .int .i64 r1, .string l1, .string t1, .int .i64 n1]) ∧ Below W.heap.size W w') := Lib.hid htm
      clear htm
      simp only at c0 c1 c2 c3 c4
      go_wp2_with fail
      refine (HTM.out _).mono ?_
      rintro e w2 ⟨rfl, hb2⟩
      have hown2 := HO.out.kept (w' := w2) (row := none) ⟨hb2.os, hb2.tape, hb2.output, hb2.size, fun j hj _ => hb2.block j hj⟩ (.inr (by simp [Value.ownBlock]))
      have HFIN := Lib.hid (HSTEP.out _ hown2)
      have HB2 := Lib.hid (HB.out.trans (hb2.mono hsz))
      have hsl := HO.out.lt w.heap.size rfl
      have dst : ∀ j, j < 5 → w2.cell? ⟨w.heap.size, k * 5 + j, none⟩ = (Mk.mk kz ⟨rz, lz, tz, nz⟩).cells[j]? := fun j hj => (hb2.cell (p := ⟨w.heap.size, k * 5 + j, none⟩) hsl.2).trans (HCC.out j hj)
      have d0 := dst 0 (by omega)
      have d1 := dst 1 (by omega)
      have d2 := dst 2 (by omega)
      have d3 := dst 3 (by omega)
      have d4 := dst 4 (by omega)
      simp only [Mk.cells, List.getElem?_cons_zero, List.getElem?_cons_succ, Nat.add_zero] at d0 d1 d2 d3 d4
      have f0 := hown2.frozenAt (k * 5)
      have f1 := hown2.frozenAt (k * 5 + 1)
      have f2 := hown2.frozenAt (k * 5 + 2)
      have f3 := hown2.frozenAt (k * 5 + 3)
      have f4 := hown2.frozenAt (k * 5 + 4)
      clear hown2 hb2 dst
      go_wp2_with fail
      go_roundw
      case rel => exact ⟨k + 1, by omega, by go_num, HFIN.out, ((((HB2.out.setCell (Nat.le_refl _) _).setCell (Nat.le_refl _) _).setCell (Nat.le_refl _) _).setCell (Nat.le_refl _) _).setCell (Nat.le_refl _) _⟩
      case measure => simp [intOf]; omega
    · obtain rfl : k = ms.length := by omega
      have HC := Lib.hid (cpM_all ms)
      go_wp2
      go_ret
      refine ⟨_, rfl, ?_, hbel⟩
      rw [HC.out] at hown
      exact hown
end Go.Proofs.Ytlbblfbiiceofaa
