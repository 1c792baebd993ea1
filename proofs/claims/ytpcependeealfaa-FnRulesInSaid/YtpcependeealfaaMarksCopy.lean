/- The laws' copies of slices of marks: fresh, and equal. No condition. -/
import Derived.Test.YtpcependeealfaaReadsM
import Derived.Outline
import Derived.WalkSmall
namespace Go.Proofs.Ytpcependeealfaa
open Go.RowKit

theorem infoMarkC : (Try.prog.info? 42).map (fun i => (i.zero, i.size, i.bytes)) = some (some (.agg #[.int .i64 0, .int .i64 0, .string ⟨#[]⟩, .string ⟨#[]⟩, .int .i64 0]), 5, 56) := by kernel_rfl
def Mk.zero : Mk := ⟨0, Ru.void⟩

theorem set5_append (a l : List Value) (j : Nat) (x : Value) : (a ++ l).set (a.length + j) x = a ++ l.set j x := by
  rw [List.set_append_right _ _ (by omega)]; congr 1; congr 1; omega
theorem cellsM_set (ms : List Mk) : ∀ (k : Nat) (_ : k < ms.length) (m : Mk), (((((cellsM ms).set (k * 5) (.int .i64 m.kind)).set (k * 5 + 1) (.int .i64 m.its.kind)).set (k * 5 + 2) (.string m.its.letter)).set (k * 5 + 3) (.string m.its.thn)).set (k * 5 + 4) (.int .i64 m.its.many) = cellsM (ms.set k m) := by
  induction ms with
  | nil => intro k h; exact absurd h (Nat.not_lt_zero k)
  | cons x ms ih =>
    intro k h m
    match k, h with
    | 0, _ => simp [cellsM, Mk.cells]
    | k + 1, h =>
      have hl : x.cells.length = 5 := rfl
      have e : ∀ j, (k + 1) * 5 + j = x.cells.length + (k * 5 + j) := fun j => by rw [hl]; omega
      have e0 : (k + 1) * 5 = x.cells.length + k * 5 := by rw [hl]; omega
      simp only [cellsM, List.set_cons_succ]
      rw [e, e, e, e, e0, set5_append, set5_append, set5_append, set5_append, set5_append, ih k (by simpa using h) m]
/-- marks of which the first k are copied -/
def cpM (ms : List Mk) (k : Nat) : List Mk := ms.take k ++ List.replicate (ms.length - k) Mk.zero
theorem cpM_length (ms : List Mk) (k : Nat) (h : k ≤ ms.length) : (cpM ms k).length = ms.length := by
  rw [cpM, List.length_append, List.length_take, List.length_replicate]; omega
theorem cpM_zero (ms : List Mk) : cpM ms 0 = List.replicate ms.length Mk.zero := by simp [cpM]
theorem cpM_all (ms : List Mk) : cpM ms ms.length = ms := by simp [cpM]
theorem cpM_step (ms : List Mk) (k : Nat) (h : k < ms.length) : (cpM ms k).set k ms[k] = cpM ms (k + 1) := by
  have e : ms.length - k = (ms.length - (k + 1)) + 1 := by omega
  have hl : (ms.take k).length = k := by rw [List.length_take]; omega
  rw [cpM, cpM, List.set_append_right _ _ (by rw [hl]; exact Nat.le_refl _), hl, Nat.sub_self, e, List.replicate_succ, List.set_cons_zero, List.take_succ_eq_append_getElem h, List.append_assoc]
  rfl
theorem cellsM_zero (n : Nat) : (madeCells #[.int .i64 0, .int .i64 0, .string ⟨#[]⟩, .string ⟨#[]⟩, .int .i64 0] (n * 5)).toList = cellsM (List.replicate n Mk.zero) := by
  apply List.ext_getElem?
  intro i
  by_cases hi : i < n * 5
  · obtain ⟨k, j, hk, hj, rfl⟩ : ∃ k j, k < n ∧ j < 5 ∧ i = k * 5 + j := ⟨i / 5, i % 5, by omega, by omega, by omega⟩
    rw [cellsM_at _ k (by simpa using hk) j hj]
    simp only [List.getElem_replicate]
    have hm : (k * 5 + j) % 5 = j := by omega
    have : j = 0 ∨ j = 1 ∨ j = 2 ∨ j = 3 ∨ j = 4 := by omega
    rcases this with rfl | rfl | rfl | rfl | rfl <;> simp [madeCells, hi, hk, hm, Mk.cells, Mk.zero, Ru.void] <;> omega
  · rw [List.getElem?_eq_none (by simp [madeCells]; omega), List.getElem?_eq_none (by rw [cellsM_length, List.length_replicate]; omega)]

theorem three_boxes {w w1 : World} {cs0 cs1 cs2 : Array Value} {t0 t1 t2 : TypeId} (hb : Below (((w.alloc (.cells cs0 t0)).alloc (.cells cs1 t1)).alloc (.cells cs2 t2)).heap.size (((w.alloc (.cells cs0 t0)).alloc (.cells cs1 t1)).alloc (.cells cs2 t2)) w1) :
    (∀ i, w1.cell? ⟨w.heap.size + 1, i, none⟩ = cs1[i]?) ∧ (∀ i, w1.frozen? ⟨w.heap.size + 1, i, none⟩ = false) ∧ (∀ i, w1.cell? ⟨w.heap.size + 1 + 1, i, none⟩ = cs2[i]?) ∧ (∀ i, w1.frozen? ⟨w.heap.size + 1 + 1, i, none⟩ = false) ∧ Below w.heap.size w w1 ∧ w.heap.size + 3 ≤ w1.heap.size := by
  have e1 : (w.alloc (.cells cs0 t0)).heap.size = w.heap.size + 1 := by simp
  have e2 : ((w.alloc (.cells cs0 t0)).alloc (.cells cs1 t1)).heap.size = w.heap.size + 1 + 1 := by simp
  have hs : (((w.alloc (.cells cs0 t0)).alloc (.cells cs1 t1)).alloc (.cells cs2 t2)).heap.size = w.heap.size + 1 + 1 + 1 := by simp
  rw [hs] at hb
  have hal : Below (w.heap.size + 1 + 1) ((w.alloc (.cells cs0 t0)).alloc (.cells cs1 t1)) (((w.alloc (.cells cs0 t0)).alloc (.cells cs1 t1)).alloc (.cells cs2 t2)) := (Below.refl _ _).alloc (by rw [e2]; exact Nat.le_refl _) _
  refine ⟨fun i => ?_, fun i => ?_, fun i => ?_, fun i => ?_, ?_, by have := hb.size; omega⟩
  · rw [hb.cell (p := ⟨w.heap.size + 1, i, none⟩) (by show w.heap.size + 1 < _; omega), hal.cell (p := ⟨w.heap.size + 1, i, none⟩) (by show w.heap.size + 1 < _; omega)]
    have := World.cell?_alloc_new (w.alloc (.cells cs0 t0)) cs1 t1 i
    rwa [e1] at this
  · rw [hb.frozen (p := ⟨w.heap.size + 1, i, none⟩) (by show w.heap.size + 1 < _; omega), hal.frozen (p := ⟨w.heap.size + 1, i, none⟩) (by show w.heap.size + 1 < _; omega)]
    have := World.frozen?_alloc_new (w.alloc (.cells cs0 t0)) cs1 t1 i
    rwa [e1] at this
  · rw [hb.cell (p := ⟨w.heap.size + 1 + 1, i, none⟩) (by show w.heap.size + 1 + 1 < _; omega)]
    have := World.cell?_alloc_new ((w.alloc (.cells cs0 t0)).alloc (.cells cs1 t1)) cs2 t2 i
    rwa [e2] at this
  · rw [hb.frozen (p := ⟨w.heap.size + 1 + 1, i, none⟩) (by show w.heap.size + 1 + 1 < _; omega)]
    have := World.frozen?_alloc_new ((w.alloc (.cells cs0 t0)).alloc (.cells cs1 t1)) cs2 t2 i
    rwa [e2] at this
  · exact ((((Below.refl w.heap.size w).alloc (Nat.le_refl _) _).alloc (by rw [e1]; omega) _).alloc (by rw [e2]; omega) _).trans (hb.mono (by omega))
def MarksPost (ms : List Mk) (w : World) (e : Ending) (w' : World) : Prop :=
  ∃ v, e = .returned v ∧ w'.ownsRow w.heap.size 42 5 v ms.length (cellsM ms) ∧ Below w.heap.size w w'

end Go.Proofs.Ytpcependeealfaa
