/- Machines as plain data, and how they lie in memory. No program, no condition. -/
import Derived.Test.YtlbblfbiiceofaaReads
namespace Go.Proofs.Ytlbblfbiiceofaa
open Go.RowKit

/-- a machine as plain data -/
structure M where
  st : Int
  next : List Int
  ends : List Bool
deriving DecidableEq
/-- a number of a next state -/
def nextOk (st x : Int) : Bool := decide (-1 ≤ x) && decide (x ≤ st - 1)
/-- the outer part of MachineOk -/
def M.shape (m : M) : Bool := decide (1 ≤ m.st) && decide (m.st ≤ 48) && decide ((m.next.length : Int) = 3 * m.st) && decide ((m.ends.length : Int) = m.st)
/-- MachineOk -/
def M.ok (m : M) : Bool := m.shape && m.next.all (nextOk m.st)
theorem M.shape_iff {m : M} : m.shape = true ↔ 1 ≤ m.st ∧ m.st ≤ 48 ∧ (m.next.length : Int) = 3 * m.st ∧ (m.ends.length : Int) = m.st := by
  simp only [M.shape, Bool.and_eq_true, decide_eq_true_eq, and_assoc]
/-- a value that reads as a machine -/
def IsMach (w : World) (v : Value) (m : M) : Prop := ∃ nv ev, v = .agg #[.int .i64 m.st, nv, ev] ∧ IsInts w nv m.next ∧ IsBools w ev m.ends
theorem IsMach.below {w w' : World} {v : Value} {m : M} (h : IsMach w v m) (hb : Below w.heap.size w w') : IsMach w' v m := by
  obtain ⟨nv, ev, hv, h1, h2⟩ := h
  exact ⟨nv, ev, hv, h1.below hb, h2.below hb⟩
theorem all_take_step (xs : List Int) (st : Int) (k : Nat) (h : k < xs.length) : (xs.take (k + 1)).all (nextOk st) = ((xs.take k).all (nextOk st) && nextOk st xs[k]) := by
  rw [List.take_succ_eq_append_getElem h, List.all_append, List.all_cons, List.all_nil, Bool.and_true]
theorem all_false_at (xs : List Int) (st : Int) (k : Nat) (h : k < xs.length) (hf : nextOk st xs[k] = false) : xs.all (nextOk st) = false := by
  rw [List.all_eq_false]; exact ⟨xs[k], List.getElem_mem h, by simp [hf]⟩

theorem IsInts.slice {w : World} {v : Value} {xs : List Int} (h : IsInts w v xs) : ∃ a n c, v = .slice a n c := by
  obtain ⟨a, cap, rfl, _⟩ := h
  exact ⟨_, _, _, rfl⟩
theorem IsBools.slice {w : World} {v : Value} {xs : List Bool} (h : IsBools w v xs) : ∃ a n c, v = .slice a n c := by
  obtain ⟨a, cap, rfl, _⟩ := h
  exact ⟨_, _, _, rfl⟩
/-- a block that holds a machine that came in -/
structure MachBox (B : Nat) (st : Int) (nv : Value) (xs : List Int) (ev : Value) (bs : List Bool) (w : World) : Prop where
  hB : B < w.heap.size
  c0 : w.cell? ⟨B, 0, none⟩ = some (.int .i64 st)
  c1 : w.cell? ⟨B, 1, none⟩ = some nv
  c2 : w.cell? ⟨B, 2, none⟩ = some ev
  ints : IsInts w nv xs
  bools : IsBools w ev bs
theorem MachBox.below {B : Nat} {st : Int} {nv : Value} {xs : List Int} {ev : Value} {bs : List Bool} {w w' : World} (h : MachBox B st nv xs ev bs w) (hb : Below w.heap.size w w') : MachBox B st nv xs ev bs w' :=
  ⟨Nat.lt_of_lt_of_le h.hB hb.size, (hb.cell (p := ⟨B, 0, none⟩) h.hB).trans h.c0, (hb.cell (p := ⟨B, 1, none⟩) h.hB).trans h.c1, (hb.cell (p := ⟨B, 2, none⟩) h.hB).trans h.c2, h.ints.below hb, h.bools.below hb⟩
theorem MachBox.new {st : Int} {nv : Value} {xs : List Int} {ev : Value} {bs : List Bool} {w : World} (t : TypeId) (h1 : IsInts w nv xs) (h2 : IsBools w ev bs) : MachBox w.heap.size st nv xs ev bs (w.alloc (.cells #[.int .i64 st, nv, ev] t)) :=
  ⟨by simp, World.cell?_alloc_new w _ _ 0, World.cell?_alloc_new w _ _ 1, World.cell?_alloc_new w _ _ 2, h1.below ((Below.refl _ _).alloc (Nat.le_refl _) _), h2.below ((Below.refl _ _).alloc (Nat.le_refl _) _)⟩
end Go.Proofs.Ytlbblfbiiceofaa
