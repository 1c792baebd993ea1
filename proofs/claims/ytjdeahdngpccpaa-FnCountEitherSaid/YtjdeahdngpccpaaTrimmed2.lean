/- TrimmedMachine, the program's and the model's: the same machine. No condition. -/
import Derived.Test.YtjdeahdngpccpaaTrimmed
import Derived.Test.YtjdeahdngpccpaaOrderWalk
namespace Go.Proofs.Ytjdeahdngpccpaa
open Go.RowKit

/-- TrimmedMachine -/
def tmz (m : M) : M := if m.ok = true then tm m else ⟨0, [], []⟩

theorem fin_cells {B b : Nat} {w0 w5 : World} {ts : List Thing} {C : Nat} {x y z : Value} (hA : Apart C ts w5) (hb : Below B w0 w5) (h1 : B ≤ b) (h2 : b < C) (hc : ∀ i, i < 3 → (w5.cell? ⟨b, i, none⟩).isSome = true) (hBC : B ≤ C) :
    ∀ W, W = ((w5.setCell ⟨b, 0, none⟩ x).setCell ⟨b, 1, none⟩ y).setCell ⟨b, 2, none⟩ z → Apart B ts W ∧ Below B w0 W ∧ W.cell? ⟨b, 0, none⟩ = some x ∧ W.cell? ⟨b, 1, none⟩ = some y ∧ W.cell? ⟨b, 2, none⟩ = some z := by
  rintro W rfl
  have hr : ∀ k, some b = some k → k < C := fun k e => by cases e; exact h2
  refine ⟨(((hA.other (grown_setCell _ _ _ _) hr).other (grown_setCell _ _ _ _) hr).other (grown_setCell _ _ _ _) hr).mono hBC, ((hb.setCell (p := ⟨b, 0, none⟩) h1 _).setCell (p := ⟨b, 1, none⟩) h1 _).setCell (p := ⟨b, 2, none⟩) h1 _, ?_, ?_, ?_⟩
  · rw [World.cell?_setCell_other _ _ _ _ (by simp), World.cell?_setCell_other _ _ _ _ (by simp), World.cell?_setCell_same' _ _ _ (hc 0 (by omega))]
  · rw [World.cell?_setCell_other _ _ _ _ (by simp), World.cell?_setCell_same' _ _ _ (by rw [World.cell?_setCell_other _ _ _ _ (by simp)]; exact hc 1 (by omega))]
  · rw [World.cell?_setCell_same' _ _ _ (by rw [World.cell?_setCell_other _ _ _ _ (by simp), World.cell?_setCell_other _ _ _ _ (by simp)]; exact hc 2 (by omega))]
theorem some3 {w : World} {b : Nat} {x y z : Value} (h0 : w.cell? ⟨b, 0, none⟩ = some x) (h1 : w.cell? ⟨b, 1, none⟩ = some y) (h2 : w.cell? ⟨b, 2, none⟩ = some z) : ∀ i, i < 3 → (w.cell? ⟨b, i, none⟩).isSome = true := by
  intro i hi
  match i, hi with
  | 0, _ => rw [h0]; rfl
  | 1, _ => rw [h1]; rfl
  | 2, _ => rw [h2]; rfl
theorem apart_nils (B : Nat) (w : World) : Apart B [rowT 3 1 (.slice none 0 0) ([] : List Int).length (([] : List Int).map (Value.int .i64)), rowT 4 1 (.slice none 0 0) ([] : List Bool).length (([] : List Bool).map Value.bool)] w :=
  ((Apart.nil B w).idle (rowT 4 1 (.slice none 0 0) 0 []) (World.ownsRow_nil _ _ _ _) rfl).idle (rowT 3 1 (.slice none 0 0) 0 []) (World.ownsRow_nil _ _ _ _) rfl

set_option maxHeartbeats 1600000 in
theorem implTrimmed_any (m : M) (nv ev : Value) (w : World) (h1 : IsInts w nv m.next) (h2 : IsBools w ev m.ends) (hst : (Lit.int .i64 m.st).wf = true) :
    Calls Try.prog 21 #[.agg #[.int .i64 m.st, nv, ev]] w (MachNew (tmz m) w) := by
  have hM : MachBox w.heap.size m.st nv m.next ev m.ends (w.alloc (.cells #[.int .i64 m.st, nv, ev] 26)) := MachBox.new _ h1 h2
  have hb2 := (Below.refl _ (w.alloc (.cells #[.int .i64 m.st, nv, ev] 26))).alloc (Nat.le_refl _) (.cells #[.int .i64 0, .slice none 0 0, .slice none 0 0] 26)
  have M2 := Lib.hid (hM.below hb2)
  have q2 := Lib.hid (((Below.refl w.heap.size w).alloc (Nat.le_refl _) (.cells #[.int .i64 m.st, nv, ev] 26)).trans (hb2.mono (by simp)))
  have c0 := fun i => World.cell?_alloc_new (w.alloc (.cells #[.int .i64 m.st, nv, ev] 26)) #[.int .i64 0, .slice none 0 0, .slice none 0 0] 26 i
  have f0 := fun i => World.frozen?_alloc_new (w.alloc (.cells #[.int .i64 m.st, nv, ev] 26)) #[.int .i64 0, .slice none 0 0, .slice none 0 0] 26 i
  simp only [World.size_alloc] at c0 f0
  have hs2 : ((w.alloc (.cells #[.int .i64 m.st, nv, ev] 26)).alloc (.cells #[.int .i64 0, .slice none 0 0, .slice none 0 0] 26)).heap.size = w.heap.size + 1 + 1 := by simp
  have HS2 := Lib.hid hs2
  have HC0 := Lib.hid c0
  have HF0 := Lib.hid f0
  have y0 := M2.out.c0
  have y1 := M2.out.c1
  have y2 := M2.out.c2
  clear hs2 c0 f0 hM hb2 h1 h2
  go_enter Try.func21, Try.ntmps21
  go_wp2_with fail
  refine (implMachineOk_any m nv ev _ M2.out.ints M2.out.bools hst).mono ?_
  rintro e w3 ⟨rfl, hb3⟩
  have M3 := Lib.hid (M2.out.below hb3)
  have q3 := Lib.hid (q2.out.trans (hb3.mono (by rw [HS2.out]; omega)))
  have d0 : ∀ i, w3.cell? ⟨w.heap.size + 1, i, none⟩ = (#[.int .i64 0, .slice none 0 0, .slice none 0 0] : Array Value)[i]? := fun i => (hb3.cell (p := ⟨w.heap.size + 1, i, none⟩) (by rw [HS2.out]; show w.heap.size + 1 < _; omega)).trans (HC0.out i)
  have g0 : ∀ i, w3.frozen? ⟨w.heap.size + 1, i, none⟩ = false := fun i => (hb3.frozen (p := ⟨w.heap.size + 1, i, none⟩) (by rw [HS2.out]; show w.heap.size + 1 < _; omega)).trans (HF0.out i)
  have hs3 : w.heap.size + 1 + 1 ≤ w3.heap.size := by have := hb3.size; rw [HS2.out] at this; exact this
  have D0 := Lib.hid d0
  have G0 := Lib.hid g0
  have y0 := M3.out.c0
  have y1 := M3.out.c1
  have y2 := M3.out.c2
  clear hb3 d0 g0
  cases hk : m.ok with
  | false =>
    have HZ : Hid (tmz m = ⟨0, [], []⟩) := by
      have : tmz m = ⟨0, [], []⟩ := by rw [tmz, hk]; rfl
      exact Lib.hid this
    clear hk
    have h0 : w3.cell? ⟨w.heap.size + 1, 0, none⟩ = some (.int .i64 0) := D0.out 0
    have h1 : w3.cell? ⟨w.heap.size + 1, 1, none⟩ = some (.slice none 0 0) := D0.out 1
    have h2 : w3.cell? ⟨w.heap.size + 1, 2, none⟩ = some (.slice none 0 0) := D0.out 2
    have k0 := G0.out 0
    have k1 := G0.out 1
    have k2 := G0.out 2
    have FI := Lib.hid (fin_cells (x := .int .i64 0) (y := .slice none 0 0) (z := .slice none 0 0) (apart_nils (w.heap.size + 2) w3) q3.out (Nat.le_succ _) (by omega) (some3 h0 h1 h2) (by omega))
    go_wp2
    obtain ⟨r1, r2, r3, r4, r5⟩ := FI.out _ rfl
    refine bodyPost_ret (v := .agg #[.int .i64 0, .slice none 0 0, .slice none 0 0]) ?_ rfl (by rw [HZ.out]; exact ⟨none, none, 0, 0, rfl, r1, r2⟩)
    simp [results, Try.results21, go_sem, r3, r4, r5]
  | true =>
    have HZ : Hid (tmz m = tm m) := by
      have : tmz m = tm m := by rw [tmz, hk]; rfl
      exact Lib.hid this
    have HK := Lib.hid hk
    clear hk
    go_wp2_with fail
    clear y0 y1 y2
    refine (implTrimmedOf_any m nv ev _ M3.out.ints M3.out.bools (M.ok_good HK.out)).mono ?_
    rintro e w5 ⟨a1, a2, c1, c2, rfl, hA, hb5⟩
    have h0 : w5.cell? ⟨w.heap.size + 1, 0, none⟩ = some (.int .i64 0) := (hb5.cell (p := ⟨w.heap.size + 1, 0, none⟩) (by show w.heap.size + 1 < _; omega)).trans (D0.out 0)
    have h1 : w5.cell? ⟨w.heap.size + 1, 1, none⟩ = some (.slice none 0 0) := (hb5.cell (p := ⟨w.heap.size + 1, 1, none⟩) (by show w.heap.size + 1 < _; omega)).trans (D0.out 1)
    have h2 : w5.cell? ⟨w.heap.size + 1, 2, none⟩ = some (.slice none 0 0) := (hb5.cell (p := ⟨w.heap.size + 1, 2, none⟩) (by show w.heap.size + 1 < _; omega)).trans (D0.out 2)
    have k0 : w5.frozen? ⟨w.heap.size + 1, 0, none⟩ = false := (hb5.frozen (p := ⟨w.heap.size + 1, 0, none⟩) (by show w.heap.size + 1 < _; omega)).trans (G0.out 0)
    have k1 : w5.frozen? ⟨w.heap.size + 1, 1, none⟩ = false := (hb5.frozen (p := ⟨w.heap.size + 1, 1, none⟩) (by show w.heap.size + 1 < _; omega)).trans (G0.out 1)
    have k2 : w5.frozen? ⟨w.heap.size + 1, 2, none⟩ = false := (hb5.frozen (p := ⟨w.heap.size + 1, 2, none⟩) (by show w.heap.size + 1 < _; omega)).trans (G0.out 2)
    have q5 : Below w.heap.size w w5 := q3.out.trans (hb5.mono (by omega))
    generalize tm m = T at *
    have FI := Lib.hid (fin_cells (x := .int .i64 T.st) (y := .slice a1 T.next.length c1) (z := .slice a2 T.ends.length c2) hA q5 (Nat.le_succ _) (by omega) (some3 h0 h1 h2) (by omega))
    clear hA hb5 q5
    go_wp2
    obtain ⟨r1, r2, r3, r4, r5⟩ := FI.out _ rfl
    refine bodyPost_ret (v := .agg #[.int .i64 T.st, .slice a1 T.next.length c1, .slice a2 T.ends.length c2]) ?_ rfl (by rw [HZ.out]; exact ⟨a1, a2, c1, c2, rfl, r1, r2⟩)
    simp [results, Try.results21, go_sem, r3, r4, r5]
end Go.Proofs.Ytjdeahdngpccpaa
