/- TrimmedMachine, the program's and the model's: the same machine. No condition. -/
import Derived.Test.YtlbblfbiiceofaaTrimmed
import Derived.Test.YtlbblfbiiceofaaOrderWalk
namespace Go.Proofs.Ytlbblfbiiceofaa
open Go.RowKit

/-- TrimmedMachine -/
def tmz (m : M) : M := if m.ok = true then tm m else ⟨0, [], []⟩

theorem fin_cells {B b : Nat} {w0 w5 : World} {ts : List Thing} {C : Nat} {x y z : Value} (hA : Apart C ts w5) (hb : Below B w0 w5) (h1 : B ≤ b) (h2 : b < C) (hc : ∀ i, i < 3 → (w5.cell? ⟨b, i, none⟩).isSome = true) (hBC : B ≤ C) :
    ∀ W, W = ((w5.setCell ⟨b, 0, none⟩ x).setCell ⟨b, 1, none⟩ y).setCell ⟨b, 2, none⟩ z → Apart B ts W ∧ Below B w0 W ∧ W.cell? ⟨b, 0, none⟩ = some x ∧ W.cell? ⟨b, 1, none⟩ = some y ∧ W.cell? ⟨b, 2, none⟩ = some z := by
  rintro W rfl
  have hr : ∀ k, some b = some k → k < C := fun k e => by cases e; exact h2
  refine ⟨(((hA.other (grown_setCell _ _ _ _) hr).other (grown_setCell _ _ _ _) hr).other (grown_setCell _ _ _ _) hr).mono hBC, ((hb.setCell (p := ⟨b, 0, none⟩) h1 _).setCell (p := ⟨b, 1, none⟩) h1 _).setCell (p := ⟨b, 2, none⟩) h1 _, ?_, ?_, ?_⟩
  · rw [World.cell?_setCell_other _ _ _ _ (by simp), World.cell?_setCell_other _ _ _ _ (by simp), World.cell?_setCell_same' _ _ _ (hc 0 (by omega))]
  · rw [World.cell?_setCell_other _ _ _ _ (by simp), World.cell?_setCell_same' _ _ _ (by rw [World.cell?_setCell_other _ _ _ _ (by simp)]; exact hc 1 (by omega))]
  · rw [World.cell?_setCell_same' _ _ _ (by rw [World.cell?_setCell_other _ _ _ _ (by simp), World.cell?_setCell_other _ _ _ _ (by simp)]; exact hc 2 (by omega))]
theorem some3 {w : World} {b : Nat} {x y z : Value} (h0 : w.cell? ⟨b, 0, none⟩ = some x) (h1 : w.cell? ⟨b, 1, none⟩ = some y) (h2 : w.cell? ⟨b, 2, none⟩ = some z) : ∀ i, i < 3 → (w.cell? ⟨b, i, none⟩).isSome = true := by
  intro i hi
  match i, hi with
  | 0, _ => rw [h0]; rfl
  | 1, _ => rw [h1]; rfl
  | 2, _ => rw [h2]; rfl
theorem apart_nils (B : Nat) (w : World) : Apart B [rowT 3 1 (.slice none 0 0) ([] : List Int).length (([] : List Int).map (Value.int .i64)), rowT 4 1 (.slice none 0 0) ([] : List Bool).length (([] : List Bool).map Value.bool)] w :=
  ((Apart.nil B w).idle (rowT 4 1 (.slice none 0 0) 0 []) (World.ownsRow_nil _ _ _ _) rfl).idle (rowT 3 1 (.slice none 0 0) 0 []) (World.ownsRow_nil _ _ _ _) rfl

end Go.Proofs.Ytlbblfbiiceofaa
