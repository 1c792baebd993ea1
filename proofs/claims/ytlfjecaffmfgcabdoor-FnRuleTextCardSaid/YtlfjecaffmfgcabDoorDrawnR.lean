/- The drawing functions of rules. No condition. -/
import Derived.Test.YtlfjecaffmfgcabDoorDrawR2
import Derived.Test.YtlfjecaffmfgcabDoorDrawn1
namespace Go.Proofs.YtlfjecaffmfgcabDoor
open Go.RowKit

theorem IsRow.below2 {k : IntKind} {w w' : World} {a : Option Addr} {len cap : Nat} {zs : List Int} (h : IsRow k w a len cap zs) (hb : Below w.heap.size w w') : IsRow k w' a len cap zs := by
  rcases h with h | ⟨x, h1, h2, h3, h4, h5, h6⟩
  · exact .inl h
  · exact .inr ⟨x, h1, h2, h3, h4, fun i hi => (hb.cell (World.block_lt_of_cell? w _ (h5 i hi))).trans (h5 i hi), h6⟩

/-- the rule laid into a place of the call's own -/
theorem laid4 {B b : Nat} {w0 w : World} {kind : Int} {letter thn : ByteArray} {many : Int} (h : RuF b 0 ⟨#[]⟩ ⟨#[]⟩ 0 w) (hb : Below B w0 w) (hB : B ≤ b) {W : World} (hW : W = (((w.setCell ⟨b, 0, none⟩ (.int .i64 kind)).setCell ⟨b, 1, none⟩ (.string letter)).setCell ⟨b, 2, none⟩ (.string thn)).setCell ⟨b, 3, none⟩ (.int .i64 many)) :
    W.cell? ⟨b, 0, none⟩ = some (.int .i64 kind) ∧ W.cell? ⟨b, 1, none⟩ = some (.string letter) ∧ W.cell? ⟨b, 2, none⟩ = some (.string thn) ∧ W.cell? ⟨b, 3, none⟩ = some (.int .i64 many) ∧ Below B w0 W := by
  subst hW
  have b0 := h.c0
  have b1 := h.c1
  have b2 := h.c2
  have b3 := h.c3
  exact ⟨by go_simp, by go_simp, by go_simp, by go_simp, (((hb.setCell (p := ⟨b, 0, none⟩) hB _).setCell (p := ⟨b, 1, none⟩) hB _).setCell (p := ⟨b, 2, none⟩) hB _).setCell (p := ⟨b, 3, none⟩) hB _⟩

end Go.Proofs.YtlfjecaffmfgcabDoor
