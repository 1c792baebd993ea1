/- MachineFor on the program's side. No condition. -/
import Derived.Test.YtgpjckmmleagbaaRunMaker
import Derived.Deep.RegionWith
namespace Go.Proofs.Ytgpjckmmleagbaa
open Go.RowKit

/-- a machine in memory of its own, and whether there is one -/
def MachNewB (m : M) (b : Bool) (w : World) (e : Ending) (w' : World) : Prop :=
  ∃ (a1 a2 : Option Addr) (c1 c2 : Nat), e = .returned (.tuple #[.agg #[.int .i64 m.st, .slice a1 m.next.length c1, .slice a2 m.ends.length c2], .bool b]) ∧
    Apart w.heap.size [rowT 3 1 (.slice a1 m.next.length c1) m.next.length (m.next.map (Value.int .i64)), rowT 4 1 (.slice a2 m.ends.length c2) m.ends.length (m.ends.map Value.bool)] w' ∧ Below w.heap.size w w'
/-- a block of zeros is still there -/
theorem zeros_kept {h : Nat} {w2 w3 : World} {n : Nat} {W2 : World} (c0 : ∀ i, W2.cell? ⟨h, i, none⟩ = (#[.int .i64 0, .slice none 0 0, .slice none 0 0] : Array Value)[i]?) (f0 : ∀ i, W2.frozen? ⟨h, i, none⟩ = false) (hb : Below n W2 w2) (hn : h < n) (hb3 : Below w2.heap.size w2 w3) (h2 : n ≤ w2.heap.size) :
    (w3.cell? ⟨h, 0, none⟩ = some (.int .i64 0) ∧ w3.cell? ⟨h, 1, none⟩ = some (.slice none 0 0) ∧ w3.cell? ⟨h, 2, none⟩ = some (.slice none 0 0)) ∧ (w3.frozen? ⟨h, 0, none⟩ = false ∧ w3.frozen? ⟨h, 1, none⟩ = false ∧ w3.frozen? ⟨h, 2, none⟩ = false) := by
  have hb' := hb.trans (hb3.mono h2)
  exact ⟨⟨(hb'.cell (p := ⟨h, 0, none⟩) hn).trans (c0 0), (hb'.cell (p := ⟨h, 1, none⟩) hn).trans (c0 1), (hb'.cell (p := ⟨h, 2, none⟩) hn).trans (c0 2)⟩, (hb'.frozen (p := ⟨h, 0, none⟩) hn).trans (f0 0), (hb'.frozen (p := ⟨h, 1, none⟩) hn).trans (f0 1), (hb'.frozen (p := ⟨h, 2, none⟩) hn).trans (f0 2)⟩

theorem makersOf_any (w : World) : Calls Try.prog 92 #[] w fun e w' => ∃ g : Nat,
    e = .returned (.slice (some ⟨g, 0, none⟩) 5 5) ∧ Below w.heap.size w w' ∧ w'.cell? ⟨g, 0, none⟩ = some (.func (.func 114) #[] #[]) ∧ w'.cell? ⟨g, 1, none⟩ = some (.func (.func 115) #[] #[]) ∧
      w'.cell? ⟨g, 2, none⟩ = some (.func (.func 116) #[] #[]) ∧ w'.cell? ⟨g, 3, none⟩ = some (.func (.func 117) #[] #[]) ∧ w'.cell? ⟨g, 4, none⟩ = some (.func (.func 118) #[] #[]) := by
  go_enter Try.func92, Try.ntmps92
  go_wp2
  go_ret
  exact ⟨w.heap.size, rfl, (Below.refl _ _).alloc (Nat.le_refl _) _, by go_simp, by go_simp, by go_simp, by go_simp, by go_simp⟩
end Go.Proofs.Ytgpjckmmleagbaa
