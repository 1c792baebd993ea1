/- CoverOk of the program and of the model: what each returns, for every argument. No condition. -/
import Derived.Test.YtggohgkjdnnndaaRostDay
import Derived.Deep.RegionHeld3
import Derived.Outline
import Derived.Deep.CutRange
import Derived.Deep.CutBlock
namespace Go.Proofs.Ytggohgkjdnnndaa
open Go.RowKit

/-- the box of needs -/
structure NdBox (B : Nat) (l d : Int) (w : World) : Prop where
  c0 : w.cell? ⟨B, 0, none⟩ = some (.int .i64 l)
  c1 : w.cell? ⟨B, 1, none⟩ = some (.int .i64 d)
  lt : B < w.heap.size
theorem NdBox.new (w : World) (l d : Int) (t : TypeId) : NdBox w.heap.size l d (w.alloc (.cells #[.int .i64 l, .int .i64 d] t)) := ⟨World.cell?_alloc_new w _ _ 0, World.cell?_alloc_new w _ _ 1, by simp⟩
theorem NdBox.below {B : Nat} {l d : Int} {w w' : World} (h : NdBox B l d w) (hb : Below w.heap.size w w') : NdBox B l d w' :=
  ⟨(hb.cell (p := ⟨B, 0, none⟩) h.lt).trans h.c0, (hb.cell (p := ⟨B, 1, none⟩) h.lt).trans h.c1, Nat.lt_of_lt_of_le h.lt hb.size⟩

theorem coverOk_all {xs : List ByteArray} {l d : Int} (h1 : rosterOk xs = true) (h2 : needsOk l d = true) (h : coverTo xs l d (daysOf xs) = true) : coverOk xs l d = true := by rw [coverOk, h1, h2, h]; rfl

theorem covers_parts {s : ByteArray} {l d a b : Int} (ha : countOf s ⟨#[100]⟩ = a) (hb : countOf s ⟨#[110]⟩ = b) : covers s l d = (a == l && b == d) := by rw [covers, ha, hb]

end Go.Proofs.Ytggohgkjdnnndaa
