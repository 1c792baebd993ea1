/- Machines in boxes, for the walks of the exact laws. No condition. -/
import Derived.Test.YtlbblfbiiceofaaToMach
import Derived.Test.YtlbblfbiiceofaaMachMark
namespace Go.Proofs.Ytlbblfbiiceofaa
open Go.RowKit

theorem apart_join {C : Nat} {ts us : List Thing} {w w' : World} (hA : Apart C ts w) (hb : Below w.heap.size w w') (hU : Apart w.heap.size us w') (hC : C ≤ w.heap.size) : Apart C (us ++ ts) w' := by
  have h := hA.below hb
  refine ⟨fun t ht => ?_, List.pairwise_append.2 ⟨hU.two, h.two, fun s hs t ht k e e' => ?_⟩⟩
  · rcases List.mem_append.1 ht with ht | ht
    · exact ⟨(hU.all t ht).1, fun k e => ⟨Nat.le_trans hC ((hU.all t ht).2 k e).1, ((hU.all t ht).2 k e).2⟩⟩
    · exact h.all t ht
  · have := ((hA.all t ht).2 k e').2
    have := ((hU.all s hs).2 k e).1
    omega

/-- a machine in a box -/
def rI (v : Value) (xs : List Int) : Thing := rowT 3 1 v xs.length (xs.map (Value.int .i64))
def rB (v : Value) (xs : List Bool) : Thing := rowT 4 1 v xs.length (xs.map Value.bool)
def cM (b : Nat) (st : Int) (nv ev : Value) : Thing := cellsT b #[.int .i64 st, nv, ev] 115

theorem boxed {C : Nat} {ts : List Thing} {w : World} (st : Int) (nv ev : Value) (hA : Apart C ts w) (hC : C ≤ w.heap.size) : Apart C (cM w.heap.size st nv ev :: ts) (w.alloc (.cells #[.int .i64 st, nv, ev] 115)) :=
  hA.more (World.grownBy_alloc w _ none) _ (heap_alloc_new w _) hC (fun j e => by cases e; simp)
theorem cM_at {b : Nat} {st : Int} {nv ev : Value} {w : World} (h : (cM b st nv ev).says w) : w.cell? ⟨b, 0, none⟩ = some (.int .i64 st) ∧ w.cell? ⟨b, 1, none⟩ = some nv ∧ w.cell? ⟨b, 2, none⟩ = some ev :=
  ⟨cellsT_cell h 0, cellsT_cell h 1, cellsT_cell h 2⟩
theorem Apart.of {C : Nat} {ts : List Thing} {w : World} (h : Apart C ts w) (t : Thing) (ht : t ∈ ts) : t.says w := (h.all t ht).1
end Go.Proofs.Ytlbblfbiiceofaa
