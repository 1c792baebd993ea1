/- The exact laws' helpers on machines: sizes, copies, equality. -/
import Derived.Test.YtlbblfbiiceofaaMach
import Derived.Test.YtlbblfbiiceofaaCopiesB
import Derived.Test.YtlbblfbiiceofaaHeldB
namespace Go.Proofs.Ytlbblfbiiceofaa
open Go.RowKit

/-- what is left of a room -/
def szOf (n : Nat) (left : Int) : Int := if left < n then -1 else left - n

/-- szMachine's number -/
def szM (m : M) (left : Int) : Int := if szOf m.next.length left < 0 then -1 else szOf m.ends.length (szOf m.next.length left)
theorem szM_bd {m : M} {left : Int} (h : 0 ≤ szM m left) : m.next.length + m.ends.length ≤ left := by
  by_cases h1 : left < m.next.length
  · simp [szM, szOf, h1] at h
  · by_cases h2 : left - m.next.length < m.ends.length
    · have : ¬ left - m.next.length < 0 := by omega
      simp [szM, szOf, h1, h2, this] at h
    · omega

theorem owns_slice {w : World} {base : Nat} {e : TypeId} {size : Nat} {v : Value} {n : Nat} {xs : List Value} (h : w.ownsRow base e size v n xs) : ∃ a k p, v = .slice a k p := by
  rcases h.2 with ⟨h, _⟩ | ⟨g, cap, cur, h, _⟩
  · exact ⟨_, _, _, h⟩
  · exact ⟨_, _, _, h⟩
theorem owns_below {w w' : World} {base : Nat} {e : TypeId} {size : Nat} {v : Value} {n : Nat} {xs : List Value} (h : w.ownsRow base e size v n xs) (hb : Below w.heap.size w w') : w'.ownsRow base e size v n xs :=
  h.kept (row := none) ⟨hb.os, hb.tape, hb.output, hb.size, fun k hk _ => hb.block k hk⟩ (by cases v.ownBlock <;> simp)

/-- a fresh machine -/
def MachPost (m : M) (w : World) (e : Ending) (w' : World) : Prop := ∃ nv ev, e = .returned (.agg #[.int .i64 m.st, nv, ev]) ∧ IsInts w' nv m.next ∧ IsBools w' ev m.ends ∧ Below w.heap.size w w'

end Go.Proofs.Ytlbblfbiiceofaa
