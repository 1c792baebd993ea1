/- The exact laws' helpers on machines: sizes, copies, equality. -/
import Derived.Test.YthihcnlbohhemaaMach
import Derived.Test.YthihcnlbohhemaaCopiesB
import Derived.Test.YthihcnlbohhemaaHeldB
namespace Go.Proofs.Ythihcnlbohhemaa
open Go.RowKit

/-- what is left of a room -/
def szOf (n : Nat) (left : Int) : Int := if left < n then -1 else left - n
theorem szIntS_any (v : Value) (xs : List Int) (left : Int) (w : World) (h : IsInts w v xs) (h0 : 0 ≤ left) (h1 : left ≤ 1048576) :
    Calls Try.prog 109 #[v, .int .i64 left] w fun e w' => e = .returned (.int .i64 (szOf xs.length left)) ∧ w = w' := by
  obtain ⟨a, cap, rfl, ha1, ha2, ha⟩ := h
  unfold maxLen at ha2
  clear ha
  by_cases hlt : left < xs.length
  · have HS : Hid (szOf xs.length left = -1) := by have : szOf xs.length left = -1 := by simp [szOf, hlt]
                                                   exact Lib.hid this
    have hlt' : left - xs.length < 0 := by omega
    go_enter Try.func109, Try.ntmps109
    go_wp2
    go_ret
    exact ⟨ret_int HS.out.symm, rfl⟩
  · have HS : Hid (szOf xs.length left = left - xs.length) := by have : szOf xs.length left = left - xs.length := by simp [szOf, hlt]
                                                                 exact Lib.hid this
    have hlt' : ¬ left - xs.length < 0 := by omega
    go_enter Try.func109, Try.ntmps109
    go_wp2
    go_ret
    exact ⟨ret_int HS.out.symm, rfl⟩

/-- szMachine's number -/
def szM (m : M) (left : Int) : Int := if szOf m.next.length left < 0 then -1 else szOf m.ends.length (szOf m.next.length left)
theorem szM_bd {m : M} {left : Int} (h : 0 ≤ szM m left) : m.next.length + m.ends.length ≤ left := by
  by_cases h1 : left < m.next.length
  · simp [szM, szOf, h1] at h
  · by_cases h2 : left - m.next.length < m.ends.length
    · have : ¬ left - m.next.length < 0 := by omega
      simp [szM, szOf, h1, h2, this] at h
    · omega

theorem owns_slice {w : World} {base : Nat} {e : TypeId} {size : Nat} {v : Value} {n : Nat} {xs : List Value} (h : w.ownsRow base e size v n xs) : ∃ a k p, v = .slice a k p := by
  rcases h.2 with ⟨h, _⟩ | ⟨g, cap, cur, h, _⟩
  · exact ⟨_, _, _, h⟩
  · exact ⟨_, _, _, h⟩
theorem owns_below {w w' : World} {base : Nat} {e : TypeId} {size : Nat} {v : Value} {n : Nat} {xs : List Value} (h : w.ownsRow base e size v n xs) (hb : Below w.heap.size w w') : w'.ownsRow base e size v n xs :=
  h.kept (row := none) ⟨hb.os, hb.tape, hb.output, hb.size, fun k hk _ => hb.block k hk⟩ (by cases v.ownBlock <;> simp)

/-- a fresh machine -/
def MachPost (m : M) (w : World) (e : Ending) (w' : World) : Prop := ∃ nv ev, e = .returned (.agg #[.int .i64 m.st, nv, ev]) ∧ IsInts w' nv m.next ∧ IsBools w' ev m.ends ∧ Below w.heap.size w w'

end Go.Proofs.Ythihcnlbohhemaa
