/- The walk of FnExactRowsExchanged: true at every roster and places. No condition. -/
import Derived.Test.YtggohgkjdnnndaaRostEx
import Derived.Test.YtggohgkjdnnndaaStrMark
namespace Go.Proofs.Ytggohgkjdnnndaa
open Go.RowKit

theorem eqStringS_sameX (u v : Value) (xs : List ByteArray) (w : World) (hu : IsStrs w u xs) (hv : IsStrs w v xs) :
    Calls Try.prog 37 #[u, v] w fun e w' => e = .returned (.bool true) ∧ Below w.heap.size w w' :=
  (eqStringS_any u v xs xs w hu hv).mono fun _ _ ⟨h, g⟩ => ⟨by rw [h, decide_eq_true (rfl : xs = xs)], g⟩
theorem below_markS {w w1 w2 : World} {base : Nat} {v : Value} {n : Nat} {xs : List Value} (h : Below w.heap.size w w1) (ho : w1.ownsRow base 9 1 v n xs) (hb : w.heap.size ≤ base) (hg : w1.grownBy w2 v.ownBlock) : Below w.heap.size w w2 :=
  h.grown hg h.size (fun k e => Nat.le_trans hb (World.ownsRow.lt ho k e).1)
/-- a row that lies apart from another stays when that one is written over -/
theorem strs_mark {w1 w2 : World} {base : Nat} {u v : Value} {xs : List ByteArray} (h : w1.ownsRow base 9 1 u xs.length (xs.map Value.string)) (hne : ∀ k, u.ownBlock = some k → v.ownBlock ≠ some k) (hg : w1.grownBy w2 v.ownBlock) : w2.ownsRow base 9 1 u xs.length (xs.map Value.string) := by
  refine ⟨h.1, h.2.imp id ?_⟩
  rintro ⟨g, cap, cur, rfl, h1, h2, h3⟩
  exact ⟨g, cap, cur, rfl, h1, (hg.block g (World.ownsRow.lt h g rfl).2 (fun e => hne g rfl e.symm)).trans h2, h3⟩
theorem exch_len (xs : List ByteArray) (a b : Int) : (exch xs a b).length ≤ 4 := by
  cases h : exchOk xs a b with
  | false => rw [exch_no h]; exact Nat.zero_le _
  | true => rw [(exch_roster h).2.2]; exact (rosterOk_iff.1 (exchOk_iff.1 h).1).2.1

end Go.Proofs.Ytggohgkjdnnndaa
