/- RowsExchanged of the program and of the model: what each returns, for every argument. No condition. -/
import Derived.Test.YtggohgkjdnnndaaRostDay
import Derived.Deep.RegionHeld3
import Derived.Outline
import Derived.Deep.CutRange
import Derived.Deep.CutBlock
import Derived.BigRegion
namespace Go.Proofs.Ytggohgkjdnnndaa
open Go.RowKit

/-- a row of one's own, and whether there is one -/
def ExP (ys : List ByteArray) (b : Bool) (w : World) (e : Ending) (w' : World) : Prop :=
  ∃ v, e = .returned (.tuple #[v, .bool b]) ∧ w'.ownsRow w.heap.size 9 1 v ys.length (ys.map Value.string) ∧ Below w.heap.size w w'
theorem ExP.no {xs : List ByteArray} {a b : Int} {w w' : World} {v : Value} (h : exchOk xs a b = false) (hv : v = .slice none 0 0 ∨ ∃ g, v = .slice (some ⟨g, 0, none⟩) 0 0 ∧ w'.ownsRow w.heap.size 9 1 v 0 []) (hb : Below w.heap.size w w') :
    ExP (exch xs a b) (exchOk xs a b) w (.returned (.tuple #[v, .bool false])) w' := by
  rw [exch_no h, h]
  refine ⟨v, rfl, ?_, hb⟩
  rcases hv with rfl | ⟨g, rfl, h⟩
  · exact World.ownsRow_nil _ _ _ _
  · exact h
theorem rowIn_any (a : Option Addr) (n c : Nat) (p : Int) (w : World) (_hn : n ≤ 9223372036854775807) :
    Calls Try.prog 47 #[.slice a n c, .int .i64 p] w fun e w' => e = .returned (.bool (decide (0 ≤ p) && decide (p < n))) ∧ w = w' := by
  by_cases h : 0 ≤ p
  · have hd : decide (0 ≤ p) = true := decide_eq_true h
    go_enter Try.func47, Try.ntmps47
    go_wp2
    go_ret
    exact ⟨ret_bool (by rw [hd, Bool.true_and]), rfl⟩
  · have hd : decide (0 ≤ p) = false := decide_eq_false h
    go_enter Try.func47, Try.ntmps47
    go_wp2
    go_ret
    exact ⟨ret_bool (by simp), rfl⟩
theorem owns_drewE {w : World} {base : Nat} {e : TypeId} {size : Nat} {v : Value} {n : Nat} {xs : List Value} (h : w.ownsRow base e size v n xs) : w.drew.ownsRow base e size v n xs :=
  h.kept (row := none) ⟨rfl, rfl, rfl, Nat.le_refl _, fun _ _ _ => rfl⟩ (by cases v.ownBlock <;> simp)
theorem exchOk_no1 {xs : List ByteArray} {a b : Int} (h : rosterOk xs = false) : exchOk xs a b = false := by simp [exchOk, h]
theorem exchOk_no2 {xs : List ByteArray} {a b : Int} (h : a = b) : exchOk xs a b = false := by simp [exchOk, h]
theorem exchOk_no3 {xs : List ByteArray} {a b : Int} (h : (decide (0 ≤ a) && decide (a < xs.length)) = false) : exchOk xs a b = false := by rw [exchOk, h]; simp
theorem exchOk_no4 {xs : List ByteArray} {a b : Int} (h : (decide (0 ≤ b) && decide (b < xs.length)) = false) : exchOk xs a b = false := by rw [exchOk, h]; simp
theorem exchTo_map (xs : List ByteArray) (a b : Nat) (ha : a < xs.length) (hb : b < xs.length) : (exchTo xs a b).map Value.string = ((xs.map Value.string).set a (.string xs[b])).set b (.string xs[a]) := by
  have e1 : xs.getD a ⟨#[]⟩ = xs[a] := by simp [List.getD, ha]
  have e2 : xs.getD b ⟨#[]⟩ = xs[b] := by simp [List.getD, hb]
  rw [exchTo, e1, e2, List.map_set, List.map_set]

theorem ExP.yes {xs : List ByteArray} {a b : Nat} {w w' : World} {v : Value} (h : exchOk xs a b = true) (ho : w'.ownsRow w.heap.size 9 1 v xs.length ((exchTo xs a b).map Value.string)) (hb : Below w.heap.size w w') :
    ExP (exch xs a b) (exchOk xs a b) w (.returned (.tuple #[v, .bool true])) w' := by
  rw [exch_yes h, h]
  exact ⟨v, rfl, by rw [exchTo_length]; exact ho, hb⟩

theorem exch_take {xs : List ByteArray} {a b : Nat} (ha : a < xs.length) (hb : b < xs.length) (k : Nat) (hk : k < xs.length) :
    ((exchTo xs a b).take (k + 1)).map Value.string = ((exchTo xs a b).take k).map Value.string ++ [Value.string (if k = b then xs[a] else if k = a then xs[b] else xs[k])] := by
  have hl := exchTo_length xs a b
  rw [List.take_succ_eq_append_getElem (by omega), List.map_append, exchTo_get ha hb]; rfl

end Go.Proofs.Ytggohgkjdnnndaa
