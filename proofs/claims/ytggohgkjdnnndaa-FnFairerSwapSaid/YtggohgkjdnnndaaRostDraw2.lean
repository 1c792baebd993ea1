/- What the laws of chapter 10 draw, behind the code's opening: DrawRosterOk, DrawNeedsOk, DrawDayOf, DrawRowsExchanged. No condition. -/
import Derived.Test.YtggohgkjdnnndaaRostDraw
namespace Go.Proofs.Ytggohgkjdnnndaa
open Go.RowKit

theorem drawnR_form {w : World} {base : Nat} {v : Value} {xs : List ByteArray} (h : w.ownsRow base 9 1 v xs.length (xs.map Value.string)) : ∃ a c, v = .slice a xs.length c ∧ xs.length ≤ c ∧ c ≤ 9223372036854775807 ∧ IsStrs w (.slice a xs.length c) xs := by
  have hI := IsStrs.of_owns h
  obtain ⟨a, c, rfl, h1, h2⟩ := hI.form
  exact ⟨a, c, rfl, h1, h2, hI⟩
/-- a drawn roster -/
def RostGot (w : World) (e : Ending) (w' : World) : Prop := ∃ (xs : List ByteArray) (v : Value), e = .returned v ∧ SmallR xs ∧ w'.ownsRow w.heap.size 9 1 v xs.length (xs.map Value.string) ∧ Below w.heap.size w w'

/-- a drawn roster and a day -/
def DayGotR (w : World) (e : Ending) (w' : World) : Prop := ∃ (xs : List ByteArray) (v : Value) (d : Int), e = .returned (.tuple #[v, .int .i64 d]) ∧ SmallR xs ∧ -1 ≤ d ∧ d ≤ 7 ∧ w'.ownsRow w.heap.size 9 1 v xs.length (xs.map Value.string) ∧ Below w.heap.size w w'

/-- a drawn roster and two places -/
def ExGot (w : World) (e : Ending) (w' : World) : Prop := ∃ (xs : List ByteArray) (v : Value) (f t : Int), e = .returned (.tuple #[v, .int .i64 f, .int .i64 t]) ∧ SmallR xs ∧ -1 ≤ f ∧ f ≤ 7 ∧ -1 ≤ t ∧ t ≤ 7 ∧ w'.ownsRow w.heap.size 9 1 v xs.length (xs.map Value.string) ∧ Below w.heap.size w w'

/-- drawn needs -/
def NeedsGot (w : World) (e : Ending) (w' : World) : Prop := ∃ l d : Int, e = .returned (.agg #[.int .i64 l, .int .i64 d]) ∧ -2 ≤ l ∧ l ≤ 6 ∧ -2 ≤ d ∧ d ≤ 6 ∧ Below w.heap.size w w'

theorem IsRow.belowN {k : IntKind} {w w' : World} {a : Option Addr} {len cap : Nat} {zs : List Int} (h : IsRow k w a len cap zs) (hb : Below w.heap.size w w') : IsRow k w' a len cap zs := by
  rcases h with h | ⟨x, h1, h2, h3, h4, h5, h6⟩
  · exact .inl h
  · exact .inr ⟨x, h1, h2, h3, h4, fun i hi => (hb.cell (World.block_lt_of_cell? w _ (h5 i hi))).trans (h5 i hi), h6⟩

end Go.Proofs.Ytggohgkjdnnndaa
