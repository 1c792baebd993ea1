/- The drawing functions of chapter 1. -/
import Derived.Test.YtpcependeealfaaOpen
namespace Go.Proofs.Ytpcependeealfaa
open Go.RowKit

def TextPost (w : World) (e : Ending) (w' : World) : Prop := ∃ s : ByteArray, e = .returned (.string s) ∧ s.size ≤ 23 ∧ Below w.heap.size w w'
def PairPost (w : World) (e : Ending) (w' : World) : Prop := ∃ s t : ByteArray, e = .returned (.tuple #[.string s, .string t]) ∧ s.size ≤ 23 ∧ t.size ≤ 23 ∧ Below w.heap.size w w'
/-- what drawing two texts leaves -/
def BothPost (B R : Nat) (a : Option Addr) (len cap k : Nat) (w : World) (e : Ending) (w' : World) : Prop :=
  ∃ s t : ByteArray, e = .returned (.tuple #[.string s, .string t]) ∧ s.size ≤ 23 ∧ t.size ≤ 23 ∧ ∃ k', k ≤ k' ∧ k' ≤ k + 40 ∧ RdAt B R a len cap k' w' ∧ KeepsBut R w w'

end Go.Proofs.Ytpcependeealfaa
