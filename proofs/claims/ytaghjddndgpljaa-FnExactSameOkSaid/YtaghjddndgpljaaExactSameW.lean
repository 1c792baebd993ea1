/- The walk of FnExactSameOk in the form that the frame calls. -/
import Derived.Test.YtaghjddndgpljaaExactSame
namespace Go.Proofs.Ytaghjddndgpljaa
open Go.RowKit
theorem exactSameOk_walk {w : World} (st : Int) (hst : (Lit.int .i64 st).wf = true) (nv : Value) (xs : List Int) (hn : IsInts w nv xs) (ev : Value) (bs : List Bool) (he : IsBools w ev bs)
    (st' : Int) (hst' : (Lit.int .i64 st').wf = true) (nv' : Value) (xs' : List Int) (hn' : IsInts w nv' xs') (ev' : Value) (bs' : List Bool) (he' : IsBools w ev' bs') :
    Calls Try.prog 5 #[.agg #[.int .i64 st, nv, ev], .agg #[.int .i64 st', nv', ev']] w fun e w' => e = .returned (.bool true) ∧ Below w.heap.size w w' :=
  exactSame_walk ⟨st, xs, bs⟩ ⟨st', xs', bs'⟩ nv ev nv' ev' hn he hn' he' hst hst'
end Go.Proofs.Ytaghjddndgpljaa
