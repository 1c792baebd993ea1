/- The laws' copy of a machine, with its rows in memory of their own. No condition. -/
import Derived.Test.YtlbblfbiiceofaaMachLaw
import Derived.Test.YtlbblfbiiceofaaFromWalk
namespace Go.Proofs.Ytlbblfbiiceofaa
open Go.RowKit

theorem apart_one {C : Nat} {w : World} {e : TypeId} {size : Nat} {v : Value} {n : Nat} {xs : List Value} (h : w.ownsRow C e size v n xs) : Apart C [rowT e size v n xs] w :=
  ⟨fun u hu => by
    rw [List.mem_singleton.1 hu]
    exact ⟨ownsRow_base h (fun _ _ => Nat.zero_le _), h.lt⟩, List.pairwise_singleton _ _⟩
theorem apart_row {C : Nat} {ts : List Thing} {w w' : World} {e : TypeId} {size : Nat} {v : Value} {n : Nat} {xs : List Value} (hA : Apart C ts w) (hb : Below w.heap.size w w') (h : w'.ownsRow w.heap.size e size v n xs) (hC : C ≤ w.heap.size) :
    Apart C (rowT e size v n xs :: ts) w' :=
  hA.more ⟨hb.os, hb.tape, hb.output, hb.size, fun k hk _ => hb.block k hk⟩ _ (ownsRow_base h (fun _ _ => Nat.zero_le _)) hC h.lt

end Go.Proofs.Ytlbblfbiiceofaa
