/- The walk of FnMachineOk: true at every code. No condition. -/
import Derived.Test.YtdgpemjbaciiaaaDrawn2
import Derived.Test.YtdgpemjbaciiaaaImplMachOk
import Derived.Test.YtdgpemjbaciiaaaLawWordOk
namespace Go.Proofs.Ytdgpemjbaciiaaa
open Go.RowKit

theorem IsRow.len_le {k : IntKind} {w : World} {a : Option Addr} {len cap : Nat} {zs : List Int} (h : IsRow k w a len cap zs) : len ≤ maxLen := by
  rcases h with ⟨_, rfl, _⟩ | ⟨x, _, h1, h2, _⟩
  · exact Nat.zero_le _
  · exact Nat.le_trans h1 h2
theorem isInts_lit (w : World) (t : TypeId) (cs : Array Value) (n : Nat) (xs : List Int) (hn : cs.size = n) (hc : cs.toList = xs.map (Value.int .i64)) (hm : n ≤ 1000) : IsInts (w.alloc (.cells cs t)) (.slice (some ⟨w.heap.size, 0, none⟩) n n) xs := by
  have h := World.ownsRow_lit (base := 0) (e := t) (size := 1) w cs n (Nat.zero_le _) (by unfold maxLen; omega) (by omega)
  rw [hc] at h
  have hl : xs.length = n := by have := congrArg List.length hc; simp at this; omega
  subst hl
  exact IsInts.of_owns h
theorem isBools_lit (w : World) (t : TypeId) (cs : Array Value) (n : Nat) (xs : List Bool) (hn : cs.size = n) (hc : cs.toList = xs.map Value.bool) (hm : n ≤ 1000) : IsBools (w.alloc (.cells cs t)) (.slice (some ⟨w.heap.size, 0, none⟩) n n) xs := by
  have h := World.ownsRow_lit (base := 0) (e := t) (size := 1) w cs n (Nat.zero_le _) (by unfold maxLen; omega) (by omega)
  rw [hc] at h
  have hl : xs.length = n := by have := congrArg List.length hc; simp at this; omega
  subst hl
  exact IsBools.of_owns h

end Go.Proofs.Ytdgpemjbaciiaaa
