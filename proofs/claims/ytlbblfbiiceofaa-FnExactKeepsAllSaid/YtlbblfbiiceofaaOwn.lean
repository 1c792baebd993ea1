/- Tables of rows that a call owns. No program, no condition. -/
import Derived.Test.YtlbblfbiiceofaaBack2
import Derived.Test.YtlbblfbiiceofaaWays
import Derived.Test.YtlbblfbiiceofaaOwnD
namespace Go.Proofs.Ytlbblfbiiceofaa
open Go.RowKit

/-- a table of rows, the ways with so many letters left in each -/
def IsTab (w : World) (v : Value) (m : M) (N : Nat) : Prop :=
  ∃ (g off cap : Nat), v = .slice (some ⟨g, off, none⟩) (N + 1) cap ∧ N + 1 ≤ cap ∧ cap ≤ maxLen ∧ g < w.heap.size ∧ ∀ k, k ≤ N → ∃ rv, w.cell? ⟨g, off + k, none⟩ = some rv ∧ IsInts w rv (m.waysRow k)
theorem IsTab.below {w w' : World} {v : Value} {m : M} {N : Nat} (h : IsTab w v m N) (hb : Below w.heap.size w w') : IsTab w' v m N := by
  obtain ⟨g, off, cap, e, h1, h2, h3, h4⟩ := h
  refine ⟨g, off, cap, e, h1, h2, Nat.lt_of_lt_of_le h3 hb.size, fun k hk => ?_⟩
  obtain ⟨rv, a, b⟩ := h4 k hk
  exact ⟨rv, (hb.cell (p := ⟨g, off + k, none⟩) h3).trans a, b.below hb⟩
theorem IsTab.alloc {w : World} {v : Value} {m : M} {N : Nat} (h : IsTab w v m N) (o : Obj) : IsTab (w.alloc o) v m N := h.below ((Below.refl _ _).alloc (Nat.le_refl _) o)
/-- the rows of a table in memory -/
theorem Own.tab {wB w : World} {ts : List Thing} {m : M} {ov : Value} {ps : List (Value × List Int)} {N : Nat} (h : Own wB ts w) (hl : ps.length = N + 1) (hps : ps.map Prod.snd = (List.range (N + 1)).map m.waysRow)
    (ho : rowT 113 1 ov ps.length (ps.map Prod.fst) ∈ ts) (hi : ∀ p ∈ ps, inn p ∈ ts) : IsTab w ov m N := by
  have hr : w.ownsRow 0 113 1 ov ps.length (ps.map Prod.fst) := (h.ap.all _ ho).1
  rcases hr.2 with ⟨rfl, hn⟩ | ⟨g, cap, cur, rfl, hb, hg, h1, h2, h3, h4⟩
  · omega
  · refine ⟨g, 0, cap, by rw [hl], by omega, h2, (hr.lt g rfl).2, fun k hk => ?_⟩
    have hk' : k < ps.length := by omega
    have hc := World.ownsRow.cellAt hr k (by omega)
    rw [List.getElem?_map, List.getElem?_eq_getElem hk'] at hc
    have hin : w.ownsRow 0 3 1 ps[k].1 ps[k].2.length (ps[k].2.map (Value.int .i64)) := (h.ap.all _ (hi _ (List.getElem_mem hk'))).1
    have he : ps[k].2 = m.waysRow k := by
      have := congrArg (fun l => l[k]?) hps
      simp only [List.getElem?_map, List.getElem?_eq_getElem hk', List.getElem?_range (show k < N + 1 by omega), Option.map_some, Option.some.injEq] at this
      exact this
    rw [he] at hin
    exact ⟨ps[k].1, by rw [Nat.zero_add]; exact hc, IsInts.of_owns hin⟩
end Go.Proofs.Ytlbblfbiiceofaa
