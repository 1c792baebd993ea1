/- How values that came in lie in memory: slices of ints and of bools, out of the form's own reading. No program, no condition. -/
import Derived.Test.YtggohgkjdnnndaaInts
import Derived.ProofKit
import Derived.Deep.Slices
import Derived.Lib.SmallJoins
namespace Go.Proofs.Ytggohgkjdnnndaa
open Go.RowKit Go.ChangeShapes Go.WideShapes Go.ChangeAt Go.Deep

/-- a value that reads as a list of truths -/
def IsBools (w : World) (v : Value) (xs : List Bool) : Prop :=
  ∃ (a : Option Addr) (cap : Nat), v = .slice a xs.length cap ∧ xs.length ≤ cap ∧ cap ≤ maxLen ∧
    (xs = [] ∨ ∃ g off : Nat, a = some ⟨g, off, none⟩ ∧ g < w.heap.size ∧ ∀ k (h : k < xs.length), w.cell? ⟨g, off + k, none⟩ = some (.bool xs[k]))
theorem IsBools.nil (w : World) : IsBools w (.slice none 0 0) [] := ⟨none, 0, rfl, Nat.le_refl _, Nat.zero_le _, .inl rfl⟩
theorem IsBools.below {w w' : World} {v : Value} {xs : List Bool} (h : IsBools w v xs) (hb : Below w.heap.size w w') : IsBools w' v xs := by
  obtain ⟨a, cap, hv, h1, h2, h3⟩ := h
  exact ⟨a, cap, hv, h1, h2, h3.imp id fun ⟨g, off, ha, hg, hc⟩ => ⟨g, off, ha, Nat.lt_of_lt_of_le hg hb.size, fun k hk => (hb.cell (p := ⟨g, off + k, none⟩) hg).trans (hc k hk)⟩⟩
theorem IsBools.of_owns {w : World} {base : Nat} {e : TypeId} {v : Value} {xs : List Bool} (h : w.ownsRow base e 1 v xs.length (xs.map Value.bool)) : IsBools w v xs := by
  rcases h.2 with ⟨rfl, hn⟩ | ⟨g, cap, cur, rfl, hb, hg, h1, h2, h3, h4⟩
  · obtain rfl : xs = [] := List.eq_nil_of_length_eq_zero hn
    exact IsBools.nil w
  · refine ⟨some ⟨g, 0, none⟩, cap, rfl, h1, h2, .inr ⟨g, 0, rfl, (h.lt g rfl).2, fun k hk => ?_⟩⟩
    rw [Nat.zero_add, h.cellAt k (by omega)]
    simp [hk]

variable {H : Type} {enc : TypeId × Value → H} {P : Program} {w : World}

/-- an address of which a place is a cell is a plain one -/
theorem plain_addr {a : Addr} {v : Value} (h : w.cell? (a.add 0) = some v) : ∃ g off : Nat, a = ⟨g, off, none⟩ ∧ g < w.heap.size := by
  obtain ⟨b, off, spot⟩ := a
  have hspot : spot = none := by simpa [Addr.add] using World.cell?_spot h
  subst hspot
  exact ⟨b, off, rfl, World.block_lt_of_cell? w ⟨b, off, none⟩ (u := v) (by simpa [Addr.add] using h)⟩
theorem add_off (g off k : Nat) : (⟨g, off, none⟩ : Addr).add k = ⟨g, off + k, none⟩ := by unfold Addr.add; by_cases h : k = 0 <;> simp [h]

theorem ints_read {t e : TypeId} {fuel : Nat} {v : Value} {x : DataW H × List MemPlace} (ht : P.underlying t = some (.slice e)) (he : P.underlying e = some (.int .i64)) (hc : P.cellsOf e = 1)
    (h : DataW.trod enc P w 0 (fun _ => true) true fuel t [v] = some x) : ∃ xs : List Int, IsInts w v xs ∧ ∀ n ∈ xs, (Lit.int .i64 n).wf = true := by
  rcases open_ints ht he hc h with ⟨hcs, _⟩ | ⟨a, len, cap, zs, hcs, _, hl, hm, hz, _, hcell, hwf⟩
  · simp only [List.cons.injEq, and_true] at hcs
    subst hcs
    exact ⟨[], IsInts.nil w, fun n h => by cases h⟩
  · simp only [List.cons.injEq, and_true] at hcs
    subst hcs
    have hz' : zs.length = cap := by simpa using hz
    have hlen : (zs.take len).length = len := by rw [List.length_take]; omega
    refine ⟨zs.take len, ⟨some a, cap, by rw [hlen], by rw [hlen]; exact hl, hm, ?_⟩, fun n hn => hwf n (List.mem_of_mem_take hn)⟩
    by_cases h0 : len = 0
    · exact .inl (by rw [h0]; rfl)
    · obtain ⟨g, off, rfl, hg⟩ := plain_addr (hcell 0 (by omega))
      refine .inr ⟨g, off, rfl, hg, fun k hk => ?_⟩
      rw [hlen] at hk
      have := hcell k (by omega)
      rw [add_off] at this
      rw [this]
      simp [List.getD, show k < zs.length by omega]
theorem bools_read {t e : TypeId} {fuel : Nat} {v : Value} {x : DataW H × List MemPlace} (ht : P.underlying t = some (.slice e)) (he : P.underlying e = some .bool) (hc : P.cellsOf e = 1)
    (h : DataW.trod enc P w 0 (fun _ => true) true fuel t [v] = some x) : ∃ xs : List Bool, IsBools w v xs := by
  rcases open_slice1 ht hc h with ⟨hcs, _⟩ | ⟨a, len, cap, m, n, V, D, Pl, hcs, _, hl, hm, hmm, _, hcell⟩
  · simp only [List.cons.injEq, and_true] at hcs
    subst hcs
    exact ⟨[], IsBools.nil w⟩
  · simp only [List.cons.injEq, and_true] at hcs
    subst hcs
    have hmc : m = cap := by simpa using hmm
    subst hmc
    have hv : ∀ i, i < m → ∃ b, V i = .bool b := fun i hi => by
      obtain ⟨b, hb, _⟩ := DataW.trod_bool he (hcell i hi).2
      simp only [List.cons.injEq, and_true] at hb
      exact ⟨b, hb⟩
    refine ⟨(List.range len).map (fun i => match V i with | .bool b => b | _ => false), ⟨some a, m, by simp, by simpa using hl, hm, ?_⟩⟩
    by_cases h0 : len = 0
    · exact .inl (by rw [h0]; rfl)
    · obtain ⟨g, off, rfl, hg⟩ := plain_addr (hcell 0 (by omega)).1
      refine .inr ⟨g, off, rfl, hg, fun k hk => ?_⟩
      have hk' : k < len := by simpa using hk
      have := (hcell k (by omega)).1
      rw [add_off] at this
      obtain ⟨b, hb⟩ := hv k (by omega)
      rw [this]
      simp [hb]
end Go.Proofs.Ytggohgkjdnnndaa
