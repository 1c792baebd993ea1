/- Slices of strings: how they lie in memory. No program, no condition. -/
import Derived.Test.YtggohgkjdnnndaaReads
namespace Go.Proofs.Ytggohgkjdnnndaa
open Go.RowKit Go.ChangeShapes Go.WideShapes Go.ChangeAt Go.Deep

/-- a value that reads as a list of strings -/
def IsStrs (w : World) (v : Value) (xs : List ByteArray) : Prop :=
  ∃ (a : Option Addr) (cap : Nat), v = .slice a xs.length cap ∧ xs.length ≤ cap ∧ cap ≤ maxLen ∧
    (xs = [] ∨ ∃ g off : Nat, a = some ⟨g, off, none⟩ ∧ g < w.heap.size ∧ ∀ k (h : k < xs.length), w.cell? ⟨g, off + k, none⟩ = some (.string xs[k]))
/-- no string is too long -/
def Short (xs : List ByteArray) : Prop := ∀ s ∈ xs, s.size ≤ maxLen
theorem IsStrs.nil (w : World) : IsStrs w (.slice none 0 0) [] := ⟨none, 0, rfl, Nat.le_refl _, Nat.zero_le _, .inl rfl⟩
theorem IsStrs.below {w w' : World} {v : Value} {xs : List ByteArray} (h : IsStrs w v xs) (hb : Below w.heap.size w w') : IsStrs w' v xs := by
  obtain ⟨a, cap, hv, h1, h2, h3⟩ := h
  exact ⟨a, cap, hv, h1, h2, h3.imp id fun ⟨g, off, ha, hg, hc⟩ => ⟨g, off, ha, Nat.lt_of_lt_of_le hg hb.size, fun k hk => (hb.cell (p := ⟨g, off + k, none⟩) hg).trans (hc k hk)⟩⟩
theorem IsStrs.of_owns {w : World} {base : Nat} {e : TypeId} {v : Value} {xs : List ByteArray} (h : w.ownsRow base e 1 v xs.length (xs.map Value.string)) : IsStrs w v xs := by
  rcases h.2 with ⟨rfl, hn⟩ | ⟨g, cap, cur, rfl, hb, hg, h1, h2, h3, h4⟩
  · obtain rfl : xs = [] := List.eq_nil_of_length_eq_zero hn
    exact IsStrs.nil w
  · refine ⟨some ⟨g, 0, none⟩, cap, rfl, h1, h2, .inr ⟨g, 0, rfl, (h.lt g rfl).2, fun k hk => ?_⟩⟩
    rw [Nat.zero_add, h.cellAt k (by omega)]
    simp [hk]
/-- written out -/
theorem IsStrs.form {w : World} {v : Value} {xs : List ByteArray} (h : IsStrs w v xs) : ∃ a c, v = .slice a xs.length c ∧ xs.length ≤ c ∧ c ≤ 9223372036854775807 := by
  obtain ⟨a, c, rfl, h1, h2, _⟩ := h
  unfold maxLen at h2
  exact ⟨a, c, rfl, h1, h2⟩
/-- the strings of a place on -/
theorem IsStrs.at {w : World} {a : Option Addr} {n c : Nat} {xs : List ByteArray} (h : IsStrs w (.slice a n c) xs) (h0 : 0 < xs.length) : ∃ g off : Nat, a = some ⟨g, off, none⟩ ∧ g < w.heap.size ∧ ∀ k (h : k < xs.length), w.cell? ⟨g, off + k, none⟩ = some (.string xs[k]) := by
  obtain ⟨a', c', hv, -, -, h3⟩ := h
  simp only [Value.slice.injEq] at hv
  obtain ⟨rfl, _, rfl⟩ := hv
  exact h3.resolve_left (fun e => by rw [e] at h0; exact absurd h0 (Nat.lt_irrefl _))
theorem IsStrs.cut {w : World} {a : Option Addr} {n c : Nat} {xs : List ByteArray} (h : IsStrs w (.slice a n c) xs) (k : Nat) (hk : k ≤ n) (hn : xs.length = n) : IsStrs w (.slice a k c) (xs.take k) := by
  obtain ⟨a', c', e, h1, h2, h3⟩ := h
  simp only [Value.slice.injEq] at e
  obtain ⟨rfl, _, rfl⟩ := e
  have hl : (xs.take k).length = k := by rw [List.length_take]; omega
  refine ⟨a, c, by rw [hl], by omega, h2, ?_⟩
  rcases h3 with rfl | ⟨g, off, rfl, hg, hc⟩
  · exact .inl List.take_nil
  · exact .inr ⟨g, off, rfl, hg, fun j hj => by rw [hc j (by omega)]; simp⟩

section
variable {H : Type} {enc : TypeId × Value → H} {P : Program} {w : World}
theorem strs_read {t e : TypeId} {fuel : Nat} {v : Value} {x : DataW H × List MemPlace} (ht : P.underlying t = some (.slice e)) (he : P.underlying e = some .string) (hc : P.cellsOf e = 1)
    (h : DataW.trod enc P w 0 (fun _ => true) true fuel t [v] = some x) : ∃ xs : List ByteArray, IsStrs w v xs ∧ Short xs := by
  rcases open_slice1 ht hc h with ⟨hcs, _⟩ | ⟨a, len, cap, m, n, V, D, Pl, hcs, _, hl, hm, hmm, _, hcell⟩
  · simp only [List.cons.injEq, and_true] at hcs
    subst hcs
    exact ⟨[], IsStrs.nil w, fun s h => by cases h⟩
  · simp only [List.cons.injEq, and_true] at hcs
    subst hcs
    have hmc : m = cap := by simpa using hmm
    subst hmc
    have hv : ∀ i, i < m → ∃ b : ByteArray, V i = .string b ∧ b.size ≤ maxLen := fun i hi => by
      obtain ⟨b, hb, _, hs⟩ := DataW.trod_string he (hcell i hi).2
      simp only [List.cons.injEq, and_true] at hb
      exact ⟨b, hb, hs⟩
    refine ⟨(List.range len).map (fun i => match V i with | .string b => b | _ => ⟨#[]⟩), ⟨some a, m, by simp, by simpa using hl, hm, ?_⟩, fun s hs => ?_⟩
    · by_cases h0 : len = 0
      · exact .inl (by rw [h0]; rfl)
      · obtain ⟨g, off, rfl, hg⟩ := plain_addr (hcell 0 (by omega)).1
        refine .inr ⟨g, off, rfl, hg, fun k hk => ?_⟩
        have hk' : k < len := by simpa using hk
        have := (hcell k (by omega)).1
        rw [add_off] at this
        obtain ⟨b, hb, _⟩ := hv k (by omega)
        rw [this]
        simp [hb]
    · obtain ⟨i, hi, rfl⟩ := List.mem_map.1 hs
      obtain ⟨b, hb, hsz⟩ := hv i (by have := List.mem_range.1 hi; omega)
      simp only [hb]
      exact hsz
end
end Go.Proofs.Ytggohgkjdnnndaa
