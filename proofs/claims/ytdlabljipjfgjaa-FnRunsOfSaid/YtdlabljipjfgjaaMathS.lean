/- More plain mathematics of runs: back, twice, the greatest. No program, no condition. -/
import Derived.Test.YtdlabljipjfgjaaMathR
namespace Go.Proofs.Ytdlabljipjfgjaa

theorem longestIn_append (xs ys : List (UInt8 × Nat)) (c : UInt8) : longestIn (xs ++ ys) c = max (longestIn xs c) (longestIn ys c) := by
  refine snoc_ind (P := fun ys => longestIn (xs ++ ys) c = max (longestIn xs c) (longestIn ys c)) ?_ ?_ ys
  · simp [longestIn]
  · intro ys p ih
    rw [← List.append_assoc, longestIn_snoc, longestIn_snoc, ih]
    split <;> omega
theorem longestIn_reverse (xs : List (UInt8 × Nat)) (c : UInt8) : longestIn xs.reverse c = longestIn xs c := by
  induction xs with
  | nil => rfl
  | cons p xs ih =>
    rw [List.reverse_cons, longestIn_append, ih, show p :: xs = [p] ++ xs from rfl, longestIn_append]
    omega
theorem longest_count (l : List UInt8) (c : UInt8) : nowIn (runsL l) c ≤ l.countP (· == c) ∧ longestIn (runsL l) c ≤ l.countP (· == c) ∧ (longestIn (runsL l) c = 0 ↔ l.countP (· == c) = 0) := by
  refine snoc_ind (P := fun l => nowIn (runsL l) c ≤ l.countP (· == c) ∧ longestIn (runsL l) c ≤ l.countP (· == c) ∧ (longestIn (runsL l) c = 0 ↔ l.countP (· == c) = 0)) ?_ ?_ l
  · simp [nowIn, runsL, longestIn]
  · intro l d ih
    rw [runsL_snoc, List.countP_append]
    by_cases h : d = c
    · subst h
      obtain ⟨h1, h2⟩ := snoc_hit (runsL l) d
      rw [h1, h2]
      simp only [List.countP_cons, List.countP_nil, beq_self_eq_true, if_true]
      omega
    · obtain ⟨h1, h2⟩ := snoc_miss (runsL l) c d h
      rw [h1, h2]
      have : (d == c) = false := by simpa using h
      have e : List.countP (· == c) [d] = 0 := by simp [this]
      rw [e, Nat.add_zero]
      exact ⟨Nat.zero_le _, ih.2.1, ih.2.2⟩
theorem longest_two (l m : List UInt8) (c : UInt8) : nowIn (runsL (l ++ m)) c ≤ nowIn (runsL l) c + nowIn (runsL m) c ∧ longestIn (runsL (l ++ m)) c ≤ longestIn (runsL l) c + longestIn (runsL m) c ∧ longestIn (runsL l) c ≤ longestIn (runsL (l ++ m)) c := by
  refine snoc_ind (P := fun m => nowIn (runsL (l ++ m)) c ≤ nowIn (runsL l) c + nowIn (runsL m) c ∧ longestIn (runsL (l ++ m)) c ≤ longestIn (runsL l) c + longestIn (runsL m) c ∧ longestIn (runsL l) c ≤ longestIn (runsL (l ++ m)) c) ?_ ?_ m
  · simp
  · intro m d ih
    have hl := now_le (runsL l) c
    rw [← List.append_assoc, runsL_snoc, runsL_snoc]
    by_cases h : d = c
    · subst h
      obtain ⟨h1, h2⟩ := snoc_hit (runsL (l ++ m)) d
      obtain ⟨h3, h4⟩ := snoc_hit (runsL m) d
      rw [h1, h2, h3, h4]
      omega
    · obtain ⟨h1, h2⟩ := snoc_miss (runsL (l ++ m)) c d h
      obtain ⟨h3, h4⟩ := snoc_miss (runsL m) c d h
      rw [h1, h2, h3, h4]
      omega
theorem runsL_letters (l : List UInt8) (h : ∀ x ∈ l, isL x = true) : ∀ p ∈ runsL l, isL p.1 = true := by
  revert h
  refine snoc_ind (P := fun l => (∀ x ∈ l, isL x = true) → ∀ p ∈ runsL l, isL p.1 = true) ?_ ?_ l
  · intro _ p h; cases h
  · intro l d ih h
    have ih' := ih (fun x hx => h x (List.mem_append.2 (.inl hx)))
    have hd := h d (List.mem_append.2 (.inr (by simp)))
    rw [runsL_snoc]
    rcases snocRun_cases (runsL l) d with ⟨ys, n, h1, h2⟩ | ⟨h2, _⟩
    · rw [h2]
      rw [h1] at ih'
      intro p hp
      rcases List.mem_append.1 hp with hq | hq
      · exact ih' p (List.mem_append.2 (.inl hq))
      · simp at hq; subst hq; exact hd
    · rw [h2]
      intro p hp
      rcases List.mem_append.1 hp with hq | hq
      · exact ih' p hq
      · simp at hq; subst hq; exact hd
/-- the greatest of numbers, from a first one on -/
def maxTo (xs : List Int) (k : Nat) : Int := (xs.take k).foldl max 0
/-- the sum of the first numbers -/
def sumTo (xs : List Int) (k : Nat) : Int := (xs.take k).sum
theorem maxTo_succ (xs : List Int) (k : Nat) (h : k < xs.length) : maxTo xs (k + 1) = max (maxTo xs k) xs[k] := by
  unfold maxTo; rw [List.take_succ_eq_append_getElem h, List.foldl_append]; rfl
theorem sumTo_succ (xs : List Int) (k : Nat) (h : k < xs.length) : sumTo xs (k + 1) = sumTo xs k + xs[k] := by
  unfold sumTo; rw [List.take_succ_eq_append_getElem h, List.sum_append]; simp
theorem maxL_three (ps : List (UInt8 × Nat)) (h : ∀ p ∈ ps, isL p.1 = true) :
    (ps.map (fun p => (p.2 : Int))).foldl max 0 = max (longestIn ps 114 : Int) (max (longestIn ps 100 : Int) (longestIn ps 110 : Int)) := by
  revert h
  refine snoc_ind (P := fun ps => (∀ p ∈ ps, isL p.1 = true) → (ps.map (fun p => (p.2 : Int))).foldl max 0 = max (longestIn ps 114 : Int) (max (longestIn ps 100 : Int) (longestIn ps 110 : Int))) ?_ ?_ ps
  · intro _; rfl
  · intro ps p ih h
    have ih' := ih (fun x hx => h x (List.mem_append.2 (.inl hx)))
    have hp := h p (List.mem_append.2 (.inr (by simp)))
    rw [List.map_append, List.foldl_append, ih', longestIn_snoc, longestIn_snoc, longestIn_snoc]
    simp only [isL, Bool.or_eq_true, beq_iff_eq] at hp
    obtain ⟨c, n⟩ := p
    simp only [List.map_cons, List.map_nil, List.foldl_cons, List.foldl_nil]
    rcases hp with (rfl | rfl) | rfl <;> simp <;> omega
end Go.Proofs.Ytdlabljipjfgjaa
