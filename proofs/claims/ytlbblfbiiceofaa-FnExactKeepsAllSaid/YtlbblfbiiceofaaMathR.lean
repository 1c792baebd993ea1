/- Plain mathematics of runs. No program, no condition. -/
import Derived.Test.YtlbblfbiiceofaaMathB
namespace Go.Proofs.Ytlbblfbiiceofaa

theorem snoc_cases {α : Type} (l : List α) : l = [] ∨ ∃ ys p, l = ys ++ [p] := by
  match h : l.reverse with
  | [] => exact .inl (List.reverse_eq_nil_iff.1 h)
  | p :: r => exact .inr ⟨r.reverse, p, by rw [← List.reverse_reverse l, h, List.reverse_cons]⟩
theorem snoc_indR {α : Type} {P : List α → Prop} (h0 : P []) (h1 : ∀ l c, P l → P (l ++ [c])) (l : List α) : P l := by
  have : ∀ l : List α, P l.reverse := by
    intro l
    induction l with
    | nil => exact h0
    | cons c l ih => rw [List.reverse_cons]; exact h1 _ _ ih
  rw [← List.reverse_reverse l]; exact this _

/-- a letter put behind a row of runs -/
def snocRun (xs : List (UInt8 × Nat)) (c : UInt8) : List (UInt8 × Nat) :=
  match xs.getLast? with
  | some (d, n) => if d = c then xs.dropLast ++ [(d, n + 1)] else xs ++ [(c, 1)]
  | none => [(c, 1)]
/-- the runs of a list, from the first on -/
def runsL (l : List UInt8) : List (UInt8 × Nat) := l.foldl snocRun []
theorem runsL_nil : runsL [] = [] := rfl
theorem runsL_snoc (l : List UInt8) (c : UInt8) : runsL (l ++ [c]) = snocRun (runsL l) c := by
  simp [runsL, List.foldl_append]
theorem snocRun_new (xs : List (UInt8 × Nat)) (c : UInt8) (h : ∀ d n, xs.getLast? = some (d, n) → d ≠ c) : snocRun xs c = xs ++ [(c, 1)] := by
  unfold snocRun
  cases e : xs.getLast? with
  | none => rw [List.getLast?_eq_none_iff] at e; rw [e]; rfl
  | some p =>
    obtain ⟨d, n⟩ := p
    simp only
    rw [if_neg (h d n e)]
theorem snocRun_same (xs : List (UInt8 × Nat)) (c : UInt8) (n : Nat) : snocRun (xs ++ [(c, n)]) c = xs ++ [(c, n + 1)] := by
  simp [snocRun]
theorem snocRun_ne (xs : List (UInt8 × Nat)) (c : UInt8) : snocRun xs c ≠ [] := by
  unfold snocRun
  split
  · split <;> simp
  · simp
theorem snocRun_cases (xs : List (UInt8 × Nat)) (c : UInt8) : (∃ ys n, xs = ys ++ [(c, n)] ∧ snocRun xs c = ys ++ [(c, n + 1)]) ∨ (snocRun xs c = xs ++ [(c, 1)] ∧ ∀ d n, xs.getLast? = some (d, n) → d ≠ c) := by
  rcases snoc_cases xs with rfl | ⟨ys, ⟨d, n⟩, rfl⟩
  · exact .inr ⟨rfl, fun d n h => by cases h⟩
  · by_cases hd : d = c
    · subst hd
      exact .inl ⟨ys, n, rfl, snocRun_same _ _ _⟩
    · have hh : ∀ d' n', (ys ++ [(d, n)]).getLast? = some (d', n') → d' ≠ c := fun d' n' h => by
        simp at h
        rw [← h.1]; exact hd
      exact .inr ⟨snocRun_new _ c hh, hh⟩

/-- what holds of all runs -/
theorem runsL_pos (l : List UInt8) : ∀ p ∈ runsL l, 1 ≤ p.2 := by
  refine snoc_indR (P := fun l => ∀ p ∈ runsL l, 1 ≤ p.2) ?_ ?_ l
  · intro p h; cases h
  · intro l c ih
    rw [runsL_snoc]
    rcases snocRun_cases (runsL l) c with ⟨ys, n, h1, h2⟩ | ⟨h2, _⟩
    · rw [h2]
      rw [h1] at ih
      intro p hp
      rcases List.mem_append.1 hp with h | h
      · exact ih p (List.mem_append.2 (.inl h))
      · simp at h; subst h; simp
    · rw [h2]
      intro p hp
      rcases List.mem_append.1 hp with h | h
      · exact ih p h
      · simp at h; subst h; simp
theorem runsL_sum (l : List UInt8) : ((runsL l).map (·.2)).sum = l.length := by
  refine snoc_indR (P := fun l => ((runsL l).map (·.2)).sum = l.length) ?_ ?_ l
  · rfl
  · intro l c ih
    rw [runsL_snoc]
    rcases snocRun_cases (runsL l) c with ⟨ys, n, h1, h2⟩ | ⟨h2, _⟩
    · rw [h1] at ih
      rw [h2]; simp at ih ⊢; omega
    · rw [h2]; simp at ih ⊢; omega
theorem runsL_length (l : List UInt8) : (runsL l).length ≤ l.length := by
  have h1 := runsL_sum l
  have h2 := runsL_pos l
  rw [← h1]
  generalize runsL l = xs at h2
  induction xs with
  | nil => simp
  | cons a xs ih =>
    have := h2 a (List.mem_cons_self ..)
    have := ih (fun p hp => h2 p (List.mem_cons_of_mem _ hp))
    simp; omega

/-- a letter put before a row of runs -/
def consRun (c : UInt8) (xs : List (UInt8 × Nat)) : List (UInt8 × Nat) := (snocRun xs.reverse c).reverse
theorem consRun_eq (c f : UInt8) (m : Nat) (zs : List (UInt8 × Nat)) : consRun c ((f, m) :: zs) = (if f = c then (f, m + 1) :: zs else (c, 1) :: (f, m) :: zs) := by
  unfold consRun snocRun
  simp
  split <;> simp
theorem snocRun_eq (d e : UInt8) (n : Nat) (zs : List (UInt8 × Nat)) : snocRun (zs ++ [(e, n)]) d = (if e = d then zs ++ [(e, n + 1)] else zs ++ [(e, n), (d, 1)]) := by
  unfold snocRun
  simp
theorem consRun_snoc (c d : UInt8) (xs : List (UInt8 × Nat)) : consRun c (snocRun xs d) = snocRun (consRun c xs) d := by
  match xs with
  | [] =>
    by_cases h : c = d
    · subst h; simp [consRun, snocRun]
    · have h' : ¬ d = c := fun e => h e.symm
      simp [consRun, snocRun, h, h']
  | (f, m) :: r =>
    rcases snoc_cases r with rfl | ⟨ys, ⟨e, n⟩, rfl⟩
    · by_cases h1 : f = d <;> by_cases h2 : f = c
      · subst h1; subst h2; simp [consRun, snocRun]
      · subst h1; simp [consRun, snocRun, h2]
      · subst h2; simp [consRun, snocRun, h1]
      · simp [consRun, snocRun, h1, h2]
    · have a1 : (f, m) :: (ys ++ [(e, n)]) = ((f, m) :: ys) ++ [(e, n)] := rfl
      have a2 : ∀ k, (f, k) :: (ys ++ [(e, n)]) = ((f, k) :: ys) ++ [(e, n)] := fun _ => rfl
      have a3 : (c, 1) :: (f, m) :: (ys ++ [(e, n)]) = ((c, 1) :: (f, m) :: ys) ++ [(e, n)] := rfl
      rw [a1, snocRun_eq, ← a1, consRun_eq]
      by_cases h1 : e = d
      · rw [if_pos h1, List.cons_append, consRun_eq]
        by_cases h2 : f = c
        · rw [if_pos h2, if_pos h2, a2, snocRun_eq, if_pos h1]; rfl
        · rw [if_neg h2, if_neg h2, a3, snocRun_eq, if_pos h1]; rfl
      · rw [if_neg h1, List.cons_append, consRun_eq]
        by_cases h2 : f = c
        · rw [if_pos h2, if_pos h2, a2, snocRun_eq, if_neg h1]; rfl
        · rw [if_neg h2, if_neg h2, a3, snocRun_eq, if_neg h1]; rfl
theorem runsL_cons (c : UInt8) (l : List UInt8) : runsL (c :: l) = consRun c (runsL l) := by
  refine snoc_indR (P := fun l => runsL (c :: l) = consRun c (runsL l)) ?_ ?_ l
  · rfl
  · intro l d ih
    rw [← List.cons_append, runsL_snoc, ih, runsL_snoc, consRun_snoc]
theorem runsL_reverse (l : List UInt8) : runsL l.reverse = (runsL l).reverse := by
  induction l with
  | nil => rfl
  | cons c l ih => rw [List.reverse_cons, runsL_snoc, ih, runsL_cons, consRun, List.reverse_reverse]

/-- the longest run of a letter -/
def longestIn (xs : List (UInt8 × Nat)) (c : UInt8) : Nat := xs.foldl (fun m p => if p.1 = c then max m p.2 else m) 0
theorem longestIn_snoc (xs : List (UInt8 × Nat)) (p : UInt8 × Nat) (c : UInt8) : longestIn (xs ++ [p]) c = if p.1 = c then max (longestIn xs c) p.2 else longestIn xs c := by
  simp [longestIn, List.foldl_append]
/-- how long the run at the end is, if it is of the letter -/
def nowIn (xs : List (UInt8 × Nat)) (c : UInt8) : Nat :=
  match xs.getLast? with
  | some (d, n) => if d = c then n else 0
  | none => 0
theorem now_le (xs : List (UInt8 × Nat)) (c : UInt8) : nowIn xs c ≤ longestIn xs c := by
  rcases snoc_cases xs with rfl | ⟨ys, ⟨d, n⟩, rfl⟩
  · simp [nowIn]
  · rw [longestIn_snoc]
    simp only [nowIn, List.getLast?_append, List.getLast?_singleton]
    simp
    split <;> omega
theorem snoc_hit (xs : List (UInt8 × Nat)) (c : UInt8) : nowIn (snocRun xs c) c = nowIn xs c + 1 ∧ longestIn (snocRun xs c) c = max (longestIn xs c) (nowIn xs c + 1) := by
  rcases snocRun_cases xs c with ⟨ys, n, h1, h2⟩ | ⟨h2, h3⟩
  · rw [h2, h1, longestIn_snoc, longestIn_snoc]
    simp [nowIn]
  · have h0 : nowIn xs c = 0 := by
      unfold nowIn
      split
      · rename_i d n e; rw [if_neg (h3 d n e)]
      · rfl
    rw [h2, longestIn_snoc, h0]
    simp [nowIn]
theorem snoc_miss (xs : List (UInt8 × Nat)) (c d : UInt8) (h : d ≠ c) : nowIn (snocRun xs d) c = 0 ∧ longestIn (snocRun xs d) c = longestIn xs c := by
  rcases snocRun_cases xs d with ⟨ys, n, h1, h2⟩ | ⟨h2, h3⟩
  · rw [h2, h1, longestIn_snoc, longestIn_snoc]
    simp [nowIn, h]
  · rw [h2, longestIn_snoc]
    simp [nowIn, h]
theorem longestIn_le (xs : List (UInt8 × Nat)) (c : UInt8) : longestIn xs c ≤ (xs.map (·.2)).sum := by
  refine snoc_indR (P := fun xs => longestIn xs c ≤ (xs.map (·.2)).sum) ?_ ?_ xs
  · simp [longestIn]
  · intro xs p ih
    rw [longestIn_snoc]; simp; split <;> omega
/-- LongestOf's number -/
def longestOf (s t : ByteArray) : Int := if (wordOk s && letterOk t) = true then (longestIn (runsL s.data.toList) (byteAt t 0) : Int) else -1
/-- RunsOf's numbers -/
def runsOf (s : ByteArray) : List Int := if wordOk s = true then (runsL s.data.toList).map (fun p => (p.2 : Int)) else []
end Go.Proofs.Ytlbblfbiiceofaa
