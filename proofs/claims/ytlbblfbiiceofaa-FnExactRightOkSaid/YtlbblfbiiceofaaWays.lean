/- How many words lead from a state to an end, and words by their places, as plain functions. No program, no condition. -/
import Derived.Test.YtlbblfbiiceofaaShort
namespace Go.Proofs.Ytlbblfbiiceofaa

/-- how many words of so many letters lead from a state to an end -/
def M.ways (m : M) : Nat → Int → Int
  | 0, s => if m.endAt s = true then 1 else 0
  | k + 1, s => m.ways k (m.nx s 0) + m.ways k (m.nx s 1) + m.ways k (m.nx s 2)
/-- those that begin with one of the first letters -/
def M.waysTo (m : M) (k : Nat) (s : Int) : Nat → Int
  | 0 => 0
  | l + 1 => m.waysTo k s l + m.ways k (m.nx s (l : Int))
theorem M.ways_end (m : M) (s : Int) : m.ways 0 s = if m.endAt s = true then 1 else 0 := rfl
theorem M.waysTo_zero (m : M) (k : Nat) (s : Int) : m.waysTo k s 0 = 0 := rfl
theorem M.waysTo_succ (m : M) (k : Nat) (s : Int) (l : Nat) : m.waysTo k s (l + 1) = m.waysTo k s l + m.ways k (m.nx s (l : Int)) := rfl
theorem M.ways_succ (m : M) (k : Nat) (s : Int) : m.ways (k + 1) s = m.waysTo k s 3 := by
  show m.ways k (m.nx s 0) + m.ways k (m.nx s 1) + m.ways k (m.nx s 2) = ((0 + m.ways k (m.nx s ((0 : Nat) : Int))) + m.ways k (m.nx s ((1 : Nat) : Int))) + m.ways k (m.nx s ((2 : Nat) : Int))
  rw [Int.zero_add]; rfl
theorem M.ways_lt (m : M) (k : Nat) (s : Int) (h : s < 0) : m.ways k s = 0 := by
  induction k generalizing s with
  | zero => rw [M.ways_end, M.endAt, if_pos h]; rfl
  | succ k ih =>
    show m.ways k (m.nx s 0) + m.ways k (m.nx s 1) + m.ways k (m.nx s 2) = 0
    rw [M.nx_neg _ _ _ h, M.nx_neg _ _ _ h, M.nx_neg _ _ _ h, ih (-1) (by omega)]; rfl
theorem M.ways_pow (m : M) (k : Nat) (s : Int) : 0 ≤ m.ways k s ∧ m.ways k s ≤ (3 : Int) ^ k := by
  induction k generalizing s with
  | zero => rw [M.ways_end]; split <;> simp
  | succ k ih =>
    have h0 := ih (m.nx s 0)
    have h1 := ih (m.nx s 1)
    have h2 := ih (m.nx s 2)
    have e : (3 : Int) ^ (k + 1) = (3 : Int) ^ k * 3 := Int.pow_succ _ _
    have : m.ways (k + 1) s = m.ways k (m.nx s 0) + m.ways k (m.nx s 1) + m.ways k (m.nx s 2) := rfl
    omega
theorem three_bd : ∀ k : Nat, k < 11 → (3 : Int) ^ k ≤ 59049 := by decide
theorem M.ways_bd (m : M) (k : Nat) (s : Int) (h : k ≤ 10) : 0 ≤ m.ways k s ∧ m.ways k s ≤ 59049 := by
  have h1 := m.ways_pow k s
  have h2 := three_bd k (by omega)
  omega
theorem M.waysTo_bd (m : M) (k : Nat) (s : Int) (l : Nat) (hl : l ≤ 3) (h : k ≤ 10) : 0 ≤ m.waysTo k s l ∧ m.waysTo k s l ≤ 177147 := by
  have a := m.ways_bd k (m.nx s ((0 : Nat) : Int)) h
  have b := m.ways_bd k (m.nx s ((1 : Nat) : Int)) h
  have c := m.ways_bd k (m.nx s ((2 : Nat) : Int)) h
  match l, hl with
  | 0, _ => rw [M.waysTo_zero]; omega
  | 1, _ => rw [M.waysTo_succ, M.waysTo_zero]; omega
  | 2, _ => rw [M.waysTo_succ, M.waysTo_succ, M.waysTo_zero]; omega
  | 3, _ => rw [M.waysTo_succ, M.waysTo_succ, M.waysTo_succ, M.waysTo_zero]; omega
theorem M.waysTo_mono (m : M) (k : Nat) (s : Int) {i j : Nat} (h : i ≤ j) : m.waysTo k s i ≤ m.waysTo k s j := by
  induction j with
  | zero => obtain rfl : i = 0 := by omega
            exact Int.le_refl _
  | succ j ih =>
    by_cases e : i = j + 1
    · subst e; exact Int.le_refl _
    · have := ih (by omega)
      have := (m.ways_pow k (m.nx s (j : Int))).1
      rw [M.waysTo_succ]; omega
/-- a row of the table -/
def M.waysRow (m : M) (k : Nat) : List Int := (List.range m.ends.length).map (fun (s : Nat) => m.ways k (s : Int))
theorem M.waysRow_length (m : M) (k : Nat) : (m.waysRow k).length = m.ends.length := by simp [M.waysRow]
theorem M.waysRow_at (m : M) (k s : Nat) (h : s < (m.waysRow k).length) : (m.waysRow k)[s] = m.ways k (s : Int) := by simp [M.waysRow]

/-- the letter of a place -/
def M.pick (m : M) (k : Nat) (s a : Int) : Nat := if a < m.waysTo k s 1 then 0 else if a < m.waysTo k s 2 then 1 else 2
theorem M.pick_lt (m : M) (k : Nat) (s a : Int) : m.pick k s a < 3 := by
  unfold M.pick; split
  · omega
  · split <;> omega
theorem M.pick_in (m : M) (k : Nat) (s a : Int) (h0 : 0 ≤ a) (h1 : a < m.ways (k + 1) s) : m.waysTo k s (m.pick k s a) ≤ a ∧ a < m.waysTo k s (m.pick k s a + 1) := by
  rw [M.ways_succ] at h1
  unfold M.pick; split
  · rename_i h; exact ⟨by rw [M.waysTo_zero]; exact h0, h⟩
  · split
    · rename_i h g; exact ⟨by omega, g⟩
    · rename_i h g; exact ⟨by omega, h1⟩
theorem M.pick_eq (m : M) (k : Nat) (s a : Int) (l : Nat) (hl : l < 3) (h0 : m.waysTo k s l ≤ a) (h1 : a < m.waysTo k s (l + 1)) : m.pick k s a = l := by
  unfold M.pick
  match l, hl with
  | 0, _ => rw [if_pos h1]
  | 1, _ => rw [if_neg (by omega), if_pos h1]
  | 2, _ =>
    have := m.waysTo_mono k s (i := 1) (j := 2) (by omega)
    rw [if_neg (by omega), if_neg (by omega)]
/-- the word of a place -/
def M.wordOn (m : M) : Nat → Int → Int → List UInt8
  | 0, _, _ => []
  | k + 1, s, a => byteOf (m.pick k s a) :: m.wordOn k (m.nx s (m.pick k s a : Nat)) (a - m.waysTo k s (m.pick k s a))
theorem M.wordOn_length (m : M) (k : Nat) (s a : Int) : (m.wordOn k s a).length = k := by
  induction k generalizing s a with
  | zero => rfl
  | succ k ih => rw [M.wordOn, List.length_cons, ih]
theorem M.wordOn_step (m : M) (k : Nat) (s a : Int) (l : Nat) (hl : l < 3) (h0 : m.waysTo k s l ≤ a) (h1 : a < m.waysTo k s (l + 1)) :
    m.wordOn (k + 1) s a = byteOf l :: m.wordOn k (m.nx s (l : Int)) (a - m.waysTo k s l) := by
  rw [M.wordOn, m.pick_eq k s a l hl h0 h1]
/-- how many taken words are before a word -/
def M.rank (m : M) : Int → List UInt8 → Int
  | _, [] => 0
  | s, c :: cs => m.waysTo cs.length s (letterOf (c.toNat : Int)).toNat + m.rank (m.nx s (letterOf (c.toNat : Int))) cs
/-- 1 if a word is taken -/
def M.took (m : M) (s : Int) (l : List UInt8) : Int := if m.endAt (m.goes s l) = true then 1 else 0
theorem M.took_bd (m : M) (s : Int) (l : List UInt8) : 0 ≤ m.took s l ∧ m.took s l ≤ 1 := by unfold M.took; split <;> omega
theorem M.rank_bd (m : M) (s : Int) (l : List UInt8) (h : allL l = true) : 0 ≤ m.rank s l ∧ m.rank s l + m.took s l ≤ m.ways l.length s := by
  induction l generalizing s with
  | nil => exact ⟨Int.le_refl _, by rw [M.rank, M.took, M.goes]; rw [List.length_nil, M.ways_end]; omega⟩
  | cons c cs ih =>
    have hc : isL c = true ∧ allL cs = true := by simpa [allL] using h
    have hb := letter_bd hc.1
    have ih := ih (m.nx s (letterOf (c.toNat : Int))) hc.2
    have e : ((letterOf (c.toNat : Int)).toNat : Int) = letterOf (c.toNat : Int) := Int.toNat_of_nonneg hb.1
    have h1 := m.waysTo_succ cs.length s (letterOf (c.toNat : Int)).toNat
    rw [e] at h1
    have h2 := m.waysTo_mono cs.length s (i := (letterOf (c.toNat : Int)).toNat + 1) (j := 3) (by omega)
    have h3 := m.waysTo_mono cs.length s (i := 0) (j := (letterOf (c.toNat : Int)).toNat) (by omega)
    rw [M.waysTo_zero] at h3
    have h4 : m.took s (c :: cs) = m.took (m.nx s (letterOf (c.toNat : Int))) cs := rfl
    rw [List.length_cons, M.ways_succ, M.rank, h4]
    omega
/-- the first letter from one on by which something is taken -/
def M.upFrom (m : M) (k : Nat) (s : Int) (j : Nat) : Option Nat :=
  if j ≤ 0 ∧ 0 < m.ways k (m.nx s ((0 : Nat) : Int)) then some 0 else if j ≤ 1 ∧ 0 < m.ways k (m.nx s ((1 : Nat) : Int)) then some 1 else if j ≤ 2 ∧ 0 < m.ways k (m.nx s ((2 : Nat) : Int)) then some 2 else none
theorem M.upFrom_some {m : M} {k : Nat} {s : Int} {j l : Nat} (h : m.upFrom k s j = some l) : l < 3 ∧ j ≤ l ∧ 0 < m.ways k (m.nx s (l : Int)) ∧ ∀ i, j ≤ i → i < l → m.ways k (m.nx s (i : Int)) = 0 := by
  unfold M.upFrom at h
  have p0 := m.ways_pow k (m.nx s ((0 : Nat) : Int))
  have p1 := m.ways_pow k (m.nx s ((1 : Nat) : Int))
  split at h
  · rename_i g; cases h; exact ⟨by omega, g.1, g.2, fun i _ hi => absurd hi (Nat.not_lt_zero _)⟩
  · rename_i g0
    split at h
    · rename_i g; cases h
      refine ⟨by omega, g.1, g.2, fun i hi hl => ?_⟩
      obtain rfl : i = 0 := by omega
      omega
    · rename_i g1
      split at h
      · rename_i g; cases h
        refine ⟨by omega, g.1, g.2, fun i hi hl => ?_⟩
        by_cases e : i = 0
        · subst e; omega
        · obtain rfl : i = 1 := by omega
          omega
      · cases h
theorem M.upFrom_none {m : M} {k : Nat} {s : Int} {j : Nat} (h : m.upFrom k s j = none) : ∀ i, j ≤ i → i < 3 → m.ways k (m.nx s (i : Int)) = 0 := by
  unfold M.upFrom at h
  have p0 := m.ways_pow k (m.nx s ((0 : Nat) : Int))
  have p1 := m.ways_pow k (m.nx s ((1 : Nat) : Int))
  have p2 := m.ways_pow k (m.nx s ((2 : Nat) : Int))
  split at h
  · cases h
  · split at h
    · cases h
    · split at h
      · cases h
      · intro i hi hl
        match i, hl with
        | 0, _ => omega
        | 1, _ => omega
        | 2, _ => omega
theorem M.waysTo_flat {m : M} {k : Nat} {s : Int} {i j : Nat} (hij : i ≤ j) (h : ∀ x, i ≤ x → x < j → m.ways k (m.nx s (x : Int)) = 0) : m.waysTo k s j = m.waysTo k s i := by
  induction j with
  | zero => obtain rfl : i = 0 := by omega
            rfl
  | succ j ih =>
    by_cases e : i = j + 1
    · subst e; rfl
    · rw [M.waysTo_succ, ih (by omega) (fun x hx hj => h x hx (by omega)), h j (by omega) (by omega)]; omega
/-- the next taken word -/
def M.nextUp (m : M) : Int → List UInt8 → Option (List UInt8)
  | _, [] => none
  | s, c :: cs => match m.nextUp (m.nx s (letterOf (c.toNat : Int))) cs with
    | some u => some (c :: u)
    | none => match m.upFrom cs.length s ((letterOf (c.toNat : Int)).toNat + 1) with
      | some l => some (byteOf l :: m.wordOn cs.length (m.nx s (l : Int)) 0)
      | none => none
theorem byteOf_letter {c : UInt8} (h : isL c = true) : byteOf (letterOf (c.toNat : Int)).toNat = c := by
  simp only [isL, Bool.or_eq_true, beq_iff_eq] at h
  rcases h with (rfl | rfl) | rfl <;> decide
theorem M.nextUp_eq (m : M) (s : Int) (l : List UInt8) (h : allL l = true) :
    m.nextUp s l = if m.rank s l + m.took s l < m.ways l.length s then some (m.wordOn l.length s (m.rank s l + m.took s l)) else none := by
  induction l generalizing s with
  | nil => rw [M.nextUp, if_neg]; rw [M.rank, M.took, M.goes, List.length_nil, M.ways_end]; omega
  | cons c cs ih =>
    have hc : isL c = true ∧ allL cs = true := by simpa [allL] using h
    have hb := letter_bd hc.1
    have hby := byteOf_letter hc.1
    have hr := m.rank_bd (m.nx s (letterOf (c.toNat : Int))) cs hc.2
    have ht := m.took_bd (m.nx s (letterOf (c.toNat : Int))) cs
    have ih := ih (m.nx s (letterOf (c.toNat : Int))) hc.2
    have h4 : m.took s (c :: cs) = m.took (m.nx s (letterOf (c.toNat : Int))) cs := rfl
    rw [M.nextUp, ih, M.rank, h4, List.length_cons]
    generalize ht0 : (letterOf (c.toNat : Int)).toNat = t at *
    have e : letterOf (c.toNat : Int) = (t : Int) := by omega
    rw [e] at hr ht ⊢
    generalize hR : m.rank (m.nx s (t : Int)) cs = r at *
    generalize hT : m.took (m.nx s (t : Int)) cs = u at *
    have hs := m.waysTo_succ cs.length s t
    have hm3 := m.waysTo_mono cs.length s (i := t + 1) (j := 3) (by omega)
    rw [M.ways_succ]
    by_cases hlt : r + u < m.ways cs.length (m.nx s (t : Int))
    · rw [if_pos hlt, if_pos (by omega), m.wordOn_step cs.length s (m.waysTo cs.length s t + r + u) t (by omega) (by omega) (by omega), hby]
      rw [show m.waysTo cs.length s t + r + u - m.waysTo cs.length s t = r + u by omega]
    · rw [if_neg hlt]
      have hfull : m.waysTo cs.length s t + r + u = m.waysTo cs.length s (t + 1) := by omega
      rw [hfull]
      cases hu : m.upFrom cs.length s (t + 1) with
      | none =>
        have := M.waysTo_flat (i := t + 1) (j := 3) (by omega) (fun x hx h3 => M.upFrom_none hu x hx h3)
        rw [if_neg (by omega)]
      | some l =>
        obtain ⟨h1, h2, h3, h5⟩ := M.upFrom_some hu
        have hf := M.waysTo_flat (i := t + 1) (j := l) h2 (fun x hx hl => h5 x hx hl)
        have hs2 := m.waysTo_succ cs.length s l
        have hm4 := m.waysTo_mono cs.length s (i := l + 1) (j := 3) (by omega)
        rw [if_pos (by omega), m.wordOn_step cs.length s (m.waysTo cs.length s (t + 1)) l h1 (by omega) (by omega)]
        rw [show m.waysTo cs.length s (t + 1) - m.waysTo cs.length s l = 0 by omega]
theorem M.nextUp_pre {m : M} {s : Int} {u v x : List UInt8} (h : m.nextUp (m.goes s u) v = some x) : m.nextUp s (u ++ v) = some (u ++ x) := by
  induction u generalizing s with
  | nil => exact h
  | cons c cs ih =>
    have ih := ih (s := m.nx s (letterOf (c.toNat : Int))) h
    rw [List.cons_append, M.nextUp, ih]; rfl
end Go.Proofs.Ytlbblfbiiceofaa
