/- Rings of a machine, walks that lead back, and necklaces: plain functions. No program, no condition. -/
import Derived.Test.YtpcependeealfaaStep
import Derived.Test.YtpcependeealfaaRollMath
namespace Go.Proofs.Ytpcependeealfaa
open Go.RowKit

/-- StateFrom -/
def M.from (m : M) (s : Int) (word : ByteArray) : Int := if (m.ok && wordOk word && (decide (0 ≤ s) && decide (s ≤ m.st - 1))) = true then m.goes s word.data.toList else -2
theorem M.from_yes {m : M} {s : Int} {word : ByteArray} (h : m.ok = true) (g : wordOk word = true) (s0 : 0 ≤ s) (s1 : s < m.st) : m.from s word = m.goes s word.data.toList := by
  rw [M.from, if_pos]
  rw [h, g, Bool.true_and, Bool.true_and, Bool.and_eq_true, decide_eq_true_eq, decide_eq_true_eq]; omega
theorem M.from_no {m : M} {s : Int} {word : ByteArray} (h : (m.ok && wordOk word && (decide (0 ≤ s) && decide (s ≤ m.st - 1))) = false) : m.from s word = -2 := by rw [M.from, h]; rfl
/-- the least state from which a row of letters leads back, sought from a state on -/
def ringTo (m : M) (l : List UInt8) : Nat → Int → Int
  | 0, _ => -1
  | f + 1, s => if m.goes s l = s then s else ringTo m l f (s + 1)
/-- RingState of letters -/
def ringL (m : M) (l : List UInt8) : Int := ringTo m l m.st.toNat 0
/-- RingState -/
def ringState (m : M) (word : ByteArray) : Int := if (m.ok && wordOk word && decide (0 < word.size)) = true then ringL m word.data.toList else -1
theorem ringTo_spec (m : M) (l : List UInt8) (f : Nat) (s : Int) : (ringTo m l f s = -1 ∧ ∀ i, s ≤ i → i < s + f → m.goes i l ≠ i) ∨ (s ≤ ringTo m l f s ∧ ringTo m l f s < s + f ∧ m.goes (ringTo m l f s) l = ringTo m l f s ∧ ∀ i, s ≤ i → i < ringTo m l f s → m.goes i l ≠ i) := by
  induction f generalizing s with
  | zero => exact .inl ⟨rfl, fun i h g => by omega⟩
  | succ f ih =>
    rw [ringTo]
    by_cases h : m.goes s l = s
    · rw [if_pos h]; exact .inr ⟨Int.le_refl _, by omega, h, fun i h g => by omega⟩
    · rw [if_neg h]
      rcases ih (s + 1) with ⟨h1, h2⟩ | ⟨h1, h2, h3, h4⟩
      · refine .inl ⟨h1, fun i hi hp => ?_⟩
        by_cases e : i = s
        · subst e; exact h
        · exact h2 i (by omega) (by omega)
      · refine .inr ⟨by omega, by omega, h3, fun i hi hp => ?_⟩
        by_cases e : i = s
        · subst e; exact h
        · exact h4 i (by omega) hp
theorem ringTo_yes {m : M} {l : List UInt8} {f : Nat} {s : Int} (h : m.goes s l = s) : ringTo m l (f + 1) s = s := by rw [ringTo, if_pos h]
theorem ringTo_no {m : M} {l : List UInt8} {f : Nat} {s : Int} (h : m.goes s l ≠ s) : ringTo m l (f + 1) s = ringTo m l f (s + 1) := by rw [ringTo, if_neg h]
theorem ringState_yes {m : M} {word : ByteArray} (h : m.ok = true) (g : wordOk word = true) (k : 0 < word.size) : ringState m word = ringL m word.data.toList := by
  rw [ringState, h, g, decide_eq_true k]; rfl
theorem ringState_no {m : M} {word : ByteArray} (h : (m.ok && wordOk word && decide (0 < word.size)) = false) : ringState m word = -1 := by rw [ringState, h]; rfl
/-- RingOk -/
def ringOk (m : M) (word : ByteArray) : Bool := decide (0 ≤ ringState m word)
/-- whether a row of letters leads from some state back to it -/
theorem ringL_iff (m : M) (l : List UInt8) (h : 1 ≤ m.st) : 0 ≤ ringL m l ↔ ∃ s, 0 ≤ s ∧ s < m.st ∧ m.goes s l = s := by
  rcases ringTo_spec m l m.st.toNat 0 with ⟨h1, h2⟩ | ⟨h1, h2, h3, _⟩
  · constructor
    · intro h0; rw [ringL] at h0; omega
    · rintro ⟨s, a, b, c⟩; exact absurd c (h2 s a (by omega))
  · exact ⟨fun _ => ⟨_, h1, by omega, h3⟩, fun _ => h1⟩
theorem ringL_least (m : M) (l : List UInt8) (h : 0 ≤ ringL m l) : ringL m l < m.st.toNat ∧ m.goes (ringL m l) l = ringL m l ∧ ∀ i, 0 ≤ i → i < ringL m l → m.goes i l ≠ i := by
  rcases ringTo_spec m l m.st.toNat 0 with ⟨h1, h2⟩ | ⟨h1, h2, h3, h4⟩
  · rw [ringL] at h; omega
  · exact ⟨by rw [ringL]; omega, h3, h4⟩
theorem ringState_neg (m : M) (word : ByteArray) (h : ¬ 0 ≤ ringState m word) : ringState m word = -1 := by
  rw [ringState] at h ⊢
  split at h
  · rename_i g
    rw [if_pos g]
    rcases ringTo_spec m word.data.toList m.st.toNat 0 with ⟨h1, _⟩ | ⟨h1, _⟩
    · exact h1
    · exact absurd h1 h
  · rename_i g
    rw [if_neg g]
theorem ringL_roll1 {m : M} (hm : m.ok = true) (l : List UInt8) (hl : allL l = true) (h : 0 ≤ ringL m l) : 0 ≤ ringL m (rt1 l) := by
  have hs := M.ok_shape hm
  rw [ringL_iff m _ hs.1] at h ⊢
  obtain ⟨s, h0, h1, h2⟩ := h
  cases l with
  | nil => exact ⟨s, h0, h1, rfl⟩
  | cons c cs =>
    simp only [allL, List.all_cons, Bool.and_eq_true] at hl
    have hc := letter_bd hl.1
    have hb := M.nx_bd hm s _ h1 hc.1 hc.2
    rw [M.goes] at h2
    refine ⟨m.nx s (letterOf (c.toNat : Int)), ?_, hb.2, ?_⟩
    · by_cases g : m.nx s (letterOf (c.toNat : Int)) = -1
      · rw [g, M.goes_neg] at h2; omega
      · omega
    · rw [rt1, M.goes_append, h2]; rfl
theorem ringL_roll {m : M} (hm : m.ok = true) (l : List UInt8) (hl : allL l = true) (k : Nat) (h : 0 ≤ ringL m l) : 0 ≤ ringL m (rt k l) := by
  induction k with
  | zero => exact h
  | succ k ih => exact ringL_roll1 hm _ (by rw [rt_all, hl]) ih
theorem ringL_roll_iff {m : M} (hm : m.ok = true) (l : List UInt8) (hl : allL l = true) (k : Nat) : 0 ≤ ringL m (rt k l) ↔ 0 ≤ ringL m l := by
  refine ⟨fun h => ?_, ringL_roll hm l hl k⟩
  obtain ⟨i, e⟩ := rt_back l k
  have := ringL_roll hm (rt k l) (by rw [rt_all, hl]) i h
  rwa [e] at this
/-- rolled a ring is a ring -/
theorem ringOk_roll {m : M} {s : ByteArray} (hw : wordOk s = true) (k : Nat) : ringOk m (txtOf (rt k s.data.toList)) = ringOk m s := by
  have hw2 := wordOk_roll hw k
  have hsz : (txtOf (rt k s.data.toList)).size = s.size := by rw [txtOf_size, rt_length, len_data]
  rw [Bool.eq_iff_iff, ringOk, ringOk, decide_eq_true_eq, decide_eq_true_eq]
  by_cases hm : m.ok = true
  · by_cases hp : 0 < s.size
    · rw [ringState_yes hm hw hp, ringState_yes hm hw2 (by omega), txtOf_list]
      exact ringL_roll_iff hm _ (wordOk_all hw) k
    · rw [ringState_no (word := s) (by simp [hp]), ringState_no (by simp [hsz, hp])]
  · rw [ringState_no (word := s) (by simp [hm]), ringState_no (by simp [hm])]
/-- done twice a ring is a ring -/
theorem ringOk_two {m : M} {s : ByteArray} (h : ringOk m s = true) (h2 : wordOk (s ++ s) = true) : ringOk m (s ++ s) = true := by
  rw [ringOk, decide_eq_true_eq] at h ⊢
  by_cases hg : (m.ok && wordOk s && decide (0 < s.size)) = true
  · rw [ringState, if_pos hg] at h
    simp only [Bool.and_eq_true, decide_eq_true_eq] at hg
    have hs := M.ok_shape hg.1.1
    rw [ringState_yes hg.1.1 h2 (by rw [ByteArray.size_append]; omega), ringL_iff m _ hs.1]
    obtain ⟨s', a, b, c⟩ := (ringL_iff m _ hs.1).1 h
    refine ⟨s', a, b, ?_⟩
    rw [ByteArray.data_append, Array.toList_append, M.goes_append, c, c]
  · rw [ringState, if_neg hg] at h; omega

/-- the sum of the first values of a function -/
def sumN (f : Nat → Int) : Nat → Int
  | 0 => 0
  | k + 1 => sumN f k + f k
theorem sumN_bd (f : Nat → Int) (B : Int) (k : Nat) (h : ∀ i, i < k → 0 ≤ f i ∧ f i ≤ B) : 0 ≤ sumN f k ∧ sumN f k ≤ k * B := by
  induction k with
  | zero => simp [sumN]
  | succ k ih =>
    have h1 := ih (fun i hi => h i (by omega))
    have h2 := h k (by omega)
    have e : ((k + 1 : Nat) : Int) * B = k * B + B := by rw [Int.natCast_add, Int.add_mul]; simp
    rw [sumN, e]; omega
/-- by how many letters a machine goes on from a state to another one -/
def M.steps (m : M) (i j : Nat) : Int := (if m.nx i 0 = (j : Int) then 1 else 0) + (if m.nx i 1 = (j : Int) then 1 else 0) + (if m.nx i 2 = (j : Int) then 1 else 0)
/-- of the first letters -/
def M.stepsTo (m : M) (l : Nat) (i j : Nat) : Int := sumN (fun c => if m.nx i (c : Int) = (j : Int) then 1 else 0) l
theorem M.stepsTo_three (m : M) (i j : Nat) : m.stepsTo 3 i j = m.steps i j := by
  simp only [M.stepsTo, sumN, M.steps, Int.zero_add]; rfl
theorem M.steps_bd (m : M) (i j : Nat) : 0 ≤ m.steps i j ∧ m.steps i j ≤ 3 := by
  rw [M.steps]; split <;> split <;> split <;> omega
/-- the walks from state to state with one letter more than so many -/
def M.walks (m : M) : Nat → Nat → Nat → Int
  | 0, i, j => m.steps i j
  | k + 1, i, j => sumN (fun b => m.walks k i b * m.steps b j) m.ends.length
/-- the diagonal's sum -/
def M.backs (m : M) (k : Nat) : Int := sumN (fun i => m.walks k i i) m.ends.length
/-- bounds: 3, 432, .. -/
def wbd : Nat → Int
  | 0 => 3
  | k + 1 => 48 * (wbd k * 3)
theorem M.walks_bd (m : M) (h : m.ends.length ≤ 48) (k i j : Nat) : 0 ≤ m.walks k i j ∧ m.walks k i j ≤ wbd k := by
  induction k generalizing i j with
  | zero => exact m.steps_bd i j
  | succ k ih =>
    have hb := sumN_bd (fun b => m.walks k i b * m.steps b j) (wbd k * 3) m.ends.length (fun b _ => by
      have h1 := ih i b
      have h2 := m.steps_bd b j
      exact ⟨Int.mul_nonneg h1.1 h2.1, Int.mul_le_mul h1.2 h2.2 h2.1 (by omega)⟩)
    refine ⟨hb.1, Int.le_trans hb.2 ?_⟩
    have h1 := ih i i
    rw [wbd]
    exact Int.mul_le_mul_of_nonneg_right (by omega) (by omega)
theorem wbd_le (k : Nat) (h : k ≤ 5) : wbd k ≤ 185752092672 := by
  have : k = 0 ∨ k = 1 ∨ k = 2 ∨ k = 3 ∨ k = 4 ∨ k = 5 := by omega
  rcases this with rfl | rfl | rfl | rfl | rfl | rfl <;> decide
theorem wbd_pos (k : Nat) : 3 ≤ wbd k := by
  induction k with
  | zero => decide
  | succ k ih => rw [wbd]; omega
/-- CountWalks -/
def ringNum (n : Int) : Bool := decide (1 ≤ n) && decide (n ≤ 6)
def countWalks (m : M) (n : Int) : Int := if (m.ok && ringNum n) = true then m.backs (n.toNat - 1) else -1

/-- a word of so many letters, told by a number: its letters are the digits in base 3, the least one first -/
def digits : Nat → Nat → List UInt8
  | 0, _ => []
  | k + 1, way => digits k way ++ [if way / 3 ^ k % 3 = 0 then 114 else if way / 3 ^ k % 3 = 1 then 100 else 110]
/-- all words of so many letters, each with each letter behind -/
def wordsL : Nat → List (List UInt8)
  | 0 => [[]]
  | k + 1 => (wordsL k).flatMap fun w => [w ++ [114], w ++ [100], w ++ [110]]
/-- how often a test holds in a row -/
def cntOf (p : List UInt8 → Bool) : List (List UInt8) → Int
  | [] => 0
  | w :: ws => (if p w = true then 1 else 0) + cntOf p ws
theorem cntOf_append (p : List UInt8 → Bool) (a b : List (List UInt8)) : cntOf p (a ++ b) = cntOf p a + cntOf p b := by
  induction a with
  | nil => simp [cntOf]
  | cons x xs ih => rw [List.cons_append, cntOf, cntOf, ih, Int.add_assoc]
theorem cntOf_bd (p : List UInt8 → Bool) (a : List (List UInt8)) : 0 ≤ cntOf p a ∧ cntOf p a ≤ a.length := by
  induction a with
  | nil => simp [cntOf]
  | cons x xs ih => rw [cntOf, List.length_cons]; split <;> omega
theorem cntOf_flat (p : List UInt8 → Bool) (a : List (List UInt8)) : cntOf p (a.flatMap fun w => [w ++ [114], w ++ [100], w ++ [110]]) = cntOf (fun w => p (w ++ [114])) a + cntOf (fun w => p (w ++ [100])) a + cntOf (fun w => p (w ++ [110])) a := by
  induction a with
  | nil => simp [cntOf]
  | cons x xs ih =>
    rw [List.flatMap_cons, cntOf_append, ih]
    simp only [cntOf]; omega
theorem cntTo_add (p : Nat → Bool) (a b : Nat) : cntTo p (a + b) = cntTo p a + cntTo (fun i => p (a + i)) b := by
  induction b with
  | zero => simp [cntTo]
  | succ b ih => rw [← Nat.add_assoc, cntTo, cntTo, ih, Int.add_assoc]
theorem cntTo_cgr (p q : Nat → Bool) (k : Nat) (h : ∀ i, i < k → p i = q i) : cntTo p k = cntTo q k := by
  induction k with
  | zero => rfl
  | succ k ih => rw [cntTo, cntTo, ih (fun i hi => h i (by omega)), h k (by omega)]
theorem digits_mod (k j way : Nat) (h : k ≤ j) (t : Nat) : digits k (t * 3 ^ j + way) = digits k way := by
  induction k with
  | zero => rfl
  | succ k ih =>
    have e : (t * 3 ^ j + way) / 3 ^ k % 3 = way / 3 ^ k % 3 := by
      obtain ⟨d, rfl⟩ : ∃ d, j = k + 1 + d := ⟨j - (k + 1), by omega⟩
      have e1 : t * 3 ^ (k + 1 + d) + way = 3 ^ k * (3 * (t * 3 ^ d)) + way := by
        rw [Nat.pow_add, Nat.pow_succ]; simp [Nat.mul_comm, Nat.mul_assoc, Nat.mul_left_comm]
      rw [e1, Nat.mul_add_div (Nat.pow_pos (by omega)), Nat.mul_add_mod]
    rw [digits, digits, ih (by omega), e]
theorem digits_split (k way t : Nat) (h : way < 3 ^ k) (ht : t < 3) : digits (k + 1) (3 ^ k * t + way) = digits k way ++ [if t = 0 then 114 else if t = 1 then 100 else 110] := by
  have hp : 0 < 3 ^ k := Nat.pow_pos (by omega)
  have e : (3 ^ k * t + way) / 3 ^ k % 3 = t := by
    rw [Nat.mul_add_div hp, Nat.div_eq_of_lt h, Nat.add_zero, Nat.mod_eq_of_lt ht]
  rw [digits, e, Nat.mul_comm, digits_mod k k way (Nat.le_refl _) t]
/-- both ways to tell all words count the same -/
theorem words_count (k : Nat) (p : List UInt8 → Bool) : cntTo (fun way => p (digits k way)) (3 ^ k) = cntOf p (wordsL k) := by
  induction k generalizing p with
  | zero => simp [cntTo, cntOf, wordsL, digits]
  | succ k ih =>
    have part : ∀ (t : Nat) (c : UInt8), t < 3 → (if t = 0 then (114 : UInt8) else if t = 1 then 100 else 110) = c → cntTo (fun way => p (digits (k + 1) (3 ^ k * t + way))) (3 ^ k) = cntOf (fun w => p (w ++ [c])) (wordsL k) := by
      intro t c ht hc
      rw [← ih (fun w => p (w ++ [c]))]
      exact cntTo_cgr _ _ _ (fun i hi => by simp only [digits_split k i t hi ht, hc])
    have h0 := part 0 114 (by omega) rfl
    have h1 := part 1 100 (by omega) rfl
    have h2 := part 2 110 (by omega) rfl
    rw [show 3 ^ (k + 1) = 3 ^ k + 3 ^ k + 3 ^ k by rw [Nat.pow_succ]; omega, cntTo_add, cntTo_add, wordsL, cntOf_flat, ← h0, ← h1, ← h2]
    simp only [Nat.mul_zero, Nat.zero_add, Nat.mul_one]
    congr 1
    exact cntTo_cgr _ _ _ (fun i _ => by rw [show 3 ^ k * 2 = 3 ^ k + 3 ^ k by omega])
theorem digits_length (k way : Nat) : (digits k way).length = k := by
  induction k with
  | zero => rfl
  | succ k ih => rw [digits, List.length_append, ih]; rfl
theorem digits_all (k way : Nat) : allL (digits k way) = true := by
  induction k with
  | zero => rfl
  | succ k ih =>
    rw [digits, allL, List.all_append]
    rw [allL] at ih
    rw [ih]; split
    · rfl
    · split <;> rfl
theorem wordsL_mem (k : Nat) (w : List UInt8) (h : w ∈ wordsL k) : w.length = k ∧ allL w = true := by
  induction k generalizing w with
  | zero => simp [wordsL] at h; subst h; exact ⟨rfl, rfl⟩
  | succ k ih =>
    rw [wordsL, List.mem_flatMap] at h
    obtain ⟨v, hv, hw⟩ := h
    obtain ⟨h1, h2⟩ := ih v hv
    rw [allL] at h2
    simp only [List.mem_cons, List.not_mem_nil, or_false] at hw
    rcases hw with rfl | rfl | rfl <;> (refine ⟨by simp [h1], ?_⟩; rw [allL, List.all_append, h2]; rfl)
theorem wordsL_length (k : Nat) : (wordsL k).length = 3 ^ k := by
  induction k with
  | zero => rfl
  | succ k ih =>
    have : ∀ a : List (List UInt8), (a.flatMap fun w => [w ++ [114], w ++ [100], w ++ [110]]).length = a.length * 3 := by
      intro a
      induction a with
      | nil => rfl
      | cons x xs ihx => rw [List.flatMap_cons, List.length_append, ihx]; simp; omega
    rw [wordsL, this, ih, Nat.pow_succ]
/-- whether a word is a necklace of a machine -/
def neckB (m : M) (l : List UInt8) : Bool := decide (leastR l = l) && decide (0 ≤ ringL m l)
/-- CountNecklaces -/
def countNecks (m : M) (n : Int) : Int := if (m.ok && ringNum n) = true then cntOf (neckB m) (wordsL n.toNat) else -1
end Go.Proofs.Ytpcependeealfaa
