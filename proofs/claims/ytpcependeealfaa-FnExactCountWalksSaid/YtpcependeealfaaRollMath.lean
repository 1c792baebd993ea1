/- Rolls of a row of letters, the first of them, and how many there are. No program, no condition. -/
import Derived.Test.YtpcependeealfaaMath
namespace Go.Proofs.Ytpcependeealfaa

/-- the first letter is put behind the others -/
def rt1 : List UInt8 → List UInt8
  | [] => []
  | c :: cs => cs ++ [c]
/-- so many letters are put behind the others -/
def rt : Nat → List UInt8 → List UInt8
  | 0, l => l
  | k + 1, l => rt1 (rt k l)
theorem rt1_length (l : List UInt8) : (rt1 l).length = l.length := by cases l <;> simp [rt1]
theorem rt_length (k : Nat) (l : List UInt8) : (rt k l).length = l.length := by
  induction k with
  | zero => rfl
  | succ k ih => rw [rt, rt1_length, ih]
theorem rt_add (a b : Nat) (l : List UInt8) : rt (a + b) l = rt a (rt b l) := by
  induction a with
  | zero => rw [Nat.zero_add]; rfl
  | succ a ih => rw [Nat.succ_add, rt, rt, ih]
theorem rt_drop (l : List UInt8) (k : Nat) (h : k ≤ l.length) : rt k l = l.drop k ++ l.take k := by
  induction k with
  | zero => simp [rt]
  | succ k ih =>
    have hk : k < l.length := by omega
    rw [rt, ih (by omega), List.drop_eq_getElem_cons hk, List.cons_append, rt1, List.append_assoc, ← List.take_succ_eq_append_getElem hk]
theorem rt_full (l : List UInt8) : rt l.length l = l := by
  rw [rt_drop l _ (Nat.le_refl _), List.drop_length, List.take_length, List.nil_append]
theorem rt1_all (l : List UInt8) : allL (rt1 l) = allL l := by
  cases l with
  | nil => rfl
  | cons c cs => simp [rt1, allL, Bool.and_comm]
theorem rt_all (k : Nat) (l : List UInt8) : allL (rt k l) = allL l := by
  induction k with
  | zero => rfl
  | succ k ih => rw [rt, rt1_all, ih]
theorem rt1_inj {a b : List UInt8} (h : rt1 a = rt1 b) : a = b := by
  have hl := congrArg List.length h
  rw [rt1_length, rt1_length] at hl
  cases a with
  | nil => cases b with
    | nil => rfl
    | cons d ds => simp at hl
  | cons c cs => cases b with
    | nil => simp at hl
    | cons d ds =>
      have := List.append_inj h (by simpa using hl)
      rw [this.1, List.singleton_inj.1 this.2]
theorem rt_inj {a b : List UInt8} (k : Nat) (h : rt k a = rt k b) : a = b := by
  induction k with
  | zero => exact h
  | succ k ih => exact ih (rt1_inj h)
theorem rt_times (l : List UInt8) (p q : Nat) (h : rt p l = l) : rt (p * q) l = l := by
  induction q with
  | zero => rfl
  | succ q ih => rw [Nat.mul_succ, rt_add, h, ih]
theorem rt_mod (l : List UInt8) (j : Nat) : rt j l = rt (j % l.length) l := by
  have e := rt_times (rt (j % l.length) l) l.length (j / l.length) (by have := rt_full (rt (j % l.length) l); rwa [rt_length] at this)
  rw [← rt_add, Nat.div_add_mod] at e
  exact e
theorem rt_nil (j : Nat) : rt j [] = [] := by
  induction j with
  | zero => rfl
  | succ j ih => rw [rt, ih]; rfl
/-- rolled on it comes back -/
theorem rt_back (l : List UInt8) (j : Nat) : ∃ i, rt i (rt j l) = l := by
  cases hl : l.length with
  | zero => exact ⟨0, by rw [List.eq_nil_of_length_eq_zero hl, rt_nil]; rfl⟩
  | succ n =>
    refine ⟨n * j, ?_⟩
    rw [← rt_add, show n * j + j = (n + 1) * j from (Nat.succ_mul n j).symm, ← hl]
    exact rt_times l _ _ (rt_full l)

/-- whether a word comes befR another one, in the order r, d, n -/
def befR : List UInt8 → List UInt8 → Bool
  | a :: as, b :: bs => if a = b then befR as bs else decide (letterOf (a.toNat : Int) < letterOf (b.toNat : Int))
  | _, _ => false
theorem befR_irrefl (l : List UInt8) : befR l l = false := by
  induction l with
  | nil => rfl
  | cons c cs ih => rw [befR, if_pos rfl, ih]
theorem befR_trans (a b c : List UInt8) (h : befR a b = true) (g : befR b c = true) : befR a c = true := by
  induction a generalizing b c with
  | nil => simp [befR] at h
  | cons x xs ih =>
    cases b with
    | nil => simp [befR] at h
    | cons y ys =>
      cases c with
      | nil => simp [befR] at g
      | cons z zs =>
        rw [befR] at h g ⊢
        by_cases hxy : x = y
        · subst hxy
          rw [if_pos rfl] at h
          by_cases hyz : x = z
          · subst hyz
            rw [if_pos rfl] at g ⊢
            exact ih _ _ h g
          · rw [if_neg hyz] at g ⊢; exact g
        · rw [if_neg hxy, decide_eq_true_eq] at h
          by_cases hyz : y = z
          · subst hyz
            rw [if_neg hxy, decide_eq_true_eq]; exact h
          · rw [if_neg hyz, decide_eq_true_eq] at g
            rw [if_neg (fun e => by subst e; omega), decide_eq_true_eq]; omega
theorem letter_inj {a b : UInt8} (ha : isL a = true) (hb : isL b = true) (h : letterOf (a.toNat : Int) = letterOf (b.toNat : Int)) : a = b := by
  simp only [isL, Bool.or_eq_true, beq_iff_eq] at ha hb
  rcases ha with (rfl | rfl) | rfl <;> rcases hb with (rfl | rfl) | rfl <;> first | rfl | (exact absurd h (by decide))
theorem befR_conn (a b : List UInt8) (ha : allL a = true) (hb : allL b = true) (hl : a.length = b.length) (h : befR a b = false) (g : befR b a = false) : a = b := by
  induction a generalizing b with
  | nil => exact (List.eq_nil_of_length_eq_zero hl.symm).symm
  | cons x xs ih =>
    cases b with
    | nil => simp at hl
    | cons y ys =>
      simp only [allL, List.all_cons, Bool.and_eq_true] at ha hb
      rw [befR] at h g
      by_cases hxy : x = y
      · subst hxy
        rw [if_pos rfl] at h g
        rw [ih ys ha.2 hb.2 (by simpa using hl) h g]
      · rw [if_neg hxy, decide_eq_false_iff_not] at h
        rw [if_neg (fun e => hxy e.symm), decide_eq_false_iff_not] at g
        exact absurd (letter_inj ha.1 hb.1 (by omega)) hxy

/-- the first one of the first rolls -/
def leastTo (l : List UInt8) : Nat → List UInt8
  | 0 => l
  | k + 1 => if befR (rt (k + 1) l) (leastTo l k) = true then rt (k + 1) l else leastTo l k
/-- the first one of all rolls -/
def leastR (l : List UInt8) : List UInt8 := leastTo l (l.length - 1)
theorem leastTo_is (l : List UInt8) (k : Nat) : ∃ j, j ≤ k ∧ leastTo l k = rt j l := by
  induction k with
  | zero => exact ⟨0, Nat.le_refl _, rfl⟩
  | succ k ih =>
    rw [leastTo]
    split
    · exact ⟨k + 1, Nat.le_refl _, rfl⟩
    · obtain ⟨j, hj, e⟩ := ih
      exact ⟨j, by omega, e⟩
theorem leastTo_length (l : List UInt8) (k : Nat) : (leastTo l k).length = l.length := by
  obtain ⟨j, _, e⟩ := leastTo_is l k
  rw [e, rt_length]
theorem leastTo_min (l : List UInt8) (k j : Nat) (h : j ≤ k) : befR (rt j l) (leastTo l k) = false := by
  induction k with
  | zero =>
    obtain rfl : j = 0 := by omega
    exact befR_irrefl l
  | succ k ih =>
    rw [leastTo]
    by_cases hb : befR (rt (k + 1) l) (leastTo l k) = true
    · rw [if_pos hb]
      by_cases hj : j = k + 1
      · subst hj; exact befR_irrefl _
      · cases hc : befR (rt j l) (rt (k + 1) l) with
        | false => rfl
        | true =>
          have h1 := befR_trans _ _ _ hc hb
          rw [ih (by omega)] at h1; cases h1
    · rw [if_neg hb]
      by_cases hj : j = k + 1
      · subst hj; simpa using hb
      · exact ih (by omega)
theorem leastR_is (l : List UInt8) : ∃ j, (j < l.length ∨ j = 0) ∧ leastR l = rt j l := by
  obtain ⟨j, hj, e⟩ := leastTo_is l (l.length - 1)
  exact ⟨j, by omega, e⟩
theorem leastR_min (l : List UInt8) (j : Nat) : befR (rt j l) (leastR l) = false := by
  by_cases h : l.length = 0
  · obtain rfl := List.eq_nil_of_length_eq_zero h
    rw [rt_nil]; rfl
  · rw [rt_mod]
    exact leastTo_min l _ _ (by have := Nat.mod_lt j (show 0 < l.length by omega); omega)
theorem leastR_roll (l : List UInt8) (ha : allL l = true) (j : Nat) : leastR (rt j l) = leastR l := by
  obtain ⟨a, _, h1⟩ := leastR_is (rt j l)
  obtain ⟨b, _, h2⟩ := leastR_is l
  obtain ⟨i, h3⟩ := rt_back l j
  refine befR_conn _ _ (by rw [h1, rt_all, rt_all, ha]) (by rw [h2, rt_all, ha]) (by rw [h1, h2, rt_length, rt_length, rt_length]) ?_ ?_
  · rw [h1, ← rt_add]; exact leastR_min l _
  · have e : leastR l = rt (b + i) (rt j l) := by rw [h2, rt_add, h3]
    rw [e]; exact leastR_min _ _
theorem leastR_twice (l : List UInt8) (ha : allL l = true) : leastR (leastR l) = leastR l := by
  obtain ⟨a, _, h1⟩ := leastR_is l
  conv => lhs; arg 1; rw [h1]
  exact leastR_roll l ha a

/-- how many rolls there are, sought from a number on -/
def perFrom (l : List UInt8) : Nat → Nat → Nat
  | 0, k => k
  | f + 1, k => if rt k l = l then k else perFrom l f (k + 1)
/-- how many different words a word is by rolling -/
def per (l : List UInt8) : Nat := perFrom l (l.length - 1) 1
theorem perFrom_spec (l : List UInt8) (f k : Nat) : k ≤ perFrom l f k ∧ perFrom l f k ≤ k + f ∧ (∀ i, k ≤ i → i < perFrom l f k → rt i l ≠ l) ∧ (perFrom l f k < k + f → rt (perFrom l f k) l = l) := by
  induction f generalizing k with
  | zero => exact ⟨Nat.le_refl _, Nat.le_refl _, fun i h g => by rw [perFrom] at g; omega, fun h => by rw [perFrom] at h; omega⟩
  | succ f ih =>
    rw [perFrom]
    by_cases h : rt k l = l
    · rw [if_pos h]; exact ⟨Nat.le_refl _, by omega, fun i h g => by omega, fun _ => h⟩
    · rw [if_neg h]
      obtain ⟨h1, h2, h3, h4⟩ := ih (k + 1)
      refine ⟨by omega, by omega, fun i hi hp => ?_, fun hp => h4 (by omega)⟩
      by_cases e : i = k
      · subst e; exact h
      · exact h3 i (by omega) hp
theorem per_pos (l : List UInt8) : 1 ≤ per l := (perFrom_spec l _ 1).1
theorem per_le (l : List UInt8) : per l ≤ max l.length 1 := by have := (perFrom_spec l (l.length - 1) 1).2.1; unfold per; omega
theorem per_least (l : List UInt8) (i : Nat) (h : 1 ≤ i) (g : i < per l) : rt i l ≠ l := (perFrom_spec l _ 1).2.2.1 i h g
theorem per_is (l : List UInt8) : rt (per l) l = l := by
  by_cases h : l.length = 0
  · obtain rfl := List.eq_nil_of_length_eq_zero h
    exact rt_nil _
  · by_cases g : per l < 1 + (l.length - 1)
    · exact (perFrom_spec l _ 1).2.2.2 g
    · have h1 := per_le l
      have : per l = l.length := by omega
      rw [this]; exact rt_full l
theorem per_dvd (l : List UInt8) : l.length % per l = 0 := by
  have hp := per_pos l
  have h := rt_full l
  rw [← Nat.div_add_mod l.length (per l), Nat.add_comm, rt_add, rt_times l _ _ (per_is l)] at h
  have hm := Nat.mod_lt l.length hp
  by_cases e : l.length % per l = 0
  · exact e
  · exact absurd h (per_least l _ (by omega) hm)
theorem per_unique (l : List UInt8) (p : Nat) (h1 : 1 ≤ p) (h2 : rt p l = l) (h3 : ∀ i, 1 ≤ i → i < p → rt i l ≠ l) : per l = p := by
  have a := per_pos l
  by_cases h : per l < p
  · exact absurd (per_is l) (h3 _ a h)
  · by_cases g : p < per l
    · exact absurd h2 (per_least l _ h1 g)
    · omega
theorem rt_two (l : List UInt8) (k : Nat) (h : k ≤ l.length) : rt k (l ++ l) = rt k l ++ rt k l := by
  rw [rt_drop _ _ (by rw [List.length_append]; omega), rt_drop l k h, List.drop_append_of_le_length h, List.take_append_of_le_length h]
  rw [List.append_assoc, List.append_assoc, ← List.append_assoc (List.take k l), List.take_append_drop]
theorem per_two (l : List UInt8) (h : 0 < l.length) : per (l ++ l) = per l := by
  have hl := per_le l
  refine per_unique _ _ (per_pos l) (by rw [rt_two _ _ (by omega), per_is]) (fun i h1 h2 e => ?_)
  rw [rt_two _ _ (by omega)] at e
  exact per_least l i h1 h2 (List.append_inj e (rt_length _ _)).1
/-- a roll is new just among the first ones -/
theorem per_new (l : List UInt8) (k : Nat) (h : k < per l) (i : Nat) (hi : i < k) : rt i l ≠ rt k l := by
  intro e
  have h1 : rt i (rt (k - i) l) = rt i l := by rw [← rt_add, e]; congr 1; omega
  exact per_least l (k - i) (by omega) (by omega) (rt_inj i h1)
theorem per_old (l : List UInt8) (k : Nat) (h : ¬ k < per l) : k - per l < k ∧ rt (k - per l) l = rt k l := by
  have := per_pos l
  refine ⟨by omega, ?_⟩
  conv => rhs; rw [show k = (k - per l) + per l by omega, rt_add, per_is]
theorem cntTo_lt (p k : Nat) : cntTo (fun i => decide (i < p)) k = ((min k p : Nat) : Int) := by
  induction k with
  | zero => simp [cntTo]
  | succ k ih =>
    rw [cntTo, ih]
    by_cases h : k < p
    · simp [h]; omega
    · simp [h]; omega
theorem per_count (l : List UInt8) : cntTo (fun i => decide (i < per l)) (max l.length 1) = (per l : Int) := by
  rw [cntTo_lt]; have := per_le l; congr 1; omega

/-- a word's roll -/
theorem rollListR (s : ByteArray) (k : Nat) (h : k ≤ s.size) : (s.extract k s.size ++ s.extract 0 k).data.toList = rt k s.data.toList := by
  rw [rt_drop _ _ (by rw [len_data]; exact h), ByteArray.data_append, Array.toList_append, ByteArray.data_extract, ByteArray.data_extract, Array.toList_extract, Array.toList_extract, List.extract_eq_take_drop, List.extract_eq_take_drop, List.drop_zero, Nat.sub_zero]
  congr 1
  rw [List.take_of_length_le]
  rw [List.length_drop, len_data]; exact Nat.le_refl _
/-- a text of a row of bytes -/
def txtOf (l : List UInt8) : ByteArray := ⟨l.toArray⟩
theorem txtOf_list (l : List UInt8) : (txtOf l).data.toList = l := by simp [txtOf]
theorem txtOf_data (s : ByteArray) : txtOf s.data.toList = s := bytes_ext (txtOf_list _)
theorem txtOf_size (l : List UInt8) : (txtOf l).size = l.length := by rw [← len_data, txtOf_list]
theorem rolled_str (s : ByteArray) (k : Nat) (h : k ≤ s.size) : s.extract k s.size ++ s.extract 0 k = txtOf (rt k s.data.toList) := bytes_ext (by rw [rollListR s k h, txtOf_list])
theorem wordOk_roll {s : ByteArray} (h : wordOk s = true) (k : Nat) : wordOk (txtOf (rt k s.data.toList)) = true := by
  simp only [wordOk, Bool.and_eq_true, decide_eq_true_eq] at h ⊢
  rw [txtOf_list, rt_all, txtOf_size, rt_length, len_data]
  exact h
theorem rolledStr_word {s : ByteArray} (hw : wordOk s = true) (k : Nat) (h : k ≤ s.size) : rolledOk s k = true ∧ rolledStr s k = txtOf (rt k s.data.toList) := by
  have e : rolledOk s k = true := by simp [rolledOk, hw]; omega
  exact ⟨e, by rw [rolledStr_yes s k e, rolled_str s k h]⟩
/-- LeastRoll -/
def leastRoll (s : ByteArray) : ByteArray := if wordOk s = true then txtOf (leastR s.data.toList) else ⟨#[]⟩
/-- RollsOf -/
def rollsOf (s : ByteArray) : Int := if wordOk s = true then (per s.data.toList : Int) else -1
end Go.Proofs.Ytpcependeealfaa
