/- The plain mathematics of chapter 9 (fair shares): no program is named here. No condition. -/
import Derived.Lib.Hide
namespace Go.Proofs.Ytggohgkjdnnndaa

/-- the sum of a function of all -/
def sm (f : Int → Int) : List Int → Int
  | [] => 0
  | x :: xs => f x + sm f xs
theorem sm_append (f : Int → Int) (a b : List Int) : sm f (a ++ b) = sm f a + sm f b := by
  induction a with
  | nil => simp [sm]
  | cons x a ih => simp only [List.cons_append, sm, ih]; omega
theorem sm_perm (f : Int → Int) {a b : List Int} (h : a.Perm b) : sm f a = sm f b := by
  induction h with
  | nil => rfl
  | cons x _ ih => simp only [sm, ih]
  | swap x y l => simp only [sm]; omega
  | trans _ _ h1 h2 => exact h1.trans h2
theorem sm_set (f : Int → Int) (xs : List Int) (i : Nat) (h : i < xs.length) (v : Int) : sm f (xs.set i v) = sm f xs - f xs[i] + f v := by
  induction xs generalizing i with
  | nil => cases h
  | cons x xs ih =>
    cases i with
    | zero => simp only [List.set_cons_zero, sm, List.getElem_cons_zero]; omega
    | succ i => simp only [List.set_cons_succ, sm, List.getElem_cons_succ, ih i (by simpa using h)]; omega
theorem sm_le (f g : Int → Int) (xs : List Int) (h : ∀ x ∈ xs, f x ≤ g x) : sm f xs ≤ sm g xs := by
  induction xs with
  | nil => exact Int.le_refl _
  | cons x xs ih =>
    have h1 := h x (by simp)
    have h2 := ih (fun y hy => h y (by simp [hy]))
    simp only [sm]; omega
theorem sm_congr (f g : Int → Int) (xs : List Int) (h : ∀ x ∈ xs, f x = g x) : sm f xs = sm g xs :=
  Int.le_antisymm (sm_le f g xs fun x hx => by rw [h x hx]; exact Int.le_refl _) (sm_le g f xs fun x hx => by rw [h x hx]; exact Int.le_refl _)
theorem sm_add (f g : Int → Int) (xs : List Int) : sm (fun x => f x + g x) xs = sm f xs + sm g xs := by
  induction xs with
  | nil => rfl
  | cons x xs ih => simp only [sm, ih]; omega
theorem sm_sub (f g : Int → Int) (xs : List Int) : sm (fun x => f x - g x) xs = sm f xs - sm g xs := by
  induction xs with
  | nil => rfl
  | cons x xs ih => simp only [sm, ih]; omega
theorem sm_const (c : Int) (xs : List Int) : sm (fun _ => c) xs = xs.length * c := by
  induction xs with
  | nil => simp [sm]
  | cons x xs ih => simp only [sm, ih, List.length_cons]; grind
theorem sm_nonneg (f : Int → Int) (xs : List Int) (h : ∀ x ∈ xs, 0 ≤ f x) : 0 ≤ sm f xs := by
  have := sm_le (fun _ => 0) f xs h
  rw [sm_const] at this; omega
theorem sm_mem (f : Int → Int) (xs : List Int) (h : ∀ x ∈ xs, 0 ≤ f x) (x : Int) (hx : x ∈ xs) : f x ≤ sm f xs := by
  induction xs with
  | nil => cases hx
  | cons y xs ih =>
    have h1 := h y (by simp)
    have h2 := sm_nonneg f xs (fun z hz => h z (by simp [hz]))
    rcases List.mem_cons.1 hx with rfl | hx
    · simp only [sm]; omega
    · have := ih (fun z hz => h z (by simp [hz])) hx
      simp only [sm]; omega
theorem sm_snoc (f : Int → Int) (xs : List Int) (k : Nat) (h : k < xs.length) : sm f (xs.take (k + 1)) = sm f (xs.take k) + f xs[k] := by
  rw [List.take_succ_eq_append_getElem h, sm_append]; simp [sm]

/-- the sum -/
def tot (xs : List Int) : Int := sm (fun x => x) xs
/-- by how much all together are more than t -/
def exc (t : Int) (xs : List Int) : Int := sm (fun x => max 0 (x - t)) xs
/-- by how much all together are less than t -/
def dfc (t : Int) (xs : List Int) : Int := sm (fun x => max 0 (t - x)) xs
/-- how many are more than t -/
def cnt (t : Int) (xs : List Int) : Int := sm (fun x => if t < x then 1 else 0) xs
/-- the squares together -/
def sqs (xs : List Int) : Int := sm (fun x => x * x) xs

/-! rows from the greatest one down -/
def posD (x : Int) (ys : List Int) : Nat := (ys.takeWhile (fun y => decide (x ≤ y))).length
def insD (x : Int) (ys : List Int) : List Int := ys.take (posD x ys) ++ x :: ys.drop (posD x ys)
def sortTo (xs : List Int) (k : Nat) : List Int := (xs.take k).foldl (fun acc x => insD x acc) []
def sortD (xs : List Int) : List Int := sortTo xs xs.length
def Desc (xs : List Int) : Prop := xs.Pairwise (fun a b => b ≤ a)

theorem posD_le (x : Int) (ys : List Int) : posD x ys ≤ ys.length := by
  unfold posD
  induction ys with
  | nil => simp
  | cons y ys ih => rw [List.takeWhile_cons]; split <;> simp <;> omega
theorem posD_nil (x : Int) : posD x [] = 0 := rfl
theorem posD_cons (x y : Int) (ys : List Int) : posD x (y :: ys) = if x ≤ y then posD x ys + 1 else 0 := by
  unfold posD
  rw [List.takeWhile_cons]
  by_cases h : x ≤ y <;> simp [h]
/-- the place is where the first lesser one stands -/
theorem posD_eq (x : Int) (ys : List Int) (k : Nat) (hk : k ≤ ys.length) (h1 : ∀ j (h : j < ys.length), j < k → x ≤ ys[j]) (h2 : ∀ h : k < ys.length, ys[k] < x) : posD x ys = k := by
  induction ys generalizing k with
  | nil => simp at hk; rw [hk]; rfl
  | cons y ys ih =>
    rw [posD_cons]
    cases k with
    | zero =>
      have := h2 (by simp)
      rw [List.getElem_cons_zero] at this
      rw [if_neg (by omega)]
    | succ k =>
      have := h1 0 (by simp) (by omega)
      rw [List.getElem_cons_zero] at this
      rw [if_pos this, ih k (by simpa using hk) (fun j h hj => by have := h1 (j + 1) (by simpa using h) (by omega); simpa using this) (fun h => by have := h2 (by simpa using h); simpa using this)]
theorem insD_nil (x : Int) : insD x [] = [x] := rfl
theorem insD_perm (x : Int) (ys : List Int) : (insD x ys).Perm (x :: ys) := by
  unfold insD
  refine List.perm_middle.trans ?_
  rw [List.take_append_drop]
theorem insD_length (x : Int) (ys : List Int) : (insD x ys).length = ys.length + 1 := by
  rw [(insD_perm x ys).length_eq]; rfl
theorem insD_cons (x y : Int) (ys : List Int) : insD x (y :: ys) = if x ≤ y then y :: insD x ys else x :: y :: ys := by
  unfold insD
  rw [posD_cons]
  by_cases h : x ≤ y <;> simp [h]
theorem insD_desc (x : Int) (ys : List Int) (h : Desc ys) : Desc (insD x ys) := by
  induction ys with
  | nil => simp [insD_nil, Desc]
  | cons y ys ih =>
    have hp := List.pairwise_cons.1 h
    rw [insD_cons]
    split
    · rename_i hxy
      refine List.pairwise_cons.2 ⟨fun z hz => ?_, ih hp.2⟩
      have := (insD_perm x ys).mem_iff.1 hz
      rcases List.mem_cons.1 this with rfl | hz
      · exact hxy
      · exact hp.1 z hz
    · rename_i hxy
      refine List.pairwise_cons.2 ⟨fun z hz => ?_, h⟩
      rcases List.mem_cons.1 hz with rfl | hz
      · omega
      · have := hp.1 z hz; omega
theorem sortTo_zero (xs : List Int) : sortTo xs 0 = [] := by simp [sortTo]
theorem sortTo_succ (xs : List Int) (k : Nat) (h : k < xs.length) : sortTo xs (k + 1) = insD xs[k] (sortTo xs k) := by
  unfold sortTo
  rw [List.take_succ_eq_append_getElem h, List.foldl_append]; rfl
theorem fold_perm (xs : List Int) : ∀ acc : List Int, (xs.foldl (fun acc x => insD x acc) acc).Perm (xs ++ acc) := by
  induction xs with
  | nil => intro acc; exact List.Perm.refl _
  | cons x xs ih =>
    intro acc
    rw [List.foldl_cons]
    exact (ih _).trans (((insD_perm x acc).append_left xs).trans List.perm_middle)
theorem fold_desc (xs : List Int) : ∀ acc : List Int, Desc acc → Desc (xs.foldl (fun acc x => insD x acc) acc) := by
  induction xs with
  | nil => intro acc h; exact h
  | cons x xs ih => intro acc h; rw [List.foldl_cons]; exact ih _ (insD_desc x acc h)
theorem sortTo_perm (xs : List Int) (k : Nat) : (sortTo xs k).Perm (xs.take k) := by
  have := fold_perm (xs.take k) []
  rwa [List.append_nil] at this
theorem sortTo_desc (xs : List Int) (k : Nat) : Desc (sortTo xs k) := fold_desc _ [] List.Pairwise.nil
theorem sortTo_length (xs : List Int) (k : Nat) (h : k ≤ xs.length) : (sortTo xs k).length = k := by
  rw [(sortTo_perm xs k).length_eq, List.length_take]; omega
theorem sortD_perm (xs : List Int) : (sortD xs).Perm xs := by
  have := sortTo_perm xs xs.length
  rwa [List.take_length] at this
theorem sortD_desc (xs : List Int) : Desc (sortD xs) := sortTo_desc _ _
theorem sortD_length (xs : List Int) : (sortD xs).length = xs.length := (sortD_perm xs).length_eq
theorem desc_one {a b : List Int} (ha : Desc a) (hb : Desc b) (h : a.Perm b) : a = b :=
  List.Perm.eq_of_pairwise (fun _ _ _ _ h1 h2 => Int.le_antisymm h2 h1) ha hb h
theorem sortD_of_desc {xs : List Int} (h : Desc xs) : sortD xs = xs := desc_one (sortD_desc xs) h (sortD_perm xs)
theorem sortD_of_perm {a b : List Int} (h : a.Perm b) : sortD a = sortD b := desc_one (sortD_desc a) (sortD_desc b) (((sortD_perm a).trans h).trans (sortD_perm b).symm)
theorem sortD_sortD (xs : List Int) : sortD (sortD xs) = sortD xs := sortD_of_desc (sortD_desc xs)
theorem desc_get {xs : List Int} (h : Desc xs) (i j : Nat) (hi : i < xs.length) (hj : j < xs.length) (hij : i ≤ j) : xs[j] ≤ xs[i] := by
  by_cases e : i = j
  · subst e; exact Int.le_refl _
  · exact List.pairwise_iff_getElem.1 h i j hi hj (by omega)

/-! rows of loads -/
def loadOk (x : Int) : Bool := decide (0 ≤ x) && decide (x ≤ 30)
def loadsOk (xs : List Int) : Bool := decide (1 ≤ xs.length) && decide (xs.length ≤ 6) && xs.all loadOk
theorem loadsOk_iff {xs : List Int} : loadsOk xs = true ↔ 1 ≤ xs.length ∧ xs.length ≤ 6 ∧ ∀ x ∈ xs, 0 ≤ x ∧ x ≤ 30 := by
  simp [loadsOk, loadOk, and_assoc]
theorem loadsOk_perm {a b : List Int} (h : a.Perm b) : loadsOk a = loadsOk b := by
  unfold loadsOk; rw [h.length_eq, h.all_eq]
theorem loadsOk_sort (xs : List Int) : loadsOk (sortD xs) = loadsOk xs := loadsOk_perm (sortD_perm xs)
theorem loadsOk_init {xs : List Int} (h : loadsOk xs = true) (h2 : 2 ≤ xs.length) : loadsOk (xs.take (xs.length - 1)) = true := by
  obtain ⟨h1, h6, ha⟩ := loadsOk_iff.1 h
  refine loadsOk_iff.2 ⟨by rw [List.length_take]; omega, by rw [List.length_take]; omega, fun x hx => ha x (List.mem_of_mem_take hx)⟩

/-! sums of the greatest ones -/
theorem pre_le (t : Int) (xs : List Int) (k : Nat) (hk : k ≤ xs.length) : tot (xs.take k) ≤ k * t + exc t xs := by
  have h1 : tot (xs.take k) ≤ sm (fun x => t + max 0 (x - t)) (xs.take k) := sm_le _ _ _ (fun x _ => by omega)
  rw [sm_add, sm_const, List.length_take, Nat.min_eq_left hk] at h1
  have h2 : exc t xs = exc t (xs.take k) + exc t (xs.drop k) := by
    have := sm_append (fun x => max 0 (x - t)) (xs.take k) (xs.drop k)
    rwa [List.take_append_drop] at this
  have h3 : 0 ≤ exc t (xs.drop k) := sm_nonneg _ _ (fun x _ => by omega)
  have h4 : exc t (xs.take k) = sm (fun x => max 0 (x - t)) (xs.take k) := rfl
  omega
theorem exc_zero (t : Int) (xs : List Int) (h : ∀ x ∈ xs, x ≤ t) : exc t xs = 0 := by
  have h1 := sm_le (fun x => max 0 (x - t)) (fun _ => 0) xs (fun x hx => by have := h x hx; omega)
  have h2 : 0 ≤ exc t xs := sm_nonneg _ _ (fun x _ => by omega)
  rw [sm_const] at h1
  have h3 : exc t xs = sm (fun x => max 0 (x - t)) xs := rfl
  omega
theorem exc_all (t : Int) (xs : List Int) (h : ∀ x ∈ xs, t ≤ x) : exc t xs = tot xs - xs.length * t := by
  have h1 : exc t xs = sm (fun x => x - t) xs := sm_congr _ _ _ (fun x hx => by have := h x hx; omega)
  rw [h1, sm_sub, sm_const]; rfl
/-- where all of the first k are at least t, and all others at most -/
theorem pre_eq (t : Int) (xs : List Int) (k : Nat) (hk : k ≤ xs.length) (h1 : ∀ x ∈ xs.take k, t ≤ x) (h2 : ∀ x ∈ xs.drop k, x ≤ t) : tot (xs.take k) = k * t + exc t xs := by
  have e : exc t xs = exc t (xs.take k) + exc t (xs.drop k) := by
    have := sm_append (fun x => max 0 (x - t)) (xs.take k) (xs.drop k)
    rwa [List.take_append_drop] at this
  have e1 := exc_all t _ h1
  have e2 := exc_zero t _ h2
  rw [List.length_take, Nat.min_eq_left hk] at e1
  omega
theorem pre_some {xs : List Int} (h : Desc xs) (k : Nat) (hk : k ≤ xs.length) : ∃ t, tot (xs.take k) = k * t + exc t xs := by
  cases k with
  | zero =>
    cases xs with
    | nil => exact ⟨0, by simp [tot, exc, sm]⟩
    | cons x xs =>
      refine ⟨x, ?_⟩
      rw [exc_zero]
      · simp [tot, sm]
      · intro y hy
        rcases List.mem_cons.1 hy with rfl | hy
        · exact Int.le_refl _
        · exact (List.pairwise_cons.1 h).1 y hy
  | succ k =>
    refine ⟨xs[k], pre_eq _ _ _ hk (fun x hx => ?_) (fun x hx => ?_)⟩
    · obtain ⟨i, hi, rfl⟩ := List.getElem_of_mem hx
      rw [List.length_take] at hi
      rw [List.getElem_take]
      exact desc_get h i k (by omega) (by omega) (by omega)
    · obtain ⟨i, hi, rfl⟩ := List.getElem_of_mem hx
      rw [List.length_drop] at hi
      rw [List.getElem_drop]
      exact desc_get h k (k + 1 + i) (by omega) (by omega) (by omega)
theorem exc_some {xs : List Int} (h : Desc xs) (t : Int) : ∃ k, k ≤ xs.length ∧ tot (xs.take k) = k * t + exc t xs := by
  induction xs with
  | nil => exact ⟨0, Nat.le_refl _, by simp [tot, exc, sm]⟩
  | cons x xs ih =>
    by_cases hx : t < x
    · obtain ⟨k, hk, e⟩ := ih (List.pairwise_cons.1 h).2
      refine ⟨k + 1, by simpa using hk, ?_⟩
      have e1 : tot ((x :: xs).take (k + 1)) = x + tot (xs.take k) := by simp [tot, sm]
      have e2 : exc t (x :: xs) = (x - t) + exc t xs := by simp only [exc, sm]; omega
      rw [e1, e2, e]; grind
    · refine ⟨0, Nat.zero_le _, ?_⟩
      rw [exc_zero]
      · simp [tot, sm]
      · intro y hy
        rcases List.mem_cons.1 hy with rfl | hy
        · omega
        · have := (List.pairwise_cons.1 h).1 y hy; omega

/-- for each number of the greatest ones the sum is at most that of the other row -/
def majB (x y : List Int) : Bool := (List.range x.length).all (fun k => decide (tot (x.take (k + 1)) ≤ tot (y.take (k + 1)))) && decide (tot x = tot y)
theorem majB_iff {x y : List Int} : majB x y = true ↔ (∀ k, k ≤ x.length → tot (x.take k) ≤ tot (y.take k)) ∧ tot x = tot y := by
  simp only [majB, Bool.and_eq_true, List.all_eq_true, List.mem_range, decide_eq_true_eq]
  refine and_congr_left fun _ => ⟨fun h k hk => ?_, fun h k hk => h (k + 1) (by omega)⟩
  cases k with
  | zero => simp
  | succ k => exact h k (by omega)
def fairB (a b : List Int) : Bool := loadsOk a && loadsOk b && decide (a.length = b.length) && majB (sortD a) (sortD b)
theorem exc_sort (t : Int) (xs : List Int) : exc t (sortD xs) = exc t xs := sm_perm _ (sortD_perm xs)
theorem tot_sort (xs : List Int) : tot (sortD xs) = tot xs := sm_perm _ (sortD_perm xs)
theorem sqs_sort (xs : List Int) : sqs (sortD xs) = sqs xs := sm_perm _ (sortD_perm xs)
theorem majB_exc {a b : List Int} (hl : a.length = b.length) : majB (sortD a) (sortD b) = true ↔ (∀ t, exc t a ≤ exc t b) ∧ tot a = tot b := by
  rw [majB_iff, tot_sort, tot_sort]
  refine and_congr_left fun _ => ⟨fun h t => ?_, fun h k hk => ?_⟩
  · obtain ⟨k, hk, e⟩ := exc_some (sortD_desc a) t
    have h1 := h k hk
    have h2 := pre_le t (sortD b) k (by rw [sortD_length] at hk ⊢; omega)
    rw [exc_sort] at e h2
    omega
  · have hk' : k ≤ (sortD b).length := by rw [sortD_length] at hk ⊢; omega
    obtain ⟨t, e⟩ := pre_some (sortD_desc b) k hk'
    have h2 := pre_le t (sortD a) k hk
    have h3 := h t
    rw [exc_sort] at e h2
    omega
theorem fairB_iff {a b : List Int} : fairB a b = true ↔ loadsOk a = true ∧ loadsOk b = true ∧ a.length = b.length ∧ (∀ t, exc t a ≤ exc t b) ∧ tot a = tot b := by
  simp only [fairB, Bool.and_eq_true, decide_eq_true_eq]
  constructor
  · rintro ⟨⟨⟨h1, h2⟩, h3⟩, h4⟩; exact ⟨h1, h2, h3, (majB_exc h3).1 h4⟩
  · rintro ⟨h1, h2, h3, h4⟩; exact ⟨⟨⟨h1, h2⟩, h3⟩, (majB_exc h3).2 h4⟩
theorem fairB_perm {a b : List Int} (h : loadsOk b = true) (hp : a.Perm b) : fairB a b = true :=
  fairB_iff.2 ⟨(loadsOk_perm hp).trans h, h, hp.length_eq, fun _ => Int.le_of_eq (sm_perm _ hp), sm_perm _ hp⟩
theorem fairB_sort_left {xs : List Int} (h : loadsOk xs = true) : fairB (sortD xs) xs = true := fairB_perm h (sortD_perm xs)
theorem fairB_sort_right {xs : List Int} (h : loadsOk xs = true) : fairB xs (sortD xs) = true := fairB_perm ((loadsOk_sort xs).trans h) (sortD_perm xs).symm
theorem fairB_refl {xs : List Int} (h : loadsOk xs = true) : fairB xs xs = true := fairB_perm h (List.Perm.refl _)

/-! squares -/
theorem sq_exc : ∀ n : Nat, n ≤ 30 → ((n : Int) * n = n + 2 * ((List.range 30).foldl (fun (s : Int) (t : Nat) => s + max 0 ((n : Int) - (t + 1))) 0)) := by decide +kernel
theorem sm_fold (xs : List Int) (ts : List Nat) : ∀ c : Int, sm (fun x => ts.foldl (fun (s : Int) (t : Nat) => s + max 0 (x - (t + 1))) c) xs = ts.foldl (fun (s : Int) (t : Nat) => s + exc (t + 1) xs) (xs.length * c) := by
  induction ts with
  | nil => intro c; simp only [List.foldl_nil]; exact sm_const c xs
  | cons t ts ih =>
    intro c
    simp only [List.foldl_cons]
    have : ∀ (f : Int → Int) (s : Int), sm (fun x => ts.foldl (fun (s : Int) (t : Nat) => s + max 0 (x - (t + 1))) (s + f x)) xs = ts.foldl (fun (s : Int) (t : Nat) => s + exc (t + 1) xs) (xs.length * s + sm f xs) := by
      intro f s
      clear ih
      induction ts generalizing f s with
      | nil => simp only [List.foldl_nil]; rw [sm_add, sm_const]
      | cons u us ih =>
        simp only [List.foldl_cons]
        have := ih (fun x => f x + max 0 (x - (u + 1))) s
        have e : sm (fun x => f x + max 0 (x - (u + 1))) xs = sm f xs + exc (u + 1) xs := sm_add _ _ _
        rw [e] at this
        have e2 : ∀ x : Int, s + f x + max 0 (x - (↑u + 1)) = s + (f x + max 0 (x - (↑u + 1))) := fun x => by omega
        simp only [e2, Int.add_assoc] at this ⊢
        exact this
    exact this (fun x => max 0 (x - (↑t + 1))) c
theorem fold_mono (ts : List Nat) (f g : Nat → Int) (h : ∀ t, f t ≤ g t) : ∀ c d : Int, c ≤ d → ts.foldl (fun s t => s + f t) c ≤ ts.foldl (fun s t => s + g t) d := by
  induction ts with
  | nil => intro c d hcd; exact hcd
  | cons t ts ih =>
    intro c d hcd
    simp only [List.foldl_cons]
    exact ih _ _ (by have := h t; omega)
theorem sqs_exc {xs : List Int} (h : ∀ x ∈ xs, 0 ≤ x ∧ x ≤ 30) : sqs xs = tot xs + 2 * (List.range 30).foldl (fun (s : Int) (t : Nat) => s + exc (t + 1) xs) 0 := by
  have h1 : sqs xs = sm (fun x => x + (((List.range 30).foldl (fun (s : Int) (t : Nat) => s + max 0 (x - (t + 1))) 0) + ((List.range 30).foldl (fun (s : Int) (t : Nat) => s + max 0 (x - (t + 1))) 0))) xs := by
    refine sm_congr _ _ _ fun x hx => ?_
    obtain ⟨h0, h30⟩ := h x hx
    obtain ⟨n, rfl⟩ := Int.eq_ofNat_of_zero_le h0
    have := sq_exc n (by omega)
    omega
  rw [h1, sm_add, sm_add, sm_fold, Int.mul_zero]
  show tot xs + _ = _
  omega
theorem fairB_sqs {a b : List Int} (h : fairB a b = true) : sqs a ≤ sqs b := by
  obtain ⟨h1, h2, _, h4, h5⟩ := fairB_iff.1 h
  rw [sqs_exc (loadsOk_iff.1 h1).2.2, sqs_exc (loadsOk_iff.1 h2).2.2, h5]
  have := fold_mono (List.range 30) (fun t => exc (t + 1) a) (fun t => exc (t + 1) b) (fun t => h4 _) 0 0 (Int.le_refl _)
  omega
/-- the number of loads times the squares is at least the square of the sum -/
theorem cauchy_step (x : Int) (xs : List Int) : ((x :: xs).length : Int) * sqs (x :: xs) - tot (x :: xs) * tot (x :: xs) = xs.length * sqs xs - tot xs * tot xs + sm (fun y => (y - x) * (y - x)) xs := by
  have h1 : sm (fun y => (y - x) * (y - x)) xs = sqs xs - 2 * x * tot xs + xs.length * (x * x) := by
    induction xs with
    | nil => simp [sm, sqs, tot]
    | cons y ys ih =>
      simp only [sqs, tot, sm, List.length_cons] at ih ⊢
      rw [ih]
      push_cast
      grind
  rw [h1]
  simp only [sqs, tot, sm, List.length_cons]
  push_cast
  grind
theorem sq_nonneg (a : Int) : 0 ≤ a * a := by
  rcases Int.le_total 0 a with h | h
  · exact Int.mul_nonneg h h
  · exact Int.mul_nonneg_of_nonpos_of_nonpos h h
theorem cauchy (xs : List Int) : tot xs * tot xs ≤ xs.length * sqs xs := by
  induction xs with
  | nil => simp [tot, sm]
  | cons x xs ih =>
    have h1 := cauchy_step x xs
    have h2 := sm_nonneg (fun y => (y - x) * (y - x)) xs (fun y _ => sq_nonneg _)
    omega
theorem cauchy_eq (xs : List Int) : (xs.length : Int) * sqs xs = tot xs * tot xs ↔ ∀ x ∈ xs, ∀ y ∈ xs, x = y := by
  induction xs with
  | nil => simp [tot, sm]
  | cons x xs ih =>
    have h1 := cauchy_step x xs
    have h0 := cauchy xs
    have hn : ∀ y ∈ xs, 0 ≤ (fun y => (y - x) * (y - x)) y := fun y _ => sq_nonneg _
    have h2 := sm_nonneg (fun y => (y - x) * (y - x)) xs hn
    constructor
    · intro h
      have hz : sm (fun y => (y - x) * (y - x)) xs = 0 := by omega
      have hx : ∀ y ∈ xs, y = x := fun y hy => by
        have h3 := sm_mem _ xs hn y hy
        rw [hz] at h3
        have h4 : (y - x) * (y - x) = 0 := Int.le_antisymm h3 (sq_nonneg _)
        have := Int.mul_eq_zero.1 h4
        omega
      intro u hu v hv
      have : ∀ u ∈ x :: xs, u = x := fun u hu => by
        rcases List.mem_cons.1 hu with rfl | hu
        · rfl
        · exact hx u hu
      rw [this u hu, this v hv]
    · intro h
      have h3 : (xs.length : Int) * sqs xs = tot xs * tot xs := ih.2 (fun u hu v hv => h u (by simp [hu]) v (by simp [hv]))
      have h4 : sm (fun y => (y - x) * (y - x)) xs = 0 := by
        have : sm (fun y => (y - x) * (y - x)) xs = sm (fun _ => 0) xs := sm_congr _ _ _ (fun y hy => by rw [h y (by simp [hy]) x (by simp)]; simp)
        rw [this, sm_const]; omega
      omega
end Go.Proofs.Ytggohgkjdnnndaa
