/- The plain mathematics of chapter 9, second part: spreads, givings, fairest rows, steps. No program is named here. No condition. -/
import Derived.Test.YtggohgkjdnnndaaLoadMath
import Derived.Lib.Slices
namespace Go.Proofs.Ytggohgkjdnnndaa

/-! greatest and least -/
def mx (xs : List Int) : Int := (sortD xs).getD 0 0
def mn (xs : List Int) : Int := (sortD xs).getD (xs.length - 1) 0
theorem mx_spec {xs : List Int} (h : 0 < xs.length) : mx xs ∈ xs ∧ ∀ x ∈ xs, x ≤ mx xs := by
  have hl := sortD_length xs
  have e : mx xs = (sortD xs)[0]'(by omega) := by simp [mx, List.getD, hl, h]
  rw [e]
  refine ⟨(sortD_perm xs).mem_iff.1 (List.getElem_mem _), fun x hx => ?_⟩
  obtain ⟨i, hi, rfl⟩ := List.getElem_of_mem ((sortD_perm xs).mem_iff.2 hx)
  exact desc_get (sortD_desc xs) 0 i (by omega) hi (Nat.zero_le _)
theorem mn_spec {xs : List Int} (h : 0 < xs.length) : mn xs ∈ xs ∧ ∀ x ∈ xs, mn xs ≤ x := by
  have hl := sortD_length xs
  have e : mn xs = (sortD xs)[xs.length - 1]'(by omega) := by
    unfold mn
    rw [List.getD, List.getElem?_eq_getElem (by omega), Option.getD_some]
  rw [e]
  refine ⟨(sortD_perm xs).mem_iff.1 (List.getElem_mem _), fun x hx => ?_⟩
  obtain ⟨i, hi, rfl⟩ := List.getElem_of_mem ((sortD_perm xs).mem_iff.2 hx)
  exact desc_get (sortD_desc xs) i (xs.length - 1) hi (by omega) (by omega)
theorem mx_eq {xs : List Int} {m : Int} (h1 : m ∈ xs) (h2 : ∀ x ∈ xs, x ≤ m) : m = mx xs := by
  have h := mx_spec (List.length_pos_of_mem h1)
  exact Int.le_antisymm (h.2 m h1) (h2 _ h.1)
theorem mn_eq {xs : List Int} {m : Int} (h1 : m ∈ xs) (h2 : ∀ x ∈ xs, m ≤ x) : m = mn xs := by
  have h := mn_spec (List.length_pos_of_mem h1)
  exact Int.le_antisymm (h2 _ h.1) (h.2 m h1)
theorem foldl_max (xs : List Int) : ∀ a : Int, (xs.foldl max a = a ∨ xs.foldl max a ∈ xs) ∧ a ≤ xs.foldl max a ∧ ∀ x ∈ xs, x ≤ xs.foldl max a := by
  induction xs with
  | nil => intro a; exact ⟨.inl rfl, Int.le_refl _, fun x h => by cases h⟩
  | cons y ys ih =>
    intro a
    obtain ⟨h1, h2, h3⟩ := ih (max a y)
    rw [List.foldl_cons]
    refine ⟨?_, by omega, fun x hx => ?_⟩
    · rcases h1 with h | h
      · rcases Int.le_total a y with g | g
        · rw [Int.max_eq_right g] at h ⊢; right; rw [h]; exact List.mem_cons_self
        · rw [Int.max_eq_left g] at h ⊢; left; exact h
      · right; exact List.mem_cons_of_mem _ h
    · rcases List.mem_cons.1 hx with rfl | hx
      · omega
      · exact h3 x hx
theorem foldl_min (xs : List Int) : ∀ a : Int, (xs.foldl min a = a ∨ xs.foldl min a ∈ xs) ∧ xs.foldl min a ≤ a ∧ ∀ x ∈ xs, xs.foldl min a ≤ x := by
  induction xs with
  | nil => intro a; exact ⟨.inl rfl, Int.le_refl _, fun x h => by cases h⟩
  | cons y ys ih =>
    intro a
    obtain ⟨h1, h2, h3⟩ := ih (min a y)
    rw [List.foldl_cons]
    refine ⟨?_, by omega, fun x hx => ?_⟩
    · rcases h1 with h | h
      · rcases Int.le_total a y with g | g
        · rw [Int.min_eq_left g] at h ⊢; left; exact h
        · rw [Int.min_eq_right g] at h ⊢; right; rw [h]; exact List.mem_cons_self
      · right; exact List.mem_cons_of_mem _ h
    · rcases List.mem_cons.1 hx with rfl | hx
      · omega
      · exact h3 x hx
theorem maxOf_mx {xs : List Int} (h : 0 < xs.length) : Lib.maxOf xs = mx xs := by
  obtain ⟨x, ys, rfl⟩ : ∃ x ys, xs = x :: ys := by cases xs with | nil => cases h | cons x ys => exact ⟨x, ys, rfl⟩
  obtain ⟨h1, h2, h3⟩ := foldl_max (x :: ys) x
  have e : Lib.maxOf (x :: ys) = (x :: ys).foldl max x := rfl
  rw [e]
  refine mx_eq ?_ h3
  rcases h1 with h | h
  · rw [h]; exact List.mem_cons_self
  · exact h
theorem minOf_mn {xs : List Int} (h : 0 < xs.length) : Lib.minOf xs = mn xs := by
  obtain ⟨x, ys, rfl⟩ : ∃ x ys, xs = x :: ys := by cases xs with | nil => cases h | cons x ys => exact ⟨x, ys, rfl⟩
  obtain ⟨h1, h2, h3⟩ := foldl_min (x :: ys) x
  have e : Lib.minOf (x :: ys) = (x :: ys).foldl min x := rfl
  rw [e]
  refine mn_eq ?_ h3
  rcases h1 with h | h
  · rw [h]; exact List.mem_cons_self
  · exact h
def spreadOf (xs : List Int) : Int := if loadsOk xs = true then mx xs - mn xs else -1
theorem spreadOf_yes {xs : List Int} (h : loadsOk xs = true) : spreadOf xs = mx xs - mn xs := by simp [spreadOf, h]
theorem spreadOf_no {xs : List Int} (h : loadsOk xs = false) : spreadOf xs = -1 := by simp [spreadOf, h]
theorem mx_mn_bd {xs : List Int} (h : loadsOk xs = true) : 0 ≤ mn xs ∧ mn xs ≤ mx xs ∧ mx xs ≤ 30 := by
  obtain ⟨h1, _, h3⟩ := loadsOk_iff.1 h
  have a := mx_spec (xs := xs) (by omega)
  have b := mn_spec (xs := xs) (by omega)
  exact ⟨(h3 _ b.1).1, a.2 _ b.1, (h3 _ a.1).2⟩
theorem spreadOf_bd {xs : List Int} (h : loadsOk xs = true) : 0 ≤ spreadOf xs ∧ spreadOf xs ≤ 30 := by
  rw [spreadOf_yes h]
  have := mx_mn_bd h
  omega
theorem mx_perm {a b : List Int} (h : a.Perm b) : mx a = mx b := by unfold mx; rw [sortD_of_perm h]
theorem mn_perm {a b : List Int} (h : a.Perm b) : mn a = mn b := by unfold mn; rw [sortD_of_perm h, h.length_eq]
theorem spreadOf_sort (xs : List Int) : spreadOf (sortD xs) = spreadOf xs := by
  unfold spreadOf
  rw [loadsOk_sort, mx_perm (sortD_perm xs), mn_perm (sortD_perm xs)]
def sqsOf (xs : List Int) : Int := if loadsOk xs = true then sqs xs else -1
theorem sqsOf_yes {xs : List Int} (h : loadsOk xs = true) : sqsOf xs = sqs xs := by simp [sqsOf, h]
theorem sqsOf_no {xs : List Int} (h : loadsOk xs = false) : sqsOf xs = -1 := by simp [sqsOf, h]
theorem sqs_bd {xs : List Int} (h : ∀ x ∈ xs, 0 ≤ x ∧ x ≤ 30) (k : Nat) : 0 ≤ sqs (xs.take k) ∧ sqs (xs.take k) ≤ 900 * k := by
  have h' : ∀ x ∈ xs.take k, 0 ≤ x ∧ x ≤ 30 := fun x hx => h x (List.mem_of_mem_take hx)
  refine ⟨sm_nonneg _ _ fun x hx => sq_nonneg x, ?_⟩
  have := sm_le (fun x => x * x) (fun _ => 900) (xs.take k) (fun x hx => by
    have := h' x hx
    have := Int.mul_le_mul this.2 this.2 this.1 (by omega : (0 : Int) ≤ 30)
    omega)
  rw [sm_const, List.length_take] at this
  unfold sqs
  omega
/-- equal squares to the square of the sum just if all are equal -/
theorem cauchy_spread {xs : List Int} (h : loadsOk xs = true) : (xs.length : Int) * sqs xs = tot xs * tot xs ↔ spreadOf xs = 0 := by
  obtain ⟨h1, _, _⟩ := loadsOk_iff.1 h
  have a := mx_spec (xs := xs) (by omega)
  have b := mn_spec (xs := xs) (by omega)
  rw [cauchy_eq, spreadOf_yes h]
  constructor
  · intro g; have := g _ a.1 _ b.1; omega
  · intro g x hx y hy
    have := a.2 x hx; have := a.2 y hy; have := b.2 x hx; have := b.2 y hy
    omega
/-- fairer rows have no greater spread -/
theorem fairB_spread {a b : List Int} (h : fairB a b = true) : spreadOf a ≤ spreadOf b := by
  obtain ⟨ha, hb, hl, he, ht⟩ := fairB_iff.1 h
  rw [spreadOf_yes ha, spreadOf_yes hb]
  have a1 : 0 < a.length := (loadsOk_iff.1 ha).1
  have b1 : 0 < b.length := (loadsOk_iff.1 hb).1
  have A := mx_spec a1
  have B := mx_spec b1
  have C := mn_spec a1
  have D := mn_spec b1
  have e1 : mx a ≤ mx b := by
    have h1 := he (mx b)
    rw [exc_zero _ b B.2] at h1
    have h2 := sm_mem (fun x => max 0 (x - mx b)) a (fun x _ => by omega) (mx a) A.1
    have h3 : exc (mx b) a = sm (fun x => max 0 (x - mx b)) a := rfl
    omega
  have e2 : mn b ≤ mn a := by
    have h1 := he (mn b)
    rw [exc_all _ b D.2] at h1
    have h2 : sm (fun x => (x - mn b) + max 0 (mn b - x)) a = exc (mn b) a := sm_congr _ _ _ fun x _ => by omega
    rw [sm_add, sm_sub, sm_const] at h2
    have h3 := sm_mem (fun x => max 0 (mn b - x)) a (fun x _ => by omega) (mn a) C.1
    have h4 : tot a = sm (fun x => x) a := rfl
    rw [hl] at h2
    omega
  omega
theorem fairB_both {a b : List Int} (h : fairB a b = true) (g : fairB b a = true) : sortD a = sortD b := by
  simp only [fairB, Bool.and_eq_true, decide_eq_true_eq] at h g
  have h1 := (majB_iff.1 h.2).1
  have g1 := (majB_iff.1 g.2).1
  have hl : (sortD a).length = (sortD b).length := by rw [sortD_length, sortD_length]; exact h.1.2
  have heq : ∀ k, k ≤ (sortD a).length → tot ((sortD a).take k) = tot ((sortD b).take k) := fun k hk => Int.le_antisymm (h1 k hk) (g1 k (by omega))
  apply List.ext_getElem hl
  intro i i1 i2
  have s1 := sm_snoc (fun x => x) (sortD a) i i1
  have s2 := sm_snoc (fun x => x) (sortD b) i i2
  have e1 := heq i (by omega)
  have e2 := heq (i + 1) (by omega)
  unfold tot at e1 e2
  omega

/-! givings -/
def givRow (xs : List Int) (f t : Nat) : List Int := (xs.set f (xs.getD f 0 - 1)).set t ((xs.set f (xs.getD f 0 - 1)).getD t 0 + 1)
def givOk (xs : List Int) (f t : Int) : Bool := loadsOk xs && (decide (0 ≤ f) && decide (f < xs.length)) && (decide (0 ≤ t) && decide (t < xs.length)) && decide (f ≠ t) && loadsOk (givRow xs f.toNat t.toNat)
def givList (xs : List Int) (f t : Int) : List Int := if givOk xs f t = true then givRow xs f.toNat t.toNat else []
theorem givRow_length (xs : List Int) (f t : Nat) : (givRow xs f t).length = xs.length := by simp [givRow]
theorem givRow_sm (F : Int → Int) (xs : List Int) (f t : Nat) (hf : f < xs.length) (ht : t < xs.length) (hne : f ≠ t) :
    sm F (givRow xs f t) = sm F xs - F xs[f] + F (xs[f] - 1) - F xs[t] + F (xs[t] + 1) := by
  have e1 : xs.getD f 0 = xs[f] := by simp [List.getD, hf]
  have e2 : (xs.set f (xs[f] - 1)).getD t 0 = xs[t] := by simp [List.getD, ht, hne]
  have e3 : (xs.set f (xs[f] - 1))[t]'(by simpa using ht) = xs[t] := by rw [List.getElem_set]; simp [hne]
  unfold givRow
  rw [e1, e2, sm_set F _ t (by simpa using ht), sm_set F xs f hf, e3]
theorem givRow_get (xs : List Int) (f t : Nat) (hf : f < xs.length) (ht : t < xs.length) (hne : f ≠ t) (j : Nat) (hj : j < xs.length) :
    (givRow xs f t)[j]'(by rw [givRow_length]; exact hj) = if j = t then xs[t] + 1 else if j = f then xs[f] - 1 else xs[j] := by
  have e1 : xs.getD f 0 = xs[f] := by simp [List.getD, hf]
  have e2 : (xs.set f (xs[f] - 1)).getD t 0 = xs[t] := by simp [List.getD, ht, hne]
  unfold givRow
  simp only [e1, e2, List.getElem_set]
  by_cases h1 : t = j
  · subst h1; simp
  · by_cases h2 : f = j
    · subst h2; simp [h1, Ne.symm h1]
    · simp [h1, h2, Ne.symm h1, Ne.symm h2]
theorem givRow_back (xs : List Int) (f t : Nat) (hf : f < xs.length) (ht : t < xs.length) (hne : f ≠ t) : givRow (givRow xs f t) t f = xs := by
  apply List.ext_getElem (by rw [givRow_length, givRow_length])
  intro j h1 h2
  rw [givRow_get _ t f (by rw [givRow_length]; exact ht) (by rw [givRow_length]; exact hf) (Ne.symm hne) j (by rw [givRow_length]; exact h2), givRow_get xs f t hf ht hne f hf, givRow_get xs f t hf ht hne t ht, givRow_get xs f t hf ht hne j h2]
  by_cases e1 : j = f
  · subst e1; simp [hne]
  · by_cases e2 : j = t
    · subst e2; simp [e1]
    · simp [e1, e2]
theorem givOk_iff {xs : List Int} {f t : Int} : givOk xs f t = true ↔ loadsOk xs = true ∧ (0 ≤ f ∧ f < xs.length) ∧ (0 ≤ t ∧ t < xs.length) ∧ f ≠ t ∧ loadsOk (givRow xs f.toNat t.toNat) = true := by
  simp only [givOk, Bool.and_eq_true, decide_eq_true_eq, and_assoc]
theorem givOk_back {xs : List Int} {f t : Int} (h : givOk xs f t = true) : givOk (givRow xs f.toNat t.toNat) t f = true ∧ givRow (givRow xs f.toNat t.toNat) t.toNat f.toNat = xs := by
  obtain ⟨h1, h2, h3, h4, h5⟩ := givOk_iff.1 h
  have e := givRow_back xs f.toNat t.toNat (by omega) (by omega) (by omega)
  exact ⟨givOk_iff.2 ⟨h5, by rw [givRow_length]; exact h3, by rw [givRow_length]; exact h2, Ne.symm h4, by rw [e]; exact h1⟩, e⟩
/-- giving to one who has at least two fewer makes it fairer -/
theorem giv_fair {xs : List Int} {f t : Int} (h : givOk xs f t = true) (hf : f.toNat < xs.length) (ht : t.toNat < xs.length) (hg : 2 ≤ xs[f.toNat] - xs[t.toNat]) :
    fairB (givRow xs f.toNat t.toNat) xs = true ∧ fairB xs (givRow xs f.toNat t.toNat) = false ∧ sqs (givRow xs f.toNat t.toNat) < sqs xs := by
  obtain ⟨h1, h2, h3, h4, h5⟩ := givOk_iff.1 h
  have hne : f.toNat ≠ t.toNat := by omega
  have hsq : sqs (givRow xs f.toNat t.toNat) < sqs xs := by
    unfold sqs
    rw [givRow_sm _ xs _ _ hf ht hne]
    generalize xs[f.toNat] = a at hg
    generalize xs[t.toNat] = b at hg
    have e1 : (a - 1) * (a - 1) = a * a - 2 * a + 1 := by grind
    have e2 : (b + 1) * (b + 1) = b * b + 2 * b + 1 := by grind
    omega
  have hfair : fairB (givRow xs f.toNat t.toNat) xs = true := by
    refine fairB_iff.2 ⟨h5, h1, givRow_length _ _ _, fun s => ?_, ?_⟩
    · unfold exc
      rw [givRow_sm _ xs _ _ hf ht hne]
      omega
    · unfold tot
      rw [givRow_sm _ xs _ _ hf ht hne]
      omega
  refine ⟨hfair, ?_, hsq⟩
  rw [← Bool.not_eq_true]
  intro hb
  have := fairB_sqs hb
  omega

/-! fairest rows -/
def even (n : Nat) (s : Int) : List Int := (List.range n).map (fun k : Nat => s / n + if (k : Int) < s % n then 1 else 0)
def fairest (p d : Int) : List Int := if (decide (1 ≤ p) && decide (p ≤ 6) && decide (0 ≤ d) && decide (d ≤ 30)) = true then even p.toNat d else []
theorem even_length (n : Nat) (s : Int) : (even n s).length = n := by simp [even]
theorem even_get (n : Nat) (s : Int) (k : Nat) (h : k < n) : (even n s)[k]'(by rw [even_length]; exact h) = s / n + if (k : Int) < s % n then 1 else 0 := by simp [even]
theorem even_desc (n : Nat) (s : Int) : Desc (even n s) := by
  refine List.pairwise_iff_getElem.2 fun i j hi hj hij => ?_
  rw [even_length] at hi hj
  rw [even_get n s i hi, even_get n s j hj]
  split <;> split <;> omega
theorem even_two (n : Nat) (s : Int) (x : Int) (h : x ∈ even n s) : x = s / n ∨ x = s / n + 1 := by
  obtain ⟨k, hk, rfl⟩ := List.getElem_of_mem h
  rw [even_length] at hk
  rw [even_get n s k hk]
  split <;> omega
theorem cnt_lt (r : Int) (n : Nat) (h0 : 0 ≤ r) (hr : r ≤ n) : sm (fun x => x) ((List.range n).map (fun k : Nat => if (k : Int) < r then (1 : Int) else 0)) = r := by
  induction n generalizing r with
  | zero => simp [sm]; omega
  | succ n ih =>
    rw [List.range_succ, List.map_append, sm_append]
    simp only [List.map_cons, List.map_nil, sm]
    by_cases h : r ≤ n
    · rw [ih r h0 h, if_neg (by omega)]; omega
    · have : r = n + 1 := by omega
      subst this
      have e : (List.range n).map (fun k : Nat => if (k : Int) < (n : Int) + 1 then (1 : Int) else 0) = (List.range n).map (fun k : Nat => if (k : Int) < (n : Int) then (1 : Int) else 0) := by
        refine List.map_congr_left fun k hk => ?_
        have := List.mem_range.1 hk
        rw [if_pos (by omega), if_pos (by omega)]
      rw [e, ih n (by omega) (Int.le_refl _), if_pos (by omega)]
      omega
theorem sm_map_add (f g : Nat → Int) (ks : List Nat) : sm (fun x => x) (ks.map (fun k => f k + g k)) = sm (fun x => x) (ks.map f) + sm (fun x => x) (ks.map g) := by
  induction ks with
  | nil => rfl
  | cons k ks ih => simp only [List.map_cons, sm, ih]; omega
theorem sm_map_const (c : Int) (ks : List Nat) : sm (fun x => x) (ks.map (fun _ => c)) = ks.length * c := by
  induction ks with
  | nil => simp [sm]
  | cons k ks ih => simp only [List.map_cons, sm, ih, List.length_cons]; grind
theorem even_tot (n : Nat) (s : Int) (hn : 0 < n) : tot (even n s) = s := by
  unfold tot even
  rw [sm_map_add, sm_map_const, cnt_lt _ _ (Int.emod_nonneg _ (by omega)) (Int.le_of_lt (Int.emod_lt_of_pos _ (by omega))), List.length_range]
  have := Int.mul_ediv_add_emod s n
  omega
theorem even_bd (n : Nat) (s : Int) (hn : 0 < n) (h0 : 0 ≤ s) (h1 : s ≤ 30) : ∀ x ∈ even n s, 0 ≤ x ∧ x ≤ 30 := by
  intro x hx
  have h2 : ∀ y ∈ even n s, 0 ≤ y := fun y hy => by
    have := Int.ediv_nonneg h0 (by omega : (0 : Int) ≤ n)
    rcases even_two n s y hy with rfl | rfl <;> omega
  have := sm_mem (fun x => x) _ h2 x hx
  have e := even_tot n s hn
  unfold tot at e
  exact ⟨h2 x hx, by omega⟩
/-- even shares are fairer than all rows of as many with the same sum -/
theorem even_exc (xs : List Int) (hn : 0 < xs.length) (t : Int) : exc t (even xs.length (tot xs)) ≤ exc t xs := by
  by_cases h : tot xs / xs.length + 1 ≤ t
  · rw [exc_zero t _ (fun x hx => by rcases even_two _ _ x hx with rfl | rfl <;> omega)]
    exact sm_nonneg _ _ (fun x _ => by omega)
  · rw [exc_all t _ (fun x hx => by rcases even_two _ _ x hx with rfl | rfl <;> omega), even_tot _ _ hn, even_length]
    have := sm_le (fun x => x - t) (fun x => max 0 (x - t)) xs (fun x _ => by omega)
    rw [sm_sub, sm_const] at this
    exact this
theorem even_fair {xs : List Int} (h : loadsOk xs = true) (hs : tot xs ≤ 30) : loadsOk (even xs.length (tot xs)) = true ∧ fairB (even xs.length (tot xs)) xs = true := by
  obtain ⟨h1, h6, hb⟩ := loadsOk_iff.1 h
  have h0 : 0 ≤ tot xs := sm_nonneg _ _ fun x hx => (hb x hx).1
  have hok : loadsOk (even xs.length (tot xs)) = true := loadsOk_iff.2 ⟨by rw [even_length]; exact h1, by rw [even_length]; exact h6, even_bd _ _ h1 h0 hs⟩
  exact ⟨hok, fairB_iff.2 ⟨hok, h, even_length _ _, even_exc xs h1, even_tot _ _ h1⟩⟩
theorem even_spread {n : Nat} {s : Int} (h : loadsOk (even n s) = true) : spreadOf (even n s) ≤ 1 := by
  rw [spreadOf_yes h]
  have h1 := (loadsOk_iff.1 h).1
  have a := even_two _ _ _ (mx_spec (xs := even n s) h1).1
  have b := even_two _ _ _ (mn_spec (xs := even n s) h1).1
  omega

/-! steps -/
def stepTo (s e : List Int) : Nat → Int
  | 0 => 0
  | k + 1 => stepTo s e k + max 0 (s.getD k 0 - e.getD k 0)
def stepsOf (xs : List Int) : Int := if loadsOk xs = true then stepTo (sortD xs) (even xs.length (tot xs)) xs.length else -1
theorem stepsOf_no {xs : List Int} (h : loadsOk xs = false) : stepsOf xs = -1 := by simp [stepsOf, h]
theorem stepsOf_yes {xs : List Int} (h : loadsOk xs = true) : stepsOf xs = stepTo (sortD xs) (even xs.length (tot xs)) xs.length := by simp [stepsOf, h]
theorem stepTo_step {s e : List Int} {k : Nat} (h1 : k < s.length) (h2 : k < e.length) : stepTo s e (k + 1) = stepTo s e k + max 0 (s[k] - e[k]) := by
  simp [stepTo, List.getD, h1, h2]
theorem stepTo_bd {s e : List Int} (h : ∀ x ∈ s, x ≤ 30) (g : ∀ x ∈ e, 0 ≤ x) (k : Nat) (h1 : k ≤ s.length) (h2 : k ≤ e.length) : 0 ≤ stepTo s e k ∧ stepTo s e k ≤ 30 * k := by
  induction k with
  | zero => simp [stepTo]
  | succ k ih =>
    have := ih (by omega) (by omega)
    rw [stepTo_step (by omega) (by omega)]
    have a := h s[k] (List.getElem_mem _)
    have b := g e[k] (List.getElem_mem _)
    omega
/-- how many of the first ones are more than q -/
theorem cnt_take {s : List Int} (hd : Desc s) (q : Int) (r : Nat) : cnt q (s.take r) = min (r : Int) (cnt q s) := by
  induction s generalizing r with
  | nil => simp [cnt, sm]; omega
  | cons y ys ih =>
    have hp := List.pairwise_cons.1 hd
    have hn : 0 ≤ cnt q ys := sm_nonneg _ _ fun x _ => by split <;> omega
    cases r with
    | zero =>
      simp only [List.take_zero, cnt, sm]
      unfold cnt at hn
      split <;> omega
    | succ r =>
      have h1 := ih hp.2 r
      rw [List.take_succ_cons]
      simp only [cnt, sm] at h1 hn ⊢
      rw [h1]
      by_cases hy : q < y
      · rw [if_pos hy]; omega
      · rw [if_neg hy]
        have hz : sm (fun x => if q < x then 1 else 0) ys = 0 := by
          have := sm_le (fun x => if q < x then 1 else 0) (fun _ => 0) ys (fun x hx => by have := hp.1 x hx; rw [if_neg (by omega)]; exact Int.le_refl _)
          rw [sm_const] at this
          omega
        rw [hz]; omega
theorem stepTo_exc (s : List Int) (q : Int) (r : Nat) (e : List Int) (hl : e.length = s.length) (he : ∀ k (h : k < e.length), e[k] = q + if k < r then 1 else 0) (k : Nat) (hk : k ≤ s.length) :
    stepTo s e k = exc q (s.take k) - cnt q ((s.take k).take r) := by
  induction k with
  | zero => simp [stepTo, exc, cnt, sm]
  | succ k ih =>
    rw [stepTo_step (by omega) (by omega), ih (by omega), he k (by omega)]
    have e1 : exc q (s.take (k + 1)) = exc q (s.take k) + max 0 (s[k] - q) := sm_snoc _ s k (by omega)
    rw [e1, List.take_take, List.take_take]
    by_cases h : k < r
    · rw [if_pos h, Nat.min_eq_right (by omega), Nat.min_eq_right (by omega)]
      have e2 : cnt q (s.take (k + 1)) = cnt q (s.take k) + (if q < s[k] then 1 else 0) := sm_snoc _ s k (by omega)
      rw [e2]
      split <;> omega
    · rw [if_neg h, Nat.min_eq_left (by omega), Nat.min_eq_left (by omega)]
      omega
/-- the steps, out of sums over the loads in whatever order -/
theorem steps_exc {xs : List Int} (h : loadsOk xs = true) : stepsOf xs = exc (tot xs / xs.length) xs - min (tot xs % xs.length) (cnt (tot xs / xs.length) xs) := by
  have h1 := (loadsOk_iff.1 h).1
  have hr := Int.emod_nonneg (tot xs) (by omega : (xs.length : Int) ≠ 0)
  rw [stepsOf_yes h, stepTo_exc (sortD xs) (tot xs / xs.length) (tot xs % xs.length).toNat _ (by rw [even_length, sortD_length]) (fun k hk => by
    rw [even_length] at hk
    rw [even_get _ _ k hk]
    congr 1
    by_cases g : (k : Int) < tot xs % xs.length
    · rw [if_pos g, if_pos (by omega)]
    · rw [if_neg g, if_neg (by omega)]) xs.length (by rw [sortD_length]; exact Nat.le_refl _)]
  rw [List.take_of_length_le (by rw [sortD_length]; exact Nat.le_refl _), cnt_take (sortD_desc xs), exc_sort]
  have e : cnt (tot xs / xs.length) (sortD xs) = cnt (tot xs / xs.length) xs := sm_perm _ (sortD_perm xs)
  rw [e]
  omega
/-- what is known of the sums about the quotient -/
theorem steps_facts {xs : List Int} (h : loadsOk xs = true) : ∃ q r : Int, q = tot xs / xs.length ∧ r = tot xs % xs.length ∧ 0 ≤ r ∧ r < xs.length ∧ stepsOf xs = exc q xs - min r (cnt q xs) ∧ exc q xs - dfc q xs = r ∧ 0 ≤ cnt q xs ∧ cnt q xs ≤ exc q xs ∧ 0 ≤ dfc q xs ∧
    (q < mn xs → (xs.length : Int) ≤ exc q xs) ∧ (mx xs ≤ q → exc q xs = 0) ∧ (mx xs ≤ q + 1 → exc q xs = cnt q xs) ∧ (q + 1 < mx xs → cnt q xs + 1 ≤ exc q xs) ∧ (q ≤ mn xs → dfc q xs = 0) ∧ (mn xs < q → q - mn xs ≤ dfc q xs) := by
  have h1 := (loadsOk_iff.1 h).1
  have A := mx_spec (xs := xs) h1
  have B := mn_spec (xs := xs) h1
  refine ⟨_, _, rfl, rfl, Int.emod_nonneg _ (by omega), Int.emod_lt_of_pos _ (by omega), steps_exc h, ?_, ?_, ?_, ?_, ?_, ?_, ?_, ?_, ?_, ?_⟩
  all_goals generalize hq : tot xs / xs.length = q
  · have e : exc q xs = sm (fun x => (x - q) + max 0 (q - x)) xs := sm_congr _ _ _ fun x _ => by omega
    rw [sm_add, sm_sub, sm_const] at e
    have e2 : dfc q xs = sm (fun x => max 0 (q - x)) xs := rfl
    have e3 : tot xs = sm (fun x => x) xs := rfl
    have := Int.mul_ediv_add_emod (tot xs) xs.length
    rw [hq] at this
    omega
  · exact sm_nonneg _ _ fun x _ => by split <;> omega
  · exact sm_le _ _ _ fun x _ => by split <;> omega
  · exact sm_nonneg _ _ fun x _ => by omega
  · intro g
    have := sm_le (fun _ => 1) (fun x => max 0 (x - q)) xs (fun x hx => by have := B.2 x hx; omega)
    rw [sm_const] at this
    unfold exc; omega
  · intro g; exact exc_zero q xs fun x hx => by have := A.2 x hx; omega
  · intro g; exact sm_congr _ _ _ fun x hx => by have := A.2 x hx; split <;> omega
  · intro g
    have := sm_mem (fun x => max 0 (x - q) - if q < x then 1 else 0) xs (fun x _ => by split <;> omega) (mx xs) A.1
    rw [sm_sub, if_pos (by omega)] at this
    unfold exc cnt
    omega
  · intro g
    have := sm_le (fun x => max 0 (q - x)) (fun _ => 0) xs (fun x hx => by have := B.2 x hx; omega)
    rw [sm_const] at this
    have h0 : 0 ≤ dfc q xs := sm_nonneg _ _ fun x _ => by omega
    unfold dfc at h0 ⊢
    omega
  · intro g
    have := sm_mem (fun x => max 0 (q - x)) xs (fun x _ => by omega) (mn xs) B.1
    unfold dfc
    omega
theorem steps_nonneg {xs : List Int} (h : loadsOk xs = true) : 0 ≤ stepsOf xs ∧ stepsOf xs ≤ 180 := by
  have h6 := (loadsOk_iff.1 h).2
  have h0 : 0 ≤ tot xs := sm_nonneg _ _ fun x hx => (h6.2 x hx).1
  rw [stepsOf_yes h]
  have := stepTo_bd (s := sortD xs) (e := even xs.length (tot xs)) (fun x hx => (h6.2 x ((sortD_perm xs).mem_iff.1 hx)).2) (fun x hx => by
    have := Int.ediv_nonneg h0 (by omega : (0 : Int) ≤ xs.length)
    rcases even_two _ _ x hx with rfl | rfl <;> omega) xs.length (by rw [sortD_length]; exact Nat.le_refl _) (by rw [even_length]; exact Nat.le_refl _)
  omega
theorem steps_spread {xs : List Int} (h : loadsOk xs = true) : stepsOf xs = 0 ↔ spreadOf xs ≤ 1 := by
  obtain ⟨q, r, -, -, f1, f2, f3, f4, f5, f6, f7, f8, f9, f10, f11, f12, f13⟩ := steps_facts h
  have hb := mx_mn_bd h
  rw [spreadOf_yes h, f3]
  constructor
  · intro g
    by_cases c1 : q + 1 < mx xs
    · have := f11 c1; omega
    · by_cases c2 : mn xs < q
      · have := f13 c2
        have := f10 (by omega)
        omega
      · omega
  · intro g
    by_cases c1 : q < mn xs
    · have := f8 c1
      have := f12 (by omega)
      omega
    · by_cases c2 : mn xs < q
      · have := f13 c2
        have := f9 (by omega)
        omega
      · have := f12 (by omega)
        have := f10 (by omega)
        omega
/-- what a giving turns of the sums -/
theorem giv_sums {xs : List Int} {f t : Int} (h : givOk xs f t = true) (hf : f.toNat < xs.length) (ht : t.toNat < xs.length) : ∃ q r : Int, q = tot xs / xs.length ∧ r = tot xs % xs.length ∧ 0 ≤ r ∧
    stepsOf xs = exc q xs - min r (cnt q xs) ∧ stepsOf (givRow xs f.toNat t.toNat) = exc q xs - max 0 (xs[f.toNat] - q) + max 0 (xs[f.toNat] - 1 - q) - max 0 (xs[t.toNat] - q) + max 0 (xs[t.toNat] + 1 - q) -
      min r (cnt q xs - (if q < xs[f.toNat] then 1 else 0) + (if q < xs[f.toNat] - 1 then 1 else 0) - (if q < xs[t.toNat] then 1 else 0) + (if q < xs[t.toNat] + 1 then 1 else 0)) := by
  obtain ⟨h1, h2, h3, h4, h5⟩ := givOk_iff.1 h
  have hne : f.toNat ≠ t.toNat := by omega
  have hl := givRow_length xs f.toNat t.toNat
  have ht' : tot (givRow xs f.toNat t.toNat) = tot xs := by unfold tot; rw [givRow_sm _ xs _ _ hf ht hne]; omega
  refine ⟨_, _, rfl, rfl, Int.emod_nonneg _ (by omega), steps_exc h1, ?_⟩
  rw [steps_exc h5, ht', hl]
  have a := givRow_sm (fun x => max 0 (x - tot xs / xs.length)) xs f.toNat t.toNat hf ht hne
  have b := givRow_sm (fun x => if tot xs / xs.length < x then 1 else 0) xs f.toNat t.toNat hf ht hne
  unfold exc cnt
  rw [a, b]
theorem giv_steps {xs : List Int} {f t : Int} (h : givOk xs f t = true) : stepsOf (givRow xs f.toNat t.toNat) ≤ stepsOf xs + 1 ∧ stepsOf xs ≤ stepsOf (givRow xs f.toNat t.toNat) + 1 := by
  obtain ⟨h1, h2, h3, h4, h5⟩ := givOk_iff.1 h
  obtain ⟨q, r, -, -, hr, e1, e2⟩ := giv_sums h (by omega) (by omega)
  rw [e1, e2]
  generalize xs[f.toNat] = a
  generalize xs[t.toNat] = b
  generalize exc q xs = E
  generalize cnt q xs = C
  split <;> split <;> split <;> split <;> omega
/-- from the greatest to the least one a giving is a step -/
theorem giv_best {xs : List Int} (h : loadsOk xs = true) (hn : 0 < stepsOf xs) (f t : Nat) (hf : f < xs.length) (ht : t < xs.length) (hmx : xs[f] = mx xs) (hmn : xs[t] = mn xs) :
    givOk xs f t = true ∧ stepsOf (givRow xs f t) = stepsOf xs - 1 := by
  obtain ⟨q, r, hq, hr, f1, f2, f3, f4, f5, f6, f7, f8, f9, f10, f11, f12, f13⟩ := steps_facts h
  have hb := mx_mn_bd h
  have hsp : ¬ spreadOf xs ≤ 1 := fun g => by have := (steps_spread h).2 g; omega
  rw [spreadOf_yes h] at hsp
  have hne : f ≠ t := fun e => by subst e; omega
  have hrow : loadsOk (givRow xs f t) = true := by
    obtain ⟨l1, l6, lb⟩ := loadsOk_iff.1 h
    refine loadsOk_iff.2 ⟨by rw [givRow_length]; exact l1, by rw [givRow_length]; exact l6, fun x hx => ?_⟩
    obtain ⟨j, hj, rfl⟩ := List.getElem_of_mem hx
    rw [givRow_length] at hj
    rw [givRow_get xs f t hf ht hne j hj]
    have := lb xs[j] (List.getElem_mem hj)
    split
    · omega
    · split <;> omega
  have hok : givOk xs f t = true := givOk_iff.2 ⟨h, by omega, by omega, by omega, hrow⟩
  refine ⟨hok, ?_⟩
  obtain ⟨q', r', hq', hr', -, -, e2⟩ := giv_sums hok hf ht
  rw [← hq] at hq'
  rw [← hr] at hr'
  subst hq' hr'
  simp only [Int.toNat_natCast, hmx, hmn] at e2
  rw [e2, f3]
  rw [f3] at hn
  generalize mx xs = a at *
  generalize mn xs = b at *
  generalize exc q' xs = E at *
  generalize cnt q' xs = C at *
  generalize dfc q' xs = D at *
  by_cases c1 : q' < b
  · have := f8 c1; have := f12 (by omega)
    omega
  · by_cases c2 : b < q'
    · have := f13 c2
      by_cases c3 : q' + 1 < a
      · rw [if_pos (by omega), if_pos (by omega), if_neg (by omega), if_neg (by omega)]
        omega
      · have := f10 (by omega)
        by_cases c4 : a ≤ q'
        · have := f9 c4; omega
        · rw [if_pos (by omega), if_neg (by omega), if_neg (by omega), if_neg (by omega)]
          omega
    · have := f12 (by omega)
      have : q' + 1 < a := by omega
      rw [if_pos (by omega), if_pos (by omega), if_neg (by omega), if_pos (by omega)]
      omega
end Go.Proofs.Ytggohgkjdnnndaa
