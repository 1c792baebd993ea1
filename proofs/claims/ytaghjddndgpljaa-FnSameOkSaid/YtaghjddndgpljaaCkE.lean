/- Plain mathematics of words: back, rolled, counted, differing. No program, no condition. Plain mathematics of runs. No program, no condition. Rules as plain data: which are rules, what they ask of a word, how their machines go on. No program is named here. No condition. The search for the shortest word that a machine takes, as plain data. No program is named here. No condition. The shortest word: it is taken, no shorter one is, and there is none exactly if nothing is taken. No condition. The program's ShortestTaken: the search for the shortest word. No condition. Two small machines that take di -/
import Derived.Test.YtaghjddndgpljaaMath
import Derived.Test.YtaghjddndgpljaaBfs
import Derived.Test.YtaghjddndgpljaaStep
import Derived.Test.YtaghjddndgpljaaLangWord
import Derived.Test.YtaghjddndgpljaaTakes
import Derived.Test.YtaghjddndgpljaaApart
import Derived.Test.YtaghjddndgpljaaQueue
import Derived.Deep.AppendLies
import Derived.Deep.RegionLaw
import Derived.Test.YtaghjddndgpljaaLeastAll
import Derived.Test.YtaghjddndgpljaaTrim
import Derived.Test.YtaghjddndgpljaaSpecLive
import Derived.Test.YtaghjddndgpljaaImplSame
import Derived.Deep.RegionHeld3
import Derived.Test.YtaghjddndgpljaaPairBase

namespace Go.Proofs.Ytaghjddndgpljaa

theorem backStr_yes {s : ByteArray} (h : wordOk s = true) : backStr s = backFrom s 0 := by simp [backStr, h]
theorem backStr_no {s : ByteArray} (h : wordOk s = false) : backStr s = ⟨#[]⟩ := by simp [backStr, h]
theorem back0_list (s : ByteArray) : (backFrom s 0).data.toList = s.data.toList.reverse := by simp [backFrom]
theorem wordOk_list {s : ByteArray} : wordOk s = true ↔ (∀ x ∈ s.data.toList, isL x = true) ∧ s.data.toList.length ≤ 14 := by
  simp only [wordOk, Bool.and_eq_true, decide_eq_true_eq, allL, List.all_eq_true, len_data]
theorem wordOk_back {s : ByteArray} (h : wordOk s = true) : wordOk (backStr s) = true := by
  rw [backStr_yes h, wordOk_list, back0_list]
  have := wordOk_list.1 h
  exact ⟨fun x hx => this.1 x (List.mem_reverse.1 hx), by rw [List.length_reverse]; exact this.2⟩
theorem back_back {s : ByteArray} (h : wordOk s = true) : backStr (backStr s) = s := by
  rw [backStr_yes (wordOk_back h), backStr_yes h]
  apply bytes_ext
  rw [back0_list, back0_list, List.reverse_reverse]
theorem back_size {s : ByteArray} (h : wordOk s = true) : (backStr s).size = s.size := by
  rw [← len_data, ← len_data, backStr_yes h, back0_list, List.length_reverse]
theorem back_no_size {s : ByteArray} (h : wordOk s = false) : (backStr s).size = 0 := by rw [backStr_no h]; rfl

/-- a rolled list -/
theorem rolled_list (s : ByteArray) (k : Nat) (h : rolledOk s k = true) : (rolledStr s k).data.toList = s.data.toList.drop k ++ s.data.toList.take k := by
  rw [rolledStr_yes s k h, ByteArray.data_append, Array.toList_append, ByteArray.data_extract, ByteArray.data_extract, Array.toList_extract, Array.toList_extract, List.extract_eq_take_drop, List.extract_eq_take_drop]
  rw [List.drop_zero, Nat.sub_zero]
  congr 1
  rw [List.take_of_length_le]
  rw [List.length_drop, len_data]; exact Nat.le_refl _
theorem rolledOk_nat {s : ByteArray} {k : Nat} : rolledOk s k = true ↔ wordOk s = true ∧ k ≤ s.size := by
  simp only [rolledOk, Bool.and_eq_true, decide_eq_true_eq]
  exact ⟨fun h => ⟨h.1, by omega⟩, fun h => ⟨h.1, by omega, by omega⟩⟩
theorem rolledOk_int {s : ByteArray} {k : Int} (h : rolledOk s k = true) : ∃ n : Nat, k = n ∧ n ≤ s.size ∧ wordOk s = true := by
  simp only [rolledOk, Bool.and_eq_true, decide_eq_true_eq] at h
  exact ⟨k.toNat, by omega, by omega, h.1⟩
theorem rolled_word {s : ByteArray} {k : Nat} (h : rolledOk s k = true) : wordOk (rolledStr s k) = true := by
  have hw := wordOk_list.1 (rolledOk_nat.1 h).1
  rw [wordOk_list, rolled_list s k h]
  refine ⟨fun x hx => ?_, ?_⟩
  · rcases List.mem_append.1 hx with h1 | h1
    · exact hw.1 x (List.mem_of_mem_drop h1)
    · exact hw.1 x (List.mem_of_mem_take h1)
  · rw [List.length_append, List.length_drop, List.length_take]; omega
theorem rolled_size {s : ByteArray} {k : Nat} (h : rolledOk s k = true) : (rolledStr s k).size = s.size := by
  have hk := (rolledOk_nat.1 h).2
  rw [← len_data, rolled_list s k h, List.length_append, List.length_drop, List.length_take, len_data]; omega
theorem rolled_rest {s : ByteArray} {k : Nat} (h : rolledOk s k = true) : rolledOk (rolledStr s k) ((s.size : Int) - k) = true := by
  have hk := (rolledOk_nat.1 h).2
  rw [show ((s.size : Int) - k) = ((s.size - k : Nat) : Int) from by omega, rolledOk_nat, rolled_size h]
  exact ⟨rolled_word h, by omega⟩
theorem rolled_back {s : ByteArray} {k : Nat} (h : rolledOk s k = true) : rolledStr (rolledStr s k) ((s.size : Int) - k) = s := by
  have hk := (rolledOk_nat.1 h).2
  have hr := rolled_rest h
  rw [show ((s.size : Int) - k) = ((s.size - k : Nat) : Int) from by omega] at hr ⊢
  apply bytes_ext
  rw [rolled_list _ _ hr, rolled_list s k h]
  have hl : (s.data.toList.drop k).length = s.size - k := by rw [List.length_drop, len_data]
  rw [← hl, List.drop_left, List.take_left, List.take_append_drop]

theorem rolled_last {s : ByteArray} (h : rolledOk s 1 = true) (h0 : 0 < s.size) (h1 : s.size - 1 < (rolledStr s 1).size) : (rolledStr s 1)[s.size - 1] = s[0] := by
  have hl : (rolledStr s 1).data.toList = s.data.toList.drop 1 ++ s.data.toList.take 1 := rolled_list s 1 h
  have hd : (s.data.toList.drop 1).length = s.size - 1 := by rw [List.length_drop, len_data]
  have h2 : s.size - 1 < (rolledStr s 1).data.toList.length := by rw [len_data]; exact h1
  show (rolledStr s 1).data.toList[s.size - 1]'h2 = s.data.toList[0]'(by rw [len_data]; exact h0)
  simp only [hl]
  rw [List.getElem_append_right (by rw [hd]; exact Nat.le_refl _)]
  simp only [hd, Nat.sub_self, List.getElem_take]

/-- how often a byte is in a list -/
theorem cntTo_shift (p : Nat → Bool) (k : Nat) : cntTo p (k + 1) = (if p 0 = true then 1 else 0) + cntTo (fun i => p (i + 1)) k := by
  induction k with
  | zero => simp [cntTo]
  | succ k ih => rw [cntTo, ih, cntTo]; omega
theorem cntEq_count (l : List UInt8) (c : UInt8) : cntEq l c l.length = (l.countP (· == c) : Int) := by
  induction l with
  | nil => rfl
  | cons a l ih =>
    simp only [cntEq, List.length_cons] at ih ⊢
    rw [cntTo_shift]
    have e : (fun i => (a :: l).getD (i + 1) 0 == c) = fun i => l.getD i 0 == c := by funext i; simp [List.getD]
    rw [e, ih, List.countP_cons]
    simp only [List.getD_cons_zero]
    split <;> omega
theorem countOf_list {s t : ByteArray} (h : wordOk s = true) (g : letterOk t = true) : countOf s t = (s.data.toList.countP (· == byteAt t 0) : Int) := by
  have e : countOf s t = cntEq s.data.toList (byteAt t 0) s.size := by simp [countOf, h, g]
  rw [e, ← len_data, cntEq_count]
theorem countOf_back {s t : ByteArray} (h : wordOk s = true) (g : letterOk t = true) : countOf (backStr s) t = countOf s t := by
  rw [countOf_list h g, countOf_list (wordOk_back h) g, backStr_yes h, back0_list, List.countP_reverse]
theorem countOf_rolled {s t : ByteArray} {k : Nat} (h : rolledOk s k = true) (g : letterOk t = true) : countOf (rolledStr s k) t = countOf s t := by
  rw [countOf_list (rolledOk_nat.1 h).1 g, countOf_list (rolled_word h) g, rolled_list s k h, List.countP_append, Int.natCast_add, Int.add_comm, ← Int.natCast_add, ← List.countP_append, List.take_append_drop]
theorem three_counts (l : List UInt8) (h : ∀ x ∈ l, isL x = true) : l.countP (· == 114) + l.countP (· == 100) + l.countP (· == 110) = l.length := by
  induction l with
  | nil => rfl
  | cons a l ih =>
    have h1 := ih (fun x hx => h x (List.mem_cons_of_mem _ hx))
    have h2 := h a (List.mem_cons_self ..)
    simp only [isL, Bool.or_eq_true, beq_iff_eq] at h2
    simp only [List.countP_cons, List.length_cons]
    rcases h2 with (rfl | rfl) | rfl <;> simp <;> omega
theorem countOf_three {s : ByteArray} (h : wordOk s = true) : countOf s ⟨#[114]⟩ + countOf s ⟨#[100]⟩ + countOf s ⟨#[110]⟩ = s.size := by
  rw [countOf_list h (by decide +kernel), countOf_list h (by decide +kernel), countOf_list h (by decide +kernel)]
  have e1 : byteAt ⟨#[114]⟩ 0 = 114 := rfl
  have e2 : byteAt ⟨#[100]⟩ 0 = 100 := rfl
  have e3 : byteAt ⟨#[110]⟩ 0 = 110 := rfl
  rw [e1, e2, e3]
  have := three_counts s.data.toList (wordOk_list.1 h).1
  rw [len_data] at this
  omega
theorem countOf_bd {s t : ByteArray} (h : wordOk s = true) (g : letterOk t = true) : 0 ≤ countOf s t ∧ countOf s t ≤ s.size := by
  rw [countOf_list h g]
  have := List.countP_le_length (l := s.data.toList) (p := (· == byteAt t 0))
  rw [len_data] at this
  omega

/-- differences -/
theorem cntTo_congr {p q : Nat → Bool} (k : Nat) (h : ∀ i, i < k → p i = q i) : cntTo p k = cntTo q k := by
  induction k with
  | zero => rfl
  | succ k ih => rw [cntTo, cntTo, ih (fun i hi => h i (by omega)), h k (by omega)]
theorem cntNe_comm (l m : List UInt8) (k : Nat) : cntNe l m k = cntNe m l k := by
  apply cntTo_congr
  intro i _
  rw [Bool.eq_iff_iff, bne_iff_ne, bne_iff_ne]; exact ⟨Ne.symm, Ne.symm⟩
theorem cntTo_zero {p : Nat → Bool} {k : Nat} : cntTo p k = 0 ↔ ∀ i, i < k → p i = false := by
  induction k with
  | zero => simp [cntTo]
  | succ k ih =>
    have hb := cntTo_bd p k
    rw [cntTo]
    cases h : p k with
    | true =>
      simp
      refine ⟨fun e => by omega, fun e => ?_⟩
      have := e k (by omega)
      rw [h] at this; cases this
    | false =>
      simp
      rw [ih]
      refine ⟨fun e i hi => ?_, fun e i hi => e i (by omega)⟩
      by_cases hk : i = k
      · rw [hk, h]
      · exact e i (by omega)
theorem cntTo_tri {p q r : Nat → Bool} (k : Nat) (h : ∀ i, i < k → p i = true → q i = true ∨ r i = true) : cntTo p k ≤ cntTo q k + cntTo r k := by
  induction k with
  | zero => simp [cntTo]
  | succ k ih =>
    have i1 := ih (fun i hi => h i (by omega))
    have i2 := h k (by omega)
    rw [cntTo, cntTo, cntTo]
    cases hp : p k <;> cases hq : q k <;> cases hr : r k <;> simp_all <;> omega
theorem differOf_comm (s t : ByteArray) : differOf s t = differOf t s := by
  unfold differOf
  by_cases e : s.size = t.size
  · rw [cntNe_comm, ← e]
    cases wordOk s <;> cases wordOk t <;> simp
  · have e' : ¬ t.size = s.size := fun h => e h.symm
    simp [e, e']
theorem differOf_bd (s t : ByteArray) : -1 ≤ differOf s t ∧ differOf s t ≤ s.size := by
  unfold differOf
  have := cntNe_bd s.data.toList t.data.toList s.size
  split <;> omega
theorem differOf_ok {s t : ByteArray} (h : 0 ≤ differOf s t) : wordOk s = true ∧ wordOk t = true ∧ s.size = t.size := by
  unfold differOf at h
  split at h
  · rename_i hc; simp only [Bool.and_eq_true, decide_eq_true_eq] at hc; exact ⟨hc.1.1, hc.1.2, hc.2⟩
  · omega
theorem differOf_val {s t : ByteArray} (h : wordOk s = true ∧ wordOk t = true ∧ s.size = t.size) : differOf s t = cntNe s.data.toList t.data.toList s.size := by
  unfold differOf; rw [if_pos]; simp only [Bool.and_eq_true, decide_eq_true_eq]; exact ⟨⟨h.1, h.2.1⟩, h.2.2⟩
theorem differOf_zero {s t : ByteArray} (h : 0 ≤ differOf s t) : differOf s t = 0 ↔ s = t := by
  have ho := differOf_ok h
  rw [differOf_val ho, cntNe, cntTo_zero]
  refine ⟨fun e => bytes_ext (List.ext_getElem (by rw [len_data, len_data]; exact ho.2.2) fun i h1 h2 => ?_), fun e i _ => by rw [e]; simp⟩
  have := e i (by rw [← len_data]; exact h1)
  have e1 : s.data.toList.getD i 0 = s.data.toList[i] := by rw [List.getD, List.getElem?_eq_getElem h1]; rfl
  have e2 : t.data.toList.getD i 0 = t.data.toList[i] := by rw [List.getD, List.getElem?_eq_getElem h2]; rfl
  simp only [bne_eq_false_iff_eq] at this
  rw [e1, e2] at this
  exact this
theorem differOf_tri (a b c : ByteArray) (h : 0 ≤ differOf a b) (h1 : 0 ≤ differOf a c) (h2 : 0 ≤ differOf c b) : differOf a b ≤ differOf a c + differOf c b := by
  have o0 := differOf_ok h
  have o1 := differOf_ok h1
  have o2 := differOf_ok h2
  rw [differOf_val o0, differOf_val o1, differOf_val o2, ← o1.2.2]
  apply cntTo_tri
  intro i _ hp
  rw [bne_iff_ne] at hp
  rw [bne_iff_ne, bne_iff_ne]
  by_cases e : a.data.toList.getD i 0 = c.data.toList.getD i 0
  · exact .inr (fun e2 => hp (e.trans e2))
  · exact .inl e
end Go.Proofs.Ytaghjddndgpljaa

namespace Go.Proofs.Ytaghjddndgpljaa

theorem snoc_cases {α : Type} (l : List α) : l = [] ∨ ∃ ys p, l = ys ++ [p] := by
  match h : l.reverse with
  | [] => exact .inl (List.reverse_eq_nil_iff.1 h)
  | p :: r => exact .inr ⟨r.reverse, p, by rw [← List.reverse_reverse l, h, List.reverse_cons]⟩
theorem snoc_indR {α : Type} {P : List α → Prop} (h0 : P []) (h1 : ∀ l c, P l → P (l ++ [c])) (l : List α) : P l := by
  have : ∀ l : List α, P l.reverse := by
    intro l
    induction l with
    | nil => exact h0
    | cons c l ih => rw [List.reverse_cons]; exact h1 _ _ ih
  rw [← List.reverse_reverse l]; exact this _

/-- a letter put behind a row of runs -/
def snocRun (xs : List (UInt8 × Nat)) (c : UInt8) : List (UInt8 × Nat) :=
  match xs.getLast? with
  | some (d, n) => if d = c then xs.dropLast ++ [(d, n + 1)] else xs ++ [(c, 1)]
  | none => [(c, 1)]
/-- the runs of a list, from the first on -/
def runsL (l : List UInt8) : List (UInt8 × Nat) := l.foldl snocRun []
theorem runsL_nil : runsL [] = [] := rfl
theorem runsL_snoc (l : List UInt8) (c : UInt8) : runsL (l ++ [c]) = snocRun (runsL l) c := by
  simp [runsL, List.foldl_append]
theorem snocRun_new (xs : List (UInt8 × Nat)) (c : UInt8) (h : ∀ d n, xs.getLast? = some (d, n) → d ≠ c) : snocRun xs c = xs ++ [(c, 1)] := by
  unfold snocRun
  cases e : xs.getLast? with
  | none => rw [List.getLast?_eq_none_iff] at e; rw [e]; rfl
  | some p =>
    obtain ⟨d, n⟩ := p
    simp only
    rw [if_neg (h d n e)]
theorem snocRun_same (xs : List (UInt8 × Nat)) (c : UInt8) (n : Nat) : snocRun (xs ++ [(c, n)]) c = xs ++ [(c, n + 1)] := by
  simp [snocRun]
theorem snocRun_ne (xs : List (UInt8 × Nat)) (c : UInt8) : snocRun xs c ≠ [] := by
  unfold snocRun
  split
  · split <;> simp
  · simp
theorem snocRun_cases (xs : List (UInt8 × Nat)) (c : UInt8) : (∃ ys n, xs = ys ++ [(c, n)] ∧ snocRun xs c = ys ++ [(c, n + 1)]) ∨ (snocRun xs c = xs ++ [(c, 1)] ∧ ∀ d n, xs.getLast? = some (d, n) → d ≠ c) := by
  rcases snoc_cases xs with rfl | ⟨ys, ⟨d, n⟩, rfl⟩
  · exact .inr ⟨rfl, fun d n h => by cases h⟩
  · by_cases hd : d = c
    · subst hd
      exact .inl ⟨ys, n, rfl, snocRun_same _ _ _⟩
    · have hh : ∀ d' n', (ys ++ [(d, n)]).getLast? = some (d', n') → d' ≠ c := fun d' n' h => by
        simp at h
        rw [← h.1]; exact hd
      exact .inr ⟨snocRun_new _ c hh, hh⟩

/-- what holds of all runs -/
theorem runsL_pos (l : List UInt8) : ∀ p ∈ runsL l, 1 ≤ p.2 := by
  refine snoc_indR (P := fun l => ∀ p ∈ runsL l, 1 ≤ p.2) ?_ ?_ l
  · intro p h; cases h
  · intro l c ih
    rw [runsL_snoc]
    rcases snocRun_cases (runsL l) c with ⟨ys, n, h1, h2⟩ | ⟨h2, _⟩
    · rw [h2]
      rw [h1] at ih
      intro p hp
      rcases List.mem_append.1 hp with h | h
      · exact ih p (List.mem_append.2 (.inl h))
      · simp at h; subst h; simp
    · rw [h2]
      intro p hp
      rcases List.mem_append.1 hp with h | h
      · exact ih p h
      · simp at h; subst h; simp
theorem runsL_sum (l : List UInt8) : ((runsL l).map (·.2)).sum = l.length := by
  refine snoc_indR (P := fun l => ((runsL l).map (·.2)).sum = l.length) ?_ ?_ l
  · rfl
  · intro l c ih
    rw [runsL_snoc]
    rcases snocRun_cases (runsL l) c with ⟨ys, n, h1, h2⟩ | ⟨h2, _⟩
    · rw [h1] at ih
      rw [h2]; simp at ih ⊢; omega
    · rw [h2]; simp at ih ⊢; omega
theorem runsL_length (l : List UInt8) : (runsL l).length ≤ l.length := by
  have h1 := runsL_sum l
  have h2 := runsL_pos l
  rw [← h1]
  generalize runsL l = xs at h2
  induction xs with
  | nil => simp
  | cons a xs ih =>
    have := h2 a (List.mem_cons_self ..)
    have := ih (fun p hp => h2 p (List.mem_cons_of_mem _ hp))
    simp; omega

/-- a letter put before a row of runs -/
def consRun (c : UInt8) (xs : List (UInt8 × Nat)) : List (UInt8 × Nat) := (snocRun xs.reverse c).reverse
theorem consRun_eq (c f : UInt8) (m : Nat) (zs : List (UInt8 × Nat)) : consRun c ((f, m) :: zs) = (if f = c then (f, m + 1) :: zs else (c, 1) :: (f, m) :: zs) := by
  unfold consRun snocRun
  simp
  split <;> simp
theorem snocRun_eq (d e : UInt8) (n : Nat) (zs : List (UInt8 × Nat)) : snocRun (zs ++ [(e, n)]) d = (if e = d then zs ++ [(e, n + 1)] else zs ++ [(e, n), (d, 1)]) := by
  unfold snocRun
  simp
theorem consRun_snoc (c d : UInt8) (xs : List (UInt8 × Nat)) : consRun c (snocRun xs d) = snocRun (consRun c xs) d := by
  match xs with
  | [] =>
    by_cases h : c = d
    · subst h; simp [consRun, snocRun]
    · have h' : ¬ d = c := fun e => h e.symm
      simp [consRun, snocRun, h, h']
  | (f, m) :: r =>
    rcases snoc_cases r with rfl | ⟨ys, ⟨e, n⟩, rfl⟩
    · by_cases h1 : f = d <;> by_cases h2 : f = c
      · subst h1; subst h2; simp [consRun, snocRun]
      · subst h1; simp [consRun, snocRun, h2]
      · subst h2; simp [consRun, snocRun, h1]
      · simp [consRun, snocRun, h1, h2]
    · have a1 : (f, m) :: (ys ++ [(e, n)]) = ((f, m) :: ys) ++ [(e, n)] := rfl
      have a2 : ∀ k, (f, k) :: (ys ++ [(e, n)]) = ((f, k) :: ys) ++ [(e, n)] := fun _ => rfl
      have a3 : (c, 1) :: (f, m) :: (ys ++ [(e, n)]) = ((c, 1) :: (f, m) :: ys) ++ [(e, n)] := rfl
      rw [a1, snocRun_eq, ← a1, consRun_eq]
      by_cases h1 : e = d
      · rw [if_pos h1, List.cons_append, consRun_eq]
        by_cases h2 : f = c
        · rw [if_pos h2, if_pos h2, a2, snocRun_eq, if_pos h1]; rfl
        · rw [if_neg h2, if_neg h2, a3, snocRun_eq, if_pos h1]; rfl
      · rw [if_neg h1, List.cons_append, consRun_eq]
        by_cases h2 : f = c
        · rw [if_pos h2, if_pos h2, a2, snocRun_eq, if_neg h1]; rfl
        · rw [if_neg h2, if_neg h2, a3, snocRun_eq, if_neg h1]; rfl
theorem runsL_cons (c : UInt8) (l : List UInt8) : runsL (c :: l) = consRun c (runsL l) := by
  refine snoc_indR (P := fun l => runsL (c :: l) = consRun c (runsL l)) ?_ ?_ l
  · rfl
  · intro l d ih
    rw [← List.cons_append, runsL_snoc, ih, runsL_snoc, consRun_snoc]
theorem runsL_reverse (l : List UInt8) : runsL l.reverse = (runsL l).reverse := by
  induction l with
  | nil => rfl
  | cons c l ih => rw [List.reverse_cons, runsL_snoc, ih, runsL_cons, consRun, List.reverse_reverse]

/-- the longest run of a letter -/
def longestIn (xs : List (UInt8 × Nat)) (c : UInt8) : Nat := xs.foldl (fun m p => if p.1 = c then max m p.2 else m) 0
theorem longestIn_snoc (xs : List (UInt8 × Nat)) (p : UInt8 × Nat) (c : UInt8) : longestIn (xs ++ [p]) c = if p.1 = c then max (longestIn xs c) p.2 else longestIn xs c := by
  simp [longestIn, List.foldl_append]
/-- how long the run at the end is, if it is of the letter -/
def nowIn (xs : List (UInt8 × Nat)) (c : UInt8) : Nat :=
  match xs.getLast? with
  | some (d, n) => if d = c then n else 0
  | none => 0
theorem now_le (xs : List (UInt8 × Nat)) (c : UInt8) : nowIn xs c ≤ longestIn xs c := by
  rcases snoc_cases xs with rfl | ⟨ys, ⟨d, n⟩, rfl⟩
  · simp [nowIn]
  · rw [longestIn_snoc]
    simp only [nowIn, List.getLast?_append, List.getLast?_singleton]
    simp
    split <;> omega
theorem snoc_hit (xs : List (UInt8 × Nat)) (c : UInt8) : nowIn (snocRun xs c) c = nowIn xs c + 1 ∧ longestIn (snocRun xs c) c = max (longestIn xs c) (nowIn xs c + 1) := by
  rcases snocRun_cases xs c with ⟨ys, n, h1, h2⟩ | ⟨h2, h3⟩
  · rw [h2, h1, longestIn_snoc, longestIn_snoc]
    simp [nowIn]
  · have h0 : nowIn xs c = 0 := by
      unfold nowIn
      split
      · rename_i d n e; rw [if_neg (h3 d n e)]
      · rfl
    rw [h2, longestIn_snoc, h0]
    simp [nowIn]
theorem snoc_miss (xs : List (UInt8 × Nat)) (c d : UInt8) (h : d ≠ c) : nowIn (snocRun xs d) c = 0 ∧ longestIn (snocRun xs d) c = longestIn xs c := by
  rcases snocRun_cases xs d with ⟨ys, n, h1, h2⟩ | ⟨h2, h3⟩
  · rw [h2, h1, longestIn_snoc, longestIn_snoc]
    simp [nowIn, h]
  · rw [h2, longestIn_snoc]
    simp [nowIn, h]
theorem longestIn_le (xs : List (UInt8 × Nat)) (c : UInt8) : longestIn xs c ≤ (xs.map (·.2)).sum := by
  refine snoc_indR (P := fun xs => longestIn xs c ≤ (xs.map (·.2)).sum) ?_ ?_ xs
  · simp [longestIn]
  · intro xs p ih
    rw [longestIn_snoc]; simp; split <;> omega
/-- LongestOf's number -/
def longestOf (s t : ByteArray) : Int := if (wordOk s && letterOk t) = true then (longestIn (runsL s.data.toList) (byteAt t 0) : Int) else -1
/-- RunsOf's numbers -/
def runsOf (s : ByteArray) : List Int := if wordOk s = true then (runsL s.data.toList).map (fun p => (p.2 : Int)) else []
end Go.Proofs.Ytaghjddndgpljaa

namespace Go.Proofs.Ytaghjddndgpljaa

structure Ru where
  kind : Int
  letter : ByteArray
  thn : ByteArray
  many : Int
def inB (lo hi n : Int) : Bool := decide (lo ≤ n) && decide (n ≤ hi)
def noThen (t : ByteArray) : Bool := decide (t = ⟨#[]⟩)
/-- RuleOk -/
def Ru.ok (r : Ru) : Bool := letterOk r.letter && (
  if r.kind = 0 then noThen r.thn && inB 0 4 r.many else
  if r.kind = 1 then noThen r.thn && inB 2 4 r.many else
  if r.kind = 2 then letterOk r.thn && decide (r.many = 0) else
  if r.kind = 3 then noThen r.thn && inB 0 5 r.many else
  if r.kind = 4 then noThen r.thn && inB 1 5 r.many else false)

theorem letterOk_cases {t : ByteArray} (h : letterOk t = true) : t = ⟨#[114]⟩ ∨ t = ⟨#[100]⟩ ∨ t = ⟨#[110]⟩ := by
  have hs : t.size = 1 := by simp [letterOk] at h; exact h.1
  rw [letterOk_one t hs (by omega)] at h
  have e : t.data.toList = [t[0]] := by
    apply List.ext_getElem
    · simpa using hs
    · intro i h1 h2
      have : i = 0 := by simp at h2; exact h2
      subst this; rfl
  simp only [isL, Bool.or_eq_true, beq_iff_eq] at h
  rcases h with (h | h) | h
  · exact .inl (bytes_ext (by rw [e, h]))
  · exact .inr (.inl (bytes_ext (by rw [e, h])))
  · exact .inr (.inr (bytes_ext (by rw [e, h])))
theorem Ru.ok_letter {r : Ru} (h : r.ok = true) : letterOk r.letter = true := by
  simp only [Ru.ok, Bool.and_eq_true] at h; exact h.1
theorem inB_iff {lo hi n : Int} : inB lo hi n = true ↔ lo ≤ n ∧ n ≤ hi := by simp [inB]
/-- which rules there are -/
theorem Ru.ok_iff {r : Ru} : r.ok = true ↔ letterOk r.letter = true ∧
    ((r.kind = 0 ∧ r.thn = ⟨#[]⟩ ∧ 0 ≤ r.many ∧ r.many ≤ 4) ∨ (r.kind = 1 ∧ r.thn = ⟨#[]⟩ ∧ 2 ≤ r.many ∧ r.many ≤ 4) ∨ (r.kind = 2 ∧ letterOk r.thn = true ∧ r.many = 0) ∨
      (r.kind = 3 ∧ r.thn = ⟨#[]⟩ ∧ 0 ≤ r.many ∧ r.many ≤ 5) ∨ (r.kind = 4 ∧ r.thn = ⟨#[]⟩ ∧ 1 ≤ r.many ∧ r.many ≤ 5)) := by
  unfold Ru.ok
  rw [Bool.and_eq_true]
  refine and_congr Iff.rfl ?_
  by_cases h0 : r.kind = 0
  · simp [h0, noThen, inB_iff]
  by_cases h1 : r.kind = 1
  · simp [h1, noThen, inB_iff]
  by_cases h2 : r.kind = 2
  · simp [h2]
  by_cases h3 : r.kind = 3
  · simp [h3, noThen, inB_iff]
  by_cases h4 : r.kind = 4
  · simp [h4, noThen, inB_iff]
  simp [h0, h1, h2, h3, h4]

/-- a letter right behind another one, among the first k pairs -/
def pairTo (l : List UInt8) (c d : UInt8) (k : Nat) : Bool := (List.range k).any fun i => l.getD i 0 == c && l.getD (i + 1) 0 == d
theorem pairTo_succ (l : List UInt8) (c d : UInt8) (k : Nat) : pairTo l c d (k + 1) = (pairTo l c d k || (l.getD k 0 == c && l.getD (k + 1) 0 == d)) := by
  simp [pairTo, List.range_succ]
theorem pairTo_hit {l : List UInt8} {c d : UInt8} {k n : Nat} (hk : k < n) (h : (l.getD k 0 == c && l.getD (k + 1) 0 == d) = true) : pairTo l c d n = true :=
  List.any_eq_true.2 ⟨k, List.mem_range.2 hk, h⟩
/-- each run of a letter is long enough, among the runs of a list -/
def longAll (xs : List (UInt8 × Nat)) (c : UInt8) (n : Int) : Bool := xs.all fun p => !(p.1 == c) || decide (n ≤ (p.2 : Int))
theorem longAll_snoc (xs : List (UInt8 × Nat)) (p : UInt8 × Nat) (c : UInt8) (n : Int) : longAll (xs ++ [p]) c n = (longAll xs c n && (!(p.1 == c) || decide (n ≤ (p.2 : Int)))) := by
  simp [longAll, List.all_append]
/-- KeepsRule of a rule and a word -/
def Ru.holds (r : Ru) (s : ByteArray) : Bool :=
  if r.kind = 0 then decide ((longestIn (runsL s.data.toList) (byteAt r.letter 0) : Int) ≤ r.many) else
  if r.kind = 1 then longAll (runsL s.data.toList) (byteAt r.letter 0) r.many else
  if r.kind = 2 then !pairTo s.data.toList (byteAt r.letter 0) (byteAt r.thn 0) (s.size - 1) else
  if r.kind = 3 then decide (cntEq s.data.toList (byteAt r.letter 0) s.size ≤ r.many) else
  decide (r.many ≤ cntEq s.data.toList (byteAt r.letter 0) s.size)
def Ru.keeps (r : Ru) (s : ByteArray) : Bool := r.ok && wordOk s && r.holds s

/-- how the machine of a rule goes on: 'its' tells that the letter is the rule's, 'th' that it is the other one -/
def nxR (kind many : Int) (its th : Bool) (s : Int) : Int :=
  if kind = 0 then (if its = true then (if s = many then -1 else s + 1) else 0) else
  if kind = 1 then (if its = true then min (s + 1) many else if 0 < s ∧ s < many then -1 else 0) else
  if kind = 2 then (if s = 1 ∧ th = true then -1 else if its = true then 1 else 0) else
  if its = true then (if kind = 3 ∧ s = many then -1 else min (s + 1) many) else s
def endR (kind many : Int) (s : Int) : Bool :=
  if kind = 1 then (decide (s = 0) || decide (s = many)) else if kind = 4 then decide (s = many) else true
/-- the byte of a letter's number -/
def byteOf (l : Nat) : UInt8 := if l = 0 then 114 else if l = 1 then 100 else 110
def Ru.nx (r : Ru) (s : Int) (l : Nat) : Int := nxR r.kind r.many (byteAt r.letter 0 == byteOf l) (byteAt r.thn 0 == byteOf l) s
def Ru.endAt (r : Ru) (s : Int) : Bool := endR r.kind r.many s
/-- how many states -/
def Ru.st (r : Ru) : Nat := if r.kind = 2 then 2 else r.many.toNat + 1
def Ru.on (r : Ru) (s : Int) (l : Nat) : Option Int := if r.nx s l = -1 then none else some (r.nx s l)
/-- the table -/
def tabTo (f : Int → Nat → Int) : Nat → List Int
  | 0 => []
  | k + 1 => tabTo f k ++ [f k 0, f k 1, f k 2]
def endsTo (f : Int → Bool) (n : Nat) : List Bool := (List.range n).map fun (k : Nat) => f (k : Int)
theorem tabTo_length (f : Int → Nat → Int) (k : Nat) : (tabTo f k).length = 3 * k := by
  induction k with
  | zero => rfl
  | succ k ih => simp only [tabTo, List.length_append, ih, List.length_cons, List.length_nil]; omega
theorem endsTo_length (f : Int → Bool) (n : Nat) : (endsTo f n).length = n := by simp [endsTo]
theorem endsTo_succ (f : Int → Bool) (n : Nat) : endsTo f (n + 1) = endsTo f n ++ [f n] := by simp [endsTo, List.range_succ]

/-- over all rules -/
def onN (kind many : Int) (li : UInt8) (ti : UInt8) (s : Int) (l : Nat) : Int := nxR kind many (li == byteOf l) (ti == byteOf l) s
def bfsN (kind many : Int) (li ti : UInt8) (n : Nat) : List Int × List Int := bfsTo (fun s l => if onN kind many li ti s l = -1 then none else some (onN kind many li ti s l)) (0 : Int) n
def fineN (kind many : Int) (li ti : UInt8) : Bool :=
  let n := if kind = 2 then 2 else many.toNat + 1
  decide ((bfsN kind many li ti n).1 = (List.range n).map (fun (k : Nat) => (k : Int))) && decide ((bfsN kind many li ti n).2 = tabTo (onN kind many li ti) n)
theorem fineN_0 : ∀ m : Nat, m < 5 → ∀ li ∈ [(114 : UInt8), 100, 110], fineN 0 (m : Int) li 0 = true := by decide +kernel
theorem fineN_1 : ∀ m : Nat, m < 5 → 2 ≤ m → ∀ li ∈ [(114 : UInt8), 100, 110], fineN 1 (m : Int) li 0 = true := by decide +kernel
theorem fineN_2 : ∀ li ∈ [(114 : UInt8), 100, 110], ∀ ti ∈ [(114 : UInt8), 100, 110], fineN 2 0 li ti = true := by decide +kernel
theorem fineN_3 : ∀ m : Nat, m < 6 → ∀ li ∈ [(114 : UInt8), 100, 110], fineN 3 (m : Int) li 0 = true := by decide +kernel
theorem fineN_4 : ∀ m : Nat, m < 6 → 1 ≤ m → ∀ li ∈ [(114 : UInt8), 100, 110], fineN 4 (m : Int) li 0 = true := by decide +kernel

theorem letter_byte {t : ByteArray} (h : letterOk t = true) : byteAt t 0 ∈ [(114 : UInt8), 100, 110] := by
  rcases letterOk_cases h with rfl | rfl | rfl <;> decide
/-- the machine of a rule, found by a search, is the table -/
theorem Ru.fine {r : Ru} (h : r.ok = true) : (bfsTo r.on 0 r.st).1 = (List.range r.st).map (fun (k : Nat) => (k : Int)) ∧ (bfsTo r.on 0 r.st).2 = tabTo r.nx r.st := by
  obtain ⟨kind, letter, thn, many⟩ := r
  have key : fineN kind many (byteAt letter 0) (byteAt thn 0) = true := by
    obtain ⟨hl, hr⟩ := Ru.ok_iff.1 h
    have hb := letter_byte hl
    simp only at hr hb
    rcases hr with ⟨rfl, rfl, h0, h1⟩ | ⟨rfl, rfl, h0, h1⟩ | ⟨rfl, ht, rfl⟩ | ⟨rfl, rfl, h0, h1⟩ | ⟨rfl, rfl, h0, h1⟩
    · obtain ⟨m, rfl⟩ := Int.eq_ofNat_of_zero_le h0
      exact fineN_0 m (by omega) _ hb
    · obtain ⟨m, rfl⟩ := Int.eq_ofNat_of_zero_le (show 0 ≤ many by omega)
      exact fineN_1 m (by omega) (by omega) _ hb
    · exact fineN_2 _ hb _ (letter_byte ht)
    · obtain ⟨m, rfl⟩ := Int.eq_ofNat_of_zero_le h0
      exact fineN_3 m (by omega) _ hb
    · obtain ⟨m, rfl⟩ := Int.eq_ofNat_of_zero_le (show 0 ≤ many by omega)
      exact fineN_4 m (by omega) (by omega) _ hb
  simp only [fineN, Bool.and_eq_true, decide_eq_true_eq] at key
  exact key
theorem Ru.st_bd {r : Ru} (h : r.ok = true) : 1 ≤ r.st ∧ r.st ≤ 6 := by
  obtain ⟨kind, letter, thn, many⟩ := r
  obtain ⟨hl, hr⟩ := Ru.ok_iff.1 h
  simp only at hr
  unfold Ru.st
  simp only
  split <;> omega
end Go.Proofs.Ytaghjddndgpljaa

namespace Go.Proofs.Ytaghjddndgpljaa

/-- a state, and the word that led to it -/
abbrev SW := Int × ByteArray
def letS (l : Nat) : ByteArray := ⟨#[byteOf l]⟩
def sh1 (m : M) (x : SW) (q : List SW) (l : Nat) : List SW := if x.2.size < 14 ∧ 0 ≤ m.nx x.1 l ∧ m.nx x.1 l ∉ q.map Prod.fst then q ++ [(m.nx x.1 l, x.2 ++ letS l)] else q
def shL (m : M) (x : SW) (q : List SW) : Nat → List SW
  | 0 => q
  | l + 1 => sh1 m x (shL m x q l) l
def shTo (m : M) : Nat → List SW
  | 0 => [(0, ⟨#[]⟩)]
  | n + 1 => match (shTo m n)[n]? with
    | some x => shL m x (shTo m n) 3
    | none => shTo m n
theorem sh1_prefix (m : M) (x : SW) (q : List SW) (l : Nat) : q <+: sh1 m x q l := by
  unfold sh1; split
  · exact List.prefix_append _ _
  · exact List.prefix_rfl
theorem shL_prefix (m : M) (x : SW) (q : List SW) (l : Nat) : q <+: shL m x q l := by
  induction l with
  | zero => exact List.prefix_rfl
  | succ l ih => exact ih.trans (sh1_prefix m x _ l)
theorem shTo_step {m : M} {n : Nat} (h : n < (shTo m n).length) : shTo m (n + 1) = shL m (shTo m n)[n] (shTo m n) 3 := by
  rw [shTo, List.getElem?_eq_getElem h]
/-- what every element of the search keeps -/
structure SGood (m : M) (x : SW) : Prop where
  s0 : 0 ≤ x.1
  s1 : x.1 < m.st
  ok : wordOk x.2 = true
  go : m.goes 0 x.2.data.toList = x.1
structure Sh (m : M) (q : List SW) : Prop where
  all : ∀ x ∈ q, SGood m x
  nd : (q.map Prod.fst).Nodup
  pos : 0 < q.length
  fst : 0 ∈ q.map Prod.fst
theorem wordOk_more {s : ByteArray} (h : wordOk s = true) (h14 : s.size < 14) (l : Nat) (hl : l < 3) : wordOk (s ++ letS l) = true := by
  simp only [wordOk, Bool.and_eq_true, decide_eq_true_eq, allL, List.all_eq_true] at h ⊢
  refine ⟨fun x hx => ?_, ?_⟩
  · rw [ByteArray.data_append, Array.toList_append, List.mem_append] at hx
    rcases hx with hx | hx
    · exact h.1 x hx
    · have : x = byteOf l := by simpa [letS] using hx
      subst this
      match l, hl with
      | 0, _ => decide
      | 1, _ => decide
      | 2, _ => decide
  · rw [ByteArray.size_append]
    have : (letS l).size = 1 := rfl
    omega
theorem wordOk_full {s : ByteArray} (h14 : ¬ s.size < 14) (l : Nat) : wordOk (s ++ letS l) = false := by
  cases hw : wordOk (s ++ letS l) with
  | false => rfl
  | true =>
    simp only [wordOk, Bool.and_eq_true, decide_eq_true_eq] at hw
    rw [ByteArray.size_append] at hw
    have : (letS l).size = 1 := rfl
    omega
theorem goes_more (m : M) (s : ByteArray) (l : Nat) (hl : l < 3) : m.goes 0 (s ++ letS l).data.toList = m.nx (m.goes 0 s.data.toList) l := by
  rw [ByteArray.data_append, Array.toList_append, M.goes_append]
  match l, hl with
  | 0, _ => rfl
  | 1, _ => rfl
  | 2, _ => rfl
theorem Sh.one {m : M} (hm : m.ok = true) {q : List SW} (h : Sh m q) {x : SW} (hx : SGood m x) (l : Nat) (hl : l < 3) : Sh m (sh1 m x q l) := by
  unfold sh1
  split
  · rename_i hc
    obtain ⟨c1, c2, c3⟩ := hc
    refine ⟨fun y hy => ?_, ?_, by simp, ?_⟩
    · rcases List.mem_append.1 hy with hy | hy
      · exact h.all y hy
      · obtain rfl := List.mem_singleton.1 hy
        exact ⟨c2, (M.nx_bd hm x.1 l hx.s1 (by omega) (by omega)).2, wordOk_more hx.ok c1 l hl, by rw [goes_more m x.2 l hl, hx.go]⟩
    · rw [List.map_append, List.nodup_append]
      refine ⟨h.nd, by simp, ?_⟩
      intro a ha b hb e
      subst e
      simp only [List.map_cons, List.map_nil, List.mem_singleton] at hb
      exact c3 (hb ▸ ha)
    · rw [List.map_append, List.mem_append]; exact .inl h.fst
  · exact h
theorem Sh.many {m : M} (hm : m.ok = true) {q : List SW} (h : Sh m q) {x : SW} (hx : SGood m x) : ∀ l, l ≤ 3 → Sh m (shL m x q l)
  | 0, _ => h
  | l + 1, hl => (Sh.many hm h hx l (by omega)).one hm hx l (by omega)
theorem Sh.start {m : M} (hm : m.ok = true) : Sh m (shTo m 0) := by
  refine ⟨fun x hx => ?_, by simp [shTo], by simp [shTo], by simp [shTo]⟩
  obtain rfl := List.mem_singleton.1 hx
  exact ⟨Int.le_refl _, by have := (M.ok_shape hm).1; show (0 : Int) < m.st; omega, by decide, rfl⟩
theorem Sh.to {m : M} (hm : m.ok = true) : ∀ n, Sh m (shTo m n)
  | 0 => Sh.start hm
  | n + 1 => by
    have ih := Sh.to hm n
    by_cases hn : n < (shTo m n).length
    · rw [shTo_step hn]; exact ih.many hm (ih.all _ (List.getElem_mem hn)) 3 (Nat.le_refl _)
    · rw [shTo, List.getElem?_eq_none (by omega)]; exact ih
theorem nodup_bd : ∀ (n : Nat) (l : List Int), l.Nodup → (∀ x ∈ l, 0 ≤ x ∧ x < (n : Int)) → l.length ≤ n
  | 0, l, _, h => by
    cases l with
    | nil => simp
    | cons x l => have := h x List.mem_cons_self; omega
  | n + 1, l, hn, h => by
    have h2 := nodup_bd n (l.erase (n : Int)) (hn.erase _) (fun x hx => by
      have h3 := h x (List.mem_of_mem_erase hx)
      have h4 : x ≠ n := fun e => by subst e; exact (List.Nodup.not_mem_erase hn) hx
      omega)
    have h5 := List.length_erase (a := (n : Int)) (l := l)
    split at h5 <;> omega
theorem Sh.len {m : M} (hm : m.ok = true) {q : List SW} (h : Sh m q) : q.length ≤ 48 := by
  have h1 := M.ok_shape hm
  have h2 := nodup_bd m.st.toNat (q.map Prod.fst) h.nd (fun x hx => by
    obtain ⟨y, hy, rfl⟩ := List.mem_map.1 hx
    have := h.all y hy
    have a := this.s0
    have b := this.s1
    omega)
  rw [List.length_map] at h2
  omega
/-- the word found at the n-th element -/
def hitAt (m : M) (n : Nat) : Option ByteArray := match (shTo m n)[n]? with
  | some x => if m.endAt x.1 = true then some x.2 else none
  | none => none
def IsShort (m : M) (r : Option ByteArray) : Prop :=
  ∃ n, (∀ j, j < n → j < (shTo m j).length ∧ hitAt m j = none) ∧ ((∃ w, hitAt m n = some w ∧ r = some w) ∨ ((shTo m n).length ≤ n ∧ r = none))
theorem hitAt_lt {m : M} {n : Nat} {w : ByteArray} (h : hitAt m n = some w) : n < (shTo m n).length := by
  rcases Nat.lt_or_ge n (shTo m n).length with h' | h'
  · exact h'
  · rw [hitAt, List.getElem?_eq_none h'] at h; cases h
theorem IsShort.one {m : M} {r r' : Option ByteArray} (h : IsShort m r) (h' : IsShort m r') : r = r' := by
  obtain ⟨n, h1, h2⟩ := h
  obtain ⟨k, k1, k2⟩ := h'
  rcases Nat.lt_trichotomy n k with hlt | rfl | hgt
  · obtain ⟨a, b⟩ := k1 n hlt
    rcases h2 with ⟨w, h2, -⟩ | ⟨h2, -⟩
    · rw [b] at h2; cases h2
    · omega
  · rcases h2 with ⟨w, h2, rfl⟩ | ⟨h2, rfl⟩
    · rcases k2 with ⟨u, k2, rfl⟩ | ⟨k2, -⟩
      · rw [h2] at k2; exact k2
      · have := hitAt_lt h2; omega
    · rcases k2 with ⟨u, k2, -⟩ | ⟨k2, rfl⟩
      · have := hitAt_lt k2; omega
      · rfl
  · obtain ⟨a, b⟩ := h1 k hgt
    rcases k2 with ⟨w, k2, -⟩ | ⟨k2, -⟩
    · rw [b] at k2; cases k2
    · omega
theorem hitAt_yes {m : M} {n : Nat} (h : n < (shTo m n).length) (he : m.endAt (shTo m n)[n].1 = true) : hitAt m n = some (shTo m n)[n].2 := by
  rw [hitAt, List.getElem?_eq_getElem h]; simp [he]
theorem hitAt_no {m : M} {n : Nat} (h : n < (shTo m n).length) (he : m.endAt (shTo m n)[n].1 = false) : hitAt m n = none := by
  rw [hitAt, List.getElem?_eq_getElem h]; simp [he]
end Go.Proofs.Ytaghjddndgpljaa

namespace Go.Proofs.Ytaghjddndgpljaa

theorem walk_snoc (m : M) : ∀ (u : List Nat) (s : Int) (l : Nat), m.walk s (u ++ [l]) = m.nx (m.walk s u) (l : Int)
  | [], _, _ => rfl
  | a :: u, s, l => by rw [List.cons_append, M.walk, walk_snoc m u _ l]; rfl
theorem shTo_prefix (m : M) (n : Nat) : shTo m n <+: shTo m (n + 1) := by
  by_cases h : n < (shTo m n).length
  · rw [shTo_step h]; exact shL_prefix m _ _ 3
  · rw [shTo, List.getElem?_eq_none (by omega)]; exact List.prefix_rfl
theorem shTo_pre (m : M) {n k : Nat} (h : n ≤ k) : shTo m n <+: shTo m k := by
  induction k with
  | zero => obtain rfl : n = 0 := by omega
            exact List.prefix_rfl
  | succ k ih =>
    rcases Nat.lt_succ_iff_lt_or_eq.1 (Nat.lt_succ_of_le h) with h | rfl
    · exact (ih (by omega)).trans (shTo_prefix m k)
    · exact List.prefix_rfl
/-- sizes do not fall, and none is greater than one more than the one at hand -/
structure Szs (q : List SW) (b : Nat) : Prop where
  up : q.Pairwise (fun x y => x.2.size ≤ y.2.size)
  le : ∀ y ∈ q, y.2.size ≤ b + 1
  ix : ∀ (i : Nat) (x : SW), q[i]? = some x → x.2.size ≤ i
theorem size_more (s : ByteArray) (l : Nat) : (s ++ letS l).size = s.size + 1 := by rw [ByteArray.size_append]; rfl
theorem Szs.one {m : M} {q : List SW} {x : SW} (h : Szs q x.2.size) {n : Nat} (hn : n < q.length) (hx : x.2.size ≤ n) (l : Nat) : Szs (sh1 m x q l) x.2.size := by
  unfold sh1
  split
  · refine ⟨List.pairwise_append.2 ⟨h.up, by simp, fun a ha b hb => ?_⟩, fun y hy => ?_, fun i y hy => ?_⟩
    · obtain rfl := List.mem_singleton.1 hb
      show a.2.size ≤ (x.2 ++ letS l).size
      rw [size_more]; exact h.le a ha
    · rcases List.mem_append.1 hy with hy | hy
      · exact h.le y hy
      · obtain rfl := List.mem_singleton.1 hy
        show (x.2 ++ letS l).size ≤ _
        rw [size_more]; exact Nat.le_refl _
    · rcases Nat.lt_or_ge i q.length with hi | hi
      · rw [List.getElem?_append_left hi] at hy; exact h.ix i y hy
      · rw [List.getElem?_append_right hi] at hy
        have h0 : i - q.length = 0 := by
          rcases Nat.eq_zero_or_pos (i - q.length) with e | e
          · exact e
          · rw [List.getElem?_eq_none (by simp; omega)] at hy; cases hy
        rw [h0] at hy
        obtain rfl : _ = y := Option.some.inj hy
        show (x.2 ++ letS l).size ≤ i
        rw [size_more]; omega
  · exact h
theorem Szs.many {m : M} {q : List SW} {x : SW} (h : Szs q x.2.size) {n : Nat} (hn : n < q.length) (hx : x.2.size ≤ n) : ∀ l, Szs (shL m x q l) x.2.size
  | 0 => h
  | l + 1 => (Szs.many h hn hx l).one (Nat.lt_of_lt_of_le hn (shL_prefix m x q l).length_le) hx l
theorem Szs.to (m : M) : ∀ n (_hH : ∀ j, j < n → j < (shTo m j).length), (shTo m n).Pairwise (fun x y => x.2.size ≤ y.2.size) ∧ (∀ (i : Nat) (x : SW), (shTo m n)[i]? = some x → x.2.size ≤ i) ∧ ∀ x : SW, (shTo m n)[n]? = some x → Szs (shTo m n) x.2.size
  | 0, _ => by
    refine ⟨by simp [shTo], fun i x hx => ?_, fun x hx => ?_⟩
    · have h0 : i = 0 := by
        rcases Nat.eq_zero_or_pos i with e | e
        · exact e
        · rw [shTo, List.getElem?_eq_none (by simp; omega)] at hx; cases hx
      subst h0
      obtain rfl : _ = x := Option.some.inj hx
      exact Nat.le_refl _
    · obtain rfl : _ = x := Option.some.inj hx
      refine ⟨by simp [shTo], fun y hy => ?_, fun i y hy => ?_⟩
      · obtain rfl := List.mem_singleton.1 hy; exact Nat.zero_le _
      · have h0 : i = 0 := by
          rcases Nat.eq_zero_or_pos i with e | e
          · exact e
          · rw [shTo, List.getElem?_eq_none (by simp; omega)] at hy; cases hy
        subst h0
        obtain rfl : _ = y := Option.some.inj hy
        exact Nat.le_refl _
  | n + 1, hH => by
    obtain ⟨h1, h2, h3⟩ := Szs.to m n (fun j hj => hH j (by omega))
    have hn := hH n (by omega)
    have hx := List.getElem?_eq_getElem hn
    have hS := (h3 _ hx).many (m := m) hn (h2 n _ hx) 3
    rw [← shTo_step hn] at hS
    refine ⟨hS.up, hS.ix, fun x hx2 => ?_⟩
    have hle : (shTo m n)[n].2.size ≤ x.2.size := by
      obtain ⟨h4, h5⟩ := List.getElem?_eq_some_iff.1 hx2
      have h6 : (shTo m (n + 1))[n]'(by omega) = (shTo m n)[n] := by
        have := (shTo_prefix m n).getElem hn
        exact this.symm
      have := List.pairwise_iff_getElem.1 hS.up n (n + 1) (by omega) h4 (by omega)
      rw [h6, h5] at this
      exact this
    exact ⟨hS.up, fun y hy => by have := hS.le y hy; omega, hS.ix⟩
theorem shL_has (m : M) (x : SW) (q : List SW) (h14 : x.2.size < 14) (l : Nat) (h0 : 0 ≤ m.nx x.1 l) : ∀ k, l < k → ∃ y ∈ shL m x q k, y.1 = m.nx x.1 l
  | 0, h => absurd h (Nat.not_lt_zero l)
  | k + 1, h => by
    rcases Nat.lt_succ_iff_lt_or_eq.1 h with h | rfl
    · obtain ⟨y, hy, e⟩ := shL_has m x q h14 l h0 k h
      exact ⟨y, (sh1_prefix m x _ k).subset hy, e⟩
    · by_cases hm : m.nx x.1 l ∈ (shL m x q l).map Prod.fst
      · obtain ⟨y, hy, e⟩ := List.mem_map.1 hm
        exact ⟨y, (sh1_prefix m x _ l).subset hy, e⟩
      · refine ⟨(m.nx x.1 l, x.2 ++ letS l), ?_, rfl⟩
        show _ ∈ sh1 m x (shL m x q l) l
        unfold sh1
        rw [if_pos ⟨h14, h0, hm⟩]
        simp
/-- every state that a word leads to has come, by a word that is no longer -/
theorem sh_reach {m : M} {n : Nat} (hH : ∀ j, j < n → j < (shTo m j).length) (C : Nat → Prop) (hC : ∀ k, C (k + 1) → C k) (h14 : ∀ (i : Nat) (x : SW) (k : Nat), (shTo m n)[i]? = some x → C (k + 1) → x.2.size ≤ k → x.2.size < 14)
    (hB : ∀ (i : Nat) (x : SW) (k : Nat), (shTo m n)[i]? = some x → C k → x.2.size ≤ k → i < n) (u : List Nat) (hu : ∀ l ∈ u, l < 3) :
    C u.length → 0 ≤ m.walk 0 u → ∃ (i : Nat) (x : SW), i < n ∧ (shTo m n)[i]? = some x ∧ x.1 = m.walk 0 u ∧ x.2.size ≤ u.length := by
  have key : ∀ k (u : List Nat), u.length = k → (∀ l ∈ u, l < 3) → C u.length → 0 ≤ m.walk 0 u → ∃ (i : Nat) (x : SW), i < n ∧ (shTo m n)[i]? = some x ∧ x.1 = m.walk 0 u ∧ x.2.size ≤ u.length := by
    intro k
    induction k with
    | zero =>
      intro u hk _ hc _
      have hu0 : u = [] := List.length_eq_zero_iff.1 hk
      subst hu0
      have h0 : (shTo m n)[0]? = some ((0 : Int), (⟨#[]⟩ : ByteArray)) := by
        obtain ⟨t, ht⟩ := shTo_pre m (Nat.zero_le n)
        rw [← ht]; rfl
      exact ⟨0, _, hB 0 _ 0 h0 hc (Nat.zero_le _), h0, rfl, Nat.zero_le _⟩
    | succ k ih =>
      intro u hk hu hc hw
      obtain ⟨v, l, rfl⟩ : ∃ v l, u = v ++ [l] := by
        rcases List.eq_nil_or_concat u with rfl | ⟨v, l, e⟩
        · cases hk
        · exact ⟨v, l, by rw [e, List.concat_eq_append]⟩
      rw [List.length_append, List.length_singleton] at hk hc ⊢
      have hl : l < 3 := hu l (by simp)
      rw [walk_snoc] at hw ⊢
      have hw0 : 0 ≤ m.walk 0 v := by
        rcases Int.lt_or_le (m.walk 0 v) 0 with h | h
        · rw [M.nx_neg _ _ _ h] at hw; omega
        · exact h
      obtain ⟨i, x, hi, hx, e1, e2⟩ := ih v (by omega) (fun l hl => hu l (by simp [hl])) (hC _ hc) hw0
      have hx14 := h14 i x v.length hx hc e2
      have hin := hH i hi
      have hxi : (shTo m i)[i] = x := by
        obtain ⟨h4, h5⟩ := List.getElem?_eq_some_iff.1 hx
        rw [← h5]; exact (shTo_pre m (Nat.le_of_lt hi)).getElem hin
      have hS := (Szs.to m i (fun j hj => hH j (by omega))).2.2 _ (List.getElem?_eq_getElem hin)
      rw [hxi] at hS
      have hix : x.2.size ≤ i := hS.ix i x (by rw [List.getElem?_eq_getElem hin, hxi])
      have hS2 := hS.many (m := m) hin hix 3
      obtain ⟨y, hy, e3⟩ := shL_has m x (shTo m i) hx14 l (by rw [e1]; exact hw) 3 hl
      have hy2 := hS2.le y hy
      have hy3 : y ∈ shTo m n := by
        have h6 : shTo m (i + 1) = shL m x (shTo m i) 3 := by rw [shTo_step hin, hxi]
        exact (shTo_pre m hi).subset (by rw [h6]; exact hy)
      obtain ⟨j, hj, e4⟩ := List.getElem_of_mem hy3
      have hyj : (shTo m n)[j]? = some y := by rw [List.getElem?_eq_getElem hj, e4]
      exact ⟨j, y, hB j y (v.length + 1) hyj hc (by omega), hyj, by rw [e3, e1], by omega⟩
  exact key u.length u rfl hu
theorem short_takes {m : M} (hm : m.ok = true) {w : ByteArray} (h : IsShort m (some w)) : m.takes w = true := by
  obtain ⟨n, -, ⟨v, h2, e⟩ | ⟨-, e⟩⟩ := h
  · cases e
    have hn := hitAt_lt h2
    have hg := (Sh.to hm n).all _ (List.getElem_mem hn)
    rw [hitAt, List.getElem?_eq_getElem hn] at h2
    simp only at h2
    split at h2
    · rename_i he
      cases h2
      rw [M.takes, M.after_yes hm hg.ok, hg.go]; exact he
    · cases h2
  · cases e
theorem takes_walk {m : M} (hm : m.ok = true) {s : ByteArray} (h : m.takes s = true) : ∃ u : List Nat, (∀ l ∈ u, l < 3) ∧ u.length = s.size ∧ s.size ≤ 14 ∧ m.endAt (m.walk 0 u) = true ∧ 0 ≤ m.walk 0 u := by
  cases hs : wordOk s with
  | false => rw [M.takes_not (.inr hs)] at h; cases h
  | true =>
    rw [M.takes_lang hm hs, M.lang] at h
    refine ⟨_, fun l hl => ?_, ?_, ?_, h, ?_⟩
    · obtain ⟨x, -, rfl⟩ := List.mem_map.1 hl; exact x.isLt
    · rw [List.length_map, lettersF, List.length_map]; simp
    · simp only [wordOk, Bool.and_eq_true, decide_eq_true_eq] at hs; exact hs.2
    · rcases Int.lt_or_le (m.walk 0 ((lettersF s.data.toList).map fun l => l.val)) 0 with h2 | h2
      · rw [M.endAt, if_pos h2] at h; cases h
      · exact h2
theorem hit_of_end {m : M} {n i : Nat} {x : SW} (hH : ∀ j, j < n → j < (shTo m j).length ∧ hitAt m j = none) (hi : i < n) (hx : (shTo m n)[i]? = some x) : m.endAt x.1 = false := by
  obtain ⟨h1, h2⟩ := hH i hi
  have hxi : (shTo m i)[i] = x := by
    obtain ⟨h4, h5⟩ := List.getElem?_eq_some_iff.1 hx
    rw [← h5]; exact (shTo_pre m (Nat.le_of_lt hi)).getElem h1
  cases he : m.endAt x.1 with
  | false => rfl
  | true => rw [hitAt_yes h1 (by rw [hxi]; exact he)] at h2; cases h2
theorem short_least {m : M} (hm : m.ok = true) {w : ByteArray} (h : IsShort m (some w)) {s : ByteArray} (hs : m.takes s = true) : w.size ≤ s.size := by
  obtain ⟨u, hu, hl, h14, he, h0⟩ := takes_walk hm hs
  obtain ⟨n, hH, ⟨v, h2, e⟩ | ⟨-, e⟩⟩ := h
  · cases e
    have hn := hitAt_lt h2
    have hw : (shTo m n)[n].2 = w := by
      rw [hitAt, List.getElem?_eq_getElem hn] at h2
      simp only at h2
      split at h2
      · exact Option.some.inj h2
      · cases h2
    rcases Nat.lt_or_ge s.size w.size with hlt | hge
    · exfalso
      have hup := (Szs.to m n (fun j hj => (hH j hj).1)).1
      obtain ⟨i, x, hi, hx, e1, -⟩ := sh_reach (fun j hj => (hH j hj).1) (fun k => k < w.size ∧ k ≤ 14) (fun k hk => by omega) (fun i x k hx hk hle => by omega)
        (fun i x k hx hk hle => by
          rcases Nat.lt_or_ge i n with h | h
          · exact h
          · exfalso
            obtain ⟨h4, h5⟩ := List.getElem?_eq_some_iff.1 hx
            have h6 : (shTo m n)[n].2.size ≤ (shTo m n)[i].2.size := by
              rcases Nat.lt_or_ge n i with h7 | h7
              · exact List.pairwise_iff_getElem.1 hup n i hn h4 h7
              · obtain rfl : i = n := by omega
                exact Nat.le_refl _
            rw [hw, h5] at h6
            omega) u hu ⟨by omega, by omega⟩ h0
      have := hit_of_end hH hi hx
      rw [e1, he] at this; cases this
    · exact hge
  · cases e
theorem short_none {m : M} (hm : m.ok = true) (h5 : m.st ≤ 14) (h : IsShort m none) (u : List (Fin 3)) : m.lang 0 u = false := by
  obtain ⟨n, hH, ⟨v, h2, e⟩ | ⟨hend, -⟩⟩ := h
  · cases e
  · cases hl : m.lang 0 u with
    | false => rfl
    | true =>
      exfalso
      have he : m.endAt (m.walk 0 (u.map fun l => l.val)) = true := hl
      have h0 : 0 ≤ m.walk 0 (u.map fun l => l.val) := by
        rcases Int.lt_or_le (m.walk 0 (u.map fun l => l.val)) 0 with h2 | h2
        · rw [M.endAt, if_pos h2] at he; cases he
        · exact h2
      have hix := (Szs.to m n (fun j hj => (hH j hj).1)).2.1
      have hlen : (shTo m n).length ≤ 14 := by
        have hS := Sh.to hm n
        have h2 := nodup_bd m.st.toNat ((shTo m n).map Prod.fst) hS.nd (fun x hx => by
          obtain ⟨y, hy, rfl⟩ := List.mem_map.1 hx
          have h3 := hS.all y hy
          have a := h3.s0
          have b := h3.s1
          omega)
        rw [List.length_map] at h2
        omega
      obtain ⟨i, x, hi, hx, e1, -⟩ := sh_reach (fun j hj => (hH j hj).1) (fun _ => True) (fun _ _ => trivial)
        (fun i x k hx _ _ => by
          have h3 := hix i x hx
          have h4 := (List.getElem?_eq_some_iff.1 hx).1
          omega)
        (fun i x k hx _ _ => by have h4 := (List.getElem?_eq_some_iff.1 hx).1; omega) (u.map fun l => l.val) (fun l hl => by obtain ⟨y, -, rfl⟩ := List.mem_map.1 hl; exact y.isLt) trivial h0
      have := hit_of_end hH hi hx
      rw [e1, he] at this; cases this
/-- the least machine of no word -/
theorem IsLm.empty {f : List (Fin 3) → Bool} {k : M} (h : IsLm f k) (hf : ∀ u, f u = false) : k.st = 1 ∧ k.ends = [false] := by
  obtain ⟨P, on, s, F, N, A, rfl, hN, rfl⟩ := h
  have hno : ∀ l, l < 3 → on s l = none := by
    intro l hl
    cases hc : on s l with
    | none => rfl
    | some b =>
      obtain ⟨u, hu⟩ := A.live s A.p0 l b hl hc
      have h2 := A.go s A.p0 ⟨l, hl⟩ b hc u
      rw [hu] at h2
      rw [hf (⟨l, hl⟩ :: u)] at h2
      cases h2
  have h1 : (bfsTo on s 1).1 = [s] := by
    have : bfsTo on s 1 = bfsL on s ([s], []) 3 := rfl
    rw [this]
    simp only [bfsL, hno 0 (by omega), hno 1 (by omega), hno 2 (by omega), bfs1_none]
  have hN1 : N = 1 := bfsTo_one hN (by rw [h1]; rfl)
  subst hN1
  refine ⟨rfl, ?_⟩
  show (bfsTo on s 1).1.map (fun x => F x []) = [false]
  rw [h1, List.map_cons, List.map_nil, hf []]
theorem IsLm.one_state {f : List (Fin 3) → Bool} {k : M} (h : IsLm f k) (h1 : k.st = 1) (h2 : k.ends = [false]) (u : List (Fin 3)) : f u = false := by
  rw [← h.lang]
  cases hu : k.lang 0 u with
  | false => rfl
  | true =>
    exfalso
    have key : ∀ u : List (Fin 3), ∀ s : Int, (s = 0 ∨ s = -1) → k.lang s u = false := by
      intro u
      induction u with
      | nil =>
        rintro s (rfl | rfl)
        · rw [M.lang_nil, M.endAt, if_neg (by omega), h2]; rfl
        · exact M.lang_neg k []
      | cons l u ih =>
        rintro s (rfl | rfl)
        · rw [M.lang_cons]
          have hg := h.good (by omega)
          have hb := M.gnx_bd hg 0 (l.val : Int) (by omega) (by omega) (by have := l.isLt; omega)
          exact ih _ (by omega)
        · exact M.lang_neg k _
    rw [key u 0 (.inl rfl)] at hu; cases hu
end Go.Proofs.Ytaghjddndgpljaa

namespace Go.Proofs.Ytaghjddndgpljaa
open Go.RowKit Go.Maps

theorem rdnS_cut : ∀ l, l < 3 → ((⟨#[114, 100, 110]⟩ : ByteArray).extract l (l + 1)).data.toList = [byteOf l]
  | 0, _ => by kernel_rfl
  | 1, _ => by kernel_rfl
  | 2, _ => by kernel_rfl
theorem rdnS_at (l : Nat) (hl : l < 3) (w : World) : (Instr.slice 9 (.string ⟨#[114, 100, 110]⟩) (some (.int .i64 (l : Int))) (some (.int .i64 ((l : Int) + 1))) none).run Try.prog w = .ok (.string (letS l)) w := by
  have hs : (⟨#[114, 100, 110]⟩ : ByteArray).size = 3 := by kernel_rfl
  have h := slice_one ⟨#[114, 100, 110]⟩ l (by omega) w
  have e : (⟨#[114, 100, 110]⟩ : ByteArray).extract l (l + 1) = letS l := bytes_ext (rdnS_cut l hl)
  rw [e] at h; exact h
theorem cell_newS (w : World) (u : Value) (t : TypeId) : ∀ j x, [u][j]? = some x → (w.alloc (.cells #[u] t)).cell? ((⟨w.heap.size, 0, none⟩ : Addr).add j) = some x := by
  intro j x hx
  rw [show (⟨w.heap.size, 0, none⟩ : Addr).add j = ⟨w.heap.size, j, none⟩ by unfold Addr.add; split <;> simp_all, World.cell?_alloc_new]
  simpa using hx
theorem infoStrS : (Try.prog.info? 9).map (fun i => (i.zero, i.size, i.bytes)) = some (some (.string ⟨#[]⟩), 1, 16) := by kernel_rfl
theorem infoBoolS : (Try.prog.info? 4).map (fun i => (i.zero, i.size, i.bytes)) = some (some (.bool false), 1, 1) := by kernel_rfl
/-- what lies in memory while the word is searched: which states are come to, and the queue of words -/
structure ShF (wB : World) (N gc : Nat) (bs : List Bool) (q : List SW) (qv : Value) (w : World) : Prop where
  keep : Below wB.heap.size wB w
  ap : Apart wB.heap.size [rowT 4 1 (.slice (some ⟨gc, 0, none⟩) N N) N (bs.map Value.bool), rowT 9 1 qv q.length (q.map fun x => Value.string x.2)] w
section
variable {wB : World} {N gc : Nat} {bs : List Bool} {q : List SW} {qv : Value} {w w' : World}
theorem ShF.size (h : ShF wB N gc bs q qv w) : wB.heap.size ≤ w.heap.size := h.keep.size
theorem ShF.below (h : ShF wB N gc bs q qv w) (hb : Below w.heap.size w w') : ShF wB N gc bs q qv w' := ⟨h.keep.trans (hb.mono h.size), h.ap.below hb⟩
theorem ShF.same (h : ShF wB N gc bs q qv w) (hg : w.grownBy w' none) : ShF wB N gc bs q qv w' := ⟨h.keep.grown hg h.size (fun _ e => by cases e), h.ap.same hg⟩
theorem ShF.rowC (h : ShF wB N gc bs q qv w) : w.ownsRow 0 4 1 (.slice (some ⟨gc, 0, none⟩) N N) N (bs.map Value.bool) := h.ap.at 0 (by simp)
theorem ShF.rowQ (h : ShF wB N gc bs q qv w) : w.ownsRow 0 9 1 qv q.length (q.map fun x => Value.string x.2) := h.ap.at 1 (by simp)
theorem ShF.set (h : ShF wB N gc bs q qv w) (s : Nat) : ShF wB N gc (bs.set s true) q qv (w.setCell ⟨gc, s, none⟩ (.bool true)) := by
  have h1 := (h.ap.lt gc rfl).1
  have h2 := h.ap.setRow h.size s (.bool true)
  rw [← List.map_set] at h2
  exact ⟨h.keep.setCell (p := ⟨gc, s, none⟩) h1 _, h2⟩
theorem ShF.push {x : SW} {t : TypeId} {g cp : Nat} {w1 : World} (h : ShF wB N gc bs q qv w) (hg : (w.alloc (.cells #[.string x.2] t)).grownBy w1 qv.ownBlock)
    (ho : w1.ownsRow 0 9 1 (.slice (some ⟨g, 0, none⟩) (q.length + 1) cp) (q.length + 1) ((q.map fun x => Value.string x.2) ++ [.string x.2])) (hat : qv.ownBlock = some g ∨ g = (w.alloc (.cells #[.string x.2] t)).heap.size) :
    ShF wB N gc bs (q ++ [x]) (.slice (some ⟨g, 0, none⟩) (q.length + 1) cp) w1 := by
  have h1 := h.same (World.grownBy_alloc w (.cells #[.string x.2] t) none)
  have hlt := h1.ap.ltAt 1 (by simp)
  have a1 := h1.ap.turnAt 1 (by simp) hg (rowT 9 1 (.slice (some ⟨g, 0, none⟩) (q.length + 1) cp) (q ++ [x]).length ((q ++ [x]).map fun x => Value.string x.2))
    (by show w1.ownsRow 0 _ _ _ _ _; rw [List.length_append, List.map_append]; exact ho) h1.size
    (fun j e => ⟨by cases e; exact hat.imp id (fun e => Nat.le_of_eq e.symm), (World.ownsRow.lt ho j e).2⟩)
  exact ⟨h1.keep.grown hg h1.size (fun j e => (hlt j e).1), a1⟩
theorem ShF.word {gq cp : Nat} (h : ShF wB N gc bs q (.slice (some ⟨gq, 0, none⟩) q.length cp) w) (k : Nat) (hk : k < q.length) : w.cell? ⟨gq, k, none⟩ = some (.string q[k].2) := by
  rw [h.rowQ.cellAt k (by omega)]; simp [hk]
theorem ShF.comeC (h : ShF wB N gc bs q qv w) (s : Nat) (hs : s < bs.length) (hN : bs.length = N) : w.cell? ⟨gc, s, none⟩ = some (.bool bs[s]) := by
  rw [h.rowC.cellAt s (by omega)]; simp [hs]
theorem ShF.froz (h : ShF wB N gc bs q qv w) (s : Nat) : w.frozen? ⟨gc, s, none⟩ = false := h.rowC.frozenAt s
end
/-- the two rows just made -/
theorem ShF.start {wB w1 w3 : World} {N : Nat} (hK : Below wB.heap.size wB w1) (hg : (w1.alloc (.cells #[.string ⟨#[]⟩] 9)).grownBy w3 none)
    (ho : w3.ownsRow (w1.heap.size + 1) 4 1 (.slice (some ⟨w1.heap.size + 1, 0, none⟩) N N) N (madeCells (Value.bool false).cells (N * 1)).toList) :
    ShF wB N (w1.heap.size + 1) (List.replicate N false) [(0, ⟨#[]⟩)] (.slice (some ⟨w1.heap.size, 0, none⟩) 1 1) w3 := by
  have e : (madeCells (Value.bool false).cells (N * 1)).toList = (List.replicate N false).map Value.bool := by
    rw [Nat.mul_one, List.map_replicate]; exact toList_madeCells_one _ _
  rw [e] at ho
  have hs := hK.size
  have A1 : Apart wB.heap.size [rowT 9 1 (.slice (some ⟨w1.heap.size, 0, none⟩) 1 1) 1 [Value.string ⟨#[]⟩]] (w1.alloc (.cells #[.string ⟨#[]⟩] 9)) :=
    (Apart.nil wB.heap.size w1).more (World.grownBy_alloc w1 _ none) _ (World.ownsRow_lit (base := 0) w1 #[.string ⟨#[]⟩] 1 (Nat.zero_le _) (by decide) (by simp)) hs (fun k e => by
      have : k = w1.heap.size := by simpa [rowT, Value.ownBlock] using e.symm
      subst this; exact ⟨Nat.le_refl _, by simp⟩)
  have A2 := A1.more hg (rowT 4 1 (.slice (some ⟨w1.heap.size + 1, 0, none⟩) N N) N ((List.replicate N false).map Value.bool)) (ownsRow_base ho (fun _ _ => Nat.zero_le _)) (by rw [World.size_alloc]; omega) (fun k e => by
      have hk : k = w1.heap.size + 1 := by simpa [rowT, Value.ownBlock] using e.symm
      subst hk
      exact ⟨by simp, (World.ownsRow.lt ho _ rfl).2⟩)
  refine ⟨?_, A2⟩
  have hal : Below wB.heap.size wB (w1.alloc (.cells #[.string ⟨#[]⟩] 9)) := hK.alloc hs _
  exact hal.grown hg (by rw [World.size_alloc]; omega) (fun _ e => by cases e)
def comeL (N : Nat) (q : List SW) : List Bool := (List.range N).map fun (s : Nat) => decide ((s : Int) ∈ q.map Prod.fst)
theorem comeL_length (N : Nat) (q : List SW) : (comeL N q).length = N := by simp [comeL]
theorem comeL_at {N : Nat} (q : List SW) {s : Nat} (h : s < N) : (comeL N q)[s]'(by rw [comeL_length]; exact h) = decide ((s : Int) ∈ q.map Prod.fst) := by simp [comeL]
theorem comeL_set (N : Nat) (q : List SW) (s : Nat) (x : ByteArray) : (comeL N q).set s true = comeL N (q ++ [((s : Int), x)]) := by
  apply List.ext_getElem
  · simp [comeL_length]
  · intro i h1 h2
    rw [comeL_length] at h2
    rw [List.getElem_set, comeL_at _ h2]
    by_cases e : s = i
    · subst e; rw [if_pos rfl, comeL_at _ h2]; simp
    · rw [if_neg e, comeL_at _ h2]
      have : ¬ ((i : Int) = (s : Int)) := by omega
      simp [this]
theorem comeL_zero (N : Nat) : (List.replicate N false).set 0 true = comeL N [(0, ⟨#[]⟩)] := by
  have := comeL_set N [] 0 ⟨#[]⟩
  rw [List.nil_append] at this
  rw [← show comeL N [] = List.replicate N false from by
    apply List.ext_getElem
    · simp [comeL_length]
    · intro i h1 h2; rw [comeL_length] at h1; rw [comeL_at _ h1]; simp]
  exact this

set_option maxHeartbeats 6400000 in
set_option maxRecDepth 100000 in
theorem implShort_any (N : Nat) (xs : List Int) (es : List Bool) (nv ev : Value) (w : World) (h1 : IsInts w nv xs) (h2 : IsBools w ev es) (hok : (M.mk N xs es).ok = true) :
    Calls Try.prog 23 #[.agg #[.int .i64 (N : Int), nv, ev]] w
      fun e w' => (∃ r : Option ByteArray, IsShort ⟨N, xs, es⟩ r ∧ e = .returned (.tuple #[.string (r.getD ⟨#[]⟩), .bool r.isSome])) ∧ Below w.heap.size w w' := by
  obtain ⟨s0, s1, s2, s3⟩ := M.ok_shape hok
  simp only at s0 s1 s2 s3
  have hst : (Lit.int .i64 (N : Int)).wf = true := WalkArith.wf_i64 (by show _ ∧ _; omega)
  have HOK : Hid (∀ W, IsInts W nv xs → IsBools W ev es → Calls Try.prog 30 #[.agg #[.int .i64 (N : Int), nv, ev]] W fun e w' => e = .returned (.bool true) ∧ Below W.heap.size W w') := Lib.hid (fun W a b => by
    have := implMachineOk_any ⟨N, xs, es⟩ nv ev W a b hst
    rwa [hok] at this)
  have H1 := Lib.hid h1
  have H2 := Lib.hid h2
  obtain ⟨a1, n1, c1, rfl⟩ := h1.slice
  obtain ⟨a2, n2, c2, rfl⟩ := h2.slice
  obtain ⟨i0, hi, hz0, hz1, hz2⟩ := info_parts infoBoolS
  have hsz : i0.bytes * N ≤ 281474976710656 := by rw [hz2]; omega
  have HI := Lib.hid hi
  have HZ0 := Lib.hid hz0
  have HZ1 := Lib.hid hz1
  have HSZ := Lib.hid hsz
  obtain ⟨j0, hj, hy0, hy1, hy2⟩ := info_parts infoStrS
  have HJ := Lib.hid (And.intro hj (And.intro hy0 (And.intro hy1 hy2)))
  clear hj hy0 hy1 hy2
  have HS2 := Lib.hid s2
  have HS3 := Lib.hid s3
  clear h1 h2 hi hz0 hz1 hz2 hsz s2 s3
  have hB := MachBox.new (st := (N : Int)) 26 H1.out H2.out
  have q0 := Lib.hid ((Below.refl w.heap.size w).alloc (Nat.le_refl _) (.cells #[.int .i64 (N : Int), .slice a1 n1 c1, .slice a2 n2 c2] 26))
  have hse : (w.alloc (.cells #[.int .i64 (N : Int), .slice a1 n1 c1, .slice a2 n2 c2] 26)).heap.size = w.heap.size + 1 := by simp
  have HSE := Lib.hid hse
  have MB := Lib.hid hB
  clear hB hse
  go_enter Try.func23, Try.ntmps23
  go_wp2_with fail
  generalize hWB : w.alloc (.cells #[.int .i64 (N : Int), .slice a1 n1 c1, .slice a2 n2 c2] 26) = wB at *
  clear hWB
  refine (HOK.out _ MB.out.ints MB.out.bools).mono ?_
  rintro e w1 ⟨rfl, hb1⟩
  have hal : Below w1.heap.size w1 (w1.alloc (.cells #[.string ⟨#[]⟩] 9)) := (Below.refl _ _).alloc (Nat.le_refl _) _
  have M1 := Lib.hid ((MB.out.below hb1).below hal)
  have K1 := Lib.hid hb1
  have K2 := Lib.hid (hb1.trans (hal.mono hb1.size))
  clear hb1 hal
  have y0 := M1.out.c0
  have hm : N ≤ maxLen := by unfold maxLen; omega
  have hb4 : w1.heap.size + 1 ≤ (w1.alloc (.cells #[.string ⟨#[]⟩] 9)).heap.size := by simp
  have HM := Lib.hid hm
  have HB4 := Lib.hid hb4
  have HN0 := Lib.hid (show 0 < N by omega)
  clear hm hb4
  go_wp2_with (at_make; refine wpList_make_full _ rfl _ _ 24 rfl (w1.heap.size + 1) 4 i0 (.bool false) 1 Try.underlying24 HI.out HZ0.out HZ1.out .i64 .i64 _ _ N rfl rfl rfl rfl HSZ.out HM.out HB4.out ?_; intro w3 hown3 hgrow3; rw [World.size_alloc] at hown3; have F0 := Lib.hid (ShF.start K1.out hgrow3 hown3); clear hown3 hgrow3; have x0 := F0.out.comeC 0 (by rw [List.length_replicate]; exact HN0.out) List.length_replicate; have f0 := F0.out.froz 0)
  have F1 := Lib.hid (F0.out.set 0)
  rw [comeL_zero] at F1
  clear x0 f0 F0 y0 M1 K1 K2
  have HTO := Lib.hid (Sh.to hok)
  have HTK : Hid (∀ (W : World) (n : Nat) (hn : n < (shTo ⟨N, xs, es⟩ n).length), IsInts W (.slice a1 n1 c1) xs → IsBools W (.slice a2 n2 c2) es → Calls Try.prog 25 #[.agg #[.int .i64 (N : Int), .slice a1 n1 c1, .slice a2 n2 c2], .string (shTo ⟨N, xs, es⟩ n)[n].2] W fun e w' => e = .returned (.bool ((M.mk N xs es).endAt (shTo ⟨N, xs, es⟩ n)[n].1)) ∧ Below W.heap.size W w') := Lib.hid (fun W n hn hi hb => by
    have hx := (Sh.to hok n).all _ (List.getElem_mem hn)
    have h14 : (shTo ⟨N, xs, es⟩ n)[n].2.size ≤ 14 := by have := hx.ok; simp only [wordOk, Bool.and_eq_true, decide_eq_true_eq] at this; exact this.2
    have := implTakesOk_any ⟨N, xs, es⟩ (shTo ⟨N, xs, es⟩ n)[n].2 _ _ W hi hb hst (by unfold maxLen; omega)
    rwa [M.takes, M.after_yes hok hx.ok, hx.go] at this)
  go_loopw [4, 6] (fun qv i wr => ∃ (n gq cp : Nat), i = .int .i64 (n : Int) ∧ qv = .slice (some ⟨gq, 0, none⟩) (shTo ⟨N, xs, es⟩ n).length cp ∧ n ≤ (shTo ⟨N, xs, es⟩ n).length ∧ ShF wB N (w1.heap.size + 1) (comeL N (shTo ⟨N, xs, es⟩ n)) (shTo ⟨N, xs, es⟩ n) (.slice (some ⟨gq, 0, none⟩) (shTo ⟨N, xs, es⟩ n).length cp) wr ∧ ∀ j, j < n → j < (shTo ⟨N, xs, es⟩ j).length ∧ hitAt ⟨N, xs, es⟩ j = none) (fun _ i _ => 48 - (intOf i).toNat)
  case atStart => exact ⟨0, w1.heap.size, 1, rfl, rfl, Nat.zero_le _, F1.out, fun j h => absurd h (Nat.not_lt_zero j)⟩
  case round =>
    obtain ⟨n, gq, cp, rfl, rfl, hn, hF, hno⟩ := hrel
    have hq48 := (HTO.out n).len hok
    have HNO := Lib.hid hno
    have FF := Lib.hid hF
    clear hno hF
    by_cases hlt : n < (shTo ⟨N, xs, es⟩ n).length
    · have hword := FF.out.word n hlt
      have MM := Lib.hid (MB.out.below FF.out.keep)
      have m0 := MM.out.c0
      have m1 := MM.out.c1
      have m2 := MM.out.c2
      have HTN := Lib.hid (fun W => HTK.out W n hlt)
      have HSTEP := Lib.hid (shTo_step hlt)
      have HX := Lib.hid ((HTO.out n).all _ (List.getElem_mem hlt))
      generalize hxx : (shTo ⟨N, xs, es⟩ n)[n] = x at *
      have HXX := Lib.hid hxx
      clear hxx
      obtain ⟨xs1, xw⟩ := x
      simp only at hword HTN
      have HYES : Hid ((M.mk N xs es).endAt xs1 = true → hitAt ⟨N, xs, es⟩ n = some xw) := Lib.hid (fun h => by
        have := hitAt_yes hlt (by rw [HXX.out]; exact h)
        rw [HXX.out] at this; exact this)
      have HNOT : Hid ((M.mk N xs es).endAt xs1 = false → hitAt ⟨N, xs, es⟩ n = none) := Lib.hid (fun h => hitAt_no hlt (by rw [HXX.out]; exact h))
      generalize hee : (M.mk N xs es).endAt xs1 = ee at *
      have HEE := Lib.hid hee
      clear hee
      go_wp2_with fail
      go_region_with (go_at_call 25; refine (HTN.out _ (MM.out.ints.below (Below.refl _ _).drew) (MM.out.bools.below (Below.refl _ _).drew)).mono ?_; rintro e w4 ⟨rfl, hb4⟩)
      all_goals
        have F4 := Lib.hid ((FF.out.same (grown_drew _ none)).below hb4)
        have Q4 := Lib.hid (q0.out.trans (F4.out.keep.mono q0.out.size))
        clear m0 m1 m2 hword hb4
        have hword : w4.cell? ⟨gq, n, none⟩ = some (.string xw) := by have := F4.out.word n hlt; rw [HXX.out] at this; exact this
        cases ee with
        | true =>
          go_wp2_with fail
          go_ret2
          exact ⟨⟨some xw, ⟨n, HNO.out, .inl ⟨xw, HYES.out (by trivial), rfl⟩⟩, rfl⟩, Q4.out⟩
        | false =>
          clear hword
          go_wp2_with fail
          go_loopw [4, 35] (fun qv i wr2 => ∃ (l g2 cp2 : Nat), l ≤ 3 ∧ i = .int .i64 (l : Int) ∧ qv = .slice (some ⟨g2, 0, none⟩) (shL (M.mk N xs es) (xs1, xw) (shTo (M.mk N xs es) n) l).length cp2 ∧ ShF wB N (w1.heap.size + 1) (comeL N (shL (M.mk N xs es) (xs1, xw) (shTo (M.mk N xs es) n) l)) (shL (M.mk N xs es) (xs1, xw) (shTo (M.mk N xs es) n) l) (.slice (some ⟨g2, 0, none⟩) (shL (M.mk N xs es) (xs1, xw) (shTo (M.mk N xs es) n) l).length cp2) wr2) (fun _ i _ => 3 - (intOf i).toNat)
          case atStart => exact ⟨0, gq, cp, by omega, rfl, rfl, F4.out⟩
          case round =>
            obtain ⟨l, g2, cp2, hl, rfl, rfl, hF2⟩ := hrel
            have F6 := Lib.hid hF2
            clear hF2
            by_cases hl3 : l < 3
            · have SHL := Lib.hid ((HTO.out n).many hok HX.out l hl)
              have hq6 := SHL.out.len hok
              have hpre := shL_prefix (M.mk N xs es) (xs1, xw) (shTo (M.mk N xs es) n) l
              have hn6 : n < (shL (M.mk N xs es) (xs1, xw) (shTo (M.mk N xs es) n) l).length := Nat.lt_of_lt_of_le hlt hpre.length_le
              have hx6 : (shL (M.mk N xs es) (xs1, xw) (shTo (M.mk N xs es) n) l)[n] = (xs1, xw) := by rw [← hpre.getElem hlt]; exact HXX.out
              have hword : wr.cell? ⟨g2, n, none⟩ = some (.string xw) := by have := F6.out.word n hn6; rw [hx6] at this; exact this
              have HST : Hid (shL (M.mk N xs es) (xs1, xw) (shTo (M.mk N xs es) n) (l + 1) = sh1 (M.mk N xs es) (xs1, xw) (shL (M.mk N xs es) (xs1, xw) (shTo (M.mk N xs es) n) l) l) := Lib.hid rfl
              have h14 : xw.size ≤ 14 := by have := HX.out.ok; simp only [wordOk, Bool.and_eq_true, decide_eq_true_eq] at this; exact this.2
              have hls : (letS l).size = 1 := rfl
              have hva : (xw.size < 14 → (M.mk N xs es).after (xw ++ letS l) = (M.mk N xs es).nx xs1 l) ∧ (¬ xw.size < 14 → (M.mk N xs es).after (xw ++ letS l) = -2) :=
                ⟨fun h => by rw [M.after_yes hok (wordOk_more HX.out.ok h l hl3), goes_more _ _ l hl3, HX.out.go], fun h => M.after_now _ (wordOk_full h l)⟩
              have HSA : Hid (∀ W, IsInts W (.slice a1 n1 c1) xs → IsBools W (.slice a2 n2 c2) es → Calls Try.prog 76 #[.agg #[.int .i64 (N : Int), .slice a1 n1 c1, .slice a2 n2 c2], .string (xw ++ letS l)] W fun e w' => e = .returned (.int .i64 ((M.mk N xs es).after (xw ++ letS l))) ∧ Below W.heap.size W w') := Lib.hid (fun W a b => implStateAfter_any (M.mk N xs es) (xw ++ letS l) _ _ W a b hst (by unfold maxLen; rw [ByteArray.size_append]; omega))
              generalize (M.mk N xs es).after (xw ++ letS l) = v at *
              have HV := Lib.hid hva
              have hsl := fun W => rdnS_at l hl3 W
              have hwr : IntKind.i64.wrap ((l : Int) + 1) = (l : Int) + 1 := IntWalk.i64_in _ (by omega)
              clear hva hpre hx6
              generalize shL (M.mk N xs es) (xs1, xw) (shTo (M.mk N xs es) n) l = q at *
              have MM6 := Lib.hid (MB.out.below F6.out.keep)
              have m0 := MM6.out.c0
              have m1 := MM6.out.c1
              have m2 := MM6.out.c2
              go_wp2_with fail
              go_quiet (fail)
              go_wp2_with fail
              refine (HSA.out _ (MM6.out.ints.below (below_drewN (Below.refl _ _) _)) (MM6.out.bools.below (below_drewN (Below.refl _ _) _))).mono ?_
              rintro e w5 ⟨rfl, hb5⟩
              have F7 := Lib.hid ((F6.out.same (grown_drewN _ _ none)).below hb5)
              clear m0 m1 m2 hword hsl hb5
              by_cases hv : v < 0
              · have hs1 : sh1 (M.mk N xs es) (xs1, xw) q l = q := by
                  unfold sh1
                  rw [if_neg]
                  rintro ⟨d1, d2, -⟩
                  have := HV.out.1 d1
                  simp only at d1 d2
                  omega
                have HS1 := Lib.hid hs1
                clear hs1
                go_wp2_with fail
                go_roundw
                case rel => exact ⟨l + 1, g2, cp2, by omega, by go_num, by rw [HST.out, HS1.out], by rw [HST.out, HS1.out]; exact F7.out⟩
                case measure => simp [intOf]; omega
              · obtain ⟨k, rfl⟩ := Int.eq_ofNat_of_zero_le (show 0 ≤ v by omega)
                have hsz : xw.size < 14 := by
                  rcases Nat.lt_or_ge xw.size 14 with h | h
                  · exact h
                  · have := HV.out.2 (by omega); omega
                have hnx : (M.mk N xs es).nx xs1 l = (k : Int) := (HV.out.1 hsz).symm
                have hkN : k < N := by
                  have := (M.nx_bd hok xs1 l HX.out.s1 (by omega) (by omega)).2
                  rw [hnx] at this
                  simp only at this
                  omega
                have HNX := Lib.hid hnx
                clear hnx hv
                have hcc := F7.out.comeC k (by rw [comeL_length]; exact hkN) (comeL_length N q)
                rw [comeL_at q hkN] at hcc
                by_cases hin : (k : Int) ∈ q.map Prod.fst
                · have hs1 : sh1 (M.mk N xs es) (xs1, xw) q l = q := by
                    unfold sh1
                    rw [if_neg]
                    rintro ⟨-, -, d3⟩
                    simp only at d3
                    rw [HNX.out] at d3
                    exact d3 hin
                  have HS1 := Lib.hid hs1
                  rw [decide_eq_true hin] at hcc
                  clear hs1 hin
                  go_wp2_with fail
                  go_roundw
                  case rel => exact ⟨l + 1, g2, cp2, by omega, by go_num, by rw [HST.out, HS1.out], by rw [HST.out, HS1.out]; exact F7.out⟩
                  case measure => simp [intOf]; omega
                · have hs1 : sh1 (M.mk N xs es) (xs1, xw) q l = q ++ [((k : Int), xw ++ letS l)] := by
                    unfold sh1
                    simp only
                    rw [if_pos ⟨hsz, by rw [HNX.out]; omega, by rw [HNX.out]; exact hin⟩, HNX.out]
                  have HS1 := Lib.hid hs1
                  rw [decide_eq_false hin] at hcc
                  have ff := F7.out.froz k
                  have F8 := Lib.hid (F7.out.set k)
                  rw [comeL_set N q k (xw ++ letS l)] at F8
                  have hnews : ∀ j u, [Value.string (xw ++ letS l)][j]? = some u → ((w5.setCell ⟨w1.heap.size + 1, k, none⟩ (.bool true)).alloc (.cells #[.string (xw ++ letS l)] 9)).cell? ((⟨w5.heap.size, 0, none⟩ : Addr).add j) = some u := by
                    have := cell_newS (w5.setCell ⟨w1.heap.size + 1, k, none⟩ (.bool true)) (.string (xw ++ letS l)) 9
                    simpa using this
                  have HNEWS := Lib.hid hnews
                  have HA1 := Lib.hid (show q.length + 1 ≤ maxLen by unfold maxLen; omega)
                  have HA2 := Lib.hid (show (q.length + 1) * 16 ≤ 140737488355328 by omega)
                  clear hs1 hin hnews
                  go_wp2_with (at_builtin; refine wpList_append_lies _ rfl _ _ 82 rfl 0 9 j0 (.string ⟨#[]⟩) 1 16 Try.underlying82 HJ.out.1 HJ.out.2.1 HJ.out.2.2.1 HJ.out.2.2.2 rfl (by decide) (.slice (some ⟨g2, 0, none⟩) q.length cp2) q.length (q.map fun x => Value.string x.2) rfl (F8.out.rowQ.alloc _) ⟨w5.heap.size, 0, none⟩ 1 1 [.string (xw ++ letS l)] rfl rfl HNEWS.out (by simp [Value.oneCell']) (by omega) HA1.out HA2.out (Nat.zero_le _) _ rfl ?_; intro g3 cp3 w6 hown hgrow hat hlt3; have F9 := Lib.hid (F8.out.push (x := ((k : Int), xw ++ letS l)) hgrow hown hat); clear hown hgrow hat hlt3)
                  go_roundw
                  case rel => exact ⟨l + 1, g3, cp3, by omega, by go_num, by rw [HST.out, HS1.out, List.length_append]; rfl, by rw [HST.out, HS1.out, List.length_append]; exact F9.out⟩
                  case measure => simp [intOf]; omega
            · obtain rfl : l = 3 := by omega
              have Q6 := Lib.hid (q0.out.trans (F6.out.keep.mono q0.out.size))
              have hn7 : n + 1 ≤ (shL (M.mk N xs es) (xs1, xw) (shTo (M.mk N xs es) n) 3).length := Nat.lt_of_lt_of_le hlt (shL_prefix (M.mk N xs es) (xs1, xw) (shTo (M.mk N xs es) n) 3).length_le
              have HN7 := Lib.hid hn7
              clear hn7
              go_wp2_with fail
              go_roundw
              case rel => exact ⟨n + 1, g2, cp2, by go_num, by rw [HSTEP.out], by rw [HSTEP.out]; exact HN7.out, by rw [HSTEP.out]; exact F6.out, fun j hj => by
                rcases Nat.lt_or_ge j n with h | h
                · exact HNO.out j h
                · obtain rfl : j = n := by omega
                  exact ⟨hlt, HNOT.out (by trivial)⟩⟩
              case measure => simp [intOf]; omega
    · obtain hn2 : n = (shTo (M.mk N xs es) n).length := by omega
      have hd : decide ((n : Int) < ((shTo (M.mk N xs es) n).length : Int)) = false := decide_eq_false (by omega)
      have Q4 := Lib.hid (q0.out.trans (FF.out.keep.mono q0.out.size))
      have HLE := Lib.hid (Nat.le_of_eq hn2.symm)
      clear hn2
      go_wp2_with fail
      go_ret2
      exact ⟨⟨none, ⟨n, HNO.out, .inr ⟨HLE.out, rfl⟩⟩, rfl⟩, Q4.out⟩
end Go.Proofs.Ytaghjddndgpljaa

namespace Go.Proofs.Ytaghjddndgpljaa

/-- a machine out of plain functions -/
def mkM (n : Nat) (δ : Nat → Nat → Nat) (e : Nat → Bool) : M := ⟨(n : Int), (List.range (3 * n)).map (fun i => ((δ (i / 3) (i % 3) : Nat) : Int)), (List.range n).map e⟩
theorem mkM_nx {n : Nat} {δ : Nat → Nat → Nat} {e : Nat → Bool} {x l : Nat} (hx : x < n) (hl : l < 3) : (mkM n δ e).nx (x : Int) (l : Int) = ((δ x l : Nat) : Int) := by
  have h1 : (3 * (x : Int) + (l : Int)).toNat = 3 * x + l := by omega
  have h2 : 3 * x + l < (List.range (3 * n)).length := by rw [List.length_range]; omega
  have h3 : (3 * x + l) / 3 = x := by omega
  have h4 : (3 * x + l) % 3 = l := by omega
  rw [M.nx, if_neg (by omega), h1, List.getD_eq_getElem?_getD]
  show (((List.range (3 * n)).map (fun i => ((δ (i / 3) (i % 3) : Nat) : Int)))[3 * x + l]?).getD (-1) = _
  rw [List.getElem?_map, List.getElem?_eq_getElem h2, List.getElem_range]
  simp [h3, h4]
theorem mkM_end {n : Nat} {δ : Nat → Nat → Nat} {e : Nat → Bool} {x : Nat} (hx : x < n) : (mkM n δ e).endAt (x : Int) = e x := by
  have h2 : x < (List.range n).length := by rw [List.length_range]; exact hx
  rw [M.endAt, if_neg (by omega), Int.toNat_natCast, List.getD_eq_getElem?_getD]
  show (((List.range n).map e)[x]?).getD false = _
  rw [List.getElem?_map, List.getElem?_eq_getElem h2, List.getElem_range]; rfl
/-- states that a round parts are parted by a word -/
theorem eqv_word {t : M} {N : Nat} (hc : ∀ x l : Nat, x < N → l < 3 → ∃ y : Nat, y < N ∧ t.nx (x : Int) (l : Int) = (y : Int)) (n : Nat) : ∀ x y : Nat, x < N → y < N → eqv t n (x : Int) (y : Int) = false → ∃ u : List (Fin 3), u.length ≤ n ∧ t.lang (x : Int) u ≠ t.lang (y : Int) u := by
  induction n with
  | zero =>
    intro x y _ _ h
    refine ⟨[], Nat.le_refl _, fun e => ?_⟩
    rw [(eqv_zero t x y).2 e] at h; cases h
  | succ n ih =>
    intro x y hx hy h
    cases h0 : eqv t n (x : Int) (y : Int) with
    | false =>
      obtain ⟨u, h1, h2⟩ := ih x y hx hy h0
      exact ⟨u, by omega, h2⟩
    | true =>
      apply Classical.byContradiction
      intro hno
      have : eqv t (n + 1) (x : Int) (y : Int) = true := (eqv_succ t n x y).2 ⟨h0, fun l hl => by
        obtain ⟨a, ha, hae⟩ := hc x l hx hl
        obtain ⟨b, hb, hbe⟩ := hc y l hy hl
        rw [hae, hbe]
        refine ⟨⟨fun e => by omega, fun e => by omega⟩, fun _ => ?_⟩
        cases h3 : eqv t n (a : Int) (b : Int) with
        | true => rfl
        | false =>
          obtain ⟨u, h1, h2⟩ := ih a b ha hb h3
          refine absurd ⟨⟨l, hl⟩ :: u, by simp; omega, ?_⟩ hno
          rw [M.lang_cons, M.lang_cons]
          show t.lang (t.nx (x : Int) (l : Int)) u ≠ t.lang (t.nx (y : Int) (l : Int)) u
          rw [hae, hbe]
          exact h2⟩
      rw [this] at h; cases h
/-- both machines in one -/
def unM (m k : M) : M := mkM (m.ends.length + k.ends.length + 2)
  (fun x l => if x ≤ m.ends.length then (m.nx ((x : Int) - 1) (l : Int) + 1).toNat else (k.nx ((x : Int) - m.ends.length - 2) (l : Int) + 1).toNat + (m.ends.length + 1))
  (fun x => if x ≤ m.ends.length then m.endAt ((x : Int) - 1) else k.endAt ((x : Int) - m.ends.length - 2))
theorem unM_nx1 {m k : M} (hm : m.good) {s : Int} (h0 : -1 ≤ s) (h1 : s < m.ends.length) (l : Nat) (hl : l < 3) : (unM m k).nx (s + 1) (l : Int) = m.nx s (l : Int) + 1 := by
  have hs := M.good_shape hm
  have hb := M.gnx_bd hm s (l : Int) (by omega) (by omega) (by omega)
  obtain ⟨x, hx⟩ : ∃ x : Nat, s + 1 = (x : Int) := ⟨(s + 1).toNat, by omega⟩
  rw [hx, unM, mkM_nx (by omega) hl, if_pos (by omega), show (x : Int) - 1 = s by omega]
  omega
theorem unM_nx2 {m k : M} (hk : k.good) {s : Int} (h0 : -1 ≤ s) (h1 : s < k.ends.length) (l : Nat) (hl : l < 3) : (unM m k).nx (s + m.ends.length + 2) (l : Int) = k.nx s (l : Int) + m.ends.length + 2 := by
  have hs := M.good_shape hk
  have hb := M.gnx_bd hk s (l : Int) (by omega) (by omega) (by omega)
  obtain ⟨x, hx⟩ : ∃ x : Nat, s + m.ends.length + 2 = (x : Int) := ⟨(s + m.ends.length + 2).toNat, by omega⟩
  rw [hx, unM, mkM_nx (by omega) hl, if_neg (by omega), show (x : Int) - m.ends.length - 2 = s by omega]
  omega
theorem unM_lang1 {m k : M} (hm : m.good) (u : List (Fin 3)) : ∀ s : Int, -1 ≤ s → s < m.ends.length → (unM m k).lang (s + 1) u = m.lang s u := by
  have hs := M.good_shape hm
  induction u with
  | nil =>
    intro s h0 h1
    obtain ⟨x, hx⟩ : ∃ x : Nat, s + 1 = (x : Int) := ⟨(s + 1).toNat, by omega⟩
    rw [M.lang_nil, M.lang_nil, hx, unM, mkM_end (by omega), if_pos (by omega), show (x : Int) - 1 = s by omega]
  | cons l u ih =>
    intro s h0 h1
    have hb := M.gnx_bd hm s (l.val : Int) (by omega) (by omega) (by omega)
    rw [M.lang_cons, M.lang_cons, unM_nx1 hm h0 h1 l.val l.isLt]
    exact ih _ hb.1 (by omega)
theorem unM_lang2 {m k : M} (hk : k.good) (u : List (Fin 3)) : ∀ s : Int, -1 ≤ s → s < k.ends.length → (unM m k).lang (s + m.ends.length + 2) u = k.lang s u := by
  have hs := M.good_shape hk
  induction u with
  | nil =>
    intro s h0 h1
    obtain ⟨x, hx⟩ : ∃ x : Nat, s + m.ends.length + 2 = (x : Int) := ⟨(s + m.ends.length + 2).toNat, by omega⟩
    rw [M.lang_nil, M.lang_nil, hx, unM, mkM_end (by omega), if_neg (by omega), show (x : Int) - m.ends.length - 2 = s by omega]
  | cons l u ih =>
    intro s h0 h1
    have hb := M.gnx_bd hk s (l.val : Int) (by omega) (by omega) (by omega)
    rw [M.lang_cons, M.lang_cons, unM_nx2 hk h0 h1 l.val l.isLt]
    exact ih _ hb.1 (by omega)
/-- two machines that differ do so within as many letters as there are states, and one -/
theorem differ_short {m k : M} (hm : m.good) (hk : k.good) (h : m.lang 0 ≠ k.lang 0) : ∃ u : List (Fin 3), u.length ≤ m.ends.length + k.ends.length + 1 ∧ m.lang 0 u ≠ k.lang 0 u := by
  have sm := M.good_shape hm
  have sk := M.good_shape hk
  apply Classical.byContradiction
  intro hno
  have hall : ∀ u : List (Fin 3), u.length ≤ m.ends.length + k.ends.length + 1 → m.lang 0 u = k.lang 0 u := fun u hu => Classical.byContradiction fun e => hno ⟨u, hu, e⟩
  have hcl : ∀ x l : Nat, x < m.ends.length + k.ends.length + 2 → l < 3 → ∃ y : Nat, y < m.ends.length + k.ends.length + 2 ∧ (unM m k).nx (x : Int) (l : Int) = (y : Int) := by
    intro x l hx hl
    by_cases hxm : x ≤ m.ends.length
    · have h1 := unM_nx1 (k := k) hm (s := (x : Int) - 1) (by omega) (by omega) l hl
      have hb := M.gnx_bd hm ((x : Int) - 1) (l : Int) (by omega) (by omega) (by omega)
      rw [show (x : Int) - 1 + 1 = (x : Int) by omega] at h1
      exact ⟨(m.nx ((x : Int) - 1) (l : Int) + 1).toNat, by omega, by rw [h1]; omega⟩
    · have h1 := unM_nx2 (m := m) hk (s := (x : Int) - m.ends.length - 2) (by omega) (by omega) l hl
      have hb := M.gnx_bd hk ((x : Int) - m.ends.length - 2) (l : Int) (by omega) (by omega) (by omega)
      rw [show (x : Int) - m.ends.length - 2 + m.ends.length + 2 = (x : Int) by omega] at h1
      exact ⟨(k.nx ((x : Int) - m.ends.length - 2) (l : Int) + m.ends.length + 2).toNat, by omega, by rw [h1]; omega⟩
  have hcl2 : closedM (unM m k) (m.ends.length + k.ends.length + 2) := fun x l hx hl => .inr (hcl x l hx hl)
  have hst := still_end hcl2 (by omega)
  have l1 : ∀ u, (unM m k).lang ((1 : Nat) : Int) u = m.lang 0 u := fun u => unM_lang1 hm u 0 (by omega) (by omega)
  have l2 : ∀ u, (unM m k).lang ((m.ends.length + 2 : Nat) : Int) u = k.lang 0 u := fun u => by
    have := unM_lang2 (m := m) hk u 0 (by omega) (by omega)
    rw [show (0 : Int) + m.ends.length + 2 = ((m.ends.length + 2 : Nat) : Int) by omega] at this
    exact this
  have he : eqv (unM m k) (m.ends.length + k.ends.length + 2 - 1) ((1 : Nat) : Int) ((m.ends.length + 2 : Nat) : Int) = true := by
    cases hc : eqv (unM m k) (m.ends.length + k.ends.length + 2 - 1) ((1 : Nat) : Int) ((m.ends.length + 2 : Nat) : Int) with
    | true => rfl
    | false =>
      obtain ⟨u, h1, h2⟩ := eqv_word hcl _ 1 (m.ends.length + 2) (by omega) (by omega) hc
      rw [l1, l2] at h2
      exact absurd (hall u (by omega)) h2
  refine h (funext fun u => ?_)
  rw [← l1, ← l2]
  exact eqv_words (unM m k) u (m.ends.length + k.ends.length + 2 - 1 + u.length) _ _ (by omega) (still_up hcl2 hst u.length 1 (m.ends.length + 2) (by omega) (by omega) he)
end Go.Proofs.Ytaghjddndgpljaa

namespace Go.Proofs.Ytaghjddndgpljaa
open Go.RowKit

def EqM (a b : M) (k : Nat) : Prop := ∀ i, i < k → a.next.getD i 0 = b.next.getD i 0 ∧ a.ends.getD (i / 3) false = b.ends.getD (i / 3) false
theorem EqM.more {a b : M} {k : Nat} (h : EqM a b k) (h1 : a.next.getD k 0 = b.next.getD k 0) (h2 : a.ends.getD (k / 3) false = b.ends.getD (k / 3) false) : EqM a b (k + 1) := by
  intro i hi
  rcases Nat.lt_succ_iff_lt_or_eq.1 hi with h' | rfl
  · exact h i h'
  · exact ⟨h1, h2⟩
theorem EqM.all {a b : M} (ha : a.good) (hb : b.good) (hst : a.st = b.st) (h : EqM a b a.next.length) : a = b := by
  have sa := M.good_shape ha
  have sb := M.good_shape hb
  obtain ⟨s, xs, es⟩ := a
  obtain ⟨s', ys, fs⟩ := b
  simp only at hst sa sb h
  subst hst
  have e1 : xs = ys := by
    refine List.ext_getElem (by omega) fun i h1 h2 => ?_
    have := (h i h1).1
    simpa [List.getD, h1, h2] using this
  have e2 : es = fs := by
    refine List.ext_getElem (by omega) fun i h1 h2 => ?_
    have h3 := (h (3 * i) (by omega)).2
    rw [show 3 * i / 3 = i by omega] at h3
    simpa [List.getD, h1, h2] using h3
  rw [e1, e2]

set_option maxHeartbeats 1600000 in
set_option maxRecDepth 100000 in
theorem specL2Equal_any (a b : M) (na ea nb eb : Value) (w : World) (h1 : IsInts w na a.next) (h2 : IsBools w ea a.ends) (h3 : IsInts w nb b.next) (h4 : IsBools w eb b.ends) (ha : a.good) (hb : b.good) :
    Calls Try.prog 65 #[.agg #[.int .i64 a.st, na, ea], .agg #[.int .i64 b.st, nb, eb]] w fun e w' => e = .returned (.bool (decide (a = b))) ∧ Below w.heap.size w w' := by
  have hsa := M.good_shape ha
  have hsb := M.good_shape hb
  have MA := MachBox.new (st := a.st) 26 h1 h2
  have ha1 := (Below.refl w.heap.size w).alloc (Nat.le_refl _) (.cells #[.int .i64 a.st, na, ea] 26)
  have hb1 := (Below.refl _ (w.alloc (.cells #[.int .i64 a.st, na, ea] 26))).alloc (Nat.le_refl _) (.cells #[.int .i64 b.st, nb, eb] 26)
  have MB := MachBox.new (st := b.st) 26 (h3.below ha1) (h4.below ha1)
  rw [World.size_alloc] at MB
  have MA2 := MA.below hb1
  have q2 := Lib.hid (ha1.trans (hb1.mono (by simp)))
  have HA := Lib.hid ha
  have HB := Lib.hid hb
  obtain ⟨a1, n1, c1, rfl⟩ := MA2.ints.slice
  obtain ⟨g1, o1, rfl, rfl, d1, e1, l1, r1⟩ := ints_cells MA2.ints (by omega)
  obtain ⟨a2, n2, c2, rfl⟩ := MA2.bools.slice
  obtain ⟨g2, o2, rfl, rfl, l2, r2⟩ := bools_cells3 MA2.bools (by omega)
  obtain ⟨a3, n3, c3, rfl⟩ := MB.ints.slice
  obtain ⟨g3, o3, rfl, rfl, d3, e3, l3, r3⟩ := ints_cells MB.ints (by omega)
  obtain ⟨a4, n4, c4, rfl⟩ := MB.bools.slice
  obtain ⟨g4, o4, rfl, rfl, l4, r4⟩ := bools_cells3 MB.bools (by omega)
  have R1 := Lib.hid r1
  have R2 := Lib.hid r2
  have R3 := Lib.hid r3
  have R4 := Lib.hid r4
  have MAH := Lib.hid MA2
  have MBH := Lib.hid MB
  have HSA := Lib.hid hsa
  have HSB := Lib.hid hsb
  have x0 := MA2.c0
  have x1 := MA2.c1
  have x2 := MA2.c2
  have z0 := MB.c0
  have z1 := MB.c1
  have z2 := MB.c2
  clear r1 r2 r3 r4 MA MA2 MB h1 h2 h3 h4 ha1 hb1 ha hb
  by_cases hst : a.st = b.st
  · have hq : (a.st != b.st) = false := by simp [hst]
    have HST := Lib.hid hst
    have hnl : a.next.length ≤ 12000 := by omega
    clear hst hsa hsb
    go_enter Try.func65, Try.ntmps65
    go_wp2_with fail
    generalize hW0 : (w.alloc (.cells #[.int .i64 a.st, .slice (some ⟨g1, o1, none⟩) a.next.length c1, .slice (some ⟨g2, o2, none⟩) a.ends.length c2] 26)).alloc (.cells #[.int .i64 b.st, .slice (some ⟨g3, o3, none⟩) b.next.length c3, .slice (some ⟨g4, o4, none⟩) b.ends.length c4] 26) = W0 at *
    clear hW0 x0 x1 x2 z0 z1 z2
    go_loopw [5] (fun i wr => ∃ k d : Nat, k ≤ a.next.length ∧ i = .int .i64 (k : Int) ∧ EqM a b k ∧ wr = W0.drewN d) (fun i _ => a.next.length - (intOf i).toNat)
    case atStart => exact ⟨0, 0, Nat.zero_le _, rfl, fun i h => absurd h (Nat.not_lt_zero i), rfl⟩
    case round =>
      obtain ⟨k, d, hk, rfl, hE, rfl⟩ := hrel
      have HE := Lib.hid hE
      clear hE
      have hbd := below_drewN (Below.refl W0.heap.size W0) d
      have MAd := MAH.out.below hbd
      have MBd := MBH.out.below hbd
      have x1 := MAd.c1
      have x2 := MAd.c2
      have z1 := MBd.c1
      have z2 := MBd.c2
      have HQ := Lib.hid (q2.out.trans (hbd.mono q2.out.size))
      clear MAd MBd
      by_cases hlt : k < a.next.length
      · have sa := HSA.out
        have sb := HSB.out
        have hs := HST.out
        have hlb : k < b.next.length := by omega
        have hea : k / 3 < a.ends.length := by omega
        have heb : k / 3 < b.ends.length := by omega
        have y1 : (W0.drewN d).cell? ⟨g1, o1 + k, none⟩ = some (.int .i64 a.next[k]) := R1.out k hlt
        have y2 : (W0.drewN d).cell? ⟨g2, o2 + k / 3, none⟩ = some (.bool a.ends[k / 3]) := R2.out (k / 3) hea
        have y3 : (W0.drewN d).cell? ⟨g3, o3 + k, none⟩ = some (.int .i64 b.next[k]) := R3.out k hlb
        have y4 : (W0.drewN d).cell? ⟨g4, o4 + k / 3, none⟩ = some (.bool b.ends[k / 3]) := R4.out (k / 3) heb
        have htd := tdiv3 k
        have hwd : IntKind.i64.wrap ((k / 3 : Nat) : Int) = ((k / 3 : Nat) : Int) := IntWalk.i64_in _ (by omega)
        have hwe : IntKind.i64.wrap ((k : Int).tdiv 3) = ((k / 3 : Nat) : Int) := by rw [htd]; exact hwd
        have hki : (k : Int) < (a.next.length : Int) := by omega
        have hkj : (k : Int) < (b.next.length : Int) := by omega
        have hka : ((k / 3 : Nat) : Int) < (a.ends.length : Int) := by omega
        have hkb : ((k / 3 : Nat) : Int) < (b.ends.length : Int) := by omega
        have gn : a.next.getD k 0 = a.next[k] := by rw [List.getD_eq_getElem?_getD, List.getElem?_eq_getElem hlt]; rfl
        have gm : b.next.getD k 0 = b.next[k] := by rw [List.getD_eq_getElem?_getD, List.getElem?_eq_getElem hlb]; rfl
        have ge : a.ends.getD (k / 3) false = a.ends[k / 3] := by rw [List.getD_eq_getElem?_getD, List.getElem?_eq_getElem hea]; rfl
        have gf : b.ends.getD (k / 3) false = b.ends[k / 3] := by rw [List.getD_eq_getElem?_getD, List.getElem?_eq_getElem heb]; rfl
        have HSU : Hid (a.next[k] = b.next[k] → a.ends[k / 3] = b.ends[k / 3] → EqM a b (k + 1)) := Lib.hid (fun h1 h2 => HE.out.more (by rw [gn, gm, h1]) (by rw [ge, gf, h2]))
        have HN1 : Hid (a.next[k] ≠ b.next[k] → a ≠ b) := Lib.hid (fun h e => h (by subst e; rfl))
        have HN2 : Hid (a.ends[k / 3] ≠ b.ends[k / 3] → a ≠ b) := Lib.hid (fun h e => h (by subst e; rfl))
        have HW : Hid (∀ q, ∃ d', (W0.drewN d).drewN q = W0.drewN d') := Lib.hid (fun q => ⟨d + q, by rw [World.drewN_drewN]⟩)
        clear gn gm ge gf sa sb hs hbd
        generalize a.next[k] = x at *
        generalize b.next[k] = y at *
        generalize a.ends[k / 3] = p at *
        generalize b.ends[k / 3] = q at *
        generalize hK3 : k / 3 = k3 at *
        clear hK3
        generalize W0.drewN d = W at *
        by_cases hxy : x = y
        · have hq1 : (x != y) = false := by simp [hxy]
          have HSU2 := Lib.hid (HSU.out hxy)
          clear hxy HSU HN1
          match p, q with
          | false, false =>
            have HS := Lib.hid (HSU2.out rfl)
            clear HSU2 HN2
            go_wp2_with fail
            go_quiet (fail)
            go_wp2_with fail
            go_roundw
            case rel => exact ⟨k + 1, _, by omega, by go_num, HS.out, (HW.out _).choose_spec⟩
            case measure => simp [intOf]; omega
          | true, true =>
            have HS := Lib.hid (HSU2.out rfl)
            clear HSU2 HN2
            go_wp2_with fail
            go_quiet (fail)
            go_wp2_with fail
            go_roundw
            case rel => exact ⟨k + 1, _, by omega, by go_num, HS.out, (HW.out _).choose_spec⟩
            case measure => simp [intOf]; omega
          | false, true =>
            have HS := Lib.hid (HN2.out (by decide))
            clear HSU2 HN2
            go_wp2_with fail
            go_quiet (fail)
            go_wp2_with fail
            go_ret
            exact ⟨ret_bool (decide_eq_false HS.out).symm, below_drewN HQ.out _⟩
          | true, false =>
            have HS := Lib.hid (HN2.out (by decide))
            clear HSU2 HN2
            go_wp2_with fail
            go_quiet (fail)
            go_wp2_with fail
            go_ret
            exact ⟨ret_bool (decide_eq_false HS.out).symm, below_drewN HQ.out _⟩
        · have hq1 : (x != y) = true := by simpa using hxy
          have HS := Lib.hid (HN1.out hxy)
          clear hxy HSU HN1 HN2
          go_wp2_with fail
          go_quiet (fail)
          go_wp2_with fail
          go_ret
          exact ⟨ret_bool (decide_eq_false HS.out).symm, below_drewN HQ.out _⟩
      · obtain rfl : k = a.next.length := by omega
        have HEQ := Lib.hid (EqM.all HA.out HB.out HST.out HE.out)
        go_wp2_with fail
        go_ret
        exact ⟨ret_bool (decide_eq_true HEQ.out).symm, HQ.out⟩
  · have hq : (a.st != b.st) = true := by simpa using hst
    have HNE : Hid (a ≠ b) := Lib.hid (fun e => hst (by rw [e]))
    clear hst hsa hsb
    go_enter Try.func65, Try.ntmps65
    go_wp2_with fail
    go_ret
    exact ⟨ret_bool (decide_eq_false HNE.out).symm, q2.out⟩
end Go.Proofs.Ytaghjddndgpljaa

namespace Go.Proofs.Ytaghjddndgpljaa
open Go.RowKit

theorem IsLmZ.goodOk {m p : M} (hp : IsLmZ m p) (hm : m.ok = true) : p.good := (hp.1 hm).1.good (by have := (hp.1 hm).2; omega)
theorem IsSame.end3 {m k p q : M} (hm : m.ok = true) (hk : k.ok = true) (hp : IsLmZ m p) (hq : IsLmZ k q) : IsSame m k (decide (p = q)) :=
  IsSame.of hm hk (hp.1 hm).1 (hq.1 hk).1 ⟨fun e => of_decide_eq_true e, fun e => decide_eq_true e⟩
set_option maxHeartbeats 8000000 in
set_option maxRecDepth 100000 in
theorem specSameOk_any (m k : M) (nv ev mv fv : Value) (w : World) (h1 : IsInts w nv m.next) (h2 : IsBools w ev m.ends) (h3 : IsInts w mv k.next) (h4 : IsBools w fv k.ends) (hs1 : (Lit.int .i64 m.st).wf = true) (hs2 : (Lit.int .i64 k.st).wf = true) :
    Calls Try.prog 18 #[.agg #[.int .i64 m.st, nv, ev], .agg #[.int .i64 k.st, mv, fv]] w fun e w' => (∃ b, IsSame m k b ∧ e = .returned (.bool b)) ∧ Below w.heap.size w w' := by
  obtain ⟨T2, q2⟩ := Two.new 26 h1 h2 h3 h4
  have HT := Lib.hid T2
  have HQ := Lib.hid q2
  have y0 := T2.a.c0
  have y1 := T2.a.c1
  have y2 := T2.a.c2
  clear T2 q2 h1 h2 h3 h4
  go_enter Try.func18, Try.ntmps18
  go_wp2_with fail
  generalize hW2 : (w.alloc (.cells #[.int .i64 m.st, nv, ev] 26)).alloc (.cells #[.int .i64 k.st, mv, fv] 26) = w2 at *
  clear hW2 y0 y1 y2
  refine (specMachineOk_any m nv ev w2 HT.out.a.ints HT.out.a.bools hs1).mono ?_
  rintro e w3 ⟨rfl, hb3⟩
  have T3 := Lib.hid (HT.out.below hb3)
  have Q3 := Lib.hid (HQ.out.trans (hb3.mono HQ.out.size))
  clear hb3
  cases hk1 : m.ok with
  | false =>
    go_wp2_with fail
    go_ret
    exact ⟨⟨false, ⟨fun h => (by rw [hk1] at h; cases h), fun _ => rfl⟩, rfl⟩, Q3.out⟩
  | true =>
    have y0 := T3.out.b.c0
    have y1 := T3.out.b.c1
    have y2 := T3.out.b.c2
    go_wp2_with fail
    clear y0 y1 y2
    refine (specMachineOk_any k mv fv w3 T3.out.b.ints T3.out.b.bools hs2).mono ?_
    rintro e w4 ⟨rfl, hb4⟩
    have T4 := Lib.hid (T3.out.below hb4)
    have Q4 := Lib.hid (Q3.out.trans (hb4.mono Q3.out.size))
    clear hb4
    cases hk2 : k.ok with
    | false =>
      go_wp2_with fail
      go_ret
      exact ⟨⟨false, ⟨fun _ h => (by rw [hk2] at h; cases h), fun _ => rfl⟩, rfl⟩, Q4.out⟩
    | true =>
      have HK1 := Lib.hid hk1
      have HK2 := Lib.hid hk2
      clear hk1 hk2
      go_upto_region 3 with fail
      have X4 : Six w.heap.size (w.heap.size + 1) m.st k.st nv ev mv fv w4 := ⟨T4.out.a.hB, T4.out.b.hB, T4.out.a.c0, T4.out.a.c1, T4.out.a.c2, T4.out.b.c0, T4.out.b.c1, T4.out.b.c2⟩
      have HSX : Hid (∀ W, Below w4.heap.size w4 W → Six w.heap.size (w.heap.size + 1) m.st k.st nv ev mv fv W) := Lib.hid (fun W h => X4.below h)
      have HL1 : Hid (∀ W, Below w4.heap.size w4 W → Calls Try.prog 29 #[.agg #[.int .i64 m.st, nv, ev]] W (LeastNew m W)) := Lib.hid (fun W h => specLeastZ m nv ev W (T4.out.below h).a.ints (T4.out.below h).a.bools hs1)
      have HL2 : Hid (∀ W, Below w4.heap.size w4 W → Calls Try.prog 29 #[.agg #[.int .i64 k.st, mv, fv]] W (LeastNew k W)) := Lib.hid (fun W h => specLeastZ k mv fv W (T4.out.below h).b.ints (T4.out.below h).b.bools hs2)
      have BD := Lib.hid ((Below.refl w4.heap.size w4).drew)
      have y0 := T4.out.a.c0
      have y1 := T4.out.a.c1
      have y2 := T4.out.a.c2
      have y3 := T4.out.b.c0
      have y4 := T4.out.b.c1
      have y5 := T4.out.b.c2
      go_region_held3 (fun w' => w'.cell? ⟨w.heap.size, 0, none⟩ = some (.int .i64 m.st) ∧ w'.cell? ⟨w.heap.size, 1, none⟩ = some nv ∧ w'.cell? ⟨w.heap.size, 2, none⟩ = some ev ∧ w'.cell? ⟨w.heap.size + 1, 0, none⟩ = some (.int .i64 k.st) ∧ w'.cell? ⟨w.heap.size + 1, 1, none⟩ = some mv ∧ w'.cell? ⟨w.heap.size + 1, 2, none⟩ = some fv)
        (first | (refine Six.cells ?_; ((repeat' (first | with_reducible assumption | with_reducible refine Six.alloc ?_ _ | with_reducible refine Six.drew ?_ | with_reducible refine Six.set ?_ ?_ ?_ | omega)); done)))
        (first | (go_at_call 29; with_reducible refine Calls.mono (HL1.out _ ?_) ?_; (· (with_reducible exact BD.out)); rintro e w5 h5; obtain ⟨K1, a5, n5, c5, d5, m5, e5, hK1, rfl, hr5, hb5⟩ := h5.rows; have I5 := Lib.hid hK1; have R5 := Rws.zero hr5; with_reducible have B5 := Lib.hid (Below.then' BD.out hb5); have X5 := HSX.out _ B5.out; clear hK1 hr5 h5 hb5) | (go_at_call 29; with_reducible refine Calls.mono (HL2.out _ ?_) ?_; (· (with_reducible exact B5.out)); rintro e w6 h6; obtain ⟨K2, a6, n6, c6, d6, m6, e6, hK2, rfl, hr6, hb6⟩ := h6.rows; have I6 := Lib.hid hK2; have R56 := R5.below hb6; have B6 := Lib.hid (Below.then' B5.out hb6); clear X5 R5; have X6 := HSX.out _ B6.out; clear hK2 h6 hb6) | (go_at_call 65; refine Calls.mono (specL2Equal_any K1 K2 (.slice a5 n5 c5) (.slice d5 m5 e5) (.slice a6 n6 c6) (.slice d6 m6 e6) w6 R56.ints R56.bools hr6.ints hr6.bools (IsLmZ.goodOk I5.out HK1.out) (IsLmZ.goodOk I6.out HK2.out)) ?_; rintro e w7 ⟨rfl, hb7⟩; have B7 := Lib.hid (Below.then' B6.out hb7); clear X6; have X7 := HSX.out _ B7.out; clear hb7))
      all_goals
        go_wp2_with fail
        go_ret
        exact ⟨⟨_, IsSame.end3 HK1.out HK2.out I5.out I6.out, rfl⟩, Q4.out.trans (B7.out.mono Q4.out.size)⟩
end Go.Proofs.Ytaghjddndgpljaa

namespace Go.Proofs.Ytaghjddndgpljaa
open Go.RowKit

theorem IsLm.mok3 {f : List (Fin 3) → Bool} {k : M} (h : IsLm f k) (h48 : k.st ≤ 48) : k.ok = true := M.good_ok (h.good (by omega)) h48
theorem least_exS {m : M} (hg : m.good) : ∃ K, IsLm (m.lang 0) K ∧ K.st ≤ m.st := by
  have hT := tm_good hg
  have h0 : 0 < (tm m).ends.length := by have := M.good_shape hT; omega
  obtain ⟨K, k1, k2, k3⟩ := lm_spec hT (tm_trim hg) (still_end (good_closed hT) h0) (repL_part (tm m) _ _)
  rw [tm_lang hg] at k3
  refine ⟨_, k3, ?_⟩
  show (K : Int) ≤ m.st
  have h1 : (tm m).st ≤ m.st := by
    have h5 := tm_len hg
    have h6 := trimN_le hg (lrounds m m.ends.length)
    have h7 := (M.good_shape hg).2.2.2
    have h8 := (M.good_shape hT).2.2.2
    omega
  have h2 := (M.good_shape hT).2.2.2
  omega
/-- a language that a small machine takes has its least machine -/
theorem IsJoin.smallS {ok r : Bool} {f : List (Fin 3) → Bool} {k X : M} (h : IsJoin ok f k r) (hok : ok = true) (hX : X.good) (h48 : X.st ≤ 48) (hl : X.lang 0 = f) : r = true ∧ IsLm f k ∧ k.st ≤ 48 := by
  obtain ⟨K, g1, g2⟩ := least_exS hX
  rw [hl] at g1
  rcases h with ⟨rfl, -, h1, h2⟩ | ⟨rfl, rfl, h1⟩
  · exact ⟨rfl, h1, h2⟩
  · have := h1 hok K g1; omega
theorem not_smallS {m : M} (hm : m.good) (h5 : m.st ≤ 5) : ∃ X : M, X.good ∧ X.st ≤ 48 ∧ X.lang 0 = fun u => !m.lang 0 u := by
  obtain ⟨N, hN6, hN⟩ : ∃ N, N ≤ 6 ∧ (bfsTo (nOn m) 0 N).1.length = N := by
    refine bfsTo_end (C := 6) (fun n => ?_)
    have h1 : ((bfsTo (nOn m) 0 n).1.map (fun x => x + 1)).Nodup := List.pairwise_map.2 ((bfsTo_nodup (nOn m) 0 n).imp (fun h => by omega))
    have := nodup_bound 6 _ h1 (fun x hx => by
      obtain ⟨y, hy, rfl⟩ := List.mem_map.1 hx
      have := bfsTo_all (inN_zero hm) (fun x hx l b hl h => nOn_in hm x hx l b hl h) n y hy
      unfold inN at this
      omega)
    rwa [List.length_map] at this
  exact ⟨_, bM_good hN (by omega), by show (N : Int) ≤ 48; omega, not_lang hm hN⟩
theorem pair_smallS {A B : M} (hA : A.good) (hB : B.good) (h5 : A.st ≤ 5) (h6 : B.st ≤ 5) (g : Bool → Bool → Bool) : ∃ X : M, X.good ∧ X.st ≤ 48 ∧ X.lang 0 = fun u => g (A.lang 0 u) (B.lang 0 u) := by
  obtain ⟨N, hN6, hN⟩ : ∃ N, N ≤ 36 ∧ (bfsTo (pOn A B) (pc 0 0) N).1.length = N := by
    refine bfsTo_end (C := 36) (fun n => ?_)
    have hin := bfsTo_all (inP_zero hA.st0 (show B.st ≤ 48 by omega) hB.st0) (fun x hx l b hl h => pOn_in hA hB (by omega) x hx l b hl h) n
    have h1 : ((bfsTo (pOn A B) (pc 0 0) n).1.map (fun x => (p1 x + 1) * 6 + (p2 x + 1))).Nodup := List.pairwise_map.2 (List.Pairwise.imp_of_mem (fun {x y} hx hy hne e => by
      have i1 := hin x hx
      have i2 := hin y hy
      unfold inP at i1 i2
      have e1 : p1 x = p1 y := by omega
      have e2 : p2 x = p2 y := by omega
      exact hne (by rw [← pc_p x, ← pc_p y, e1, e2])) (bfsTo_nodup (pOn A B) (pc 0 0) n))
    have := nodup_bound 36 _ h1 (fun x hx => by
      obtain ⟨y, hy, rfl⟩ := List.mem_map.1 hx
      have := hin y hy
      unfold inP at this
      omega)
    rwa [List.length_map] at this
  exact ⟨_, bM_good hN (by omega), by show (N : Int) ≤ 48; omega, pOn_lang hA hB (by omega) g hN⟩

theorem short_no14 {m : M} (h : IsShort m none) (u : List (Fin 3)) (hu : u.length ≤ 14) : m.lang 0 u = false := by
  obtain ⟨n, hH, ⟨v, h2, e⟩ | ⟨hend, -⟩⟩ := h
  · cases e
  · cases hl : m.lang 0 u with
    | false => rfl
    | true =>
      exfalso
      have he : m.endAt (m.walk 0 (u.map fun l => l.val)) = true := hl
      have h0 : 0 ≤ m.walk 0 (u.map fun l => l.val) := by
        rcases Int.lt_or_le (m.walk 0 (u.map fun l => l.val)) 0 with h2 | h2
        · rw [M.endAt, if_pos h2] at he; cases he
        · exact h2
      obtain ⟨i, x, hi, hx, e1, -⟩ := sh_reach (fun j hj => (hH j hj).1) (fun k => k ≤ 14) (fun k hk => by omega)
        (fun i x k hx hk hle => by omega)
        (fun i x k hx _ _ => by have h4 := (List.getElem?_eq_some_iff.1 hx).1; omega) (u.map fun l => l.val) (fun l hl => by obtain ⟨y, -, rfl⟩ := List.mem_map.1 hl; exact y.isLt) (by rw [List.length_map]; exact hu) h0
      have := hit_of_end hH hi hx
      rw [e1, he] at this; cases this
/-- a machine that takes nothing has no shortest word -/
theorem short_empty {m : M} (hm : m.ok = true) (hf : ∀ u, m.lang 0 u = false) {r : Option ByteArray} (h : IsShort m r) : r = none := by
  cases r with
  | none => rfl
  | some s =>
    have h1 := short_takes hm h
    cases hs : wordOk s with
    | false => rw [M.takes_not (.inr hs)] at h1; cases h1
    | true => rw [M.takes_lang hm hs, hf] at h1; cases h1

theorem same_sides {m k a b c d : M} {r r1 r2 r3 r4 : Bool} (hm : m.ok = true) (hk : k.ok = true) (hm5 : m.st ≤ 5) (hk5 : k.st ≤ 5) (hr : IsSame m k r)
    (ha : IsJoin k.ok (fun u => !k.lang 0 u) a r1) (hb : IsJoin (m.ok && a.ok) (fun u => m.lang 0 u && a.lang 0 u) b r2) (hc : IsJoin m.ok (fun u => !m.lang 0 u) c r3) (hd : IsJoin (k.ok && c.ok) (fun u => k.lang 0 u && c.lang 0 u) d r4) :
    r1 = true ∧ r2 = true ∧ r3 = true ∧ r4 = true ∧ b.ok = true ∧ d.ok = true ∧ ∀ s t, IsShort b s → IsShort d t → r = (!s.isSome && !t.isSome) := by
  have gm := M.ok_good hm
  have gk := M.ok_good hk
  obtain ⟨X1, g1, g2, g3⟩ := not_smallS gk hk5
  obtain ⟨X2, g4, g5, g6⟩ := not_smallS gm hm5
  obtain ⟨X3, g7, g8, g9⟩ := pair_smallS gm gk hm5 hk5 (fun a b => a && !b)
  obtain ⟨X4, g10, g11, g12⟩ := pair_smallS gk gm hk5 hm5 (fun a b => a && !b)
  obtain ⟨e1, a1, a2⟩ := ha.smallS hk g1 g2 g3
  obtain ⟨e3, c1, c2⟩ := hc.smallS hm g4 g5 g6
  have hf : (fun u => m.lang 0 u && a.lang 0 u) = fun u => m.lang 0 u && !k.lang 0 u := funext fun u => by rw [a1.lang]
  have hf2 : (fun u => k.lang 0 u && c.lang 0 u) = fun u => k.lang 0 u && !m.lang 0 u := funext fun u => by rw [c1.lang]
  rw [hf] at hb
  rw [hf2] at hd
  obtain ⟨e2, b1, b2⟩ := hb.smallS (by rw [hm, a1.mok3 a2]; rfl) g7 g8 g9
  obtain ⟨e4, d1, d2⟩ := hd.smallS (by rw [hk, c1.mok3 c2]; rfl) g10 g11 g12
  have bo := b1.mok3 b2
  have do_ := d1.mok3 d2
  refine ⟨e1, e2, e3, e4, bo, do_, fun s t hs ht => ?_⟩
  by_cases he : m.lang 0 = k.lang 0
  · have hrt : r = true := (hr.1 hm hk).2 he
    have h1 := short_empty bo (fun u => by rw [b1.lang, he]; simp) hs
    have h2 := short_empty do_ (fun u => by rw [d1.lang, he]; simp) ht
    rw [hrt, h1, h2]; rfl
  · have hrf : r = false := by
      cases r with
      | false => rfl
      | true => exact absurd ((hr.1 hm hk).1 rfl) he
    obtain ⟨u, hu, hne⟩ := differ_short gm gk he
    have sm := M.good_shape gm
    have sk := M.good_shape gk
    have hu14 : u.length ≤ 14 := by omega
    rw [hrf]
    cases hl : m.lang 0 u with
    | true =>
      have hk0 : k.lang 0 u = false := by
        cases h : k.lang 0 u with
        | false => rfl
        | true => rw [hl, h] at hne; exact absurd rfl hne
      cases s with
      | some v => rfl
      | none =>
        have := short_no14 hs u hu14
        rw [b1.lang] at this
        simp only [hl, hk0] at this
        cases this
    | false =>
      have hk1 : k.lang 0 u = true := by
        cases h : k.lang 0 u with
        | true => rfl
        | false => rw [hl, h] at hne; exact absurd rfl hne
      cases t with
      | some v => simp
      | none =>
        have := short_no14 ht u hu14
        rw [d1.lang] at this
        simp only [hl, hk1] at this
        cases this
end Go.Proofs.Ytaghjddndgpljaa
