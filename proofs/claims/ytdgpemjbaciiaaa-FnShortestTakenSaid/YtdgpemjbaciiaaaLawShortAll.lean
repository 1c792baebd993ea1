/- Plain mathematics of words: back, rolled, counted, differing. No program, no condition. Plain mathematics of runs. No program, no condition. Rules as plain data: which are rules, what they ask of a word, how their machines go on. No program is named here. No condition. The search for the shortest word that a machine takes, as plain data. No program is named here. No condition. Words as rows of letters: what a machine takes is its language; of the trimmed and of the least machine the same. No condition. The walk of FnTakesOk: true at every code. No condition. The shortest word: it is taken, no shorter one is, and there is none exactly if nothing is taken. No condition. The program's ShortestTaken: the search for the shortest word. No condition. The model's ShortestTaken: the search for the shortest word. No condition. The walk of FnExactShortestTaken: true at every machine. No condition. The walk of FnShortestTaken: true at every two codes. No condition. -/
import Derived.Test.YtdgpemjbaciiaaaMath
import Derived.Test.YtdgpemjbaciiaaaBfs
import Derived.Test.YtdgpemjbaciiaaaStep
import Derived.Test.YtdgpemjbaciiaaaLeastAll
import Derived.Test.YtdgpemjbaciiaaaTakes
import Derived.Test.YtdgpemjbaciiaaaDrawn3
import Derived.Test.YtdgpemjbaciiaaaLawWordOk
import Derived.Test.YtdgpemjbaciiaaaLawMachOk
import Derived.Deep.RegionHeld3
import Derived.Test.YtdgpemjbaciiaaaApart
import Derived.Test.YtdgpemjbaciiaaaQueue
import Derived.Deep.AppendLies
import Derived.Deep.RegionLaw
import Derived.Test.YtdgpemjbaciiaaaMachLaw
import Derived.Deep.RegionWith

namespace Go.Proofs.Ytdgpemjbaciiaaa

theorem backStr_yes {s : ByteArray} (h : wordOk s = true) : backStr s = backFrom s 0 := by simp [backStr, h]
theorem backStr_no {s : ByteArray} (h : wordOk s = false) : backStr s = ⟨#[]⟩ := by simp [backStr, h]
theorem back0_list (s : ByteArray) : (backFrom s 0).data.toList = s.data.toList.reverse := by simp [backFrom]
theorem wordOk_list {s : ByteArray} : wordOk s = true ↔ (∀ x ∈ s.data.toList, isL x = true) ∧ s.data.toList.length ≤ 14 := by
  simp only [wordOk, Bool.and_eq_true, decide_eq_true_eq, allL, List.all_eq_true, len_data]
theorem wordOk_back {s : ByteArray} (h : wordOk s = true) : wordOk (backStr s) = true := by
  rw [backStr_yes h, wordOk_list, back0_list]
  have := wordOk_list.1 h
  exact ⟨fun x hx => this.1 x (List.mem_reverse.1 hx), by rw [List.length_reverse]; exact this.2⟩
theorem back_back {s : ByteArray} (h : wordOk s = true) : backStr (backStr s) = s := by
  rw [backStr_yes (wordOk_back h), backStr_yes h]
  apply bytes_ext
  rw [back0_list, back0_list, List.reverse_reverse]
theorem back_size {s : ByteArray} (h : wordOk s = true) : (backStr s).size = s.size := by
  rw [← len_data, ← len_data, backStr_yes h, back0_list, List.length_reverse]
theorem back_no_size {s : ByteArray} (h : wordOk s = false) : (backStr s).size = 0 := by rw [backStr_no h]; rfl

/-- a rolled list -/
theorem rolled_list (s : ByteArray) (k : Nat) (h : rolledOk s k = true) : (rolledStr s k).data.toList = s.data.toList.drop k ++ s.data.toList.take k := by
  rw [rolledStr_yes s k h, ByteArray.data_append, Array.toList_append, ByteArray.data_extract, ByteArray.data_extract, Array.toList_extract, Array.toList_extract, List.extract_eq_take_drop, List.extract_eq_take_drop]
  rw [List.drop_zero, Nat.sub_zero]
  congr 1
  rw [List.take_of_length_le]
  rw [List.length_drop, len_data]; exact Nat.le_refl _
theorem rolledOk_nat {s : ByteArray} {k : Nat} : rolledOk s k = true ↔ wordOk s = true ∧ k ≤ s.size := by
  simp only [rolledOk, Bool.and_eq_true, decide_eq_true_eq]
  exact ⟨fun h => ⟨h.1, by omega⟩, fun h => ⟨h.1, by omega, by omega⟩⟩
theorem rolledOk_int {s : ByteArray} {k : Int} (h : rolledOk s k = true) : ∃ n : Nat, k = n ∧ n ≤ s.size ∧ wordOk s = true := by
  simp only [rolledOk, Bool.and_eq_true, decide_eq_true_eq] at h
  exact ⟨k.toNat, by omega, by omega, h.1⟩
theorem rolled_word {s : ByteArray} {k : Nat} (h : rolledOk s k = true) : wordOk (rolledStr s k) = true := by
  have hw := wordOk_list.1 (rolledOk_nat.1 h).1
  rw [wordOk_list, rolled_list s k h]
  refine ⟨fun x hx => ?_, ?_⟩
  · rcases List.mem_append.1 hx with h1 | h1
    · exact hw.1 x (List.mem_of_mem_drop h1)
    · exact hw.1 x (List.mem_of_mem_take h1)
  · rw [List.length_append, List.length_drop, List.length_take]; omega
theorem rolled_size {s : ByteArray} {k : Nat} (h : rolledOk s k = true) : (rolledStr s k).size = s.size := by
  have hk := (rolledOk_nat.1 h).2
  rw [← len_data, rolled_list s k h, List.length_append, List.length_drop, List.length_take, len_data]; omega
theorem rolled_rest {s : ByteArray} {k : Nat} (h : rolledOk s k = true) : rolledOk (rolledStr s k) ((s.size : Int) - k) = true := by
  have hk := (rolledOk_nat.1 h).2
  rw [show ((s.size : Int) - k) = ((s.size - k : Nat) : Int) from by omega, rolledOk_nat, rolled_size h]
  exact ⟨rolled_word h, by omega⟩
theorem rolled_back {s : ByteArray} {k : Nat} (h : rolledOk s k = true) : rolledStr (rolledStr s k) ((s.size : Int) - k) = s := by
  have hk := (rolledOk_nat.1 h).2
  have hr := rolled_rest h
  rw [show ((s.size : Int) - k) = ((s.size - k : Nat) : Int) from by omega] at hr ⊢
  apply bytes_ext
  rw [rolled_list _ _ hr, rolled_list s k h]
  have hl : (s.data.toList.drop k).length = s.size - k := by rw [List.length_drop, len_data]
  rw [← hl, List.drop_left, List.take_left, List.take_append_drop]

theorem rolled_last {s : ByteArray} (h : rolledOk s 1 = true) (h0 : 0 < s.size) (h1 : s.size - 1 < (rolledStr s 1).size) : (rolledStr s 1)[s.size - 1] = s[0] := by
  have hl : (rolledStr s 1).data.toList = s.data.toList.drop 1 ++ s.data.toList.take 1 := rolled_list s 1 h
  have hd : (s.data.toList.drop 1).length = s.size - 1 := by rw [List.length_drop, len_data]
  have h2 : s.size - 1 < (rolledStr s 1).data.toList.length := by rw [len_data]; exact h1
  show (rolledStr s 1).data.toList[s.size - 1]'h2 = s.data.toList[0]'(by rw [len_data]; exact h0)
  simp only [hl]
  rw [List.getElem_append_right (by rw [hd]; exact Nat.le_refl _)]
  simp only [hd, Nat.sub_self, List.getElem_take]

/-- how often a byte is in a list -/
theorem cntTo_shift (p : Nat → Bool) (k : Nat) : cntTo p (k + 1) = (if p 0 = true then 1 else 0) + cntTo (fun i => p (i + 1)) k := by
  induction k with
  | zero => simp [cntTo]
  | succ k ih => rw [cntTo, ih, cntTo]; omega
theorem cntEq_count (l : List UInt8) (c : UInt8) : cntEq l c l.length = (l.countP (· == c) : Int) := by
  induction l with
  | nil => rfl
  | cons a l ih =>
    simp only [cntEq, List.length_cons] at ih ⊢
    rw [cntTo_shift]
    have e : (fun i => (a :: l).getD (i + 1) 0 == c) = fun i => l.getD i 0 == c := by funext i; simp [List.getD]
    rw [e, ih, List.countP_cons]
    simp only [List.getD_cons_zero]
    split <;> omega
theorem countOf_list {s t : ByteArray} (h : wordOk s = true) (g : letterOk t = true) : countOf s t = (s.data.toList.countP (· == byteAt t 0) : Int) := by
  have e : countOf s t = cntEq s.data.toList (byteAt t 0) s.size := by simp [countOf, h, g]
  rw [e, ← len_data, cntEq_count]
theorem countOf_back {s t : ByteArray} (h : wordOk s = true) (g : letterOk t = true) : countOf (backStr s) t = countOf s t := by
  rw [countOf_list h g, countOf_list (wordOk_back h) g, backStr_yes h, back0_list, List.countP_reverse]
theorem countOf_rolled {s t : ByteArray} {k : Nat} (h : rolledOk s k = true) (g : letterOk t = true) : countOf (rolledStr s k) t = countOf s t := by
  rw [countOf_list (rolledOk_nat.1 h).1 g, countOf_list (rolled_word h) g, rolled_list s k h, List.countP_append, Int.natCast_add, Int.add_comm, ← Int.natCast_add, ← List.countP_append, List.take_append_drop]
theorem three_counts (l : List UInt8) (h : ∀ x ∈ l, isL x = true) : l.countP (· == 114) + l.countP (· == 100) + l.countP (· == 110) = l.length := by
  induction l with
  | nil => rfl
  | cons a l ih =>
    have h1 := ih (fun x hx => h x (List.mem_cons_of_mem _ hx))
    have h2 := h a (List.mem_cons_self ..)
    simp only [isL, Bool.or_eq_true, beq_iff_eq] at h2
    simp only [List.countP_cons, List.length_cons]
    rcases h2 with (rfl | rfl) | rfl <;> simp <;> omega
theorem countOf_three {s : ByteArray} (h : wordOk s = true) : countOf s ⟨#[114]⟩ + countOf s ⟨#[100]⟩ + countOf s ⟨#[110]⟩ = s.size := by
  rw [countOf_list h (by decide +kernel), countOf_list h (by decide +kernel), countOf_list h (by decide +kernel)]
  have e1 : byteAt ⟨#[114]⟩ 0 = 114 := rfl
  have e2 : byteAt ⟨#[100]⟩ 0 = 100 := rfl
  have e3 : byteAt ⟨#[110]⟩ 0 = 110 := rfl
  rw [e1, e2, e3]
  have := three_counts s.data.toList (wordOk_list.1 h).1
  rw [len_data] at this
  omega
theorem countOf_bd {s t : ByteArray} (h : wordOk s = true) (g : letterOk t = true) : 0 ≤ countOf s t ∧ countOf s t ≤ s.size := by
  rw [countOf_list h g]
  have := List.countP_le_length (l := s.data.toList) (p := (· == byteAt t 0))
  rw [len_data] at this
  omega

/-- differences -/
theorem cntTo_congr {p q : Nat → Bool} (k : Nat) (h : ∀ i, i < k → p i = q i) : cntTo p k = cntTo q k := by
  induction k with
  | zero => rfl
  | succ k ih => rw [cntTo, cntTo, ih (fun i hi => h i (by omega)), h k (by omega)]
theorem cntNe_comm (l m : List UInt8) (k : Nat) : cntNe l m k = cntNe m l k := by
  apply cntTo_congr
  intro i _
  rw [Bool.eq_iff_iff, bne_iff_ne, bne_iff_ne]; exact ⟨Ne.symm, Ne.symm⟩
theorem cntTo_zero {p : Nat → Bool} {k : Nat} : cntTo p k = 0 ↔ ∀ i, i < k → p i = false := by
  induction k with
  | zero => simp [cntTo]
  | succ k ih =>
    have hb := cntTo_bd p k
    rw [cntTo]
    cases h : p k with
    | true =>
      simp
      refine ⟨fun e => by omega, fun e => ?_⟩
      have := e k (by omega)
      rw [h] at this; cases this
    | false =>
      simp
      rw [ih]
      refine ⟨fun e i hi => ?_, fun e i hi => e i (by omega)⟩
      by_cases hk : i = k
      · rw [hk, h]
      · exact e i (by omega)
theorem cntTo_tri {p q r : Nat → Bool} (k : Nat) (h : ∀ i, i < k → p i = true → q i = true ∨ r i = true) : cntTo p k ≤ cntTo q k + cntTo r k := by
  induction k with
  | zero => simp [cntTo]
  | succ k ih =>
    have i1 := ih (fun i hi => h i (by omega))
    have i2 := h k (by omega)
    rw [cntTo, cntTo, cntTo]
    cases hp : p k <;> cases hq : q k <;> cases hr : r k <;> simp_all <;> omega
theorem differOf_comm (s t : ByteArray) : differOf s t = differOf t s := by
  unfold differOf
  by_cases e : s.size = t.size
  · rw [cntNe_comm, ← e]
    cases wordOk s <;> cases wordOk t <;> simp
  · have e' : ¬ t.size = s.size := fun h => e h.symm
    simp [e, e']
theorem differOf_bd (s t : ByteArray) : -1 ≤ differOf s t ∧ differOf s t ≤ s.size := by
  unfold differOf
  have := cntNe_bd s.data.toList t.data.toList s.size
  split <;> omega
theorem differOf_ok {s t : ByteArray} (h : 0 ≤ differOf s t) : wordOk s = true ∧ wordOk t = true ∧ s.size = t.size := by
  unfold differOf at h
  split at h
  · rename_i hc; simp only [Bool.and_eq_true, decide_eq_true_eq] at hc; exact ⟨hc.1.1, hc.1.2, hc.2⟩
  · omega
theorem differOf_val {s t : ByteArray} (h : wordOk s = true ∧ wordOk t = true ∧ s.size = t.size) : differOf s t = cntNe s.data.toList t.data.toList s.size := by
  unfold differOf; rw [if_pos]; simp only [Bool.and_eq_true, decide_eq_true_eq]; exact ⟨⟨h.1, h.2.1⟩, h.2.2⟩
theorem differOf_zero {s t : ByteArray} (h : 0 ≤ differOf s t) : differOf s t = 0 ↔ s = t := by
  have ho := differOf_ok h
  rw [differOf_val ho, cntNe, cntTo_zero]
  refine ⟨fun e => bytes_ext (List.ext_getElem (by rw [len_data, len_data]; exact ho.2.2) fun i h1 h2 => ?_), fun e i _ => by rw [e]; simp⟩
  have := e i (by rw [← len_data]; exact h1)
  have e1 : s.data.toList.getD i 0 = s.data.toList[i] := by rw [List.getD, List.getElem?_eq_getElem h1]; rfl
  have e2 : t.data.toList.getD i 0 = t.data.toList[i] := by rw [List.getD, List.getElem?_eq_getElem h2]; rfl
  simp only [bne_eq_false_iff_eq] at this
  rw [e1, e2] at this
  exact this
theorem differOf_tri (a b c : ByteArray) (h : 0 ≤ differOf a b) (h1 : 0 ≤ differOf a c) (h2 : 0 ≤ differOf c b) : differOf a b ≤ differOf a c + differOf c b := by
  have o0 := differOf_ok h
  have o1 := differOf_ok h1
  have o2 := differOf_ok h2
  rw [differOf_val o0, differOf_val o1, differOf_val o2, ← o1.2.2]
  apply cntTo_tri
  intro i _ hp
  rw [bne_iff_ne] at hp
  rw [bne_iff_ne, bne_iff_ne]
  by_cases e : a.data.toList.getD i 0 = c.data.toList.getD i 0
  · exact .inr (fun e2 => hp (e.trans e2))
  · exact .inl e
end Go.Proofs.Ytdgpemjbaciiaaa

namespace Go.Proofs.Ytdgpemjbaciiaaa

theorem snoc_cases {α : Type} (l : List α) : l = [] ∨ ∃ ys p, l = ys ++ [p] := by
  match h : l.reverse with
  | [] => exact .inl (List.reverse_eq_nil_iff.1 h)
  | p :: r => exact .inr ⟨r.reverse, p, by rw [← List.reverse_reverse l, h, List.reverse_cons]⟩
theorem snoc_indR {α : Type} {P : List α → Prop} (h0 : P []) (h1 : ∀ l c, P l → P (l ++ [c])) (l : List α) : P l := by
  have : ∀ l : List α, P l.reverse := by
    intro l
    induction l with
    | nil => exact h0
    | cons c l ih => rw [List.reverse_cons]; exact h1 _ _ ih
  rw [← List.reverse_reverse l]; exact this _

/-- a letter put behind a row of runs -/
def snocRun (xs : List (UInt8 × Nat)) (c : UInt8) : List (UInt8 × Nat) :=
  match xs.getLast? with
  | some (d, n) => if d = c then xs.dropLast ++ [(d, n + 1)] else xs ++ [(c, 1)]
  | none => [(c, 1)]
/-- the runs of a list, from the first on -/
def runsL (l : List UInt8) : List (UInt8 × Nat) := l.foldl snocRun []
theorem runsL_nil : runsL [] = [] := rfl
theorem runsL_snoc (l : List UInt8) (c : UInt8) : runsL (l ++ [c]) = snocRun (runsL l) c := by
  simp [runsL, List.foldl_append]
theorem snocRun_new (xs : List (UInt8 × Nat)) (c : UInt8) (h : ∀ d n, xs.getLast? = some (d, n) → d ≠ c) : snocRun xs c = xs ++ [(c, 1)] := by
  unfold snocRun
  cases e : xs.getLast? with
  | none => rw [List.getLast?_eq_none_iff] at e; rw [e]; rfl
  | some p =>
    obtain ⟨d, n⟩ := p
    simp only
    rw [if_neg (h d n e)]
theorem snocRun_same (xs : List (UInt8 × Nat)) (c : UInt8) (n : Nat) : snocRun (xs ++ [(c, n)]) c = xs ++ [(c, n + 1)] := by
  simp [snocRun]
theorem snocRun_ne (xs : List (UInt8 × Nat)) (c : UInt8) : snocRun xs c ≠ [] := by
  unfold snocRun
  split
  · split <;> simp
  · simp
theorem snocRun_cases (xs : List (UInt8 × Nat)) (c : UInt8) : (∃ ys n, xs = ys ++ [(c, n)] ∧ snocRun xs c = ys ++ [(c, n + 1)]) ∨ (snocRun xs c = xs ++ [(c, 1)] ∧ ∀ d n, xs.getLast? = some (d, n) → d ≠ c) := by
  rcases snoc_cases xs with rfl | ⟨ys, ⟨d, n⟩, rfl⟩
  · exact .inr ⟨rfl, fun d n h => by cases h⟩
  · by_cases hd : d = c
    · subst hd
      exact .inl ⟨ys, n, rfl, snocRun_same _ _ _⟩
    · have hh : ∀ d' n', (ys ++ [(d, n)]).getLast? = some (d', n') → d' ≠ c := fun d' n' h => by
        simp at h
        rw [← h.1]; exact hd
      exact .inr ⟨snocRun_new _ c hh, hh⟩

/-- what holds of all runs -/
theorem runsL_pos (l : List UInt8) : ∀ p ∈ runsL l, 1 ≤ p.2 := by
  refine snoc_indR (P := fun l => ∀ p ∈ runsL l, 1 ≤ p.2) ?_ ?_ l
  · intro p h; cases h
  · intro l c ih
    rw [runsL_snoc]
    rcases snocRun_cases (runsL l) c with ⟨ys, n, h1, h2⟩ | ⟨h2, _⟩
    · rw [h2]
      rw [h1] at ih
      intro p hp
      rcases List.mem_append.1 hp with h | h
      · exact ih p (List.mem_append.2 (.inl h))
      · simp at h; subst h; simp
    · rw [h2]
      intro p hp
      rcases List.mem_append.1 hp with h | h
      · exact ih p h
      · simp at h; subst h; simp
theorem runsL_sum (l : List UInt8) : ((runsL l).map (·.2)).sum = l.length := by
  refine snoc_indR (P := fun l => ((runsL l).map (·.2)).sum = l.length) ?_ ?_ l
  · rfl
  · intro l c ih
    rw [runsL_snoc]
    rcases snocRun_cases (runsL l) c with ⟨ys, n, h1, h2⟩ | ⟨h2, _⟩
    · rw [h1] at ih
      rw [h2]; simp at ih ⊢; omega
    · rw [h2]; simp at ih ⊢; omega
theorem runsL_length (l : List UInt8) : (runsL l).length ≤ l.length := by
  have h1 := runsL_sum l
  have h2 := runsL_pos l
  rw [← h1]
  generalize runsL l = xs at h2
  induction xs with
  | nil => simp
  | cons a xs ih =>
    have := h2 a (List.mem_cons_self ..)
    have := ih (fun p hp => h2 p (List.mem_cons_of_mem _ hp))
    simp; omega

/-- a letter put before a row of runs -/
def consRun (c : UInt8) (xs : List (UInt8 × Nat)) : List (UInt8 × Nat) := (snocRun xs.reverse c).reverse
theorem consRun_eq (c f : UInt8) (m : Nat) (zs : List (UInt8 × Nat)) : consRun c ((f, m) :: zs) = (if f = c then (f, m + 1) :: zs else (c, 1) :: (f, m) :: zs) := by
  unfold consRun snocRun
  simp
  split <;> simp
theorem snocRun_eq (d e : UInt8) (n : Nat) (zs : List (UInt8 × Nat)) : snocRun (zs ++ [(e, n)]) d = (if e = d then zs ++ [(e, n + 1)] else zs ++ [(e, n), (d, 1)]) := by
  unfold snocRun
  simp
theorem consRun_snoc (c d : UInt8) (xs : List (UInt8 × Nat)) : consRun c (snocRun xs d) = snocRun (consRun c xs) d := by
  match xs with
  | [] =>
    by_cases h : c = d
    · subst h; simp [consRun, snocRun]
    · have h' : ¬ d = c := fun e => h e.symm
      simp [consRun, snocRun, h, h']
  | (f, m) :: r =>
    rcases snoc_cases r with rfl | ⟨ys, ⟨e, n⟩, rfl⟩
    · by_cases h1 : f = d <;> by_cases h2 : f = c
      · subst h1; subst h2; simp [consRun, snocRun]
      · subst h1; simp [consRun, snocRun, h2]
      · subst h2; simp [consRun, snocRun, h1]
      · simp [consRun, snocRun, h1, h2]
    · have a1 : (f, m) :: (ys ++ [(e, n)]) = ((f, m) :: ys) ++ [(e, n)] := rfl
      have a2 : ∀ k, (f, k) :: (ys ++ [(e, n)]) = ((f, k) :: ys) ++ [(e, n)] := fun _ => rfl
      have a3 : (c, 1) :: (f, m) :: (ys ++ [(e, n)]) = ((c, 1) :: (f, m) :: ys) ++ [(e, n)] := rfl
      rw [a1, snocRun_eq, ← a1, consRun_eq]
      by_cases h1 : e = d
      · rw [if_pos h1, List.cons_append, consRun_eq]
        by_cases h2 : f = c
        · rw [if_pos h2, if_pos h2, a2, snocRun_eq, if_pos h1]; rfl
        · rw [if_neg h2, if_neg h2, a3, snocRun_eq, if_pos h1]; rfl
      · rw [if_neg h1, List.cons_append, consRun_eq]
        by_cases h2 : f = c
        · rw [if_pos h2, if_pos h2, a2, snocRun_eq, if_neg h1]; rfl
        · rw [if_neg h2, if_neg h2, a3, snocRun_eq, if_neg h1]; rfl
theorem runsL_cons (c : UInt8) (l : List UInt8) : runsL (c :: l) = consRun c (runsL l) := by
  refine snoc_indR (P := fun l => runsL (c :: l) = consRun c (runsL l)) ?_ ?_ l
  · rfl
  · intro l d ih
    rw [← List.cons_append, runsL_snoc, ih, runsL_snoc, consRun_snoc]
theorem runsL_reverse (l : List UInt8) : runsL l.reverse = (runsL l).reverse := by
  induction l with
  | nil => rfl
  | cons c l ih => rw [List.reverse_cons, runsL_snoc, ih, runsL_cons, consRun, List.reverse_reverse]

/-- the longest run of a letter -/
def longestIn (xs : List (UInt8 × Nat)) (c : UInt8) : Nat := xs.foldl (fun m p => if p.1 = c then max m p.2 else m) 0
theorem longestIn_snoc (xs : List (UInt8 × Nat)) (p : UInt8 × Nat) (c : UInt8) : longestIn (xs ++ [p]) c = if p.1 = c then max (longestIn xs c) p.2 else longestIn xs c := by
  simp [longestIn, List.foldl_append]
/-- how long the run at the end is, if it is of the letter -/
def nowIn (xs : List (UInt8 × Nat)) (c : UInt8) : Nat :=
  match xs.getLast? with
  | some (d, n) => if d = c then n else 0
  | none => 0
theorem now_le (xs : List (UInt8 × Nat)) (c : UInt8) : nowIn xs c ≤ longestIn xs c := by
  rcases snoc_cases xs with rfl | ⟨ys, ⟨d, n⟩, rfl⟩
  · simp [nowIn]
  · rw [longestIn_snoc]
    simp only [nowIn, List.getLast?_append, List.getLast?_singleton]
    simp
    split <;> omega
theorem snoc_hit (xs : List (UInt8 × Nat)) (c : UInt8) : nowIn (snocRun xs c) c = nowIn xs c + 1 ∧ longestIn (snocRun xs c) c = max (longestIn xs c) (nowIn xs c + 1) := by
  rcases snocRun_cases xs c with ⟨ys, n, h1, h2⟩ | ⟨h2, h3⟩
  · rw [h2, h1, longestIn_snoc, longestIn_snoc]
    simp [nowIn]
  · have h0 : nowIn xs c = 0 := by
      unfold nowIn
      split
      · rename_i d n e; rw [if_neg (h3 d n e)]
      · rfl
    rw [h2, longestIn_snoc, h0]
    simp [nowIn]
theorem snoc_miss (xs : List (UInt8 × Nat)) (c d : UInt8) (h : d ≠ c) : nowIn (snocRun xs d) c = 0 ∧ longestIn (snocRun xs d) c = longestIn xs c := by
  rcases snocRun_cases xs d with ⟨ys, n, h1, h2⟩ | ⟨h2, h3⟩
  · rw [h2, h1, longestIn_snoc, longestIn_snoc]
    simp [nowIn, h]
  · rw [h2, longestIn_snoc]
    simp [nowIn, h]
theorem longestIn_le (xs : List (UInt8 × Nat)) (c : UInt8) : longestIn xs c ≤ (xs.map (·.2)).sum := by
  refine snoc_indR (P := fun xs => longestIn xs c ≤ (xs.map (·.2)).sum) ?_ ?_ xs
  · simp [longestIn]
  · intro xs p ih
    rw [longestIn_snoc]; simp; split <;> omega
/-- LongestOf's number -/
def longestOf (s t : ByteArray) : Int := if (wordOk s && letterOk t) = true then (longestIn (runsL s.data.toList) (byteAt t 0) : Int) else -1
/-- RunsOf's numbers -/
def runsOf (s : ByteArray) : List Int := if wordOk s = true then (runsL s.data.toList).map (fun p => (p.2 : Int)) else []
end Go.Proofs.Ytdgpemjbaciiaaa

namespace Go.Proofs.Ytdgpemjbaciiaaa

structure Ru where
  kind : Int
  letter : ByteArray
  thn : ByteArray
  many : Int
def inB (lo hi n : Int) : Bool := decide (lo ≤ n) && decide (n ≤ hi)
def noThen (t : ByteArray) : Bool := decide (t = ⟨#[]⟩)
/-- RuleOk -/
def Ru.ok (r : Ru) : Bool := letterOk r.letter && (
  if r.kind = 0 then noThen r.thn && inB 0 4 r.many else
  if r.kind = 1 then noThen r.thn && inB 2 4 r.many else
  if r.kind = 2 then letterOk r.thn && decide (r.many = 0) else
  if r.kind = 3 then noThen r.thn && inB 0 5 r.many else
  if r.kind = 4 then noThen r.thn && inB 1 5 r.many else false)

theorem letterOk_cases {t : ByteArray} (h : letterOk t = true) : t = ⟨#[114]⟩ ∨ t = ⟨#[100]⟩ ∨ t = ⟨#[110]⟩ := by
  have hs : t.size = 1 := by simp [letterOk] at h; exact h.1
  rw [letterOk_one t hs (by omega)] at h
  have e : t.data.toList = [t[0]] := by
    apply List.ext_getElem
    · simpa using hs
    · intro i h1 h2
      have : i = 0 := by simp at h2; exact h2
      subst this; rfl
  simp only [isL, Bool.or_eq_true, beq_iff_eq] at h
  rcases h with (h | h) | h
  · exact .inl (bytes_ext (by rw [e, h]))
  · exact .inr (.inl (bytes_ext (by rw [e, h])))
  · exact .inr (.inr (bytes_ext (by rw [e, h])))
theorem Ru.ok_letter {r : Ru} (h : r.ok = true) : letterOk r.letter = true := by
  simp only [Ru.ok, Bool.and_eq_true] at h; exact h.1
theorem inB_iff {lo hi n : Int} : inB lo hi n = true ↔ lo ≤ n ∧ n ≤ hi := by simp [inB]
/-- which rules there are -/
theorem Ru.ok_iff {r : Ru} : r.ok = true ↔ letterOk r.letter = true ∧
    ((r.kind = 0 ∧ r.thn = ⟨#[]⟩ ∧ 0 ≤ r.many ∧ r.many ≤ 4) ∨ (r.kind = 1 ∧ r.thn = ⟨#[]⟩ ∧ 2 ≤ r.many ∧ r.many ≤ 4) ∨ (r.kind = 2 ∧ letterOk r.thn = true ∧ r.many = 0) ∨
      (r.kind = 3 ∧ r.thn = ⟨#[]⟩ ∧ 0 ≤ r.many ∧ r.many ≤ 5) ∨ (r.kind = 4 ∧ r.thn = ⟨#[]⟩ ∧ 1 ≤ r.many ∧ r.many ≤ 5)) := by
  unfold Ru.ok
  rw [Bool.and_eq_true]
  refine and_congr Iff.rfl ?_
  by_cases h0 : r.kind = 0
  · simp [h0, noThen, inB_iff]
  by_cases h1 : r.kind = 1
  · simp [h1, noThen, inB_iff]
  by_cases h2 : r.kind = 2
  · simp [h2]
  by_cases h3 : r.kind = 3
  · simp [h3, noThen, inB_iff]
  by_cases h4 : r.kind = 4
  · simp [h4, noThen, inB_iff]
  simp [h0, h1, h2, h3, h4]

/-- a letter right behind another one, among the first k pairs -/
def pairTo (l : List UInt8) (c d : UInt8) (k : Nat) : Bool := (List.range k).any fun i => l.getD i 0 == c && l.getD (i + 1) 0 == d
theorem pairTo_succ (l : List UInt8) (c d : UInt8) (k : Nat) : pairTo l c d (k + 1) = (pairTo l c d k || (l.getD k 0 == c && l.getD (k + 1) 0 == d)) := by
  simp [pairTo, List.range_succ]
theorem pairTo_hit {l : List UInt8} {c d : UInt8} {k n : Nat} (hk : k < n) (h : (l.getD k 0 == c && l.getD (k + 1) 0 == d) = true) : pairTo l c d n = true :=
  List.any_eq_true.2 ⟨k, List.mem_range.2 hk, h⟩
/-- each run of a letter is long enough, among the runs of a list -/
def longAll (xs : List (UInt8 × Nat)) (c : UInt8) (n : Int) : Bool := xs.all fun p => !(p.1 == c) || decide (n ≤ (p.2 : Int))
theorem longAll_snoc (xs : List (UInt8 × Nat)) (p : UInt8 × Nat) (c : UInt8) (n : Int) : longAll (xs ++ [p]) c n = (longAll xs c n && (!(p.1 == c) || decide (n ≤ (p.2 : Int)))) := by
  simp [longAll, List.all_append]
/-- KeepsRule of a rule and a word -/
def Ru.holds (r : Ru) (s : ByteArray) : Bool :=
  if r.kind = 0 then decide ((longestIn (runsL s.data.toList) (byteAt r.letter 0) : Int) ≤ r.many) else
  if r.kind = 1 then longAll (runsL s.data.toList) (byteAt r.letter 0) r.many else
  if r.kind = 2 then !pairTo s.data.toList (byteAt r.letter 0) (byteAt r.thn 0) (s.size - 1) else
  if r.kind = 3 then decide (cntEq s.data.toList (byteAt r.letter 0) s.size ≤ r.many) else
  decide (r.many ≤ cntEq s.data.toList (byteAt r.letter 0) s.size)
def Ru.keeps (r : Ru) (s : ByteArray) : Bool := r.ok && wordOk s && r.holds s

/-- how the machine of a rule goes on: 'its' tells that the letter is the rule's, 'th' that it is the other one -/
def nxR (kind many : Int) (its th : Bool) (s : Int) : Int :=
  if kind = 0 then (if its = true then (if s = many then -1 else s + 1) else 0) else
  if kind = 1 then (if its = true then min (s + 1) many else if 0 < s ∧ s < many then -1 else 0) else
  if kind = 2 then (if s = 1 ∧ th = true then -1 else if its = true then 1 else 0) else
  if its = true then (if kind = 3 ∧ s = many then -1 else min (s + 1) many) else s
def endR (kind many : Int) (s : Int) : Bool :=
  if kind = 1 then (decide (s = 0) || decide (s = many)) else if kind = 4 then decide (s = many) else true
/-- the byte of a letter's number -/
def byteOf (l : Nat) : UInt8 := if l = 0 then 114 else if l = 1 then 100 else 110
def Ru.nx (r : Ru) (s : Int) (l : Nat) : Int := nxR r.kind r.many (byteAt r.letter 0 == byteOf l) (byteAt r.thn 0 == byteOf l) s
def Ru.endAt (r : Ru) (s : Int) : Bool := endR r.kind r.many s
/-- how many states -/
def Ru.st (r : Ru) : Nat := if r.kind = 2 then 2 else r.many.toNat + 1
def Ru.on (r : Ru) (s : Int) (l : Nat) : Option Int := if r.nx s l = -1 then none else some (r.nx s l)
/-- the table -/
def tabTo (f : Int → Nat → Int) : Nat → List Int
  | 0 => []
  | k + 1 => tabTo f k ++ [f k 0, f k 1, f k 2]
def endsTo (f : Int → Bool) (n : Nat) : List Bool := (List.range n).map fun (k : Nat) => f (k : Int)
theorem tabTo_length (f : Int → Nat → Int) (k : Nat) : (tabTo f k).length = 3 * k := by
  induction k with
  | zero => rfl
  | succ k ih => simp only [tabTo, List.length_append, ih, List.length_cons, List.length_nil]; omega
theorem endsTo_length (f : Int → Bool) (n : Nat) : (endsTo f n).length = n := by simp [endsTo]
theorem endsTo_succ (f : Int → Bool) (n : Nat) : endsTo f (n + 1) = endsTo f n ++ [f n] := by simp [endsTo, List.range_succ]

/-- over all rules -/
def onN (kind many : Int) (li : UInt8) (ti : UInt8) (s : Int) (l : Nat) : Int := nxR kind many (li == byteOf l) (ti == byteOf l) s
def bfsN (kind many : Int) (li ti : UInt8) (n : Nat) : List Int × List Int := bfsTo (fun s l => if onN kind many li ti s l = -1 then none else some (onN kind many li ti s l)) (0 : Int) n
def fineN (kind many : Int) (li ti : UInt8) : Bool :=
  let n := if kind = 2 then 2 else many.toNat + 1
  decide ((bfsN kind many li ti n).1 = (List.range n).map (fun (k : Nat) => (k : Int))) && decide ((bfsN kind many li ti n).2 = tabTo (onN kind many li ti) n)
theorem fineN_0 : ∀ m : Nat, m < 5 → ∀ li ∈ [(114 : UInt8), 100, 110], fineN 0 (m : Int) li 0 = true := by decide +kernel
theorem fineN_1 : ∀ m : Nat, m < 5 → 2 ≤ m → ∀ li ∈ [(114 : UInt8), 100, 110], fineN 1 (m : Int) li 0 = true := by decide +kernel
theorem fineN_2 : ∀ li ∈ [(114 : UInt8), 100, 110], ∀ ti ∈ [(114 : UInt8), 100, 110], fineN 2 0 li ti = true := by decide +kernel
theorem fineN_3 : ∀ m : Nat, m < 6 → ∀ li ∈ [(114 : UInt8), 100, 110], fineN 3 (m : Int) li 0 = true := by decide +kernel
theorem fineN_4 : ∀ m : Nat, m < 6 → 1 ≤ m → ∀ li ∈ [(114 : UInt8), 100, 110], fineN 4 (m : Int) li 0 = true := by decide +kernel

theorem letter_byte {t : ByteArray} (h : letterOk t = true) : byteAt t 0 ∈ [(114 : UInt8), 100, 110] := by
  rcases letterOk_cases h with rfl | rfl | rfl <;> decide
/-- the machine of a rule, found by a search, is the table -/
theorem Ru.fine {r : Ru} (h : r.ok = true) : (bfsTo r.on 0 r.st).1 = (List.range r.st).map (fun (k : Nat) => (k : Int)) ∧ (bfsTo r.on 0 r.st).2 = tabTo r.nx r.st := by
  obtain ⟨kind, letter, thn, many⟩ := r
  have key : fineN kind many (byteAt letter 0) (byteAt thn 0) = true := by
    obtain ⟨hl, hr⟩ := Ru.ok_iff.1 h
    have hb := letter_byte hl
    simp only at hr hb
    rcases hr with ⟨rfl, rfl, h0, h1⟩ | ⟨rfl, rfl, h0, h1⟩ | ⟨rfl, ht, rfl⟩ | ⟨rfl, rfl, h0, h1⟩ | ⟨rfl, rfl, h0, h1⟩
    · obtain ⟨m, rfl⟩ := Int.eq_ofNat_of_zero_le h0
      exact fineN_0 m (by omega) _ hb
    · obtain ⟨m, rfl⟩ := Int.eq_ofNat_of_zero_le (show 0 ≤ many by omega)
      exact fineN_1 m (by omega) (by omega) _ hb
    · exact fineN_2 _ hb _ (letter_byte ht)
    · obtain ⟨m, rfl⟩ := Int.eq_ofNat_of_zero_le h0
      exact fineN_3 m (by omega) _ hb
    · obtain ⟨m, rfl⟩ := Int.eq_ofNat_of_zero_le (show 0 ≤ many by omega)
      exact fineN_4 m (by omega) (by omega) _ hb
  simp only [fineN, Bool.and_eq_true, decide_eq_true_eq] at key
  exact key
theorem Ru.st_bd {r : Ru} (h : r.ok = true) : 1 ≤ r.st ∧ r.st ≤ 6 := by
  obtain ⟨kind, letter, thn, many⟩ := r
  obtain ⟨hl, hr⟩ := Ru.ok_iff.1 h
  simp only at hr
  unfold Ru.st
  simp only
  split <;> omega
end Go.Proofs.Ytdgpemjbaciiaaa

namespace Go.Proofs.Ytdgpemjbaciiaaa

/-- a state, and the word that led to it -/
abbrev SW := Int × ByteArray
def letS (l : Nat) : ByteArray := ⟨#[byteOf l]⟩
def sh1 (m : M) (x : SW) (q : List SW) (l : Nat) : List SW := if x.2.size < 14 ∧ 0 ≤ m.nx x.1 l ∧ m.nx x.1 l ∉ q.map Prod.fst then q ++ [(m.nx x.1 l, x.2 ++ letS l)] else q
def shL (m : M) (x : SW) (q : List SW) : Nat → List SW
  | 0 => q
  | l + 1 => sh1 m x (shL m x q l) l
def shTo (m : M) : Nat → List SW
  | 0 => [(0, ⟨#[]⟩)]
  | n + 1 => match (shTo m n)[n]? with
    | some x => shL m x (shTo m n) 3
    | none => shTo m n
theorem sh1_prefix (m : M) (x : SW) (q : List SW) (l : Nat) : q <+: sh1 m x q l := by
  unfold sh1; split
  · exact List.prefix_append _ _
  · exact List.prefix_rfl
theorem shL_prefix (m : M) (x : SW) (q : List SW) (l : Nat) : q <+: shL m x q l := by
  induction l with
  | zero => exact List.prefix_rfl
  | succ l ih => exact ih.trans (sh1_prefix m x _ l)
theorem shTo_step {m : M} {n : Nat} (h : n < (shTo m n).length) : shTo m (n + 1) = shL m (shTo m n)[n] (shTo m n) 3 := by
  rw [shTo, List.getElem?_eq_getElem h]
/-- what every element of the search keeps -/
structure SGood (m : M) (x : SW) : Prop where
  s0 : 0 ≤ x.1
  s1 : x.1 < m.st
  ok : wordOk x.2 = true
  go : m.goes 0 x.2.data.toList = x.1
structure Sh (m : M) (q : List SW) : Prop where
  all : ∀ x ∈ q, SGood m x
  nd : (q.map Prod.fst).Nodup
  pos : 0 < q.length
  fst : 0 ∈ q.map Prod.fst
theorem wordOk_more {s : ByteArray} (h : wordOk s = true) (h14 : s.size < 14) (l : Nat) (hl : l < 3) : wordOk (s ++ letS l) = true := by
  simp only [wordOk, Bool.and_eq_true, decide_eq_true_eq, allL, List.all_eq_true] at h ⊢
  refine ⟨fun x hx => ?_, ?_⟩
  · rw [ByteArray.data_append, Array.toList_append, List.mem_append] at hx
    rcases hx with hx | hx
    · exact h.1 x hx
    · have : x = byteOf l := by simpa [letS] using hx
      subst this
      match l, hl with
      | 0, _ => decide
      | 1, _ => decide
      | 2, _ => decide
  · rw [ByteArray.size_append]
    have : (letS l).size = 1 := rfl
    omega
theorem wordOk_full {s : ByteArray} (h14 : ¬ s.size < 14) (l : Nat) : wordOk (s ++ letS l) = false := by
  cases hw : wordOk (s ++ letS l) with
  | false => rfl
  | true =>
    simp only [wordOk, Bool.and_eq_true, decide_eq_true_eq] at hw
    rw [ByteArray.size_append] at hw
    have : (letS l).size = 1 := rfl
    omega
theorem goes_more (m : M) (s : ByteArray) (l : Nat) (hl : l < 3) : m.goes 0 (s ++ letS l).data.toList = m.nx (m.goes 0 s.data.toList) l := by
  rw [ByteArray.data_append, Array.toList_append, M.goes_append]
  match l, hl with
  | 0, _ => rfl
  | 1, _ => rfl
  | 2, _ => rfl
theorem Sh.one {m : M} (hm : m.ok = true) {q : List SW} (h : Sh m q) {x : SW} (hx : SGood m x) (l : Nat) (hl : l < 3) : Sh m (sh1 m x q l) := by
  unfold sh1
  split
  · rename_i hc
    obtain ⟨c1, c2, c3⟩ := hc
    refine ⟨fun y hy => ?_, ?_, by simp, ?_⟩
    · rcases List.mem_append.1 hy with hy | hy
      · exact h.all y hy
      · obtain rfl := List.mem_singleton.1 hy
        exact ⟨c2, (M.nx_bd hm x.1 l hx.s1 (by omega) (by omega)).2, wordOk_more hx.ok c1 l hl, by rw [goes_more m x.2 l hl, hx.go]⟩
    · rw [List.map_append, List.nodup_append]
      refine ⟨h.nd, by simp, ?_⟩
      intro a ha b hb e
      subst e
      simp only [List.map_cons, List.map_nil, List.mem_singleton] at hb
      exact c3 (hb ▸ ha)
    · rw [List.map_append, List.mem_append]; exact .inl h.fst
  · exact h
theorem Sh.many {m : M} (hm : m.ok = true) {q : List SW} (h : Sh m q) {x : SW} (hx : SGood m x) : ∀ l, l ≤ 3 → Sh m (shL m x q l)
  | 0, _ => h
  | l + 1, hl => (Sh.many hm h hx l (by omega)).one hm hx l (by omega)
theorem Sh.start {m : M} (hm : m.ok = true) : Sh m (shTo m 0) := by
  refine ⟨fun x hx => ?_, by simp [shTo], by simp [shTo], by simp [shTo]⟩
  obtain rfl := List.mem_singleton.1 hx
  exact ⟨Int.le_refl _, by have := (M.ok_shape hm).1; show (0 : Int) < m.st; omega, by decide, rfl⟩
theorem Sh.to {m : M} (hm : m.ok = true) : ∀ n, Sh m (shTo m n)
  | 0 => Sh.start hm
  | n + 1 => by
    have ih := Sh.to hm n
    by_cases hn : n < (shTo m n).length
    · rw [shTo_step hn]; exact ih.many hm (ih.all _ (List.getElem_mem hn)) 3 (Nat.le_refl _)
    · rw [shTo, List.getElem?_eq_none (by omega)]; exact ih
theorem nodup_bd : ∀ (n : Nat) (l : List Int), l.Nodup → (∀ x ∈ l, 0 ≤ x ∧ x < (n : Int)) → l.length ≤ n
  | 0, l, _, h => by
    cases l with
    | nil => simp
    | cons x l => have := h x List.mem_cons_self; omega
  | n + 1, l, hn, h => by
    have h2 := nodup_bd n (l.erase (n : Int)) (hn.erase _) (fun x hx => by
      have h3 := h x (List.mem_of_mem_erase hx)
      have h4 : x ≠ n := fun e => by subst e; exact (List.Nodup.not_mem_erase hn) hx
      omega)
    have h5 := List.length_erase (a := (n : Int)) (l := l)
    split at h5 <;> omega
theorem Sh.len {m : M} (hm : m.ok = true) {q : List SW} (h : Sh m q) : q.length ≤ 48 := by
  have h1 := M.ok_shape hm
  have h2 := nodup_bd m.st.toNat (q.map Prod.fst) h.nd (fun x hx => by
    obtain ⟨y, hy, rfl⟩ := List.mem_map.1 hx
    have := h.all y hy
    have a := this.s0
    have b := this.s1
    omega)
  rw [List.length_map] at h2
  omega
/-- the word found at the n-th element -/
def hitAt (m : M) (n : Nat) : Option ByteArray := match (shTo m n)[n]? with
  | some x => if m.endAt x.1 = true then some x.2 else none
  | none => none
def IsShort (m : M) (r : Option ByteArray) : Prop :=
  ∃ n, (∀ j, j < n → j < (shTo m j).length ∧ hitAt m j = none) ∧ ((∃ w, hitAt m n = some w ∧ r = some w) ∨ ((shTo m n).length ≤ n ∧ r = none))
theorem hitAt_lt {m : M} {n : Nat} {w : ByteArray} (h : hitAt m n = some w) : n < (shTo m n).length := by
  rcases Nat.lt_or_ge n (shTo m n).length with h' | h'
  · exact h'
  · rw [hitAt, List.getElem?_eq_none h'] at h; cases h
theorem IsShort.one {m : M} {r r' : Option ByteArray} (h : IsShort m r) (h' : IsShort m r') : r = r' := by
  obtain ⟨n, h1, h2⟩ := h
  obtain ⟨k, k1, k2⟩ := h'
  rcases Nat.lt_trichotomy n k with hlt | rfl | hgt
  · obtain ⟨a, b⟩ := k1 n hlt
    rcases h2 with ⟨w, h2, -⟩ | ⟨h2, -⟩
    · rw [b] at h2; cases h2
    · omega
  · rcases h2 with ⟨w, h2, rfl⟩ | ⟨h2, rfl⟩
    · rcases k2 with ⟨u, k2, rfl⟩ | ⟨k2, -⟩
      · rw [h2] at k2; exact k2
      · have := hitAt_lt h2; omega
    · rcases k2 with ⟨u, k2, -⟩ | ⟨k2, rfl⟩
      · have := hitAt_lt k2; omega
      · rfl
  · obtain ⟨a, b⟩ := h1 k hgt
    rcases k2 with ⟨w, k2, -⟩ | ⟨k2, -⟩
    · rw [b] at k2; cases k2
    · omega
theorem hitAt_yes {m : M} {n : Nat} (h : n < (shTo m n).length) (he : m.endAt (shTo m n)[n].1 = true) : hitAt m n = some (shTo m n)[n].2 := by
  rw [hitAt, List.getElem?_eq_getElem h]; simp [he]
theorem hitAt_no {m : M} {n : Nat} (h : n < (shTo m n).length) (he : m.endAt (shTo m n)[n].1 = false) : hitAt m n = none := by
  rw [hitAt, List.getElem?_eq_getElem h]; simp [he]
end Go.Proofs.Ytdgpemjbaciiaaa

namespace Go.Proofs.Ytdgpemjbaciiaaa

def lettersF (l : List UInt8) : List (Fin 3) := l.map fun c => if c == 114 then 0 else if c == 100 then 1 else 2
theorem letter_one (c : UInt8) (h : isL c = true) : (((if c == 114 then 0 else if c == 100 then 1 else 2 : Fin 3)).val : Int) = letterOf (c.toNat : Int) := by
  simp only [isL, Bool.or_eq_true, beq_iff_eq] at h
  rcases h with (rfl | rfl) | rfl
  · decide
  · decide
  · decide
theorem goes_walk (m : M) (l : List UInt8) (h : allL l = true) : ∀ s, m.goes s l = m.walk s ((lettersF l).map fun x => x.val) := by
  induction l with
  | nil => intro s; rfl
  | cons c l ih =>
    intro s
    rw [allL, List.all_cons, Bool.and_eq_true] at h
    rw [M.goes, lettersF, List.map_cons, List.map_cons, M.walk, letter_one c h.1]
    exact ih h.2 _
theorem M.takes_lang {m : M} (hm : m.ok = true) {s : ByteArray} (hs : wordOk s = true) : m.takes s = m.lang 0 (lettersF s.data.toList) := by
  rw [M.takes, M.after_yes hm hs, M.lang, goes_walk m _ (by simp only [wordOk, Bool.and_eq_true] at hs; exact hs.1)]
theorem M.takes_not {m : M} {s : ByteArray} (h : m.ok = false ∨ wordOk s = false) : m.takes s = false := by
  have : m.after s = -2 := by
    rcases h with h | h
    · exact M.after_not s h
    · exact M.after_now s h
  rw [M.takes, this]; simp [M.endAt]
theorem M.takes_same {m k : M} (hm : m.ok = true) (hk : k.ok = true) (h : k.lang 0 = m.lang 0) (s : ByteArray) : k.takes s = m.takes s := by
  cases hs : wordOk s with
  | true => rw [M.takes_lang hm hs, M.takes_lang hk hs, h]
  | false => rw [M.takes_not (.inr hs), M.takes_not (.inr hs)]
theorem M.good_ok {k : M} (h : k.good) (h48 : k.st ≤ 48) : k.ok = true := by
  have hs := M.good_shape h
  rw [M.ok, Bool.and_eq_true]
  refine ⟨M.shape_iff.2 ⟨hs.1, h48, hs.2.2.1, hs.2.2.2⟩, ?_⟩
  rw [List.all_eq_true]
  intro x hx
  obtain ⟨i, hi, rfl⟩ := List.getElem_of_mem hx
  have := h.nxt i hi
  simp only [nextOk, Bool.and_eq_true, decide_eq_true_eq]
  omega
theorem IsLmZ.ok {m k : M} (hm : m.ok = true) (h : IsLmZ m k) : k.ok = true := by
  obtain ⟨h1, h2⟩ := h.1 hm
  exact M.good_ok (h1.good (by omega)) h2
theorem IsLmZ.takes {m k : M} (hm : m.ok = true) (h : IsLmZ m k) (s : ByteArray) : k.takes s = m.takes s := M.takes_same hm (h.ok hm) (h.1 hm).1.lang s
theorem tm_st {m : M} (hg : m.good) : (tm m).st ≤ m.st := by
  have h1 := trimN_le hg (lrounds m m.ends.length)
  have h2 := hg.st0
  show ((trimN m (lrounds m m.ends.length) : Nat) : Int) ≤ m.st
  omega
theorem tm_ok {m : M} (hm : m.ok = true) : (tm m).ok = true := by
  have hg := M.ok_good hm
  exact M.good_ok (tm_good hg) (by have := tm_st hg; have := (M.ok_shape hm).2.1; omega)
theorem tm_takes {m : M} (hm : m.ok = true) (s : ByteArray) : (tm m).takes s = m.takes s := M.takes_same hm (tm_ok hm) (tm_lang (M.ok_good hm)) s
theorem tmz_ok {m : M} (hm : m.ok = true) : tmz m = tm m := by rw [tmz, if_pos hm]
end Go.Proofs.Ytdgpemjbaciiaaa

namespace Go.Proofs.Ytdgpemjbaciiaaa
open Go.RowKit

theorem M.takes_nil {m : M} (h : m.ok = true) : m.takes ⟨#[]⟩ = m.endAt 0 := by
  rw [M.takes, M.after_yes h (by decide +kernel)]; rfl
/-- what LeastMachine hands back, to be read -/
theorem LeastNew.reads {m : M} {w w' : World} {e : Ending} (h : LeastNew m w e w') : ∃ k nv ev, IsLmZ m k ∧ e = .returned (.agg #[.int .i64 k.st, nv, ev]) ∧ IsInts w' nv k.next ∧ IsBools w' ev k.ends ∧ Below w.heap.size w w' := by
  obtain ⟨k, hk, h⟩ := h
  obtain ⟨nv, ev, h1, h2, h3, h4⟩ := h.reads
  exact ⟨k, nv, ev, hk, h1, h2, h3, h4⟩
theorem IsLmZ.wf {m k : M} (h : IsLmZ m k) : (Lit.int .i64 k.st).wf = true := by
  cases hm : m.ok with
  | true =>
    have h1 := (M.ok_shape (h.ok hm)).1
    have h2 := (h.1 hm).2
    exact WalkArith.wf_i64 (by show _ ∧ _; omega)
  | false => rw [h.2 hm]; rfl

set_option maxHeartbeats 1600000 in
set_option maxRecDepth 100000 in
theorem lawTakesOk_walk {w : World} (a : Option Addr) (len cap : Nat) (zs : List Int) (h : IsRow .u8 w a len cap zs) :
    Calls Try.prog 9 #[.slice a len cap] w fun e w' => e = .returned (.bool true) ∧ Below w.heap.size w w' := by
  have HD := Lib.hid (drawTakesOk_any a len cap zs w h)
  have hl := h.len_le
  unfold maxLen at hl
  clear h
  by_cases hbig : 1048576 < len
  · go_enter Try.func9, Try.ntmps9
    go_wp2_with fail
    go_ret
    exact ⟨rfl, Below.refl _ _⟩
  · go_enter Try.func9, Try.ntmps9
    go_wp2_with fail
    refine HD.out.mono ?_
    clear HD
    rintro e w1 ⟨m, nv, ev, s, rfl, hs, hd, hb1⟩
    obtain ⟨a1, n1, c1, rfl⟩ := hd.ints.slice
    obtain ⟨a2, n2, c2, rfl⟩ := hd.bools.slice
    have hwf := hd.wf
    have M1 := Lib.hid (MachBox.new (st := m.st) 27 hd.ints hd.bools)
    have q1 := Lib.hid (hb1.alloc hb1.size (.cells #[.int .i64 m.st, .slice a1 n1 c1, .slice a2 n2 c2] 27))
    have hsm : s.size ≤ maxLen := by unfold maxLen; omega
    clear hb1 hd
    go_wp2_with fail
    generalize hW2 : w1.alloc (.cells #[.int .i64 m.st, .slice a1 n1 c1, .slice a2 n2 c2] 27) = w2 at *
    generalize hB2 : w1.heap.size = b2 at *
    clear hW2 hB2
    refine (implTakesOk_any m s _ _ _ M1.out.ints M1.out.bools hwf hsm).mono ?_
    rintro e w3 ⟨rfl, hb3⟩
    have M3 := Lib.hid (M1.out.below hb3)
    have q3 := Lib.hid (q1.out.trans (hb3.mono q1.out.size))
    clear hb3
    have y0 := M3.out.c0
    have y1 := M3.out.c1
    have y2 := M3.out.c2
    go_wp2_with fail
    clear y0 y1 y2
    refine (specTakesOk_any m s _ _ _ M3.out.ints M3.out.bools hwf hsm).mono ?_
    rintro e w4 ⟨rfl, hb4⟩
    have M4 := Lib.hid (M3.out.below hb4)
    have q4 := Lib.hid (q3.out.trans (hb4.mono q3.out.size))
    clear hb4 M1 M3 q1 q3
    have y0 := M4.out.c0
    have y1 := M4.out.c1
    have y2 := M4.out.c2
    have hbb : (m.takes s != m.takes s) = false := by simp
    go_wp2_with fail
    clear y0 y1 y2 hbb
    refine (specMachineOk_any m _ _ _ M4.out.ints M4.out.bools hwf).mono ?_
    rintro e w5 ⟨rfl, hb5⟩
    have M5 := Lib.hid (M4.out.below hb5)
    have q5 := Lib.hid (q4.out.trans (hb5.mono q4.out.size))
    clear hb5 M4 q4
    cases hk : m.ok with
    | false =>
      have HT := Lib.hid (M.takes_not (m := m) (s := s) (.inl hk))
      rw [HT.out]
      go_wp2_with fail
      refine (alive_any _).mono ?_
      rintro e w6 ⟨rfl, rfl⟩
      go_wp2_with fail
      go_ret
      exact ⟨rfl, q5.out⟩
    | true =>
      have HK := Lib.hid hk
      clear hk
      go_wp2_with fail
      refine (specWordOk_any s _ hsm).mono ?_
      rintro e w6 ⟨rfl, rfl⟩
      cases hw : wordOk s with
      | false =>
        have HT := Lib.hid (M.takes_not (m := m) (s := s) (.inr hw))
        rw [HT.out]
        go_wp2_with fail
        refine (alive_any _).mono ?_
        rintro e w6 ⟨rfl, rfl⟩
        go_wp2_with fail
        go_ret
        exact ⟨rfl, q5.out⟩
      | true =>
        have HG := Lib.hid (M.ok_good HK.out)
        have HTM := Lib.hid (tm_takes HK.out s)
        have HTO := Lib.hid (tm_ok HK.out)
        have HNIL := Lib.hid (M.takes_nil HK.out)
        have hsh := M.ok_shape HK.out
        obtain ⟨ge, oe, rfl, rfl, hge, hce⟩ := bools_cells3 M5.out.bools (by omega)
        have hc0 := hce 0 (by omega)
        rw [Nat.add_zero] at hc0
        have HE0 : Hid (m.takes ⟨#[]⟩ = m.ends[0]'(by omega)) := Lib.hid (by
          rw [HNIL.out, M.endAt, if_neg (by omega)]
          show m.ends.getD 0 false = _
          rw [List.getD_eq_getElem?_getD, List.getElem?_eq_getElem (by omega)]; rfl)
        generalize m.ends[0]'(by omega) = e0 at *
        generalize hok : m.takes s = ok at *
        have HOKV := Lib.hid hok
        have hbb : (ok == ok) = true := by simp
        have hee : (e0 == e0) = true := by simp
        have hel : (0 : Int) < (m.ends.length : Int) := by omega
        have hel1 : 0 < m.ends.length := by omega
        have hel2 : ¬ m.ends = [] := by intro e; rw [e] at hel1; exact absurd hel1 (Nat.lt_irrefl 0)
        have MD := Lib.hid (M5.out.below (Below.refl _ w5).drew)
        have HC0 := Lib.hid hc0
        have HGE := Lib.hid hge
        have y0 := M5.out.c0
        have y1 := M5.out.c1
        have y2 := M5.out.c2
        clear hok hsh hce
        have HWT : Hid ((Lit.int .i64 (tm m).st).wf = true) := Lib.hid (WalkArith.wf_i64 (by have h1 := M.ok_shape HTO.out; show _ ∧ _; omega))
        have HTM2 : Hid ((tm m).takes s = ok) := Lib.hid HTM.out
        have HKT : Hid (∀ K, IsLmZ m K → K.takes s = ok) := Lib.hid (fun K h => (h.takes HK.out s).trans HOKV.out)
        have BD := Lib.hid ((Below.refl w5.heap.size w5).drew)
        have HTZ := Lib.hid (tmz_ok HK.out)
        have HCE : Hid (∀ W, Below w5.heap.size w5 W → W.cell? ⟨ge, oe, none⟩ = some (.bool e0)) := Lib.hid (fun W h => (h.cell (p := ⟨ge, oe, none⟩) HGE.out).trans HC0.out)
        clear hc0 hge y0 y1 y2 HTO HTM HNIL
        generalize tm m = T at *
        have hs0m : (⟨#[]⟩ : ByteArray).size ≤ maxLen := Nat.zero_le _
        have HS0M := Lib.hid hs0m
        clear hs0m
        go_upto_region 9 with fail
        go_region_held3 (fun w' => w'.cell? ⟨b2, 0, none⟩ = some (.int .i64 m.st) ∧ w'.cell? ⟨b2, 1, none⟩ = some (.slice a1 n1 c1) ∧ w'.cell? ⟨b2, 2, none⟩ = some (.slice (some ⟨ge, oe, none⟩) m.ends.length c2) ∧ w'.cell? ⟨ge, oe, none⟩ = some (.bool e0))
          (first | exact ⟨MD.out.c0, MD.out.c1, MD.out.c2, HCE.out _ BD.out⟩ | exact ⟨M6.out.c0, M6.out.c1, M6.out.c2, HCE.out _ B6.out⟩ | exact ⟨M7.out.c0, M7.out.c1, M7.out.c2, HCE.out _ B7.out⟩ | exact ⟨M8.out.c0, M8.out.c1, M8.out.c2, HCE.out _ B8.out⟩ | exact ⟨M9.out.c0, M9.out.c1, M9.out.c2, HCE.out _ B9.out⟩ | exact ⟨M10.out.c0, M10.out.c1, M10.out.c2, HCE.out _ B10.out⟩)
          (first | (go_at_call 40; refine (implTrimmed_any m _ _ w5.drew MD.out.ints MD.out.bools hwf).mono ?_; rintro e w6 h6; rw [HTZ.out] at h6; obtain ⟨nv6, ev6, rfl, hi6, hbo6, hb6⟩ := h6.reads; have I6 := Lib.hid (And.intro hi6 hbo6); have M6 := Lib.hid (MD.out.below hb6); have B6 := Lib.hid (BD.out.trans (hb6.mono BD.out.size)); clear hi6 hbo6 hb6 h6) | (go_at_call 35; with_reducible refine (implTakesOk_any T s _ _ w6 I6.out.1 I6.out.2 HWT.out hsm).mono ?_; rintro e w7 ⟨rfl, hb7⟩; rw [HTM2.out]; have M7 := Lib.hid (M6.out.below hb7); have B7 := Lib.hid (B6.out.trans (hb7.mono B6.out.size)); clear hb7) | (go_at_call 20; refine (implLeastZ m _ _ w7 M7.out.ints M7.out.bools hwf).mono ?_; rintro e w8 h8; obtain ⟨K, nv8, ev8, hK8, rfl, hi8, hbo8, hb8⟩ := h8.reads; have I8 := Lib.hid (And.intro hi8 hbo8); have HK8 := Lib.hid hK8; have M8 := Lib.hid (M7.out.below hb8); have B8 := Lib.hid (B7.out.trans (hb8.mono B7.out.size)); clear hi8 hbo8 hb8 h8 hK8) | (go_at_call 35; with_reducible refine (implTakesOk_any K s _ _ w8 I8.out.1 I8.out.2 HK8.out.wf hsm).mono ?_; rintro e w9 ⟨rfl, hb9⟩; rw [HKT.out K HK8.out]; have M9 := Lib.hid (M8.out.below hb9); have B9 := Lib.hid (B8.out.trans (hb9.mono B8.out.size)); clear hb9) | (go_at_call 35; with_reducible refine (implTakesOk_any m ⟨#[]⟩ _ _ w9 M9.out.ints M9.out.bools hwf HS0M.out).mono ?_; rintro e w10 ⟨rfl, hb10⟩; rw [HE0.out]; have M10 := Lib.hid (M9.out.below hb10); have B10 := Lib.hid (B9.out.trans (hb10.mono B9.out.size)); clear hb10))
        all_goals
          go_wp2_with fail
          go_ret
          exact ⟨rfl, q5.out.trans (B10.out.mono q5.out.size)⟩
end Go.Proofs.Ytdgpemjbaciiaaa

namespace Go.Proofs.Ytdgpemjbaciiaaa

theorem walk_snoc (m : M) : ∀ (u : List Nat) (s : Int) (l : Nat), m.walk s (u ++ [l]) = m.nx (m.walk s u) (l : Int)
  | [], _, _ => rfl
  | a :: u, s, l => by rw [List.cons_append, M.walk, walk_snoc m u _ l]; rfl
theorem shTo_prefix (m : M) (n : Nat) : shTo m n <+: shTo m (n + 1) := by
  by_cases h : n < (shTo m n).length
  · rw [shTo_step h]; exact shL_prefix m _ _ 3
  · rw [shTo, List.getElem?_eq_none (by omega)]; exact List.prefix_rfl
theorem shTo_pre (m : M) {n k : Nat} (h : n ≤ k) : shTo m n <+: shTo m k := by
  induction k with
  | zero => obtain rfl : n = 0 := by omega
            exact List.prefix_rfl
  | succ k ih =>
    rcases Nat.lt_succ_iff_lt_or_eq.1 (Nat.lt_succ_of_le h) with h | rfl
    · exact (ih (by omega)).trans (shTo_prefix m k)
    · exact List.prefix_rfl
/-- sizes do not fall, and none is greater than one more than the one at hand -/
structure Szs (q : List SW) (b : Nat) : Prop where
  up : q.Pairwise (fun x y => x.2.size ≤ y.2.size)
  le : ∀ y ∈ q, y.2.size ≤ b + 1
  ix : ∀ (i : Nat) (x : SW), q[i]? = some x → x.2.size ≤ i
theorem size_more (s : ByteArray) (l : Nat) : (s ++ letS l).size = s.size + 1 := by rw [ByteArray.size_append]; rfl
theorem Szs.one {m : M} {q : List SW} {x : SW} (h : Szs q x.2.size) {n : Nat} (hn : n < q.length) (hx : x.2.size ≤ n) (l : Nat) : Szs (sh1 m x q l) x.2.size := by
  unfold sh1
  split
  · refine ⟨List.pairwise_append.2 ⟨h.up, by simp, fun a ha b hb => ?_⟩, fun y hy => ?_, fun i y hy => ?_⟩
    · obtain rfl := List.mem_singleton.1 hb
      show a.2.size ≤ (x.2 ++ letS l).size
      rw [size_more]; exact h.le a ha
    · rcases List.mem_append.1 hy with hy | hy
      · exact h.le y hy
      · obtain rfl := List.mem_singleton.1 hy
        show (x.2 ++ letS l).size ≤ _
        rw [size_more]; exact Nat.le_refl _
    · rcases Nat.lt_or_ge i q.length with hi | hi
      · rw [List.getElem?_append_left hi] at hy; exact h.ix i y hy
      · rw [List.getElem?_append_right hi] at hy
        have h0 : i - q.length = 0 := by
          rcases Nat.eq_zero_or_pos (i - q.length) with e | e
          · exact e
          · rw [List.getElem?_eq_none (by simp; omega)] at hy; cases hy
        rw [h0] at hy
        obtain rfl : _ = y := Option.some.inj hy
        show (x.2 ++ letS l).size ≤ i
        rw [size_more]; omega
  · exact h
theorem Szs.many {m : M} {q : List SW} {x : SW} (h : Szs q x.2.size) {n : Nat} (hn : n < q.length) (hx : x.2.size ≤ n) : ∀ l, Szs (shL m x q l) x.2.size
  | 0 => h
  | l + 1 => (Szs.many h hn hx l).one (Nat.lt_of_lt_of_le hn (shL_prefix m x q l).length_le) hx l
theorem Szs.to (m : M) : ∀ n (_hH : ∀ j, j < n → j < (shTo m j).length), (shTo m n).Pairwise (fun x y => x.2.size ≤ y.2.size) ∧ (∀ (i : Nat) (x : SW), (shTo m n)[i]? = some x → x.2.size ≤ i) ∧ ∀ x : SW, (shTo m n)[n]? = some x → Szs (shTo m n) x.2.size
  | 0, _ => by
    refine ⟨by simp [shTo], fun i x hx => ?_, fun x hx => ?_⟩
    · have h0 : i = 0 := by
        rcases Nat.eq_zero_or_pos i with e | e
        · exact e
        · rw [shTo, List.getElem?_eq_none (by simp; omega)] at hx; cases hx
      subst h0
      obtain rfl : _ = x := Option.some.inj hx
      exact Nat.le_refl _
    · obtain rfl : _ = x := Option.some.inj hx
      refine ⟨by simp [shTo], fun y hy => ?_, fun i y hy => ?_⟩
      · obtain rfl := List.mem_singleton.1 hy; exact Nat.zero_le _
      · have h0 : i = 0 := by
          rcases Nat.eq_zero_or_pos i with e | e
          · exact e
          · rw [shTo, List.getElem?_eq_none (by simp; omega)] at hy; cases hy
        subst h0
        obtain rfl : _ = y := Option.some.inj hy
        exact Nat.le_refl _
  | n + 1, hH => by
    obtain ⟨h1, h2, h3⟩ := Szs.to m n (fun j hj => hH j (by omega))
    have hn := hH n (by omega)
    have hx := List.getElem?_eq_getElem hn
    have hS := (h3 _ hx).many (m := m) hn (h2 n _ hx) 3
    rw [← shTo_step hn] at hS
    refine ⟨hS.up, hS.ix, fun x hx2 => ?_⟩
    have hle : (shTo m n)[n].2.size ≤ x.2.size := by
      obtain ⟨h4, h5⟩ := List.getElem?_eq_some_iff.1 hx2
      have h6 : (shTo m (n + 1))[n]'(by omega) = (shTo m n)[n] := by
        have := (shTo_prefix m n).getElem hn
        exact this.symm
      have := List.pairwise_iff_getElem.1 hS.up n (n + 1) (by omega) h4 (by omega)
      rw [h6, h5] at this
      exact this
    exact ⟨hS.up, fun y hy => by have := hS.le y hy; omega, hS.ix⟩
theorem shL_has (m : M) (x : SW) (q : List SW) (h14 : x.2.size < 14) (l : Nat) (h0 : 0 ≤ m.nx x.1 l) : ∀ k, l < k → ∃ y ∈ shL m x q k, y.1 = m.nx x.1 l
  | 0, h => absurd h (Nat.not_lt_zero l)
  | k + 1, h => by
    rcases Nat.lt_succ_iff_lt_or_eq.1 h with h | rfl
    · obtain ⟨y, hy, e⟩ := shL_has m x q h14 l h0 k h
      exact ⟨y, (sh1_prefix m x _ k).subset hy, e⟩
    · by_cases hm : m.nx x.1 l ∈ (shL m x q l).map Prod.fst
      · obtain ⟨y, hy, e⟩ := List.mem_map.1 hm
        exact ⟨y, (sh1_prefix m x _ l).subset hy, e⟩
      · refine ⟨(m.nx x.1 l, x.2 ++ letS l), ?_, rfl⟩
        show _ ∈ sh1 m x (shL m x q l) l
        unfold sh1
        rw [if_pos ⟨h14, h0, hm⟩]
        simp
/-- every state that a word leads to has come, by a word that is no longer -/
theorem sh_reach {m : M} {n : Nat} (hH : ∀ j, j < n → j < (shTo m j).length) (C : Nat → Prop) (hC : ∀ k, C (k + 1) → C k) (h14 : ∀ (i : Nat) (x : SW) (k : Nat), (shTo m n)[i]? = some x → C (k + 1) → x.2.size ≤ k → x.2.size < 14)
    (hB : ∀ (i : Nat) (x : SW) (k : Nat), (shTo m n)[i]? = some x → C k → x.2.size ≤ k → i < n) (u : List Nat) (hu : ∀ l ∈ u, l < 3) :
    C u.length → 0 ≤ m.walk 0 u → ∃ (i : Nat) (x : SW), i < n ∧ (shTo m n)[i]? = some x ∧ x.1 = m.walk 0 u ∧ x.2.size ≤ u.length := by
  have key : ∀ k (u : List Nat), u.length = k → (∀ l ∈ u, l < 3) → C u.length → 0 ≤ m.walk 0 u → ∃ (i : Nat) (x : SW), i < n ∧ (shTo m n)[i]? = some x ∧ x.1 = m.walk 0 u ∧ x.2.size ≤ u.length := by
    intro k
    induction k with
    | zero =>
      intro u hk _ hc _
      have hu0 : u = [] := List.length_eq_zero_iff.1 hk
      subst hu0
      have h0 : (shTo m n)[0]? = some ((0 : Int), (⟨#[]⟩ : ByteArray)) := by
        obtain ⟨t, ht⟩ := shTo_pre m (Nat.zero_le n)
        rw [← ht]; rfl
      exact ⟨0, _, hB 0 _ 0 h0 hc (Nat.zero_le _), h0, rfl, Nat.zero_le _⟩
    | succ k ih =>
      intro u hk hu hc hw
      obtain ⟨v, l, rfl⟩ : ∃ v l, u = v ++ [l] := by
        rcases List.eq_nil_or_concat u with rfl | ⟨v, l, e⟩
        · cases hk
        · exact ⟨v, l, by rw [e, List.concat_eq_append]⟩
      rw [List.length_append, List.length_singleton] at hk hc ⊢
      have hl : l < 3 := hu l (by simp)
      rw [walk_snoc] at hw ⊢
      have hw0 : 0 ≤ m.walk 0 v := by
        rcases Int.lt_or_le (m.walk 0 v) 0 with h | h
        · rw [M.nx_neg _ _ _ h] at hw; omega
        · exact h
      obtain ⟨i, x, hi, hx, e1, e2⟩ := ih v (by omega) (fun l hl => hu l (by simp [hl])) (hC _ hc) hw0
      have hx14 := h14 i x v.length hx hc e2
      have hin := hH i hi
      have hxi : (shTo m i)[i] = x := by
        obtain ⟨h4, h5⟩ := List.getElem?_eq_some_iff.1 hx
        rw [← h5]; exact (shTo_pre m (Nat.le_of_lt hi)).getElem hin
      have hS := (Szs.to m i (fun j hj => hH j (by omega))).2.2 _ (List.getElem?_eq_getElem hin)
      rw [hxi] at hS
      have hix : x.2.size ≤ i := hS.ix i x (by rw [List.getElem?_eq_getElem hin, hxi])
      have hS2 := hS.many (m := m) hin hix 3
      obtain ⟨y, hy, e3⟩ := shL_has m x (shTo m i) hx14 l (by rw [e1]; exact hw) 3 hl
      have hy2 := hS2.le y hy
      have hy3 : y ∈ shTo m n := by
        have h6 : shTo m (i + 1) = shL m x (shTo m i) 3 := by rw [shTo_step hin, hxi]
        exact (shTo_pre m hi).subset (by rw [h6]; exact hy)
      obtain ⟨j, hj, e4⟩ := List.getElem_of_mem hy3
      have hyj : (shTo m n)[j]? = some y := by rw [List.getElem?_eq_getElem hj, e4]
      exact ⟨j, y, hB j y (v.length + 1) hyj hc (by omega), hyj, by rw [e3, e1], by omega⟩
  exact key u.length u rfl hu
theorem short_takes {m : M} (hm : m.ok = true) {w : ByteArray} (h : IsShort m (some w)) : m.takes w = true := by
  obtain ⟨n, -, ⟨v, h2, e⟩ | ⟨-, e⟩⟩ := h
  · cases e
    have hn := hitAt_lt h2
    have hg := (Sh.to hm n).all _ (List.getElem_mem hn)
    rw [hitAt, List.getElem?_eq_getElem hn] at h2
    simp only at h2
    split at h2
    · rename_i he
      cases h2
      rw [M.takes, M.after_yes hm hg.ok, hg.go]; exact he
    · cases h2
  · cases e
theorem takes_walk {m : M} (hm : m.ok = true) {s : ByteArray} (h : m.takes s = true) : ∃ u : List Nat, (∀ l ∈ u, l < 3) ∧ u.length = s.size ∧ s.size ≤ 14 ∧ m.endAt (m.walk 0 u) = true ∧ 0 ≤ m.walk 0 u := by
  cases hs : wordOk s with
  | false => rw [M.takes_not (.inr hs)] at h; cases h
  | true =>
    rw [M.takes_lang hm hs, M.lang] at h
    refine ⟨_, fun l hl => ?_, ?_, ?_, h, ?_⟩
    · obtain ⟨x, -, rfl⟩ := List.mem_map.1 hl; exact x.isLt
    · rw [List.length_map, lettersF, List.length_map]; simp
    · simp only [wordOk, Bool.and_eq_true, decide_eq_true_eq] at hs; exact hs.2
    · rcases Int.lt_or_le (m.walk 0 ((lettersF s.data.toList).map fun l => l.val)) 0 with h2 | h2
      · rw [M.endAt, if_pos h2] at h; cases h
      · exact h2
theorem hit_of_end {m : M} {n i : Nat} {x : SW} (hH : ∀ j, j < n → j < (shTo m j).length ∧ hitAt m j = none) (hi : i < n) (hx : (shTo m n)[i]? = some x) : m.endAt x.1 = false := by
  obtain ⟨h1, h2⟩ := hH i hi
  have hxi : (shTo m i)[i] = x := by
    obtain ⟨h4, h5⟩ := List.getElem?_eq_some_iff.1 hx
    rw [← h5]; exact (shTo_pre m (Nat.le_of_lt hi)).getElem h1
  cases he : m.endAt x.1 with
  | false => rfl
  | true => rw [hitAt_yes h1 (by rw [hxi]; exact he)] at h2; cases h2
theorem short_least {m : M} (hm : m.ok = true) {w : ByteArray} (h : IsShort m (some w)) {s : ByteArray} (hs : m.takes s = true) : w.size ≤ s.size := by
  obtain ⟨u, hu, hl, h14, he, h0⟩ := takes_walk hm hs
  obtain ⟨n, hH, ⟨v, h2, e⟩ | ⟨-, e⟩⟩ := h
  · cases e
    have hn := hitAt_lt h2
    have hw : (shTo m n)[n].2 = w := by
      rw [hitAt, List.getElem?_eq_getElem hn] at h2
      simp only at h2
      split at h2
      · exact Option.some.inj h2
      · cases h2
    rcases Nat.lt_or_ge s.size w.size with hlt | hge
    · exfalso
      have hup := (Szs.to m n (fun j hj => (hH j hj).1)).1
      obtain ⟨i, x, hi, hx, e1, -⟩ := sh_reach (fun j hj => (hH j hj).1) (fun k => k < w.size ∧ k ≤ 14) (fun k hk => by omega) (fun i x k hx hk hle => by omega)
        (fun i x k hx hk hle => by
          rcases Nat.lt_or_ge i n with h | h
          · exact h
          · exfalso
            obtain ⟨h4, h5⟩ := List.getElem?_eq_some_iff.1 hx
            have h6 : (shTo m n)[n].2.size ≤ (shTo m n)[i].2.size := by
              rcases Nat.lt_or_ge n i with h7 | h7
              · exact List.pairwise_iff_getElem.1 hup n i hn h4 h7
              · obtain rfl : i = n := by omega
                exact Nat.le_refl _
            rw [hw, h5] at h6
            omega) u hu ⟨by omega, by omega⟩ h0
      have := hit_of_end hH hi hx
      rw [e1, he] at this; cases this
    · exact hge
  · cases e
theorem short_none {m : M} (hm : m.ok = true) (h5 : m.st ≤ 14) (h : IsShort m none) (u : List (Fin 3)) : m.lang 0 u = false := by
  obtain ⟨n, hH, ⟨v, h2, e⟩ | ⟨hend, -⟩⟩ := h
  · cases e
  · cases hl : m.lang 0 u with
    | false => rfl
    | true =>
      exfalso
      have he : m.endAt (m.walk 0 (u.map fun l => l.val)) = true := hl
      have h0 : 0 ≤ m.walk 0 (u.map fun l => l.val) := by
        rcases Int.lt_or_le (m.walk 0 (u.map fun l => l.val)) 0 with h2 | h2
        · rw [M.endAt, if_pos h2] at he; cases he
        · exact h2
      have hix := (Szs.to m n (fun j hj => (hH j hj).1)).2.1
      have hlen : (shTo m n).length ≤ 14 := by
        have hS := Sh.to hm n
        have h2 := nodup_bd m.st.toNat ((shTo m n).map Prod.fst) hS.nd (fun x hx => by
          obtain ⟨y, hy, rfl⟩ := List.mem_map.1 hx
          have h3 := hS.all y hy
          have a := h3.s0
          have b := h3.s1
          omega)
        rw [List.length_map] at h2
        omega
      obtain ⟨i, x, hi, hx, e1, -⟩ := sh_reach (fun j hj => (hH j hj).1) (fun _ => True) (fun _ _ => trivial)
        (fun i x k hx _ _ => by
          have h3 := hix i x hx
          have h4 := (List.getElem?_eq_some_iff.1 hx).1
          omega)
        (fun i x k hx _ _ => by have h4 := (List.getElem?_eq_some_iff.1 hx).1; omega) (u.map fun l => l.val) (fun l hl => by obtain ⟨y, -, rfl⟩ := List.mem_map.1 hl; exact y.isLt) trivial h0
      have := hit_of_end hH hi hx
      rw [e1, he] at this; cases this
/-- the least machine of no word -/
theorem IsLm.empty {f : List (Fin 3) → Bool} {k : M} (h : IsLm f k) (hf : ∀ u, f u = false) : k.st = 1 ∧ k.ends = [false] := by
  obtain ⟨P, on, s, F, N, A, rfl, hN, rfl⟩ := h
  have hno : ∀ l, l < 3 → on s l = none := by
    intro l hl
    cases hc : on s l with
    | none => rfl
    | some b =>
      obtain ⟨u, hu⟩ := A.live s A.p0 l b hl hc
      have h2 := A.go s A.p0 ⟨l, hl⟩ b hc u
      rw [hu] at h2
      rw [hf (⟨l, hl⟩ :: u)] at h2
      cases h2
  have h1 : (bfsTo on s 1).1 = [s] := by
    have : bfsTo on s 1 = bfsL on s ([s], []) 3 := rfl
    rw [this]
    simp only [bfsL, hno 0 (by omega), hno 1 (by omega), hno 2 (by omega), bfs1_none]
  have hN1 : N = 1 := bfsTo_one hN (by rw [h1]; rfl)
  subst hN1
  refine ⟨rfl, ?_⟩
  show (bfsTo on s 1).1.map (fun x => F x []) = [false]
  rw [h1, List.map_cons, List.map_nil, hf []]
theorem IsLm.one_state {f : List (Fin 3) → Bool} {k : M} (h : IsLm f k) (h1 : k.st = 1) (h2 : k.ends = [false]) (u : List (Fin 3)) : f u = false := by
  rw [← h.lang]
  cases hu : k.lang 0 u with
  | false => rfl
  | true =>
    exfalso
    have key : ∀ u : List (Fin 3), ∀ s : Int, (s = 0 ∨ s = -1) → k.lang s u = false := by
      intro u
      induction u with
      | nil =>
        rintro s (rfl | rfl)
        · rw [M.lang_nil, M.endAt, if_neg (by omega), h2]; rfl
        · exact M.lang_neg k []
      | cons l u ih =>
        rintro s (rfl | rfl)
        · rw [M.lang_cons]
          have hg := h.good (by omega)
          have hb := M.gnx_bd hg 0 (l.val : Int) (by omega) (by omega) (by have := l.isLt; omega)
          exact ih _ (by omega)
        · exact M.lang_neg k _
    rw [key u 0 (.inl rfl)] at hu; cases hu
end Go.Proofs.Ytdgpemjbaciiaaa

namespace Go.Proofs.Ytdgpemjbaciiaaa
open Go.RowKit Go.Maps

theorem rdnS_cut : ∀ l, l < 3 → ((⟨#[114, 100, 110]⟩ : ByteArray).extract l (l + 1)).data.toList = [byteOf l]
  | 0, _ => by kernel_rfl
  | 1, _ => by kernel_rfl
  | 2, _ => by kernel_rfl
theorem rdnS_at (l : Nat) (hl : l < 3) (w : World) : (Instr.slice 9 (.string ⟨#[114, 100, 110]⟩) (some (.int .i64 (l : Int))) (some (.int .i64 ((l : Int) + 1))) none).run Try.prog w = .ok (.string (letS l)) w := by
  have hs : (⟨#[114, 100, 110]⟩ : ByteArray).size = 3 := by kernel_rfl
  have h := slice_one ⟨#[114, 100, 110]⟩ l (by omega) w
  have e : (⟨#[114, 100, 110]⟩ : ByteArray).extract l (l + 1) = letS l := bytes_ext (rdnS_cut l hl)
  rw [e] at h; exact h
theorem cell_newS (w : World) (u : Value) (t : TypeId) : ∀ j x, [u][j]? = some x → (w.alloc (.cells #[u] t)).cell? ((⟨w.heap.size, 0, none⟩ : Addr).add j) = some x := by
  intro j x hx
  rw [show (⟨w.heap.size, 0, none⟩ : Addr).add j = ⟨w.heap.size, j, none⟩ by unfold Addr.add; split <;> simp_all, World.cell?_alloc_new]
  simpa using hx
theorem infoStrS : (Try.prog.info? 9).map (fun i => (i.zero, i.size, i.bytes)) = some (some (.string ⟨#[]⟩), 1, 16) := by kernel_rfl
theorem infoBoolS : (Try.prog.info? 4).map (fun i => (i.zero, i.size, i.bytes)) = some (some (.bool false), 1, 1) := by kernel_rfl
/-- what lies in memory while the word is searched: which states are come to, and the queue of words -/
structure ShF (wB : World) (N gc : Nat) (bs : List Bool) (q : List SW) (qv : Value) (w : World) : Prop where
  keep : Below wB.heap.size wB w
  ap : Apart wB.heap.size [rowT 4 1 (.slice (some ⟨gc, 0, none⟩) N N) N (bs.map Value.bool), rowT 9 1 qv q.length (q.map fun x => Value.string x.2)] w
section
variable {wB : World} {N gc : Nat} {bs : List Bool} {q : List SW} {qv : Value} {w w' : World}
theorem ShF.size (h : ShF wB N gc bs q qv w) : wB.heap.size ≤ w.heap.size := h.keep.size
theorem ShF.below (h : ShF wB N gc bs q qv w) (hb : Below w.heap.size w w') : ShF wB N gc bs q qv w' := ⟨h.keep.trans (hb.mono h.size), h.ap.below hb⟩
theorem ShF.same (h : ShF wB N gc bs q qv w) (hg : w.grownBy w' none) : ShF wB N gc bs q qv w' := ⟨h.keep.grown hg h.size (fun _ e => by cases e), h.ap.same hg⟩
theorem ShF.rowC (h : ShF wB N gc bs q qv w) : w.ownsRow 0 4 1 (.slice (some ⟨gc, 0, none⟩) N N) N (bs.map Value.bool) := h.ap.at 0 (by simp)
theorem ShF.rowQ (h : ShF wB N gc bs q qv w) : w.ownsRow 0 9 1 qv q.length (q.map fun x => Value.string x.2) := h.ap.at 1 (by simp)
theorem ShF.set (h : ShF wB N gc bs q qv w) (s : Nat) : ShF wB N gc (bs.set s true) q qv (w.setCell ⟨gc, s, none⟩ (.bool true)) := by
  have h1 := (h.ap.lt gc rfl).1
  have h2 := h.ap.setRow h.size s (.bool true)
  rw [← List.map_set] at h2
  exact ⟨h.keep.setCell (p := ⟨gc, s, none⟩) h1 _, h2⟩
theorem ShF.push {x : SW} {t : TypeId} {g cp : Nat} {w1 : World} (h : ShF wB N gc bs q qv w) (hg : (w.alloc (.cells #[.string x.2] t)).grownBy w1 qv.ownBlock)
    (ho : w1.ownsRow 0 9 1 (.slice (some ⟨g, 0, none⟩) (q.length + 1) cp) (q.length + 1) ((q.map fun x => Value.string x.2) ++ [.string x.2])) (hat : qv.ownBlock = some g ∨ g = (w.alloc (.cells #[.string x.2] t)).heap.size) :
    ShF wB N gc bs (q ++ [x]) (.slice (some ⟨g, 0, none⟩) (q.length + 1) cp) w1 := by
  have h1 := h.same (World.grownBy_alloc w (.cells #[.string x.2] t) none)
  have hlt := h1.ap.ltAt 1 (by simp)
  have a1 := h1.ap.turnAt 1 (by simp) hg (rowT 9 1 (.slice (some ⟨g, 0, none⟩) (q.length + 1) cp) (q ++ [x]).length ((q ++ [x]).map fun x => Value.string x.2))
    (by show w1.ownsRow 0 _ _ _ _ _; rw [List.length_append, List.map_append]; exact ho) h1.size
    (fun j e => ⟨by cases e; exact hat.imp id (fun e => Nat.le_of_eq e.symm), (World.ownsRow.lt ho j e).2⟩)
  exact ⟨h1.keep.grown hg h1.size (fun j e => (hlt j e).1), a1⟩
theorem ShF.word {gq cp : Nat} (h : ShF wB N gc bs q (.slice (some ⟨gq, 0, none⟩) q.length cp) w) (k : Nat) (hk : k < q.length) : w.cell? ⟨gq, k, none⟩ = some (.string q[k].2) := by
  rw [h.rowQ.cellAt k (by omega)]; simp [hk]
theorem ShF.comeC (h : ShF wB N gc bs q qv w) (s : Nat) (hs : s < bs.length) (hN : bs.length = N) : w.cell? ⟨gc, s, none⟩ = some (.bool bs[s]) := by
  rw [h.rowC.cellAt s (by omega)]; simp [hs]
theorem ShF.froz (h : ShF wB N gc bs q qv w) (s : Nat) : w.frozen? ⟨gc, s, none⟩ = false := h.rowC.frozenAt s
end
/-- the two rows just made -/
theorem ShF.start {wB w1 w3 : World} {N : Nat} (hK : Below wB.heap.size wB w1) (hg : (w1.alloc (.cells #[.string ⟨#[]⟩] 9)).grownBy w3 none)
    (ho : w3.ownsRow (w1.heap.size + 1) 4 1 (.slice (some ⟨w1.heap.size + 1, 0, none⟩) N N) N (madeCells (Value.bool false).cells (N * 1)).toList) :
    ShF wB N (w1.heap.size + 1) (List.replicate N false) [(0, ⟨#[]⟩)] (.slice (some ⟨w1.heap.size, 0, none⟩) 1 1) w3 := by
  have e : (madeCells (Value.bool false).cells (N * 1)).toList = (List.replicate N false).map Value.bool := by
    rw [Nat.mul_one, List.map_replicate]; exact toList_madeCells_one _ _
  rw [e] at ho
  have hs := hK.size
  have A1 : Apart wB.heap.size [rowT 9 1 (.slice (some ⟨w1.heap.size, 0, none⟩) 1 1) 1 [Value.string ⟨#[]⟩]] (w1.alloc (.cells #[.string ⟨#[]⟩] 9)) :=
    (Apart.nil wB.heap.size w1).more (World.grownBy_alloc w1 _ none) _ (World.ownsRow_lit (base := 0) w1 #[.string ⟨#[]⟩] 1 (Nat.zero_le _) (by decide) (by simp)) hs (fun k e => by
      have : k = w1.heap.size := by simpa [rowT, Value.ownBlock] using e.symm
      subst this; exact ⟨Nat.le_refl _, by simp⟩)
  have A2 := A1.more hg (rowT 4 1 (.slice (some ⟨w1.heap.size + 1, 0, none⟩) N N) N ((List.replicate N false).map Value.bool)) (ownsRow_base ho (fun _ _ => Nat.zero_le _)) (by rw [World.size_alloc]; omega) (fun k e => by
      have hk : k = w1.heap.size + 1 := by simpa [rowT, Value.ownBlock] using e.symm
      subst hk
      exact ⟨by simp, (World.ownsRow.lt ho _ rfl).2⟩)
  refine ⟨?_, A2⟩
  have hal : Below wB.heap.size wB (w1.alloc (.cells #[.string ⟨#[]⟩] 9)) := hK.alloc hs _
  exact hal.grown hg (by rw [World.size_alloc]; omega) (fun _ e => by cases e)
def comeL (N : Nat) (q : List SW) : List Bool := (List.range N).map fun (s : Nat) => decide ((s : Int) ∈ q.map Prod.fst)
theorem comeL_length (N : Nat) (q : List SW) : (comeL N q).length = N := by simp [comeL]
theorem comeL_at {N : Nat} (q : List SW) {s : Nat} (h : s < N) : (comeL N q)[s]'(by rw [comeL_length]; exact h) = decide ((s : Int) ∈ q.map Prod.fst) := by simp [comeL]
theorem comeL_set (N : Nat) (q : List SW) (s : Nat) (x : ByteArray) : (comeL N q).set s true = comeL N (q ++ [((s : Int), x)]) := by
  apply List.ext_getElem
  · simp [comeL_length]
  · intro i h1 h2
    rw [comeL_length] at h2
    rw [List.getElem_set, comeL_at _ h2]
    by_cases e : s = i
    · subst e; rw [if_pos rfl, comeL_at _ h2]; simp
    · rw [if_neg e, comeL_at _ h2]
      have : ¬ ((i : Int) = (s : Int)) := by omega
      simp [this]
theorem comeL_zero (N : Nat) : (List.replicate N false).set 0 true = comeL N [(0, ⟨#[]⟩)] := by
  have := comeL_set N [] 0 ⟨#[]⟩
  rw [List.nil_append] at this
  rw [← show comeL N [] = List.replicate N false from by
    apply List.ext_getElem
    · simp [comeL_length]
    · intro i h1 h2; rw [comeL_length] at h1; rw [comeL_at _ h1]; simp]
  exact this

set_option maxHeartbeats 6400000 in
set_option maxRecDepth 100000 in
theorem implShort_any (N : Nat) (xs : List Int) (es : List Bool) (nv ev : Value) (w : World) (h1 : IsInts w nv xs) (h2 : IsBools w ev es) (hok : (M.mk N xs es).ok = true) :
    Calls Try.prog 33 #[.agg #[.int .i64 (N : Int), nv, ev]] w
      fun e w' => (∃ r : Option ByteArray, IsShort ⟨N, xs, es⟩ r ∧ e = .returned (.tuple #[.string (r.getD ⟨#[]⟩), .bool r.isSome])) ∧ Below w.heap.size w w' := by
  obtain ⟨s0, s1, s2, s3⟩ := M.ok_shape hok
  simp only at s0 s1 s2 s3
  have hst : (Lit.int .i64 (N : Int)).wf = true := WalkArith.wf_i64 (by show _ ∧ _; omega)
  have HOK : Hid (∀ W, IsInts W nv xs → IsBools W ev es → Calls Try.prog 44 #[.agg #[.int .i64 (N : Int), nv, ev]] W fun e w' => e = .returned (.bool true) ∧ Below W.heap.size W w') := Lib.hid (fun W a b => by
    have := implMachineOk_any ⟨N, xs, es⟩ nv ev W a b hst
    rwa [hok] at this)
  have H1 := Lib.hid h1
  have H2 := Lib.hid h2
  obtain ⟨a1, n1, c1, rfl⟩ := h1.slice
  obtain ⟨a2, n2, c2, rfl⟩ := h2.slice
  obtain ⟨i0, hi, hz0, hz1, hz2⟩ := info_parts infoBoolS
  have hsz : i0.bytes * N ≤ 281474976710656 := by rw [hz2]; omega
  have HI := Lib.hid hi
  have HZ0 := Lib.hid hz0
  have HZ1 := Lib.hid hz1
  have HSZ := Lib.hid hsz
  obtain ⟨j0, hj, hy0, hy1, hy2⟩ := info_parts infoStrS
  have HJ := Lib.hid (And.intro hj (And.intro hy0 (And.intro hy1 hy2)))
  clear hj hy0 hy1 hy2
  have HS2 := Lib.hid s2
  have HS3 := Lib.hid s3
  clear h1 h2 hi hz0 hz1 hz2 hsz s2 s3
  have hB := MachBox.new (st := (N : Int)) 27 H1.out H2.out
  have q0 := Lib.hid ((Below.refl w.heap.size w).alloc (Nat.le_refl _) (.cells #[.int .i64 (N : Int), .slice a1 n1 c1, .slice a2 n2 c2] 27))
  have hse : (w.alloc (.cells #[.int .i64 (N : Int), .slice a1 n1 c1, .slice a2 n2 c2] 27)).heap.size = w.heap.size + 1 := by simp
  have HSE := Lib.hid hse
  have MB := Lib.hid hB
  clear hB hse
  go_enter Try.func33, Try.ntmps33
  go_wp2_with fail
  generalize hWB : w.alloc (.cells #[.int .i64 (N : Int), .slice a1 n1 c1, .slice a2 n2 c2] 27) = wB at *
  clear hWB
  refine (HOK.out _ MB.out.ints MB.out.bools).mono ?_
  rintro e w1 ⟨rfl, hb1⟩
  have hal : Below w1.heap.size w1 (w1.alloc (.cells #[.string ⟨#[]⟩] 9)) := (Below.refl _ _).alloc (Nat.le_refl _) _
  have M1 := Lib.hid ((MB.out.below hb1).below hal)
  have K1 := Lib.hid hb1
  have K2 := Lib.hid (hb1.trans (hal.mono hb1.size))
  clear hb1 hal
  have y0 := M1.out.c0
  have hm : N ≤ maxLen := by unfold maxLen; omega
  have hb4 : w1.heap.size + 1 ≤ (w1.alloc (.cells #[.string ⟨#[]⟩] 9)).heap.size := by simp
  have HM := Lib.hid hm
  have HB4 := Lib.hid hb4
  have HN0 := Lib.hid (show 0 < N by omega)
  clear hm hb4
  go_wp2_with (at_make; refine wpList_make_full _ rfl _ _ 23 rfl (w1.heap.size + 1) 4 i0 (.bool false) 1 Try.underlying23 HI.out HZ0.out HZ1.out .i64 .i64 _ _ N rfl rfl rfl rfl HSZ.out HM.out HB4.out ?_; intro w3 hown3 hgrow3; rw [World.size_alloc] at hown3; have F0 := Lib.hid (ShF.start K1.out hgrow3 hown3); clear hown3 hgrow3; have x0 := F0.out.comeC 0 (by rw [List.length_replicate]; exact HN0.out) List.length_replicate; have f0 := F0.out.froz 0)
  have F1 := Lib.hid (F0.out.set 0)
  rw [comeL_zero] at F1
  clear x0 f0 F0 y0 M1 K1 K2
  have HTO := Lib.hid (Sh.to hok)
  have HTK : Hid (∀ (W : World) (n : Nat) (hn : n < (shTo ⟨N, xs, es⟩ n).length), IsInts W (.slice a1 n1 c1) xs → IsBools W (.slice a2 n2 c2) es → Calls Try.prog 35 #[.agg #[.int .i64 (N : Int), .slice a1 n1 c1, .slice a2 n2 c2], .string (shTo ⟨N, xs, es⟩ n)[n].2] W fun e w' => e = .returned (.bool ((M.mk N xs es).endAt (shTo ⟨N, xs, es⟩ n)[n].1)) ∧ Below W.heap.size W w') := Lib.hid (fun W n hn hi hb => by
    have hx := (Sh.to hok n).all _ (List.getElem_mem hn)
    have h14 : (shTo ⟨N, xs, es⟩ n)[n].2.size ≤ 14 := by have := hx.ok; simp only [wordOk, Bool.and_eq_true, decide_eq_true_eq] at this; exact this.2
    have := implTakesOk_any ⟨N, xs, es⟩ (shTo ⟨N, xs, es⟩ n)[n].2 _ _ W hi hb hst (by unfold maxLen; omega)
    rwa [M.takes, M.after_yes hok hx.ok, hx.go] at this)
  go_loopw [4, 6] (fun qv i wr => ∃ (n gq cp : Nat), i = .int .i64 (n : Int) ∧ qv = .slice (some ⟨gq, 0, none⟩) (shTo ⟨N, xs, es⟩ n).length cp ∧ n ≤ (shTo ⟨N, xs, es⟩ n).length ∧ ShF wB N (w1.heap.size + 1) (comeL N (shTo ⟨N, xs, es⟩ n)) (shTo ⟨N, xs, es⟩ n) (.slice (some ⟨gq, 0, none⟩) (shTo ⟨N, xs, es⟩ n).length cp) wr ∧ ∀ j, j < n → j < (shTo ⟨N, xs, es⟩ j).length ∧ hitAt ⟨N, xs, es⟩ j = none) (fun _ i _ => 48 - (intOf i).toNat)
  case atStart => exact ⟨0, w1.heap.size, 1, rfl, rfl, Nat.zero_le _, F1.out, fun j h => absurd h (Nat.not_lt_zero j)⟩
  case round =>
    obtain ⟨n, gq, cp, rfl, rfl, hn, hF, hno⟩ := hrel
    have hq48 := (HTO.out n).len hok
    have HNO := Lib.hid hno
    have FF := Lib.hid hF
    clear hno hF
    by_cases hlt : n < (shTo ⟨N, xs, es⟩ n).length
    · have hword := FF.out.word n hlt
      have MM := Lib.hid (MB.out.below FF.out.keep)
      have m0 := MM.out.c0
      have m1 := MM.out.c1
      have m2 := MM.out.c2
      have HTN := Lib.hid (fun W => HTK.out W n hlt)
      have HSTEP := Lib.hid (shTo_step hlt)
      have HX := Lib.hid ((HTO.out n).all _ (List.getElem_mem hlt))
      generalize hxx : (shTo ⟨N, xs, es⟩ n)[n] = x at *
      have HXX := Lib.hid hxx
      clear hxx
      obtain ⟨xs1, xw⟩ := x
      simp only at hword HTN
      have HYES : Hid ((M.mk N xs es).endAt xs1 = true → hitAt ⟨N, xs, es⟩ n = some xw) := Lib.hid (fun h => by
        have := hitAt_yes hlt (by rw [HXX.out]; exact h)
        rw [HXX.out] at this; exact this)
      have HNOT : Hid ((M.mk N xs es).endAt xs1 = false → hitAt ⟨N, xs, es⟩ n = none) := Lib.hid (fun h => hitAt_no hlt (by rw [HXX.out]; exact h))
      generalize hee : (M.mk N xs es).endAt xs1 = ee at *
      have HEE := Lib.hid hee
      clear hee
      go_wp2_with fail
      go_region_with (go_at_call 35; refine (HTN.out _ (MM.out.ints.below (Below.refl _ _).drew) (MM.out.bools.below (Below.refl _ _).drew)).mono ?_; rintro e w4 ⟨rfl, hb4⟩)
      all_goals
        have F4 := Lib.hid ((FF.out.same (grown_drew _ none)).below hb4)
        have Q4 := Lib.hid (q0.out.trans (F4.out.keep.mono q0.out.size))
        clear m0 m1 m2 hword hb4
        have hword : w4.cell? ⟨gq, n, none⟩ = some (.string xw) := by have := F4.out.word n hlt; rw [HXX.out] at this; exact this
        cases ee with
        | true =>
          go_wp2_with fail
          go_ret2
          exact ⟨⟨some xw, ⟨n, HNO.out, .inl ⟨xw, HYES.out (by trivial), rfl⟩⟩, rfl⟩, Q4.out⟩
        | false =>
          clear hword
          go_wp2_with fail
          go_loopw [4, 35] (fun qv i wr2 => ∃ (l g2 cp2 : Nat), l ≤ 3 ∧ i = .int .i64 (l : Int) ∧ qv = .slice (some ⟨g2, 0, none⟩) (shL (M.mk N xs es) (xs1, xw) (shTo (M.mk N xs es) n) l).length cp2 ∧ ShF wB N (w1.heap.size + 1) (comeL N (shL (M.mk N xs es) (xs1, xw) (shTo (M.mk N xs es) n) l)) (shL (M.mk N xs es) (xs1, xw) (shTo (M.mk N xs es) n) l) (.slice (some ⟨g2, 0, none⟩) (shL (M.mk N xs es) (xs1, xw) (shTo (M.mk N xs es) n) l).length cp2) wr2) (fun _ i _ => 3 - (intOf i).toNat)
          case atStart => exact ⟨0, gq, cp, by omega, rfl, rfl, F4.out⟩
          case round =>
            obtain ⟨l, g2, cp2, hl, rfl, rfl, hF2⟩ := hrel
            have F6 := Lib.hid hF2
            clear hF2
            by_cases hl3 : l < 3
            · have SHL := Lib.hid ((HTO.out n).many hok HX.out l hl)
              have hq6 := SHL.out.len hok
              have hpre := shL_prefix (M.mk N xs es) (xs1, xw) (shTo (M.mk N xs es) n) l
              have hn6 : n < (shL (M.mk N xs es) (xs1, xw) (shTo (M.mk N xs es) n) l).length := Nat.lt_of_lt_of_le hlt hpre.length_le
              have hx6 : (shL (M.mk N xs es) (xs1, xw) (shTo (M.mk N xs es) n) l)[n] = (xs1, xw) := by rw [← hpre.getElem hlt]; exact HXX.out
              have hword : wr.cell? ⟨g2, n, none⟩ = some (.string xw) := by have := F6.out.word n hn6; rw [hx6] at this; exact this
              have HST : Hid (shL (M.mk N xs es) (xs1, xw) (shTo (M.mk N xs es) n) (l + 1) = sh1 (M.mk N xs es) (xs1, xw) (shL (M.mk N xs es) (xs1, xw) (shTo (M.mk N xs es) n) l) l) := Lib.hid rfl
              have h14 : xw.size ≤ 14 := by have := HX.out.ok; simp only [wordOk, Bool.and_eq_true, decide_eq_true_eq] at this; exact this.2
              have hls : (letS l).size = 1 := rfl
              have hva : (xw.size < 14 → (M.mk N xs es).after (xw ++ letS l) = (M.mk N xs es).nx xs1 l) ∧ (¬ xw.size < 14 → (M.mk N xs es).after (xw ++ letS l) = -2) :=
                ⟨fun h => by rw [M.after_yes hok (wordOk_more HX.out.ok h l hl3), goes_more _ _ l hl3, HX.out.go], fun h => M.after_now _ (wordOk_full h l)⟩
              have HSA : Hid (∀ W, IsInts W (.slice a1 n1 c1) xs → IsBools W (.slice a2 n2 c2) es → Calls Try.prog 78 #[.agg #[.int .i64 (N : Int), .slice a1 n1 c1, .slice a2 n2 c2], .string (xw ++ letS l)] W fun e w' => e = .returned (.int .i64 ((M.mk N xs es).after (xw ++ letS l))) ∧ Below W.heap.size W w') := Lib.hid (fun W a b => implStateAfter_any (M.mk N xs es) (xw ++ letS l) _ _ W a b hst (by unfold maxLen; rw [ByteArray.size_append]; omega))
              generalize (M.mk N xs es).after (xw ++ letS l) = v at *
              have HV := Lib.hid hva
              have hsl := fun W => rdnS_at l hl3 W
              have hwr : IntKind.i64.wrap ((l : Int) + 1) = (l : Int) + 1 := IntWalk.i64_in _ (by omega)
              clear hva hpre hx6
              generalize shL (M.mk N xs es) (xs1, xw) (shTo (M.mk N xs es) n) l = q at *
              have MM6 := Lib.hid (MB.out.below F6.out.keep)
              have m0 := MM6.out.c0
              have m1 := MM6.out.c1
              have m2 := MM6.out.c2
              go_wp2_with fail
              go_quiet (fail)
              go_wp2_with fail
              refine (HSA.out _ (MM6.out.ints.below (below_drewN (Below.refl _ _) _)) (MM6.out.bools.below (below_drewN (Below.refl _ _) _))).mono ?_
              rintro e w5 ⟨rfl, hb5⟩
              have F7 := Lib.hid ((F6.out.same (grown_drewN _ _ none)).below hb5)
              clear m0 m1 m2 hword hsl hb5
              by_cases hv : v < 0
              · have hs1 : sh1 (M.mk N xs es) (xs1, xw) q l = q := by
                  unfold sh1
                  rw [if_neg]
                  rintro ⟨d1, d2, -⟩
                  have := HV.out.1 d1
                  simp only at d1 d2
                  omega
                have HS1 := Lib.hid hs1
                clear hs1
                go_wp2_with fail
                go_roundw
                case rel => exact ⟨l + 1, g2, cp2, by omega, by go_num, by rw [HST.out, HS1.out], by rw [HST.out, HS1.out]; exact F7.out⟩
                case measure => simp [intOf]; omega
              · obtain ⟨k, rfl⟩ := Int.eq_ofNat_of_zero_le (show 0 ≤ v by omega)
                have hsz : xw.size < 14 := by
                  rcases Nat.lt_or_ge xw.size 14 with h | h
                  · exact h
                  · have := HV.out.2 (by omega); omega
                have hnx : (M.mk N xs es).nx xs1 l = (k : Int) := (HV.out.1 hsz).symm
                have hkN : k < N := by
                  have := (M.nx_bd hok xs1 l HX.out.s1 (by omega) (by omega)).2
                  rw [hnx] at this
                  simp only at this
                  omega
                have HNX := Lib.hid hnx
                clear hnx hv
                have hcc := F7.out.comeC k (by rw [comeL_length]; exact hkN) (comeL_length N q)
                rw [comeL_at q hkN] at hcc
                by_cases hin : (k : Int) ∈ q.map Prod.fst
                · have hs1 : sh1 (M.mk N xs es) (xs1, xw) q l = q := by
                    unfold sh1
                    rw [if_neg]
                    rintro ⟨-, -, d3⟩
                    simp only at d3
                    rw [HNX.out] at d3
                    exact d3 hin
                  have HS1 := Lib.hid hs1
                  rw [decide_eq_true hin] at hcc
                  clear hs1 hin
                  go_wp2_with fail
                  go_roundw
                  case rel => exact ⟨l + 1, g2, cp2, by omega, by go_num, by rw [HST.out, HS1.out], by rw [HST.out, HS1.out]; exact F7.out⟩
                  case measure => simp [intOf]; omega
                · have hs1 : sh1 (M.mk N xs es) (xs1, xw) q l = q ++ [((k : Int), xw ++ letS l)] := by
                    unfold sh1
                    simp only
                    rw [if_pos ⟨hsz, by rw [HNX.out]; omega, by rw [HNX.out]; exact hin⟩, HNX.out]
                  have HS1 := Lib.hid hs1
                  rw [decide_eq_false hin] at hcc
                  have ff := F7.out.froz k
                  have F8 := Lib.hid (F7.out.set k)
                  rw [comeL_set N q k (xw ++ letS l)] at F8
                  have hnews : ∀ j u, [Value.string (xw ++ letS l)][j]? = some u → ((w5.setCell ⟨w1.heap.size + 1, k, none⟩ (.bool true)).alloc (.cells #[.string (xw ++ letS l)] 9)).cell? ((⟨w5.heap.size, 0, none⟩ : Addr).add j) = some u := by
                    have := cell_newS (w5.setCell ⟨w1.heap.size + 1, k, none⟩ (.bool true)) (.string (xw ++ letS l)) 9
                    simpa using this
                  have HNEWS := Lib.hid hnews
                  have HA1 := Lib.hid (show q.length + 1 ≤ maxLen by unfold maxLen; omega)
                  have HA2 := Lib.hid (show (q.length + 1) * 16 ≤ 140737488355328 by omega)
                  clear hs1 hin hnews
                  go_wp2_with (at_builtin; refine wpList_append_lies _ rfl _ _ 69 rfl 0 9 j0 (.string ⟨#[]⟩) 1 16 Try.underlying69 HJ.out.1 HJ.out.2.1 HJ.out.2.2.1 HJ.out.2.2.2 rfl (by decide) (.slice (some ⟨g2, 0, none⟩) q.length cp2) q.length (q.map fun x => Value.string x.2) rfl (F8.out.rowQ.alloc _) ⟨w5.heap.size, 0, none⟩ 1 1 [.string (xw ++ letS l)] rfl rfl HNEWS.out (by simp [Value.oneCell']) (by omega) HA1.out HA2.out (Nat.zero_le _) _ rfl ?_; intro g3 cp3 w6 hown hgrow hat hlt3; have F9 := Lib.hid (F8.out.push (x := ((k : Int), xw ++ letS l)) hgrow hown hat); clear hown hgrow hat hlt3)
                  go_roundw
                  case rel => exact ⟨l + 1, g3, cp3, by omega, by go_num, by rw [HST.out, HS1.out, List.length_append]; rfl, by rw [HST.out, HS1.out, List.length_append]; exact F9.out⟩
                  case measure => simp [intOf]; omega
            · obtain rfl : l = 3 := by omega
              have Q6 := Lib.hid (q0.out.trans (F6.out.keep.mono q0.out.size))
              have hn7 : n + 1 ≤ (shL (M.mk N xs es) (xs1, xw) (shTo (M.mk N xs es) n) 3).length := Nat.lt_of_lt_of_le hlt (shL_prefix (M.mk N xs es) (xs1, xw) (shTo (M.mk N xs es) n) 3).length_le
              have HN7 := Lib.hid hn7
              clear hn7
              go_wp2_with fail
              go_roundw
              case rel => exact ⟨n + 1, g2, cp2, by go_num, by rw [HSTEP.out], by rw [HSTEP.out]; exact HN7.out, by rw [HSTEP.out]; exact F6.out, fun j hj => by
                rcases Nat.lt_or_ge j n with h | h
                · exact HNO.out j h
                · obtain rfl : j = n := by omega
                  exact ⟨hlt, HNOT.out (by trivial)⟩⟩
              case measure => simp [intOf]; omega
    · obtain hn2 : n = (shTo (M.mk N xs es) n).length := by omega
      have hd : decide ((n : Int) < ((shTo (M.mk N xs es) n).length : Int)) = false := decide_eq_false (by omega)
      have Q4 := Lib.hid (q0.out.trans (FF.out.keep.mono q0.out.size))
      have HLE := Lib.hid (Nat.le_of_eq hn2.symm)
      clear hn2
      go_wp2_with fail
      go_ret2
      exact ⟨⟨none, ⟨n, HNO.out, .inr ⟨HLE.out, rfl⟩⟩, rfl⟩, Q4.out⟩
end Go.Proofs.Ytdgpemjbaciiaaa

namespace Go.Proofs.Ytdgpemjbaciiaaa
open Go.RowKit Go.Maps

def numsOf (q : List SW) : List Value := q.map fun x => Value.int .i64 x.1
def textsOf (q : List SW) : List Value := q.map fun x => Value.string x.2
theorem numsOf_at {q : List SW} {k : Nat} (h : k < q.length) : (numsOf q)[k]? = some (.int .i64 q[k].1) := by simp [numsOf, h]
theorem textsOf_at {q : List SW} {k : Nat} (h : k < q.length) : (textsOf q)[k]? = some (.string q[k].2) := by simp [textsOf, h]
theorem numsOf_more (q : List SW) (x : SW) : numsOf (q ++ [x]) = numsOf q ++ [.int .i64 x.1] := by simp [numsOf]
theorem textsOf_more (q : List SW) (x : SW) : textsOf (q ++ [x]) = textsOf q ++ [.string x.2] := by simp [textsOf]
theorem shL_full (m : M) (x : SW) (q : List SW) (h : ¬ x.2.size < 14) : ∀ l, shL m x q l = q
  | 0 => rfl
  | l + 1 => by rw [shL, shL_full m x q h l, sh1, if_neg (fun h2 => h h2.1)]
/-- whether a state is among the first ones of the queue -/
def seenTo (q : List SW) (u : Int) (k : Nat) : Bool := (q.take k).any fun x => x.1 == u
theorem seenTo_zero (q : List SW) (u : Int) : seenTo q u 0 = false := rfl
theorem seenTo_succ {q : List SW} (u : Int) {k : Nat} (h : k < q.length) : seenTo q u (k + 1) = (seenTo q u k || (q[k].1 == u)) := by
  rw [seenTo, seenTo, List.take_add_one, List.any_append]
  congr 1
  simp [h]
theorem seenTo_mono {q : List SW} {u : Int} {k : Nat} (h : seenTo q u k = true) : seenTo q u q.length = true := by
  simp only [seenTo, List.any_eq_true] at h ⊢
  obtain ⟨x, hx, he⟩ := h
  exact ⟨x, by rw [List.take_length]; exact List.mem_of_mem_take hx, he⟩
theorem seenTo_all (q : List SW) (u : Int) : seenTo q u q.length = decide (u ∈ q.map Prod.fst) := by
  rw [seenTo, List.take_length]
  by_cases h : u ∈ q.map Prod.fst
  · rw [decide_eq_true h]
    obtain ⟨x, hx, he⟩ := List.mem_map.1 h
    exact List.any_eq_true.2 ⟨x, hx, by simpa using he⟩
  · rw [decide_eq_false h]
    cases hq : q.any fun x => x.1 == u with
    | false => rfl
    | true =>
      obtain ⟨x, hx, he⟩ := List.any_eq_true.1 hq
      exact absurd (List.mem_map.2 ⟨x, hx, by simpa using he⟩) h
/-- what lies in memory while the word is searched by the model: the states and the words of the queue -/
structure ShS (wB : World) (ns : Nat) (vs : List Value) (sv : Value) (nw : Nat) (us : List Value) (qv : Value) (w : World) : Prop where
  keep : Below wB.heap.size wB w
  ap : Apart wB.heap.size [rowT 3 1 sv ns vs, rowT 9 1 qv nw us] w
section
variable {wB : World} {ns nw : Nat} {vs us : List Value} {sv qv : Value} {w w' : World}
theorem ShS.size (h : ShS wB ns vs sv nw us qv w) : wB.heap.size ≤ w.heap.size := h.keep.size
theorem ShS.below (h : ShS wB ns vs sv nw us qv w) (hb : Below w.heap.size w w') : ShS wB ns vs sv nw us qv w' := ⟨h.keep.trans (hb.mono h.size), h.ap.below hb⟩
theorem ShS.same (h : ShS wB ns vs sv nw us qv w) (hg : w.grownBy w' none) : ShS wB ns vs sv nw us qv w' := ⟨h.keep.grown hg h.size (fun _ e => by cases e), h.ap.same hg⟩
theorem ShS.rowS (h : ShS wB ns vs sv nw us qv w) : w.ownsRow 0 3 1 sv ns vs := h.ap.at 0 (by simp)
theorem ShS.rowQ (h : ShS wB ns vs sv nw us qv w) : w.ownsRow 0 9 1 qv nw us := h.ap.at 1 (by simp)
theorem ShS.num {gs cs : Nat} (h : ShS wB ns vs (.slice (some ⟨gs, 0, none⟩) ns cs) nw us qv w) (k : Nat) (hk : k < ns) : w.cell? ⟨gs, k, none⟩ = vs[k]? := h.rowS.cellAt k (by omega)
theorem ShS.word {gq cq : Nat} (h : ShS wB ns vs sv nw us (.slice (some ⟨gq, 0, none⟩) nw cq) w) (k : Nat) (hk : k < nw) : w.cell? ⟨gq, k, none⟩ = us[k]? := h.rowQ.cellAt k (by omega)
theorem ShS.pushS {x : Int} {t : TypeId} {g cp : Nat} {w1 : World} (h : ShS wB ns vs sv nw us qv w) (hg : (w.alloc (.cells #[.int .i64 x] t)).grownBy w1 sv.ownBlock)
    (ho : w1.ownsRow 0 3 1 (.slice (some ⟨g, 0, none⟩) (ns + 1) cp) (ns + 1) (vs ++ [.int .i64 x])) (hat : sv.ownBlock = some g ∨ g = (w.alloc (.cells #[.int .i64 x] t)).heap.size) :
    ShS wB (ns + 1) (vs ++ [.int .i64 x]) (.slice (some ⟨g, 0, none⟩) (ns + 1) cp) nw us qv w1 := by
  have h1 := h.same (World.grownBy_alloc w (.cells #[.int .i64 x] t) none)
  have hlt := h1.ap.ltAt 0 (by simp)
  have a1 := h1.ap.turnAt 0 (by simp) hg (rowT 3 1 (.slice (some ⟨g, 0, none⟩) (ns + 1) cp) (ns + 1) (vs ++ [.int .i64 x]))
    (by show w1.ownsRow 0 _ _ _ _ _; exact ho) h1.size (fun j e => ⟨by cases e; exact hat.imp id (fun e => Nat.le_of_eq e.symm), (World.ownsRow.lt ho j e).2⟩)
  exact ⟨h1.keep.grown hg h1.size (fun j e => (hlt j e).1), a1⟩
theorem ShS.pushQ {x : ByteArray} {t : TypeId} {g cp : Nat} {w1 : World} (h : ShS wB ns vs sv nw us qv w) (hg : (w.alloc (.cells #[.string x] t)).grownBy w1 qv.ownBlock)
    (ho : w1.ownsRow 0 9 1 (.slice (some ⟨g, 0, none⟩) (nw + 1) cp) (nw + 1) (us ++ [.string x])) (hat : qv.ownBlock = some g ∨ g = (w.alloc (.cells #[.string x] t)).heap.size) :
    ShS wB ns vs sv (nw + 1) (us ++ [.string x]) (.slice (some ⟨g, 0, none⟩) (nw + 1) cp) w1 := by
  have h1 := h.same (World.grownBy_alloc w (.cells #[.string x] t) none)
  have hlt := h1.ap.ltAt 1 (by simp)
  have a1 := h1.ap.turnAt 1 (by simp) hg (rowT 9 1 (.slice (some ⟨g, 0, none⟩) (nw + 1) cp) (nw + 1) (us ++ [.string x]))
    (by show w1.ownsRow 0 _ _ _ _ _; exact ho) h1.size (fun j e => ⟨by cases e; exact hat.imp id (fun e => Nat.le_of_eq e.symm), (World.ownsRow.lt ho j e).2⟩)
  exact ⟨h1.keep.grown hg h1.size (fun j e => (hlt j e).1), a1⟩
end
theorem ShS.start {wB w1 : World} (hK : Below wB.heap.size wB w1) :
    ShS wB 1 (numsOf [(0, ⟨#[]⟩)]) (.slice (some ⟨w1.heap.size, 0, none⟩) 1 1) 1 (textsOf [(0, ⟨#[]⟩)]) (.slice (some ⟨w1.heap.size + 1, 0, none⟩) 1 1) ((w1.alloc (.cells #[.int .i64 0] 3)).alloc (.cells #[.string ⟨#[]⟩] 9)) := by
  have hs := hK.size
  have hA := World.ownsRow_lit (base := 0) (e := 3) (size := 1) w1 #[.int .i64 0] 1 (Nat.zero_le _) (by decide) (by simp)
  have hB := World.ownsRow_lit (base := 0) (e := 9) (size := 1) (w1.alloc (.cells #[.int .i64 0] 3)) #[.string ⟨#[]⟩] 1 (Nat.zero_le _) (by decide) (by simp)
  have A1 : Apart wB.heap.size [rowT 3 1 (.slice (some ⟨w1.heap.size, 0, none⟩) 1 1) 1 (numsOf [(0, ⟨#[]⟩)])] (w1.alloc (.cells #[.int .i64 0] 3)) :=
    (Apart.nil wB.heap.size w1).more (World.grownBy_alloc w1 _ none) _ hA hs (fun k e => by
      have : k = w1.heap.size := by simpa [rowT, Value.ownBlock] using e.symm
      subst this; exact ⟨Nat.le_refl _, by simp⟩)
  rw [World.size_alloc] at hB
  have A2 := A1.more (World.grownBy_alloc (w1.alloc (.cells #[.int .i64 0] 3)) (.cells #[.string ⟨#[]⟩] 9) none) (rowT 9 1 (.slice (some ⟨w1.heap.size + 1, 0, none⟩) 1 1) 1 (textsOf [(0, ⟨#[]⟩)])) hB (by rw [World.size_alloc]; omega) (fun k e => by
      have hk : k = w1.heap.size + 1 := by simpa [rowT, Value.ownBlock] using e.symm
      subst hk
      exact ⟨by simp, by simp⟩)
  exact ⟨(hK.alloc hs _).alloc (by rw [World.size_alloc]; omega) _, A2.perm (List.Perm.swap _ _ _)⟩

theorem infoIntS : (Try.prog.info? 3).map (fun i => (i.zero, i.size, i.bytes)) = some (some (.int .i64 0), 1, 8) := by kernel_rfl
set_option maxHeartbeats 6400000 in
set_option maxRecDepth 100000 in
theorem specShort_any (N : Nat) (xs : List Int) (es : List Bool) (nv ev : Value) (w : World) (h1 : IsInts w nv xs) (h2 : IsBools w ev es) (hok : (M.mk N xs es).ok = true) :
    Calls Try.prog 32 #[.agg #[.int .i64 (N : Int), nv, ev]] w
      fun e w' => (∃ r : Option ByteArray, IsShort ⟨N, xs, es⟩ r ∧ e = .returned (.tuple #[.string (r.getD ⟨#[]⟩), .bool r.isSome])) ∧ Below w.heap.size w w' := by
  obtain ⟨s0, s1, s2, s3⟩ := M.ok_shape hok
  simp only at s0 s1 s2 s3
  have hst : (Lit.int .i64 (N : Int)).wf = true := WalkArith.wf_i64 (by show _ ∧ _; omega)
  have HOK : Hid (∀ W, IsInts W nv xs → IsBools W ev es → Calls Try.prog 37 #[.agg #[.int .i64 (N : Int), nv, ev]] W fun e w' => e = .returned (.bool true) ∧ Below W.heap.size W w') := Lib.hid (fun W a b => by
    have := specMachineOk_any ⟨N, xs, es⟩ nv ev W a b hst
    rw [hok] at this
    exact this)
  have H1 := Lib.hid h1
  have H2 := Lib.hid h2
  obtain ⟨a1, n1, c1, rfl⟩ := h1.slice
  obtain ⟨a2, n2, c2, rfl⟩ := h2.slice
  have HS2 := Lib.hid s2
  have HS3 := Lib.hid s3
  clear h1 h2 s2 s3
  have hB := MachBox.new (st := (N : Int)) 27 H1.out H2.out
  have q0 := Lib.hid ((Below.refl w.heap.size w).alloc (Nat.le_refl _) (.cells #[.int .i64 (N : Int), .slice a1 n1 c1, .slice a2 n2 c2] 27))
  have MB := Lib.hid hB
  clear hB
  go_enter Try.func32, Try.ntmps32
  go_wp2_with fail
  generalize hWB : w.alloc (.cells #[.int .i64 (N : Int), .slice a1 n1 c1, .slice a2 n2 c2] 27) = wB at *
  clear hWB
  refine (HOK.out _ MB.out.ints MB.out.bools).mono ?_
  rintro e w1 ⟨rfl, hb1⟩
  have M1 := Lib.hid (MB.out.below hb1)
  have K1 := Lib.hid hb1
  clear hb1
  have F0 := Lib.hid (ShS.start K1.out)
  obtain ⟨j0, hj, hy0, hy1, hy2⟩ := info_parts infoStrS
  have HJ := Lib.hid (And.intro hj (And.intro hy0 (And.intro hy1 hy2)))
  obtain ⟨i0, hi, hz0, hz1, hz2⟩ := info_parts infoIntS
  have HI := Lib.hid (And.intro hi (And.intro hz0 (And.intro hz1 hz2)))
  clear hj hy0 hy1 hy2 hi hz0 hz1 hz2
  have HTO := Lib.hid (Sh.to hok)
  go_wp2_with fail
  go_loopw [4, 5, 6] (fun sv qv i wr => ∃ (n gs cs gq cq : Nat), i = .int .i64 (n : Int) ∧ sv = .slice (some ⟨gs, 0, none⟩) (shTo (M.mk N xs es) n).length cs ∧ qv = .slice (some ⟨gq, 0, none⟩) (shTo (M.mk N xs es) n).length cq ∧ n ≤ (shTo (M.mk N xs es) n).length ∧ ShS wB (shTo (M.mk N xs es) n).length (numsOf (shTo (M.mk N xs es) n)) (.slice (some ⟨gs, 0, none⟩) (shTo (M.mk N xs es) n).length cs) (shTo (M.mk N xs es) n).length (textsOf (shTo (M.mk N xs es) n)) (.slice (some ⟨gq, 0, none⟩) (shTo (M.mk N xs es) n).length cq) wr ∧ ∀ j, j < n → j < (shTo (M.mk N xs es) j).length ∧ hitAt (M.mk N xs es) j = none) (fun _ _ i _ => 48 - (intOf i).toNat)
  case atStart => exact ⟨0, w1.heap.size, 1, w1.heap.size + 1, 1, rfl, rfl, rfl, Nat.zero_le _, F0.out, fun j h => absurd h (Nat.not_lt_zero j)⟩
  case round =>
    obtain ⟨n, gs, cs, gq, cq, rfl, rfl, rfl, hn, hF, hno⟩ := hrel
    have hq48 := (HTO.out n).len hok
    have HNO := Lib.hid hno
    have FF := Lib.hid hF
    clear hno hF
    by_cases hlt : n < (shTo (M.mk N xs es) n).length
    · have hnum := (FF.out.num n hlt).trans (numsOf_at hlt)
      have hword := (FF.out.word n hlt).trans (textsOf_at hlt)
      have MM := Lib.hid (MB.out.below FF.out.keep)
      have m1 := MM.out.c1
      have m2 := MM.out.c2
      have HSTEP := Lib.hid (shTo_step hlt)
      have HX := Lib.hid ((HTO.out n).all _ (List.getElem_mem hlt))
      generalize hxx : (shTo (M.mk N xs es) n)[n] = x at *
      have HXX := Lib.hid hxx
      clear hxx
      obtain ⟨xs1, xw⟩ := x
      simp only at hnum hword
      obtain ⟨s, rfl⟩ := Int.eq_ofNat_of_zero_le HX.out.s0
      have hsN : s < N := by have := HX.out.s1; simp only at this; omega
      have HYES : Hid ((M.mk N xs es).endAt (s : Int) = true → hitAt (M.mk N xs es) n = some xw) := Lib.hid (fun h => by
        have := hitAt_yes hlt (by rw [HXX.out]; exact h)
        rw [HXX.out] at this; exact this)
      have HNOT : Hid ((M.mk N xs es).endAt (s : Int) = false → hitAt (M.mk N xs es) n = none) := Lib.hid (fun h => hitAt_no hlt (by rw [HXX.out]; exact h))
      have hsE : s < es.length := by have := HS3.out; omega
      obtain ⟨eA, eC, hev, ec1, ec2, hes⟩ := MM.out.bools
      simp only [Value.slice.injEq] at hev
      obtain ⟨rfl, rfl, rfl⟩ := hev
      obtain ⟨ge, oe, rfl, hge, hce⟩ := hes.resolve_left (fun h => by rw [h] at hsE; exact absurd hsE (Nat.not_lt_zero s))
      have hcell := hce s hsE
      have hend : (M.mk N xs es).endAt (s : Int) = es[s] := by
        obtain ⟨k, hk1, hk2, hk3⟩ := M.endAt_at hok (s : Int) (by omega) (by show (s : Int) < (N : Int); omega)
        obtain rfl : k = s := by omega
        exact hk3
      rw [hend] at HYES HNOT
      generalize es[s] = ee at *
      clear hge hce hes ec1 ec2
      go_wp2_with fail
      go_quiet (fail)
      have F4 := Lib.hid (FF.out.same (grown_drewN wr nq none))
      have Q4 := Lib.hid (q0.out.trans (F4.out.keep.mono q0.out.size))
      cases ee with
      | true =>
        go_wp2_with fail
        go_ret2
        exact ⟨⟨some xw, ⟨n, HNO.out, .inl ⟨xw, HYES.out (by trivial), rfl⟩⟩, rfl⟩, Q4.out⟩
      | false =>
        clear hnum hword m1 m2 hcell hend
        go_wp2_with fail
        go_loopw [4, 5, 7] (fun sv qv i wr2 => ∃ (l gs2 cs2 gq2 cq2 : Nat), l ≤ 3 ∧ i = .int .i64 (l : Int) ∧ sv = .slice (some ⟨gs2, 0, none⟩) (shL (M.mk N xs es) ((s : Int), xw) (shTo (M.mk N xs es) n) l).length cs2 ∧ qv = .slice (some ⟨gq2, 0, none⟩) (shL (M.mk N xs es) ((s : Int), xw) (shTo (M.mk N xs es) n) l).length cq2 ∧ ShS wB (shL (M.mk N xs es) ((s : Int), xw) (shTo (M.mk N xs es) n) l).length (numsOf (shL (M.mk N xs es) ((s : Int), xw) (shTo (M.mk N xs es) n) l)) (.slice (some ⟨gs2, 0, none⟩) (shL (M.mk N xs es) ((s : Int), xw) (shTo (M.mk N xs es) n) l).length cs2) (shL (M.mk N xs es) ((s : Int), xw) (shTo (M.mk N xs es) n) l).length (textsOf (shL (M.mk N xs es) ((s : Int), xw) (shTo (M.mk N xs es) n) l)) (.slice (some ⟨gq2, 0, none⟩) (shL (M.mk N xs es) ((s : Int), xw) (shTo (M.mk N xs es) n) l).length cq2) wr2) (fun _ _ i _ => 3 - (intOf i).toNat)
        case atStart => exact ⟨0, gs, cs, gq, cq, by omega, rfl, rfl, rfl, F4.out⟩
        case round =>
          obtain ⟨l, gs2, cs2, gq2, cq2, hl, rfl, rfl, rfl, hF2⟩ := hrel
          have F6 := Lib.hid hF2
          clear hF2
          have SHL := Lib.hid ((HTO.out n).many hok HX.out l hl)
          have hq6 := SHL.out.len hok
          have hpre := shL_prefix (M.mk N xs es) ((s : Int), xw) (shTo (M.mk N xs es) n) l
          have hn6 : n < (shL (M.mk N xs es) ((s : Int), xw) (shTo (M.mk N xs es) n) l).length := Nat.lt_of_lt_of_le hlt hpre.length_le
          have hx6 : (shL (M.mk N xs es) ((s : Int), xw) (shTo (M.mk N xs es) n) l)[n] = ((s : Int), xw) := by rw [← hpre.getElem hlt]; exact HXX.out
          have hnum : wr.cell? ⟨gs2, n, none⟩ = some (.int .i64 (s : Int)) := by have := (F6.out.num n hn6).trans (numsOf_at hn6); rw [hx6] at this; exact this
          have hword : wr.cell? ⟨gq2, n, none⟩ = some (.string xw) := by have := (F6.out.word n hn6).trans (textsOf_at hn6); rw [hx6] at this; exact this
          by_cases hgo : l < 3 ∧ xw.size < 14
          · obtain ⟨hl3, hsz⟩ := hgo
            have HST : Hid (shL (M.mk N xs es) ((s : Int), xw) (shTo (M.mk N xs es) n) (l + 1) = sh1 (M.mk N xs es) ((s : Int), xw) (shL (M.mk N xs es) ((s : Int), xw) (shTo (M.mk N xs es) n) l) l) := Lib.hid rfl
            have hls : (letS l).size = 1 := rfl
            have hsl := fun W => rdnS_at l hl3 W
            have hwr : IntKind.i64.wrap ((l : Int) + 1) = (l : Int) + 1 := IntWalk.i64_in _ (by omega)
            have HX6 : Hid ((shL (M.mk N xs es) ((s : Int), xw) (shTo (M.mk N xs es) n) l)[n]? = some ((s : Int), xw)) := Lib.hid (by rw [List.getElem?_eq_getElem hn6, hx6])
            clear hpre hx6
            generalize shL (M.mk N xs es) ((s : Int), xw) (shTo (M.mk N xs es) n) l = q at *
            obtain ⟨k, hk1, hk2, hk3⟩ := M.nx_at hok (s : Int) (l : Int) (by omega) (by show (s : Int) < (N : Int); omega) (by omega) (by omega)
            have hvb := M.nx_bd hok (s : Int) (l : Int) (by show (s : Int) < (N : Int); omega) (by omega) (by omega)
            have MM6 := Lib.hid (MB.out.below F6.out.keep)
            have m1 := MM6.out.c1
            obtain ⟨iA, iC, hiv, ic1, ic2, his⟩ := MM6.out.ints
            simp only [Value.slice.injEq] at hiv
            obtain ⟨rfl, rfl, rfl⟩ := hiv
            obtain ⟨gi, oi, rfl, hgi, hci⟩ := his.resolve_left (fun h => by rw [h] at hk2; exact absurd hk2 (Nat.not_lt_zero k))
            have hcell := hci k hk2
            rw [hk3] at hvb
            have HNX := Lib.hid hk3
            clear hk3 hgi hci his ic1 ic2
            generalize ((M.mk N xs es)).next[k] = v at *
            have hq1 : IntKind.i64.wrap (3 * (s : Int)) = 3 * (s : Int) := IntWalk.i64_in _ (by omega)
            have hq2 : IntKind.i64.wrap (3 * (s : Int) + (l : Int)) = 3 * (s : Int) + (l : Int) := IntWalk.i64_in _ (by omega)
            have hq3 : 3 * (s : Int) + (l : Int) = (k : Int) := by omega
            simp only at hk2
            clear hk1
            go_wp2_with fail
            go_quiet (fail)
            clear m1 hq1 hq2 hcell
            have F7 := Lib.hid (F6.out.same (grown_drewN wr nq none))
            go_wp2_with fail
            go_loopw [9, 10] (fun sn i wr3 => ∃ j : Nat, j ≤ q.length ∧ i = .int .i64 (j : Int) ∧ sn = .bool (decide (v < 0) || seenTo q v j) ∧ ShS wB (q).length (numsOf (q)) (.slice (some ⟨gs2, 0, none⟩) (q).length cs2) (q).length (textsOf (q)) (.slice (some ⟨gq2, 0, none⟩) (q).length cq2) wr3) (fun _ i _ => q.length - (intOf i).toNat)
            case atStart => exact ⟨0, Nat.zero_le _, rfl, by simp [seenTo_zero], F7.out⟩
            case round =>
              obtain ⟨j, hj, rfl, rfl, hF3⟩ := hrel
              have F8 := Lib.hid hF3
              clear hF3
              cases hsn : (decide (v < 0) || seenTo q v j) with
              | true =>
                have hs1 : sh1 (M.mk N xs es) ((s : Int), xw) q l = q := by
                  unfold sh1
                  rw [if_neg]
                  rintro ⟨-, d2, d3⟩
                  simp only at d2 d3
                  rw [HNX.out] at d2 d3
                  rw [Bool.or_eq_true, decide_eq_true_eq] at hsn
                  rcases hsn with h | h
                  · omega
                  · have := seenTo_mono h
                    rw [seenTo_all, decide_eq_true_eq] at this
                    exact d3 this
                have HS1 := Lib.hid hs1
                clear hs1 hsn
                by_cases hjl : (j : Int) < (q.length : Int)
                all_goals
                  go_wp2_with fail
                  go_roundw
                  case rel => exact ⟨l + 1, gs2, cs2, gq2, cq2, by omega, by go_num, by rw [HST.out, HS1.out], by rw [HST.out, HS1.out], by rw [HST.out, HS1.out]; exact F8.out⟩
                  case measure => simp [intOf]; omega
              | false =>
                rw [Bool.or_eq_false_iff] at hsn
                obtain ⟨hv0, hnot⟩ := hsn
                by_cases hjl : j < q.length
                · have hnum3 := (F8.out.num j hjl).trans (numsOf_at hjl)
                  have HSU : Hid (seenTo q v (j + 1) = (q[j].1 == v)) := Lib.hid (by rw [seenTo_succ v hjl, hnot, Bool.false_or])
                  have HV0 := Lib.hid hv0
                  generalize q[j].1 = z at *
                  clear hv0 hnot
                  by_cases hz : z = v
                  · have hz' : (z == v) = true := by simp [hz]
                    have HSV : Hid (seenTo q v (j + 1) = true) := Lib.hid (HSU.out.trans hz')
                    clear hz HSU
                    go_wp2_with fail
                    go_roundw
                    case rel => exact ⟨j + 1, by omega, by go_num, by rw [HSV.out, HV0.out]; rfl, F8.out⟩
                    case measure => simp [intOf]; omega
                  · have hz' : (z == v) = false := by simpa using hz
                    have HSV : Hid (seenTo q v (j + 1) = false) := Lib.hid (HSU.out.trans hz')
                    clear hz HSU
                    go_wp2_with fail
                    go_roundw
                    case rel => exact ⟨j + 1, by omega, by go_num, by rw [HSV.out, HV0.out]; rfl, F8.out⟩
                    case measure => simp [intOf]; omega
                · obtain rfl : j = q.length := by omega
                  have hs1 : sh1 (M.mk N xs es) ((s : Int), xw) q l = q ++ [(v, xw ++ letS l)] := by
                    unfold sh1
                    simp only
                    rw [HNX.out, if_pos ⟨hsz, by simpa using hv0, by rw [seenTo_all, decide_eq_false_iff_not] at hnot; exact hnot⟩]
                  have HS1 := Lib.hid hs1
                  have hword3 : wr.cell? ⟨gq2, n, none⟩ = some (.string xw) := by have := F8.out.word n hn6; rw [this, textsOf, List.getElem?_map, HX6.out]; rfl
                  clear hs1 hv0 hnot
                  have HA1 := Lib.hid (show q.length + 1 ≤ maxLen by unfold maxLen; omega)
                  have HA2 := Lib.hid (show (q.length + 1) * 16 ≤ 140737488355328 by omega)
                  have HA3 := Lib.hid (show (q.length + 1) * 8 ≤ 140737488355328 by omega)
                  go_wp2_with (first | (at_builtin; refine wpList_append_lies _ rfl _ _ 22 rfl 0 3 i0 (.int .i64 0) 1 8 Try.underlying22 HI.out.1 HI.out.2.1 HI.out.2.2.1 HI.out.2.2.2 rfl (by decide) (.slice (some ⟨gs2, 0, none⟩) q.length cs2) q.length (numsOf q) rfl (F8.out.rowS.alloc _) ⟨wr.heap.size, 0, none⟩ 1 1 [.int .i64 v] rfl rfl (cell_newS wr (.int .i64 v) 3) (by simp [Value.oneCell']) (by omega) HA1.out HA3.out (Nat.zero_le _) _ rfl ?_; intro g9 cp9 w4 hown hgrow hat hlt3; have F9 := Lib.hid (F8.out.pushS hgrow hown hat); have hword4 : w4.cell? ⟨gq2, n, none⟩ = some (.string xw) := (F9.out.word n hn6).trans ((by rw [textsOf, List.getElem?_map, HX6.out]; rfl)); clear hword3 hown hgrow hat hlt3))
                  have Fd := Lib.hid (F9.out.same (grown_drew w4 none))
                  have hword5 : w4.drew.cell? ⟨gq2, n, none⟩ = some (.string xw) := hword4
                  have hcat : ¬ (9223372036854775807 < xw.size + 1) := by omega
                  clear hword4
                  go_region_law (first | (refine step_append_lies _ rfl _ _ 69 rfl 0 9 j0 (.string ⟨#[]⟩) 1 16 Try.underlying69 HJ.out.1 HJ.out.2.1 HJ.out.2.2.1 HJ.out.2.2.2 rfl (by decide) (.slice (some ⟨gq2, 0, none⟩) q.length cq2) q.length (textsOf q) rfl (Fd.out.rowQ.alloc _) ⟨w4.drew.heap.size, 0, none⟩ 1 1 [.string (xw ++ letS l)] rfl rfl (cell_newS w4.drew (.string (xw ++ letS l)) 9) (by simp [Value.oneCell']) (by omega) HA1.out HA2.out (Nat.zero_le _) _ rfl ?_; intro g10 cp10 w5 hown hgrow hat hlt3; have F10 := Lib.hid (Fd.out.pushQ hgrow hown hat)))
                  all_goals
                    clear hword5
                    go_wp2
                    go_roundw
                    case rel => exact ⟨l + 1, g9, cp9, g10, cp10, by omega, by go_num, by rw [HST.out, HS1.out, List.length_append]; rfl, by rw [HST.out, HS1.out, List.length_append]; rfl, by rw [HST.out, HS1.out, List.length_append, numsOf_more, textsOf_more]; exact F10.out⟩
                    case measure => simp [intOf]; omega
          · have hend3 : shL (M.mk N xs es) ((s : Int), xw) (shTo (M.mk N xs es) n) l = shL (M.mk N xs es) ((s : Int), xw) (shTo (M.mk N xs es) n) 3 := by
              by_cases hsz : xw.size < 14
              · obtain rfl : l = 3 := by omega
                rfl
              · rw [shL_full _ _ _ hsz, shL_full _ _ _ hsz]
            have HE3 := Lib.hid hend3
            have hn7 : n + 1 ≤ (shL (M.mk N xs es) ((s : Int), xw) (shTo (M.mk N xs es) n) 3).length := Nat.lt_of_lt_of_le hlt (shL_prefix (M.mk N xs es) ((s : Int), xw) (shTo (M.mk N xs es) n) 3).length_le
            have HN7 := Lib.hid hn7
            have hstop : (decide ((l : Int) < 3) && decide ((xw.size : Int) < 14)) = false := by
              by_cases h : l < 3
              · rw [decide_eq_false (by omega : ¬ (xw.size : Int) < 14), Bool.and_false]
              · rw [decide_eq_false (by omega : ¬ (l : Int) < 3), Bool.false_and]
            clear hend3 hn7 hpre hx6
            by_cases hl3 : (l : Int) < 3
            · have hsz : ¬ (xw.size : Int) < 14 := fun h => hgo ⟨by omega, by omega⟩
              clear hgo hstop
              go_wp2_with fail
              go_roundw
              case rel => exact ⟨n + 1, gs2, cs2, gq2, cq2, by go_num, by rw [HSTEP.out, ← HE3.out], by rw [HSTEP.out, ← HE3.out], by rw [HSTEP.out]; exact HN7.out, by rw [HSTEP.out, ← HE3.out]; exact F6.out, fun j hj => by
                rcases Nat.lt_or_ge j n with h | h
                · exact HNO.out j h
                · obtain rfl : j = n := by omega
                  exact ⟨hlt, HNOT.out (by trivial)⟩⟩
              case measure => simp [intOf]; omega
            · clear hgo hstop
              go_wp2_with fail
              go_roundw
              case rel => exact ⟨n + 1, gs2, cs2, gq2, cq2, by go_num, by rw [HSTEP.out, ← HE3.out], by rw [HSTEP.out, ← HE3.out], by rw [HSTEP.out]; exact HN7.out, by rw [HSTEP.out, ← HE3.out]; exact F6.out, fun j hj => by
                rcases Nat.lt_or_ge j n with h | h
                · exact HNO.out j h
                · obtain rfl : j = n := by omega
                  exact ⟨hlt, HNOT.out (by trivial)⟩⟩
              case measure => simp [intOf]; omega
    · obtain hn2 : n = (shTo (M.mk N xs es) n).length := by omega
      have Q4 := Lib.hid (q0.out.trans (FF.out.keep.mono q0.out.size))
      have HLE := Lib.hid (Nat.le_of_eq hn2.symm)
      have hd : decide ((n : Int) < ((shTo (M.mk N xs es) n).length : Int)) = false := decide_eq_false (by omega)
      clear hn2
      go_wp2_with fail
      go_ret2
      exact ⟨⟨none, ⟨n, HNO.out, .inr ⟨HLE.out, rfl⟩⟩, rfl⟩, Q4.out⟩
end Go.Proofs.Ytdgpemjbaciiaaa

namespace Go.Proofs.Ytdgpemjbaciiaaa
open Go.RowKit

/-- ShortestTaken's answer, as the machine is one or none -/
def IsShortZ (m : M) (r : Option ByteArray) : Prop := (m.ok = true → IsShort m r) ∧ (m.ok = false → r = none)
theorem IsShortZ.one {m : M} {r r' : Option ByteArray} (h : IsShortZ m r) (h' : IsShortZ m r') : r = r' := by
  cases hk : m.ok with
  | true => exact (h.1 hk).one (h'.1 hk)
  | false => rw [h.2 hk, h'.2 hk]
theorem implShortZ (m : M) (nv ev : Value) (w : World) (h1 : IsInts w nv m.next) (h2 : IsBools w ev m.ends) (hst : (Lit.int .i64 m.st).wf = true) :
    Calls Try.prog 33 #[.agg #[.int .i64 m.st, nv, ev]] w
      fun e w' => (∃ r : Option ByteArray, IsShortZ m r ∧ e = .returned (.tuple #[.string (r.getD ⟨#[]⟩), .bool r.isSome])) ∧ Below w.heap.size w w' := by
  cases hk : m.ok with
  | true =>
    obtain ⟨st, xs, bs⟩ := m
    obtain ⟨N, rfl⟩ : ∃ N : Nat, st = (N : Int) := ⟨st.toNat, by have h := (M.ok_shape hk).1; simp only at h; omega⟩
    refine (implShort_any N _ _ nv ev w h1 h2 hk).mono ?_
    rintro e w' ⟨⟨r, hr, rfl⟩, hb⟩
    exact ⟨⟨r, ⟨fun _ => hr, fun h => by rw [hk] at h; cases h⟩, rfl⟩, hb⟩
  | false =>
    have HOK := Lib.hid (fun W a b => implMachineOk_any m nv ev W a b hst)
    have MB := Lib.hid (MachBox.new (st := m.st) 27 h1 h2)
    have q0 := Lib.hid ((Below.refl w.heap.size w).alloc (Nat.le_refl _) (.cells #[.int .i64 m.st, nv, ev] 27))
    rw [hk] at HOK
    clear h1 h2
    go_enter Try.func33, Try.ntmps33
    go_wp2_with fail
    refine (HOK.out _ MB.out.ints MB.out.bools).mono ?_
    rintro e w1 ⟨rfl, hb1⟩
    go_wp2_with fail
    go_ret2
    exact ⟨⟨none, ⟨fun h => (by rw [hk] at h; cases h), fun _ => rfl⟩, rfl⟩, q0.out.trans (hb1.mono q0.out.size)⟩
theorem specShortZ (m : M) (nv ev : Value) (w : World) (h1 : IsInts w nv m.next) (h2 : IsBools w ev m.ends) (hst : (Lit.int .i64 m.st).wf = true) :
    Calls Try.prog 32 #[.agg #[.int .i64 m.st, nv, ev]] w
      fun e w' => (∃ r : Option ByteArray, IsShortZ m r ∧ e = .returned (.tuple #[.string (r.getD ⟨#[]⟩), .bool r.isSome])) ∧ Below w.heap.size w w' := by
  cases hk : m.ok with
  | true =>
    obtain ⟨st, xs, bs⟩ := m
    obtain ⟨N, rfl⟩ : ∃ N : Nat, st = (N : Int) := ⟨st.toNat, by have h := (M.ok_shape hk).1; simp only at h; omega⟩
    refine (specShort_any N _ _ nv ev w h1 h2 hk).mono ?_
    rintro e w' ⟨⟨r, hr, rfl⟩, hb⟩
    exact ⟨⟨r, ⟨fun _ => hr, fun h => by rw [hk] at h; cases h⟩, rfl⟩, hb⟩
  | false =>
    have HOK := Lib.hid (fun W a b => specMachineOk_any m nv ev W a b hst)
    have MB := Lib.hid (MachBox.new (st := m.st) 27 h1 h2)
    have q0 := Lib.hid ((Below.refl w.heap.size w).alloc (Nat.le_refl _) (.cells #[.int .i64 m.st, nv, ev] 27))
    rw [hk] at HOK
    clear h1 h2
    go_enter Try.func32, Try.ntmps32
    go_wp2_with fail
    refine (HOK.out _ MB.out.ints MB.out.bools).mono ?_
    rintro e w1 ⟨rfl, hb1⟩
    go_wp2_with fail
    go_ret2
    exact ⟨⟨none, ⟨fun h => (by rw [hk] at h; cases h), fun _ => rfl⟩, rfl⟩, q0.out.trans (hb1.mono q0.out.size)⟩

set_option maxHeartbeats 1600000 in
theorem exactShort_walk {w : World} (st : Int) (hst : (Lit.int .i64 st).wf = true) (nv : Value) (xs : List Int) (hn0 : IsInts w nv xs) (ev : Value) (bs : List Bool) (he0 : IsBools w ev bs) :
    Calls Try.prog 8 #[.agg #[.int .i64 st, nv, ev]] w fun e w' => e = .returned (.bool true) ∧ Below w.heap.size w w' := by
  have hM : MachBox w.heap.size st nv xs ev bs (w.alloc (.cells #[.int .i64 st, nv, ev] 25)) := MachBox.new _ hn0 he0
  have M0 := Lib.hid hM
  have q0 : Hid (Below w.heap.size w (w.alloc (.cells #[.int .i64 st, nv, ev] 25))) := Lib.hid ((Below.refl _ _).alloc (Nat.le_refl _) _)
  clear hM hn0 he0
  go_enter Try.func8, Try.ntmps8
  go_wp2_with fail
  refine (szMachine_any ⟨st, xs, bs⟩ nv ev 1048576 _ M0.out.ints M0.out.bools (by omega) (by omega)).mono ?_
  rintro e w1 ⟨rfl, hb1⟩
  have M1 := Lib.hid (M0.out.below hb1)
  have q1 := Lib.hid (q0.out.trans (hb1.mono q0.out.size))
  clear hb1
  by_cases hs : szM ⟨st, xs, bs⟩ 1048576 < 0
  · go_wp2_with fail
    go_ret
    exact ⟨rfl, q1.out⟩
  · have hbd := szM_bd (m := ⟨st, xs, bs⟩) (left := 1048576) (by omega)
    simp only at hbd
    generalize szM ⟨st, xs, bs⟩ 1048576 = left at *
    have y10 := M1.out.c0
    have y11 := M1.out.c1
    have y12 := M1.out.c2
    go_wp2_with fail
    clear y10 y11 y12
    refine (toMachine_any ⟨st, xs, bs⟩ nv ev _ M1.out.ints M1.out.bools (by show xs.length ≤ _; omega) (by show bs.length ≤ _; omega)).mono ?_
    rintro e w2 ⟨nv2, ev2, rfl, hn2, he2, hb2⟩
    have M2 := Lib.hid (M1.out.below hb2)
    have q2 := Lib.hid (q1.out.trans (hb2.mono q1.out.size))
    have y20 := M2.out.c0
    have y21 := M2.out.c1
    have y22 := M2.out.c2
    have H2 := Lib.hid (And.intro hn2 he2)
    clear hn2 he2 hb2
    go_wp2_with fail
    clear y20 y21 y22
    refine (specShortZ ⟨st, xs, bs⟩ nv2 ev2 _ H2.out.1 H2.out.2 hst).mono ?_
    rintro e w3 ⟨⟨r, hr, rfl⟩, hb3⟩
    have HR := Lib.hid hr
    have M3 := Lib.hid (M2.out.below hb3)
    have q3 := Lib.hid (q2.out.trans (hb3.mono q2.out.size))
    have y30 := M3.out.c0
    have y31 := M3.out.c1
    have y32 := M3.out.c2
    clear hb3 hr
    go_wp2_with fail
    clear y30 y31 y32
    refine (toMachine_any ⟨st, xs, bs⟩ nv ev _ M3.out.ints M3.out.bools (by show xs.length ≤ _; omega) (by show bs.length ≤ _; omega)).mono ?_
    rintro e w4 ⟨nv4, ev4, rfl, hn4, he4, hb4⟩
    have M4 := Lib.hid (M3.out.below hb4)
    have q4 := Lib.hid (q3.out.trans (hb4.mono q3.out.size))
    have y40 := M4.out.c0
    have y41 := M4.out.c1
    have y42 := M4.out.c2
    obtain ⟨a4, n4, c4, rfl⟩ := hn4.slice
    obtain ⟨d4, m4, p4, rfl⟩ := he4.slice
    have X5 := Lib.hid (MachBox.new (st := st) 27 hn4 he4)
    have hal : Below w4.heap.size w4 (w4.alloc (.cells #[.int .i64 st, .slice a4 n4 c4, .slice d4 m4 p4] 27)) := (Below.refl _ _).alloc (Nat.le_refl _) _
    have M5 := Lib.hid (M4.out.below hal)
    have q5 := Lib.hid (q4.out.trans (hal.mono q4.out.size))
    clear hn4 he4 hb4 hal
    go_wp2_with fail
    clear y40 y41 y42
    refine (implShortZ ⟨st, xs, bs⟩ _ _ _ X5.out.ints X5.out.bools hst).mono ?_
    rintro e w6 ⟨⟨r', hr', rfl⟩, hb6⟩
    obtain rfl := hr'.one HR.out
    generalize r'.getD ⟨#[]⟩ = word at *
    generalize r'.isSome = has at *
    have M6 := Lib.hid (M5.out.below hb6)
    have X6 := Lib.hid (X5.out.below hb6)
    have q6 := Lib.hid (q5.out.trans (hb6.mono q5.out.size))
    clear hb6 M5 X5 q5 hr' HR
    have y60 := M6.out.c0
    have y61 := M6.out.c1
    have y62 := M6.out.c2
    have z60 := X6.out.c0
    have z61 := X6.out.c1
    have z62 := X6.out.c2
    go_wp2_with fail
    have M6d := Lib.hid (M6.out.below (Below.refl _ w6).drew)
    have X6d := Lib.hid (X6.out.below (Below.refl _ w6).drew)
    have hl1 : xs.length ≤ 1048576 := by omega
    have hl2 : bs.length ≤ 1048576 := by omega
    go_region_with (first | (go_at_call 19; refine (toMachine_any ⟨st, xs, bs⟩ nv ev w6.drew M6d.out.ints M6d.out.bools hl1 hl2).mono ?_; rintro e w7 ⟨nv7, ev7, rfl, hn7, he7, hb7⟩; have X7 := X6d.out.below hb7; have z70 := X7.c0; have z71 := X7.c1; have z72 := X7.c2) | (go_at_call 21; refine (eqMachine_same ⟨st, xs, bs⟩ _ _ nv7 ev7 w7 X7.ints X7.bools hn7 he7).mono ?_; rintro e w8 ⟨rfl, hb8⟩))
    all_goals
      go_wp2
      go_ret
      have q7 := q6.out.drew.trans (hb7.mono q6.out.size)
      exact ⟨rfl, q7.trans (hb8.mono q7.size)⟩
end Go.Proofs.Ytdgpemjbaciiaaa

namespace Go.Proofs.Ytdgpemjbaciiaaa
open Go.RowKit

theorem none_least {m K : M} (hm : m.ok = true) (hK : IsLmZ m K) (h : ∀ u, m.lang 0 u = false) : K.st = 1 ∧ K.ends = [false] := (hK.1 hm).1.empty h
theorem takes_none {m : M} (h : ∀ u, m.lang 0 u = false) (s : ByteArray) : m.takes s = false := by
  cases hm : m.ok with
  | false => exact M.takes_not (.inl hm)
  | true =>
    cases hw : wordOk s with
    | false => exact M.takes_not (.inr hw)
    | true => rw [M.takes_lang hm hw, h]
theorem some_least {m K : M} (hm : m.ok = true) (hK : IsLmZ m K) {s : ByteArray} (hs : m.takes s = true) (h1 : K.st = 1) : K.ends = [true] := by
  have hg := M.good_shape ((hK.1 hm).1.good (by omega))
  obtain ⟨e, he⟩ : ∃ e, K.ends = [e] := List.length_eq_one_iff.1 (by omega)
  cases e with
  | true => exact he
  | false =>
    exfalso
    have h2 := (hK.1 hm).1.one_state h1 he
    cases hw : wordOk s with
    | false => rw [M.takes_not (.inr hw)] at hs; cases hs
    | true => rw [M.takes_lang hm hw, h2] at hs; cases hs

set_option maxHeartbeats 1600000 in
set_option maxRecDepth 100000 in
theorem lawShort_walk {w : World} (a : Option Addr) (len cap : Nat) (zs : List Int) (h : IsRow .u8 w a len cap zs) (b : Option Addr) (len2 cap2 : Nat) (zs2 : List Int) (h2 : IsRow .u8 w b len2 cap2 zs2) :
    Calls Try.prog 16 #[.slice a len cap, .slice b len2 cap2] w fun e w' => e = .returned (.bool true) ∧ Below w.heap.size w w' := by
  have HD := Lib.hid (drawShortestTaken_any a len cap zs w h)
  have H2 := Lib.hid h2
  have hl := h.len_le
  have hl2 := h2.len_le
  unfold maxLen at hl hl2
  clear h h2
  by_cases hbig : 1048576 < len
  · go_enter Try.func16, Try.ntmps16
    go_wp2_with fail
    go_ret
    exact ⟨rfl, Below.refl _ _⟩
  by_cases hbig2 : 1048576 < len2
  · go_enter Try.func16, Try.ntmps16
    go_wp2_with fail
    go_ret
    exact ⟨rfl, Below.refl _ _⟩
  go_enter Try.func16, Try.ntmps16
  go_wp2_with fail
  refine HD.out.mono ?_
  clear HD
  rintro e w1 ⟨m, nv, ev, rfl, hd, hb1⟩
  obtain ⟨a1, n1, c1, rfl⟩ := hd.ints.slice
  obtain ⟨a2, n2, c2, rfl⟩ := hd.bools.slice
  have hwf := hd.wf
  have HST5 := Lib.hid hd.s1
  have M1 := Lib.hid (MachBox.new (st := m.st) 27 hd.ints hd.bools)
  have q1 := Lib.hid (hb1.alloc hb1.size (.cells #[.int .i64 m.st, .slice a1 n1 c1, .slice a2 n2 c2] 27))
  clear hb1 hd
  go_wp2_with fail
  generalize hW2 : w1.alloc (.cells #[.int .i64 m.st, .slice a1 n1 c1, .slice a2 n2 c2] 27) = w2 at *
  generalize hB2 : w1.heap.size = b2 at *
  clear hW2 hB2
  refine (implShortZ m _ _ w2 M1.out.ints M1.out.bools hwf).mono ?_
  rintro e w3 ⟨⟨r, hr, rfl⟩, hb3⟩
  have HR := Lib.hid hr
  have M3 := Lib.hid (M1.out.below hb3)
  have q3 := Lib.hid (q1.out.trans (hb3.mono q1.out.size))
  clear hb3 hr
  have y0 := M3.out.c0
  have y1 := M3.out.c1
  have y2 := M3.out.c2
  go_wp2_with fail
  clear y0 y1 y2
  refine (specShortZ m _ _ w3 M3.out.ints M3.out.bools hwf).mono ?_
  rintro e w4 ⟨⟨r', hr', rfl⟩, hb4⟩
  obtain rfl := hr'.one HR.out
  have M4 := Lib.hid (M3.out.below hb4)
  have q4 := Lib.hid (q3.out.trans (hb4.mono q3.out.size))
  clear hb4 hr' M1 M3 q1 q3
  have y0 := M4.out.c0
  have y1 := M4.out.c1
  have y2 := M4.out.c2
  cases r' with
  | none =>
    simp only [Option.getD_none, Option.isSome_none]
    go_wp2_with fail
    clear y0 y1 y2
    refine (specMachineOk_any m _ _ w4 M4.out.ints M4.out.bools hwf).mono ?_
    rintro e w5 ⟨rfl, hb5⟩
    have M5 := Lib.hid (M4.out.below hb5)
    have q5 := Lib.hid (q4.out.trans (hb5.mono q4.out.size))
    clear hb5 M4 q4
    cases hk : m.ok with
    | false =>
      go_wp2_with fail
      refine (alive_any _).mono ?_
      rintro e w6 ⟨rfl, rfl⟩
      go_wp2_with fail
      go_ret
      exact ⟨rfl, q5.out⟩
    | true =>
      have HK := Lib.hid hk
      clear hk
      go_wp2_with fail
      refine (drawTakesOk_any b len2 cap2 zs2 w5 (H2.out.below q5.out)).mono ?_
      rintro e w6 ⟨m2, nv2, ev2, s2, rfl, hs2, hd2, hb6⟩
      obtain ⟨a3, n3, c3, rfl⟩ := hd2.ints.slice
      obtain ⟨a4, n4, c4, rfl⟩ := hd2.bools.slice
      have M6 := Lib.hid (M5.out.below hb6)
      have q6 := Lib.hid (q5.out.trans (hb6.mono q5.out.size))
      have hbl := M6.out.hB
      have M7 := Lib.hid (M6.out.below ((Below.refl w6.heap.size w6).alloc (Nat.le_refl _) (.cells #[.int .i64 m2.st, .slice a3 n3 c3, .slice a4 n4 c4] 27)))
      have q7 := Lib.hid (q6.out.alloc q6.out.size (.cells #[.int .i64 m2.st, .slice a3 n3 c3, .slice a4 n4 c4] 27))
      have y0 := M6.out.c0
      have y1 := M6.out.c1
      have y2 := M6.out.c2
      have hs2m : s2.size ≤ maxLen := by unfold maxLen; omega
      clear hb6 hd2 M5 q5
      go_wp2_with fail
      generalize hW7 : w6.alloc (.cells #[.int .i64 m2.st, .slice a3 n3 c3, .slice a4 n4 c4] 27) = w7 at *
      generalize hB7 : w6.heap.size = b7 at *
      clear hW7 hB7 y0 y1 y2 M6 q6 hbl
      refine (implLeastZ m _ _ w7 M7.out.ints M7.out.bools hwf).mono ?_
      rintro e w8 h8
      obtain ⟨K, nv8, ev8, hK8, rfl, hi8, hbo8, hb8⟩ := h8.reads
      obtain ⟨a5, n5, c5, rfl⟩ := hi8.slice
      obtain ⟨a6, n6, c6, rfl⟩ := hbo8.slice
      have HK8 := Lib.hid hK8
      have M8 := Lib.hid (M7.out.below hb8)
      have q8 := Lib.hid (q7.out.trans (hb8.mono q7.out.size))
      have hbl := M8.out.hB
      have M9 := Lib.hid (M8.out.below ((Below.refl w8.heap.size w8).alloc (Nat.le_refl _) (.cells #[.int .i64 K.st, .slice a5 n5 c5, .slice a6 n6 c6] 27)))
      have q9 := Lib.hid (q8.out.alloc q8.out.size (.cells #[.int .i64 K.st, .slice a5 n5 c5, .slice a6 n6 c6] 27))
      have hst5 := HST5.out
      have HBO := Lib.hid hbo8
      clear h8 hK8 hi8 hbo8 hb8 M7 q7
      obtain ⟨kst, kx, ke⟩ := K
      simp only
      have HSN := Lib.hid (HR.out.1 HK.out)
      have HEM := Lib.hid (short_none HK.out (by have h5 := HST5.out; omega) HSN.out)
      obtain ⟨e1, e2⟩ := none_least HK.out HK8.out HEM.out
      simp only at e1 e2
      subst e1 e2
      obtain ⟨g6, o6, rfl, rfl, hg6, hc6⟩ := bools_cells3 HBO.out (by simp)
      have hce := hc6 0 (by simp)
      rw [Nat.add_zero] at hce
      simp only [List.getElem_cons_zero] at hce
      have HT := Lib.hid (takes_none HEM.out s2)
      have y0 := M8.out.c0
      have y1 := M8.out.c1
      have y2 := M8.out.c2
      have hgl : g6 < w8.heap.size := hg6
      go_wp2_with fail
      refine (implTakesOk_any m s2 _ _ _ M9.out.ints M9.out.bools hwf hs2m).mono ?_
      rintro e w10 ⟨rfl, hb10⟩
      rw [HT.out]
      have M10 := Lib.hid (M9.out.below hb10)
      have q10 := Lib.hid (q9.out.trans (hb10.mono q9.out.size))
      clear y0 y1 y2 hb10
      have y0 := M10.out.c0
      go_wp2_with fail
      go_ret
      exact ⟨rfl, q10.out⟩
  | some wd =>
    simp only [Option.getD_some, Option.isSome_some]
    go_wp2_with fail
    clear y0 y1 y2
    refine (specMachineOk_any m _ _ w4 M4.out.ints M4.out.bools hwf).mono ?_
    rintro e w5 ⟨rfl, hb5⟩
    have M5 := Lib.hid (M4.out.below hb5)
    have q5 := Lib.hid (q4.out.trans (hb5.mono q4.out.size))
    clear hb5 M4 q4
    cases hk : m.ok with
    | false => exact absurd (HR.out.2 hk) (by simp)
    | true =>
      have HK := Lib.hid hk
      clear hk
      have HSS := Lib.hid (HR.out.1 HK.out)
      have HTW := Lib.hid (short_takes HK.out HSS.out)
      have hwdm : wd.size ≤ maxLen := by
        obtain ⟨u, -, -, h14, -, -⟩ := takes_walk HK.out HTW.out
        unfold maxLen; omega
      go_wp2_with fail
      refine (drawTakesOk_any b len2 cap2 zs2 w5 (H2.out.below q5.out)).mono ?_
      rintro e w6 ⟨m2, nv2, ev2, s2, rfl, hs2, hd2, hb6⟩
      obtain ⟨a3, n3, c3, rfl⟩ := hd2.ints.slice
      obtain ⟨a4, n4, c4, rfl⟩ := hd2.bools.slice
      have M6 := Lib.hid (M5.out.below hb6)
      have q6 := Lib.hid (q5.out.trans (hb6.mono q5.out.size))
      have hbl := M6.out.hB
      have M7 := Lib.hid (M6.out.below ((Below.refl w6.heap.size w6).alloc (Nat.le_refl _) (.cells #[.int .i64 m2.st, .slice a3 n3 c3, .slice a4 n4 c4] 27)))
      have q7 := Lib.hid (q6.out.alloc q6.out.size (.cells #[.int .i64 m2.st, .slice a3 n3 c3, .slice a4 n4 c4] 27))
      have y0 := M6.out.c0
      have y1 := M6.out.c1
      have y2 := M6.out.c2
      have hs2m : s2.size ≤ maxLen := by unfold maxLen; omega
      clear hb6 hd2 M5 q5
      go_wp2_with fail
      generalize hW7 : w6.alloc (.cells #[.int .i64 m2.st, .slice a3 n3 c3, .slice a4 n4 c4] 27) = w7 at *
      generalize hB7 : w6.heap.size = b7 at *
      clear hW7 hB7 y0 y1 y2 M6 q6 hbl
      refine (implLeastZ m _ _ w7 M7.out.ints M7.out.bools hwf).mono ?_
      rintro e w8 h8
      obtain ⟨K, nv8, ev8, hK8, rfl, hi8, hbo8, hb8⟩ := h8.reads
      obtain ⟨a5, n5, c5, rfl⟩ := hi8.slice
      obtain ⟨a6, n6, c6, rfl⟩ := hbo8.slice
      have HK8 := Lib.hid hK8
      have M8 := Lib.hid (M7.out.below hb8)
      have q8 := Lib.hid (q7.out.trans (hb8.mono q7.out.size))
      have hbl := M8.out.hB
      have M9 := Lib.hid (M8.out.below ((Below.refl w8.heap.size w8).alloc (Nat.le_refl _) (.cells #[.int .i64 K.st, .slice a5 n5 c5, .slice a6 n6 c6] 27)))
      have q9 := Lib.hid (q8.out.alloc q8.out.size (.cells #[.int .i64 K.st, .slice a5 n5 c5, .slice a6 n6 c6] 27))
      have hst5 := HST5.out
      have HBO := Lib.hid hbo8
      clear h8 hK8 hi8 hbo8 hb8 M7 q7
      obtain ⟨kst, kx, ke⟩ := K
      simp only
      by_cases h1 : kst = 1
      · subst h1
        have e2 := some_least HK.out HK8.out HTW.out rfl
        simp only at e2
        subst e2
        obtain ⟨g6, o6, rfl, rfl, hg6, hc6⟩ := bools_cells3 HBO.out (by simp)
        have hce := hc6 0 (by simp)
        rw [Nat.add_zero] at hce
        simp only [List.getElem_cons_zero] at hce
        have hgl : g6 < w8.heap.size := hg6
        have y0 := M8.out.c0
        have y1 := M8.out.c1
        have y2 := M8.out.c2
        go_wp2_with fail
        refine (implTakesOk_any m wd _ _ _ M9.out.ints M9.out.bools hwf hwdm).mono ?_
        rintro e w10 ⟨rfl, hb10⟩
        rw [HTW.out]
        have M10 := Lib.hid (M9.out.below hb10)
        have q10 := Lib.hid (q9.out.trans (hb10.mono q9.out.size))
        clear y0 y1 y2 hb10
        have y0 := M10.out.c0
        have y1 := M10.out.c1
        have y2 := M10.out.c2
        go_wp2_with fail
        refine (implTakesOk_any m s2 _ _ _ M10.out.ints M10.out.bools hwf hs2m).mono ?_
        rintro e w11 ⟨rfl, hb11⟩
        have M11 := Lib.hid (M10.out.below hb11)
        have q11 := Lib.hid (q10.out.trans (hb11.mono q10.out.size))
        clear y0 y1 y2 hb11
        have y0 := M11.out.c0
        cases ht : m.takes s2 with
        | false =>
          go_wp2_with fail
          go_ret
          exact ⟨rfl, q11.out⟩
        | true =>
          have hle := short_least HK.out HSS.out ht
          have hlei : (wd.size : Int) ≤ (s2.size : Int) := by omega
          go_wp2_with fail
          go_ret
          exact ⟨rfl, q11.out⟩
      · have h1' : (kst == 1) = false := by simpa using h1
        have y0 := M8.out.c0
        have y1 := M8.out.c1
        have y2 := M8.out.c2
        go_wp2_with fail
        refine (implTakesOk_any m wd _ _ _ M9.out.ints M9.out.bools hwf hwdm).mono ?_
        rintro e w10 ⟨rfl, hb10⟩
        rw [HTW.out]
        have M10 := Lib.hid (M9.out.below hb10)
        have q10 := Lib.hid (q9.out.trans (hb10.mono q9.out.size))
        clear y0 y1 y2 hb10
        have y0 := M10.out.c0
        have y1 := M10.out.c1
        have y2 := M10.out.c2
        go_wp2_with fail
        refine (implTakesOk_any m s2 _ _ _ M10.out.ints M10.out.bools hwf hs2m).mono ?_
        rintro e w11 ⟨rfl, hb11⟩
        have M11 := Lib.hid (M10.out.below hb11)
        have q11 := Lib.hid (q10.out.trans (hb11.mono q10.out.size))
        clear y0 y1 y2 hb11
        have y0 := M11.out.c0
        cases ht : m.takes s2 with
        | false =>
          go_wp2_with fail
          go_ret
          exact ⟨rfl, q11.out⟩
        | true =>
          have hle := short_least HK.out HSS.out ht
          have hlei : (wd.size : Int) ≤ (s2.size : Int) := by omega
          go_wp2_with fail
          go_ret
          exact ⟨rfl, q11.out⟩
end Go.Proofs.Ytdgpemjbaciiaaa
