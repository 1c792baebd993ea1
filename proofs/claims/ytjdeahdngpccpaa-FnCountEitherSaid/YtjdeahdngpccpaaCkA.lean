/- Plain mathematics of words: back, rolled, counted, differing. No program, no condition. Plain mathematics of runs. No program, no condition. Rules as plain data: which are rules, what they ask of a word, how their machines go on. No program is named here. No condition. Terms of marks as plain data: which rows of marks are terms, the trees that they stand for, their texts. No program is named here. No condition. What terms mean, by their trees; how marks are read with a stack, and backwards. No program is named here. No condition. How slices of marks lie in memory: five cells a mark. No conditi -/
import Derived.Test.YtjdeahdngpccpaaMath
import Derived.Test.YtjdeahdngpccpaaBfs
import Derived.Test.YtjdeahdngpccpaaReads
import Derived.Test.YtjdeahdngpccpaaFrame
import Derived.Shelf.SlicesE.Reverse
import Derived.Test.YtjdeahdngpccpaaRolled
import Derived.OneCell
import Derived.WalkSmall
import Derived.RangeFuncNested
import Derived.RangeFuncBound
import Derived.RangeFuncCalls
import Derived.RangeFuncLeaves
import Derived.Shelf.Abstract
import Derived.Shelf.RegionOpen
import Derived.WalkKit
import Derived.OwnWalkIn
import Derived.TacticsInMore
import Derived.LoopNIn
import Derived.LoopIn
import Derived.Maps.AppendAt
import Derived.Sort.BigQuietIn
import Derived.Test.YtjdeahdngpccpaaWords
import Derived.Shelf.Strings.Search3
import Derived.Shelf.Vars
import Derived.Test.YtjdeahdngpccpaaProg
import Derived.Deep.RegionWith
import Derived.Laws.EntriesVeiled
import Derived.Test.YtjdeahdngpccpaaStep
import Derived.Test.YtjdeahdngpccpaaQueue
import Derived.Test.YtjdeahdngpccpaaBack2
import Derived.Outline

namespace Go.Proofs.Ytjdeahdngpccpaa

theorem backStr_yes {s : ByteArray} (h : wordOk s = true) : backStr s = backFrom s 0 := by simp [backStr, h]
theorem backStr_no {s : ByteArray} (h : wordOk s = false) : backStr s = ⟨#[]⟩ := by simp [backStr, h]
theorem back0_list (s : ByteArray) : (backFrom s 0).data.toList = s.data.toList.reverse := by simp [backFrom]
theorem wordOk_list {s : ByteArray} : wordOk s = true ↔ (∀ x ∈ s.data.toList, isL x = true) ∧ s.data.toList.length ≤ 14 := by
  simp only [wordOk, Bool.and_eq_true, decide_eq_true_eq, allL, List.all_eq_true, len_data]
theorem wordOk_back {s : ByteArray} (h : wordOk s = true) : wordOk (backStr s) = true := by
  rw [backStr_yes h, wordOk_list, back0_list]
  have := wordOk_list.1 h
  exact ⟨fun x hx => this.1 x (List.mem_reverse.1 hx), by rw [List.length_reverse]; exact this.2⟩
theorem back_back {s : ByteArray} (h : wordOk s = true) : backStr (backStr s) = s := by
  rw [backStr_yes (wordOk_back h), backStr_yes h]
  apply bytes_ext
  rw [back0_list, back0_list, List.reverse_reverse]
theorem back_size {s : ByteArray} (h : wordOk s = true) : (backStr s).size = s.size := by
  rw [← len_data, ← len_data, backStr_yes h, back0_list, List.length_reverse]
theorem back_no_size {s : ByteArray} (h : wordOk s = false) : (backStr s).size = 0 := by rw [backStr_no h]; rfl

/-- a rolled list -/
theorem rolled_list (s : ByteArray) (k : Nat) (h : rolledOk s k = true) : (rolledStr s k).data.toList = s.data.toList.drop k ++ s.data.toList.take k := by
  rw [rolledStr_yes s k h, ByteArray.data_append, Array.toList_append, ByteArray.data_extract, ByteArray.data_extract, Array.toList_extract, Array.toList_extract, List.extract_eq_take_drop, List.extract_eq_take_drop]
  rw [List.drop_zero, Nat.sub_zero]
  congr 1
  rw [List.take_of_length_le]
  rw [List.length_drop, len_data]; exact Nat.le_refl _
theorem rolledOk_nat {s : ByteArray} {k : Nat} : rolledOk s k = true ↔ wordOk s = true ∧ k ≤ s.size := by
  simp only [rolledOk, Bool.and_eq_true, decide_eq_true_eq]
  exact ⟨fun h => ⟨h.1, by omega⟩, fun h => ⟨h.1, by omega, by omega⟩⟩
theorem rolledOk_int {s : ByteArray} {k : Int} (h : rolledOk s k = true) : ∃ n : Nat, k = n ∧ n ≤ s.size ∧ wordOk s = true := by
  simp only [rolledOk, Bool.and_eq_true, decide_eq_true_eq] at h
  exact ⟨k.toNat, by omega, by omega, h.1⟩
theorem rolled_word {s : ByteArray} {k : Nat} (h : rolledOk s k = true) : wordOk (rolledStr s k) = true := by
  have hw := wordOk_list.1 (rolledOk_nat.1 h).1
  rw [wordOk_list, rolled_list s k h]
  refine ⟨fun x hx => ?_, ?_⟩
  · rcases List.mem_append.1 hx with h1 | h1
    · exact hw.1 x (List.mem_of_mem_drop h1)
    · exact hw.1 x (List.mem_of_mem_take h1)
  · rw [List.length_append, List.length_drop, List.length_take]; omega
theorem rolled_size {s : ByteArray} {k : Nat} (h : rolledOk s k = true) : (rolledStr s k).size = s.size := by
  have hk := (rolledOk_nat.1 h).2
  rw [← len_data, rolled_list s k h, List.length_append, List.length_drop, List.length_take, len_data]; omega
theorem rolled_rest {s : ByteArray} {k : Nat} (h : rolledOk s k = true) : rolledOk (rolledStr s k) ((s.size : Int) - k) = true := by
  have hk := (rolledOk_nat.1 h).2
  rw [show ((s.size : Int) - k) = ((s.size - k : Nat) : Int) from by omega, rolledOk_nat, rolled_size h]
  exact ⟨rolled_word h, by omega⟩
theorem rolled_back {s : ByteArray} {k : Nat} (h : rolledOk s k = true) : rolledStr (rolledStr s k) ((s.size : Int) - k) = s := by
  have hk := (rolledOk_nat.1 h).2
  have hr := rolled_rest h
  rw [show ((s.size : Int) - k) = ((s.size - k : Nat) : Int) from by omega] at hr ⊢
  apply bytes_ext
  rw [rolled_list _ _ hr, rolled_list s k h]
  have hl : (s.data.toList.drop k).length = s.size - k := by rw [List.length_drop, len_data]
  rw [← hl, List.drop_left, List.take_left, List.take_append_drop]

theorem rolled_last {s : ByteArray} (h : rolledOk s 1 = true) (h0 : 0 < s.size) (h1 : s.size - 1 < (rolledStr s 1).size) : (rolledStr s 1)[s.size - 1] = s[0] := by
  have hl : (rolledStr s 1).data.toList = s.data.toList.drop 1 ++ s.data.toList.take 1 := rolled_list s 1 h
  have hd : (s.data.toList.drop 1).length = s.size - 1 := by rw [List.length_drop, len_data]
  have h2 : s.size - 1 < (rolledStr s 1).data.toList.length := by rw [len_data]; exact h1
  show (rolledStr s 1).data.toList[s.size - 1]'h2 = s.data.toList[0]'(by rw [len_data]; exact h0)
  simp only [hl]
  rw [List.getElem_append_right (by rw [hd]; exact Nat.le_refl _)]
  simp only [hd, Nat.sub_self, List.getElem_take]

/-- how often a byte is in a list -/
theorem cntTo_shift (p : Nat → Bool) (k : Nat) : cntTo p (k + 1) = (if p 0 = true then 1 else 0) + cntTo (fun i => p (i + 1)) k := by
  induction k with
  | zero => simp [cntTo]
  | succ k ih => rw [cntTo, ih, cntTo]; omega
theorem cntEq_count (l : List UInt8) (c : UInt8) : cntEq l c l.length = (l.countP (· == c) : Int) := by
  induction l with
  | nil => rfl
  | cons a l ih =>
    simp only [cntEq, List.length_cons] at ih ⊢
    rw [cntTo_shift]
    have e : (fun i => (a :: l).getD (i + 1) 0 == c) = fun i => l.getD i 0 == c := by funext i; simp [List.getD]
    rw [e, ih, List.countP_cons]
    simp only [List.getD_cons_zero]
    split <;> omega
theorem countOf_list {s t : ByteArray} (h : wordOk s = true) (g : letterOk t = true) : countOf s t = (s.data.toList.countP (· == byteAt t 0) : Int) := by
  have e : countOf s t = cntEq s.data.toList (byteAt t 0) s.size := by simp [countOf, h, g]
  rw [e, ← len_data, cntEq_count]
theorem countOf_back {s t : ByteArray} (h : wordOk s = true) (g : letterOk t = true) : countOf (backStr s) t = countOf s t := by
  rw [countOf_list h g, countOf_list (wordOk_back h) g, backStr_yes h, back0_list, List.countP_reverse]
theorem countOf_rolled {s t : ByteArray} {k : Nat} (h : rolledOk s k = true) (g : letterOk t = true) : countOf (rolledStr s k) t = countOf s t := by
  rw [countOf_list (rolledOk_nat.1 h).1 g, countOf_list (rolled_word h) g, rolled_list s k h, List.countP_append, Int.natCast_add, Int.add_comm, ← Int.natCast_add, ← List.countP_append, List.take_append_drop]
theorem three_counts (l : List UInt8) (h : ∀ x ∈ l, isL x = true) : l.countP (· == 114) + l.countP (· == 100) + l.countP (· == 110) = l.length := by
  induction l with
  | nil => rfl
  | cons a l ih =>
    have h1 := ih (fun x hx => h x (List.mem_cons_of_mem _ hx))
    have h2 := h a (List.mem_cons_self ..)
    simp only [isL, Bool.or_eq_true, beq_iff_eq] at h2
    simp only [List.countP_cons, List.length_cons]
    rcases h2 with (rfl | rfl) | rfl <;> simp <;> omega
theorem countOf_three {s : ByteArray} (h : wordOk s = true) : countOf s ⟨#[114]⟩ + countOf s ⟨#[100]⟩ + countOf s ⟨#[110]⟩ = s.size := by
  rw [countOf_list h (by decide +kernel), countOf_list h (by decide +kernel), countOf_list h (by decide +kernel)]
  have e1 : byteAt ⟨#[114]⟩ 0 = 114 := rfl
  have e2 : byteAt ⟨#[100]⟩ 0 = 100 := rfl
  have e3 : byteAt ⟨#[110]⟩ 0 = 110 := rfl
  rw [e1, e2, e3]
  have := three_counts s.data.toList (wordOk_list.1 h).1
  rw [len_data] at this
  omega
theorem countOf_bd {s t : ByteArray} (h : wordOk s = true) (g : letterOk t = true) : 0 ≤ countOf s t ∧ countOf s t ≤ s.size := by
  rw [countOf_list h g]
  have := List.countP_le_length (l := s.data.toList) (p := (· == byteAt t 0))
  rw [len_data] at this
  omega

/-- differences -/
theorem cntTo_congr {p q : Nat → Bool} (k : Nat) (h : ∀ i, i < k → p i = q i) : cntTo p k = cntTo q k := by
  induction k with
  | zero => rfl
  | succ k ih => rw [cntTo, cntTo, ih (fun i hi => h i (by omega)), h k (by omega)]
theorem cntNe_comm (l m : List UInt8) (k : Nat) : cntNe l m k = cntNe m l k := by
  apply cntTo_congr
  intro i _
  rw [Bool.eq_iff_iff, bne_iff_ne, bne_iff_ne]; exact ⟨Ne.symm, Ne.symm⟩
theorem cntTo_zero {p : Nat → Bool} {k : Nat} : cntTo p k = 0 ↔ ∀ i, i < k → p i = false := by
  induction k with
  | zero => simp [cntTo]
  | succ k ih =>
    have hb := cntTo_bd p k
    rw [cntTo]
    cases h : p k with
    | true =>
      simp
      refine ⟨fun e => by omega, fun e => ?_⟩
      have := e k (by omega)
      rw [h] at this; cases this
    | false =>
      simp
      rw [ih]
      refine ⟨fun e i hi => ?_, fun e i hi => e i (by omega)⟩
      by_cases hk : i = k
      · rw [hk, h]
      · exact e i (by omega)
theorem cntTo_tri {p q r : Nat → Bool} (k : Nat) (h : ∀ i, i < k → p i = true → q i = true ∨ r i = true) : cntTo p k ≤ cntTo q k + cntTo r k := by
  induction k with
  | zero => simp [cntTo]
  | succ k ih =>
    have i1 := ih (fun i hi => h i (by omega))
    have i2 := h k (by omega)
    rw [cntTo, cntTo, cntTo]
    cases hp : p k <;> cases hq : q k <;> cases hr : r k <;> simp_all <;> omega
theorem differOf_comm (s t : ByteArray) : differOf s t = differOf t s := by
  unfold differOf
  by_cases e : s.size = t.size
  · rw [cntNe_comm, ← e]
    cases wordOk s <;> cases wordOk t <;> simp
  · have e' : ¬ t.size = s.size := fun h => e h.symm
    simp [e, e']
theorem differOf_bd (s t : ByteArray) : -1 ≤ differOf s t ∧ differOf s t ≤ s.size := by
  unfold differOf
  have := cntNe_bd s.data.toList t.data.toList s.size
  split <;> omega
theorem differOf_ok {s t : ByteArray} (h : 0 ≤ differOf s t) : wordOk s = true ∧ wordOk t = true ∧ s.size = t.size := by
  unfold differOf at h
  split at h
  · rename_i hc; simp only [Bool.and_eq_true, decide_eq_true_eq] at hc; exact ⟨hc.1.1, hc.1.2, hc.2⟩
  · omega
theorem differOf_val {s t : ByteArray} (h : wordOk s = true ∧ wordOk t = true ∧ s.size = t.size) : differOf s t = cntNe s.data.toList t.data.toList s.size := by
  unfold differOf; rw [if_pos]; simp only [Bool.and_eq_true, decide_eq_true_eq]; exact ⟨⟨h.1, h.2.1⟩, h.2.2⟩
theorem differOf_zero {s t : ByteArray} (h : 0 ≤ differOf s t) : differOf s t = 0 ↔ s = t := by
  have ho := differOf_ok h
  rw [differOf_val ho, cntNe, cntTo_zero]
  refine ⟨fun e => bytes_ext (List.ext_getElem (by rw [len_data, len_data]; exact ho.2.2) fun i h1 h2 => ?_), fun e i _ => by rw [e]; simp⟩
  have := e i (by rw [← len_data]; exact h1)
  have e1 : s.data.toList.getD i 0 = s.data.toList[i] := by rw [List.getD, List.getElem?_eq_getElem h1]; rfl
  have e2 : t.data.toList.getD i 0 = t.data.toList[i] := by rw [List.getD, List.getElem?_eq_getElem h2]; rfl
  simp only [bne_eq_false_iff_eq] at this
  rw [e1, e2] at this
  exact this
theorem differOf_tri (a b c : ByteArray) (h : 0 ≤ differOf a b) (h1 : 0 ≤ differOf a c) (h2 : 0 ≤ differOf c b) : differOf a b ≤ differOf a c + differOf c b := by
  have o0 := differOf_ok h
  have o1 := differOf_ok h1
  have o2 := differOf_ok h2
  rw [differOf_val o0, differOf_val o1, differOf_val o2, ← o1.2.2]
  apply cntTo_tri
  intro i _ hp
  rw [bne_iff_ne] at hp
  rw [bne_iff_ne, bne_iff_ne]
  by_cases e : a.data.toList.getD i 0 = c.data.toList.getD i 0
  · exact .inr (fun e2 => hp (e.trans e2))
  · exact .inl e
end Go.Proofs.Ytjdeahdngpccpaa

namespace Go.Proofs.Ytjdeahdngpccpaa

theorem snoc_cases {α : Type} (l : List α) : l = [] ∨ ∃ ys p, l = ys ++ [p] := by
  match h : l.reverse with
  | [] => exact .inl (List.reverse_eq_nil_iff.1 h)
  | p :: r => exact .inr ⟨r.reverse, p, by rw [← List.reverse_reverse l, h, List.reverse_cons]⟩
theorem snoc_indR {α : Type} {P : List α → Prop} (h0 : P []) (h1 : ∀ l c, P l → P (l ++ [c])) (l : List α) : P l := by
  have : ∀ l : List α, P l.reverse := by
    intro l
    induction l with
    | nil => exact h0
    | cons c l ih => rw [List.reverse_cons]; exact h1 _ _ ih
  rw [← List.reverse_reverse l]; exact this _

/-- a letter put behind a row of runs -/
def snocRun (xs : List (UInt8 × Nat)) (c : UInt8) : List (UInt8 × Nat) :=
  match xs.getLast? with
  | some (d, n) => if d = c then xs.dropLast ++ [(d, n + 1)] else xs ++ [(c, 1)]
  | none => [(c, 1)]
/-- the runs of a list, from the first on -/
def runsL (l : List UInt8) : List (UInt8 × Nat) := l.foldl snocRun []
theorem runsL_nil : runsL [] = [] := rfl
theorem runsL_snoc (l : List UInt8) (c : UInt8) : runsL (l ++ [c]) = snocRun (runsL l) c := by
  simp [runsL, List.foldl_append]
theorem snocRun_new (xs : List (UInt8 × Nat)) (c : UInt8) (h : ∀ d n, xs.getLast? = some (d, n) → d ≠ c) : snocRun xs c = xs ++ [(c, 1)] := by
  unfold snocRun
  cases e : xs.getLast? with
  | none => rw [List.getLast?_eq_none_iff] at e; rw [e]; rfl
  | some p =>
    obtain ⟨d, n⟩ := p
    simp only
    rw [if_neg (h d n e)]
theorem snocRun_same (xs : List (UInt8 × Nat)) (c : UInt8) (n : Nat) : snocRun (xs ++ [(c, n)]) c = xs ++ [(c, n + 1)] := by
  simp [snocRun]
theorem snocRun_ne (xs : List (UInt8 × Nat)) (c : UInt8) : snocRun xs c ≠ [] := by
  unfold snocRun
  split
  · split <;> simp
  · simp
theorem snocRun_cases (xs : List (UInt8 × Nat)) (c : UInt8) : (∃ ys n, xs = ys ++ [(c, n)] ∧ snocRun xs c = ys ++ [(c, n + 1)]) ∨ (snocRun xs c = xs ++ [(c, 1)] ∧ ∀ d n, xs.getLast? = some (d, n) → d ≠ c) := by
  rcases snoc_cases xs with rfl | ⟨ys, ⟨d, n⟩, rfl⟩
  · exact .inr ⟨rfl, fun d n h => by cases h⟩
  · by_cases hd : d = c
    · subst hd
      exact .inl ⟨ys, n, rfl, snocRun_same _ _ _⟩
    · have hh : ∀ d' n', (ys ++ [(d, n)]).getLast? = some (d', n') → d' ≠ c := fun d' n' h => by
        simp at h
        rw [← h.1]; exact hd
      exact .inr ⟨snocRun_new _ c hh, hh⟩

/-- what holds of all runs -/
theorem runsL_pos (l : List UInt8) : ∀ p ∈ runsL l, 1 ≤ p.2 := by
  refine snoc_indR (P := fun l => ∀ p ∈ runsL l, 1 ≤ p.2) ?_ ?_ l
  · intro p h; cases h
  · intro l c ih
    rw [runsL_snoc]
    rcases snocRun_cases (runsL l) c with ⟨ys, n, h1, h2⟩ | ⟨h2, _⟩
    · rw [h2]
      rw [h1] at ih
      intro p hp
      rcases List.mem_append.1 hp with h | h
      · exact ih p (List.mem_append.2 (.inl h))
      · simp at h; subst h; simp
    · rw [h2]
      intro p hp
      rcases List.mem_append.1 hp with h | h
      · exact ih p h
      · simp at h; subst h; simp
theorem runsL_sum (l : List UInt8) : ((runsL l).map (·.2)).sum = l.length := by
  refine snoc_indR (P := fun l => ((runsL l).map (·.2)).sum = l.length) ?_ ?_ l
  · rfl
  · intro l c ih
    rw [runsL_snoc]
    rcases snocRun_cases (runsL l) c with ⟨ys, n, h1, h2⟩ | ⟨h2, _⟩
    · rw [h1] at ih
      rw [h2]; simp at ih ⊢; omega
    · rw [h2]; simp at ih ⊢; omega
theorem runsL_length (l : List UInt8) : (runsL l).length ≤ l.length := by
  have h1 := runsL_sum l
  have h2 := runsL_pos l
  rw [← h1]
  generalize runsL l = xs at h2
  induction xs with
  | nil => simp
  | cons a xs ih =>
    have := h2 a (List.mem_cons_self ..)
    have := ih (fun p hp => h2 p (List.mem_cons_of_mem _ hp))
    simp; omega

/-- a letter put before a row of runs -/
def consRun (c : UInt8) (xs : List (UInt8 × Nat)) : List (UInt8 × Nat) := (snocRun xs.reverse c).reverse
theorem consRun_eq (c f : UInt8) (m : Nat) (zs : List (UInt8 × Nat)) : consRun c ((f, m) :: zs) = (if f = c then (f, m + 1) :: zs else (c, 1) :: (f, m) :: zs) := by
  unfold consRun snocRun
  simp
  split <;> simp
theorem snocRun_eq (d e : UInt8) (n : Nat) (zs : List (UInt8 × Nat)) : snocRun (zs ++ [(e, n)]) d = (if e = d then zs ++ [(e, n + 1)] else zs ++ [(e, n), (d, 1)]) := by
  unfold snocRun
  simp
theorem consRun_snoc (c d : UInt8) (xs : List (UInt8 × Nat)) : consRun c (snocRun xs d) = snocRun (consRun c xs) d := by
  match xs with
  | [] =>
    by_cases h : c = d
    · subst h; simp [consRun, snocRun]
    · have h' : ¬ d = c := fun e => h e.symm
      simp [consRun, snocRun, h, h']
  | (f, m) :: r =>
    rcases snoc_cases r with rfl | ⟨ys, ⟨e, n⟩, rfl⟩
    · by_cases h1 : f = d <;> by_cases h2 : f = c
      · subst h1; subst h2; simp [consRun, snocRun]
      · subst h1; simp [consRun, snocRun, h2]
      · subst h2; simp [consRun, snocRun, h1]
      · simp [consRun, snocRun, h1, h2]
    · have a1 : (f, m) :: (ys ++ [(e, n)]) = ((f, m) :: ys) ++ [(e, n)] := rfl
      have a2 : ∀ k, (f, k) :: (ys ++ [(e, n)]) = ((f, k) :: ys) ++ [(e, n)] := fun _ => rfl
      have a3 : (c, 1) :: (f, m) :: (ys ++ [(e, n)]) = ((c, 1) :: (f, m) :: ys) ++ [(e, n)] := rfl
      rw [a1, snocRun_eq, ← a1, consRun_eq]
      by_cases h1 : e = d
      · rw [if_pos h1, List.cons_append, consRun_eq]
        by_cases h2 : f = c
        · rw [if_pos h2, if_pos h2, a2, snocRun_eq, if_pos h1]; rfl
        · rw [if_neg h2, if_neg h2, a3, snocRun_eq, if_pos h1]; rfl
      · rw [if_neg h1, List.cons_append, consRun_eq]
        by_cases h2 : f = c
        · rw [if_pos h2, if_pos h2, a2, snocRun_eq, if_neg h1]; rfl
        · rw [if_neg h2, if_neg h2, a3, snocRun_eq, if_neg h1]; rfl
theorem runsL_cons (c : UInt8) (l : List UInt8) : runsL (c :: l) = consRun c (runsL l) := by
  refine snoc_indR (P := fun l => runsL (c :: l) = consRun c (runsL l)) ?_ ?_ l
  · rfl
  · intro l d ih
    rw [← List.cons_append, runsL_snoc, ih, runsL_snoc, consRun_snoc]
theorem runsL_reverse (l : List UInt8) : runsL l.reverse = (runsL l).reverse := by
  induction l with
  | nil => rfl
  | cons c l ih => rw [List.reverse_cons, runsL_snoc, ih, runsL_cons, consRun, List.reverse_reverse]

/-- the longest run of a letter -/
def longestIn (xs : List (UInt8 × Nat)) (c : UInt8) : Nat := xs.foldl (fun m p => if p.1 = c then max m p.2 else m) 0
theorem longestIn_snoc (xs : List (UInt8 × Nat)) (p : UInt8 × Nat) (c : UInt8) : longestIn (xs ++ [p]) c = if p.1 = c then max (longestIn xs c) p.2 else longestIn xs c := by
  simp [longestIn, List.foldl_append]
/-- how long the run at the end is, if it is of the letter -/
def nowIn (xs : List (UInt8 × Nat)) (c : UInt8) : Nat :=
  match xs.getLast? with
  | some (d, n) => if d = c then n else 0
  | none => 0
theorem now_le (xs : List (UInt8 × Nat)) (c : UInt8) : nowIn xs c ≤ longestIn xs c := by
  rcases snoc_cases xs with rfl | ⟨ys, ⟨d, n⟩, rfl⟩
  · simp [nowIn]
  · rw [longestIn_snoc]
    simp only [nowIn, List.getLast?_append, List.getLast?_singleton]
    simp
    split <;> omega
theorem snoc_hit (xs : List (UInt8 × Nat)) (c : UInt8) : nowIn (snocRun xs c) c = nowIn xs c + 1 ∧ longestIn (snocRun xs c) c = max (longestIn xs c) (nowIn xs c + 1) := by
  rcases snocRun_cases xs c with ⟨ys, n, h1, h2⟩ | ⟨h2, h3⟩
  · rw [h2, h1, longestIn_snoc, longestIn_snoc]
    simp [nowIn]
  · have h0 : nowIn xs c = 0 := by
      unfold nowIn
      split
      · rename_i d n e; rw [if_neg (h3 d n e)]
      · rfl
    rw [h2, longestIn_snoc, h0]
    simp [nowIn]
theorem snoc_miss (xs : List (UInt8 × Nat)) (c d : UInt8) (h : d ≠ c) : nowIn (snocRun xs d) c = 0 ∧ longestIn (snocRun xs d) c = longestIn xs c := by
  rcases snocRun_cases xs d with ⟨ys, n, h1, h2⟩ | ⟨h2, h3⟩
  · rw [h2, h1, longestIn_snoc, longestIn_snoc]
    simp [nowIn, h]
  · rw [h2, longestIn_snoc]
    simp [nowIn, h]
theorem longestIn_le (xs : List (UInt8 × Nat)) (c : UInt8) : longestIn xs c ≤ (xs.map (·.2)).sum := by
  refine snoc_indR (P := fun xs => longestIn xs c ≤ (xs.map (·.2)).sum) ?_ ?_ xs
  · simp [longestIn]
  · intro xs p ih
    rw [longestIn_snoc]; simp; split <;> omega
/-- LongestOf's number -/
def longestOf (s t : ByteArray) : Int := if (wordOk s && letterOk t) = true then (longestIn (runsL s.data.toList) (byteAt t 0) : Int) else -1
/-- RunsOf's numbers -/
def runsOf (s : ByteArray) : List Int := if wordOk s = true then (runsL s.data.toList).map (fun p => (p.2 : Int)) else []
end Go.Proofs.Ytjdeahdngpccpaa

namespace Go.Proofs.Ytjdeahdngpccpaa

structure Ru where
  kind : Int
  letter : ByteArray
  thn : ByteArray
  many : Int
def inB (lo hi n : Int) : Bool := decide (lo ≤ n) && decide (n ≤ hi)
def noThen (t : ByteArray) : Bool := decide (t = ⟨#[]⟩)
/-- RuleOk -/
def Ru.ok (r : Ru) : Bool := letterOk r.letter && (
  if r.kind = 0 then noThen r.thn && inB 0 4 r.many else
  if r.kind = 1 then noThen r.thn && inB 2 4 r.many else
  if r.kind = 2 then letterOk r.thn && decide (r.many = 0) else
  if r.kind = 3 then noThen r.thn && inB 0 5 r.many else
  if r.kind = 4 then noThen r.thn && inB 1 5 r.many else false)

theorem letterOk_cases {t : ByteArray} (h : letterOk t = true) : t = ⟨#[114]⟩ ∨ t = ⟨#[100]⟩ ∨ t = ⟨#[110]⟩ := by
  have hs : t.size = 1 := by simp [letterOk] at h; exact h.1
  rw [letterOk_one t hs (by omega)] at h
  have e : t.data.toList = [t[0]] := by
    apply List.ext_getElem
    · simpa using hs
    · intro i h1 h2
      have : i = 0 := by simp at h2; exact h2
      subst this; rfl
  simp only [isL, Bool.or_eq_true, beq_iff_eq] at h
  rcases h with (h | h) | h
  · exact .inl (bytes_ext (by rw [e, h]))
  · exact .inr (.inl (bytes_ext (by rw [e, h])))
  · exact .inr (.inr (bytes_ext (by rw [e, h])))
theorem Ru.ok_letter {r : Ru} (h : r.ok = true) : letterOk r.letter = true := by
  simp only [Ru.ok, Bool.and_eq_true] at h; exact h.1
theorem inB_iff {lo hi n : Int} : inB lo hi n = true ↔ lo ≤ n ∧ n ≤ hi := by simp [inB]
/-- which rules there are -/
theorem Ru.ok_iff {r : Ru} : r.ok = true ↔ letterOk r.letter = true ∧
    ((r.kind = 0 ∧ r.thn = ⟨#[]⟩ ∧ 0 ≤ r.many ∧ r.many ≤ 4) ∨ (r.kind = 1 ∧ r.thn = ⟨#[]⟩ ∧ 2 ≤ r.many ∧ r.many ≤ 4) ∨ (r.kind = 2 ∧ letterOk r.thn = true ∧ r.many = 0) ∨
      (r.kind = 3 ∧ r.thn = ⟨#[]⟩ ∧ 0 ≤ r.many ∧ r.many ≤ 5) ∨ (r.kind = 4 ∧ r.thn = ⟨#[]⟩ ∧ 1 ≤ r.many ∧ r.many ≤ 5)) := by
  unfold Ru.ok
  rw [Bool.and_eq_true]
  refine and_congr Iff.rfl ?_
  by_cases h0 : r.kind = 0
  · simp [h0, noThen, inB_iff]
  by_cases h1 : r.kind = 1
  · simp [h1, noThen, inB_iff]
  by_cases h2 : r.kind = 2
  · simp [h2]
  by_cases h3 : r.kind = 3
  · simp [h3, noThen, inB_iff]
  by_cases h4 : r.kind = 4
  · simp [h4, noThen, inB_iff]
  simp [h0, h1, h2, h3, h4]

/-- a letter right behind another one, among the first k pairs -/
def pairTo (l : List UInt8) (c d : UInt8) (k : Nat) : Bool := (List.range k).any fun i => l.getD i 0 == c && l.getD (i + 1) 0 == d
theorem pairTo_succ (l : List UInt8) (c d : UInt8) (k : Nat) : pairTo l c d (k + 1) = (pairTo l c d k || (l.getD k 0 == c && l.getD (k + 1) 0 == d)) := by
  simp [pairTo, List.range_succ]
theorem pairTo_hit {l : List UInt8} {c d : UInt8} {k n : Nat} (hk : k < n) (h : (l.getD k 0 == c && l.getD (k + 1) 0 == d) = true) : pairTo l c d n = true :=
  List.any_eq_true.2 ⟨k, List.mem_range.2 hk, h⟩
/-- each run of a letter is long enough, among the runs of a list -/
def longAll (xs : List (UInt8 × Nat)) (c : UInt8) (n : Int) : Bool := xs.all fun p => !(p.1 == c) || decide (n ≤ (p.2 : Int))
theorem longAll_snoc (xs : List (UInt8 × Nat)) (p : UInt8 × Nat) (c : UInt8) (n : Int) : longAll (xs ++ [p]) c n = (longAll xs c n && (!(p.1 == c) || decide (n ≤ (p.2 : Int)))) := by
  simp [longAll, List.all_append]
/-- KeepsRule of a rule and a word -/
def Ru.holds (r : Ru) (s : ByteArray) : Bool :=
  if r.kind = 0 then decide ((longestIn (runsL s.data.toList) (byteAt r.letter 0) : Int) ≤ r.many) else
  if r.kind = 1 then longAll (runsL s.data.toList) (byteAt r.letter 0) r.many else
  if r.kind = 2 then !pairTo s.data.toList (byteAt r.letter 0) (byteAt r.thn 0) (s.size - 1) else
  if r.kind = 3 then decide (cntEq s.data.toList (byteAt r.letter 0) s.size ≤ r.many) else
  decide (r.many ≤ cntEq s.data.toList (byteAt r.letter 0) s.size)
def Ru.keeps (r : Ru) (s : ByteArray) : Bool := r.ok && wordOk s && r.holds s

/-- how the machine of a rule goes on: 'its' tells that the letter is the rule's, 'th' that it is the other one -/
def nxR (kind many : Int) (its th : Bool) (s : Int) : Int :=
  if kind = 0 then (if its = true then (if s = many then -1 else s + 1) else 0) else
  if kind = 1 then (if its = true then min (s + 1) many else if 0 < s ∧ s < many then -1 else 0) else
  if kind = 2 then (if s = 1 ∧ th = true then -1 else if its = true then 1 else 0) else
  if its = true then (if kind = 3 ∧ s = many then -1 else min (s + 1) many) else s
def endR (kind many : Int) (s : Int) : Bool :=
  if kind = 1 then (decide (s = 0) || decide (s = many)) else if kind = 4 then decide (s = many) else true
/-- the byte of a letter's number -/
def byteOf (l : Nat) : UInt8 := if l = 0 then 114 else if l = 1 then 100 else 110
def Ru.nx (r : Ru) (s : Int) (l : Nat) : Int := nxR r.kind r.many (byteAt r.letter 0 == byteOf l) (byteAt r.thn 0 == byteOf l) s
def Ru.endAt (r : Ru) (s : Int) : Bool := endR r.kind r.many s
/-- how many states -/
def Ru.st (r : Ru) : Nat := if r.kind = 2 then 2 else r.many.toNat + 1
def Ru.on (r : Ru) (s : Int) (l : Nat) : Option Int := if r.nx s l = -1 then none else some (r.nx s l)
/-- the table -/
def tabTo (f : Int → Nat → Int) : Nat → List Int
  | 0 => []
  | k + 1 => tabTo f k ++ [f k 0, f k 1, f k 2]
def endsTo (f : Int → Bool) (n : Nat) : List Bool := (List.range n).map fun (k : Nat) => f (k : Int)
theorem tabTo_length (f : Int → Nat → Int) (k : Nat) : (tabTo f k).length = 3 * k := by
  induction k with
  | zero => rfl
  | succ k ih => simp only [tabTo, List.length_append, ih, List.length_cons, List.length_nil]; omega
theorem endsTo_length (f : Int → Bool) (n : Nat) : (endsTo f n).length = n := by simp [endsTo]
theorem endsTo_succ (f : Int → Bool) (n : Nat) : endsTo f (n + 1) = endsTo f n ++ [f n] := by simp [endsTo, List.range_succ]

/-- over all rules -/
def onN (kind many : Int) (li : UInt8) (ti : UInt8) (s : Int) (l : Nat) : Int := nxR kind many (li == byteOf l) (ti == byteOf l) s
def bfsN (kind many : Int) (li ti : UInt8) (n : Nat) : List Int × List Int := bfsTo (fun s l => if onN kind many li ti s l = -1 then none else some (onN kind many li ti s l)) (0 : Int) n
def fineN (kind many : Int) (li ti : UInt8) : Bool :=
  let n := if kind = 2 then 2 else many.toNat + 1
  decide ((bfsN kind many li ti n).1 = (List.range n).map (fun (k : Nat) => (k : Int))) && decide ((bfsN kind many li ti n).2 = tabTo (onN kind many li ti) n)
theorem fineN_0 : ∀ m : Nat, m < 5 → ∀ li ∈ [(114 : UInt8), 100, 110], fineN 0 (m : Int) li 0 = true := by decide +kernel
theorem fineN_1 : ∀ m : Nat, m < 5 → 2 ≤ m → ∀ li ∈ [(114 : UInt8), 100, 110], fineN 1 (m : Int) li 0 = true := by decide +kernel
theorem fineN_2 : ∀ li ∈ [(114 : UInt8), 100, 110], ∀ ti ∈ [(114 : UInt8), 100, 110], fineN 2 0 li ti = true := by decide +kernel
theorem fineN_3 : ∀ m : Nat, m < 6 → ∀ li ∈ [(114 : UInt8), 100, 110], fineN 3 (m : Int) li 0 = true := by decide +kernel
theorem fineN_4 : ∀ m : Nat, m < 6 → 1 ≤ m → ∀ li ∈ [(114 : UInt8), 100, 110], fineN 4 (m : Int) li 0 = true := by decide +kernel

theorem letter_byte {t : ByteArray} (h : letterOk t = true) : byteAt t 0 ∈ [(114 : UInt8), 100, 110] := by
  rcases letterOk_cases h with rfl | rfl | rfl <;> decide
/-- the machine of a rule, found by a search, is the table -/
theorem Ru.fine {r : Ru} (h : r.ok = true) : (bfsTo r.on 0 r.st).1 = (List.range r.st).map (fun (k : Nat) => (k : Int)) ∧ (bfsTo r.on 0 r.st).2 = tabTo r.nx r.st := by
  obtain ⟨kind, letter, thn, many⟩ := r
  have key : fineN kind many (byteAt letter 0) (byteAt thn 0) = true := by
    obtain ⟨hl, hr⟩ := Ru.ok_iff.1 h
    have hb := letter_byte hl
    simp only at hr hb
    rcases hr with ⟨rfl, rfl, h0, h1⟩ | ⟨rfl, rfl, h0, h1⟩ | ⟨rfl, ht, rfl⟩ | ⟨rfl, rfl, h0, h1⟩ | ⟨rfl, rfl, h0, h1⟩
    · obtain ⟨m, rfl⟩ := Int.eq_ofNat_of_zero_le h0
      exact fineN_0 m (by omega) _ hb
    · obtain ⟨m, rfl⟩ := Int.eq_ofNat_of_zero_le (show 0 ≤ many by omega)
      exact fineN_1 m (by omega) (by omega) _ hb
    · exact fineN_2 _ hb _ (letter_byte ht)
    · obtain ⟨m, rfl⟩ := Int.eq_ofNat_of_zero_le h0
      exact fineN_3 m (by omega) _ hb
    · obtain ⟨m, rfl⟩ := Int.eq_ofNat_of_zero_le (show 0 ≤ many by omega)
      exact fineN_4 m (by omega) (by omega) _ hb
  simp only [fineN, Bool.and_eq_true, decide_eq_true_eq] at key
  exact key
theorem Ru.st_bd {r : Ru} (h : r.ok = true) : 1 ≤ r.st ∧ r.st ≤ 6 := by
  obtain ⟨kind, letter, thn, many⟩ := r
  obtain ⟨hl, hr⟩ := Ru.ok_iff.1 h
  simp only at hr
  unfold Ru.st
  simp only
  split <;> omega
end Go.Proofs.Ytjdeahdngpccpaa

namespace Go.Proofs.Ytjdeahdngpccpaa

structure Mk where
  kind : Int
  its : Ru
def Ru.void : Ru := ⟨0, ⟨#[]⟩, ⟨#[]⟩, 0⟩
instance : Inhabited Mk := ⟨⟨0, Ru.void⟩⟩
def Ru.isVoid (r : Ru) : Bool := decide (r.kind = 0) && noThen r.letter && noThen r.thn && decide (r.many = 0)
theorem Ru.isVoid_iff {r : Ru} : r.isVoid = true ↔ r = Ru.void := by
  obtain ⟨a, b, c, d⟩ := r
  simp [Ru.isVoid, Ru.void, noThen, and_assoc]

/-- how many parts a mark makes one of -/
def Mk.under (m : Mk) : Nat := if m.kind = 0 then 0 else if m.kind = 3 then 1 else 2
def Mk.fine (m : Mk) : Bool := if m.kind = 0 then m.its.ok else if m.kind = 1 ∨ m.kind = 2 ∨ m.kind = 3 then m.its.isVoid else false
def stepP (m : Mk) (p : Nat) : Option Nat := if m.fine = true ∧ m.under ≤ p then some (p + 1 - m.under) else none
/-- how many parts are left behind the marks -/
def leftOf : List Mk → Nat → Option Nat
  | [], p => some p
  | m :: ms, p => (stepP m p).bind (leftOf ms)
def termOk (ts : List Mk) : Bool := decide (ts.length ≤ 9) && decide (leftOf ts 0 = some 1)

theorem leftOf_append (a b : List Mk) : ∀ p, leftOf (a ++ b) p = (leftOf a p).bind (leftOf b) := by
  induction a with
  | nil => intro p; rfl
  | cons m a ih =>
    intro p
    simp only [List.cons_append, leftOf]
    cases stepP m p with
    | none => rfl
    | some q => simp [ih]
theorem take_succ' {α : Type} {l : List α} {k : Nat} (h : k < l.length) : l.take (k + 1) = l.take k ++ [l[k]] := by
  rw [List.take_add_one]; simp [h]
theorem leftOf_succ {ts : List Mk} {k p : Nat} (hk : k < ts.length) (h : leftOf (ts.take k) 0 = some p) : leftOf (ts.take (k + 1)) 0 = stepP ts[k] p := by
  rw [take_succ' hk, leftOf_append, h]
  simp only [Option.bind_some, leftOf]
  cases stepP ts[k] p <;> rfl
theorem leftOf_stop {ts : List Mk} {k : Nat} (h : leftOf (ts.take k) 0 = none) : leftOf ts 0 = none := by
  rw [← List.take_append_drop k ts, leftOf_append, h]; rfl
theorem termOk_stop {ts : List Mk} {k : Nat} (h : leftOf (ts.take k) 0 = none) : termOk ts = false := by
  simp [termOk, leftOf_stop h]
theorem leftOf_le (ts : List Mk) : ∀ p q, leftOf ts p = some q → q ≤ p + ts.length := by
  induction ts with
  | nil => intro p q h; simp only [leftOf, Option.some.injEq] at h; subst h; simp
  | cons m ts ih =>
    intro p q h
    simp only [leftOf, Option.bind_eq_some_iff] at h
    obtain ⟨r, hr, h⟩ := h
    have := ih _ _ h
    unfold stepP at hr
    split at hr
    · simp only [Option.some.injEq] at hr
      subst hr
      simp only [List.length_cons]
      omega
    · simp at hr

inductive Tm where
  | rule (r : Ru)
  | not (a : Tm)
  | two (or : Bool) (a b : Tm)
def markOf (k : Int) : Mk := ⟨k, Ru.void⟩
def Tm.post : Tm → List Mk
  | .rule r => [⟨0, r⟩]
  | .not a => a.post ++ [markOf 3]
  | .two o a b => a.post ++ b.post ++ [markOf (if o = true then 2 else 1)]
def Tm.good : Tm → Bool
  | .rule r => r.ok
  | .not a => a.good
  | .two _ a b => a.good && b.good
/-- the kind of the last mark -/
def Tm.last : Tm → Int
  | .rule _ => 0
  | .not _ => 3
  | .two o _ _ => if o = true then 2 else 1
def ruleSign (k : Int) : UInt8 := if k = 0 then 42 else if k = 1 then 94 else if k = 2 then 47 else if k = 3 then 60 else 62
def Ru.text (r : Ru) : List UInt8 := r.letter.data.toList ++ [ruleSign r.kind] ++ (if r.kind = 2 then r.thn.data.toList else [UInt8.ofNat (48 + r.many.toNat)])
def inBr (b : Bool) (s : List UInt8) : List UInt8 := if b = true then [40] ++ s ++ [41] else s
def Tm.text : Tm → List UInt8
  | .rule r => r.text
  | .not a => [33] ++ inBr (decide (a.last = 2) || decide (a.last = 1)) a.text
  | .two true a b => a.text ++ [124] ++ inBr (decide (b.last = 2)) b.text
  | .two false a b => inBr (decide (a.last = 2)) a.text ++ [38] ++ inBr (decide (b.last = 2) || decide (b.last = 1)) b.text

theorem Tm.post_pos (T : Tm) : 1 ≤ T.post.length := by
  cases T <;> simp [Tm.post]
  omega
theorem Tm.post_ne (T : Tm) : T.post ≠ [] := fun h => by have := T.post_pos; rw [h] at this; exact absurd this (by decide)
theorem Tm.post_last (T : Tm) : ∃ m, T.post.getLast? = some m ∧ m.kind = T.last := by
  cases T with
  | rule r => exact ⟨_, rfl, rfl⟩
  | not a => exact ⟨markOf 3, by simp [Tm.post], rfl⟩
  | two o a b => exact ⟨markOf (if o = true then 2 else 1), by simp [Tm.post], rfl⟩
theorem markOf_fine {k : Int} (h : k = 1 ∨ k = 2 ∨ k = 3) : (markOf k).fine = true := by
  have : Ru.void.isVoid = true := Ru.isVoid_iff.2 rfl
  rcases h with rfl | rfl | rfl <;> simp [Mk.fine, markOf, this]
/-- a tree's marks make one part more -/
theorem Tm.leftOf_post (T : Tm) (hg : T.good = true) : ∀ p, leftOf T.post p = some (p + 1) := by
  induction T with
  | rule r => intro p; have : r.ok = true := hg; simp [Tm.post, leftOf, stepP, Mk.fine, Mk.under, this]
  | not a ih =>
    intro p
    have hf : (markOf 3).fine = true := markOf_fine (.inr (.inr rfl))
    have hu : (markOf 3).under = 1 := by simp [Mk.under, markOf]
    simp only [Tm.post, leftOf_append, ih hg p, Option.bind_some, leftOf, stepP, hf, hu]
    simp
  | two o a b iha ihb =>
    intro p
    simp only [Tm.good, Bool.and_eq_true] at hg
    have hf : (markOf (if o = true then 2 else 1)).fine = true := markOf_fine (by cases o <;> simp)
    have hu : (markOf (if o = true then 2 else 1)).under = 2 := by cases o <;> simp [Mk.under, markOf]
    simp only [Tm.post, leftOf_append, iha hg.1 p, ihb hg.2, Option.bind_some, leftOf, stepP, hf, hu]
    simp
/-- the marks of a stack of trees, the last one first -/
def posts : List Tm → List Mk
  | [] => []
  | T :: st => posts st ++ T.post
theorem mk_eta (m : Mk) : m = ⟨m.kind, m.its⟩ := rfl
/-- whatever marks can be put together are those of so many trees -/
theorem trees_of (ts : List Mk) : ∀ p, leftOf ts 0 = some p → ∃ st : List Tm, st.length = p ∧ (∀ T ∈ st, T.good = true) ∧ posts st = ts := by
  generalize hn : ts.length = n
  induction n generalizing ts with
  | zero =>
    intro p h
    obtain rfl := List.eq_nil_of_length_eq_zero hn
    simp only [leftOf, Option.some.injEq] at h
    exact ⟨[], by simpa using h, by simp, rfl⟩
  | succ n ih =>
    intro p h
    have hk : n < ts.length := by omega
    have hts : ts = ts.take n ++ [ts[n]] := by
      rw [← take_succ' hk, List.take_of_length_le (by omega)]
    rw [hts, leftOf_append, Option.bind_eq_some_iff] at h
    obtain ⟨q, hq, h⟩ := h
    obtain ⟨st, hl, hgood, hp⟩ := ih (ts.take n) (by simp; omega) q hq
    generalize ts[n] = m at *
    have h' : stepP m q = some p := by
      simp only [leftOf] at h
      cases hs : stepP m q with
      | none => rw [hs] at h; cases h
      | some r => rw [hs] at h; exact h
    unfold stepP at h'
    split at h'
    · rename_i hm
      obtain ⟨hf, hu⟩ := hm
      simp only [Option.some.injEq] at h'
      obtain ⟨mk, mi⟩ := m
      by_cases h0 : mk = 0
      · subst h0
        have hu0 : (⟨0, mi⟩ : Mk).under = 0 := by simp [Mk.under]
        have hok : mi.ok = true := by simpa [Mk.fine] using hf
        refine ⟨.rule mi :: st, by simp; omega, ?_, ?_⟩
        · intro T hT
          rcases List.mem_cons.1 hT with rfl | hT
          · exact hok
          · exact hgood T hT
        · rw [posts, hp, Tm.post]; exact hts.symm
      · have hkind : mk = 1 ∨ mk = 2 ∨ mk = 3 := by
          by_cases hk : mk = 1 ∨ mk = 2 ∨ mk = 3
          · exact hk
          · simp [Mk.fine, h0, hk] at hf
        have hvoid : mi = Ru.void := by
          have : mi.isVoid = true := by simpa [Mk.fine, h0, hkind] using hf
          exact Ru.isVoid_iff.1 this
        subst hvoid
        by_cases h3 : mk = 3
        · subst h3
          have hu1 : (⟨3, Ru.void⟩ : Mk).under = 1 := by simp [Mk.under]
          rw [hu1] at hu h'
          match st, hl, hgood, hp with
          | [], hl, _, _ => simp at hl; omega
          | T :: st, hl, hgood, hp =>
            refine ⟨.not T :: st, by simp at hl ⊢; omega, ?_, ?_⟩
            · intro U hU
              rcases List.mem_cons.1 hU with rfl | hU
              · exact hgood T (by simp)
              · exact hgood U (by simp [hU])
            · rw [hts, ← hp]
              simp [posts, Tm.post, markOf]
        · have h12 : mk = 1 ∨ mk = 2 := by omega
          have hu2 : (⟨mk, Ru.void⟩ : Mk).under = 2 := by simp [Mk.under, h0, h3]
          rw [hu2] at hu h'
          match st, hl, hgood, hp with
          | [], hl, _, _ => simp at hl; omega
          | [T], hl, _, _ => simp at hl; omega
          | U :: T :: st, hl, hgood, hp =>
            refine ⟨.two (decide (mk = 2)) T U :: st, by simp at hl ⊢; omega, ?_, ?_⟩
            · intro V hV
              rcases List.mem_cons.1 hV with rfl | hV
              · simp [Tm.good, hgood T (by simp), hgood U (by simp)]
              · exact hgood V (by simp [hV])
            · rw [hts, ← hp]
              rcases h12 with rfl | rfl <;> simp [posts, Tm.post, markOf]
    · simp at h'
/-- a term is the marks of one tree -/
theorem tree_of {ts : List Mk} (h : termOk ts = true) : ∃ T : Tm, T.good = true ∧ T.post = ts ∧ ts.length ≤ 9 := by
  simp only [termOk, Bool.and_eq_true, decide_eq_true_eq] at h
  obtain ⟨st, hl, hg, hp⟩ := trees_of ts 1 h.2
  match st, hl, hg, hp with
  | [T], _, hg, hp => exact ⟨T, hg T (by simp), by simpa [posts] using hp, h.1⟩
theorem Tm.termOk_post {T : Tm} (hg : T.good = true) (hl : T.post.length ≤ 9) : termOk T.post = true := by
  simp [termOk, hl, T.leftOf_post hg 0]
end Go.Proofs.Ytjdeahdngpccpaa

namespace Go.Proofs.Ytjdeahdngpccpaa

/-- the marks of trees, one behind the other -/
def postL (ts : List Tm) : List Mk := ts.flatMap Tm.post
theorem postL_append (a b : List Tm) : postL (a ++ b) = postL a ++ postL b := by simp [postL]
theorem postL_one (T : Tm) : postL [T] = T.post := by simp [postL]
theorem postL_nil : postL [] = [] := rfl
theorem postL_good {ts : List Tm} (h : ∀ T ∈ ts, T.good = true) (p : Nat) : leftOf (postL ts) p = some (p + ts.length) := by
  induction ts generalizing p with
  | nil => rfl
  | cons T ts ih =>
    have e : postL (T :: ts) = T.post ++ postL ts := by simp [postL]
    rw [e, leftOf_append, T.leftOf_post (h T (by simp)), Option.bind_some, ih (fun U hU => h U (by simp [hU]))]
    simp; omega
/-- what a word keeps -/
def Tm.keeps (s : ByteArray) : Tm → Bool
  | .rule r => r.keeps s
  | .not a => !a.keeps s
  | .two true a b => a.keeps s || b.keeps s
  | .two false a b => a.keeps s && b.keeps s
theorem Tm.post_inj {T U : Tm} (hT : T.good = true) (hU : U.good = true) (h : T.post = U.post) : T = U := by
  have key : ∀ (T : Tm), ∀ (ts us : List Tm), (∀ x ∈ ts, x.good = true) → (∀ x ∈ us, x.good = true) → T.good = true → ∀ U : Tm, U.good = true → postL ts ++ T.post = postL us ++ U.post → T = U ∧ postL ts = postL us := by
    intro T
    induction T with
    | rule r =>
      intro ts us hts hus hT U hU h
      cases U with
      | rule q =>
        simp only [Tm.post] at h
        have := List.append_inj' h rfl
        have h2 : (⟨0, r⟩ : Mk) = ⟨0, q⟩ := by simpa using this.2
        have h3 : r = q := by injection h2
        exact ⟨by rw [h3], this.1⟩
      | not b =>
        simp only [Tm.post] at h
        rw [← List.append_assoc] at h
        have := (List.append_inj' h rfl).2
        have h2 : (⟨0, r⟩ : Mk) = markOf 3 := by simpa using this
        have h3 : (0 : Int) = 3 := by injection h2
        omega
      | two o b c =>
        simp only [Tm.post] at h
        rw [← List.append_assoc] at h
        have := (List.append_inj' h rfl).2
        have h2 : (⟨0, r⟩ : Mk) = markOf (if o = true then 2 else 1) := by simpa using this
        have h3 : (0 : Int) = (if o = true then 2 else 1) := by injection h2
        split at h3 <;> omega
    | not a ih =>
      intro ts us hts hus hT U hU h
      cases U with
      | rule q =>
        simp only [Tm.post] at h
        rw [← List.append_assoc] at h
        have := (List.append_inj' h rfl).2
        have h2 : markOf 3 = (⟨0, q⟩ : Mk) := by simpa using this
        have h3 : (3 : Int) = 0 := by injection h2
        omega
      | not b =>
        simp only [Tm.post] at h
        rw [← List.append_assoc (postL ts), ← List.append_assoc (postL us)] at h
        have := (List.append_inj' h rfl).1
        obtain ⟨h1, h2⟩ := ih ts us hts hus hT b hU this
        exact ⟨by rw [h1], h2⟩
      | two o b c =>
        simp only [Tm.post] at h
        rw [← List.append_assoc (postL ts), ← List.append_assoc (postL us)] at h
        have := (List.append_inj' h rfl).2
        have h2 : markOf 3 = markOf (if o = true then 2 else 1) := by simpa using this
        have h3 : (3 : Int) = (if o = true then 2 else 1) := by injection h2
        split at h3 <;> omega
    | two o a b iha ihb =>
      intro ts us hts hus hT U hU h
      simp only [Tm.good, Bool.and_eq_true] at hT
      cases U with
      | rule q =>
        simp only [Tm.post] at h
        rw [← List.append_assoc] at h
        have := (List.append_inj' h rfl).2
        have h2 : markOf (if o = true then 2 else 1) = (⟨0, q⟩ : Mk) := by simpa using this
        have h3 : (if o = true then 2 else 1) = (0 : Int) := by injection h2
        split at h3 <;> omega
      | not c =>
        simp only [Tm.post] at h
        rw [← List.append_assoc (postL ts), ← List.append_assoc (postL us)] at h
        have := (List.append_inj' h rfl).2
        have h2 : markOf (if o = true then 2 else 1) = markOf 3 := by simpa using this
        have h3 : (if o = true then 2 else 1) = (3 : Int) := by injection h2
        split at h3 <;> omega
      | two o' c d =>
        simp only [Tm.good, Bool.and_eq_true] at hU
        simp only [Tm.post] at h
        rw [← List.append_assoc (postL ts), ← List.append_assoc (postL us)] at h
        have hl := List.append_inj' h rfl
        have ho : o = o' := by
          have h2 : markOf (if o = true then 2 else 1) = markOf (if o' = true then 2 else 1) := by simpa using hl.2
          have h3 : (if o = true then (2 : Int) else 1) = (if o' = true then 2 else 1) := by injection h2
          cases o <;> cases o' <;> simp at h3 ⊢
        subst ho
        have h1 := hl.1
        rw [← List.append_assoc (postL ts), ← List.append_assoc (postL us), ← postL_one a, ← postL_one c, ← postL_append, ← postL_append] at h1
        obtain ⟨hb, hr⟩ := ihb (ts ++ [a]) (us ++ [c]) (fun x hx => by
          rcases List.mem_append.1 hx with hx | hx
          · exact hts x hx
          · rw [List.mem_singleton.1 hx]; exact hT.1) (fun x hx => by
          rcases List.mem_append.1 hx with hx | hx
          · exact hus x hx
          · rw [List.mem_singleton.1 hx]; exact hU.1) hT.2 d hU.2 h1
        rw [postL_append, postL_append, postL_one, postL_one] at hr
        obtain ⟨ha, hr2⟩ := iha ts us hts hus hT.1 c hU.1 hr
        exact ⟨by rw [ha, hb], hr2⟩
  exact (key T [] [] (by simp) (by simp) hT U hU (by simpa [postL] using h)).1

theorem Tm.eq_of_post {T U : Tm} (hT : T.good = true) (hU : U.good = true) (h : T.post = U.post) (s : ByteArray) : T.keeps s = U.keeps s := by rw [Tm.post_inj hT hU h]

/-- one mark more: the trees that it puts together -/
inductive Puts : Mk → List Tm → Tm → Prop
  | rule (r : Ru) : Puts ⟨0, r⟩ [] (.rule r)
  | not (a : Tm) : Puts (markOf 3) [a] (.not a)
  | two (o : Bool) (a b : Tm) : Puts (markOf (if o = true then 2 else 1)) [a, b] (.two o a b)
theorem Puts.len {m : Mk} {subs : List Tm} {T : Tm} (h : Puts m subs T) : subs.length = m.under := by
  cases h with
  | rule r => simp [Mk.under]
  | not a => simp [Mk.under, markOf]
  | two o a b => cases o <;> simp [Mk.under, markOf]
theorem step_trees {ms : List Mk} (hok : termOk ms = true) {k : Nat} (hk : k < ms.length) {sts : List Tm} (hg : ∀ T ∈ sts, T.good = true) (hp : postL sts = ms.take k) :
    ∃ pre subs T, sts = pre ++ subs ∧ Puts ms[k] subs T ∧ (∀ x ∈ pre ++ [T], x.good = true) ∧ postL (pre ++ [T]) = ms.take (k + 1) := by
  have hl : leftOf (ms.take k) 0 = some sts.length := by rw [← hp, postL_good hg, Nat.zero_add]
  have hs := leftOf_succ hk hl
  have hne : leftOf (ms.take (k + 1)) 0 ≠ none := fun h => by rw [termOk_stop h] at hok; cases hok
  rw [hs, stepP] at hne
  have hfu : ms[k].fine = true ∧ ms[k].under ≤ sts.length := by
    by_cases h : ms[k].fine = true ∧ ms[k].under ≤ sts.length
    · exact h
    · rw [if_neg h] at hne; exact absurd rfl hne
  rw [take_succ' hk, ← hp]
  generalize ms[k] = m at *
  obtain ⟨hf, hu⟩ := hfu
  obtain ⟨kd, its⟩ := m
  by_cases h0 : kd = 0
  · subst h0
    have hr : its.ok = true := by simpa [Mk.fine] using hf
    refine ⟨sts, [], .rule its, by simp, .rule its, ?_, by rw [postL_append, postL_one]; rfl⟩
    simp only [List.mem_append, List.mem_singleton]
    rintro x (hx | rfl)
    · exact hg x hx
    · exact hr
  · have hkind : kd = 1 ∨ kd = 2 ∨ kd = 3 := by
      by_cases h : kd = 1 ∨ kd = 2 ∨ kd = 3
      · exact h
      · simp [Mk.fine, h0, h] at hf
    have hv : its = Ru.void := by
      have : its.isVoid = true := by simpa [Mk.fine, h0, hkind] using hf
      exact Ru.isVoid_iff.1 this
    subst hv
    by_cases h3 : kd = 3
    · subst h3
      have hu1 : (⟨3, Ru.void⟩ : Mk).under = 1 := by simp [Mk.under]
      rw [hu1] at hu
      rcases List.eq_nil_or_concat sts with rfl | ⟨pre, a, rfl⟩
      · simp at hu
      · rw [List.concat_eq_append] at *
        refine ⟨pre, [a], .not a, rfl, .not a, ?_, by rw [postL_append, postL_append, postL_one, postL_one, List.append_assoc]; rfl⟩
        simp only [List.mem_append, List.mem_singleton] at hg ⊢
        rintro x (hx | rfl)
        · exact hg x (.inl hx)
        · exact hg a (.inr rfl)
    · have h12 : kd = 1 ∨ kd = 2 := by omega
      have hu2 : (⟨kd, Ru.void⟩ : Mk).under = 2 := by simp [Mk.under, h0, h3]
      rw [hu2] at hu
      rcases List.eq_nil_or_concat sts with rfl | ⟨q, b, rfl⟩
      · simp at hu
      · rw [List.concat_eq_append] at *
        rcases List.eq_nil_or_concat q with rfl | ⟨pre, a, rfl⟩
        · simp at hu
        · rw [List.concat_eq_append] at *
          have hkd : (⟨kd, Ru.void⟩ : Mk) = markOf (if decide (kd = 2) = true then 2 else 1) := by
            rcases h12 with rfl | rfl <;> simp [markOf]
          refine ⟨pre, [a, b], .two (decide (kd = 2)) a b, by simp, by rw [hkd]; exact .two _ a b, ?_, ?_⟩
          · simp only [List.mem_append, List.mem_singleton] at hg ⊢
            rintro x (hx | rfl)
            · exact hg x (.inl (.inl hx))
            · simp [Tm.good, hg a (.inl (.inr rfl)), hg b (.inr rfl)]
          · rw [hkd, postL_append, postL_append, postL_append, postL_one, postL_one, postL_one]
            simp [Tm.post]
theorem last_tree {ms : List Mk} (hok : termOk ms = true) {sts : List Tm} (hg : ∀ T ∈ sts, T.good = true) (hp : postL sts = ms) : ∃ T, sts = [T] := by
  have h1 : leftOf ms 0 = some 1 := by
    simp only [termOk, Bool.and_eq_true, decide_eq_true_eq] at hok
    exact hok.2
  rw [← hp, postL_good hg, Nat.zero_add, Option.some.injEq] at h1
  match sts, h1 with
  | [T], _ => exact ⟨T, rfl⟩
/-- KeepsTerm -/
def IsKept (ms : List Mk) (s : ByteArray) (b : Bool) : Prop := (termOk ms = true ∧ wordOk s = true ∧ ∃ T : Tm, T.good = true ∧ T.post = ms ∧ b = T.keeps s) ∨ ((termOk ms = false ∨ wordOk s = false) ∧ b = false)
theorem IsKept.one {ms : List Mk} {s : ByteArray} {b c : Bool} (h : IsKept ms s b) (g : IsKept ms s c) : b = c := by
  rcases h with ⟨h1, h2, T, h3, h4, rfl⟩ | ⟨h1, rfl⟩ <;> rcases g with ⟨g1, g2, U, g3, g4, rfl⟩ | ⟨g1, rfl⟩
  · exact Tm.eq_of_post h3 g3 (h4.trans g4.symm) s
  · rcases g1 with g1 | g1 <;> simp_all
  · rcases h1 with h1 | h1 <;> simp_all
  · rfl
/-- the last mark of trees that are read backwards -/
theorem back_one (ts : List Tm) (T : Tm) : ∃ m, (postL (ts ++ [T])) = (postL (ts ++ [T])).dropLast ++ [m] ∧ ((m.kind = 0 ∧ (postL (ts ++ [T])).dropLast = postL ts) ∨ (m.kind = 3 ∧ ∃ a, (postL (ts ++ [T])).dropLast = postL (ts ++ [a])) ∨ ((m.kind = 1 ∨ m.kind = 2) ∧ ∃ a b, (postL (ts ++ [T])).dropLast = postL (ts ++ [a, b]))) := by
  cases T with
  | rule r =>
    refine ⟨⟨0, r⟩, ?_, .inl ⟨rfl, ?_⟩⟩ <;> rw [postL_append, postL_one] <;> simp [Tm.post]
  | not a =>
    refine ⟨markOf 3, ?_, .inr (.inl ⟨rfl, a, ?_⟩)⟩
    · rw [postL_append, postL_one]; simp [Tm.post, ← List.append_assoc]
    · rw [postL_append, postL_one, postL_append, postL_one]; simp [Tm.post, ← List.append_assoc]
  | two o a b =>
    refine ⟨markOf (if o = true then 2 else 1), ?_, .inr (.inr ⟨by cases o <;> simp [markOf], a, b, ?_⟩)⟩
    · rw [postL_append, postL_one]; simp [Tm.post, ← List.append_assoc]
    · rw [postL_append, postL_one, postL_append]; simp [Tm.post, postL, ← List.append_assoc]
end Go.Proofs.Ytjdeahdngpccpaa

namespace Go.Proofs.Ytjdeahdngpccpaa
open Go.RowKit Go.ChangeShapes Go.WideShapes Go.ChangeAt Go.Deep

/-- the five cells of a mark -/
def Mk.cells (m : Mk) : List Value := [.int .i64 m.kind, .int .i64 m.its.kind, .string m.its.letter, .string m.its.thn, .int .i64 m.its.many]
def Mk.val (m : Mk) : Value := .agg #[.int .i64 m.kind, .int .i64 m.its.kind, .string m.its.letter, .string m.its.thn, .int .i64 m.its.many]
def markAt (w : World) (g o : Nat) (m : Mk) : Prop :=
  w.cell? ⟨g, o, none⟩ = some (.int .i64 m.kind) ∧ w.cell? ⟨g, o + 1, none⟩ = some (.int .i64 m.its.kind) ∧ w.cell? ⟨g, o + 2, none⟩ = some (.string m.its.letter) ∧ w.cell? ⟨g, o + 3, none⟩ = some (.string m.its.thn) ∧ w.cell? ⟨g, o + 4, none⟩ = some (.int .i64 m.its.many)
/-- what every mark in memory keeps -/
def Mk.wf (m : Mk) : Prop := (Lit.int .i64 m.kind).wf = true ∧ (Lit.int .i64 m.its.kind).wf = true ∧ m.its.letter.size ≤ maxLen ∧ m.its.thn.size ≤ maxLen ∧ (Lit.int .i64 m.its.many).wf = true
def IsMarks (w : World) (v : Value) (ms : List Mk) : Prop :=
  ∃ (a : Option Addr) (cap : Nat), v = .slice a ms.length cap ∧ ms.length ≤ cap ∧ cap ≤ maxLen ∧
    (ms = [] ∨ ∃ g off : Nat, a = some ⟨g, off, none⟩ ∧ g < w.heap.size ∧ ∀ k (h : k < ms.length), markAt w g (off + k * 5) ms[k])
theorem IsMarks.nil (w : World) : IsMarks w (.slice none 0 0) [] := ⟨none, 0, rfl, Nat.le_refl _, Nat.zero_le _, .inl rfl⟩
theorem markAt.below {w w' : World} {g o : Nat} {m : Mk} {B : Nat} (h : markAt w g o m) (hb : Below B w w') (hg : g < B) : markAt w' g o m := by
  obtain ⟨h0, h1, h2, h3, h4⟩ := h
  exact ⟨(hb.cell (p := ⟨g, o, none⟩) hg).trans h0, (hb.cell (p := ⟨g, o + 1, none⟩) hg).trans h1, (hb.cell (p := ⟨g, o + 2, none⟩) hg).trans h2, (hb.cell (p := ⟨g, o + 3, none⟩) hg).trans h3, (hb.cell (p := ⟨g, o + 4, none⟩) hg).trans h4⟩
theorem IsMarks.below {w w' : World} {v : Value} {ms : List Mk} (h : IsMarks w v ms) (hb : Below w.heap.size w w') : IsMarks w' v ms := by
  obtain ⟨a, cap, hv, h1, h2, h3⟩ := h
  exact ⟨a, cap, hv, h1, h2, h3.imp id fun ⟨g, off, ha, hg, hc⟩ => ⟨g, off, ha, Nat.lt_of_lt_of_le hg hb.size, fun k hk => (hc k hk).below hb hg⟩⟩
def cellsM : List Mk → List Value
  | [] => []
  | m :: ms => m.cells ++ cellsM ms
theorem cellsM_length (ms : List Mk) : (cellsM ms).length = ms.length * 5 := by
  induction ms with
  | nil => rfl
  | cons m ms ih => simp only [cellsM, List.length_append, ih, List.length_cons, Mk.cells, List.length_nil]; omega
theorem cellsM_append (a b : List Mk) : cellsM (a ++ b) = cellsM a ++ cellsM b := by
  induction a with
  | nil => rfl
  | cons m a ih => simp [cellsM, ih]
theorem cellsM_at (ms : List Mk) : ∀ k (h : k < ms.length) j, j < 5 → (cellsM ms)[k * 5 + j]? = (ms[k]).cells[j]? := by
  induction ms with
  | nil => intro k h; exact absurd h (Nat.not_lt_zero k)
  | cons m ms ih =>
    intro k h j hj
    have hl : m.cells.length = 5 := rfl
    match k, h with
    | 0, _ =>
      simp only [cellsM, Nat.zero_mul, Nat.zero_add, List.getElem_cons_zero]
      rw [List.getElem?_append_left (by rw [hl]; exact hj)]
    | k + 1, h =>
      simp only [cellsM, List.getElem_cons_succ]
      rw [List.getElem?_append_right (by rw [hl]; omega), hl, show (k + 1) * 5 + j - 5 = k * 5 + j by omega]
      exact ih k (by simpa using h) j hj
theorem IsMarks.of_owns {w : World} {base : Nat} {e : TypeId} {v : Value} {ms : List Mk} (h : w.ownsRow base e 5 v ms.length (cellsM ms)) : IsMarks w v ms := by
  rcases h.2 with ⟨rfl, hn⟩ | ⟨g, cap, cur, rfl, hb, hg, h1, h2, h3, h4⟩
  · obtain rfl : ms = [] := List.eq_nil_of_length_eq_zero hn
    exact IsMarks.nil w
  · refine ⟨some ⟨g, 0, none⟩, cap, rfl, h1, h2, .inr ⟨g, 0, rfl, (h.lt g rfl).2, fun k hk => ?_⟩⟩
    have hc : ∀ j, j < 5 → w.cell? ⟨g, 0 + k * 5 + j, none⟩ = (ms[k]).cells[j]? := fun j hj => by
      rw [Nat.zero_add, h.cellAt (k * 5 + j) (by omega)]
      exact cellsM_at ms k hk j hj
    exact ⟨hc 0 (by omega), hc 1 (by omega), hc 2 (by omega), hc 3 (by omega), hc 4 (by omega)⟩

section
variable {H : Type} {enc : TypeId × Value → H} {P : Program} {w : World}
theorem marks_read {t e r i s : TypeId} {f0 f1 g0 g1 g2 g3 : Field} {fuel : Nat} {v : Value} {x : DataW H × List MemPlace}
    (ht : P.underlying t = some (.slice e)) (he : P.underlying e = some (.struct #[f0, f1])) (hr : P.underlying r = some (.struct #[g0, g1, g2, g3])) (hi : P.underlying i = some (.int .i64)) (hs : P.underlying s = some .string)
    (hf : f0.type = i ∧ f0.offset = 0 ∧ f1.type = r ∧ f1.offset = 1) (hg : g0.type = i ∧ g0.offset = 0 ∧ g1.type = s ∧ g1.offset = 1 ∧ g2.type = s ∧ g2.offset = 2 ∧ g3.type = i ∧ g3.offset = 3)
    (hci : P.cellsOf i = 1) (hcs : P.cellsOf s = 1) (hcr : P.cellsOf r = 4) (hce : P.cellsOf e = 5)
    (h : DataW.trod enc P w 0 (fun _ => true) true fuel t [v] = some x) : ∃ ms : List Mk, IsMarks w v ms ∧ ∀ m ∈ ms, m.wf := by
  rcases open_slice ht h with ⟨hcs', _⟩ | ⟨a, len, cap, m, n, D, Pl, hcs', _, hl, hm, hmm, _, hcell⟩
  · simp only [List.cons.injEq, and_true] at hcs'
    subst hcs'
    exact ⟨[], IsMarks.nil w, fun n h => by cases h⟩
  · simp only [List.cons.injEq, and_true] at hcs'
    subst hcs'
    have hmc : m = cap := by simpa using hmm
    subst hmc
    obtain ⟨e0, o0, e1, o1⟩ := hf
    obtain ⟨t0, p0, t1, p1, t2, p2, t3, p3⟩ := hg
    rw [hce] at hcell
    have hv : ∀ k, k < m → ∃ M : Mk, (∀ j, j < 5 → w.cell? ((a.add (k * 5)).add j) = M.cells[j]?) ∧ M.wf := fun k hk => by
      obtain ⟨cs, h1, h2⟩ := hcell k hk
      obtain ⟨_, hlen, hat⟩ := World.cells?_some h1
      match cs, hlen with
      | [x0, x1, x2, x3, x4], _ =>
        obtain ⟨y0, y1, n1, _, _, k0, k1⟩ := trod_struct2 he h2
        rw [e0, o0, hci] at k0
        rw [e1, o1, hcr] at k1
        simp only [List.drop_zero, List.take_succ_cons, List.take_zero, List.drop_succ_cons] at k0 k1
        obtain ⟨kd, hk0, _, w0⟩ := DataW.trod_int hi k0
        simp only [List.cons.injEq, and_true] at hk0
        obtain ⟨z0, z1, z2, z3, n2, _, _, q0, q1, q2, q3⟩ := Go.Joins.trod_struct4 hr k1
        rw [t0, p0, hci] at q0
        rw [t1, p1, hcs] at q1
        rw [t2, p2, hcs] at q2
        rw [t3, p3, hci] at q3
        simp only [List.drop_zero, List.take_succ_cons, List.take_zero, List.drop_succ_cons] at q0 q1 q2 q3
        obtain ⟨rk, hq0, _, u0⟩ := DataW.trod_int hi q0
        obtain ⟨le, hq1, _, u1⟩ := DataW.trod_string hs q1
        obtain ⟨te, hq2, _, u2⟩ := DataW.trod_string hs q2
        obtain ⟨mn, hq3, _, u3⟩ := DataW.trod_int hi q3
        simp only [List.cons.injEq, and_true] at hq0 hq1 hq2 hq3
        subst hk0 hq0 hq1 hq2 hq3
        exact ⟨⟨kd, rk, le, te, mn⟩, fun j hj => hat j hj, w0, u0, u1, u2, u3⟩
    obtain ⟨M, hM⟩ := choose_lt (α := Mk) (p := fun k M => (∀ j, j < 5 → w.cell? ((a.add (k * 5)).add j) = M.cells[j]?) ∧ M.wf) hv
    refine ⟨(List.range len).map M, ⟨some a, m, by simp, by simpa using hl, hm, ?_⟩, fun x hx => ?_⟩
    · by_cases h0 : len = 0
      · exact .inl (by rw [h0]; rfl)
      · have hfirst : w.cell? (a.add 0) = some (.int .i64 (M 0).kind) := by
          have := (hM 0 (by omega)).1 0 (by omega)
          simpa [Addr.add, Mk.cells] using this
        obtain ⟨g, off, rfl, hgl⟩ := plain_addr hfirst
        refine .inr ⟨g, off, rfl, hgl, fun k hk => ?_⟩
        have hk' : k < len := by simpa using hk
        have hc : ∀ j, j < 5 → w.cell? ⟨g, off + k * 5 + j, none⟩ = (M k).cells[j]? := fun j hj => by
          have := (hM k (by omega)).1 j hj
          rwa [add_off, add_off] at this
        simp only [List.getElem_map, List.getElem_range]
        exact ⟨hc 0 (by omega), hc 1 (by omega), hc 2 (by omega), hc 3 (by omega), hc 4 (by omega)⟩
    · obtain ⟨k, hk, rfl⟩ := List.mem_map.1 hx
      exact (hM k (by have := List.mem_range.1 hk; omega)).2
end
end Go.Proofs.Ytjdeahdngpccpaa

namespace Go.Proofs.Ytjdeahdngpccpaa
open Go.Shelf Go.RowKit

theorem add_zero_at (b j : Nat) : (⟨b, 0, none⟩ : Addr).add j = ⟨b, j, none⟩ := by
  unfold Addr.add
  by_cases h : j = 0
  · simp [h]
  · simp [h]

/-- the cells of a block hold bytes -/
def HasBytes (w : World) (b : Nat) (l : List UInt8) : Prop := ∀ j (h : j < l.length), w.cell? ⟨b, j, none⟩ = some (.int .u8 (l[j].toNat : Int)) ∧ w.frozen? ⟨b, j, none⟩ = false

/-- what '[]byte(s)' lays holds the bytes of s -/
theorem hasBytes_new (w : World) (s : ByteArray) (c : Nat) (t : TypeId) :
    HasBytes ((w.alloc (.cells (bytesRow s c) t ((bytesRow s c).size, (bytesRow s c).size + 1))).drew) w.heap.size s.data.toList := by
  intro j hj
  have hj' : j < s.size := by rw [← len_data]; exact hj
  have hsz : j < s.data.size := hj'
  have hb : j < (bytesRow s c).size := by simp only [bytesRow, Array.size_append, Array.size_map]; omega
  rw [World.cell?_drew, World.frozen?_drew, World.cell?_alloc_mark, World.frozen?_alloc_mark]
  refine ⟨?_, ?_⟩
  · simp only [bytesRow]
    rw [Array.getElem?_append_left (by simpa using hsz), Array.getElem?_map, Array.getElem?_eq_getElem hsz]
    rfl
  · simp; omega

end Go.Proofs.Ytjdeahdngpccpaa

namespace Go.Proofs.Ytjdeahdngpccpaa
open Go.RowKit

theorem cntEq_stepS (s : ByteArray) (c : UInt8) (k : Nat) (h : k < s.size) : cntEq s.data.toList c (k + 1) = cntEq s.data.toList c k + if (s[k] == c) = true then 1 else 0 :=
  cntEq_step s.data.toList c k (by rw [len_data]; exact h)
theorem World.cell?_alloc2_first' (w : World) (c : Array Value) (t : TypeId) (b : Obj) (i : Nat) : ((w.alloc (.cells c t)).alloc b).cell? ⟨w.heap.size, i, none⟩ = c[i]? := World.cell?_alloc2_first c t b i
theorem countOf_no1 {s t : ByteArray} (h : wordOk s = false) : countOf s t = -1 := by simp [countOf, h]
theorem countOf_no2 {s t : ByteArray} (h : letterOk t = false) : countOf s t = -1 := by simp [countOf, h]
theorem countOf_yes {s t : ByteArray} (h : wordOk s = true) (g : letterOk t = true) : countOf s t = cntEq s.data.toList (byteAt t 0) s.size := by simp [countOf, h, g]
theorem letterOk_size {t : ByteArray} (h : letterOk t = true) : t.size = 1 := by simp [letterOk] at h; exact h.1

end Go.Proofs.Ytjdeahdngpccpaa

namespace Go.Proofs.Ytjdeahdngpccpaa
open Go.RowKit Go.Shelf
attribute [local go_sem] Oper.semAt_some

/-- the box of a text is as it was -/
def BoxKept (Bs : Nat) (W W' : World) : Prop := W'.cell? ⟨Bs, 0, none⟩ = W.cell? ⟨Bs, 0, none⟩
theorem BoxKept.refl (Bs : Nat) (W : World) : BoxKept Bs W W := rfl
theorem BoxKept.trans {Bs : Nat} {A B C : World} (h : BoxKept Bs A B) (k : BoxKept Bs B C) : BoxKept Bs A C := Eq.trans k h

theorem runs_grow (l : List UInt8) (e : Nat) (pre : List (UInt8 × Nat)) (c : UInt8) (he : e < l.length) (hc : l.getD e 0 = c) (j : Nat) (hj : runsL (l.take e) = pre ++ [(c, j)]) :
    runsL (l.take (e + 1)) = pre ++ [(c, j + 1)] := by
  have e1 : l.take (e + 1) = l.take e ++ [l[e]] := List.take_succ_eq_append_getElem he
  have e2 : l[e] = c := by rw [← hc]; simp [List.getD, he]
  rw [e1, runsL_snoc, e2, hj, snocRun_same]
theorem runs_begin (l : List UInt8) (k : Nat) (pre : List (UInt8 × Nat)) (hk : runsL (l.take k) = pre) (hlt : k < l.length) (hb : ∀ d n, pre.getLast? = some (d, n) → d ≠ l.getD k 0) :
    runsL (l.take (k + 1)) = pre ++ [(l.getD k 0, 1)] := by
  have e1 : l.take (k + 1) = l.take k ++ [l[k]] := List.take_succ_eq_append_getElem hlt
  have e2 : l[k] = l.getD k 0 := by simp [List.getD, hlt]
  rw [e1, runsL_snoc, hk, e2, snocRun_new pre _ hb]

theorem runs_keep (rest : List UInt8) : ∀ (ys : List (UInt8 × Nat)) (p : UInt8 × Nat), ys <+: rest.foldl snocRun (ys ++ [p]) := by
  induction rest with
  | nil => exact fun ys p => List.prefix_append _ _
  | cons c rest ih =>
    intro ys p
    obtain ⟨d, n⟩ := p
    rw [List.foldl_cons, snocRun_eq]
    split
    · exact ih ys _
    · have := ih (ys ++ [(d, n)]) (c, 1)
      rw [List.append_assoc] at this
      exact (List.prefix_append _ _).trans this
theorem runs_prefix (l : List UInt8) (e : Nat) (pre : List (UInt8 × Nat)) (c : UInt8) (j : Nat) (h : runsL (l.take e) = pre ++ [(c, j)]) (hb : e < l.length → c ≠ l.getD e 0) : (pre ++ [(c, j)]) <+: runsL l := by
  have hl : runsL l = (l.drop e).foldl snocRun (pre ++ [(c, j)]) := by
    rw [← h, runsL, runsL, ← List.foldl_append, List.take_append_drop]
  by_cases he : e < l.length
  · have h2 : l.drop e = l[e] :: l.drop (e + 1) := List.drop_eq_getElem_cons he
    have h3 : l.getD e 0 = l[e] := by simp [List.getD, he]
    have h4 := hb he
    rw [h3] at h4
    rw [hl, h2, List.foldl_cons, snocRun_eq, if_neg h4]
    have := runs_keep (l.drop (e + 1)) (pre ++ [(c, j)]) (l[e], 1)
    rw [List.append_assoc] at this
    exact this
  · rw [hl, List.drop_of_length_le (by omega)]
    exact List.prefix_refl _

end Go.Proofs.Ytjdeahdngpccpaa

namespace Go.Proofs.Ytjdeahdngpccpaa
open Go.RowKit Go.Shelf
attribute [local go_sem] Oper.semAt_some

theorem longestOf_no1 {s t : ByteArray} (h : wordOk s = false) : longestOf s t = -1 := by simp [longestOf, h]
theorem longestOf_no2 {s t : ByteArray} (h : letterOk t = false) : longestOf s t = -1 := by simp [longestOf, h]
theorem longestOf_yes {s t : ByteArray} (h : wordOk s = true) (g : letterOk t = true) : longestOf s t = (longestIn (runsL s.data.toList) (byteAt t 0) : Int) := by simp [longestOf, h, g]

theorem new_cell (W : World) (v : Value) (t : TypeId) : (W.alloc (.cells #[v] t)).cell? ⟨W.heap.size, 0, none⟩ = some v ∧ (W.alloc (.cells #[v] t)).frozen? ⟨W.heap.size, 0, none⟩ = false :=
  ⟨World.cell?_alloc_new W _ t 0, World.frozen?_alloc_new W _ t 0⟩
theorem kept_cell {W : World} {a : Addr} {v : Value} (o : Obj) (h : W.cell? a = some v) : (W.alloc o).cell? a = some v := cell_kept h (World.grownBy_alloc W o none) (fun r e => by cases e)
theorem kept_frozen {W : World} {a : Addr} {v : Value} (o : Obj) (h : W.cell? a = some v) (hf : W.frozen? a = false) : (W.alloc o).frozen? a = false := (frozen_kept h (World.grownBy_alloc W o none) (fun r e => by cases e)).trans hf
theorem boxKept_b {w : World} {Bs : Nat} (hB : Bs < w.heap.size) (W : World) (l : Nat) (o o' : Obj) (hl : w.heap.size ≤ l) (_h : W.heap[l]? = some o) (_hc : o.isCells = false) (_hw : o.isWalk = false) : BoxKept Bs W (W.putObj l o') :=
  World.cell?_of_block (w := W) (World.putObj_heap_other (by show Bs ≠ l; omega))

/-- the runs of the first letters -/
def runsTo (s : ByteArray) (k : Nat) : List (UInt8 × Nat) := runsL (s.data.toList.take k)
theorem runsTo_succ (s : ByteArray) (k : Nat) (h : k < s.size) : runsTo s (k + 1) = snocRun (runsTo s k) s[k] := by
  unfold runsTo; rw [take_snoc s k h, runsL_snoc]
theorem runsTo_all (s : ByteArray) : runsTo s s.size = runsL s.data.toList := by
  unfold runsTo; rw [List.take_of_length_le (Nat.le_of_eq (len_data s))]
theorem runsTo_bd (s : ByteArray) (k : Nat) (c : UInt8) : nowIn (runsTo s k) c ≤ k ∧ longestIn (runsTo s k) c ≤ k := by
  have h1 := now_le (runsTo s k) c
  have h2 := longestIn_le (runsTo s k) c
  have h3 := runsL_sum (s.data.toList.take k)
  have h4 : (s.data.toList.take k).length ≤ k := List.length_take_le _ _
  unfold runsTo at *
  omega

end Go.Proofs.Ytjdeahdngpccpaa

namespace Go.Proofs.Ytjdeahdngpccpaa
open Go.RowKit Go.Shelf
attribute [local go_sem] Oper.semAt_some

end Go.Proofs.Ytjdeahdngpccpaa

namespace Go.Proofs.Ytjdeahdngpccpaa
open Go.RowKit

theorem letterOk_no {t : ByteArray} (h : letterOk t = false) (kind : Int) (thn : ByteArray) (many : Int) : (Ru.mk kind t thn many).ok = false := by simp [Ru.ok, h]

/-- the six ways of a kind -/
theorem kind_cases (k : Int) : k = 0 ∨ k = 1 ∨ k = 2 ∨ k = 3 ∨ k = 4 ∨ ((k == 0) = false ∧ (k == 1) = false ∧ (k == 2) = false ∧ (k == 3) = false ∧ (k == 4) = false) := by
  simp only [beq_eq_false_iff_ne]
  omega

theorem results_t3 {fn : Func} {t u v : Tmp} (h : fn.results = #[.tmp t, .tmp u, .tmp v]) (tmps : Array Value) (P : Program) (w : World) : (results fn tmps).run P w = .ok (.tuple #[tmps.getD t undef, tmps.getD u undef, tmps.getD v undef]) w := by
  simp [results, h]
def boundsK (kind : Int) : Int × Int × Bool := if kind = 0 then (0, 4, true) else if kind = 1 then (2, 4, true) else if kind = 3 then (0, 5, true) else if kind = 4 then (1, 5, true) else (0, 0, false)
theorem bounds_any (kind : Int) (w : World) :
    Calls Try.prog 167 #[.int .i64 kind] w fun e w' => e = .returned (.tuple #[.int .i64 (boundsK kind).1, .int .i64 (boundsK kind).2.1, .bool (boundsK kind).2.2]) ∧ w = w' := by
  rcases kind_cases kind with rfl | rfl | rfl | rfl | rfl | ⟨h0, h1, h2, h3, h4⟩
  · go_enter Try.func167, Try.ntmps167
    go_wp2
    refine bodyPost_ret (results_t3 rfl _ _ _) rfl ?_
    exact ⟨rfl, rfl⟩
  · go_enter Try.func167, Try.ntmps167
    go_wp2
    refine bodyPost_ret (results_t3 rfl _ _ _) rfl ?_
    exact ⟨rfl, rfl⟩
  · go_enter Try.func167, Try.ntmps167
    go_wp2
    refine bodyPost_ret (results_t3 rfl _ _ _) rfl ?_
    exact ⟨rfl, rfl⟩
  · go_enter Try.func167, Try.ntmps167
    go_wp2
    refine bodyPost_ret (results_t3 rfl _ _ _) rfl ?_
    exact ⟨rfl, rfl⟩
  · go_enter Try.func167, Try.ntmps167
    go_wp2
    refine bodyPost_ret (results_t3 rfl _ _ _) rfl ?_
    exact ⟨rfl, rfl⟩
  · have e : boundsK kind = (0, 0, false) := by
      simp only [beq_eq_false_iff_ne] at h0 h1 h3 h4
      simp [boundsK, h0, h1, h3, h4]
    rw [e]
    clear e
    go_enter Try.func167, Try.ntmps167
    go_wp2
    refine bodyPost_ret (results_t3 rfl _ _ _) rfl ?_
    exact ⟨rfl, rfl⟩

theorem toList_ne {t : ByteArray} (h : ¬ t = ⟨#[]⟩) : ¬ t.toList = [] := fun e => h (bytes_ext (by rw [← ByteArray.toList_eq, e]))
theorem bounds_0 (w : World) : Calls Try.prog 167 #[.int .i64 0] w fun e w' => e = .returned (.tuple #[.int .i64 0, .int .i64 4, .bool true]) ∧ w = w' := bounds_any 0 w
theorem bounds_1 (w : World) : Calls Try.prog 167 #[.int .i64 1] w fun e w' => e = .returned (.tuple #[.int .i64 2, .int .i64 4, .bool true]) ∧ w = w' := bounds_any 1 w
theorem bounds_3 (w : World) : Calls Try.prog 167 #[.int .i64 3] w fun e w' => e = .returned (.tuple #[.int .i64 0, .int .i64 5, .bool true]) ∧ w = w' := bounds_any 3 w
theorem bounds_4 (w : World) : Calls Try.prog 167 #[.int .i64 4] w fun e w' => e = .returned (.tuple #[.int .i64 1, .int .i64 5, .bool true]) ∧ w = w' := bounds_any 4 w

set_option maxHeartbeats 1600000 in
theorem implRuleOk_any (kind : Int) (letter thn : ByteArray) (many : Int) (w : World) (h1 : letter.size ≤ maxLen) (h2 : thn.size ≤ maxLen) :
    Calls Try.prog 164 #[.agg #[.int .i64 kind, .string letter, .string thn, .int .i64 many]] w
      fun e w' => e = .returned (.bool (Ru.mk kind letter thn many).ok) ∧ Below w.heap.size w w' := by
  by_cases hl : letterOk letter = true
  · by_cases hk : kind = 2
    · subst hk
      by_cases ht : letterOk thn = true
      · have HE : Hid ((Ru.mk 2 letter thn many).ok = (many == 0)) := by
          have : (Ru.mk 2 letter thn many).ok = (many == 0) := by simp [Ru.ok, hl, ht]; rfl
          exact Lib.hid this
        go_enter Try.func164, Try.ntmps164
        go_wp2_with (go_at_call 166; refine (implLetterOk_any _ _ (by assumption)).mono ?_; rintro e w' ⟨rfl, rfl⟩)
        go_ret
        exact ⟨ret_bool HE.out.symm, (Below.refl _ _).alloc (Nat.le_refl _) _⟩
      · have ht' : letterOk thn = false := by simpa using ht
        have HE : Hid ((Ru.mk 2 letter thn many).ok = false) := by
          have : (Ru.mk 2 letter thn many).ok = false := by simp [Ru.ok, ht']
          exact Lib.hid this
        clear ht
        go_enter Try.func164, Try.ntmps164
        go_wp2_with (go_at_call 166; refine (implLetterOk_any _ _ (by assumption)).mono ?_; rintro e w' ⟨rfl, rfl⟩)
        go_ret
        exact ⟨ret_bool HE.out.symm, (Below.refl _ _).alloc (Nat.le_refl _) _⟩
    · rcases kind_cases kind with rfl | rfl | rfl | rfl | rfl | ⟨k0, k1, k2, k3, k4⟩
      · by_cases ht : thn = ⟨#[]⟩
        · subst ht
          by_cases ha : (0 : Int) ≤ many
          · by_cases hb : many ≤ (4 : Int)
            · have HE : Hid ((Ru.mk 0 letter ⟨#[]⟩ many).ok = true) := by
                have : (Ru.mk 0 letter ⟨#[]⟩ many).ok = true := by simp [Ru.ok, hl, noThen, inB, ha, hb]
                exact Lib.hid this
              go_enter Try.func164, Try.ntmps164
              go_wp2_with (first | (go_at_call 166; refine (implLetterOk_any _ _ (by assumption)).mono ?_; rintro e w' ⟨rfl, rfl⟩) | (go_at_call 167; refine (bounds_0 _).mono ?_; rintro e w' ⟨rfl, rfl⟩))
              go_ret
              exact ⟨ret_bool HE.out.symm, (Below.refl _ _).alloc (Nat.le_refl _) _⟩
            · have HE : Hid ((Ru.mk 0 letter ⟨#[]⟩ many).ok = false) := by
                have : (Ru.mk 0 letter ⟨#[]⟩ many).ok = false := by simp [Ru.ok, hl, noThen, inB, ha, hb]
                exact Lib.hid this
              go_enter Try.func164, Try.ntmps164
              go_wp2_with (first | (go_at_call 166; refine (implLetterOk_any _ _ (by assumption)).mono ?_; rintro e w' ⟨rfl, rfl⟩) | (go_at_call 167; refine (bounds_0 _).mono ?_; rintro e w' ⟨rfl, rfl⟩))
              go_ret
              exact ⟨ret_bool (by rw [HE.out]; simp; omega), (Below.refl _ _).alloc (Nat.le_refl _) _⟩
          · have HE : Hid ((Ru.mk 0 letter ⟨#[]⟩ many).ok = false) := by
              have : (Ru.mk 0 letter ⟨#[]⟩ many).ok = false := by simp [Ru.ok, noThen, inB, ha]
              exact Lib.hid this
            go_enter Try.func164, Try.ntmps164
            go_wp2_with (first | (go_at_call 166; refine (implLetterOk_any _ _ (by assumption)).mono ?_; rintro e w' ⟨rfl, rfl⟩) | (go_at_call 167; refine (bounds_0 _).mono ?_; rintro e w' ⟨rfl, rfl⟩))
            go_ret
            exact ⟨ret_bool HE.out.symm, (Below.refl _ _).alloc (Nat.le_refl _) _⟩
        · have ht' := toList_ne ht
          have HE : Hid ((Ru.mk 0 letter thn many).ok = false) := by
            have : (Ru.mk 0 letter thn many).ok = false := by simp [Ru.ok, noThen, ht]
            exact Lib.hid this
          go_enter Try.func164, Try.ntmps164
          go_wp2_with (first | (go_at_call 166; refine (implLetterOk_any _ _ (by assumption)).mono ?_; rintro e w' ⟨rfl, rfl⟩) | (go_at_call 167; refine (bounds_0 _).mono ?_; rintro e w' ⟨rfl, rfl⟩))
          go_ret
          exact ⟨ret_bool HE.out.symm, (Below.refl _ _).alloc (Nat.le_refl _) _⟩
      · by_cases ht : thn = ⟨#[]⟩
        · subst ht
          by_cases ha : (2 : Int) ≤ many
          · by_cases hb : many ≤ (4 : Int)
            · have HE : Hid ((Ru.mk 1 letter ⟨#[]⟩ many).ok = true) := by
                have : (Ru.mk 1 letter ⟨#[]⟩ many).ok = true := by simp [Ru.ok, hl, noThen, inB, ha, hb]
                exact Lib.hid this
              go_enter Try.func164, Try.ntmps164
              go_wp2_with (first | (go_at_call 166; refine (implLetterOk_any _ _ (by assumption)).mono ?_; rintro e w' ⟨rfl, rfl⟩) | (go_at_call 167; refine (bounds_1 _).mono ?_; rintro e w' ⟨rfl, rfl⟩))
              go_ret
              exact ⟨ret_bool HE.out.symm, (Below.refl _ _).alloc (Nat.le_refl _) _⟩
            · have HE : Hid ((Ru.mk 1 letter ⟨#[]⟩ many).ok = false) := by
                have : (Ru.mk 1 letter ⟨#[]⟩ many).ok = false := by simp [Ru.ok, hl, noThen, inB, ha, hb]
                exact Lib.hid this
              go_enter Try.func164, Try.ntmps164
              go_wp2_with (first | (go_at_call 166; refine (implLetterOk_any _ _ (by assumption)).mono ?_; rintro e w' ⟨rfl, rfl⟩) | (go_at_call 167; refine (bounds_1 _).mono ?_; rintro e w' ⟨rfl, rfl⟩))
              go_ret
              exact ⟨ret_bool (by rw [HE.out]; simp; omega), (Below.refl _ _).alloc (Nat.le_refl _) _⟩
          · have HE : Hid ((Ru.mk 1 letter ⟨#[]⟩ many).ok = false) := by
              have : (Ru.mk 1 letter ⟨#[]⟩ many).ok = false := by simp [Ru.ok, noThen, inB, ha]
              exact Lib.hid this
            go_enter Try.func164, Try.ntmps164
            go_wp2_with (first | (go_at_call 166; refine (implLetterOk_any _ _ (by assumption)).mono ?_; rintro e w' ⟨rfl, rfl⟩) | (go_at_call 167; refine (bounds_1 _).mono ?_; rintro e w' ⟨rfl, rfl⟩))
            go_ret
            exact ⟨ret_bool HE.out.symm, (Below.refl _ _).alloc (Nat.le_refl _) _⟩
        · have ht' := toList_ne ht
          have HE : Hid ((Ru.mk 1 letter thn many).ok = false) := by
            have : (Ru.mk 1 letter thn many).ok = false := by simp [Ru.ok, noThen, ht]
            exact Lib.hid this
          go_enter Try.func164, Try.ntmps164
          go_wp2_with (first | (go_at_call 166; refine (implLetterOk_any _ _ (by assumption)).mono ?_; rintro e w' ⟨rfl, rfl⟩) | (go_at_call 167; refine (bounds_1 _).mono ?_; rintro e w' ⟨rfl, rfl⟩))
          go_ret
          exact ⟨ret_bool HE.out.symm, (Below.refl _ _).alloc (Nat.le_refl _) _⟩
      · exact absurd rfl hk
      · by_cases ht : thn = ⟨#[]⟩
        · subst ht
          by_cases ha : (0 : Int) ≤ many
          · by_cases hb : many ≤ (5 : Int)
            · have HE : Hid ((Ru.mk 3 letter ⟨#[]⟩ many).ok = true) := by
                have : (Ru.mk 3 letter ⟨#[]⟩ many).ok = true := by simp [Ru.ok, hl, noThen, inB, ha, hb]
                exact Lib.hid this
              go_enter Try.func164, Try.ntmps164
              go_wp2_with (first | (go_at_call 166; refine (implLetterOk_any _ _ (by assumption)).mono ?_; rintro e w' ⟨rfl, rfl⟩) | (go_at_call 167; refine (bounds_3 _).mono ?_; rintro e w' ⟨rfl, rfl⟩))
              go_ret
              exact ⟨ret_bool HE.out.symm, (Below.refl _ _).alloc (Nat.le_refl _) _⟩
            · have HE : Hid ((Ru.mk 3 letter ⟨#[]⟩ many).ok = false) := by
                have : (Ru.mk 3 letter ⟨#[]⟩ many).ok = false := by simp [Ru.ok, hl, noThen, inB, ha, hb]
                exact Lib.hid this
              go_enter Try.func164, Try.ntmps164
              go_wp2_with (first | (go_at_call 166; refine (implLetterOk_any _ _ (by assumption)).mono ?_; rintro e w' ⟨rfl, rfl⟩) | (go_at_call 167; refine (bounds_3 _).mono ?_; rintro e w' ⟨rfl, rfl⟩))
              go_ret
              exact ⟨ret_bool (by rw [HE.out]; simp; omega), (Below.refl _ _).alloc (Nat.le_refl _) _⟩
          · have HE : Hid ((Ru.mk 3 letter ⟨#[]⟩ many).ok = false) := by
              have : (Ru.mk 3 letter ⟨#[]⟩ many).ok = false := by simp [Ru.ok, noThen, inB, ha]
              exact Lib.hid this
            go_enter Try.func164, Try.ntmps164
            go_wp2_with (first | (go_at_call 166; refine (implLetterOk_any _ _ (by assumption)).mono ?_; rintro e w' ⟨rfl, rfl⟩) | (go_at_call 167; refine (bounds_3 _).mono ?_; rintro e w' ⟨rfl, rfl⟩))
            go_ret
            exact ⟨ret_bool HE.out.symm, (Below.refl _ _).alloc (Nat.le_refl _) _⟩
        · have ht' := toList_ne ht
          have HE : Hid ((Ru.mk 3 letter thn many).ok = false) := by
            have : (Ru.mk 3 letter thn many).ok = false := by simp [Ru.ok, noThen, ht]
            exact Lib.hid this
          go_enter Try.func164, Try.ntmps164
          go_wp2_with (first | (go_at_call 166; refine (implLetterOk_any _ _ (by assumption)).mono ?_; rintro e w' ⟨rfl, rfl⟩) | (go_at_call 167; refine (bounds_3 _).mono ?_; rintro e w' ⟨rfl, rfl⟩))
          go_ret
          exact ⟨ret_bool HE.out.symm, (Below.refl _ _).alloc (Nat.le_refl _) _⟩
      · by_cases ht : thn = ⟨#[]⟩
        · subst ht
          by_cases ha : (1 : Int) ≤ many
          · by_cases hb : many ≤ (5 : Int)
            · have HE : Hid ((Ru.mk 4 letter ⟨#[]⟩ many).ok = true) := by
                have : (Ru.mk 4 letter ⟨#[]⟩ many).ok = true := by simp [Ru.ok, hl, noThen, inB, ha, hb]
                exact Lib.hid this
              go_enter Try.func164, Try.ntmps164
              go_wp2_with (first | (go_at_call 166; refine (implLetterOk_any _ _ (by assumption)).mono ?_; rintro e w' ⟨rfl, rfl⟩) | (go_at_call 167; refine (bounds_4 _).mono ?_; rintro e w' ⟨rfl, rfl⟩))
              go_ret
              exact ⟨ret_bool HE.out.symm, (Below.refl _ _).alloc (Nat.le_refl _) _⟩
            · have HE : Hid ((Ru.mk 4 letter ⟨#[]⟩ many).ok = false) := by
                have : (Ru.mk 4 letter ⟨#[]⟩ many).ok = false := by simp [Ru.ok, hl, noThen, inB, ha, hb]
                exact Lib.hid this
              go_enter Try.func164, Try.ntmps164
              go_wp2_with (first | (go_at_call 166; refine (implLetterOk_any _ _ (by assumption)).mono ?_; rintro e w' ⟨rfl, rfl⟩) | (go_at_call 167; refine (bounds_4 _).mono ?_; rintro e w' ⟨rfl, rfl⟩))
              go_ret
              exact ⟨ret_bool (by rw [HE.out]; simp; omega), (Below.refl _ _).alloc (Nat.le_refl _) _⟩
          · have HE : Hid ((Ru.mk 4 letter ⟨#[]⟩ many).ok = false) := by
              have : (Ru.mk 4 letter ⟨#[]⟩ many).ok = false := by simp [Ru.ok, noThen, inB, ha]
              exact Lib.hid this
            go_enter Try.func164, Try.ntmps164
            go_wp2_with (first | (go_at_call 166; refine (implLetterOk_any _ _ (by assumption)).mono ?_; rintro e w' ⟨rfl, rfl⟩) | (go_at_call 167; refine (bounds_4 _).mono ?_; rintro e w' ⟨rfl, rfl⟩))
            go_ret
            exact ⟨ret_bool HE.out.symm, (Below.refl _ _).alloc (Nat.le_refl _) _⟩
        · have ht' := toList_ne ht
          have HE : Hid ((Ru.mk 4 letter thn many).ok = false) := by
            have : (Ru.mk 4 letter thn many).ok = false := by simp [Ru.ok, noThen, ht]
            exact Lib.hid this
          go_enter Try.func164, Try.ntmps164
          go_wp2_with (first | (go_at_call 166; refine (implLetterOk_any _ _ (by assumption)).mono ?_; rintro e w' ⟨rfl, rfl⟩) | (go_at_call 167; refine (bounds_4 _).mono ?_; rintro e w' ⟨rfl, rfl⟩))
          go_ret
          exact ⟨ret_bool HE.out.symm, (Below.refl _ _).alloc (Nat.le_refl _) _⟩
      · have HE : Hid ((Ru.mk kind letter thn many).ok = false) := by
          have : (Ru.mk kind letter thn many).ok = false := by
            simp only [beq_eq_false_iff_ne] at k0 k1 k2 k3 k4
            simp [Ru.ok, k0, k1, k2, k3, k4]
          exact Lib.hid this
        have hB : boundsK kind = (0, 0, false) := by
          simp only [beq_eq_false_iff_ne] at k0 k1 k3 k4
          simp [boundsK, k0, k1, k3, k4]
        clear hk
        go_enter Try.func164, Try.ntmps164
        go_wp2_with (first | (go_at_call 166; refine (implLetterOk_any _ _ (by assumption)).mono ?_; rintro e w' ⟨rfl, rfl⟩) | (go_at_call 167; refine (bounds_any _ _).mono ?_; rw [hB]; rintro e w' ⟨rfl, rfl⟩))
        go_ret
        exact ⟨ret_bool HE.out.symm, (Below.refl _ _).alloc (Nat.le_refl _) _⟩
  · have hl' : letterOk letter = false := by simpa using hl
    have HR := Lib.hid (letterOk_no hl' kind thn many)
    clear hl
    go_enter Try.func164, Try.ntmps164
    go_wp2_with (go_at_call 166; refine (implLetterOk_any _ _ (by assumption)).mono ?_; rintro e w' ⟨rfl, rfl⟩)
    go_ret
    exact ⟨ret_bool HR.out.symm, (Below.refl _ _).alloc (Nat.le_refl _) _⟩
end Go.Proofs.Ytjdeahdngpccpaa

namespace Go.Proofs.Ytjdeahdngpccpaa
open Go.RowKit

set_option maxHeartbeats 1600000 in
theorem specRuleOk_any (kind : Int) (letter thn : ByteArray) (many : Int) (w : World) :
    Calls Try.prog 146 #[.agg #[.int .i64 kind, .string letter, .string thn, .int .i64 many]] w
      fun e w' => e = .returned (.bool (Ru.mk kind letter thn many).ok) ∧ Below w.heap.size w w' := by
  by_cases hl : letterOk letter = true
  · by_cases hk : kind = 2
    · subst hk
      by_cases ht : letterOk thn = true
      · have HE : Hid ((Ru.mk 2 letter thn many).ok = (many == 0)) := by
          have : (Ru.mk 2 letter thn many).ok = (many == 0) := by simp [Ru.ok, hl, ht]; rfl
          exact Lib.hid this
        go_enter Try.func146, Try.ntmps146
        go_wp2_with (first | (go_at_call 156; refine (specLetterOk_any _ _).mono ?_; rintro e w' ⟨rfl, rfl⟩) | (go_at_call 66; refine (l1In_any _ _ _ _).mono ?_; rintro e w' ⟨rfl, rfl⟩))
        go_ret
        exact ⟨ret_bool HE.out.symm, (Below.refl _ _).alloc (Nat.le_refl _) _⟩
      · have ht' : letterOk thn = false := by simpa using ht
        have HE : Hid ((Ru.mk 2 letter thn many).ok = false) := by
          have : (Ru.mk 2 letter thn many).ok = false := by simp [Ru.ok, ht']
          exact Lib.hid this
        clear ht
        go_enter Try.func146, Try.ntmps146
        go_wp2_with (first | (go_at_call 156; refine (specLetterOk_any _ _).mono ?_; rintro e w' ⟨rfl, rfl⟩) | (go_at_call 66; refine (l1In_any _ _ _ _).mono ?_; rintro e w' ⟨rfl, rfl⟩))
        go_ret
        exact ⟨ret_bool HE.out.symm, (Below.refl _ _).alloc (Nat.le_refl _) _⟩
    · rcases kind_cases kind with rfl | rfl | rfl | rfl | rfl | ⟨k0, k1, k2, k3, k4⟩
      · by_cases ht : thn = ⟨#[]⟩
        · subst ht
          have HE : Hid ((Ru.mk 0 letter ⟨#[]⟩ many).ok = (decide (0 ≤ many) && decide (many ≤ 4))) := by
            have : (Ru.mk 0 letter ⟨#[]⟩ many).ok = (decide (0 ≤ many) && decide (many ≤ 4)) := by simp [Ru.ok, hl, noThen, inB]
            exact Lib.hid this
          go_enter Try.func146, Try.ntmps146
          go_wp2_with (first | (go_at_call 156; refine (specLetterOk_any _ _).mono ?_; rintro e w' ⟨rfl, rfl⟩) | (go_at_call 66; refine (l1In_any _ _ _ _).mono ?_; rintro e w' ⟨rfl, rfl⟩))
          go_ret
          exact ⟨ret_bool HE.out.symm, (Below.refl _ _).alloc (Nat.le_refl _) _⟩
        · have ht' := toList_ne ht
          have HE : Hid ((Ru.mk 0 letter thn many).ok = false) := by
            have : (Ru.mk 0 letter thn many).ok = false := by simp [Ru.ok, noThen, ht]
            exact Lib.hid this
          go_enter Try.func146, Try.ntmps146
          go_wp2_with (first | (go_at_call 156; refine (specLetterOk_any _ _).mono ?_; rintro e w' ⟨rfl, rfl⟩) | (go_at_call 66; refine (l1In_any _ _ _ _).mono ?_; rintro e w' ⟨rfl, rfl⟩))
          go_ret
          exact ⟨ret_bool HE.out.symm, (Below.refl _ _).alloc (Nat.le_refl _) _⟩
      · by_cases ht : thn = ⟨#[]⟩
        · subst ht
          have HE : Hid ((Ru.mk 1 letter ⟨#[]⟩ many).ok = (decide (2 ≤ many) && decide (many ≤ 4))) := by
            have : (Ru.mk 1 letter ⟨#[]⟩ many).ok = (decide (2 ≤ many) && decide (many ≤ 4)) := by simp [Ru.ok, hl, noThen, inB]
            exact Lib.hid this
          go_enter Try.func146, Try.ntmps146
          go_wp2_with (first | (go_at_call 156; refine (specLetterOk_any _ _).mono ?_; rintro e w' ⟨rfl, rfl⟩) | (go_at_call 66; refine (l1In_any _ _ _ _).mono ?_; rintro e w' ⟨rfl, rfl⟩))
          go_ret
          exact ⟨ret_bool HE.out.symm, (Below.refl _ _).alloc (Nat.le_refl _) _⟩
        · have ht' := toList_ne ht
          have HE : Hid ((Ru.mk 1 letter thn many).ok = false) := by
            have : (Ru.mk 1 letter thn many).ok = false := by simp [Ru.ok, noThen, ht]
            exact Lib.hid this
          go_enter Try.func146, Try.ntmps146
          go_wp2_with (first | (go_at_call 156; refine (specLetterOk_any _ _).mono ?_; rintro e w' ⟨rfl, rfl⟩) | (go_at_call 66; refine (l1In_any _ _ _ _).mono ?_; rintro e w' ⟨rfl, rfl⟩))
          go_ret
          exact ⟨ret_bool HE.out.symm, (Below.refl _ _).alloc (Nat.le_refl _) _⟩
      · exact absurd rfl hk
      · by_cases ht : thn = ⟨#[]⟩
        · subst ht
          have HE : Hid ((Ru.mk 3 letter ⟨#[]⟩ many).ok = (decide (0 ≤ many) && decide (many ≤ 5))) := by
            have : (Ru.mk 3 letter ⟨#[]⟩ many).ok = (decide (0 ≤ many) && decide (many ≤ 5)) := by simp [Ru.ok, hl, noThen, inB]
            exact Lib.hid this
          go_enter Try.func146, Try.ntmps146
          go_wp2_with (first | (go_at_call 156; refine (specLetterOk_any _ _).mono ?_; rintro e w' ⟨rfl, rfl⟩) | (go_at_call 66; refine (l1In_any _ _ _ _).mono ?_; rintro e w' ⟨rfl, rfl⟩))
          go_ret
          exact ⟨ret_bool HE.out.symm, (Below.refl _ _).alloc (Nat.le_refl _) _⟩
        · have ht' := toList_ne ht
          have HE : Hid ((Ru.mk 3 letter thn many).ok = false) := by
            have : (Ru.mk 3 letter thn many).ok = false := by simp [Ru.ok, noThen, ht]
            exact Lib.hid this
          go_enter Try.func146, Try.ntmps146
          go_wp2_with (first | (go_at_call 156; refine (specLetterOk_any _ _).mono ?_; rintro e w' ⟨rfl, rfl⟩) | (go_at_call 66; refine (l1In_any _ _ _ _).mono ?_; rintro e w' ⟨rfl, rfl⟩))
          go_ret
          exact ⟨ret_bool HE.out.symm, (Below.refl _ _).alloc (Nat.le_refl _) _⟩
      · by_cases ht : thn = ⟨#[]⟩
        · subst ht
          have HE : Hid ((Ru.mk 4 letter ⟨#[]⟩ many).ok = (decide (1 ≤ many) && decide (many ≤ 5))) := by
            have : (Ru.mk 4 letter ⟨#[]⟩ many).ok = (decide (1 ≤ many) && decide (many ≤ 5)) := by simp [Ru.ok, hl, noThen, inB]
            exact Lib.hid this
          go_enter Try.func146, Try.ntmps146
          go_wp2_with (first | (go_at_call 156; refine (specLetterOk_any _ _).mono ?_; rintro e w' ⟨rfl, rfl⟩) | (go_at_call 66; refine (l1In_any _ _ _ _).mono ?_; rintro e w' ⟨rfl, rfl⟩))
          go_ret
          exact ⟨ret_bool HE.out.symm, (Below.refl _ _).alloc (Nat.le_refl _) _⟩
        · have ht' := toList_ne ht
          have HE : Hid ((Ru.mk 4 letter thn many).ok = false) := by
            have : (Ru.mk 4 letter thn many).ok = false := by simp [Ru.ok, noThen, ht]
            exact Lib.hid this
          go_enter Try.func146, Try.ntmps146
          go_wp2_with (first | (go_at_call 156; refine (specLetterOk_any _ _).mono ?_; rintro e w' ⟨rfl, rfl⟩) | (go_at_call 66; refine (l1In_any _ _ _ _).mono ?_; rintro e w' ⟨rfl, rfl⟩))
          go_ret
          exact ⟨ret_bool HE.out.symm, (Below.refl _ _).alloc (Nat.le_refl _) _⟩
      · have HE : Hid ((Ru.mk kind letter thn many).ok = false) := by
          have : (Ru.mk kind letter thn many).ok = false := by
            simp only [beq_eq_false_iff_ne] at k0 k1 k2 k3 k4
            simp [Ru.ok, k0, k1, k2, k3, k4]
          exact Lib.hid this
        clear hk
        go_enter Try.func146, Try.ntmps146
        go_wp2_with (first | (go_at_call 156; refine (specLetterOk_any _ _).mono ?_; rintro e w' ⟨rfl, rfl⟩) | (go_at_call 66; refine (l1In_any _ _ _ _).mono ?_; rintro e w' ⟨rfl, rfl⟩))
        go_ret
        exact ⟨ret_bool HE.out.symm, (Below.refl _ _).alloc (Nat.le_refl _) _⟩
  · have hl' : letterOk letter = false := by simpa using hl
    have HE := Lib.hid (letterOk_no hl' kind thn many)
    clear hl
    go_enter Try.func146, Try.ntmps146
    go_wp2_with (first | (go_at_call 156; refine (specLetterOk_any _ _).mono ?_; rintro e w' ⟨rfl, rfl⟩) | (go_at_call 66; refine (l1In_any _ _ _ _).mono ?_; rintro e w' ⟨rfl, rfl⟩))
    go_ret
    exact ⟨ret_bool HE.out.symm, (Below.refl _ _).alloc (Nat.le_refl _) _⟩

/-- how many bytes are left of a number -/
def szR (a b : Nat) (left : Int) : Int := if left - a < 0 then -1 else if left - a - b < 0 then -1 else left - a - b
theorem szR_bd {a b : Nat} {left : Int} (h : ¬ szR a b left < 0) : (a : Int) ≤ left ∧ (b : Int) ≤ left := by
  unfold szR at h
  split at h
  · omega
  · split at h <;> omega
theorem szRule_any (kind : Int) (letter thn : ByteArray) (many left : Int) (w : World) (h1 : letter.size ≤ maxLen) (h2 : thn.size ≤ maxLen) (h0 : 0 ≤ left) (hl : left ≤ 1048576) :
    Calls Try.prog 135 #[.agg #[.int .i64 kind, .string letter, .string thn, .int .i64 many], .int .i64 left] w
      fun e w' => e = .returned (.int .i64 (szR letter.size thn.size left)) ∧ Below w.heap.size w w' := by
  unfold maxLen at h1 h2
  by_cases ha : left - letter.size < 0
  · have HE : Hid (szR letter.size thn.size left = -1) := by
      have : szR letter.size thn.size left = -1 := by simp [szR, ha]
      exact Lib.hid this
    go_enter Try.func135, Try.ntmps135
    go_wp2_with fail
    go_ret
    exact ⟨ret_int HE.out.symm, (Below.refl _ _).alloc (Nat.le_refl _) _⟩
  · by_cases hb : left - letter.size - thn.size < 0
    · have HE : Hid (szR letter.size thn.size left = -1) := by
        have : szR letter.size thn.size left = -1 := by simp [szR, ha, hb]
        exact Lib.hid this
      go_enter Try.func135, Try.ntmps135
      go_wp2_with fail
      go_ret
      exact ⟨ret_int HE.out.symm, (Below.refl _ _).alloc (Nat.le_refl _) _⟩
    · have HE : Hid (szR letter.size thn.size left = left - letter.size - thn.size) := by
        have : szR letter.size thn.size left = left - letter.size - thn.size := by simp [szR, ha, hb]
        exact Lib.hid this
      go_enter Try.func135, Try.ntmps135
      go_wp2_with fail
      go_ret
      exact ⟨ret_int HE.out.symm, (Below.refl _ _).alloc (Nat.le_refl _) _⟩

theorem toRule_any (kind : Int) (letter thn : ByteArray) (many : Int) (w : World) :
    Calls Try.prog 138 #[.agg #[.int .i64 kind, .string letter, .string thn, .int .i64 many]] w
      fun e w' => e = .returned (.agg #[.int .i64 kind, .string letter, .string thn, .int .i64 many]) ∧ Below w.heap.size w w' := by
  go_enter Try.func138, Try.ntmps138
  go_wp2_with fail
  refine bodyPost_ret (v := .agg #[.int .i64 kind, .string letter, .string thn, .int .i64 many]) ?_ rfl ⟨rfl, (((Below.refl _ _).alloc (Nat.le_refl _) _).alloc (by simp) _).alloc (by simp; omega) _⟩
  simp [results, Try.results138, go_sem]
end Go.Proofs.Ytjdeahdngpccpaa

namespace Go.Proofs.Ytjdeahdngpccpaa
open Go.Shelf
open Go.RowKit in
theorem maxLen_shaped (w : World) (h : w.ShapedOpen Try.prog) : ∃ m, w.cell? ⟨0, 0, none⟩ = some (.int .i64 m) :=
  Go.Proofs.cell_of_shapedOpen_int (zero := #[.int .i64 0]) (t := 3) h (of_decide_eq_true (by kernel_rfl)) (by kernel_rfl) rfl (by kernel_rfl) (by kernel_rfl) Try.underlying3
end Go.Proofs.Ytjdeahdngpccpaa

namespace Go.Proofs.Ytjdeahdngpccpaa
open Go.RowKit

theorem isPrefix_two (c d : UInt8) (l : List UInt8) : [c, d].isPrefixOf l = true ↔ l[0]? = some c ∧ l[1]? = some d := by
  match l with
  | [] => simp
  | [a] => simp
  | a :: b :: l =>
    simp only [List.isPrefixOf, Bool.and_true, Bool.and_eq_true, beq_iff_eq, List.getElem?_cons_zero, List.getElem?_cons_succ, Option.some.injEq]
    exact ⟨fun h => ⟨h.1.symm, h.2.symm⟩, fun h => ⟨h.1.symm, h.2.symm⟩⟩
theorem contains_pair (l : List UInt8) (c d : UInt8) : Lib.contains l [c, d] = pairTo l c d (l.length - 1) := by
  rw [Bool.eq_iff_iff]
  have key : pairTo l c d (l.length - 1) = true ↔ ∃ i, Lib.occAt l [c, d] i = true := by
    simp only [pairTo, List.any_eq_true, List.mem_range, Bool.and_eq_true, beq_iff_eq, Lib.occAt, isPrefix_two, List.getElem?_drop]
    constructor
    · rintro ⟨i, hi, h1, h2⟩
      have hi1 : i < l.length := by omega
      have hi2 : i + 1 < l.length := by omega
      refine ⟨i, ?_, ?_⟩
      · rw [Nat.add_zero, List.getElem?_eq_getElem hi1, ← h1]; simp [List.getD, hi1]
      · rw [List.getElem?_eq_getElem hi2, ← h2]; simp [List.getD, hi2]
    · rintro ⟨i, h1, h2⟩
      have hi2 := (List.getElem?_eq_some_iff.1 h2).1
      refine ⟨i, by omega, ?_, ?_⟩
      · rw [Nat.add_zero] at h1; simp [List.getD, h1]
      · simp [List.getD, h2]
  rw [key, Lib.contains, decide_eq_true_eq]
  rcases Lib.index_spec l [c, d] with ⟨h1, h2⟩ | ⟨i, h1, _, h3, _⟩
  · rw [h1]
    refine ⟨fun h => absurd h (by decide), ?_⟩
    rintro ⟨i, hi⟩
    by_cases hl : i ≤ l.length
    · rw [h2 i hl] at hi; cases hi
    · simp only [Lib.occAt, isPrefix_two, List.getElem?_drop] at hi
      have := (List.getElem?_eq_some_iff.1 hi.1).1
      omega
  · rw [h1]
    exact ⟨fun _ => ⟨i, h3⟩, fun _ => Int.natCast_nonneg i⟩

theorem one_byte {t : ByteArray} (h : letterOk t = true) : t.data.toList = [byteAt t 0] := by
  rcases letterOk_cases h with rfl | rfl | rfl <;> rfl
theorem ru_cells {w w' : World} {t : TypeId} (kind : Int) (letter thn : ByteArray) (many : Int) (hb : Below (w.heap.size + 1) (w.alloc (.cells #[.int .i64 kind, .string letter, .string thn, .int .i64 many] t)) w') :
    w'.cell? ⟨w.heap.size, 0, none⟩ = some (.int .i64 kind) ∧ w'.cell? ⟨w.heap.size, 1, none⟩ = some (.string letter) ∧ w'.cell? ⟨w.heap.size, 2, none⟩ = some (.string thn) ∧ w'.cell? ⟨w.heap.size, 3, none⟩ = some (.int .i64 many) ∧ Below w.heap.size w w' ∧ w.heap.size + 1 ≤ w'.heap.size :=
  ⟨(hb.cell (p := ⟨w.heap.size, 0, none⟩) (Nat.lt_succ_self _)).trans (World.cell?_alloc_new w _ _ 0), (hb.cell (p := ⟨w.heap.size, 1, none⟩) (Nat.lt_succ_self _)).trans (World.cell?_alloc_new w _ _ 1),
    (hb.cell (p := ⟨w.heap.size, 2, none⟩) (Nat.lt_succ_self _)).trans (World.cell?_alloc_new w _ _ 2), (hb.cell (p := ⟨w.heap.size, 3, none⟩) (Nat.lt_succ_self _)).trans (World.cell?_alloc_new w _ _ 3),
    ((Below.refl w.heap.size w).alloc (Nat.le_refl _) _).trans (hb.mono (Nat.le_succ _)), by have := hb.size; simp only [World.size_alloc] at this; exact this⟩

end Go.Proofs.Ytjdeahdngpccpaa

namespace Go.Proofs.Ytjdeahdngpccpaa
open Go.RowKit

/-- a block that holds a rule -/
structure RuBox (B : Nat) (kind : Int) (letter thn : ByteArray) (many : Int) (w : World) : Prop where
  hB : B < w.heap.size
  c0 : w.cell? ⟨B, 0, none⟩ = some (.int .i64 kind)
  c1 : w.cell? ⟨B, 1, none⟩ = some (.string letter)
  c2 : w.cell? ⟨B, 2, none⟩ = some (.string thn)
  c3 : w.cell? ⟨B, 3, none⟩ = some (.int .i64 many)
theorem RuBox.below {B : Nat} {kind : Int} {letter thn : ByteArray} {many : Int} {w w' : World} (h : RuBox B kind letter thn many w) (hb : Below w.heap.size w w') : RuBox B kind letter thn many w' :=
  ⟨Nat.lt_of_lt_of_le h.hB hb.size, (hb.cell (p := ⟨B, 0, none⟩) h.hB).trans h.c0, (hb.cell (p := ⟨B, 1, none⟩) h.hB).trans h.c1, (hb.cell (p := ⟨B, 2, none⟩) h.hB).trans h.c2, (hb.cell (p := ⟨B, 3, none⟩) h.hB).trans h.c3⟩
theorem RuBox.new {w : World} (kind : Int) (letter thn : ByteArray) (many : Int) (t : TypeId) : RuBox w.heap.size kind letter thn many (w.alloc (.cells #[.int .i64 kind, .string letter, .string thn, .int .i64 many] t)) :=
  ⟨by simp, World.cell?_alloc_new w _ _ 0, World.cell?_alloc_new w _ _ 1, World.cell?_alloc_new w _ _ 2, World.cell?_alloc_new w _ _ 3⟩

theorem letterIs_any (l : Nat) (hl : l < 3) (t : ByteArray) (ht : letterOk t = true) (w : World) :
    Calls Try.prog 174 #[.int .i64 (l : Int), .string t] w fun e w' => e = .returned (.bool (byteAt t 0 == byteOf l)) ∧ w = w' := by
  match l, hl with
  | 0, _ =>
    rcases letterOk_cases ht with rfl | rfl | rfl
    all_goals
      go_enter Try.func174, Try.ntmps174
      go_wp2
      go_ret
      exact ⟨ret_bool (by decide +kernel), rfl⟩
  | 1, _ =>
    rcases letterOk_cases ht with rfl | rfl | rfl
    all_goals
      go_enter Try.func174, Try.ntmps174
      go_wp2
      go_ret
      exact ⟨ret_bool (by decide +kernel), rfl⟩
  | 2, _ =>
    rcases letterOk_cases ht with rfl | rfl | rfl
    all_goals
      go_enter Try.func174, Try.ntmps174
      go_wp2
      go_ret
      exact ⟨ret_bool (by decide +kernel), rfl⟩

theorem anyEnd_any (x : Int) (w : World) : Calls Try.prog 175 #[.int .i64 x] w fun e w' => e = .returned (.bool true) ∧ w = w' := by
  go_enter Try.func175, Try.ntmps175
  go_wp2
  go_ret
  exact ⟨rfl, rfl⟩

/-- what a function returns that goes on -/
def OnPost (r : Ru) (x : Int) (l : Nat) (W : World) (e : Ending) (W' : World) : Prop :=
  ∃ v b, e = .returned (.tuple #[.int .i64 v, .bool b]) ∧ r.on x l = (if b = true then some v else none) ∧ Below W.heap.size W W'

theorem row1_any (letter thn : ByteArray) (many : Int) (B : Nat) (W : World) (hM : RuBox B 0 letter thn many W) (hl : letterOk letter = true) (x : Int) (h0 : 0 ≤ x) (h1 : x ≤ many) (h4 : many ≤ 4) (l : Nat) (hl3 : l < 3) :
    Calls Try.prog 173 #[.int .i64 x, .int .i64 (l : Int), .pointer (some ⟨B, 0, none⟩)] W (OnPost ⟨0, letter, thn, many⟩ x l W) := by
  have y1 := hM.c1
  have y3 := hM.c3
  clear hM
  by_cases its : (byteAt letter 0 == byteOf l) = true
  · have HO : Hid ((Ru.mk 0 letter thn many).on x l = if decide (x < many) = true then some (x + 1) else none) := by
      have : (Ru.mk 0 letter thn many).on x l = if decide (x < many) = true then some (x + 1) else none := by
        simp only [Ru.on, Ru.nx, nxR, if_true, its]
        by_cases h : x = many
        · rw [if_pos h]; simp [h]
        · rw [if_neg h, if_neg (by omega), if_pos (by simp; omega)]
      exact Lib.hid this
    go_enter Try.func173, Try.ntmps173
    go_wp2_with (go_at_call 174; refine (letterIs_any _ hl3 _ hl _).mono ?_; rintro e w' ⟨rfl, rfl⟩)
    go_quiet (fail)
    go_wp2
    go_ret2
    exact ⟨_, _, rfl, HO.out, below_drewN (Below.refl _ _) _⟩
  · have its' : (byteAt letter 0 == byteOf l) = false := by simpa using its
    have HO : Hid ((Ru.mk 0 letter thn many).on x l = if true = true then some 0 else none) := by
      have : (Ru.mk 0 letter thn many).on x l = if true = true then some 0 else none := by
        simp [Ru.on, Ru.nx, nxR, its']
      exact Lib.hid this
    clear its
    go_enter Try.func173, Try.ntmps173
    go_wp2_with (go_at_call 174; refine (letterIs_any _ hl3 _ hl _).mono ?_; rintro e w' ⟨rfl, rfl⟩)
    go_ret2
    exact ⟨_, _, rfl, HO.out, Below.refl _ _⟩

theorem most1_any (letter thn : ByteArray) (many : Int) (B : Nat) (W : World) (hM : RuBox B 3 letter thn many W) (hl : letterOk letter = true) (x : Int) (h0 : 0 ≤ x) (h1 : x ≤ many) (h4 : many ≤ 5) (l : Nat) (hl3 : l < 3) :
    Calls Try.prog 179 #[.int .i64 x, .int .i64 (l : Int), .pointer (some ⟨B, 0, none⟩)] W (OnPost ⟨3, letter, thn, many⟩ x l W) := by
  have y1 := hM.c1
  have y3 := hM.c3
  clear hM
  by_cases its : (byteAt letter 0 == byteOf l) = true
  · have HO : Hid ((Ru.mk 3 letter thn many).on x l = if decide (x < many) = true then some (x + 1) else none) := by
      have : (Ru.mk 3 letter thn many).on x l = if decide (x < many) = true then some (x + 1) else none := by
        simp only [Ru.on, Ru.nx, nxR, its]
        by_cases h : x = many
        · simp [h]
        · have e : min (x + 1) many = x + 1 := by rw [Int.min_def]; split <;> omega
          have h5 : ¬ x + 1 = -1 := by omega
          have h6 : x < many := by omega
          simp [h, e, h5, h6]
      exact Lib.hid this
    go_enter Try.func179, Try.ntmps179
    go_wp2_with (go_at_call 174; refine (letterIs_any _ hl3 _ hl _).mono ?_; rintro e w' ⟨rfl, rfl⟩)
    go_quiet (fail)
    go_wp2
    go_ret2
    exact ⟨_, _, rfl, HO.out, below_drewN (Below.refl _ _) _⟩
  · have its' : (byteAt letter 0 == byteOf l) = false := by simpa using its
    have HO : Hid ((Ru.mk 3 letter thn many).on x l = if true = true then some x else none) := by
      have : (Ru.mk 3 letter thn many).on x l = if true = true then some x else none := by
        have : ¬ x = -1 := by omega
        simp [Ru.on, Ru.nx, nxR, its', this]
      exact Lib.hid this
    clear its
    go_enter Try.func179, Try.ntmps179
    go_wp2_with (go_at_call 174; refine (letterIs_any _ hl3 _ hl _).mono ?_; rintro e w' ⟨rfl, rfl⟩)
    go_ret2
    exact ⟨_, _, rfl, HO.out, Below.refl _ _⟩

theorem least1_any (letter thn : ByteArray) (many : Int) (B : Nat) (W : World) (hM : RuBox B 4 letter thn many W) (hl : letterOk letter = true) (x : Int) (h0 : 0 ≤ x) (h1 : x ≤ many) (h4 : many ≤ 5) (l : Nat) (hl3 : l < 3) :
    Calls Try.prog 180 #[.int .i64 x, .int .i64 (l : Int), .pointer (some ⟨B, 0, none⟩)] W (OnPost ⟨4, letter, thn, many⟩ x l W) := by
  have y1 := hM.c1
  have y3 := hM.c3
  clear hM
  by_cases its : (byteAt letter 0 == byteOf l) = true
  · have HO : Hid ((Ru.mk 4 letter thn many).on x l = if true = true then some (min (x + 1) many) else none) := by
      have : (Ru.mk 4 letter thn many).on x l = if true = true then some (min (x + 1) many) else none := by
        have : ¬ min (x + 1) many = -1 := by rw [Int.min_def]; split <;> omega
        simp [Ru.on, Ru.nx, nxR, its, this]
      exact Lib.hid this
    go_enter Try.func180, Try.ntmps180
    go_wp2_with (go_at_call 174; refine (letterIs_any _ hl3 _ hl _).mono ?_; rintro e w' ⟨rfl, rfl⟩)
    go_ret2
    exact ⟨_, _, rfl, HO.out, Below.refl _ _⟩
  · have its' : (byteAt letter 0 == byteOf l) = false := by simpa using its
    have HO : Hid ((Ru.mk 4 letter thn many).on x l = if true = true then some x else none) := by
      have : (Ru.mk 4 letter thn many).on x l = if true = true then some x else none := by
        have : ¬ x = -1 := by omega
        simp [Ru.on, Ru.nx, nxR, its', this]
      exact Lib.hid this
    clear its
    go_enter Try.func180, Try.ntmps180
    go_wp2_with (go_at_call 174; refine (letterIs_any _ hl3 _ hl _).mono ?_; rintro e w' ⟨rfl, rfl⟩)
    go_ret2
    exact ⟨_, _, rfl, HO.out, Below.refl _ _⟩

theorem least2_any (letter thn : ByteArray) (many : Int) (B : Nat) (W : World) (hM : RuBox B 4 letter thn many W) (x : Int) :
    Calls Try.prog 181 #[.int .i64 x, .pointer (some ⟨B, 0, none⟩)] W fun e W' => e = .returned (.bool ((Ru.mk 4 letter thn many).endAt x)) ∧ Below W.heap.size W W' := by
  have y3 := hM.c3
  clear hM
  have HE : Hid ((Ru.mk 4 letter thn many).endAt x = (x == many)) := Lib.hid rfl
  go_enter Try.func181, Try.ntmps181
  go_wp2
  go_ret
  exact ⟨ret_bool HE.out.symm, Below.refl _ _⟩

theorem run1_any (letter thn : ByteArray) (many : Int) (B : Nat) (W : World) (hM : RuBox B 1 letter thn many W) (x : Int) :
    Calls Try.prog 176 #[.int .i64 x, .pointer (some ⟨B, 0, none⟩)] W fun e W' => e = .returned (.bool ((Ru.mk 1 letter thn many).endAt x)) ∧ Below W.heap.size W W' := by
  have y3 := hM.c3
  clear hM
  have HE : Hid ((Ru.mk 1 letter thn many).endAt x = (x == 0 || x == many)) := Lib.hid rfl
  go_enter Try.func176, Try.ntmps176
  go_wp2
  all_goals
    go_ret
    exact ⟨ret_bool (by first | exact HE.out.symm | (rw [HE.out]; simp_all)), Below.refl _ _⟩

theorem run2_any (letter thn : ByteArray) (many : Int) (B L : Nat) (W : World) (hM : RuBox B 1 letter thn many W) (hL : W.cell? ⟨L, 0, none⟩ = some (.func (.func 176) #[] #[.pointer (some ⟨B, 0, none⟩)])) (hl : letterOk letter = true) (x : Int) (h0 : 0 ≤ x) (h1 : x ≤ many) (h4 : many ≤ 4) (l : Nat) (hl3 : l < 3) :
    Calls Try.prog 177 #[.int .i64 x, .int .i64 (l : Int), .pointer (some ⟨B, 0, none⟩), .pointer (some ⟨L, 0, none⟩)] W (OnPost ⟨1, letter, thn, many⟩ x l W) := by
  have y1 := hM.c1
  have y3 := hM.c3
  have MM := Lib.hid hM
  clear hM
  by_cases its : (byteAt letter 0 == byteOf l) = true
  · have HO : Hid ((Ru.mk 1 letter thn many).on x l = if true = true then some (min (x + 1) many) else none) := by
      have : (Ru.mk 1 letter thn many).on x l = if true = true then some (min (x + 1) many) else none := by
        have : ¬ min (x + 1) many = -1 := by rw [Int.min_def]; split <;> omega
        simp [Ru.on, Ru.nx, nxR, its, this]
      exact Lib.hid this
    clear hL
    go_enter Try.func177, Try.ntmps177
    go_wp2_with (go_at_call 174; refine (letterIs_any _ hl3 _ hl _).mono ?_; rintro e w' ⟨rfl, rfl⟩)
    go_ret2
    exact ⟨_, _, rfl, HO.out, Below.refl _ _⟩
  · have its' : (byteAt letter 0 == byteOf l) = false := by simpa using its
    have HO : Hid ((Ru.mk 1 letter thn many).on x l = if (Ru.mk 1 letter thn many).endAt x = true then some 0 else none) := by
      have : (Ru.mk 1 letter thn many).on x l = if (Ru.mk 1 letter thn many).endAt x = true then some 0 else none := by
        by_cases hx0 : x = 0
        · simp [Ru.on, Ru.nx, nxR, its', Ru.endAt, endR, hx0]
        · by_cases hxm : x = many
          · simp [Ru.on, Ru.nx, nxR, its', Ru.endAt, endR, hxm]
          · have h2 : 0 < x ∧ x < many := by omega
            simp [Ru.on, Ru.nx, nxR, its', Ru.endAt, endR, hx0, hxm, h2]
      exact Lib.hid this
    clear its
    go_enter Try.func177, Try.ntmps177
    go_wp2_with (go_at_call 174; refine (letterIs_any _ hl3 _ hl _).mono ?_; rintro e w' ⟨rfl, rfl⟩)
    refine (run1_any letter thn many B _ MM.out x).mono ?_
    rintro e w' ⟨rfl, hb⟩
    go_wp2_with fail
    go_ret2
    exact ⟨_, _, rfl, HO.out, hb⟩

theorem never1_any (letter thn : ByteArray) (many : Int) (B : Nat) (W : World) (hM : RuBox B 2 letter thn many W) (hl : letterOk letter = true) (ht : letterOk thn = true) (x : Int) (h0 : 0 ≤ x) (h1 : x ≤ 1) (l : Nat) (hl3 : l < 3) :
    Calls Try.prog 178 #[.int .i64 x, .int .i64 (l : Int), .pointer (some ⟨B, 0, none⟩)] W (OnPost ⟨2, letter, thn, many⟩ x l W) := by
  have y1 := hM.c1
  have y2 := hM.c2
  clear hM
  by_cases hx : x = 1
  · subst hx
    by_cases th : (byteAt thn 0 == byteOf l) = true
    · have HO : Hid ((Ru.mk 2 letter thn many).on 1 l = if false = true then some (-1) else none) := by
        have : (Ru.mk 2 letter thn many).on 1 l = if false = true then some (-1) else none := by
          simp [Ru.on, Ru.nx, nxR, th]
        exact Lib.hid this
      go_enter Try.func178, Try.ntmps178
      go_wp2_with (go_at_call 174; refine (letterIs_any _ hl3 _ (by assumption) _).mono ?_; rintro e w' ⟨rfl, rfl⟩)
      go_ret2
      exact ⟨_, _, rfl, HO.out, Below.refl _ _⟩
    · have th' : (byteAt thn 0 == byteOf l) = false := by simpa using th
      clear th
      by_cases its : (byteAt letter 0 == byteOf l) = true
      · have HO : Hid ((Ru.mk 2 letter thn many).on 1 l = if true = true then some 1 else none) := by
          have : (Ru.mk 2 letter thn many).on 1 l = if true = true then some 1 else none := by simp [Ru.on, Ru.nx, nxR, its, th']
          exact Lib.hid this
        go_enter Try.func178, Try.ntmps178
        go_wp2_with (go_at_call 174; refine (letterIs_any _ hl3 _ (by assumption) _).mono ?_; rintro e w' ⟨rfl, rfl⟩)
        go_ret2
        exact ⟨_, _, rfl, HO.out, Below.refl _ _⟩
      · have its' : (byteAt letter 0 == byteOf l) = false := by simpa using its
        clear its
        have HO : Hid ((Ru.mk 2 letter thn many).on 1 l = if true = true then some 0 else none) := by
          have : (Ru.mk 2 letter thn many).on 1 l = if true = true then some 0 else none := by simp [Ru.on, Ru.nx, nxR, its', th']
          exact Lib.hid this
        go_enter Try.func178, Try.ntmps178
        go_wp2_with (go_at_call 174; refine (letterIs_any _ hl3 _ (by assumption) _).mono ?_; rintro e w' ⟨rfl, rfl⟩)
        go_ret2
        exact ⟨_, _, rfl, HO.out, Below.refl _ _⟩
  · have hx' : (x == 1) = false := by simpa using hx
    by_cases its : (byteAt letter 0 == byteOf l) = true
    · have HO : Hid ((Ru.mk 2 letter thn many).on x l = if true = true then some 1 else none) := by
        have : (Ru.mk 2 letter thn many).on x l = if true = true then some 1 else none := by simp [Ru.on, Ru.nx, nxR, its, hx]
        exact Lib.hid this
      go_enter Try.func178, Try.ntmps178
      go_wp2_with (go_at_call 174; refine (letterIs_any _ hl3 _ (by assumption) _).mono ?_; rintro e w' ⟨rfl, rfl⟩)
      go_ret2
      exact ⟨_, _, rfl, HO.out, Below.refl _ _⟩
    · have its' : (byteAt letter 0 == byteOf l) = false := by simpa using its
      clear its
      have HO : Hid ((Ru.mk 2 letter thn many).on x l = if true = true then some 0 else none) := by
        have : (Ru.mk 2 letter thn many).on x l = if true = true then some 0 else none := by simp [Ru.on, Ru.nx, nxR, its', hx]
        exact Lib.hid this
      go_enter Try.func178, Try.ntmps178
      go_wp2_with (go_at_call 174; refine (letterIs_any _ hl3 _ (by assumption) _).mono ?_; rintro e w' ⟨rfl, rfl⟩)
      go_ret2
      exact ⟨_, _, rfl, HO.out, Below.refl _ _⟩
end Go.Proofs.Ytjdeahdngpccpaa

namespace Go.Proofs.Ytjdeahdngpccpaa

/-- a state, and the word that led to it -/
abbrev SW := Int × ByteArray
def letS (l : Nat) : ByteArray := ⟨#[byteOf l]⟩
def sh1 (m : M) (x : SW) (q : List SW) (l : Nat) : List SW := if x.2.size < 14 ∧ 0 ≤ m.nx x.1 l ∧ m.nx x.1 l ∉ q.map Prod.fst then q ++ [(m.nx x.1 l, x.2 ++ letS l)] else q
def shL (m : M) (x : SW) (q : List SW) : Nat → List SW
  | 0 => q
  | l + 1 => sh1 m x (shL m x q l) l
def shTo (m : M) : Nat → List SW
  | 0 => [(0, ⟨#[]⟩)]
  | n + 1 => match (shTo m n)[n]? with
    | some x => shL m x (shTo m n) 3
    | none => shTo m n
theorem sh1_prefix (m : M) (x : SW) (q : List SW) (l : Nat) : q <+: sh1 m x q l := by
  unfold sh1; split
  · exact List.prefix_append _ _
  · exact List.prefix_rfl
theorem shL_prefix (m : M) (x : SW) (q : List SW) (l : Nat) : q <+: shL m x q l := by
  induction l with
  | zero => exact List.prefix_rfl
  | succ l ih => exact ih.trans (sh1_prefix m x _ l)
theorem shTo_step {m : M} {n : Nat} (h : n < (shTo m n).length) : shTo m (n + 1) = shL m (shTo m n)[n] (shTo m n) 3 := by
  rw [shTo, List.getElem?_eq_getElem h]
/-- what every element of the search keeps -/
structure SGood (m : M) (x : SW) : Prop where
  s0 : 0 ≤ x.1
  s1 : x.1 < m.st
  ok : wordOk x.2 = true
  go : m.goes 0 x.2.data.toList = x.1
structure Sh (m : M) (q : List SW) : Prop where
  all : ∀ x ∈ q, SGood m x
  nd : (q.map Prod.fst).Nodup
  pos : 0 < q.length
  fst : 0 ∈ q.map Prod.fst
theorem wordOk_more {s : ByteArray} (h : wordOk s = true) (h14 : s.size < 14) (l : Nat) (hl : l < 3) : wordOk (s ++ letS l) = true := by
  simp only [wordOk, Bool.and_eq_true, decide_eq_true_eq, allL, List.all_eq_true] at h ⊢
  refine ⟨fun x hx => ?_, ?_⟩
  · rw [ByteArray.data_append, Array.toList_append, List.mem_append] at hx
    rcases hx with hx | hx
    · exact h.1 x hx
    · have : x = byteOf l := by simpa [letS] using hx
      subst this
      match l, hl with
      | 0, _ => decide
      | 1, _ => decide
      | 2, _ => decide
  · rw [ByteArray.size_append]
    have : (letS l).size = 1 := rfl
    omega
theorem wordOk_full {s : ByteArray} (h14 : ¬ s.size < 14) (l : Nat) : wordOk (s ++ letS l) = false := by
  cases hw : wordOk (s ++ letS l) with
  | false => rfl
  | true =>
    simp only [wordOk, Bool.and_eq_true, decide_eq_true_eq] at hw
    rw [ByteArray.size_append] at hw
    have : (letS l).size = 1 := rfl
    omega
theorem goes_more (m : M) (s : ByteArray) (l : Nat) (hl : l < 3) : m.goes 0 (s ++ letS l).data.toList = m.nx (m.goes 0 s.data.toList) l := by
  rw [ByteArray.data_append, Array.toList_append, M.goes_append]
  match l, hl with
  | 0, _ => rfl
  | 1, _ => rfl
  | 2, _ => rfl
theorem Sh.one {m : M} (hm : m.ok = true) {q : List SW} (h : Sh m q) {x : SW} (hx : SGood m x) (l : Nat) (hl : l < 3) : Sh m (sh1 m x q l) := by
  unfold sh1
  split
  · rename_i hc
    obtain ⟨c1, c2, c3⟩ := hc
    refine ⟨fun y hy => ?_, ?_, by simp, ?_⟩
    · rcases List.mem_append.1 hy with hy | hy
      · exact h.all y hy
      · obtain rfl := List.mem_singleton.1 hy
        exact ⟨c2, (M.nx_bd hm x.1 l hx.s1 (by omega) (by omega)).2, wordOk_more hx.ok c1 l hl, by rw [goes_more m x.2 l hl, hx.go]⟩
    · rw [List.map_append, List.nodup_append]
      refine ⟨h.nd, by simp, ?_⟩
      intro a ha b hb e
      subst e
      simp only [List.map_cons, List.map_nil, List.mem_singleton] at hb
      exact c3 (hb ▸ ha)
    · rw [List.map_append, List.mem_append]; exact .inl h.fst
  · exact h
theorem Sh.many {m : M} (hm : m.ok = true) {q : List SW} (h : Sh m q) {x : SW} (hx : SGood m x) : ∀ l, l ≤ 3 → Sh m (shL m x q l)
  | 0, _ => h
  | l + 1, hl => (Sh.many hm h hx l (by omega)).one hm hx l (by omega)
theorem Sh.start {m : M} (hm : m.ok = true) : Sh m (shTo m 0) := by
  refine ⟨fun x hx => ?_, by simp [shTo], by simp [shTo], by simp [shTo]⟩
  obtain rfl := List.mem_singleton.1 hx
  exact ⟨Int.le_refl _, by have := (M.ok_shape hm).1; show (0 : Int) < m.st; omega, by decide, rfl⟩
theorem Sh.to {m : M} (hm : m.ok = true) : ∀ n, Sh m (shTo m n)
  | 0 => Sh.start hm
  | n + 1 => by
    have ih := Sh.to hm n
    by_cases hn : n < (shTo m n).length
    · rw [shTo_step hn]; exact ih.many hm (ih.all _ (List.getElem_mem hn)) 3 (Nat.le_refl _)
    · rw [shTo, List.getElem?_eq_none (by omega)]; exact ih
theorem nodup_bd : ∀ (n : Nat) (l : List Int), l.Nodup → (∀ x ∈ l, 0 ≤ x ∧ x < (n : Int)) → l.length ≤ n
  | 0, l, _, h => by
    cases l with
    | nil => simp
    | cons x l => have := h x List.mem_cons_self; omega
  | n + 1, l, hn, h => by
    have h2 := nodup_bd n (l.erase (n : Int)) (hn.erase _) (fun x hx => by
      have h3 := h x (List.mem_of_mem_erase hx)
      have h4 : x ≠ n := fun e => by subst e; exact (List.Nodup.not_mem_erase hn) hx
      omega)
    have h5 := List.length_erase (a := (n : Int)) (l := l)
    split at h5 <;> omega
theorem Sh.len {m : M} (hm : m.ok = true) {q : List SW} (h : Sh m q) : q.length ≤ 48 := by
  have h1 := M.ok_shape hm
  have h2 := nodup_bd m.st.toNat (q.map Prod.fst) h.nd (fun x hx => by
    obtain ⟨y, hy, rfl⟩ := List.mem_map.1 hx
    have := h.all y hy
    have a := this.s0
    have b := this.s1
    omega)
  rw [List.length_map] at h2
  omega
/-- the word found at the n-th element -/
def hitAt (m : M) (n : Nat) : Option ByteArray := match (shTo m n)[n]? with
  | some x => if m.endAt x.1 = true then some x.2 else none
  | none => none
def IsShort (m : M) (r : Option ByteArray) : Prop :=
  ∃ n, (∀ j, j < n → j < (shTo m j).length ∧ hitAt m j = none) ∧ ((∃ w, hitAt m n = some w ∧ r = some w) ∨ ((shTo m n).length ≤ n ∧ r = none))
theorem hitAt_lt {m : M} {n : Nat} {w : ByteArray} (h : hitAt m n = some w) : n < (shTo m n).length := by
  rcases Nat.lt_or_ge n (shTo m n).length with h' | h'
  · exact h'
  · rw [hitAt, List.getElem?_eq_none h'] at h; cases h
theorem IsShort.one {m : M} {r r' : Option ByteArray} (h : IsShort m r) (h' : IsShort m r') : r = r' := by
  obtain ⟨n, h1, h2⟩ := h
  obtain ⟨k, k1, k2⟩ := h'
  rcases Nat.lt_trichotomy n k with hlt | rfl | hgt
  · obtain ⟨a, b⟩ := k1 n hlt
    rcases h2 with ⟨w, h2, -⟩ | ⟨h2, -⟩
    · rw [b] at h2; cases h2
    · omega
  · rcases h2 with ⟨w, h2, rfl⟩ | ⟨h2, rfl⟩
    · rcases k2 with ⟨u, k2, rfl⟩ | ⟨k2, -⟩
      · rw [h2] at k2; exact k2
      · have := hitAt_lt h2; omega
    · rcases k2 with ⟨u, k2, -⟩ | ⟨k2, rfl⟩
      · have := hitAt_lt k2; omega
      · rfl
  · obtain ⟨a, b⟩ := h1 k hgt
    rcases k2 with ⟨w, k2, -⟩ | ⟨k2, -⟩
    · rw [b] at k2; cases k2
    · omega
theorem hitAt_yes {m : M} {n : Nat} (h : n < (shTo m n).length) (he : m.endAt (shTo m n)[n].1 = true) : hitAt m n = some (shTo m n)[n].2 := by
  rw [hitAt, List.getElem?_eq_getElem h]; simp [he]
theorem hitAt_no {m : M} {n : Nat} (h : n < (shTo m n).length) (he : m.endAt (shTo m n)[n].1 = false) : hitAt m n = none := by
  rw [hitAt, List.getElem?_eq_getElem h]; simp [he]
end Go.Proofs.Ytjdeahdngpccpaa

namespace Go.Proofs.Ytjdeahdngpccpaa

/-- how many words of so many letters lead from a state to an end -/
def M.ways (m : M) : Nat → Int → Int
  | 0, s => if m.endAt s = true then 1 else 0
  | k + 1, s => m.ways k (m.nx s 0) + m.ways k (m.nx s 1) + m.ways k (m.nx s 2)
/-- those that begin with one of the first letters -/
def M.waysTo (m : M) (k : Nat) (s : Int) : Nat → Int
  | 0 => 0
  | l + 1 => m.waysTo k s l + m.ways k (m.nx s (l : Int))
theorem M.ways_end (m : M) (s : Int) : m.ways 0 s = if m.endAt s = true then 1 else 0 := rfl
theorem M.waysTo_zero (m : M) (k : Nat) (s : Int) : m.waysTo k s 0 = 0 := rfl
theorem M.waysTo_succ (m : M) (k : Nat) (s : Int) (l : Nat) : m.waysTo k s (l + 1) = m.waysTo k s l + m.ways k (m.nx s (l : Int)) := rfl
theorem M.ways_succ (m : M) (k : Nat) (s : Int) : m.ways (k + 1) s = m.waysTo k s 3 := by
  show m.ways k (m.nx s 0) + m.ways k (m.nx s 1) + m.ways k (m.nx s 2) = ((0 + m.ways k (m.nx s ((0 : Nat) : Int))) + m.ways k (m.nx s ((1 : Nat) : Int))) + m.ways k (m.nx s ((2 : Nat) : Int))
  rw [Int.zero_add]; rfl
theorem M.ways_lt (m : M) (k : Nat) (s : Int) (h : s < 0) : m.ways k s = 0 := by
  induction k generalizing s with
  | zero => rw [M.ways_end, M.endAt, if_pos h]; rfl
  | succ k ih =>
    show m.ways k (m.nx s 0) + m.ways k (m.nx s 1) + m.ways k (m.nx s 2) = 0
    rw [M.nx_neg _ _ _ h, M.nx_neg _ _ _ h, M.nx_neg _ _ _ h, ih (-1) (by omega)]; rfl
theorem M.ways_pow (m : M) (k : Nat) (s : Int) : 0 ≤ m.ways k s ∧ m.ways k s ≤ (3 : Int) ^ k := by
  induction k generalizing s with
  | zero => rw [M.ways_end]; split <;> simp
  | succ k ih =>
    have h0 := ih (m.nx s 0)
    have h1 := ih (m.nx s 1)
    have h2 := ih (m.nx s 2)
    have e : (3 : Int) ^ (k + 1) = (3 : Int) ^ k * 3 := Int.pow_succ _ _
    have : m.ways (k + 1) s = m.ways k (m.nx s 0) + m.ways k (m.nx s 1) + m.ways k (m.nx s 2) := rfl
    omega
theorem three_bd : ∀ k : Nat, k < 11 → (3 : Int) ^ k ≤ 59049 := by decide
theorem M.ways_bd (m : M) (k : Nat) (s : Int) (h : k ≤ 10) : 0 ≤ m.ways k s ∧ m.ways k s ≤ 59049 := by
  have h1 := m.ways_pow k s
  have h2 := three_bd k (by omega)
  omega
theorem M.waysTo_bd (m : M) (k : Nat) (s : Int) (l : Nat) (hl : l ≤ 3) (h : k ≤ 10) : 0 ≤ m.waysTo k s l ∧ m.waysTo k s l ≤ 177147 := by
  have a := m.ways_bd k (m.nx s ((0 : Nat) : Int)) h
  have b := m.ways_bd k (m.nx s ((1 : Nat) : Int)) h
  have c := m.ways_bd k (m.nx s ((2 : Nat) : Int)) h
  match l, hl with
  | 0, _ => rw [M.waysTo_zero]; omega
  | 1, _ => rw [M.waysTo_succ, M.waysTo_zero]; omega
  | 2, _ => rw [M.waysTo_succ, M.waysTo_succ, M.waysTo_zero]; omega
  | 3, _ => rw [M.waysTo_succ, M.waysTo_succ, M.waysTo_succ, M.waysTo_zero]; omega
theorem M.waysTo_mono (m : M) (k : Nat) (s : Int) {i j : Nat} (h : i ≤ j) : m.waysTo k s i ≤ m.waysTo k s j := by
  induction j with
  | zero => obtain rfl : i = 0 := by omega
            exact Int.le_refl _
  | succ j ih =>
    by_cases e : i = j + 1
    · subst e; exact Int.le_refl _
    · have := ih (by omega)
      have := (m.ways_pow k (m.nx s (j : Int))).1
      rw [M.waysTo_succ]; omega
/-- a row of the table -/
def M.waysRow (m : M) (k : Nat) : List Int := (List.range m.ends.length).map (fun (s : Nat) => m.ways k (s : Int))
theorem M.waysRow_length (m : M) (k : Nat) : (m.waysRow k).length = m.ends.length := by simp [M.waysRow]
theorem M.waysRow_at (m : M) (k s : Nat) (h : s < (m.waysRow k).length) : (m.waysRow k)[s] = m.ways k (s : Int) := by simp [M.waysRow]

/-- the letter of a place -/
def M.pick (m : M) (k : Nat) (s a : Int) : Nat := if a < m.waysTo k s 1 then 0 else if a < m.waysTo k s 2 then 1 else 2
theorem M.pick_lt (m : M) (k : Nat) (s a : Int) : m.pick k s a < 3 := by
  unfold M.pick; split
  · omega
  · split <;> omega
theorem M.pick_in (m : M) (k : Nat) (s a : Int) (h0 : 0 ≤ a) (h1 : a < m.ways (k + 1) s) : m.waysTo k s (m.pick k s a) ≤ a ∧ a < m.waysTo k s (m.pick k s a + 1) := by
  rw [M.ways_succ] at h1
  unfold M.pick; split
  · rename_i h; exact ⟨by rw [M.waysTo_zero]; exact h0, h⟩
  · split
    · rename_i h g; exact ⟨by omega, g⟩
    · rename_i h g; exact ⟨by omega, h1⟩
theorem M.pick_eq (m : M) (k : Nat) (s a : Int) (l : Nat) (hl : l < 3) (h0 : m.waysTo k s l ≤ a) (h1 : a < m.waysTo k s (l + 1)) : m.pick k s a = l := by
  unfold M.pick
  match l, hl with
  | 0, _ => rw [if_pos h1]
  | 1, _ => rw [if_neg (by omega), if_pos h1]
  | 2, _ =>
    have := m.waysTo_mono k s (i := 1) (j := 2) (by omega)
    rw [if_neg (by omega), if_neg (by omega)]
/-- the word of a place -/
def M.wordOn (m : M) : Nat → Int → Int → List UInt8
  | 0, _, _ => []
  | k + 1, s, a => byteOf (m.pick k s a) :: m.wordOn k (m.nx s (m.pick k s a : Nat)) (a - m.waysTo k s (m.pick k s a))
theorem M.wordOn_length (m : M) (k : Nat) (s a : Int) : (m.wordOn k s a).length = k := by
  induction k generalizing s a with
  | zero => rfl
  | succ k ih => rw [M.wordOn, List.length_cons, ih]
theorem M.wordOn_step (m : M) (k : Nat) (s a : Int) (l : Nat) (hl : l < 3) (h0 : m.waysTo k s l ≤ a) (h1 : a < m.waysTo k s (l + 1)) :
    m.wordOn (k + 1) s a = byteOf l :: m.wordOn k (m.nx s (l : Int)) (a - m.waysTo k s l) := by
  rw [M.wordOn, m.pick_eq k s a l hl h0 h1]
/-- how many taken words are before a word -/
def M.rank (m : M) : Int → List UInt8 → Int
  | _, [] => 0
  | s, c :: cs => m.waysTo cs.length s (letterOf (c.toNat : Int)).toNat + m.rank (m.nx s (letterOf (c.toNat : Int))) cs
/-- 1 if a word is taken -/
def M.took (m : M) (s : Int) (l : List UInt8) : Int := if m.endAt (m.goes s l) = true then 1 else 0
theorem M.took_bd (m : M) (s : Int) (l : List UInt8) : 0 ≤ m.took s l ∧ m.took s l ≤ 1 := by unfold M.took; split <;> omega
theorem M.rank_bd (m : M) (s : Int) (l : List UInt8) (h : allL l = true) : 0 ≤ m.rank s l ∧ m.rank s l + m.took s l ≤ m.ways l.length s := by
  induction l generalizing s with
  | nil => exact ⟨Int.le_refl _, by rw [M.rank, M.took, M.goes]; rw [List.length_nil, M.ways_end]; omega⟩
  | cons c cs ih =>
    have hc : isL c = true ∧ allL cs = true := by simpa [allL] using h
    have hb := letter_bd hc.1
    have ih := ih (m.nx s (letterOf (c.toNat : Int))) hc.2
    have e : ((letterOf (c.toNat : Int)).toNat : Int) = letterOf (c.toNat : Int) := Int.toNat_of_nonneg hb.1
    have h1 := m.waysTo_succ cs.length s (letterOf (c.toNat : Int)).toNat
    rw [e] at h1
    have h2 := m.waysTo_mono cs.length s (i := (letterOf (c.toNat : Int)).toNat + 1) (j := 3) (by omega)
    have h3 := m.waysTo_mono cs.length s (i := 0) (j := (letterOf (c.toNat : Int)).toNat) (by omega)
    rw [M.waysTo_zero] at h3
    have h4 : m.took s (c :: cs) = m.took (m.nx s (letterOf (c.toNat : Int))) cs := rfl
    rw [List.length_cons, M.ways_succ, M.rank, h4]
    omega
/-- the first letter from one on by which something is taken -/
def M.upFrom (m : M) (k : Nat) (s : Int) (j : Nat) : Option Nat :=
  if j ≤ 0 ∧ 0 < m.ways k (m.nx s ((0 : Nat) : Int)) then some 0 else if j ≤ 1 ∧ 0 < m.ways k (m.nx s ((1 : Nat) : Int)) then some 1 else if j ≤ 2 ∧ 0 < m.ways k (m.nx s ((2 : Nat) : Int)) then some 2 else none
theorem M.upFrom_some {m : M} {k : Nat} {s : Int} {j l : Nat} (h : m.upFrom k s j = some l) : l < 3 ∧ j ≤ l ∧ 0 < m.ways k (m.nx s (l : Int)) ∧ ∀ i, j ≤ i → i < l → m.ways k (m.nx s (i : Int)) = 0 := by
  unfold M.upFrom at h
  have p0 := m.ways_pow k (m.nx s ((0 : Nat) : Int))
  have p1 := m.ways_pow k (m.nx s ((1 : Nat) : Int))
  split at h
  · rename_i g; cases h; exact ⟨by omega, g.1, g.2, fun i _ hi => absurd hi (Nat.not_lt_zero _)⟩
  · rename_i g0
    split at h
    · rename_i g; cases h
      refine ⟨by omega, g.1, g.2, fun i hi hl => ?_⟩
      obtain rfl : i = 0 := by omega
      omega
    · rename_i g1
      split at h
      · rename_i g; cases h
        refine ⟨by omega, g.1, g.2, fun i hi hl => ?_⟩
        by_cases e : i = 0
        · subst e; omega
        · obtain rfl : i = 1 := by omega
          omega
      · cases h
theorem M.upFrom_none {m : M} {k : Nat} {s : Int} {j : Nat} (h : m.upFrom k s j = none) : ∀ i, j ≤ i → i < 3 → m.ways k (m.nx s (i : Int)) = 0 := by
  unfold M.upFrom at h
  have p0 := m.ways_pow k (m.nx s ((0 : Nat) : Int))
  have p1 := m.ways_pow k (m.nx s ((1 : Nat) : Int))
  have p2 := m.ways_pow k (m.nx s ((2 : Nat) : Int))
  split at h
  · cases h
  · split at h
    · cases h
    · split at h
      · cases h
      · intro i hi hl
        match i, hl with
        | 0, _ => omega
        | 1, _ => omega
        | 2, _ => omega
theorem M.waysTo_flat {m : M} {k : Nat} {s : Int} {i j : Nat} (hij : i ≤ j) (h : ∀ x, i ≤ x → x < j → m.ways k (m.nx s (x : Int)) = 0) : m.waysTo k s j = m.waysTo k s i := by
  induction j with
  | zero => obtain rfl : i = 0 := by omega
            rfl
  | succ j ih =>
    by_cases e : i = j + 1
    · subst e; rfl
    · rw [M.waysTo_succ, ih (by omega) (fun x hx hj => h x hx (by omega)), h j (by omega) (by omega)]; omega
/-- the next taken word -/
def M.nextUp (m : M) : Int → List UInt8 → Option (List UInt8)
  | _, [] => none
  | s, c :: cs => match m.nextUp (m.nx s (letterOf (c.toNat : Int))) cs with
    | some u => some (c :: u)
    | none => match m.upFrom cs.length s ((letterOf (c.toNat : Int)).toNat + 1) with
      | some l => some (byteOf l :: m.wordOn cs.length (m.nx s (l : Int)) 0)
      | none => none
theorem byteOf_letter {c : UInt8} (h : isL c = true) : byteOf (letterOf (c.toNat : Int)).toNat = c := by
  simp only [isL, Bool.or_eq_true, beq_iff_eq] at h
  rcases h with (rfl | rfl) | rfl <;> decide
theorem M.nextUp_eq (m : M) (s : Int) (l : List UInt8) (h : allL l = true) :
    m.nextUp s l = if m.rank s l + m.took s l < m.ways l.length s then some (m.wordOn l.length s (m.rank s l + m.took s l)) else none := by
  induction l generalizing s with
  | nil => rw [M.nextUp, if_neg]; rw [M.rank, M.took, M.goes, List.length_nil, M.ways_end]; omega
  | cons c cs ih =>
    have hc : isL c = true ∧ allL cs = true := by simpa [allL] using h
    have hb := letter_bd hc.1
    have hby := byteOf_letter hc.1
    have hr := m.rank_bd (m.nx s (letterOf (c.toNat : Int))) cs hc.2
    have ht := m.took_bd (m.nx s (letterOf (c.toNat : Int))) cs
    have ih := ih (m.nx s (letterOf (c.toNat : Int))) hc.2
    have h4 : m.took s (c :: cs) = m.took (m.nx s (letterOf (c.toNat : Int))) cs := rfl
    rw [M.nextUp, ih, M.rank, h4, List.length_cons]
    generalize ht0 : (letterOf (c.toNat : Int)).toNat = t at *
    have e : letterOf (c.toNat : Int) = (t : Int) := by omega
    rw [e] at hr ht ⊢
    generalize hR : m.rank (m.nx s (t : Int)) cs = r at *
    generalize hT : m.took (m.nx s (t : Int)) cs = u at *
    have hs := m.waysTo_succ cs.length s t
    have hm3 := m.waysTo_mono cs.length s (i := t + 1) (j := 3) (by omega)
    rw [M.ways_succ]
    by_cases hlt : r + u < m.ways cs.length (m.nx s (t : Int))
    · rw [if_pos hlt, if_pos (by omega), m.wordOn_step cs.length s (m.waysTo cs.length s t + r + u) t (by omega) (by omega) (by omega), hby]
      rw [show m.waysTo cs.length s t + r + u - m.waysTo cs.length s t = r + u by omega]
    · rw [if_neg hlt]
      have hfull : m.waysTo cs.length s t + r + u = m.waysTo cs.length s (t + 1) := by omega
      rw [hfull]
      cases hu : m.upFrom cs.length s (t + 1) with
      | none =>
        have := M.waysTo_flat (i := t + 1) (j := 3) (by omega) (fun x hx h3 => M.upFrom_none hu x hx h3)
        rw [if_neg (by omega)]
      | some l =>
        obtain ⟨h1, h2, h3, h5⟩ := M.upFrom_some hu
        have hf := M.waysTo_flat (i := t + 1) (j := l) h2 (fun x hx hl => h5 x hx hl)
        have hs2 := m.waysTo_succ cs.length s l
        have hm4 := m.waysTo_mono cs.length s (i := l + 1) (j := 3) (by omega)
        rw [if_pos (by omega), m.wordOn_step cs.length s (m.waysTo cs.length s (t + 1)) l h1 (by omega) (by omega)]
        rw [show m.waysTo cs.length s (t + 1) - m.waysTo cs.length s l = 0 by omega]
theorem M.nextUp_pre {m : M} {s : Int} {u v x : List UInt8} (h : m.nextUp (m.goes s u) v = some x) : m.nextUp s (u ++ v) = some (u ++ x) := by
  induction u generalizing s with
  | nil => exact h
  | cons c cs ih =>
    have ih := ih (s := m.nx s (letterOf (c.toNat : Int))) h
    rw [List.cons_append, M.nextUp, ih]; rfl
end Go.Proofs.Ytjdeahdngpccpaa

namespace Go.Proofs.Ytjdeahdngpccpaa
open Go.RowKit

/-- what lies below stays, and the call owns these things -/
structure Own (wB : World) (ts : List Thing) (w : World) : Prop where
  keep : Below wB.heap.size wB w
  ap : Apart wB.heap.size ts w
section
variable {wB : World} {ts : List Thing} {w w' : World}
theorem Own.nil (w : World) : Own w [] w := ⟨Below.refl _ _, Apart.nil _ _⟩
theorem Own.size (h : Own wB ts w) : wB.heap.size ≤ w.heap.size := h.keep.size
theorem Own.same (h : Own wB ts w) (hg : w.grownBy w' none) : Own wB ts w' := ⟨h.keep.grown hg h.size (fun _ e => by cases e), h.ap.same hg⟩
theorem Own.below (h : Own wB ts w) (hb : Below w.heap.size w w') : Own wB ts w' := h.same (grown_below hb)
theorem Own.alloc (h : Own wB ts w) (o : Obj) : Own wB ts (w.alloc o) := h.same (World.grownBy_alloc w o none)
theorem Own.drewN (h : Own wB ts w) (n : Nat) : Own wB ts (w.drewN n) := h.same (grown_drewN w n none)
theorem Own.sub (h : Own wB ts w) {us : List Thing} (s : us.Sublist ts) : Own wB us w := ⟨h.keep, h.ap.sub s⟩
theorem Own.perm (h : Own wB ts w) {us : List Thing} (s : ts.Perm us) : Own wB us w := ⟨h.keep, h.ap.perm s⟩
theorem Own.row (h : Own wB ts w) (i : Nat) (hi : i < ts.length) {e : TypeId} {v : Value} {n : Nat} {xs : List Value} (he : ts[i] = rowT e 1 v n xs) : w.ownsRow 0 e 1 v n xs := by
  have := h.ap.at i hi
  rw [he] at this; exact this
theorem Own.cells (h : Own wB ts w) (i : Nat) (hi : i < ts.length) {b : Nat} {cs : Array Value} {t : TypeId} (he : ts[i] = cellsT b cs t) : (cellsT b cs t).says w := by
  have := h.ap.at i hi
  rw [he] at this; exact this
/-- one more in a row -/
theorem Own.push {i g cp n : Nat} {e : TypeId} {v x : Value} {xs : List Value} {tt : TypeId} {w1 : World} (h : Own wB ts w) (hi : i < ts.length) (he : ts[i] = rowT e 1 v n xs) (hg : (w.alloc (.cells #[x] tt)).grownBy w1 v.ownBlock)
    (ho : w1.ownsRow 0 e 1 (.slice (some ⟨g, 0, none⟩) (n + 1) cp) (n + 1) (xs ++ [x])) (hat : v.ownBlock = some g ∨ g = (w.alloc (.cells #[x] tt)).heap.size) :
    Own wB (ts.set i (rowT e 1 (.slice (some ⟨g, 0, none⟩) (n + 1) cp) (n + 1) (xs ++ [x]))) w1 := by
  have h1 := h.alloc (.cells #[x] tt)
  have hlt := h1.ap.ltAt i hi
  rw [he] at hlt
  exact ⟨h1.keep.grown hg h1.size (fun j e => (hlt j e).1), h1.ap.turnAt i hi (by rw [he]; exact hg) _ ho h1.size
    (fun j e => ⟨by rw [he]; cases e; exact hat.imp id (fun e => Nat.le_of_eq e.symm), (World.ownsRow.lt ho j e).2⟩)⟩
/-- a store into a row -/
theorem Own.store {i g cap n : Nat} {e : TypeId} {xs : List Value} (h : Own wB ts w) (hi : i < ts.length) (he : ts[i] = rowT e 1 (.slice (some ⟨g, 0, none⟩) n cap) n xs) (j : Nat) (u : Value) :
    Own wB (ts.set i (rowT e 1 (.slice (some ⟨g, 0, none⟩) n cap) n (xs.set j u))) (w.setCell ⟨g, j, none⟩ u) := by
  have hlt := h.ap.ltAt i hi
  rw [he] at hlt
  refine ⟨h.keep.setCell (p := ⟨g, j, none⟩) (hlt g rfl).1 _, h.ap.turnAt i hi (by rw [he]; exact grown_setCell w g j u) _ (World.ownsRow.stored (h.row i hi he) j u).1 h.size ?_⟩
  intro k e
  exact ⟨.inl (by rw [he]; exact e), by have := (hlt k e).2; simpa using this⟩
/-- a store into a block of cells -/
theorem Own.put {i b : Nat} {cs : Array Value} {t : TypeId} (h : Own wB ts w) (hi : i < ts.length) (he : ts[i] = cellsT b cs t) (j : Nat) (u : Value) :
    Own wB (ts.set i (cellsT b (cs.setIfInBounds j u) t)) (w.setCell ⟨b, j, none⟩ u) := by
  have hlt := h.ap.ltAt i hi
  rw [he] at hlt
  exact ⟨h.keep.setCell (p := ⟨b, j, none⟩) (hlt b rfl).1 _, h.ap.setAt i hi he h.size j u⟩
/-- a new block of cells -/
theorem Own.box (h : Own wB ts w) (cs : Array Value) (t : TypeId) : Own wB (cellsT w.heap.size cs t :: ts) (w.alloc (.cells cs t)) :=
  ⟨(h.alloc _).keep, h.ap.more (World.grownBy_alloc w _ none) _ (heap_alloc_new w _) h.size (fun j e => by cases e; simp)⟩
/-- a new row, written out -/
theorem Own.lit (h : Own wB ts w) (e : TypeId) (xs : Array Value) (n : Nat) (hn : xs.size = n) (hm : n ≤ maxLen) : Own wB (rowT e 1 (.slice (some ⟨w.heap.size, 0, none⟩) n n) n xs.toList :: ts) (w.alloc (.cells xs e)) :=
  ⟨(h.alloc _).keep, h.ap.more (World.grownBy_alloc w _ none) _ (World.ownsRow_lit (base := 0) w xs n (Nat.zero_le _) hm (by omega)) h.size (fun j e => by cases e; simp)⟩
/-- a new row of its own that a step has made -/
theorem Own.new {b n cap : Nat} {e : TypeId} {xs : List Value} (h : Own wB ts w) (hg : w.grownBy w' none) (ho : w'.ownsRow b e 1 (.slice (some ⟨w.heap.size, 0, none⟩) n cap) n xs) : Own wB (rowT e 1 (.slice (some ⟨w.heap.size, 0, none⟩) n cap) n xs :: ts) w' :=
  ⟨(h.same hg).keep, h.ap.more hg _ (ownsRow_base ho (fun _ _ => Nat.zero_le _)) h.size (fun k e => by
    have hl := World.ownsRow.lt ho k e
    cases e
    exact ⟨Nat.le_refl _, hl.2⟩)⟩
theorem Own.idle (h : Own wB ts w) (e : TypeId) : Own wB (rowT e 1 (.slice none 0 0) 0 [] :: ts) w := ⟨h.keep, h.ap.idle _ (World.ownsRow_nil _ _ _ _) rfl⟩
end
end Go.Proofs.Ytjdeahdngpccpaa

namespace Go.Proofs.Ytjdeahdngpccpaa
open Go.RowKit

/-- a table of rows, the ways with so many letters left in each -/
def IsTab (w : World) (v : Value) (m : M) (N : Nat) : Prop :=
  ∃ (g off cap : Nat), v = .slice (some ⟨g, off, none⟩) (N + 1) cap ∧ N + 1 ≤ cap ∧ cap ≤ maxLen ∧ g < w.heap.size ∧ ∀ k, k ≤ N → ∃ rv, w.cell? ⟨g, off + k, none⟩ = some rv ∧ IsInts w rv (m.waysRow k)
theorem IsTab.below {w w' : World} {v : Value} {m : M} {N : Nat} (h : IsTab w v m N) (hb : Below w.heap.size w w') : IsTab w' v m N := by
  obtain ⟨g, off, cap, e, h1, h2, h3, h4⟩ := h
  refine ⟨g, off, cap, e, h1, h2, Nat.lt_of_lt_of_le h3 hb.size, fun k hk => ?_⟩
  obtain ⟨rv, a, b⟩ := h4 k hk
  exact ⟨rv, (hb.cell (p := ⟨g, off + k, none⟩) h3).trans a, b.below hb⟩
theorem IsTab.alloc {w : World} {v : Value} {m : M} {N : Nat} (h : IsTab w v m N) (o : Obj) : IsTab (w.alloc o) v m N := h.below ((Below.refl _ _).alloc (Nat.le_refl _) o)
/-- the rows of a table in memory -/
theorem Own.tab {wB w : World} {ts : List Thing} {m : M} {ov : Value} {ps : List (Value × List Int)} {N : Nat} (h : Own wB ts w) (hl : ps.length = N + 1) (hps : ps.map Prod.snd = (List.range (N + 1)).map m.waysRow)
    (ho : rowT 23 1 ov ps.length (ps.map Prod.fst) ∈ ts) (hi : ∀ p ∈ ps, inn p ∈ ts) : IsTab w ov m N := by
  have hr : w.ownsRow 0 23 1 ov ps.length (ps.map Prod.fst) := (h.ap.all _ ho).1
  rcases hr.2 with ⟨rfl, hn⟩ | ⟨g, cap, cur, rfl, hb, hg, h1, h2, h3, h4⟩
  · omega
  · refine ⟨g, 0, cap, by rw [hl], by omega, h2, (hr.lt g rfl).2, fun k hk => ?_⟩
    have hk' : k < ps.length := by omega
    have hc := World.ownsRow.cellAt hr k (by omega)
    rw [List.getElem?_map, List.getElem?_eq_getElem hk'] at hc
    have hin : w.ownsRow 0 3 1 ps[k].1 ps[k].2.length (ps[k].2.map (Value.int .i64)) := (h.ap.all _ (hi _ (List.getElem_mem hk'))).1
    have he : ps[k].2 = m.waysRow k := by
      have := congrArg (fun l => l[k]?) hps
      simp only [List.getElem?_map, List.getElem?_eq_getElem hk', List.getElem?_range (show k < N + 1 by omega), Option.map_some, Option.some.injEq] at this
      exact this
    rw [he] at hin
    exact ⟨ps[k].1, by rw [Nat.zero_add]; exact hc, IsInts.of_owns hin⟩
end Go.Proofs.Ytjdeahdngpccpaa

namespace Go.Proofs.Ytjdeahdngpccpaa
open Go.RowKit

def szMk (m : Mk) (left : Int) : Int := if szR m.its.letter.size m.its.thn.size left < 0 then -1 else szR m.its.letter.size m.its.thn.size left
theorem szR_le (a b : Nat) {left : Int} (h : 0 ≤ left) : szR a b left ≤ left ∧ -1 ≤ szR a b left := by
  unfold szR; split
  · omega
  · split <;> omega
theorem szMark_any (m : Mk) (hm : m.wf) (left : Int) (w : World) (h0 : 0 ≤ left) (hl : left ≤ 1048576) :
    Calls Try.prog 110 #[m.val, .int .i64 left] w
      fun e w' => (∃ r : Int, e = .returned (.int .i64 r) ∧ -1 ≤ r ∧ r ≤ left) ∧ Below w.heap.size w w' := by
  obtain ⟨k, a, b, c, d⟩ := m
  obtain ⟨-, -, h1, h2, -⟩ := hm
  have HS := Lib.hid (szR_le b.size c.size h0)
  have h1' := Lib.hid h1
  have h2' := Lib.hid h2
  show Calls Try.prog _ #[.agg #[.int .i64 k, .int .i64 a, .string b, .string c, .int .i64 d], .int .i64 left] w _
  clear h1 h2
  by_cases hs : szR b.size c.size left < 0
  · go_enter Try.func110, Try.ntmps110
    go_wp2_with (go_at_call 135; refine (szRule_any a b c d left _ h1'.out h2'.out h0 hl).mono ?_; rintro e w' ⟨rfl, hb⟩)
    go_ret
    exact ⟨⟨_, rfl, by omega, by omega⟩, (Go.Joins.below_alloc1 _ _).trans (hb.mono (by simp))⟩
  · go_enter Try.func110, Try.ntmps110
    go_wp2_with (go_at_call 135; refine (szRule_any a b c d left _ h1'.out h2'.out h0 hl).mono ?_; rintro e w' ⟨rfl, hb⟩)
    go_ret
    exact ⟨⟨_, rfl, HS.out.2, HS.out.1⟩, (Go.Joins.below_alloc1 _ _).trans (hb.mono (by simp))⟩

set_option maxHeartbeats 1600000 in
theorem szMarkS_any (ms : List Mk) (hwf : ∀ m ∈ ms, m.wf) (v : Value) (w : World) (h : IsMarks w v ms) (left : Int) (h0 : 0 ≤ left) (hl : left ≤ 1048576) :
    Calls Try.prog 53 #[v, .int .i64 left] w
      fun e w' => (∃ r : Int, e = .returned (.int .i64 r) ∧ -1 ≤ r ∧ r ≤ left ∧ (0 ≤ r → ms.length ≤ 1048576)) ∧ Below w.heap.size w w' := by
  obtain ⟨a, cap, rfl, ha1, ha2, ha⟩ := h
  have HA := Lib.hid ha
  have HWF := Lib.hid hwf
  unfold maxLen at ha2
  clear ha hwf
  by_cases hb : left - ms.length < 0
  · go_enter Try.func53, Try.ntmps53
    go_wp2_with fail
    go_ret
    exact ⟨⟨_, rfl, by omega, by omega, by omega⟩, Below.refl _ _⟩
  · go_enter Try.func53, Try.ntmps53
    go_wp2_with fail
    go_loopw [1, 5] (fun l i wr => ∃ (k : Nat) (x : Int), k ≤ ms.length ∧ i = .int .i64 k ∧ l = .int .i64 x ∧ 0 ≤ x ∧ x ≤ left ∧ Below w.heap.size w wr) (fun _ i _ => ms.length - (intOf i).toNat)
    case atStart => exact ⟨0, _, Nat.zero_le _, rfl, rfl, by omega, by omega, Below.refl _ _⟩
    case round =>
      obtain ⟨k, x, hk, rfl, rfl, hx0, hx1, hbel⟩ := hrel
      by_cases hlt : k < ms.length
      · obtain ⟨g, off, rfl, hg, hc⟩ := HA.out.resolve_left (fun h => by rw [h] at hlt; exact absurd hlt (Nat.not_lt_zero k))
        obtain ⟨c0, c1, c2, c3, c4⟩ := (hc k hlt).below hbel hg
        have hmw := Lib.hid (HWF.out ms[k] (List.getElem_mem hlt))
        have BB := Lib.hid hbel
        clear hc hbel
        generalize ms[k] = m at *
        have HZ := Lib.hid (fun W => szMark_any m hmw.out x W (by omega) (by omega))
        obtain ⟨k1, r1, l1, t1, n1⟩ := m
        simp only at c0 c1 c2 c3 c4
        go_wp2_with fail
        refine (HZ.out _).mono ?_
        rintro e w' ⟨⟨r, rfl, hr0, hr1⟩, hb1⟩
        have hb2 := Lib.hid (BB.out.trans (hb1.mono BB.out.size))
        clear hb1
        by_cases hr : r < 0
        · go_wp2_with fail
          go_ret
          exact ⟨⟨_, rfl, by omega, by omega, by omega⟩, hb2.out⟩
        · go_wp2_with fail
          go_roundw
          case rel => exact ⟨k + 1, r, by omega, by go_num, rfl, by omega, by omega, hb2.out⟩
          case measure => simp [intOf]; omega
      · obtain rfl : k = ms.length := by omega
        go_wp2_with fail
        go_ret
        exact ⟨⟨_, rfl, by omega, by omega, fun _ => by omega⟩, hbel⟩

/-- equal rules -/
theorem eqRule_same (kind : Int) (letter thn : ByteArray) (many : Int) (w : World) :
    Calls Try.prog 140 #[.agg #[.int .i64 kind, .string letter, .string thn, .int .i64 many], .agg #[.int .i64 kind, .string letter, .string thn, .int .i64 many]] w
      fun e w' => e = .returned (.bool true) ∧ Below w.heap.size w w' := by
  go_enter Try.func140, Try.ntmps140
  go_wp2_with fail
  go_ret
  exact ⟨rfl, Go.Joins.below_alloc2 _ _ _⟩
theorem eqMark_same (m : Mk) (w : World) :
    Calls Try.prog 115 #[m.val, m.val] w fun e w' => e = .returned (.bool true) ∧ Below w.heap.size w w' := by
  obtain ⟨k, a, b, c, d⟩ := m
  show Calls Try.prog _ #[.agg #[.int .i64 k, .int .i64 a, .string b, .string c, .int .i64 d], .agg #[.int .i64 k, .int .i64 a, .string b, .string c, .int .i64 d]] w _
  go_enter Try.func115, Try.ntmps115
  go_wp2_with (go_at_call 140; refine (eqRule_same a b c d _).mono ?_; rintro e w' ⟨rfl, hb⟩)
  go_ret
  exact ⟨rfl, (Go.Joins.below_alloc2 _ _ _).trans (hb.mono (by simp; omega))⟩
set_option maxHeartbeats 1600000 in
theorem eqMarkS_same (ms : List Mk) (v u : Value) (w : World) (h : IsMarks w v ms) (h2 : IsMarks w u ms) :
    Calls Try.prog 57 #[v, u] w fun e w' => e = .returned (.bool true) ∧ Below w.heap.size w w' := by
  obtain ⟨a, cap, rfl, ha1, ha2, ha⟩ := h
  obtain ⟨b, cap2, rfl, hb1, hb2, hb⟩ := h2
  have HA := Lib.hid ha
  have HB := Lib.hid hb
  unfold maxLen at ha2
  clear ha hb hb1 hb2
  go_enter Try.func57, Try.ntmps57
  go_wp2_with fail
  go_loopw [5] (fun i wr => ∃ k : Nat, k ≤ ms.length ∧ i = .int .i64 k ∧ Below w.heap.size w wr) (fun i _ => ms.length - (intOf i).toNat)
  case atStart => exact ⟨0, Nat.zero_le _, rfl, Below.refl _ _⟩
  case round =>
    obtain ⟨k, hk, rfl, hbel⟩ := hrel
    by_cases hlt : k < ms.length
    · obtain ⟨g, off, rfl, hg, hc⟩ := HA.out.resolve_left (fun h => by rw [h] at hlt; exact absurd hlt (Nat.not_lt_zero k))
      obtain ⟨g2, off2, rfl, hg2, hc2⟩ := HB.out.resolve_left (fun h => by rw [h] at hlt; exact absurd hlt (Nat.not_lt_zero k))
      obtain ⟨c0, c1, c2, c3, c4⟩ := (hc k hlt).below hbel hg
      obtain ⟨d0, d1, d2, d3, d4⟩ := (hc2 k hlt).below hbel hg2
      have BB := Lib.hid hbel
      clear hc hc2 hbel
      generalize ms[k] = m at *
      have HE := Lib.hid (fun W => eqMark_same m W)
      obtain ⟨k1, r1, l1, t1, n1⟩ := m
      have HE2 := Lib.hid (show ∀ W, Calls Try.prog 115 #[.agg #[.int .i64 k1, .int .i64 r1, .string l1, .string t1, .int .i64 n1], .agg #[.int .i64 k1, .int .i64 r1, .string l1, .string t1, .int .i64 n1]] W fun e w' => e = .returned (.bool true) ∧ Below W.heap.size W w' from HE.out)
      simp only at c0 c1 c2 c3 c4 d0 d1 d2 d3 d4
      go_wp2_with fail
      go_region_with (go_at_call 115; refine (HE2.out _).mono ?_; rintro e w' ⟨rfl, hb1⟩)
      all_goals
        go_wp2_with fail
        go_roundw
        case rel => exact ⟨k + 1, by omega, by go_num, BB.out.drew.trans (hb1.mono BB.out.size)⟩
        case measure => simp [intOf]; omega
    · obtain rfl : k = ms.length := by omega
      go_wp2_with fail
      go_ret
      exact ⟨rfl, hbel⟩
end Go.Proofs.Ytjdeahdngpccpaa

namespace Go.Proofs.Ytjdeahdngpccpaa
open Go.RowKit

theorem infoMarkC : (Try.prog.info? 108).map (fun i => (i.zero, i.size, i.bytes)) = some (some (.agg #[.int .i64 0, .int .i64 0, .string ⟨#[]⟩, .string ⟨#[]⟩, .int .i64 0]), 5, 56) := by kernel_rfl
def Mk.zero : Mk := ⟨0, Ru.void⟩

theorem set5_append (a l : List Value) (j : Nat) (x : Value) : (a ++ l).set (a.length + j) x = a ++ l.set j x := by
  rw [List.set_append_right _ _ (by omega)]; congr 1; congr 1; omega
theorem cellsM_set (ms : List Mk) : ∀ (k : Nat) (_ : k < ms.length) (m : Mk), (((((cellsM ms).set (k * 5) (.int .i64 m.kind)).set (k * 5 + 1) (.int .i64 m.its.kind)).set (k * 5 + 2) (.string m.its.letter)).set (k * 5 + 3) (.string m.its.thn)).set (k * 5 + 4) (.int .i64 m.its.many) = cellsM (ms.set k m) := by
  induction ms with
  | nil => intro k h; exact absurd h (Nat.not_lt_zero k)
  | cons x ms ih =>
    intro k h m
    match k, h with
    | 0, _ => simp [cellsM, Mk.cells]
    | k + 1, h =>
      have hl : x.cells.length = 5 := rfl
      have e : ∀ j, (k + 1) * 5 + j = x.cells.length + (k * 5 + j) := fun j => by rw [hl]; omega
      have e0 : (k + 1) * 5 = x.cells.length + k * 5 := by rw [hl]; omega
      simp only [cellsM, List.set_cons_succ]
      rw [e, e, e, e, e0, set5_append, set5_append, set5_append, set5_append, set5_append, ih k (by simpa using h) m]
/-- marks of which the first k are copied -/
def cpM (ms : List Mk) (k : Nat) : List Mk := ms.take k ++ List.replicate (ms.length - k) Mk.zero
theorem cpM_length (ms : List Mk) (k : Nat) (h : k ≤ ms.length) : (cpM ms k).length = ms.length := by
  rw [cpM, List.length_append, List.length_take, List.length_replicate]; omega
theorem cpM_zero (ms : List Mk) : cpM ms 0 = List.replicate ms.length Mk.zero := by simp [cpM]
theorem cpM_all (ms : List Mk) : cpM ms ms.length = ms := by simp [cpM]
theorem cpM_step (ms : List Mk) (k : Nat) (h : k < ms.length) : (cpM ms k).set k ms[k] = cpM ms (k + 1) := by
  have e : ms.length - k = (ms.length - (k + 1)) + 1 := by omega
  have hl : (ms.take k).length = k := by rw [List.length_take]; omega
  rw [cpM, cpM, List.set_append_right _ _ (by rw [hl]; exact Nat.le_refl _), hl, Nat.sub_self, e, List.replicate_succ, List.set_cons_zero, List.take_succ_eq_append_getElem h, List.append_assoc]
  rfl
theorem cellsM_zero (n : Nat) : (madeCells #[.int .i64 0, .int .i64 0, .string ⟨#[]⟩, .string ⟨#[]⟩, .int .i64 0] (n * 5)).toList = cellsM (List.replicate n Mk.zero) := by
  apply List.ext_getElem?
  intro i
  by_cases hi : i < n * 5
  · obtain ⟨k, j, hk, hj, rfl⟩ : ∃ k j, k < n ∧ j < 5 ∧ i = k * 5 + j := ⟨i / 5, i % 5, by omega, by omega, by omega⟩
    rw [cellsM_at _ k (by simpa using hk) j hj]
    simp only [List.getElem_replicate]
    have hm : (k * 5 + j) % 5 = j := by omega
    have : j = 0 ∨ j = 1 ∨ j = 2 ∨ j = 3 ∨ j = 4 := by omega
    rcases this with rfl | rfl | rfl | rfl | rfl <;> simp [madeCells, hi, hk, hm, Mk.cells, Mk.zero, Ru.void] <;> omega
  · rw [List.getElem?_eq_none (by simp [madeCells]; omega), List.getElem?_eq_none (by rw [cellsM_length, List.length_replicate]; omega)]

theorem toRuleM_any (kind : Int) (letter thn : ByteArray) (many : Int) (w : World) :
    Calls Try.prog 138 #[.agg #[.int .i64 kind, .string letter, .string thn, .int .i64 many]] w
      fun e w' => e = .returned (.agg #[.int .i64 kind, .string letter, .string thn, .int .i64 many]) ∧ Below w.heap.size w w' := by
  go_enter Try.func138, Try.ntmps138
  go_wp2_with fail
  refine bodyPost_ret (v := .agg #[.int .i64 kind, .string letter, .string thn, .int .i64 many]) ?_ rfl ⟨rfl, (((Below.refl _ _).alloc (Nat.le_refl _) _).alloc (by simp) _).alloc (by simp; omega) _⟩
  simp [results, Try.results138, go_sem]
/-- three boxes behind a call -/
theorem three_boxes {w w1 : World} {cs0 cs1 cs2 : Array Value} {t0 t1 t2 : TypeId} (hb : Below (((w.alloc (.cells cs0 t0)).alloc (.cells cs1 t1)).alloc (.cells cs2 t2)).heap.size (((w.alloc (.cells cs0 t0)).alloc (.cells cs1 t1)).alloc (.cells cs2 t2)) w1) :
    (∀ i, w1.cell? ⟨w.heap.size + 1, i, none⟩ = cs1[i]?) ∧ (∀ i, w1.frozen? ⟨w.heap.size + 1, i, none⟩ = false) ∧ (∀ i, w1.cell? ⟨w.heap.size + 1 + 1, i, none⟩ = cs2[i]?) ∧ (∀ i, w1.frozen? ⟨w.heap.size + 1 + 1, i, none⟩ = false) ∧ Below w.heap.size w w1 ∧ w.heap.size + 3 ≤ w1.heap.size := by
  have e1 : (w.alloc (.cells cs0 t0)).heap.size = w.heap.size + 1 := by simp
  have e2 : ((w.alloc (.cells cs0 t0)).alloc (.cells cs1 t1)).heap.size = w.heap.size + 1 + 1 := by simp
  have hs : (((w.alloc (.cells cs0 t0)).alloc (.cells cs1 t1)).alloc (.cells cs2 t2)).heap.size = w.heap.size + 1 + 1 + 1 := by simp
  rw [hs] at hb
  have hal : Below (w.heap.size + 1 + 1) ((w.alloc (.cells cs0 t0)).alloc (.cells cs1 t1)) (((w.alloc (.cells cs0 t0)).alloc (.cells cs1 t1)).alloc (.cells cs2 t2)) := (Below.refl _ _).alloc (by rw [e2]; exact Nat.le_refl _) _
  refine ⟨fun i => ?_, fun i => ?_, fun i => ?_, fun i => ?_, ?_, by have := hb.size; omega⟩
  · rw [hb.cell (p := ⟨w.heap.size + 1, i, none⟩) (by show w.heap.size + 1 < _; omega), hal.cell (p := ⟨w.heap.size + 1, i, none⟩) (by show w.heap.size + 1 < _; omega)]
    have := World.cell?_alloc_new (w.alloc (.cells cs0 t0)) cs1 t1 i
    rwa [e1] at this
  · rw [hb.frozen (p := ⟨w.heap.size + 1, i, none⟩) (by show w.heap.size + 1 < _; omega), hal.frozen (p := ⟨w.heap.size + 1, i, none⟩) (by show w.heap.size + 1 < _; omega)]
    have := World.frozen?_alloc_new (w.alloc (.cells cs0 t0)) cs1 t1 i
    rwa [e1] at this
  · rw [hb.cell (p := ⟨w.heap.size + 1 + 1, i, none⟩) (by show w.heap.size + 1 + 1 < _; omega)]
    have := World.cell?_alloc_new ((w.alloc (.cells cs0 t0)).alloc (.cells cs1 t1)) cs2 t2 i
    rwa [e2] at this
  · rw [hb.frozen (p := ⟨w.heap.size + 1 + 1, i, none⟩) (by show w.heap.size + 1 + 1 < _; omega)]
    have := World.frozen?_alloc_new ((w.alloc (.cells cs0 t0)).alloc (.cells cs1 t1)) cs2 t2 i
    rwa [e2] at this
  · exact ((((Below.refl w.heap.size w).alloc (Nat.le_refl _) _).alloc (by rw [e1]; omega) _).alloc (by rw [e2]; omega) _).trans (hb.mono (by omega))
theorem toMark_any (m : Mk) (w : World) : Calls Try.prog 112 #[m.val] w fun e w' => e = .returned m.val ∧ Below w.heap.size w w' := by
  obtain ⟨k, a, b, c, d⟩ := m
  show Calls Try.prog _ #[.agg #[.int .i64 k, .int .i64 a, .string b, .string c, .int .i64 d]] w fun e w' => e = .returned (.agg #[.int .i64 k, .int .i64 a, .string b, .string c, .int .i64 d]) ∧ Below w.heap.size w w'
  go_enter Try.func112, Try.ntmps112
  go_wp2_with fail
  refine (toRuleM_any a b c d _).mono ?_
  rintro e w2 ⟨rfl, hb2⟩
  obtain ⟨x1, g1, x2, g2, hbel, -⟩ := three_boxes hb2
  have HB := Lib.hid hbel
  clear hbel hb2
  have y0 := x1 0
  have y1 := x1 1
  have y2 := x1 2
  have y3 := x1 3
  have y4 := x1 4
  have z0 := x2 0
  have z1 := x2 1
  have z2 := x2 2
  have z3 := x2 3
  have z4 := x2 4
  have fy0 := g1 0
  have fy1 := g1 1
  have fy2 := g1 2
  have fy3 := g1 3
  have fy4 := g1 4
  have fz0 := g2 0
  have fz1 := g2 1
  have fz2 := g2 2
  have fz3 := g2 3
  have fz4 := g2 4
  clear x1 g1 x2 g2
  simp only [List.getElem?_toArray, List.getElem?_cons_zero, List.getElem?_cons_succ] at y0 y1 y2 y3 y4 z0 z1 z2 z3 z4
  go_wp2_with fail
  refine bodyPost_ret (v := .agg #[.int .i64 k, .int .i64 a, .string b, .string c, .int .i64 d]) ?_ rfl ⟨rfl, ?_⟩
  · simp [results, Try.results112, go_sem, y0, y1, y2, y3, y4]
  · exact ((((((((HB.out.setCell (Nat.le_succ_of_le (Nat.le_succ _)) _).setCell (Nat.le_succ_of_le (Nat.le_succ _)) _).setCell (Nat.le_succ_of_le (Nat.le_succ _)) _).setCell (Nat.le_succ_of_le (Nat.le_succ _)) _).setCell (Nat.le_succ _) _).setCell (Nat.le_succ _) _).setCell (Nat.le_succ _) _).setCell (Nat.le_succ _) _).setCell (Nat.le_succ _) _
/-- a fresh slice that holds marks -/
def MarksPost (ms : List Mk) (w : World) (e : Ending) (w' : World) : Prop :=
  ∃ v, e = .returned v ∧ w'.ownsRow w.heap.size 108 5 v ms.length (cellsM ms) ∧ Below w.heap.size w w'

set_option maxHeartbeats 1600000 in
theorem toMarkS_any (v : Value) (ms : List Mk) (w : World) (h : IsMarks w v ms) (hx : ms.length ≤ 1048576) :
    Calls Try.prog 55 #[v] w (MarksPost ms w) := by
  obtain ⟨i0, hi, hz0, hz1, hz2⟩ := info_parts infoMarkC
  have hsz : i0.bytes * ms.length ≤ 281474976710656 := by rw [hz2]; omega
  have HI := Lib.hid hi
  have HZ0 := Lib.hid hz0
  have HZ1 := Lib.hid hz1
  have HSZ := Lib.hid hsz
  clear hi hz0 hz1 hz2 hsz
  obtain ⟨a, cap, rfl, ha1, ha2, ha⟩ := h
  have HA := Lib.hid ha
  unfold maxLen at ha2
  clear ha
  go_enter Try.func55, Try.ntmps55
  go_wp2_with (at_make; refine wpList_make_full _ rfl _ _ 60 rfl w.heap.size 108 i0 (.agg #[.int .i64 0, .int .i64 0, .string ⟨#[]⟩, .string ⟨#[]⟩, .int .i64 0]) 5 Try.underlying60 HI.out HZ0.out HZ1.out .i64 .i64 _ _ ms.length rfl rfl rfl rfl HSZ.out (by unfold maxLen; omega) (Nat.le_refl _) ?_; intro w1 hown1 hgrow1)
  have hown0 : w1.ownsRow w.heap.size 108 5 (.slice (some ⟨w.heap.size, 0, none⟩) ms.length ms.length) ms.length (cellsM (cpM ms 0)) := by
    have e : (madeCells (Value.agg #[.int .i64 0, .int .i64 0, .string ⟨#[]⟩, .string ⟨#[]⟩, .int .i64 0]).cells (ms.length * 5)).toList = cellsM (cpM ms 0) := by
      rw [cpM_zero]
      exact cellsM_zero _
    rw [← e]; exact hown1
  have HOWN := Lib.hid hown0
  have hbel1 : Below w.heap.size w w1 := (Below.refl _ _).grown hgrow1 (Nat.le_refl _) (fun k e => by cases e)
  clear hown0 hown1 hgrow1
  go_loopw [4] (fun i wr => ∃ k : Nat, k ≤ ms.length ∧ i = .int .i64 k ∧ wr.ownsRow w.heap.size 108 5 (.slice (some ⟨w.heap.size, 0, none⟩) ms.length ms.length) ms.length (cellsM (cpM ms k)) ∧ Below w.heap.size w wr) (fun i _ => ms.length - (intOf i).toNat)
  case atStart => exact ⟨0, Nat.zero_le _, rfl, HOWN.out, hbel1⟩
  case round =>
    obtain ⟨k, hk, rfl, hown, hbel⟩ := hrel
    by_cases hlt : k < ms.length
    · obtain ⟨g, off, rfl, hg, hc⟩ := HA.out.resolve_left (fun h => by rw [h] at hlt; exact absurd hlt (Nat.not_lt_zero k))
      obtain ⟨c0, c1, c2, c3, c4⟩ := (hc k hlt).below hbel hg
      have HO := Lib.hid hown
      have HB := Lib.hid hbel
      have hsz := hbel.size
      have hml := cpM_length ms k hk
      obtain ⟨mz, hcc⟩ : ∃ mz : Mk, ∀ j, j < 5 → wr.cell? ⟨w.heap.size, k * 5 + j, none⟩ = mz.cells[j]? := ⟨(cpM ms k)[k]'(by omega), fun j hj => (hown.cellAt (k * 5 + j) (by omega)).trans (cellsM_at (cpM ms k) k (by omega) j hj)⟩
      have HCC := Lib.hid hcc
      have hstep : ∀ W : World, W.ownsRow w.heap.size 108 5 (.slice (some ⟨w.heap.size, 0, none⟩) ms.length ms.length) ms.length (cellsM (cpM ms k)) →
          (((((W.setCell ⟨w.heap.size, k * 5, none⟩ (.int .i64 ms[k].kind)).setCell ⟨w.heap.size, k * 5 + 1, none⟩ (.int .i64 ms[k].its.kind)).setCell ⟨w.heap.size, k * 5 + 2, none⟩ (.string ms[k].its.letter)).setCell ⟨w.heap.size, k * 5 + 3, none⟩ (.string ms[k].its.thn)).setCell ⟨w.heap.size, k * 5 + 4, none⟩ (.int .i64 ms[k].its.many)).ownsRow w.heap.size 108 5 (.slice (some ⟨w.heap.size, 0, none⟩) ms.length ms.length) ms.length (cellsM (cpM ms (k + 1))) := fun W h => by
        have s0 := (h.stored (k * 5) (.int .i64 ms[k].kind)).1
        have s1 := (s0.stored (k * 5 + 1) (.int .i64 ms[k].its.kind)).1
        have s2 := (s1.stored (k * 5 + 2) (.string ms[k].its.letter)).1
        have s3 := (s2.stored (k * 5 + 3) (.string ms[k].its.thn)).1
        have s4 := (s3.stored (k * 5 + 4) (.int .i64 ms[k].its.many)).1
        rwa [cellsM_set _ k (by omega) ms[k], cpM_step ms k hlt] at s4
      have HSTEP := Lib.hid hstep
      clear hown hbel hc hstep hml hcc
      generalize ms[k] = m at *
      have htm := fun W => toMark_any m W
      obtain ⟨k1, r1, l1, t1, n1⟩ := m
      obtain ⟨kz, rz, lz, tz, nz⟩ := mz
      have HTM : Hid (∀ W, Calls Try.prog 112 #[.agg #[.int .i64 k1, .int .i64 r1, .string l1, .string t1, .int .i64 n1]] W fun e w' => e = .returned (.agg #[.int .i64 k1, .int .i64 r1, .string l1, .string t1, .int .i64 n1]) ∧ Below W.heap.size W w') := Lib.hid htm
      clear htm
      simp only at c0 c1 c2 c3 c4
      go_wp2_with fail
      refine (HTM.out _).mono ?_
      rintro e w2 ⟨rfl, hb2⟩
      have hown2 := HO.out.kept (w' := w2) (row := none) ⟨hb2.os, hb2.tape, hb2.output, hb2.size, fun j hj _ => hb2.block j hj⟩ (.inr (by simp [Value.ownBlock]))
      have HFIN := Lib.hid (HSTEP.out _ hown2)
      have HB2 := Lib.hid (HB.out.trans (hb2.mono hsz))
      have hsl := HO.out.lt w.heap.size rfl
      have dst : ∀ j, j < 5 → w2.cell? ⟨w.heap.size, k * 5 + j, none⟩ = (Mk.mk kz ⟨rz, lz, tz, nz⟩).cells[j]? := fun j hj => (hb2.cell (p := ⟨w.heap.size, k * 5 + j, none⟩) hsl.2).trans (HCC.out j hj)
      have d0 := dst 0 (by omega)
      have d1 := dst 1 (by omega)
      have d2 := dst 2 (by omega)
      have d3 := dst 3 (by omega)
      have d4 := dst 4 (by omega)
      simp only [Mk.cells, List.getElem?_cons_zero, List.getElem?_cons_succ, Nat.add_zero] at d0 d1 d2 d3 d4
      have f0 := hown2.frozenAt (k * 5)
      have f1 := hown2.frozenAt (k * 5 + 1)
      have f2 := hown2.frozenAt (k * 5 + 2)
      have f3 := hown2.frozenAt (k * 5 + 3)
      have f4 := hown2.frozenAt (k * 5 + 4)
      clear hown2 hb2 dst
      go_wp2_with fail
      go_roundw
      case rel => exact ⟨k + 1, by omega, by go_num, HFIN.out, ((((HB2.out.setCell (Nat.le_refl _) _).setCell (Nat.le_refl _) _).setCell (Nat.le_refl _) _).setCell (Nat.le_refl _) _).setCell (Nat.le_refl _) _⟩
      case measure => simp [intOf]; omega
    · obtain rfl : k = ms.length := by omega
      have HC := Lib.hid (cpM_all ms)
      go_wp2
      go_ret
      refine ⟨_, rfl, ?_, hbel⟩
      rw [HC.out] at hown
      exact hown
end Go.Proofs.Ytjdeahdngpccpaa
