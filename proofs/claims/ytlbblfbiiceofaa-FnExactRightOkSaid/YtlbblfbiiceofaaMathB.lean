/- Plain mathematics of words: back, rolled, counted, differing. No program, no condition. -/
import Derived.Test.YtlbblfbiiceofaaMath
namespace Go.Proofs.Ytlbblfbiiceofaa

theorem backStr_yes {s : ByteArray} (h : wordOk s = true) : backStr s = backFrom s 0 := by simp [backStr, h]
theorem backStr_no {s : ByteArray} (h : wordOk s = false) : backStr s = ⟨#[]⟩ := by simp [backStr, h]
theorem back0_list (s : ByteArray) : (backFrom s 0).data.toList = s.data.toList.reverse := by simp [backFrom]
theorem wordOk_list {s : ByteArray} : wordOk s = true ↔ (∀ x ∈ s.data.toList, isL x = true) ∧ s.data.toList.length ≤ 14 := by
  simp only [wordOk, Bool.and_eq_true, decide_eq_true_eq, allL, List.all_eq_true, len_data]
theorem wordOk_back {s : ByteArray} (h : wordOk s = true) : wordOk (backStr s) = true := by
  rw [backStr_yes h, wordOk_list, back0_list]
  have := wordOk_list.1 h
  exact ⟨fun x hx => this.1 x (List.mem_reverse.1 hx), by rw [List.length_reverse]; exact this.2⟩
theorem back_back {s : ByteArray} (h : wordOk s = true) : backStr (backStr s) = s := by
  rw [backStr_yes (wordOk_back h), backStr_yes h]
  apply bytes_ext
  rw [back0_list, back0_list, List.reverse_reverse]
theorem back_size {s : ByteArray} (h : wordOk s = true) : (backStr s).size = s.size := by
  rw [← len_data, ← len_data, backStr_yes h, back0_list, List.length_reverse]
theorem back_no_size {s : ByteArray} (h : wordOk s = false) : (backStr s).size = 0 := by rw [backStr_no h]; rfl

/-- a rolled list -/
theorem rolled_list (s : ByteArray) (k : Nat) (h : rolledOk s k = true) : (rolledStr s k).data.toList = s.data.toList.drop k ++ s.data.toList.take k := by
  rw [rolledStr_yes s k h, ByteArray.data_append, Array.toList_append, ByteArray.data_extract, ByteArray.data_extract, Array.toList_extract, Array.toList_extract, List.extract_eq_take_drop, List.extract_eq_take_drop]
  rw [List.drop_zero, Nat.sub_zero]
  congr 1
  rw [List.take_of_length_le]
  rw [List.length_drop, len_data]; exact Nat.le_refl _
theorem rolledOk_nat {s : ByteArray} {k : Nat} : rolledOk s k = true ↔ wordOk s = true ∧ k ≤ s.size := by
  simp only [rolledOk, Bool.and_eq_true, decide_eq_true_eq]
  exact ⟨fun h => ⟨h.1, by omega⟩, fun h => ⟨h.1, by omega, by omega⟩⟩
theorem rolledOk_int {s : ByteArray} {k : Int} (h : rolledOk s k = true) : ∃ n : Nat, k = n ∧ n ≤ s.size ∧ wordOk s = true := by
  simp only [rolledOk, Bool.and_eq_true, decide_eq_true_eq] at h
  exact ⟨k.toNat, by omega, by omega, h.1⟩
theorem rolled_word {s : ByteArray} {k : Nat} (h : rolledOk s k = true) : wordOk (rolledStr s k) = true := by
  have hw := wordOk_list.1 (rolledOk_nat.1 h).1
  rw [wordOk_list, rolled_list s k h]
  refine ⟨fun x hx => ?_, ?_⟩
  · rcases List.mem_append.1 hx with h1 | h1
    · exact hw.1 x (List.mem_of_mem_drop h1)
    · exact hw.1 x (List.mem_of_mem_take h1)
  · rw [List.length_append, List.length_drop, List.length_take]; omega
theorem rolled_size {s : ByteArray} {k : Nat} (h : rolledOk s k = true) : (rolledStr s k).size = s.size := by
  have hk := (rolledOk_nat.1 h).2
  rw [← len_data, rolled_list s k h, List.length_append, List.length_drop, List.length_take, len_data]; omega
theorem rolled_rest {s : ByteArray} {k : Nat} (h : rolledOk s k = true) : rolledOk (rolledStr s k) ((s.size : Int) - k) = true := by
  have hk := (rolledOk_nat.1 h).2
  rw [show ((s.size : Int) - k) = ((s.size - k : Nat) : Int) from by omega, rolledOk_nat, rolled_size h]
  exact ⟨rolled_word h, by omega⟩
theorem rolled_back {s : ByteArray} {k : Nat} (h : rolledOk s k = true) : rolledStr (rolledStr s k) ((s.size : Int) - k) = s := by
  have hk := (rolledOk_nat.1 h).2
  have hr := rolled_rest h
  rw [show ((s.size : Int) - k) = ((s.size - k : Nat) : Int) from by omega] at hr ⊢
  apply bytes_ext
  rw [rolled_list _ _ hr, rolled_list s k h]
  have hl : (s.data.toList.drop k).length = s.size - k := by rw [List.length_drop, len_data]
  rw [← hl, List.drop_left, List.take_left, List.take_append_drop]

theorem rolled_last {s : ByteArray} (h : rolledOk s 1 = true) (h0 : 0 < s.size) (h1 : s.size - 1 < (rolledStr s 1).size) : (rolledStr s 1)[s.size - 1] = s[0] := by
  have hl : (rolledStr s 1).data.toList = s.data.toList.drop 1 ++ s.data.toList.take 1 := rolled_list s 1 h
  have hd : (s.data.toList.drop 1).length = s.size - 1 := by rw [List.length_drop, len_data]
  have h2 : s.size - 1 < (rolledStr s 1).data.toList.length := by rw [len_data]; exact h1
  show (rolledStr s 1).data.toList[s.size - 1]'h2 = s.data.toList[0]'(by rw [len_data]; exact h0)
  simp only [hl]
  rw [List.getElem_append_right (by rw [hd]; exact Nat.le_refl _)]
  simp only [hd, Nat.sub_self, List.getElem_take]

/-- how often a byte is in a list -/
theorem cntTo_shift (p : Nat → Bool) (k : Nat) : cntTo p (k + 1) = (if p 0 = true then 1 else 0) + cntTo (fun i => p (i + 1)) k := by
  induction k with
  | zero => simp [cntTo]
  | succ k ih => rw [cntTo, ih, cntTo]; omega
theorem cntEq_count (l : List UInt8) (c : UInt8) : cntEq l c l.length = (l.countP (· == c) : Int) := by
  induction l with
  | nil => rfl
  | cons a l ih =>
    simp only [cntEq, List.length_cons] at ih ⊢
    rw [cntTo_shift]
    have e : (fun i => (a :: l).getD (i + 1) 0 == c) = fun i => l.getD i 0 == c := by funext i; simp [List.getD]
    rw [e, ih, List.countP_cons]
    simp only [List.getD_cons_zero]
    split <;> omega
theorem countOf_list {s t : ByteArray} (h : wordOk s = true) (g : letterOk t = true) : countOf s t = (s.data.toList.countP (· == byteAt t 0) : Int) := by
  have e : countOf s t = cntEq s.data.toList (byteAt t 0) s.size := by simp [countOf, h, g]
  rw [e, ← len_data, cntEq_count]
theorem countOf_back {s t : ByteArray} (h : wordOk s = true) (g : letterOk t = true) : countOf (backStr s) t = countOf s t := by
  rw [countOf_list h g, countOf_list (wordOk_back h) g, backStr_yes h, back0_list, List.countP_reverse]
theorem countOf_rolled {s t : ByteArray} {k : Nat} (h : rolledOk s k = true) (g : letterOk t = true) : countOf (rolledStr s k) t = countOf s t := by
  rw [countOf_list (rolledOk_nat.1 h).1 g, countOf_list (rolled_word h) g, rolled_list s k h, List.countP_append, Int.natCast_add, Int.add_comm, ← Int.natCast_add, ← List.countP_append, List.take_append_drop]
theorem three_counts (l : List UInt8) (h : ∀ x ∈ l, isL x = true) : l.countP (· == 114) + l.countP (· == 100) + l.countP (· == 110) = l.length := by
  induction l with
  | nil => rfl
  | cons a l ih =>
    have h1 := ih (fun x hx => h x (List.mem_cons_of_mem _ hx))
    have h2 := h a (List.mem_cons_self ..)
    simp only [isL, Bool.or_eq_true, beq_iff_eq] at h2
    simp only [List.countP_cons, List.length_cons]
    rcases h2 with (rfl | rfl) | rfl <;> simp <;> omega
theorem countOf_three {s : ByteArray} (h : wordOk s = true) : countOf s ⟨#[114]⟩ + countOf s ⟨#[100]⟩ + countOf s ⟨#[110]⟩ = s.size := by
  rw [countOf_list h (by decide +kernel), countOf_list h (by decide +kernel), countOf_list h (by decide +kernel)]
  have e1 : byteAt ⟨#[114]⟩ 0 = 114 := rfl
  have e2 : byteAt ⟨#[100]⟩ 0 = 100 := rfl
  have e3 : byteAt ⟨#[110]⟩ 0 = 110 := rfl
  rw [e1, e2, e3]
  have := three_counts s.data.toList (wordOk_list.1 h).1
  rw [len_data] at this
  omega
theorem countOf_bd {s t : ByteArray} (h : wordOk s = true) (g : letterOk t = true) : 0 ≤ countOf s t ∧ countOf s t ≤ s.size := by
  rw [countOf_list h g]
  have := List.countP_le_length (l := s.data.toList) (p := (· == byteAt t 0))
  rw [len_data] at this
  omega

/-- differences -/
theorem cntTo_congr {p q : Nat → Bool} (k : Nat) (h : ∀ i, i < k → p i = q i) : cntTo p k = cntTo q k := by
  induction k with
  | zero => rfl
  | succ k ih => rw [cntTo, cntTo, ih (fun i hi => h i (by omega)), h k (by omega)]
theorem cntNe_comm (l m : List UInt8) (k : Nat) : cntNe l m k = cntNe m l k := by
  apply cntTo_congr
  intro i _
  rw [Bool.eq_iff_iff, bne_iff_ne, bne_iff_ne]; exact ⟨Ne.symm, Ne.symm⟩
theorem cntTo_zero {p : Nat → Bool} {k : Nat} : cntTo p k = 0 ↔ ∀ i, i < k → p i = false := by
  induction k with
  | zero => simp [cntTo]
  | succ k ih =>
    have hb := cntTo_bd p k
    rw [cntTo]
    cases h : p k with
    | true =>
      simp
      refine ⟨fun e => by omega, fun e => ?_⟩
      have := e k (by omega)
      rw [h] at this; cases this
    | false =>
      simp
      rw [ih]
      refine ⟨fun e i hi => ?_, fun e i hi => e i (by omega)⟩
      by_cases hk : i = k
      · rw [hk, h]
      · exact e i (by omega)
theorem cntTo_tri {p q r : Nat → Bool} (k : Nat) (h : ∀ i, i < k → p i = true → q i = true ∨ r i = true) : cntTo p k ≤ cntTo q k + cntTo r k := by
  induction k with
  | zero => simp [cntTo]
  | succ k ih =>
    have i1 := ih (fun i hi => h i (by omega))
    have i2 := h k (by omega)
    rw [cntTo, cntTo, cntTo]
    cases hp : p k <;> cases hq : q k <;> cases hr : r k <;> simp_all <;> omega
theorem differOf_comm (s t : ByteArray) : differOf s t = differOf t s := by
  unfold differOf
  by_cases e : s.size = t.size
  · rw [cntNe_comm, ← e]
    cases wordOk s <;> cases wordOk t <;> simp
  · have e' : ¬ t.size = s.size := fun h => e h.symm
    simp [e, e']
theorem differOf_bd (s t : ByteArray) : -1 ≤ differOf s t ∧ differOf s t ≤ s.size := by
  unfold differOf
  have := cntNe_bd s.data.toList t.data.toList s.size
  split <;> omega
theorem differOf_ok {s t : ByteArray} (h : 0 ≤ differOf s t) : wordOk s = true ∧ wordOk t = true ∧ s.size = t.size := by
  unfold differOf at h
  split at h
  · rename_i hc; simp only [Bool.and_eq_true, decide_eq_true_eq] at hc; exact ⟨hc.1.1, hc.1.2, hc.2⟩
  · omega
theorem differOf_val {s t : ByteArray} (h : wordOk s = true ∧ wordOk t = true ∧ s.size = t.size) : differOf s t = cntNe s.data.toList t.data.toList s.size := by
  unfold differOf; rw [if_pos]; simp only [Bool.and_eq_true, decide_eq_true_eq]; exact ⟨⟨h.1, h.2.1⟩, h.2.2⟩
theorem differOf_zero {s t : ByteArray} (h : 0 ≤ differOf s t) : differOf s t = 0 ↔ s = t := by
  have ho := differOf_ok h
  rw [differOf_val ho, cntNe, cntTo_zero]
  refine ⟨fun e => bytes_ext (List.ext_getElem (by rw [len_data, len_data]; exact ho.2.2) fun i h1 h2 => ?_), fun e i _ => by rw [e]; simp⟩
  have := e i (by rw [← len_data]; exact h1)
  have e1 : s.data.toList.getD i 0 = s.data.toList[i] := by rw [List.getD, List.getElem?_eq_getElem h1]; rfl
  have e2 : t.data.toList.getD i 0 = t.data.toList[i] := by rw [List.getD, List.getElem?_eq_getElem h2]; rfl
  simp only [bne_eq_false_iff_eq] at this
  rw [e1, e2] at this
  exact this
theorem differOf_tri (a b c : ByteArray) (h : 0 ≤ differOf a b) (h1 : 0 ≤ differOf a c) (h2 : 0 ≤ differOf c b) : differOf a b ≤ differOf a c + differOf c b := by
  have o0 := differOf_ok h
  have o1 := differOf_ok h1
  have o2 := differOf_ok h2
  rw [differOf_val o0, differOf_val o1, differOf_val o2, ← o1.2.2]
  apply cntTo_tri
  intro i _ hp
  rw [bne_iff_ne] at hp
  rw [bne_iff_ne, bne_iff_ne]
  by_cases e : a.data.toList.getD i 0 = c.data.toList.getD i 0
  · exact .inr (fun e2 => hp (e.trans e2))
  · exact .inl e
end Go.Proofs.Ytlbblfbiiceofaa
