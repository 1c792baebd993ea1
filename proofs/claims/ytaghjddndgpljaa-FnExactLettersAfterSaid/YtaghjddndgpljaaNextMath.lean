/- The letters behind a word, and the next word, as plain functions. No program, no condition. -/
import Derived.Test.YtaghjddndgpljaaCountSpec
namespace Go.Proofs.Ytaghjddndgpljaa
open Go.RowKit

/-- the first letters that lead on to an end -/
def M.lettersTo (m : M) (k : Nat) (s : Int) : Nat → List Nat
  | 0 => []
  | l + 1 => if 0 < m.ways k (m.nx s (l : Int)) then m.lettersTo k s l ++ [l] else m.lettersTo k s l
def M.letters (m : M) (k : Nat) (s : Int) : List Nat := m.lettersTo k s 3
/-- letters as a text -/
def textL (l : List Nat) : ByteArray := ⟨(l.map byteOf).toArray⟩
theorem textL_list (l : List Nat) : (textL l).data.toList = l.map byteOf := by simp [textL]
theorem textL_size (l : List Nat) : (textL l).size = l.length := by
  have h := len_data (textL l)
  rw [textL_list, List.length_map] at h; exact h.symm
theorem textL_more (l : List Nat) (x : Nat) : textL (l ++ [x]) = textL l ++ letS x := bytes_ext (by rw [textL_list, letS_app, textL_list, List.map_append]; rfl)
theorem textL_nil : textL [] = ⟨#[]⟩ := rfl
theorem textL_at (l : List Nat) (j : Nat) (h : j < l.length) (h2 : j < (textL l).size) : (textL l)[j] = byteOf l[j] := by
  have e : (textL l)[j] = (textL l).data.toList[j]'(by rw [len_data]; exact h2) := rfl
  rw [e]
  have : (textL l).data.toList[j]? = some (byteOf l[j]) := by rw [textL_list, List.getElem?_map, List.getElem?_eq_getElem h]; rfl
  rw [List.getElem?_eq_getElem (by rw [len_data]; exact h2)] at this
  exact Option.some.inj this
/-- over three truths -/
def lb (b0 b1 b2 : Bool) : List Nat := (if b0 = true then [0] else []) ++ (if b1 = true then [1] else []) ++ (if b2 = true then [2] else [])
def ub (b0 b1 b2 : Bool) (j : Nat) : Option Nat := if j ≤ 0 ∧ b0 = true then some 0 else if j ≤ 1 ∧ b1 = true then some 1 else if j ≤ 2 ∧ b2 = true then some 2 else none
theorem M.letters_lb (m : M) (k : Nat) (s : Int) : m.letters k s = lb (decide (0 < m.ways k (m.nx s ((0 : Nat) : Int)))) (decide (0 < m.ways k (m.nx s ((1 : Nat) : Int)))) (decide (0 < m.ways k (m.nx s ((2 : Nat) : Int)))) := by
  unfold M.letters lb
  simp only [M.lettersTo, decide_eq_true_eq]
  by_cases h0 : 0 < m.ways k (m.nx s ((0 : Nat) : Int)) <;> by_cases h1 : 0 < m.ways k (m.nx s ((1 : Nat) : Int)) <;> by_cases h2 : 0 < m.ways k (m.nx s ((2 : Nat) : Int)) <;> simp only [h0, h1, h2, if_true, if_false, List.nil_append, List.append_nil]
theorem M.upFrom_ub (m : M) (k : Nat) (s : Int) (j : Nat) : m.upFrom k s j = ub (decide (0 < m.ways k (m.nx s ((0 : Nat) : Int)))) (decide (0 < m.ways k (m.nx s ((1 : Nat) : Int)))) (decide (0 < m.ways k (m.nx s ((2 : Nat) : Int)))) j := by
  unfold M.upFrom ub
  simp only [decide_eq_true_eq]
theorem lub : ∀ b0 b1 b2 : Bool, (∀ c, c < 3 → ∀ j, (h : j < (lb b0 b1 b2).length) → (∀ i, (g : i < (lb b0 b1 b2).length) → i < j → (lb b0 b1 b2)[i] ≤ c) → c < (lb b0 b1 b2)[j] → ub b0 b1 b2 (c + 1) = some (lb b0 b1 b2)[j]) ∧
    (∀ c, c < 3 → (∀ i, (g : i < (lb b0 b1 b2).length) → (lb b0 b1 b2)[i] ≤ c) → ub b0 b1 b2 (c + 1) = none) ∧ (∀ x ∈ lb b0 b1 b2, x < 3) ∧ (lb b0 b1 b2).length ≤ 3 := by decide
theorem M.letters_up {m : M} {k : Nat} {s : Int} {c j : Nat} (hc : c < 3) (h : j < (m.letters k s).length) (h1 : ∀ i, (g : i < (m.letters k s).length) → i < j → (m.letters k s)[i] ≤ c) (h2 : c < (m.letters k s)[j]) : m.upFrom k s (c + 1) = some (m.letters k s)[j] := by
  rw [m.upFrom_ub]
  have e := m.letters_lb k s
  simp only [e] at h h1 h2 ⊢
  exact (lub _ _ _).1 c hc j h h1 h2
theorem M.letters_up_no {m : M} {k : Nat} {s : Int} {c : Nat} (hc : c < 3) (h1 : ∀ i, (g : i < (m.letters k s).length) → (m.letters k s)[i] ≤ c) : m.upFrom k s (c + 1) = none := by
  rw [m.upFrom_ub]
  have e := m.letters_lb k s
  simp only [e] at h1
  exact (lub _ _ _).2.1 c hc h1
theorem M.letters_lt {m : M} {k : Nat} {s : Int} (x : Nat) (h : x ∈ m.letters k s) : x < 3 := by
  rw [m.letters_lb] at h
  exact (lub _ _ _).2.2.1 x h
theorem M.letters_len (m : M) (k : Nat) (s : Int) : (m.letters k s).length ≤ 3 := by
  rw [m.letters_lb]
  exact (lub _ _ _).2.2.2
theorem M.letters_neg (m : M) (k : Nat) (s : Int) (h : s < 0) : m.letters k s = [] := by
  have h0 : ∀ l : Int, ¬ 0 < m.ways k (m.nx s l) := fun l => by rw [M.nx_neg _ _ _ h, m.ways_lt k (-1) (by omega)]; omega
  unfold M.letters
  simp only [M.lettersTo, h0, if_false]
/-- the first letter of the first word -/
theorem M.letters_first {m : M} {k : Nat} {s : Int} (h : 0 < m.ways (k + 1) s) : ∃ r, m.letters k s = m.pick k s 0 :: r ∧ m.wordOn (k + 1) s 0 = byteOf (m.pick k s 0) :: m.wordOn k (m.nx s (m.pick k s 0 : Nat)) 0 ∧ 0 < m.ways k (m.nx s (m.pick k s 0 : Nat)) ∧ m.pick k s 0 < 3 := by
  obtain ⟨h1, h2⟩ := m.pick_in k s 0 (Int.le_refl _) h
  have hl := m.pick_lt k s 0
  have hs := m.waysTo_succ k s (m.pick k s 0)
  have hm := m.waysTo_mono k s (i := 0) (j := m.pick k s 0) (by omega)
  rw [M.waysTo_zero] at hm
  have hz : m.waysTo k s (m.pick k s 0) = 0 := by omega
  have h0 : ∀ i, i < m.pick k s 0 → m.ways k (m.nx s (i : Int)) = 0 := fun i hi => by
    have a := m.waysTo_succ k s i
    have b := m.waysTo_mono k s (i := i + 1) (j := m.pick k s 0) (by omega)
    have c := m.waysTo_mono k s (i := 0) (j := i) (by omega)
    rw [M.waysTo_zero] at c
    have d := (m.ways_pow k (m.nx s (i : Int))).1
    omega
  refine ⟨(m.letters k s).tail, ?_, ?_, by omega, hl⟩
  · generalize m.pick k s 0 = l at *
    have hp : 0 < m.ways k (m.nx s (l : Int)) := by omega
    rw [m.letters_lb]
    match l, hl with
    | 0, _ => rw [decide_eq_true hp]; rfl
    | 1, _ => rw [decide_eq_true hp, decide_eq_false (by have := h0 0 (by omega); omega : ¬ 0 < m.ways k (m.nx s ((0 : Nat) : Int)))]; rfl
    | 2, _ => rw [decide_eq_true hp, decide_eq_false (by have := h0 0 (by omega); omega : ¬ 0 < m.ways k (m.nx s ((0 : Nat) : Int))), decide_eq_false (by have := h0 1 (by omega); omega : ¬ 0 < m.ways k (m.nx s ((1 : Nat) : Int)))]; rfl
  · rw [M.wordOn, hz]; rfl

/-- LettersAfter -/
def laOk (m : M) (word : ByteArray) (n : Int) : Bool := m.ok && wordOk word && countedB n && decide ((word.size : Int) < n)
def lettersAfter (m : M) (word : ByteArray) (n : Int) : ByteArray := if laOk m word n = true then textL (m.letters (n.toNat - 1 - word.size) (m.goes 0 word.data.toList)) else ⟨#[]⟩
theorem lettersAfter_no {m : M} {word : ByteArray} {n : Int} (h : laOk m word n = false) : lettersAfter m word n = ⟨#[]⟩ := by rw [lettersAfter, h]; rfl
theorem lettersAfter_yes {m : M} {word : ByteArray} {r : Nat} (h : laOk m word (r : Int) = true) : lettersAfter m word (r : Int) = textL (m.letters (r - 1 - word.size) (m.goes 0 word.data.toList)) := by
  rw [lettersAfter, if_pos h, Int.toNat_natCast]
theorem laOk_iff {m : M} {word : ByteArray} {n : Int} : laOk m word n = true ↔ m.ok = true ∧ wordOk word = true ∧ countedB n = true ∧ (word.size : Int) < n := by
  simp only [laOk, Bool.and_eq_true, decide_eq_true_eq, and_assoc]
/-- NextWord -/
def nextOkB (m : M) (word : ByteArray) : Bool := m.ok && wordOk word && countedB (word.size : Int)
def nextWordZ (m : M) (word : ByteArray) : ByteArray × Bool := if nextOkB m word = true then wordZ m word.size (m.rank 0 word.data.toList + m.took 0 word.data.toList) else (⟨#[]⟩, false)
theorem nextWordZ_no {m : M} {word : ByteArray} (h : nextOkB m word = false) : nextWordZ m word = (⟨#[]⟩, false) := by rw [nextWordZ, h]; rfl
theorem nextWordZ_yes {m : M} {word : ByteArray} (h : nextOkB m word = true) : nextWordZ m word = wordZ m word.size (m.rank 0 word.data.toList + m.took 0 word.data.toList) := by rw [nextWordZ, if_pos h]
/-- an answer of the next word, found or not -/
def upZ : Option (List UInt8) → ByteArray × Bool
  | none => (⟨#[]⟩, false)
  | some l => (⟨l.toArray⟩, true)
theorem nextWordZ_up {m : M} {word : ByteArray} (h : nextOkB m word = true) : nextWordZ m word = upZ (m.nextUp 0 word.data.toList) := by
  have hw : wordOk word = true := by
    simp only [nextOkB, Bool.and_eq_true] at h; exact h.1.2
  have ha := wordOk_all hw
  have hr := m.rank_bd 0 _ ha
  have ht := m.took_bd 0 word.data.toList
  rw [nextWordZ_yes h, m.nextUp_eq 0 _ ha, wordZ, len_data]
  by_cases g : m.rank 0 word.data.toList + m.took 0 word.data.toList < m.ways word.size 0
  · rw [if_pos g, if_pos ⟨by omega, g⟩]; rfl
  · rw [if_neg g, if_neg (fun x => g x.2)]; rfl
end Go.Proofs.Ytaghjddndgpljaa
