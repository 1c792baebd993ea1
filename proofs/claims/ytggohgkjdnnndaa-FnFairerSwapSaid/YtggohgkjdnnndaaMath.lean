/- The plain mathematics of chapter 1 (words): no program is named here. No condition. -/
import Derived.Lib.Hide
import Derived.WalkKit
namespace Go.Proofs.Ytggohgkjdnnndaa

/-- the number of a letter's byte -/
def letterOf (b : Int) : Int := if b = 114 then 0 else if b = 100 then 1 else if b = 110 then 2 else -1
/-- a byte that is a letter -/
def isL (c : UInt8) : Bool := c == 114 || c == 100 || c == 110
/-- all of a list of bytes are letters -/
def allL (l : List UInt8) : Bool := l.all isL
/-- a word: at most fourteen letters -/
def wordOk (s : ByteArray) : Bool := allL s.data.toList && decide (s.size ≤ 14)

theorem take_snoc (s : ByteArray) (k : Nat) (h : k < s.size) : s.data.toList.take (k + 1) = s.data.toList.take k ++ [s[k]] := by
  rw [List.take_succ_eq_append_getElem (by simpa using h)]; rfl
theorem allL_snoc (s : ByteArray) (k : Nat) (h : k < s.size) : allL (s.data.toList.take (k + 1)) = (allL (s.data.toList.take k) && isL s[k]) := by
  rw [take_snoc s k h]; simp [allL]
theorem allL_take_all (s : ByteArray) : allL (s.data.toList.take s.size) = allL s.data.toList := by
  rw [List.take_of_length_le (by simp)]
theorem allL_false (s : ByteArray) (k : Nat) (h : k < s.size) (hb : isL s[k] = false) : allL s.data.toList = false := by
  have : s[k] ∈ s.data.toList := by
    have : s[k] = s.data.toList[k]'(by simpa using h) := rfl
    rw [this]; exact List.getElem_mem _
  simp only [allL, List.all_eq_false]
  exact ⟨_, this, by simp [hb]⟩
theorem letter_neg (c : UInt8) : letterOf (c.toNat : Int) < 0 ↔ isL c = false := by
  have h : ∀ n : Nat, n < 256 → (letterOf ((UInt8.ofNat n).toNat : Int) < 0 ↔ isL (UInt8.ofNat n) = false) := by decide +kernel
  have := h c.toNat c.toNat_lt
  rwa [UInt8.ofNat_toNat] at this
/-- a letter: a word of one byte -/
def letterOk (s : ByteArray) : Bool := decide (s.size = 1) && wordOk s
theorem letterOk_one (s : ByteArray) (h : s.size = 1) (h0 : 0 < s.size) : letterOk s = isL (s[0]) := by
  have e : s.data.toList = [s[0]] := by
    apply List.ext_getElem
    · simpa using h
    · intro i h1 h2
      have : i = 0 := by simp at h2; exact h2
      subst this; rfl
  simp [letterOk, wordOk, h, e, allL]
theorem letterOk_not (s : ByteArray) (h : ((s.size : Int) == 1) = false) : letterOk s = false := by
  have : ¬ s.size = 1 := by intro e; simp [e] at h
  simp [letterOk, this]
theorem wordOk_size {s : ByteArray} (h : wordOk s = true) : s.size ≤ 14 := by
  simp [wordOk] at h; exact h.2

/-- what RolledBy takes -/
def rolledOk (s : ByteArray) (k : Int) : Bool := wordOk s && (decide (0 ≤ k) && decide (k ≤ s.size))
/-- a word rolled -/
def rolledStr (s : ByteArray) (k : Int) : ByteArray := if rolledOk s k = true then s.extract k.toNat s.size ++ s.extract 0 k.toNat else ⟨#[]⟩
theorem rolledStr_yes (s : ByteArray) (k : Nat) (h : rolledOk s k = true) : rolledStr s k = s.extract k s.size ++ s.extract 0 k := by
  simp [rolledStr, h]
theorem rolledStr_no (s : ByteArray) (k : Int) (h : rolledOk s k = false) : rolledStr s k = ⟨#[]⟩ := by
  simp [rolledStr, h]

/-- how often a test holds of the first k numbers -/
def cntTo (p : Nat → Bool) : Nat → Int
  | 0 => 0
  | k + 1 => cntTo p k + if p k = true then 1 else 0
theorem cntTo_bd (p : Nat → Bool) (k : Nat) : 0 ≤ cntTo p k ∧ cntTo p k ≤ k := by
  induction k with
  | zero => exact ⟨Int.le_refl _, Int.le_refl _⟩
  | succ k ih => simp only [cntTo]; split <;> omega
theorem cntTo_yes (p : Nat → Bool) (k : Nat) (h : p k = true) : cntTo p (k + 1) = cntTo p k + 1 := by simp [cntTo, h]
theorem cntTo_no (p : Nat → Bool) (k : Nat) (h : p k = false) : cntTo p (k + 1) = cntTo p k := by simp [cntTo, h]
/-- the byte at a place, 0 behind the end -/
def byteAt (s : ByteArray) (k : Nat) : UInt8 := s.data.toList.getD k 0
theorem byteAt_eq (s : ByteArray) (k : Nat) (h : k < s.size) : s[k] = byteAt s k := by
  have hl : k < s.data.toList.length := by rw [Array.length_toList]; exact h
  simp only [byteAt, List.getD, List.getElem?_eq_getElem hl, Option.getD_some]; rfl
theorem u8_beq (a b : UInt8) : ((a.toNat : Int) == (b.toNat : Int)) = (a == b) := by
  rw [Bool.eq_iff_iff, beq_iff_eq, beq_iff_eq]
  exact ⟨fun h => UInt8.toNat_inj.1 (by omega), fun h => by rw [h]⟩
/-- how often a byte is among the first k of a list -/
def cntEq (l : List UInt8) (c : UInt8) (k : Nat) : Int := cntTo (fun i => l.getD i 0 == c) k
/-- in how many of the first k places two lists differ -/
def cntNe (l m : List UInt8) (k : Nat) : Int := cntTo (fun i => l.getD i 0 != m.getD i 0) k
theorem cntEq_bd (l : List UInt8) (c : UInt8) (k : Nat) : 0 ≤ cntEq l c k ∧ cntEq l c k ≤ k := cntTo_bd _ _
theorem cntNe_bd (l m : List UInt8) (k : Nat) : 0 ≤ cntNe l m k ∧ cntNe l m k ≤ k := cntTo_bd _ _
theorem cntEq_step (l : List UInt8) (c : UInt8) (k : Nat) (h : k < l.length) : cntEq l c (k + 1) = cntEq l c k + if (l[k] == c) = true then 1 else 0 := by
  simp [cntEq, cntTo, List.getD, h]
theorem cntNe_step (l : List UInt8) (t : ByteArray) (k : Nat) (h : k < l.length) (g : k < t.size) : cntNe l t.data.toList (k + 1) = cntNe l t.data.toList k + if (l[k] != t[k]) = true then 1 else 0 := by
  have e : t.data.toList.getD k 0 = t[k] := (byteAt_eq t k g).symm
  simp only [cntNe, cntTo, e]
  simp [List.getD, h]
/-- CountOf's number -/
def countOf (s t : ByteArray) : Int := if (wordOk s && letterOk t) = true then cntEq s.data.toList (byteAt t 0) s.size else -1
/-- DifferOf's number -/
def differOf (s t : ByteArray) : Int := if (wordOk s && wordOk t && decide (s.size = t.size)) = true then cntNe s.data.toList t.data.toList s.size else -1

/-- the letters from place k on, from the last one to the first one -/
def backFrom (s : ByteArray) (k : Nat) : ByteArray := ⟨(s.data.toList.drop k).reverse.toArray⟩
/-- a word back, or the empty text -/
def backStr (s : ByteArray) : ByteArray := if wordOk s = true then backFrom s 0 else ⟨#[]⟩
theorem bytes_ext {a b : ByteArray} (h : a.data.toList = b.data.toList) : a = b := by
  cases a; cases b; simp only [ByteArray.mk.injEq]; exact Array.toList_inj.1 h
theorem len_data (s : ByteArray) : s.data.toList.length = s.size := Array.length_toList
theorem backFrom_all (s : ByteArray) : backFrom s s.size = ⟨#[]⟩ := by
  apply bytes_ext
  simp only [backFrom]
  rw [List.drop_of_length_le (Nat.le_of_eq (len_data s))]; rfl
theorem backFrom_size (s : ByteArray) (k : Nat) : (backFrom s k).size = s.size - k := by
  have : (backFrom s k).data.toList.length = s.size - k := by simp only [backFrom, List.length_reverse, List.length_drop, len_data]
  rwa [len_data] at this
theorem backFrom_step (s : ByteArray) (k : Nat) (h : k < s.size) : backFrom s (k + 1) ++ s.extract k (k + 1) = backFrom s k := by
  apply bytes_ext
  have hl : k < s.data.toList.length := by rw [len_data]; exact h
  have e : s.data.toList.drop k = s.data.toList[k] :: s.data.toList.drop (k + 1) := List.drop_eq_getElem_cons hl
  have e2 : (s.extract k (k + 1)).data.toList = [s.data.toList[k]] := by
    rw [ByteArray.data_extract, Array.toList_extract, List.extract_eq_take_drop, show k + 1 - k = 1 from by omega, e, List.take_succ_cons, List.take_zero]
  rw [ByteArray.data_append, Array.toList_append, e2]
  simp only [backFrom, e, List.reverse_cons]
end Go.Proofs.Ytggohgkjdnnndaa
