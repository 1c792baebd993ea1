/- How a machine goes on by letters, as plain functions. No program, no condition. -/
import Derived.Test.YtlbblfbiiceofaaMach
namespace Go.Proofs.Ytlbblfbiiceofaa
open Go.RowKit

/-- the state to which a machine goes on from a state by a letter -/
def M.nx (m : M) (s l : Int) : Int := if s < 0 then -1 else m.next.getD (3 * s + l).toNat (-1)
/-- the state to which letters lead from a state -/
def M.goes (m : M) (s : Int) : List UInt8 → Int
  | [] => s
  | c :: cs => m.goes (m.nx s (letterOf (c.toNat : Int))) cs
/-- StateAfter -/
def M.after (m : M) (word : ByteArray) : Int := if (m.ok && wordOk word) = true then m.goes 0 word.data.toList else -2
/-- whether a state is an end -/
def M.endAt (m : M) (s : Int) : Bool := if s < 0 then false else m.ends.getD s.toNat false
/-- TakesOk -/
def M.takes (m : M) (word : ByteArray) : Bool := m.endAt (m.after word)

theorem M.ok_shape {m : M} (h : m.ok = true) : 1 ≤ m.st ∧ m.st ≤ 48 ∧ (m.next.length : Int) = 3 * m.st ∧ (m.ends.length : Int) = m.st := by
  simp only [M.ok, Bool.and_eq_true] at h
  exact M.shape_iff.1 h.1
theorem M.ok_next {m : M} (h : m.ok = true) (k : Nat) (hk : k < m.next.length) : -1 ≤ m.next[k] ∧ m.next[k] ≤ m.st - 1 := by
  simp only [M.ok, Bool.and_eq_true, List.all_eq_true] at h
  have := h.2 _ (List.getElem_mem hk)
  simpa [nextOk] using this
theorem M.nx_at {m : M} (h : m.ok = true) (s l : Int) (h0 : 0 ≤ s) (h1 : s < m.st) (l0 : 0 ≤ l) (l1 : l ≤ 2) : ∃ k : Nat, (k : Int) = 3 * s + l ∧ ∃ hk : k < m.next.length, m.nx s l = m.next[k] := by
  have hs := M.ok_shape h
  have hk : (3 * s + l).toNat < m.next.length := by omega
  refine ⟨(3 * s + l).toNat, by omega, hk, ?_⟩
  rw [M.nx, if_neg (by omega), List.getD_eq_getElem?_getD, List.getElem?_eq_getElem hk]; rfl
theorem M.nx_neg (m : M) (s l : Int) (h : s < 0) : m.nx s l = -1 := by rw [M.nx, if_pos h]
theorem M.nx_bd {m : M} (h : m.ok = true) (s l : Int) (h1 : s < m.st) (l0 : 0 ≤ l) (l1 : l ≤ 2) : -1 ≤ m.nx s l ∧ m.nx s l < m.st := by
  by_cases h0 : s < 0
  · have := M.ok_shape h
    rw [M.nx_neg _ _ _ h0]; omega
  · obtain ⟨k, _, hk, he⟩ := M.nx_at h s l (by omega) h1 l0 l1
    have := M.ok_next h k hk
    rw [he]; omega
theorem M.goes_neg (m : M) (l : List UInt8) : m.goes (-1) l = -1 := by
  induction l with
  | nil => rfl
  | cons c cs ih => rw [M.goes, M.nx_neg _ _ _ (by omega), ih]
theorem M.goes_append (m : M) (s : Int) (l k : List UInt8) : m.goes s (l ++ k) = m.goes (m.goes s l) k := by
  induction l generalizing s with
  | nil => rfl
  | cons c cs ih => rw [List.cons_append, M.goes, M.goes, ih]
theorem M.goes_snoc (m : M) (s : Int) (w : ByteArray) (k : Nat) (h : k < w.size) : m.goes s (w.data.toList.take (k + 1)) = m.nx (m.goes s (w.data.toList.take k)) (letterOf (w[k].toNat : Int)) := by
  rw [take_snoc w k h, M.goes_append]; rfl
theorem M.goes_cut (m : M) (s : Int) (w : ByteArray) (k : Nat) (h : m.goes s (w.data.toList.take k) = -1) : m.goes s w.data.toList = -1 := by
  rw [← List.take_append_drop k w.data.toList, M.goes_append, h, M.goes_neg]
theorem M.goes_all (m : M) (s : Int) (w : ByteArray) : m.goes s (w.data.toList.take w.size) = m.goes s w.data.toList := by
  rw [List.take_of_length_le (by rw [len_data]; exact Nat.le_refl _)]
theorem letter_bd {c : UInt8} (h : isL c = true) : 0 ≤ letterOf (c.toNat : Int) ∧ letterOf (c.toNat : Int) ≤ 2 := by
  constructor
  · have := letter_neg c
    rw [h] at this
    by_cases hl : letterOf (c.toNat : Int) < 0
    · exact absurd (this.1 hl) (by simp)
    · omega
  · unfold letterOf; split
    · omega
    · split
      · omega
      · split <;> omega
theorem M.goes_bd {m : M} (h : m.ok = true) (s : Int) (l : List UInt8) (h0 : -1 ≤ s) (h1 : s < m.st) (hl : allL l = true) : -1 ≤ m.goes s l ∧ m.goes s l < m.st := by
  induction l generalizing s with
  | nil => exact ⟨h0, h1⟩
  | cons c cs ih =>
    have hc : isL c = true ∧ allL cs = true := by simpa [allL] using hl
    have := letter_bd hc.1
    have := M.nx_bd h s _ h1 this.1 this.2
    exact ih _ this.1 this.2 hc.2
theorem wordOk_all {s : ByteArray} (h : wordOk s = true) : allL s.data.toList = true := by
  simp only [wordOk, Bool.and_eq_true] at h; exact h.1
theorem wordOk_at {s : ByteArray} (h : wordOk s = true) (k : Nat) (hk : k < s.size) : isL s[k] = true := by
  have h := wordOk_all h
  cases hb : isL s[k] with
  | true => rfl
  | false => rw [allL_false s k hk hb] at h; cases h
theorem allL_take {l : List UInt8} (h : allL l = true) (k : Nat) : allL (l.take k) = true := by
  simp only [allL, List.all_eq_true] at h ⊢
  exact fun x hx => h x (List.mem_of_mem_take hx)

/-- a machine of any number of states, up to a bound -/
structure M.good (m : M) : Prop where
  st0 : 1 ≤ m.st
  st1 : m.st ≤ 4000
  ln : (m.next.length : Int) = 3 * m.st
  le : (m.ends.length : Int) = m.st
  nxt : ∀ (k : Nat) (hk : k < m.next.length), -1 ≤ m.next[k] ∧ m.next[k] ≤ m.st - 1
theorem M.ok_good {m : M} (h : m.ok = true) : m.good := by
  have hs := M.ok_shape h
  exact ⟨hs.1, by omega, hs.2.2.1, hs.2.2.2, M.ok_next h⟩
theorem M.good_shape {m : M} (h : m.good) : 1 ≤ m.st ∧ m.st ≤ 4000 ∧ (m.next.length : Int) = 3 * m.st ∧ (m.ends.length : Int) = m.st := ⟨h.st0, h.st1, h.ln, h.le⟩
theorem M.good_next {m : M} (h : m.good) (k : Nat) (hk : k < m.next.length) : -1 ≤ m.next[k] ∧ m.next[k] ≤ m.st - 1 := h.nxt k hk
theorem M.gnx_at {m : M} (h : m.good) (s l : Int) (h0 : 0 ≤ s) (h1 : s < m.st) (l0 : 0 ≤ l) (l1 : l ≤ 2) : ∃ k : Nat, (k : Int) = 3 * s + l ∧ ∃ hk : k < m.next.length, m.nx s l = m.next[k] := by
  have hs := M.good_shape h
  have hk : (3 * s + l).toNat < m.next.length := by omega
  refine ⟨(3 * s + l).toNat, by omega, hk, ?_⟩
  rw [M.nx, if_neg (by omega), List.getD_eq_getElem?_getD, List.getElem?_eq_getElem hk]; rfl
theorem M.gnx_bd {m : M} (h : m.good) (s l : Int) (h1 : s < m.st) (l0 : 0 ≤ l) (l1 : l ≤ 2) : -1 ≤ m.nx s l ∧ m.nx s l < m.st := by
  by_cases h0 : s < 0
  · have := h.st0
    rw [M.nx_neg _ _ _ h0]; omega
  · obtain ⟨k, _, hk, he⟩ := M.gnx_at h s l (by omega) h1 l0 l1
    have := h.nxt k hk
    rw [he]; omega
theorem M.gendAt_at {m : M} (h : m.good) (s : Int) (h0 : 0 ≤ s) (h1 : s < m.st) : ∃ k : Nat, (k : Int) = s ∧ ∃ hk : k < m.ends.length, m.endAt s = m.ends[k] := by
  have hs := M.good_shape h
  have hk : s.toNat < m.ends.length := by omega
  refine ⟨s.toNat, by omega, hk, ?_⟩
  rw [M.endAt, if_neg (by omega), List.getD_eq_getElem?_getD, List.getElem?_eq_getElem hk]; rfl
end Go.Proofs.Ytlbblfbiiceofaa
