/- The plain mathematics of chapter 10 (rosters): no program is named here. No condition. -/
import Derived.Test.YtggohgkjdnnndaaMath
namespace Go.Proofs.Ytggohgkjdnnndaa

/-- how many days a roster has -/
def daysOf (xs : List ByteArray) : Nat := (xs.headD ⟨#[]⟩).size
/-- a row of so many letters -/
def rowFits (d : Nat) (s : ByteArray) : Bool := decide (s.size = d) && wordOk s
/-- a roster -/
def rosterOk (xs : List ByteArray) : Bool := decide (1 ≤ xs.length) && decide (xs.length ≤ 4) && decide (daysOf xs ≤ 12) && xs.all (rowFits (daysOf xs))
theorem rosterOk_iff {xs : List ByteArray} : rosterOk xs = true ↔ 1 ≤ xs.length ∧ xs.length ≤ 4 ∧ daysOf xs ≤ 12 ∧ ∀ s ∈ xs, s.size = daysOf xs ∧ wordOk s = true := by
  simp only [rosterOk, Bool.and_eq_true, decide_eq_true_eq, List.all_eq_true, rowFits]
  constructor
  · rintro ⟨⟨⟨h1, h2⟩, h3⟩, h4⟩; exact ⟨h1, h2, h3, h4⟩
  · rintro ⟨h1, h2, h3, h4⟩; exact ⟨⟨⟨h1, h2⟩, h3⟩, h4⟩
theorem rosterOk_short {xs : List ByteArray} (h : xs.length < 1) : rosterOk xs = false := by simp [rosterOk]; omega
theorem rosterOk_long {xs : List ByteArray} (h : 4 < xs.length) : rosterOk xs = false := by simp [rosterOk]; omega
theorem rosterOk_days {xs : List ByteArray} (h : 12 < daysOf xs) : rosterOk xs = false := by
  have : decide (daysOf xs ≤ 12) = false := decide_eq_false (by omega)
  simp [rosterOk, this]
theorem rosterOk_rest {xs : List ByteArray} (h1 : 1 ≤ xs.length) (h2 : xs.length ≤ 4) (h3 : daysOf xs ≤ 12) : rosterOk xs = xs.all (rowFits (daysOf xs)) := by
  simp [rosterOk, h1, h2, h3]
theorem daysOf_get {xs : List ByteArray} (h : 0 < xs.length) : daysOf xs = xs[0].size := by
  cases xs with
  | nil => exact absurd h (Nat.not_lt_zero 0)
  | cons a l => rfl
theorem roster_row {xs : List ByteArray} (h : rosterOk xs = true) (k : Nat) (hk : k < xs.length) : xs[k].size = daysOf xs ∧ wordOk xs[k] = true := (rosterOk_iff.1 h).2.2.2 _ (List.getElem_mem hk)
theorem rosterOk_init {xs : List ByteArray} (h : rosterOk xs = true) (h2 : 2 ≤ xs.length) : rosterOk (xs.take (xs.length - 1)) = true := by
  obtain ⟨h1, h4, hd, ha⟩ := rosterOk_iff.1 h
  have hl : (xs.take (xs.length - 1)).length = xs.length - 1 := by rw [List.length_take]; omega
  have hdd : daysOf (xs.take (xs.length - 1)) = daysOf xs := by
    rw [daysOf_get (by omega), daysOf_get (by omega)]
    simp
  rw [rosterOk_iff, hl, hdd]
  exact ⟨by omega, by omega, hd, fun s hs => ha s (List.mem_of_mem_take hs)⟩

/-- needs -/
def needsOk (l d : Int) : Bool := decide (0 ≤ l) && decide (0 ≤ d) && decide (l + d ≤ 4)

/-- the letters of a day, and how many rows they come from -/
def dayBytes (xs : List ByteArray) (d : Nat) : List UInt8 := xs.map (fun s => byteAt s d)
def dayStr (xs : List ByteArray) (d : Nat) : ByteArray := ⟨(dayBytes xs d).toArray⟩
def dayOf (xs : List ByteArray) (d : Int) : ByteArray := if rosterOk xs = true ∧ 0 ≤ d ∧ d < daysOf xs then dayStr xs d.toNat else ⟨#[]⟩
theorem dayOf_yes {xs : List ByteArray} {d : Nat} (h : rosterOk xs = true) (hd : d < daysOf xs) : dayOf xs d = dayStr xs d := by
  rw [dayOf, if_pos ⟨h, by omega, by omega⟩]; rfl
theorem dayOf_no {xs : List ByteArray} {d : Int} (h : ¬ (rosterOk xs = true ∧ 0 ≤ d ∧ d < daysOf xs)) : dayOf xs d = ⟨#[]⟩ := if_neg h
theorem dayStr_size (xs : List ByteArray) (d : Nat) : (dayStr xs d).size = xs.length := by
  show (dayBytes xs d).toArray.size = _
  simp [dayBytes]
theorem dayBytes_take (xs : List ByteArray) (d k : Nat) (h : k < xs.length) : dayBytes (xs.take (k + 1)) d = dayBytes (xs.take k) d ++ [byteAt xs[k] d] := by
  rw [List.take_succ_eq_append_getElem h]; simp only [dayBytes, List.map_append, List.map_cons, List.map_nil]
theorem isL_byteAt {s : ByteArray} (h : wordOk s = true) (k : Nat) (hk : k < s.size) : isL (byteAt s k) = true := by
  cases hb : isL (byteAt s k) with
  | true => rfl
  | false =>
    rw [← byteAt_eq s k hk] at hb
    have := allL_false s k hk hb
    simp [wordOk, this] at h
theorem dayStr_word {xs : List ByteArray} (h : rosterOk xs = true) (d : Nat) (hd : d < daysOf xs) : wordOk (dayStr xs d) = true := by
  obtain ⟨h1, h4, -, ha⟩ := rosterOk_iff.1 h
  have hs := dayStr_size xs d
  have : allL (dayStr xs d).data.toList = true := by
    show allL (dayBytes xs d).toArray.toList = true
    rw [List.toList_toArray, allL, List.all_eq_true]
    intro c hc
    obtain ⟨s, hs, rfl⟩ := List.mem_map.1 hc
    obtain ⟨e, hw⟩ := ha s hs
    exact isL_byteAt hw d (by omega)
  rw [wordOk, this, Bool.true_and]
  exact decide_eq_true (by omega)

/-- so many have d, and so many n -/
def covers (s : ByteArray) (l d : Int) : Bool := countOf s ⟨#[100]⟩ == l && countOf s ⟨#[110]⟩ == d
def coverTo (xs : List ByteArray) (l d : Int) (k : Nat) : Bool := (List.range k).all (fun j => covers (dayStr xs j) l d)
def coverOk (xs : List ByteArray) (l d : Int) : Bool := rosterOk xs && needsOk l d && coverTo xs l d (daysOf xs)
theorem coverTo_succ (xs : List ByteArray) (l d : Int) (k : Nat) : coverTo xs l d (k + 1) = (coverTo xs l d k && covers (dayStr xs k) l d) := by
  simp [coverTo, List.range_succ]
theorem coverTo_false {xs : List ByteArray} {l d : Int} {k n : Nat} (hk : k < n) (h : covers (dayStr xs k) l d = false) : coverTo xs l d n = false := by
  rw [coverTo, List.all_eq_false]
  exact ⟨k, List.mem_range.2 hk, by simp [h]⟩
theorem coverOk_false {xs : List ByteArray} {l d : Int} {k : Nat} (hk : k < daysOf xs) (h : covers (dayStr xs k) l d = false) : coverOk xs l d = false := by
  simp [coverOk, coverTo_false hk h]
theorem coverOk_no1 {xs : List ByteArray} {l d : Int} (h : rosterOk xs = false) : coverOk xs l d = false := by simp [coverOk, h]
theorem coverOk_no2 {xs : List ByteArray} {l d : Int} (h : needsOk l d = false) : coverOk xs l d = false := by simp [coverOk, h]

/-- two rows exchanged -/
def exchOk (xs : List ByteArray) (a b : Int) : Bool := rosterOk xs && (decide (0 ≤ a) && decide (a < xs.length)) && (decide (0 ≤ b) && decide (b < xs.length)) && decide (a ≠ b)
def exchTo (xs : List ByteArray) (a b : Nat) : List ByteArray := (xs.set a (xs.getD b ⟨#[]⟩)).set b (xs.getD a ⟨#[]⟩)
def exch (xs : List ByteArray) (a b : Int) : List ByteArray := if exchOk xs a b = true then exchTo xs a.toNat b.toNat else []
theorem exch_no {xs : List ByteArray} {a b : Int} (h : exchOk xs a b = false) : exch xs a b = [] := by simp [exch, h]
theorem exch_yes {xs : List ByteArray} {a b : Nat} (h : exchOk xs a b = true) : exch xs a b = exchTo xs a b := by simp [exch, h]
theorem exchTo_length (xs : List ByteArray) (a b : Nat) : (exchTo xs a b).length = xs.length := by simp [exchTo]
theorem exchOk_iff {xs : List ByteArray} {a b : Int} : exchOk xs a b = true ↔ rosterOk xs = true ∧ (0 ≤ a ∧ a < xs.length) ∧ (0 ≤ b ∧ b < xs.length) ∧ a ≠ b := by
  simp only [exchOk, Bool.and_eq_true, decide_eq_true_eq]
  constructor
  · rintro ⟨⟨⟨h1, h2⟩, h3⟩, h4⟩; exact ⟨h1, h2, h3, h4⟩
  · rintro ⟨h1, h2, h3, h4⟩; exact ⟨⟨⟨h1, h2⟩, h3⟩, h4⟩
theorem exchTo_get {xs : List ByteArray} {a b : Nat} (ha : a < xs.length) (hb : b < xs.length) (k : Nat) (hk : k < (exchTo xs a b).length) :
    (exchTo xs a b)[k] = if k = b then xs[a] else if k = a then xs[b] else xs[k]'(by rw [exchTo_length] at hk; exact hk) := by
  have e1 : xs.getD a ⟨#[]⟩ = xs[a] := by simp [List.getD, ha]
  have e2 : xs.getD b ⟨#[]⟩ = xs[b] := by simp [List.getD, hb]
  simp only [exchTo, e1, e2, List.getElem_set]
  by_cases h1 : b = k
  · subst h1; simp
  · rw [if_neg h1, if_neg (show ¬ k = b from fun e => h1 e.symm)]
    by_cases h2 : a = k
    · subst h2; simp
    · rw [if_neg h2, if_neg (show ¬ k = a from fun e => h2 e.symm)]
theorem exchTo_perm {xs : List ByteArray} {a b : Nat} (ha : a < xs.length) (hb : b < xs.length) (s : ByteArray) : s ∈ exchTo xs a b ↔ s ∈ xs := by
  have hl := exchTo_length xs a b
  constructor
  · intro h
    obtain ⟨k, hk, rfl⟩ := List.mem_iff_getElem.1 h
    rw [exchTo_get ha hb]
    split
    · exact List.getElem_mem _
    · split <;> exact List.getElem_mem _
  · intro h
    obtain ⟨k, hk, rfl⟩ := List.mem_iff_getElem.1 h
    by_cases h1 : k = a
    · subst h1
      have := exchTo_get ha hb b (by omega)
      rw [if_pos rfl] at this
      rw [← this]; exact List.getElem_mem _
    · by_cases h2 : k = b
      · subst h2
        have := exchTo_get ha hb a (by omega)
        rw [if_neg (fun e => h1 e.symm), if_pos rfl] at this
        rw [← this]; exact List.getElem_mem _
      · have := exchTo_get ha hb k (by omega)
        rw [if_neg h2, if_neg h1] at this
        rw [← this]; exact List.getElem_mem _
theorem roster_all {xs ys : List ByteArray} (h : rosterOk xs = true) (hl : ys.length = xs.length) (hm : ∀ s, s ∈ ys → s ∈ xs) : rosterOk ys = true ∧ daysOf ys = daysOf xs := by
  obtain ⟨h1, h4, hd, ha⟩ := rosterOk_iff.1 h
  have hdd : daysOf ys = daysOf xs := by
    rw [daysOf_get (by omega)]
    exact (ha _ (hm _ (List.getElem_mem (by omega)))).1
  refine ⟨rosterOk_iff.2 ⟨by omega, by omega, by omega, fun s hs => ?_⟩, hdd⟩
  rw [hdd]
  exact ha s (hm s hs)
theorem exch_roster {xs : List ByteArray} {a b : Int} (h : exchOk xs a b = true) : rosterOk (exch xs a b) = true ∧ daysOf (exch xs a b) = daysOf xs ∧ (exch xs a b).length = xs.length := by
  obtain ⟨h1, h2, h3, -⟩ := exchOk_iff.1 h
  rw [exch, if_pos h]
  have := roster_all h1 (exchTo_length xs a.toNat b.toNat) (fun s hs => (exchTo_perm (by omega) (by omega) s).1 hs)
  exact ⟨this.1, this.2, exchTo_length _ _ _⟩
theorem exch_back {xs : List ByteArray} {a b : Int} (h : exchOk xs a b = true) : exchOk (exch xs a b) b a = true ∧ exch (exch xs a b) b a = xs := by
  obtain ⟨h1, h2, h3, h4⟩ := exchOk_iff.1 h
  obtain ⟨r1, r2, r3⟩ := exch_roster h
  have hok : exchOk (exch xs a b) b a = true := exchOk_iff.2 ⟨r1, by rw [r3]; exact h3, by rw [r3]; exact h2, fun e => h4 e.symm⟩
  refine ⟨hok, ?_⟩
  rw [exch, if_pos hok, exch, if_pos h]
  have ha : a.toNat < xs.length := by omega
  have hb : b.toNat < xs.length := by omega
  have hab : a.toNat ≠ b.toNat := by omega
  refine List.ext_getElem (by rw [exchTo_length, exchTo_length]) fun k hk1 hk2 => ?_
  rw [exchTo_get (by rw [exchTo_length]; exact hb) (by rw [exchTo_length]; exact ha), exchTo_get ha hb, exchTo_get ha hb, exchTo_get ha hb k (by rw [exchTo_length]; exact hk2)]
  by_cases e1 : k = a.toNat
  · subst e1; simp
  · rw [if_neg e1]
    by_cases e2 : k = b.toNat
    · subst e2; simp [hab]
    · rw [if_neg e2, if_neg e2, if_neg e1]
theorem exch_at {xs : List ByteArray} {a b : Nat} (h : exchOk xs a b = true) (ha : a < (exch xs a b).length) (hb : b < xs.length) : (exch xs a b)[a] = xs[b] := by
  obtain ⟨h1, h2, h3, h4⟩ := exchOk_iff.1 h
  have e : exch xs a b = exchTo xs a b := exch_yes h
  simp only [e]
  rw [exchTo_get (by omega) (by omega), if_neg (by omega), if_pos rfl]
end Go.Proofs.Ytggohgkjdnnndaa
