/- The plain mathematics of chapter 11 (swaps) on rosters: no program is named here. No condition. -/
import Derived.Test.YtggohgkjdnnndaaSwapMath
namespace Go.Proofs.Ytggohgkjdnnndaa

theorem byte_ext {s t : ByteArray} (hs : s.size = t.size) (h : ∀ k, k < s.size → byteAt s k = byteAt t k) : s = t := by
  refine bytes_ext (List.ext_getElem (by rw [len_data, len_data, hs]) fun k h1 h2 => ?_)
  have := h k (by rw [len_data] at h1; exact h1)
  simp only [byteAt, List.getD, List.getElem?_eq_getElem h1, List.getElem?_eq_getElem h2, Option.getD_some] at this
  exact this
/-- a row with another letter at a place -/
def setAt (s : ByteArray) (d : Nat) (c : UInt8) : ByteArray := ⟨(s.data.toList.set d c).toArray⟩
theorem setAt_size (s : ByteArray) (d : Nat) (c : UInt8) : (setAt s d c).size = s.size := by
  show (s.data.toList.set d c).toArray.size = _
  simp
theorem byteAt_setAt {s : ByteArray} {d : Nat} (h : d < s.size) (c : UInt8) (k : Nat) : byteAt (setAt s d c) k = if k = d then c else byteAt s k := by
  show (s.data.toList.set d c).toArray.toList.getD k 0 = _
  rw [List.toList_toArray]
  by_cases e : k = d
  · subst e
    rw [if_pos rfl]
    simp [List.getD, h]
  · rw [if_neg e]
    simp only [byteAt, List.getD]
    rw [List.getElem?_set_ne (by omega)]
theorem setAt_word {s : ByteArray} (h : wordOk s = true) (d : Nat) {c : UInt8} (hc : isL c = true) : wordOk (setAt s d c) = true := by
  have h14 := wordOk_size h
  simp only [wordOk, Bool.and_eq_true, decide_eq_true_eq] at h ⊢
  rw [setAt_size]
  refine ⟨?_, h14⟩
  show allL (s.data.toList.set d c).toArray.toList = true
  rw [List.toList_toArray, allL, List.all_eq_true]
  intro x hx
  rcases List.mem_or_eq_of_mem_set hx with hx | rfl
  · exact List.all_eq_true.1 h.1 x hx
  · exact hc
theorem setAt_setAt {s : ByteArray} {d : Nat} (h : d < s.size) (c : UInt8) : setAt (setAt s d c) d (byteAt s d) = s := by
  refine byte_ext (by rw [setAt_size, setAt_size]) fun k hk => ?_
  rw [byteAt_setAt (by rw [setAt_size]; exact h), byteAt_setAt h]
  by_cases e : k = d
  · rw [if_pos e, e]
  · rw [if_neg e, if_neg e]

/-- two rows exchange their letters on a day -/
def swapOk (xs : List ByteArray) (d a b : Int) : Bool := rosterOk xs && (decide (0 ≤ d) && decide (d < daysOf xs)) && decide (a ≠ b) && (decide (0 ≤ a) && decide (a < xs.length)) && (decide (0 ≤ b) && decide (b < xs.length))
def swapTo (xs : List ByteArray) (d a b : Nat) : List ByteArray := (xs.set a (setAt (xs.getD a ⟨#[]⟩) d (byteAt (xs.getD b ⟨#[]⟩) d))).set b (setAt (xs.getD b ⟨#[]⟩) d (byteAt (xs.getD a ⟨#[]⟩) d))
def swapd (xs : List ByteArray) (d a b : Int) : List ByteArray := if swapOk xs d a b = true then swapTo xs d.toNat a.toNat b.toNat else []
theorem swapOk_iff {xs : List ByteArray} {d a b : Int} : swapOk xs d a b = true ↔ rosterOk xs = true ∧ (0 ≤ d ∧ d < daysOf xs) ∧ a ≠ b ∧ (0 ≤ a ∧ a < xs.length) ∧ (0 ≤ b ∧ b < xs.length) := by
  simp only [swapOk, Bool.and_eq_true, decide_eq_true_eq]
  constructor
  · rintro ⟨⟨⟨⟨h1, h2⟩, h3⟩, h4⟩, h5⟩; exact ⟨h1, h2, h3, h4, h5⟩
  · rintro ⟨h1, h2, h3, h4, h5⟩; exact ⟨⟨⟨⟨h1, h2⟩, h3⟩, h4⟩, h5⟩
theorem swapd_no {xs : List ByteArray} {d a b : Int} (h : swapOk xs d a b = false) : swapd xs d a b = [] := by simp [swapd, h]
theorem swapd_yes {xs : List ByteArray} {d a b : Nat} (h : swapOk xs d a b = true) : swapd xs d a b = swapTo xs d a b := by simp [swapd, h]
theorem swapTo_length (xs : List ByteArray) (d a b : Nat) : (swapTo xs d a b).length = xs.length := by simp [swapTo]
theorem swapTo_get {xs : List ByteArray} {d a b : Nat} (ha : a < xs.length) (hb : b < xs.length) (k : Nat) (hk : k < (swapTo xs d a b).length) :
    (swapTo xs d a b)[k] = if k = b then setAt xs[b] d (byteAt xs[a] d) else if k = a then setAt xs[a] d (byteAt xs[b] d) else xs[k]'(by rw [swapTo_length] at hk; exact hk) := by
  have e1 : xs.getD a ⟨#[]⟩ = xs[a] := by simp [List.getD, ha]
  have e2 : xs.getD b ⟨#[]⟩ = xs[b] := by simp [List.getD, hb]
  simp only [swapTo, e1, e2, List.getElem_set]
  by_cases h1 : b = k
  · subst h1; simp
  · rw [if_neg h1, if_neg (show ¬ k = b from fun e => h1 e.symm)]
    by_cases h2 : a = k
    · subst h2; simp
    · rw [if_neg h2, if_neg (show ¬ k = a from fun e => h2 e.symm)]
theorem swapTo_map (xs : List ByteArray) (d a b : Nat) (ha : a < xs.length) (hb : b < xs.length) : (swapTo xs d a b).map Value.string = ((xs.map Value.string).set a (.string (setAt xs[a] d (byteAt xs[b] d)))).set b (.string (setAt xs[b] d (byteAt xs[a] d))) := by
  have e1 : xs.getD a ⟨#[]⟩ = xs[a] := by simp [List.getD, ha]
  have e2 : xs.getD b ⟨#[]⟩ = xs[b] := by simp [List.getD, hb]
  rw [swapTo, e1, e2, List.map_set, List.map_set]

/-- the letters' numbers on a day -/
def colN (xs : List ByteArray) (d : Nat) : List Nat := xs.map (fun s => lc (byteAt s d))
theorem colN_length (xs : List ByteArray) (d : Nat) : (colN xs d).length = xs.length := by simp [colN]
theorem colN_lt (xs : List ByteArray) (d : Nat) : ∀ x ∈ colN xs d, x < 3 := by
  intro x hx
  obtain ⟨s, -, rfl⟩ := List.mem_map.1 hx
  exact lc_lt _
theorem colN_get (xs : List ByteArray) (d k : Nat) (h : k < (colN xs d).length) : (colN xs d)[k] = lc (byteAt (xs[k]'(by rw [colN_length] at h; exact h)) d) := by simp [colN]
theorem colN_getD (xs : List ByteArray) (d k : Nat) (h : k < xs.length) : (colN xs d).getD k 0 = lc (byteAt xs[k] d) := by simp [colN, List.getD, h]
theorem swapTo_col {xs : List ByteArray} {d a b : Nat} (hd : ∀ s ∈ xs, d < s.size) (ha : a < xs.length) (hb : b < xs.length) (hab : a ≠ b) (k : Nat) :
    colN (swapTo xs d a b) k = if k = d then swapL (colN xs d) a b else colN xs k := by
  refine List.ext_getElem ?_ fun j h1 h2 => ?_
  · split <;> simp [colN, swapL, swapTo_length]
  · have hj : j < xs.length := by rw [colN_length, swapTo_length] at h1; exact h1
    have ea := hd _ (List.getElem_mem ha)
    have eb := hd _ (List.getElem_mem hb)
    rw [colN_get, swapTo_get ha hb]
    have hsw : ∀ h, (swapL (colN xs d) a b)[j]'h = if j = b then lc (byteAt xs[a] d) else if j = a then lc (byteAt xs[b] d) else lc (byteAt xs[j] d) := by
      intro h
      simp only [swapL, colN_getD xs d a ha, colN_getD xs d b hb, List.getElem_set, colN_get]
      by_cases h1 : b = j
      · subst h1; simp
      · rw [if_neg h1, if_neg (show ¬ j = b from fun e => h1 e.symm)]
        by_cases h2 : a = j
        · subst h2; simp
        · rw [if_neg h2, if_neg (show ¬ j = a from fun e => h2 e.symm)]
    by_cases ek : k = d
    · subst ek
      simp only [if_pos]
      rw [hsw]
      by_cases e1 : j = b
      · rw [if_pos e1, if_pos e1, byteAt_setAt eb, if_pos rfl]
      · rw [if_neg e1, if_neg e1]
        by_cases e2 : j = a
        · rw [if_pos e2, if_pos e2, byteAt_setAt ea, if_pos rfl]
        · rw [if_neg e2, if_neg e2]
    · simp only [if_neg ek]
      rw [colN_get]
      by_cases e1 : j = b
      · subst e1; rw [if_pos rfl, byteAt_setAt eb, if_neg ek]
      · rw [if_neg e1]
        by_cases e2 : j = a
        · subst e2; rw [if_pos rfl, byteAt_setAt ea, if_neg ek]
        · rw [if_neg e2]
theorem roster_days {xs : List ByteArray} (h : rosterOk xs = true) {d : Nat} (hd : d < daysOf xs) : ∀ s ∈ xs, d < s.size := fun s hs => by rw [((rosterOk_iff.1 h).2.2.2 s hs).1]; exact hd
theorem swapTo_roster {xs : List ByteArray} {d a b : Nat} (h : rosterOk xs = true) (hd : d < daysOf xs) (ha : a < xs.length) (hb : b < xs.length) :
    rosterOk (swapTo xs d a b) = true ∧ daysOf (swapTo xs d a b) = daysOf xs := by
  obtain ⟨h1, h4, h12, hall⟩ := rosterOk_iff.1 h
  have hrow : ∀ s ∈ swapTo xs d a b, s.size = daysOf xs ∧ wordOk s = true := by
    intro s hs
    obtain ⟨k, hk, rfl⟩ := List.mem_iff_getElem.1 hs
    have ra := hall _ (List.getElem_mem ha)
    have rb := hall _ (List.getElem_mem hb)
    rw [swapTo_get ha hb]
    split
    · exact ⟨by rw [setAt_size, rb.1], setAt_word rb.2 _ (isL_byteAt ra.2 _ (by omega))⟩
    · split
      · exact ⟨by rw [setAt_size, ra.1], setAt_word ra.2 _ (isL_byteAt rb.2 _ (by omega))⟩
      · exact hall _ (List.getElem_mem _)
  have hl := swapTo_length xs d a b
  have hdd : daysOf (swapTo xs d a b) = daysOf xs := by
    rw [daysOf_get (by omega)]
    exact (hrow _ (List.getElem_mem (by omega))).1
  refine ⟨rosterOk_iff.2 ⟨by omega, by omega, by omega, fun s hs => ?_⟩, hdd⟩
  rw [hdd]
  exact hrow s hs
theorem swap_roster {xs : List ByteArray} {d a b : Int} (h : swapOk xs d a b = true) : rosterOk (swapd xs d a b) = true ∧ daysOf (swapd xs d a b) = daysOf xs ∧ (swapd xs d a b).length = xs.length := by
  obtain ⟨h1, h2, h3, h4, h5⟩ := swapOk_iff.1 h
  rw [swapd, if_pos h]
  have := swapTo_roster (d := d.toNat) (a := a.toNat) (b := b.toNat) h1 (by omega) (by omega) (by omega)
  exact ⟨this.1, this.2, swapTo_length _ _ _ _⟩
theorem swapTo_back {xs : List ByteArray} {d a b : Nat} (hd : ∀ s ∈ xs, d < s.size) (ha : a < xs.length) (hb : b < xs.length) (hab : a ≠ b) : swapTo (swapTo xs d a b) d b a = xs := by
  have ea := hd _ (List.getElem_mem ha)
  have eb := hd _ (List.getElem_mem hb)
  have hl := swapTo_length xs d a b
  refine List.ext_getElem (by rw [swapTo_length, swapTo_length]) fun k h1 h2 => ?_
  rw [swapTo_get (by omega) (by omega), swapTo_get ha hb b (by omega), swapTo_get ha hb a (by omega), if_pos rfl, if_neg hab, if_pos rfl, swapTo_get ha hb k (by omega)]
  rw [byteAt_setAt ea, byteAt_setAt eb, if_pos rfl, if_pos rfl]
  by_cases e1 : k = a
  · subst e1; rw [if_pos rfl, setAt_setAt ea]
  · rw [if_neg e1]
    by_cases e2 : k = b
    · subst e2; rw [if_pos rfl, setAt_setAt eb]
    · rw [if_neg e2, if_neg e2, if_neg e1]
theorem swap_back {xs : List ByteArray} {d a b : Int} (h : swapOk xs d a b = true) : swapOk (swapd xs d a b) d b a = true ∧ swapd (swapd xs d a b) d b a = xs := by
  obtain ⟨h1, h2, h3, h4, h5⟩ := swapOk_iff.1 h
  obtain ⟨r1, r2, r3⟩ := swap_roster h
  have hok : swapOk (swapd xs d a b) d b a = true := swapOk_iff.2 ⟨r1, by rw [r2]; exact h2, fun e => h3 e.symm, by rw [r3]; exact h5, by rw [r3]; exact h4⟩
  refine ⟨hok, ?_⟩
  rw [swapd, if_pos hok, swapd, if_pos h]
  exact swapTo_back (roster_days h1 (by omega)) (by omega) (by omega) (by omega)

/-- rosters with as many rows and days -/
def alike (xs ys : List ByteArray) : Bool := rosterOk xs && rosterOk ys && decide (xs.length = ys.length) && decide (daysOf xs = daysOf ys)
theorem alike_iff {xs ys : List ByteArray} : alike xs ys = true ↔ rosterOk xs = true ∧ rosterOk ys = true ∧ xs.length = ys.length ∧ daysOf xs = daysOf ys := by
  simp only [alike, Bool.and_eq_true, decide_eq_true_eq]
  constructor
  · rintro ⟨⟨⟨h1, h2⟩, h3⟩, h4⟩; exact ⟨h1, h2, h3, h4⟩
  · rintro ⟨h1, h2, h3, h4⟩; exact ⟨⟨⟨h1, h2⟩, h3⟩, h4⟩
theorem alike_comm (xs ys : List ByteArray) : alike ys xs = alike xs ys := by
  rw [Bool.eq_iff_iff, alike_iff, alike_iff]
  constructor
  · rintro ⟨h1, h2, h3, h4⟩; exact ⟨h2, h1, h3.symm, h4.symm⟩
  · rintro ⟨h1, h2, h3, h4⟩; exact ⟨h2, h1, h3.symm, h4.symm⟩
theorem roster_ext {xs ys : List ByteArray} (h : alike xs ys = true) (hc : ∀ d, d < daysOf xs → colN xs d = colN ys d) : xs = ys := by
  obtain ⟨h1, h2, h3, h4⟩ := alike_iff.1 h
  refine List.ext_getElem h3 fun k hk1 hk2 => ?_
  obtain ⟨e1, w1⟩ := roster_row h1 k hk1
  obtain ⟨e2, w2⟩ := roster_row h2 k hk2
  refine byte_ext (by omega) fun d hd => ?_
  have := hc d (by omega)
  have e : (colN xs d)[k]'(by rw [colN_length]; exact hk1) = (colN ys d)[k]'(by rw [colN_length]; exact hk2) := by simp only [this]
  rw [colN_get, colN_get] at e
  exact lc_inj (isL_byteAt w1 d hd) (isL_byteAt w2 d (by omega)) e
def metTo (xs ys : List ByteArray) (k : Nat) : Bool := (List.range k).all fun d => metP (colN xs d) (colN ys d)
theorem metTo_succ (xs ys : List ByteArray) (k : Nat) : metTo xs ys (k + 1) = (metTo xs ys k && metP (colN xs k) (colN ys k)) := by simp [metTo, List.range_succ]
theorem metTo_false {xs ys : List ByteArray} {k n : Nat} (hk : k < n) (h : metP (colN xs k) (colN ys k) = false) : metTo xs ys n = false := by
  rw [metTo, List.all_eq_false]
  exact ⟨k, List.mem_range.2 hk, by simp [h]⟩
theorem metTo_at {xs ys : List ByteArray} {n : Nat} (h : metTo xs ys n = true) (k : Nat) (hk : k < n) : metP (colN xs k) (colN ys k) = true := List.all_eq_true.1 h k (List.mem_range.2 hk)
theorem metTo_of {xs ys : List ByteArray} {n : Nat} (h : ∀ k, k < n → metP (colN xs k) (colN ys k) = true) : metTo xs ys n = true := List.all_eq_true.2 fun k hk => h k (List.mem_range.1 hk)
def distTo (xs ys : List ByteArray) : Nat → Nat
  | 0 => 0
  | k + 1 => distTo xs ys k + dP (colN xs k) (colN ys k)
def swapsOf (xs ys : List ByteArray) : Int := if (alike xs ys && metTo xs ys (daysOf xs)) = true then (distTo xs ys (daysOf xs) : Int) else -1
theorem swapsOf_no1 {xs ys : List ByteArray} (h : alike xs ys = false) : swapsOf xs ys = -1 := by simp [swapsOf, h]
theorem swapsOf_no2 {xs ys : List ByteArray} {k : Nat} (hk : k < daysOf xs) (h : metP (colN xs k) (colN ys k) = false) : swapsOf xs ys = -1 := by simp [swapsOf, metTo_false hk h]
theorem swapsOf_yes {xs ys : List ByteArray} (h : alike xs ys = true) (g : metTo xs ys (daysOf xs) = true) : swapsOf xs ys = (distTo xs ys (daysOf xs) : Int) := by simp [swapsOf, h, g]
theorem day_met {xs ys : List ByteArray} (h : alike xs ys = true) (k : Nat) (hm : metP (colN xs k) (colN ys k) = true) : Met (colN xs k) (colN ys k) := by
  obtain ⟨h1, h2, h3, h4⟩ := alike_iff.1 h
  have := (rosterOk_iff.1 h1).2.1
  exact met_of (colN_lt _ _) (colN_lt _ _) (by rw [colN_length]; omega) (by rw [colN_length, colN_length, h3]) hm
theorem distTo_zero {xs ys : List ByteArray} {n : Nat} (h : ∀ k, k < n → (dP (colN xs k) (colN ys k) = 0 ↔ colN xs k = colN ys k)) : distTo xs ys n = 0 ↔ ∀ k, k < n → colN xs k = colN ys k := by
  induction n with
  | zero => exact ⟨fun _ k hk => absurd hk (Nat.not_lt_zero k), fun _ => rfl⟩
  | succ n ih =>
    rw [distTo]
    constructor
    · intro e k hk
      by_cases ek : k = n
      · subst ek; exact (h k hk).1 (by omega)
      · exact ((ih fun k hk => h k (by omega)).1 (by omega)) k (by omega)
    · intro e
      have h1 := (ih fun k hk => h k (by omega)).2 fun k hk => e k (by omega)
      have h2 := (h n (by omega)).2 (e n (by omega))
      omega
theorem swaps_zero {xs ys : List ByteArray} (h : alike xs ys = true) (g : metTo xs ys (daysOf xs) = true) : distTo xs ys (daysOf xs) = 0 ↔ xs = ys := by
  rw [distTo_zero fun k hk => (day_met h k (metTo_at g k hk)).zero]
  exact ⟨roster_ext h, fun e k _ => by rw [e]⟩
theorem distTo_congr {xs ys zs us : List ByteArray} {n : Nat} (h : ∀ k, k < n → dP (colN xs k) (colN ys k) = dP (colN zs k) (colN us k)) : distTo xs ys n = distTo zs us n := by
  induction n with
  | zero => rfl
  | succ n ih => rw [distTo, distTo, ih fun k hk => h k (by omega), h n (by omega)]
theorem swaps_comm (xs ys : List ByteArray) : swapsOf ys xs = swapsOf xs ys := by
  cases h : alike xs ys with
  | false => rw [swapsOf_no1 h, swapsOf_no1 ((alike_comm xs ys).trans h)]
  | true =>
    have h' : alike ys xs = true := (alike_comm xs ys).trans h
    have hd := (alike_iff.1 h).2.2.2
    cases g : metTo xs ys (daysOf xs) with
    | true =>
      have g' : metTo ys xs (daysOf ys) = true := by
        rw [← hd]; exact metTo_of fun k hk => (day_met h k (metTo_at g k hk)).back
      rw [swapsOf_yes h g, swapsOf_yes h' g', ← hd]
      rw [distTo_congr fun k hk => (day_met h k (metTo_at g k hk)).comm]
    | false =>
      have g' : metTo ys xs (daysOf ys) = false := by
        cases g' : metTo ys xs (daysOf ys) with
        | false => rfl
        | true =>
          have : metTo xs ys (daysOf xs) = true := by
            rw [hd]; exact metTo_of fun k hk => (day_met h' k (metTo_at g' k hk)).back
          rw [g] at this; cases this
      simp [swapsOf, g, g']
/-- how a swap changes the distance -/
theorem swap_alike {xs ys : List ByteArray} (h : alike xs ys = true) {d a b : Nat} (hd : d < daysOf xs) (ha : a < xs.length) (hb : b < xs.length) : alike (swapTo xs d a b) ys = true := by
  obtain ⟨h1, h2, h3, h4⟩ := alike_iff.1 h
  obtain ⟨r1, r2⟩ := swapTo_roster (d := d) (a := a) (b := b) h1 hd ha hb
  exact alike_iff.2 ⟨r1, h2, by rw [swapTo_length, h3], by rw [r2, h4]⟩
theorem distTo_swap {xs ys : List ByteArray} {d a b : Nat} (hd : ∀ s ∈ xs, d < s.size) (ha : a < xs.length) (hb : b < xs.length) (hab : a ≠ b) (n : Nat) :
    distTo (swapTo xs d a b) ys n + (if d < n then dP (colN xs d) (colN ys d) else 0) = distTo xs ys n + (if d < n then dP (swapL (colN xs d) a b) (colN ys d) else 0) := by
  induction n with
  | zero => rfl
  | succ n ih =>
    rw [distTo, distTo, swapTo_col hd ha hb hab]
    by_cases e : n = d
    · subst e
      simp only [Nat.lt_irrefl, if_false, if_true, Nat.lt_succ_self] at ih ⊢
      omega
    · rw [if_neg e]
      by_cases hlt : d < n
      · rw [if_pos hlt, if_pos hlt] at ih
        rw [if_pos (by omega), if_pos (by omega)]
        omega
      · rw [if_neg hlt, if_neg hlt] at ih
        rw [if_neg (by omega), if_neg (by omega)]
        omega
structure Swapped (xs ys : List ByteArray) (d a b : Nat) : Prop where
  al : alike (swapTo xs d a b) ys = true
  met : metTo (swapTo xs d a b) ys (daysOf (swapTo xs d a b)) = true
  near : distTo xs ys (daysOf xs) ≤ distTo (swapTo xs d a b) ys (daysOf (swapTo xs d a b)) + 1
theorem swaps_swap {xs ys : List ByteArray} (h : alike xs ys = true) (g : metTo xs ys (daysOf xs) = true) {d a b : Nat} (hd : d < daysOf xs) (ha : a < xs.length) (hb : b < a) : Swapped xs ys d a b := by
  obtain ⟨h1, h2, h3, h4⟩ := alike_iff.1 h
  have hrd := roster_days h1 hd
  obtain ⟨r1, r2⟩ := swapTo_roster (d := d) (a := a) (b := b) h1 hd ha (by omega)
  have M := day_met h d (metTo_at g d hd)
  have S := M.swap a b (by rw [colN_length]; exact ha) hb
  refine ⟨swap_alike h hd ha (by omega), ?_, ?_⟩
  · rw [r2]
    refine metTo_of fun k hk => ?_
    rw [swapTo_col hrd ha (by omega) (by omega)]
    by_cases e : k = d
    · subst e; rw [if_pos rfl]; exact S.1
    · rw [if_neg e]; exact metTo_at g k hk
  · rw [r2]
    have := distTo_swap (ys := ys) hrd ha (show b < xs.length by omega) (by omega) (daysOf xs)
    rw [if_pos hd, if_pos hd] at this
    have := S.2
    omega
theorem distTo_some {xs ys : List ByteArray} {n : Nat} (h : distTo xs ys n ≠ 0) : ∃ k, k < n ∧ dP (colN xs k) (colN ys k) ≠ 0 := by
  induction n with
  | zero => exact absurd rfl h
  | succ n ih =>
    rw [distTo] at h
    by_cases e : distTo xs ys n = 0
    · exact ⟨n, by omega, by omega⟩
    · obtain ⟨k, hk, he⟩ := ih e; exact ⟨k, by omega, he⟩
theorem swaps_near {xs ys : List ByteArray} (h : alike xs ys = true) (g : metTo xs ys (daysOf xs) = true) (hn : distTo xs ys (daysOf xs) ≠ 0) :
    ∃ d a b, d < daysOf xs ∧ a < xs.length ∧ b < a ∧ distTo (swapTo xs d a b) ys (daysOf (swapTo xs d a b)) + 1 = distTo xs ys (daysOf xs) := by
  obtain ⟨d, hd, hne⟩ := distTo_some hn
  obtain ⟨a, b, ha, hb, he⟩ := (day_met h d (metTo_at g d hd)).near hne
  rw [colN_length] at ha
  obtain ⟨h1, h2, h3, h4⟩ := alike_iff.1 h
  obtain ⟨r1, r2⟩ := swapTo_roster (d := d) (a := a) (b := b) h1 hd ha (by omega)
  refine ⟨d, a, b, hd, ha, hb, ?_⟩
  have := distTo_swap (ys := ys) (roster_days h1 hd) ha (show b < xs.length by omega) (by omega) (daysOf xs)
  rw [if_pos hd, if_pos hd] at this
  rw [r2]
  omega
theorem distTo_bd {xs ys : List ByteArray} (h : alike xs ys = true) (n : Nat) (g : metTo xs ys n = true) : distTo xs ys n ≤ 4 * n := by
  have hd : ∀ f t : List Nat, f.length ≤ 4 → difP f t ≤ f.length := by
    intro f
    induction f with
    | nil => intro t _; cases t <;> simp [difP]
    | cons x f ih =>
      intro t hl
      cases t with
      | nil => simp [difP]
      | cons y t =>
        have := ih t (by simp at hl; omega)
        simp only [difP, List.length_cons]
        cases Nat.beq x y <;> simp <;> omega
  obtain ⟨h1, -⟩ := alike_iff.1 h
  have h4 := (rosterOk_iff.1 h1).2.1
  induction n with
  | zero => exact Nat.le_refl _
  | succ n ih =>
    have g' := g
    rw [metTo_succ, Bool.and_eq_true] at g'
    have := ih g'.1
    have M := day_met h n g'.2
    have e := M.dif
    have e2 := hd (colN xs n) (colN ys n) (by rw [colN_length]; omega)
    rw [colN_length] at e2
    rw [distTo]; omega

/-- letters that differ -/
def chTo (xs ys : List ByteArray) : Nat → Int
  | 0 => 0
  | k + 1 => chTo xs ys k + differOf (xs.getD k ⟨#[]⟩) (ys.getD k ⟨#[]⟩)
def changesOf (xs ys : List ByteArray) : Int := if alike xs ys = true then chTo xs ys xs.length else -1
theorem changesOf_yes {xs ys : List ByteArray} (h : alike xs ys = true) : changesOf xs ys = chTo xs ys xs.length := by simp [changesOf, h]
theorem changesOf_no {xs ys : List ByteArray} (h : alike xs ys = false) : changesOf xs ys = -1 := by simp [changesOf, h]
theorem chTo_succ {xs ys : List ByteArray} {k : Nat} (h : k < xs.length) (h2 : k < ys.length) : chTo xs ys (k + 1) = chTo xs ys k + differOf xs[k] ys[k] := by
  simp [chTo, List.getD, h, h2]
theorem cntTo_congrW {p q : Nat → Bool} {n : Nat} (h : ∀ k, k < n → p k = q k) : cntTo p n = cntTo q n := by
  induction n with
  | zero => rfl
  | succ n ih => rw [cntTo, cntTo, ih (fun k hk => h k (by omega)), h n (by omega)]
theorem cntTo_tri {p q r : Nat → Bool} (h : ∀ k, p k = true → q k = true ∨ r k = true) (n : Nat) : cntTo p n ≤ cntTo q n + cntTo r n := by
  induction n with
  | zero => exact Int.le_refl _
  | succ n ih =>
    simp only [cntTo]
    have := h n
    cases hp : p n with
    | false => cases q n <;> cases r n <;> simp <;> omega
    | true => rcases this hp with e | e <;> rw [e] <;> simp <;> split <;> omega
theorem cntTo_none {p : Nat → Bool} {n : Nat} : cntTo p n = 0 ↔ ∀ k, k < n → p k = false := by
  induction n with
  | zero => exact ⟨fun _ k hk => absurd hk (Nat.not_lt_zero k), fun _ => rfl⟩
  | succ n ih =>
    have hb := cntTo_bd p n
    simp only [cntTo]
    constructor
    · intro h k hk
      have h2 : cntTo p n = 0 ∧ p n = false := by
        cases hp : p n with
        | false => rw [hp] at h; exact ⟨by simpa using h, rfl⟩
        | true => rw [hp] at h; simp at h; omega
      by_cases e : k = n
      · subst e; exact h2.2
      · exact ih.1 h2.1 k (by omega)
    · intro h
      rw [ih.2 (fun k hk => h k (by omega)), h n (by omega)]; rfl
theorem differ_at {s t : ByteArray} (h1 : wordOk s = true) (h2 : wordOk t = true) (h : s.size = t.size) : differOf s t = cntTo (fun d => byteAt s d != byteAt t d) s.size := by
  rw [differOf, if_pos (by simp [h1, h2, h])]; rfl
def neAt (xs ys : List ByteArray) (j d : Nat) : Bool := byteAt (xs.getD j ⟨#[]⟩) d != byteAt (ys.getD j ⟨#[]⟩) d
/-- a table's marks counted row by row, and day by day -/
def sumRowsW (f : Nat → Nat → Bool) (D : Nat) : Nat → Int
  | 0 => 0
  | n + 1 => sumRowsW f D n + cntTo (f n) D
def sumDaysW (f : Nat → Nat → Bool) (n : Nat) : Nat → Int
  | 0 => 0
  | D + 1 => sumDaysW f n D + cntTo (fun j => f j D) n
theorem sumDaysW_zero (f : Nat → Nat → Bool) (D : Nat) : sumDaysW f 0 D = 0 := by
  induction D with
  | zero => rfl
  | succ D ih => simp [sumDaysW, ih, cntTo]
theorem sumDaysW_row (f : Nat → Nat → Bool) (n D : Nat) : sumDaysW f (n + 1) D = sumDaysW f n D + cntTo (f n) D := by
  induction D with
  | zero => rfl
  | succ D ih =>
    simp only [sumDaysW, cntTo, ih]
    split <;> omega
theorem sumRowsW_days (f : Nat → Nat → Bool) (n D : Nat) : sumRowsW f D n = sumDaysW f n D := by
  induction n with
  | zero => rw [sumDaysW_zero]; rfl
  | succ n ih => rw [sumRowsW, ih, sumDaysW_row]
theorem chTo_rows {xs ys : List ByteArray} (h : alike xs ys = true) : ∀ k, k ≤ xs.length → chTo xs ys k = sumRowsW (neAt xs ys) (daysOf xs) k := by
  obtain ⟨h1, h2, h3, h4⟩ := alike_iff.1 h
  intro k
  induction k with
  | zero => intro _; rfl
  | succ k ih =>
    intro hk
    have e1 := roster_row h1 k hk
    have e2 := roster_row h2 k (by omega)
    rw [chTo_succ hk (by omega), ih (by omega), sumRowsW, differ_at e1.2 e2.2 (by omega), e1.1]
    congr 1
    refine cntTo_congrW fun d _ => ?_
    simp [neAt, List.getD, show k < xs.length by omega, show k < ys.length by omega]
theorem ch_zero {xs ys : List ByteArray} (h : alike xs ys = true) : chTo xs ys xs.length = 0 ↔ xs = ys := by
  obtain ⟨h1, h2, h3, h4⟩ := alike_iff.1 h
  have hnn : ∀ k, 0 ≤ sumRowsW (neAt xs ys) (daysOf xs) k := by
    intro k
    induction k with
    | zero => exact Int.le_refl _
    | succ k ih => have := cntTo_bd (neAt xs ys k) (daysOf xs); rw [sumRowsW]; omega
  have key : ∀ n, sumRowsW (neAt xs ys) (daysOf xs) n = 0 ↔ ∀ j, j < n → cntTo (neAt xs ys j) (daysOf xs) = 0 := by
    intro n
    induction n with
    | zero => exact ⟨fun _ k hk => absurd hk (Nat.not_lt_zero k), fun _ => rfl⟩
    | succ n ih =>
      have b1 := hnn n
      have b2 := cntTo_bd (neAt xs ys n) (daysOf xs)
      rw [sumRowsW]
      constructor
      · intro e j hj
        by_cases ej : j = n
        · subst ej; omega
        · exact ih.1 (by omega) j (by omega)
      · intro e
        rw [ih.2 fun j hj => e j (by omega), e n (by omega)]; rfl
  rw [chTo_rows h _ (Nat.le_refl _), key]
  constructor
  · intro e
    refine List.ext_getElem h3 fun k hk1 hk2 => ?_
    have e1 := roster_row h1 k hk1
    have e2 := roster_row h2 k hk2
    refine byte_ext (by omega) fun d hd => ?_
    have := cntTo_none.1 (e k hk1) d (by omega)
    simpa [neAt, List.getD, hk1, hk2] using this
  · intro e j _
    subst e
    exact cntTo_none.2 fun d _ => by simp [neAt]
theorem differ_comm {s t : ByteArray} : differOf t s = differOf s t := by
  cases h : (wordOk s && wordOk t && decide (s.size = t.size)) with
  | true =>
    simp only [Bool.and_eq_true, decide_eq_true_eq] at h
    rw [differ_at h.1.1 h.1.2 h.2, differ_at h.1.2 h.1.1 h.2.symm, h.2]
    refine cntTo_congrW fun d _ => ?_
    rw [bne_comm]
  | false =>
    have h' : (wordOk t && wordOk s && decide (t.size = s.size)) = false := by
      rw [← h, Bool.and_comm (wordOk t)]
      congr 1
      exact decide_eq_decide.2 ⟨fun e => e.symm, fun e => e.symm⟩
    simp [differOf, h, h']
theorem ch_comm (xs ys : List ByteArray) : changesOf ys xs = changesOf xs ys := by
  cases h : alike xs ys with
  | false => rw [changesOf_no h, changesOf_no ((alike_comm xs ys).trans h)]
  | true =>
    rw [changesOf_yes h, changesOf_yes ((alike_comm xs ys).trans h)]
    have hl := (alike_iff.1 h).2.2.1
    rw [← hl]
    have : ∀ k, chTo ys xs k = chTo xs ys k := by
      intro k
      induction k with
      | zero => rfl
      | succ k ih => rw [chTo, chTo, ih, differ_comm]
    exact this _
theorem ch_tri {xs ys zs : List ByteArray} (h : alike xs ys = true) (g : alike xs zs = true) : chTo xs ys xs.length ≤ chTo xs zs xs.length + chTo zs ys zs.length := by
  obtain ⟨h1, h2, h3, h4⟩ := alike_iff.1 h
  obtain ⟨g1, g2, g3, g4⟩ := alike_iff.1 g
  have gz : alike zs ys = true := alike_iff.2 ⟨g2, h2, by omega, by omega⟩
  rw [chTo_rows h _ (Nat.le_refl _), chTo_rows g _ (Nat.le_refl _), chTo_rows gz _ (Nat.le_refl _), ← g4, ← g3]
  generalize xs.length = n
  induction n with
  | zero => exact Int.le_refl _
  | succ n ih =>
    have := cntTo_tri (p := neAt xs ys n) (q := neAt xs zs n) (r := neAt zs ys n) (fun k hk => by
      simp only [neAt, bne_iff_ne] at hk ⊢
      by_cases e : byteAt (xs.getD n ⟨#[]⟩) k = byteAt (zs.getD n ⟨#[]⟩) k
      · exact .inr (by rw [← e]; exact hk)
      · exact .inl e) (daysOf xs)
    rw [sumRowsW, sumRowsW, sumRowsW]; omega
theorem cntTo_one {p : Nat → Bool} {d : Nat} (h : ∀ k, k ≠ d → p k = false) (n : Nat) : cntTo p n ≤ 1 := by
  have : cntTo p n ≤ if d < n then 1 else 0 := by
    induction n with
    | zero => exact Int.le_refl _
    | succ n ih =>
      simp only [cntTo]
      by_cases e : n = d
      · subst e
        rw [if_neg (Nat.lt_irrefl _)] at ih
        rw [if_pos (Nat.lt_succ_self _)]
        split <;> omega
      · rw [h n e]
        by_cases hlt : d < n
        · rw [if_pos hlt] at ih; rw [if_pos (show d < n + 1 by omega)]; simpa using ih
        · rw [if_neg hlt] at ih; rw [if_neg (show ¬ d < n + 1 by omega)]; simpa using ih
  split at this <;> omega
theorem ch_swap {xs : List ByteArray} {d a b : Nat} (h : rosterOk xs = true) (hd : d < daysOf xs) (ha : a < xs.length) (hb : b < xs.length) (hab : a ≠ b) : alike xs (swapTo xs d a b) = true ∧ chTo xs (swapTo xs d a b) xs.length ≤ 2 := by
  obtain ⟨r1, r2⟩ := swapTo_roster (d := d) (a := a) (b := b) h hd ha hb
  have hal : alike xs (swapTo xs d a b) = true := alike_iff.2 ⟨h, r1, (swapTo_length _ _ _ _).symm, r2.symm⟩
  refine ⟨hal, ?_⟩
  have hrd := roster_days h hd
  have hl := swapTo_length xs d a b
  have ea := hrd _ (List.getElem_mem ha)
  have eb := hrd _ (List.getElem_mem hb)
  rw [chTo_rows hal _ (Nat.le_refl _)]
  have key : ∀ n, n ≤ xs.length → sumRowsW (neAt xs (swapTo xs d a b)) (daysOf xs) n ≤ (if a < n then 1 else 0) + (if b < n then 1 else 0) := by
    intro n
    induction n with
    | zero => intro _; exact Int.le_refl _
    | succ n ih =>
      intro hn
      have := ih (by omega)
      rw [sumRowsW]
      have hrow : neAt xs (swapTo xs d a b) n = fun k => byteAt xs[n] k != byteAt (if n = b then setAt xs[b] d (byteAt xs[a] d) else if n = a then setAt xs[a] d (byteAt xs[b] d) else xs[n]) k := by
        funext k
        rw [← swapTo_get ha hb n (by omega)]
        simp [neAt, List.getD, show n < xs.length by omega, show n < (swapTo xs d a b).length by omega]
      rw [hrow]
      by_cases e1 : n = b
      · subst e1
        have h1 := cntTo_one (p := fun k => byteAt xs[n] k != byteAt (if n = n then setAt xs[n] d (byteAt xs[a] d) else if n = a then setAt xs[a] d (byteAt xs[n] d) else xs[n]) k) (d := d) (fun k hk => by
          simp only [if_pos]; rw [byteAt_setAt eb, if_neg hk]; simp) (daysOf xs)
        rw [if_neg (Nat.lt_irrefl n)] at this
        rw [if_pos (Nat.lt_succ_self n)]
        by_cases hlt : a < n
        · rw [if_pos hlt] at this; rw [if_pos (Nat.lt_succ_of_lt hlt)]; omega
        · rw [if_neg hlt] at this; rw [if_neg (show ¬ a < n + 1 by omega)]; omega
      · by_cases e2 : n = a
        · subst e2
          have h1 := cntTo_one (p := fun k => byteAt xs[n] k != byteAt (if n = b then setAt xs[b] d (byteAt xs[n] d) else if n = n then setAt xs[n] d (byteAt xs[b] d) else xs[n]) k) (d := d) (fun k hk => by
            simp only [if_neg e1, if_pos]; rw [byteAt_setAt ea, if_neg hk]; simp) (daysOf xs)
          rw [if_neg (Nat.lt_irrefl n)] at this
          rw [if_pos (Nat.lt_succ_self n)]
          by_cases hlt : b < n
          · rw [if_pos hlt] at this; rw [if_pos (Nat.lt_succ_of_lt hlt)]; omega
          · rw [if_neg hlt] at this; rw [if_neg (show ¬ b < n + 1 by omega)]; omega
        · have h1 : cntTo (fun k => byteAt xs[n] k != byteAt (if n = b then setAt xs[b] d (byteAt xs[a] d) else if n = a then setAt xs[a] d (byteAt xs[b] d) else xs[n]) k) (daysOf xs) = 0 :=
            cntTo_none.2 fun k _ => by simp [if_neg e1, if_neg e2]
          rw [h1]
          have ha' : (if a < n + 1 then (1 : Int) else 0) = if a < n then 1 else 0 := by
            by_cases hlt : a < n
            · rw [if_pos hlt, if_pos (Nat.lt_succ_of_lt hlt)]
            · rw [if_neg hlt, if_neg (show ¬ a < n + 1 by omega)]
          have hb' : (if b < n + 1 then (1 : Int) else 0) = if b < n then 1 else 0 := by
            by_cases hlt : b < n
            · rw [if_pos hlt, if_pos (Nat.lt_succ_of_lt hlt)]
            · rw [if_neg hlt, if_neg (show ¬ b < n + 1 by omega)]
          rw [ha', hb']; omega
  have := key xs.length (Nat.le_refl _)
  rw [if_pos ha, if_pos hb] at this
  exact this
theorem cntTo_dif : ∀ (n : Nat) (f t : List Nat), f.length = n → t.length = n → cntTo (fun j => f.getD j 0 != t.getD j 0) n = (difP f t : Int) := by
  have hfront : ∀ (p : Nat → Bool) (n : Nat), cntTo p (n + 1) = (if p 0 = true then 1 else 0) + cntTo (fun j => p (j + 1)) n := by
    intro p n
    induction n with
    | zero => simp [cntTo]
    | succ n ih => rw [cntTo, ih]; simp only [cntTo]; omega
  intro n
  induction n with
  | zero => intro f t hf ht; rw [List.eq_nil_of_length_eq_zero hf]; rfl
  | succ n ih =>
    intro f t hf ht
    obtain ⟨x, f, rfl⟩ : ∃ x g, f = x :: g := by cases f with | nil => simp at hf | cons x g => exact ⟨x, g, rfl⟩
    obtain ⟨y, t, rfl⟩ : ∃ x g, t = x :: g := by cases t with | nil => simp at ht | cons x g => exact ⟨x, g, rfl⟩
    rw [hfront]
    have := ih f t (by simpa using hf) (by simpa using ht)
    rw [show (fun j => (x :: f).getD (j + 1) 0 != (y :: t).getD (j + 1) 0) = fun j => f.getD j 0 != t.getD j 0 from by funext j; rfl, this]
    simp only [difP]
    by_cases e : x = y
    · subst e
      rw [(nbeq x x).2 rfl]; simp [List.getD]
    · have : Nat.beq x y = false := by
        cases h : Nat.beq x y with
        | false => rfl
        | true => exact absurd ((nbeq x y).1 h) e
      rw [this]
      simp [List.getD, e]
theorem swaps_changes {xs ys : List ByteArray} (h : alike xs ys = true) (g : metTo xs ys (daysOf xs) = true) : (distTo xs ys (daysOf xs) : Int) ≤ chTo xs ys xs.length := by
  obtain ⟨h1, h2, h3, h4⟩ := alike_iff.1 h
  rw [chTo_rows h _ (Nat.le_refl _), sumRowsW_days]
  have key : ∀ n, n ≤ daysOf xs → (distTo xs ys n : Int) ≤ sumDaysW (neAt xs ys) xs.length n := by
    intro n
    induction n with
    | zero => intro _; exact Int.le_refl _
    | succ n ih =>
      intro hn
      have := ih (by omega)
      have M := (day_met h n (metTo_at g n (by omega))).dif
      have e : cntTo (fun j => neAt xs ys j n) xs.length = (difP (colN xs n) (colN ys n) : Int) := by
        rw [← cntTo_dif xs.length _ _ (colN_length _ _) (by rw [colN_length, h3])]
        refine cntTo_congrW fun j hj => ?_
        have e1 := roster_row h1 j hj
        have e2 := roster_row h2 j (by omega)
        rw [colN_getD _ _ _ hj, colN_getD _ _ _ (show j < ys.length by omega)]
        have : neAt xs ys j n = (byteAt xs[j] n != byteAt (ys[j]'(by omega)) n) := by simp [neAt, List.getD, hj, show j < ys.length by omega]
        rw [this, Bool.eq_iff_iff, bne_iff_ne, bne_iff_ne]
        constructor
        · intro hne e; exact hne (lc_inj (isL_byteAt e1.2 n (by omega)) (isL_byteAt e2.2 n (by omega)) e)
        · intro hne e; exact hne (by rw [e])
      rw [sumDaysW, e, distTo]
      omega
  exact key _ (Nat.le_refl _)
end Go.Proofs.Ytggohgkjdnnndaa
