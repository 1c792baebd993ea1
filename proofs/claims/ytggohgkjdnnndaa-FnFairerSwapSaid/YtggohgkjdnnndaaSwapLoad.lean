/- The plain mathematics of chapter 11 (swaps): letters counted by days and rows, and loads. No program is named here. No condition. -/
import Derived.Test.YtggohgkjdnnndaaSwapRost
import Derived.Test.YtggohgkjdnnndaaLoadMath2
namespace Go.Proofs.Ytggohgkjdnnndaa

theorem countW {s t : ByteArray} (h : wordOk s = true) (g : letterOk t = true) : countOf s t = cntTo (fun j => byteAt s j == byteAt t 0) s.size := by
  rw [countOf, if_pos (by simp [h, g])]; rfl
theorem countW_bd {s t : ByteArray} (h : wordOk s = true) (g : letterOk t = true) : 0 ≤ countOf s t ∧ countOf s t ≤ s.size := by rw [countW h g]; exact cntTo_bd _ _
/-- a test that changes at one number -/
theorem cntTo_upd {p q : Nat → Bool} {d : Nat} (h : ∀ k, k ≠ d → q k = p k) (n : Nat) (hd : d < n) : cntTo q n + (if p d = true then 1 else 0) = cntTo p n + (if q d = true then 1 else 0) := by
  induction n with
  | zero => exact absurd hd (Nat.not_lt_zero d)
  | succ n ih =>
    simp only [cntTo]
    by_cases e : n = d
    · subst e
      rw [cntTo_congrW (p := q) (q := p) fun k hk => h k (by omega)]; omega
    · rw [h n e]
      have := ih (by omega)
      omega
/-- a row's count with another letter at a place -/
theorem count_setAt {s t : ByteArray} (h : wordOk s = true) (g : letterOk t = true) {d : Nat} (hd : d < s.size) {c : UInt8} (hc : isL c = true) :
    countOf (setAt s d c) t + (if (byteAt s d == byteAt t 0) = true then 1 else 0) = countOf s t + (if (c == byteAt t 0) = true then 1 else 0) := by
  rw [countW (setAt_word h d hc) g, countW h g, setAt_size]
  have := cntTo_upd (p := fun j => byteAt s j == byteAt t 0) (q := fun j => byteAt (setAt s d c) j == byteAt t 0) (d := d) (fun k hk => by simp only [byteAt_setAt hd, if_neg hk]) s.size hd
  have e : byteAt (setAt s d c) d = c := by rw [byteAt_setAt hd, if_pos rfl]
  simp only [e] at this
  exact this
theorem dayStr_at (xs : List ByteArray) (d k : Nat) (h : k < xs.length) : byteAt (dayStr xs d) k = byteAt xs[k] d := by
  show (dayBytes xs d).toArray.toList.getD k 0 = _
  simp [dayBytes, List.getD, h]
theorem swapTo_byte {xs : List ByteArray} {d a b : Nat} (hd : ∀ s ∈ xs, d < s.size) (ha : a < xs.length) (hb : b < xs.length) (k j : Nat) (hk : k < (swapTo xs d a b).length) :
    byteAt (swapTo xs d a b)[k] j = if j = d then (if k = b then byteAt xs[a] d else if k = a then byteAt xs[b] d else byteAt (xs[k]'(by rw [swapTo_length] at hk; exact hk)) d) else byteAt (xs[k]'(by rw [swapTo_length] at hk; exact hk)) j := by
  have ea := hd _ (List.getElem_mem ha)
  have eb := hd _ (List.getElem_mem hb)
  rw [swapTo_get ha hb]
  by_cases e : j = d
  · subst e
    rw [if_pos rfl]
    split
    · rw [byteAt_setAt eb, if_pos rfl]
    · split
      · rw [byteAt_setAt ea, if_pos rfl]
      · rfl
  · rw [if_neg e]
    split
    · rename_i h; subst h; rw [byteAt_setAt eb, if_neg e]
    · split
      · rename_i h; subst h; rw [byteAt_setAt ea, if_neg e]
      · rfl
/-- a swap leaves each day's letters as often -/
theorem swap_count {xs : List ByteArray} {d a b : Nat} (h : rosterOk xs = true) (hd : d < daysOf xs) (ha : a < xs.length) (hb : b < xs.length) (hab : a ≠ b) {t : ByteArray} (ht : letterOk t = true) (k : Nat) (hk : k < daysOf xs) :
    countOf (dayStr (swapTo xs d a b) k) t = countOf (dayStr xs k) t := by
  have hrd := roster_days h hd
  obtain ⟨r1, r2⟩ := swapTo_roster (d := d) (a := a) (b := b) h hd ha hb
  have hl := swapTo_length xs d a b
  rw [countW (dayStr_word r1 k (by omega)) ht, countW (dayStr_word h k hk) ht, dayStr_size, dayStr_size, hl]
  have hp : ∀ j, j < xs.length → (byteAt (dayStr (swapTo xs d a b) k) j == byteAt t 0) = (if k = d then (if j = b then byteAt (xs.getD a ⟨#[]⟩) d == byteAt t 0 else if j = a then byteAt (xs.getD b ⟨#[]⟩) d == byteAt t 0 else byteAt (xs.getD j ⟨#[]⟩) d == byteAt t 0) else byteAt (xs.getD j ⟨#[]⟩) k == byteAt t 0) := by
    intro j hj
    rw [dayStr_at _ _ _ (by omega), swapTo_byte hrd ha hb]
    have e1 : xs.getD a ⟨#[]⟩ = xs[a] := by simp [List.getD, ha]
    have e2 : xs.getD b ⟨#[]⟩ = xs[b] := by simp [List.getD, hb]
    have e3 : xs.getD j ⟨#[]⟩ = xs[j] := by simp [List.getD, hj]
    rw [e1, e2, e3]
    split
    · split
      · rfl
      · split <;> rfl
    · rfl
  have hq : ∀ j, j < xs.length → (byteAt (dayStr xs k) j == byteAt t 0) = (byteAt (xs.getD j ⟨#[]⟩) k == byteAt t 0) := by
    intro j hj
    rw [dayStr_at _ _ _ hj]
    simp [List.getD, hj]
  rw [cntTo_congrW hp, cntTo_congrW hq]
  by_cases e : k = d
  · subst e
    simp only [if_true]
    have h1 := cntTo_upd (p := fun j => byteAt (xs.getD j ⟨#[]⟩) k == byteAt t 0) (q := fun j => if j = a then byteAt (xs.getD b ⟨#[]⟩) k == byteAt t 0 else byteAt (xs.getD j ⟨#[]⟩) k == byteAt t 0) (d := a) (fun j hj => if_neg hj) xs.length ha
    have h2 := cntTo_upd (p := fun j => if j = a then byteAt (xs.getD b ⟨#[]⟩) k == byteAt t 0 else byteAt (xs.getD j ⟨#[]⟩) k == byteAt t 0) (q := fun j => if j = b then byteAt (xs.getD a ⟨#[]⟩) k == byteAt t 0 else if j = a then byteAt (xs.getD b ⟨#[]⟩) k == byteAt t 0 else byteAt (xs.getD j ⟨#[]⟩) k == byteAt t 0) (d := b) (fun j hj => if_neg hj) xs.length hb
    simp only [if_true, if_neg (fun e : b = a => hab e.symm)] at h1 h2
    omega
  · simp only [if_neg e]

/-- loads of a letter -/
def loadRow (xs : List ByteArray) (t : ByteArray) : List Int := xs.map (fun s => countOf s t)
def loadsFor (xs : List ByteArray) (t : ByteArray) : List Int := if (rosterOk xs && letterOk t) = true then loadRow xs t else []
theorem loadsFor_yes {xs : List ByteArray} {t : ByteArray} (h : rosterOk xs = true) (g : letterOk t = true) : loadsFor xs t = loadRow xs t := by simp [loadsFor, h, g]
theorem loadsFor_no1 {xs : List ByteArray} {t : ByteArray} (h : rosterOk xs = false) : loadsFor xs t = [] := by simp [loadsFor, h]
theorem loadsFor_no2 {xs : List ByteArray} {t : ByteArray} (h : letterOk t = false) : loadsFor xs t = [] := by simp [loadsFor, h]
theorem loadRow_length (xs : List ByteArray) (t : ByteArray) : (loadRow xs t).length = xs.length := by simp [loadRow]
theorem loadRow_get (xs : List ByteArray) (t : ByteArray) (k : Nat) (h : k < (loadRow xs t).length) : (loadRow xs t)[k] = countOf (xs[k]'(by rw [loadRow_length] at h; exact h)) t := by simp [loadRow]
theorem loadRow_bd {xs : List ByteArray} {t : ByteArray} (h : rosterOk xs = true) (g : letterOk t = true) : ∀ x ∈ loadRow xs t, 0 ≤ x ∧ x ≤ 12 := by
  intro x hx
  obtain ⟨s, hs, rfl⟩ := List.mem_map.1 hx
  obtain ⟨h1, h4, h12, hall⟩ := rosterOk_iff.1 h
  have := hall s hs
  have := countW_bd (s := s) this.2 g
  omega
theorem loadRow_ok {xs : List ByteArray} {t : ByteArray} (h : rosterOk xs = true) (g : letterOk t = true) : loadsOk (loadRow xs t) = true := by
  obtain ⟨h1, h4, -, -⟩ := rosterOk_iff.1 h
  rw [loadsOk_iff, loadRow_length]
  exact ⟨h1, by omega, fun x hx => by have := loadRow_bd h g x hx; omega⟩
theorem loadRow_snoc (xs : List ByteArray) (t : ByteArray) (k : Nat) (h : k < xs.length) : (loadRow xs t).take (k + 1) = (loadRow xs t).take k ++ [countOf xs[k] t] := by
  rw [List.take_succ_eq_append_getElem (by rw [loadRow_length]; exact h), loadRow_get]
/-- all letters together -/
theorem three_loads {s : ByteArray} (h : wordOk s = true) : countOf s ⟨#[114]⟩ + countOf s ⟨#[100]⟩ + countOf s ⟨#[110]⟩ = s.size := by
  rw [countW h (by decide), countW h (by decide), countW h (by decide)]
  have : ∀ n, n ≤ s.size → cntTo (fun j => byteAt s j == byteAt ⟨#[114]⟩ 0) n + cntTo (fun j => byteAt s j == byteAt ⟨#[100]⟩ 0) n + cntTo (fun j => byteAt s j == byteAt ⟨#[110]⟩ 0) n = n := by
    intro n
    induction n with
    | zero => intro _; rfl
    | succ n ih =>
      intro hn
      have := ih (by omega)
      simp only [cntTo]
      rcases isL_cases (isL_byteAt h n (by omega)) with e | e | e <;> simp only [e]
      · rw [show ((114 : UInt8) == byteAt ⟨#[114]⟩ 0) = true from by decide, show ((114 : UInt8) == byteAt ⟨#[100]⟩ 0) = false from by decide, show ((114 : UInt8) == byteAt ⟨#[110]⟩ 0) = false from by decide]
        simp only [if_true, Bool.false_eq_true, if_false]; omega
      · rw [show ((100 : UInt8) == byteAt ⟨#[114]⟩ 0) = false from by decide, show ((100 : UInt8) == byteAt ⟨#[100]⟩ 0) = true from by decide, show ((100 : UInt8) == byteAt ⟨#[110]⟩ 0) = false from by decide]
        simp only [if_true, Bool.false_eq_true, if_false]; omega
      · rw [show ((110 : UInt8) == byteAt ⟨#[114]⟩ 0) = false from by decide, show ((110 : UInt8) == byteAt ⟨#[100]⟩ 0) = false from by decide, show ((110 : UInt8) == byteAt ⟨#[110]⟩ 0) = true from by decide]
        simp only [if_true, Bool.false_eq_true, if_false]; omega
  exact this _ (Nat.le_refl _)
/-- loads after a swap -/
theorem load_swap {xs : List ByteArray} {d a b : Nat} (h : rosterOk xs = true) (hd : d < daysOf xs) (ha : a < xs.length) (hb : b < xs.length) (_hab : a ≠ b) {t : ByteArray} (ht : letterOk t = true) :
    ∃ e : Int, e = (if (byteAt xs[b] d == byteAt t 0) = true then 1 else 0) - (if (byteAt xs[a] d == byteAt t 0) = true then 1 else 0) ∧
      loadRow (swapTo xs d a b) t = ((loadRow xs t).set a ((loadRow xs t).getD a 0 + e)).set b ((loadRow xs t).getD b 0 - e) := by
  refine ⟨_, rfl, ?_⟩
  have hrd := roster_days h hd
  have ra := roster_row h a ha
  have rb := roster_row h b hb
  have ea := hrd _ (List.getElem_mem ha)
  have eb := hrd _ (List.getElem_mem hb)
  have hl := swapTo_length xs d a b
  have c1 := count_setAt ra.2 ht ea (isL_byteAt rb.2 d eb)
  have c2 := count_setAt rb.2 ht eb (isL_byteAt ra.2 d ea)
  have g1 : (loadRow xs t).getD a 0 = countOf xs[a] t := by simp [loadRow, List.getD, ha]
  have g2 : (loadRow xs t).getD b 0 = countOf xs[b] t := by simp [loadRow, List.getD, hb]
  refine List.ext_getElem (by simp [loadRow_length, hl]) fun k h1 h2 => ?_
  have hk : k < xs.length := by rw [loadRow_length, hl] at h1; exact h1
  rw [loadRow_get, swapTo_get ha hb]
  simp only [List.getElem_set, loadRow_get, g1, g2]
  by_cases e1 : b = k
  · subst e1; rw [if_pos rfl, if_pos rfl]; omega
  · rw [if_neg (fun e => e1 e.symm), if_neg e1]
    by_cases e2 : a = k
    · subst e2; rw [if_pos rfl, if_pos rfl]; omega
    · rw [if_neg (fun e => e2 e.symm), if_neg e2]
theorem tot_swap {xs : List ByteArray} {d a b : Nat} (h : rosterOk xs = true) (hd : d < daysOf xs) (ha : a < xs.length) (hb : b < xs.length) (hab : a ≠ b) {t : ByteArray} (ht : letterOk t = true) :
    tot (loadRow (swapTo xs d a b) t) = tot (loadRow xs t) := by
  obtain ⟨e, -, he⟩ := load_swap h hd ha hb hab ht
  have la : a < (loadRow xs t).length := by rw [loadRow_length]; exact ha
  have lb : b < (loadRow xs t).length := by rw [loadRow_length]; exact hb
  rw [he]
  simp only [tot]
  rw [sm_set _ _ b (by simpa using lb), sm_set _ _ a la]
  have g1 : (loadRow xs t).getD a 0 = (loadRow xs t)[a] := by simp [List.getD, la]
  have g2 : (loadRow xs t).getD b 0 = (loadRow xs t)[b] := by simp [List.getD, lb]
  simp only [List.getElem_set_ne hab, g1, g2]
  omega
theorem fair_swap {xs : List ByteArray} {d a b : Nat} (h : rosterOk xs = true) (hd : d < daysOf xs) (ha : a < xs.length) (hb : b < xs.length) (hab : a ≠ b) {t : ByteArray} (ht : letterOk t = true)
    (h1 : (byteAt xs[a] d == byteAt t 0) = true) (h2 : (byteAt xs[b] d == byteAt t 0) = false) (hg : countOf xs[b] t + 2 ≤ countOf xs[a] t) :
    fairB (loadRow (swapTo xs d a b) t) (loadRow xs t) = true ∧ fairB (loadRow xs t) (loadRow (swapTo xs d a b) t) = false := by
  obtain ⟨e, hee, he⟩ := load_swap h hd ha hb hab ht
  rw [h1, h2] at hee
  obtain ⟨r1, r2⟩ := swapTo_roster (d := d) (a := a) (b := b) h hd ha hb
  have la : a < (loadRow xs t).length := by rw [loadRow_length]; exact ha
  have lb : b < (loadRow xs t).length := by rw [loadRow_length]; exact hb
  have e1 : e = -1 := by rw [hee]; rfl
  subst e1
  have hgv : loadRow (swapTo xs d a b) t = givRow (loadRow xs t) a b := by
    rw [he, givRow]
    have : ((loadRow xs t).set a ((loadRow xs t).getD a 0 - 1)).getD b 0 = (loadRow xs t).getD b 0 := by
      simp only [List.getD]; rw [List.getElem?_set_ne hab]
    rw [this]; rfl
  have hok : givOk (loadRow xs t) a b = true := by
    rw [givOk_iff]
    refine ⟨loadRow_ok h ht, ⟨by omega, by omega⟩, ⟨by omega, by omega⟩, by omega, ?_⟩
    show loadsOk (givRow (loadRow xs t) a b) = true
    rw [← hgv]; exact loadRow_ok r1 ht
  have := giv_fair hok (by simpa using la) (by simpa using lb) (by
    simp only [Int.toNat_natCast, loadRow_get]; omega)
  rw [hgv]
  exact ⟨this.1, this.2.1⟩
end Go.Proofs.Ytggohgkjdnnndaa
