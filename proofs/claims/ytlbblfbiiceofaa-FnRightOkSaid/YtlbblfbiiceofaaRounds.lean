/- Rounds over all letters find the states that are live. No program, no condition. -/
import Derived.Test.YtlbblfbiiceofaaLive
namespace Go.Proofs.Ytlbblfbiiceofaa

/-- one letter of a round -/
def lstep (m : M) (X : List Bool) (k : Nat) : List Bool := if 0 ≤ m.next.getD k (-1) ∧ X.getD (m.next.getD k (-1)).toNat false = true then X.set (k / 3) true else X
/-- the first letters of a round -/
def lpass (m : M) (X : List Bool) : Nat → List Bool
  | 0 => X
  | k + 1 => lstep m (lpass m X k) k
/-- so many rounds -/
def lrounds (m : M) : Nat → List Bool
  | 0 => m.ends
  | r + 1 => lpass m (lrounds m r) m.next.length

/-- where one is true, so is the other -/
def Le (X Y : List Bool) : Prop := X.length = Y.length ∧ ∀ i, X.getD i false = true → Y.getD i false = true
theorem Le.refl (X : List Bool) : Le X X := ⟨rfl, fun _ h => h⟩
theorem Le.trans {X Y Z : List Bool} (h : Le X Y) (g : Le Y Z) : Le X Z := ⟨h.1.trans g.1, fun i hi => g.2 i (h.2 i hi)⟩
theorem Le.count : ∀ {X Y : List Bool}, Le X Y → X.count true ≤ Y.count true ∧ (X.count true = Y.count true → X = Y)
  | [], [], _ => ⟨Nat.le_refl _, fun _ => rfl⟩
  | [], _ :: _, h => by have := h.1; simp at this
  | _ :: _, [], h => by have := h.1; simp at this
  | a :: X, b :: Y, h => by
    have ht : Le X Y := ⟨by have := h.1; simpa using this, fun i hi => by have := h.2 (i + 1); simpa using this (by simpa using hi)⟩
    obtain ⟨h1, h2⟩ := Le.count ht
    have h0 := h.2 0
    cases a <;> cases b
    · simp only [List.count_cons]; exact ⟨by simpa using h1, fun e => by rw [h2 (by simpa using e)]⟩
    · simp only [List.count_cons]; refine ⟨by simp; omega, fun e => ?_⟩
      simp at e; omega
    · simp at h0
    · simp only [List.count_cons]; exact ⟨by simpa using h1, fun e => by rw [h2 (by simpa using e)]⟩
theorem Le.eq {X Y : List Bool} (h : Le X Y) (g : Le Y X) : X = Y := by
  have := h.count.1
  have := g.count.1
  exact h.count.2 (by omega)
theorem lstep_le (m : M) (X : List Bool) (k : Nat) : Le X (lstep m X k) := by
  unfold lstep; split
  · refine ⟨by simp, fun i hi => ?_⟩
    by_cases e : k / 3 = i
    · subst e
      have hl : k / 3 < X.length := by
        by_cases hl : k / 3 < X.length
        · exact hl
        · rw [List.getD_eq_getElem?_getD, List.getElem?_eq_none (by omega)] at hi; cases hi
      rw [List.getD_eq_getElem?_getD, List.getElem?_set_self hl]; rfl
    · rw [List.getD_eq_getElem?_getD, List.getElem?_set_ne e, ← List.getD_eq_getElem?_getD]; exact hi
  · exact Le.refl _
theorem lpass_le (m : M) (X : List Bool) (k : Nat) : Le X (lpass m X k) := by
  induction k with
  | zero => exact Le.refl _
  | succ k ih => exact ih.trans (lstep_le _ _ _)
theorem lpass_mono (m : M) (X : List Bool) {k j : Nat} (h : k ≤ j) : Le (lpass m X k) (lpass m X j) := by
  induction j with
  | zero => obtain rfl : k = 0 := by omega
            exact Le.refl _
  | succ j ih =>
    by_cases e : k = j + 1
    · subst e; exact Le.refl _
    · exact (ih (by omega)).trans (lstep_le _ _ _)
theorem lrounds_le (m : M) (r : Nat) : Le (lrounds m r) (lrounds m (r + 1)) := lpass_le _ _ _
theorem lrounds_len (m : M) (r : Nat) : (lrounds m r).length = m.ends.length := by
  induction r with
  | zero => rfl
  | succ r ih => rw [← ih]; exact (lrounds_le m r).1.symm
/-- after as many rounds as states nothing changes any more -/
theorem lrounds_fix (m : M) : lrounds m (m.ends.length + 1) = lrounds m m.ends.length := by
  have h : ∀ r, (∃ j, j < r ∧ lrounds m (j + 1) = lrounds m j) ∨ r ≤ (lrounds m r).count true := by
    intro r
    induction r with
    | zero => exact .inr (Nat.zero_le _)
    | succ r ih =>
      rcases ih with ⟨j, hj, e⟩ | h
      · exact .inl ⟨j, by omega, e⟩
      · have hc := (lrounds_le m r).count
        by_cases e : (lrounds m r).count true = (lrounds m (r + 1)).count true
        · exact .inl ⟨r, by omega, (hc.2 e).symm⟩
        · have := hc.1; exact .inr (by omega)
  have hstay : ∀ j, lrounds m (j + 1) = lrounds m j → ∀ k, j ≤ k → lrounds m (k + 1) = lrounds m k := by
    intro j e k hk
    induction k with
    | zero => obtain rfl : j = 0 := by omega
              exact e
    | succ k ih =>
      by_cases e2 : j = k + 1
      · subst e2; exact e
      · have := ih (by omega)
        exact congrArg (fun Y => lpass m Y m.next.length) this
  rcases h (m.ends.length + 1) with ⟨j, hj, e⟩ | h
  · exact hstay j e _ (by omega)
  · have := List.count_le_length (a := true) (l := lrounds m (m.ends.length + 1))
    rw [lrounds_len] at this
    omega
theorem M.nx_next {m : M} (k l : Nat) : m.nx (k : Int) (l : Int) = m.next.getD (3 * k + l) (-1) := by
  rw [M.nx, if_neg (by omega)]
  congr 1
theorem lrounds_live {m : M} (hm : m.good) : IsLive m (lrounds m m.ends.length) := by
  have hs := M.good_shape hm
  have hlen := lrounds_len m m.ends.length
  refine isLive_of hm hlen ?_ ?_ ?_
  · intro k hk he
    have h1 : ∀ r, (lrounds m r).getD k false = true := by
      intro r
      induction r with
      | zero => show m.ends.getD k false = true; rw [List.getD_eq_getElem?_getD, List.getElem?_eq_getElem hk]; exact he
      | succ r ih => exact (lrounds_le m r).2 k ih
    have := h1 m.ends.length
    rw [List.getD_eq_getElem?_getD, List.getElem?_eq_getElem (by omega)] at this
    exact this
  · intro k l t hk ht hl hn hX
    have hkl : 3 * k + l < m.next.length := by omega
    have hfix : lpass m (lrounds m m.ends.length) m.next.length = lrounds m m.ends.length := lrounds_fix m
    generalize lrounds m m.ends.length = X at *
    have e1 : lpass m X (3 * k + l) = X := ((lpass_mono m X (k := 3 * k + l) (j := m.next.length) (by omega)).trans (by rw [hfix]; exact Le.refl _)).eq (lpass_le _ _ _)
    have e2 : lpass m X (3 * k + l + 1) = X := ((lpass_mono m X (k := 3 * k + l + 1) (j := m.next.length) (by omega)).trans (by rw [hfix]; exact Le.refl _)).eq (lpass_le _ _ _)
    rw [lpass, e1, lstep, if_pos ⟨by rw [← M.nx_next k l, hn]; omega, by rw [← M.nx_next k l, hn, Int.toNat_natCast, List.getD_eq_getElem?_getD, List.getElem?_eq_getElem ht]; exact hX⟩] at e2
    have hd : (3 * k + l) / 3 = k := by omega
    rw [hd] at e2
    have := congrArg (fun Y => Y.getD k false) e2
    simp only [List.getD_eq_getElem?_getD, List.getElem?_set_self hk, List.getElem?_eq_getElem hk] at this
    exact this.symm
  · have sound : ∀ (Y : List Bool), Y.length = m.ends.length → (∀ k (h : k < Y.length), Y[k] = true → m.Live (k : Int)) → ∀ j, j ≤ m.next.length → ∀ k (h : k < (lpass m Y j).length), (lpass m Y j)[k] = true → m.Live (k : Int) := by
      intro Y hYl hY j
      induction j with
      | zero => intro _; exact hY
      | succ j ih =>
        intro hj
        have ih' := ih (by omega)
        have hl := (lpass_le m Y j).1
        show ∀ k (h : k < (lstep m (lpass m Y j) j).length), (lstep m (lpass m Y j) j)[k] = true → m.Live (k : Int)
        generalize lpass m Y j = Z at *
        unfold lstep
        split
        · rename_i hc
          intro k hk he
          rw [List.length_set] at hk
          rw [List.getElem_set] at he
          split at he
          · rename_i e
            subst e
            have hb : m.next.getD j (-1) = m.nx ((j / 3 : Nat) : Int) ((j % 3 : Nat) : Int) := by
              rw [M.nx_next]
              congr 1
              omega
            have h3 := hc.2
            have hbb := M.gnx_bd hm ((j / 3 : Nat) : Int) ((j % 3 : Nat) : Int) (by omega) (by omega) (by omega)
            rw [hb] at hc h3
            have htl : (m.nx ((j / 3 : Nat) : Int) ((j % 3 : Nat) : Int)).toNat < Z.length := by omega
            rw [List.getD_eq_getElem?_getD, List.getElem?_eq_getElem htl] at h3
            have := ih' _ htl h3
            rw [Int.toNat_of_nonneg hc.1] at this
            exact live_step (Nat.mod_lt _ (by omega)) this
          · exact ih' k hk he
        · exact ih'
    have all : ∀ r, ∀ k (h : k < (lrounds m r).length), (lrounds m r)[k] = true → m.Live (k : Int) := by
      intro r
      induction r with
      | zero => intro k hk he; exact live_end hk he
      | succ r ih => exact sound _ (lrounds_len m r) ih _ (Nat.le_refl _)
    exact all _
end Go.Proofs.Ytlbblfbiiceofaa
