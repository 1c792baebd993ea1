/- States from which an end is come to, and the search that leaves the others out. No program, no condition. -/
import Derived.Test.YtlbblfbiiceofaaBfs
namespace Go.Proofs.Ytlbblfbiiceofaa

theorem nodup_bound : ∀ (n : Nat) (l : List Int), l.Nodup → (∀ x ∈ l, 0 ≤ x ∧ x < (n : Int)) → l.length ≤ n
  | 0, l, _, h => by
    cases l with
    | nil => exact Nat.le_refl _
    | cons x xs => have := h x List.mem_cons_self; omega
  | n + 1, l, hn, h => by
    by_cases hm : (n : Int) ∈ l
    · have h1 := nodup_bound n (l.erase (n : Int)) (hn.erase _) (fun x hx => by
        have hx' := (hn.mem_erase_iff).1 hx
        have := h x hx'.2
        have := hx'.1
        omega)
      rw [List.length_erase_of_mem hm] at h1
      omega
    · have h1 := nodup_bound n l hn (fun x hx => by
        have := h x hx
        have : x ≠ (n : Int) := fun e => hm (e ▸ hx)
        omega)
      omega

/-- the state to which numbers of letters lead from a state -/
def M.walk (m : M) (s : Int) : List Nat → Int
  | [] => s
  | l :: ls => m.walk (m.nx s (l : Int)) ls
/-- some letters lead to an end -/
def M.Live (m : M) (s : Int) : Prop := ∃ ls : List Nat, (∀ l ∈ ls, l < 3) ∧ m.endAt (m.walk s ls) = true
/-- a row of bools tells of each state whether an end is come to from it -/
def IsLive (m : M) (X : List Bool) : Prop := X.length = m.ends.length ∧ ∀ k (h : k < X.length), X[k] = true ↔ m.Live (k : Int)
theorem IsLive.unique {m : M} {X Y : List Bool} (h : IsLive m X) (g : IsLive m Y) : X = Y := by
  refine List.ext_getElem (h.1.trans g.1.symm) fun k h1 h2 => ?_
  rw [Bool.eq_iff_iff, h.2 k h1, g.2 k h2]
theorem M.walk_neg (m : M) (ls : List Nat) : m.walk (-1) ls = -1 := by
  induction ls with
  | nil => rfl
  | cons l ls ih => rw [M.walk, M.nx_neg _ _ _ (by omega), ih]
/-- what holds of ends, and of all from which it is come to, holds of all that are live -/
theorem isLive_of {m : M} (hm : m.good) {X : List Bool} (h0 : X.length = m.ends.length) (h1 : ∀ k (h : k < m.ends.length), m.ends[k] = true → X[k]'(by omega) = true)
    (h2 : ∀ (k l t : Nat) (hk : k < X.length) (ht : t < X.length), l < 3 → m.nx (k : Int) (l : Int) = (t : Int) → X[t] = true → X[k] = true) (h3 : ∀ k (h : k < X.length), X[k] = true → m.Live (k : Int)) : IsLive m X := by
  refine ⟨h0, fun k hk => ⟨h3 k hk, ?_⟩⟩
  have hs := M.good_shape hm
  rintro ⟨ls, hls, he⟩
  induction ls generalizing k with
  | nil =>
    obtain ⟨i, hi, hi2, hi3⟩ : ∃ i : Nat, (i : Int) = (k : Int) ∧ ∃ h : i < m.ends.length, m.endAt (k : Int) = m.ends[i] := by
      have hk2 : k < m.ends.length := by omega
      refine ⟨k, rfl, hk2, ?_⟩
      rw [M.endAt, if_neg (by omega), List.getD_eq_getElem?_getD, Int.toNat_natCast, List.getElem?_eq_getElem hk2]; rfl
    have : i = k := by omega
    subst this
    exact h1 i hi2 (by rw [← hi3]; exact he)
  | cons l ls ih =>
    have hl3 := hls l List.mem_cons_self
    have hb := M.gnx_bd hm (k : Int) (l : Int) (by omega) (by omega) (by omega)
    by_cases hn : m.nx (k : Int) (l : Int) = -1
    · rw [M.walk, hn, M.walk_neg] at he
      simp [M.endAt] at he
    · obtain ⟨t, ht⟩ : ∃ t : Nat, m.nx (k : Int) (l : Int) = (t : Int) := ⟨(m.nx (k : Int) (l : Int)).toNat, by omega⟩
      have htl : t < X.length := by omega
      have := ih t htl (fun x hx => hls x (List.mem_cons_of_mem _ hx)) (by rw [M.walk, ht] at he; exact he)
      exact h2 k l t hk htl hl3 ht this
theorem live_end {m : M} {k : Nat} (h : k < m.ends.length) (he : m.ends[k] = true) : m.Live (k : Int) :=
  ⟨[], by simp, by rw [M.walk, M.endAt, if_neg (by omega), List.getD_eq_getElem?_getD, Int.toNat_natCast, List.getElem?_eq_getElem h]; exact he⟩
theorem live_step {m : M} {s : Int} {l : Nat} (hl : l < 3) (h : m.Live (m.nx s (l : Int))) : m.Live s := by
  obtain ⟨ls, h1, h2⟩ := h
  exact ⟨l :: ls, by intro x hx; rcases List.mem_cons.1 hx with rfl | hx; exact hl; exact h1 x hx, h2⟩

/-- the letters that are kept -/
def trimOn (m : M) (X : List Bool) (s : Int) (l : Nat) : Option Int :=
  if 0 ≤ m.nx s (l : Int) ∧ X.getD (m.nx s (l : Int)).toNat false = true then some (m.nx s (l : Int)) else none
def inM (m : M) (x : Int) : Prop := 0 ≤ x ∧ x < m.st
theorem trimOn_in {m : M} (hm : m.good) (X : List Bool) (x : Int) (hx : inM m x) (l : Nat) (b : Int) (hl : l < 3) (h : trimOn m X x l = some b) : inM m b := by
  unfold trimOn at h
  split at h
  · rename_i hc
    cases h
    exact ⟨hc.1, (M.gnx_bd hm x (l : Int) hx.2 (by omega) (by omega)).2⟩
  · cases h
theorem inM_zero {m : M} (hm : m.good) : inM m 0 := ⟨Int.le_refl _, by have := M.good_shape hm; omega⟩
theorem trim_bound {m : M} (hm : m.good) (X : List Bool) (n : Nat) : (bfsTo (trimOn m X) 0 n).1.length ≤ m.st.toNat :=
  nodup_bound _ _ (bfsTo_nodup _ _ _) (fun x hx => by
    have h1 := bfsTo_all (inM_zero hm) (trimOn_in hm X) n x hx
    have h2 := M.good_shape hm
    exact ⟨h1.1, by have := h1.2; omega⟩)
/-- how many states are kept -/
def trimN (m : M) (X : List Bool) : Nat := (bfsTo (trimOn m X) 0 m.st.toNat).1.length
theorem trimN_is {m : M} (hm : m.good) (X : List Bool) : (bfsTo (trimOn m X) 0 (trimN m X)).1.length = trimN m X := by
  obtain ⟨n, hn, h⟩ := bfsTo_end (trim_bound hm X)
  have : trimN m X = n := by rw [trimN, bfsTo_stays h hn, h]
  rw [this]; exact h
theorem trimN_le {m : M} (hm : m.good) (X : List Bool) : trimN m X ≤ m.st.toNat := by
  have := trim_bound hm X (trimN m X)
  rw [trimN_is hm X] at this
  exact this
/-- the machine without what is left out -/
def trimM (m : M) (X : List Bool) : M := ⟨(trimN m X : Int), (bfsTo (trimOn m X) 0 (trimN m X)).2, (bfsTo (trimOn m X) 0 (trimN m X)).1.map m.endAt⟩
end Go.Proofs.Ytlbblfbiiceofaa
